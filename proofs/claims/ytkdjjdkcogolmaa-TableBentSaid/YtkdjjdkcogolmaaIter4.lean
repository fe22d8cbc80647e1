/-
  Contracts of four bytes: the reference's PutFour, TakeFour; the program's TakeFour, four, PutFour.
-/
import Derived.Test.YtkdjjdkcogolmaaPutText
namespace Go.Proofs.Ytkdjjdkcogolmaa
set_option maxRecDepth 100000
open Go.RowKit Go.Shelf

attribute [local go_sem] Oper.semAt_some

set_option maxRecDepth 100000 in
set_option maxHeartbeats 1000000 in
theorem takeFour_no {w : World} {B n c : Nat} {A : Option Addr} {l : List UInt8} (h : Rd w B A n c (bv l)) (h4 : l.length < 4) :
    Calls Try.prog 60 #[.slice A n c] w (RetNB w .u32 0 [] false) := by
  have hl : l.length = n := by simpa using h.len
  have h4n : n < 4 := by omega
  have hd : decide ((n : Int) < 4) = true := by simp; omega
  clear hl h h4
  go_enter Try.func60, Try.ntmps60
  go_wp2
  go_ret3
  exact ⟨none, 0, 0, rfl, Fr.nil, Below.refl _ _⟩

set_option maxRecDepth 100000 in
set_option maxHeartbeats 1000000 in
theorem takeFour_c {w : World} {B n c : Nat} {A : Option Addr} {l : List UInt8} (h : Rd w B A n c (bv l)) (hBw : B ≤ w.heap.size) (hn : n ≤ 70368744177664) (h4 : 4 ≤ l.length) :
    Calls Try.prog 60 #[.slice A n c] w (RetNB w .u32 (leV (l.take 4)) (l.drop 4) true) := by
  have hl : l.length = n := by simpa using h.len
  have hcap := h.cap
  obtain ⟨A1, hsl, hr⟩ := h.slice_lo 23 5 (P := Try.prog) Try.underlying23 info_u8 .i64 (k := 4) (by omega)
  have hsf := fun W => run_slice_hi_gen (P := Try.prog) (n := n) (A := A) 23 5 Try.underlying23 info_u8 .i64 (k := 4) (c := c) (by omega) W
  rw [bv_drop] at hr
  rw [show ((4 : Nat) : Int) = 4 from rfl] at hsl hsf
  have hcl := clone_c hr hBw (by omega)
  obtain ⟨x0, x1, x2, x3, r, rfl⟩ := four_form h4
  obtain ⟨b, off, rfl, c0, c1, c2, c3⟩ := h.four
  have hd : decide ((n : Int) < 4) = false := by simp; omega
  have HC := Lib.hid hcl
  have h4n : 4 ≤ n := by omega
  have b0 : x0.toNat < 256 := x0.toNat_lt
  have b1 : x1.toNat < 256 := x1.toNat_lt
  have b2 : x2.toNat < 256 := x2.toNat_lt
  have b3 : x3.toNat < 256 := x3.toNat_lt
  clear hl h hn h4 hr hcl
  go_enter Try.func60, Try.ntmps60
  go_wp2_with fail
  refine wp_loop_rounds 5 ?_
  rw [rounds_succ]; go_wp2_with fail
  rw [rounds_succ]; go_wp2_with fail
  rw [rounds_succ]; go_wp2_with fail
  rw [rounds_succ]; go_wp2_with fail
  rw [rounds_succ]; go_wp2_with fail
  refine HC.out.mono ?_
  rintro e w1 ⟨A2, n2, c2, rfl, hf, hb⟩
  go_wp2_with fail
  go_ret3
  exact ⟨A2, n2, c2, tup3 (four_or x0 x1 x2 x3), hf, hb⟩
structure FourAt (x : Nat) (k : Nat) (pre : List UInt8) : Prop where
  eq : pre ++ leL (4 - k) (x / 256 ^ k) = fourL x
  le : k ≤ 4

theorem FourAt.next {x k : Nat} {pre : List UInt8} (h : FourAt x k pre) (hk : k < 4) : FourAt x (k + 1) (pre ++ [byteOf (x / 256 ^ k % 256)]) ∧ pre.length < (fourL x).length := by
  have hE := h.eq
  rw [show 4 - k = (4 - (k + 1)) + 1 by omega] at hE
  simp only [leL] at hE
  refine ⟨⟨?_, by omega⟩, by rw [← hE]; simp⟩
  rw [← hE, Nat.pow_succ, ← Nat.div_div_eq_div_mul]
  simp

theorem shift8 (x k : Nat) : (x : Int) / 2 ^ (8 * k) % 256 = (((byteOf (x / 256 ^ k % 256)).toNat : Nat) : Int) := by
  rw [byteOf_toNat (by omega)]
  have e2 : ((2 : Int) ^ (8 * k)) = ((256 ^ k : Nat) : Int) := by
    rw [show (256 : Nat) ^ k = 2 ^ (8 * k) by rw [Nat.pow_mul]]; simp
  rw [e2]
  simp

set_option maxRecDepth 100000 in
set_option maxHeartbeats 1000000 in
theorem four1_in (F : Fence) (fuel : Nat) (hf : F.fn 69) (hro : F.round = none) (hfu : 1 ≤ fuel) (lp Bn n₀ : Nat) (hBn0 : Bn < n₀) (x : Nat) (hx : (x : Int) ≤ 4294967295) (J Jx : List UInt8 → World → Prop)
    (hY : ∀ pre b W, J pre W → pre.length < (fourL x).length → YieldAt F (fuel - 1) Try.prog lp #[.int .u8 ((b : UInt8).toNat : Int)] W fun e W' =>
      (e = .returned (.bool true) ∧ J (pre ++ [b]) W' ∧ Below n₀ W W') ∨ (e = .returned (.bool false) ∧ Jx (pre ++ [b]) W'))
    (W : World) (hBn : W.cell? ⟨Bn, 0, none⟩ = some (.int .u32 (x : Int))) (h0 : J [] W) :
    CallsIn F fuel Try.prog 69 #[.func (.yield lp) #[] #[], .pointer (some ⟨Bn, 0, none⟩)] W fun e W' => (∃ v, e = .returned v) ∧
      ((∃ ys, ys = fourL x ∧ J ys W') ∨ (∃ pre, True ∧ Jx pre W')) := by
  refine callsIn_of_wp Try.func69 rfl hf ?_ hro
  simp only [Try.ntmps69, List.size_toArray, List.length_cons, List.length_nil, Nat.reduceAdd, Nat.reduceSub, Array.replicate_succ, Array.replicate_zero, List.push_toArray, List.append_toArray, List.nil_append, List.cons_append]
  have hs0 : FourAt x 0 [] := ⟨by simp [fourL], by omega⟩
  have HX := Lib.hid hx
  have HY := Lib.hid hY
  clear hx hY
  gi_wp2
  gi_loopw [4] (fun r wr => ∃ (pre : List UInt8) (k : Nat), r = .int .i64 (k : Int) ∧ FourAt x k pre ∧ J pre wr ∧ wr.cell? ⟨Bn, 0, none⟩ = some (.int .u32 (x : Int))) (fun r _ => (4 - intOf r).toNat)
  case atStart => exact ⟨[], 0, rfl, hs0, h0, hBn⟩
  case round =>
    clear hs0 h0 hBn
    obtain ⟨pre, k, rfl, hs, hJs, hc⟩ := hrel
    have hk4 := hs.le
    by_cases hlt : k < 4
    · obtain ⟨hnx, hpl⟩ := hs.next hlt
      obtain ⟨fn, tmps, assign, body, hy, hR⟩ := HY.out pre (byteOf (x / 256 ^ k % 256)) wr hJs hpl
      rw [← shift8 x k] at hy
      gi_wp2
      refine hR.mono ?_
      rintro e W3 (⟨rfl, hJ3, hk3⟩ | ⟨rfl, hJx3⟩)
      · have hc3 : W3.cell? ⟨Bn, 0, none⟩ = some (.int .u32 (x : Int)) := (hk3.cell (p := ⟨Bn, 0, none⟩) hBn0).trans hc
        gi_wp2
        go_roundw
        case rel => exact ⟨_, _, by simp, hnx, hJ3, hc3⟩
        case measure => simp [intOf]; omega
      · gi_wp2
        refine bodyPost_ret (results_none rfl _ _ _) rfl ?_
        exact ⟨⟨_, rfl⟩, .inr ⟨_, trivial, hJx3⟩⟩
    · obtain rfl : k = 4 := by omega
      have heq := hs.eq
      simp [leL] at heq
      subst heq
      have HJ := Lib.hid hJs
      clear hJs hs
      gi_wp2
      go_end0
      exact ⟨⟨_, rfl⟩, .inl ⟨_, rfl, HJ.out⟩⟩

theorem four_stops (F : Fence) (fuel : Nat) (hf : F.fn 69) (hro : F.round = none) (hfu : 1 ≤ fuel) (Bn n₀ : Nat) (hBn0 : Bn < n₀) (x : Nat) (hx : (x : Int) ≤ 4294967295) (w : World) (hBn : Bn < w.heap.size)
    (hc : w.cell? ⟨Bn, 0, none⟩ = some (.int .u32 (x : Int))) :
    SeqStopsK F fuel Try.prog 69 #[.pointer (some ⟨Bn, 0, none⟩)] (fun b : UInt8 => #[Value.int .u8 (b.toNat : Int)]) (Below n₀) (fun zs => zs = fourL x) (fun _ => True) (fourL x).length w := fun l J Jx W hW _ _ hY h0 =>
  four1_in F fuel hf hro hfu l Bn n₀ hBn0 x hx J Jx hY W ((hW.cell (p := ⟨Bn, 0, none⟩) hBn).trans hc) h0

set_option maxRecDepth 100000 in
set_option maxHeartbeats 1000000 in
theorem four_c {w : World} (x : Int) :
    Calls Try.prog 58 #[.int .u32 x] w fun e w' => e = .returned (.func (.func 69) #[] #[.pointer (some ⟨w.heap.size, 0, none⟩)]) ∧ w.alloc (.cells #[.int .u32 x] 38) = w' := by
  go_enter Try.func58, Try.ntmps58
  go_wp2
  go_ret
  exact ⟨rfl, rfl⟩

set_option maxRecDepth 100000 in
set_option maxHeartbeats 1000000 in
theorem putFour_c {w : World} {B n c : Nat} {A : Option Addr} {l : List UInt8} (h : Rd w B A n c (bv l)) (hB : B ≤ w.heap.size) (hn : n ≤ 70368744177664) (x : Int) (hx0 : 0 ≤ x) (hx : x ≤ 4294967295) :
    Calls Try.prog 43 #[.slice A n c, .int .u32 x] w (RetB w (l ++ fourL x.toNat)) := by
  obtain ⟨x, rfl⟩ := Int.eq_ofNat_of_zero_le hx0
  rw [Int.toNat_natCast]
  have hj : Calls Try.prog 40 #[.slice A n c, .func (.func 69) #[] #[.pointer (some ⟨w.heap.size, 0, none⟩)], .int .i64 0] (w.alloc (.cells #[.int .u32 (x : Int)] 38)) (RetB (w.alloc (.cells #[.int .u32 (x : Int)] 38)) (l ++ fourL x)) := by
    refine (callsIn_wide (n := 4)).1 ?_
    refine join_in Fence.wide 4 trivial 69 trivial rfl (by omega) (h.alloc hB _) (by simp; omega) hn 0 (by omega) _ _ (by simp [fourL, leL]) (enters_of Try.func69 (by kernel_rfl) rfl) fun w0 hb0 => ?_
    refine four_stops Fence.wide 3 trivial rfl (by omega) w.heap.size _ (by simp) x hx w0 (by have := hb0.size; simp at this; omega) ?_
    exact (hb0.cell (p := ⟨w.heap.size, 0, none⟩) (by simp)).trans (Boxed.new w 38 _).cell
  have HJ := Lib.hid hj
  clear hj h hn hx hx0
  go_enter Try.func43, Try.ntmps43
  go_wp2_with fail
  refine (four_c _).mono ?_
  rintro e w1 ⟨rfl, rfl⟩
  go_wp2_with fail
  refine HJ.out.mono ?_
  rintro e w2 ⟨A2, n2, c2, rfl, hf, hb⟩
  go_wp2_with fail
  go_ret
  exact ⟨A2, n2, c2, rfl, hf.mono (by simp), (Below.refl _ _).alloc (Nat.le_refl _) _ |>.trans (hb.mono (by simp))⟩

end Go.Proofs.Ytkdjjdkcogolmaa
