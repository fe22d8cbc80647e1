/-
  Contracts of four bytes: the reference's PutFour, TakeFour; the program's TakeFour, four, PutFour.
-/
import Derived.Test.YtkdjjdkcogolmaaGreatDoorPutText
namespace Go.Proofs.YtkdjjdkcogolmaaGreatDoor
set_option maxRecDepth 100000
open Go.RowKit Go.Shelf

attribute [local go_sem] Oper.semAt_some

set_option maxRecDepth 100000 in
set_option maxHeartbeats 400000 in
theorem refPutFour_c {w : World} {B n c : Nat} {A : Option Addr} {l : List UInt8} (h : Rd w B A n c (bv l)) (hn : n ≤ 70368744177664) (x : Int) (hx0 : 0 ≤ x) (hx : x ≤ 4294967295) :
    Calls Tryz.prog 32 #[.slice A n c, .int .u32 x] w (RetB w (l ++ fourL x.toNat)) := by
  obtain ⟨x, rfl⟩ := Int.eq_ofNat_of_zero_le hx0
  rw [Int.toNat_natCast]
  have HN := Lib.hid hn
  have HX := Lib.hid hx
  clear hn hx hx0
  go_enter Tryz.func32, Tryz.ntmps32
  go_wp2_with (at_builtin; refine wpList_app rfl (.tmp 7) (.tmp 8) _ rfl Tryz.underlying24 info_u8 rfl rfl Fr.nil rfl h (bv_one _) (by have := HN.out; omega) (by have := HN.out; omega) (Nat.le_refl _) ?_; intro A' c' w' hap)
  have hr0 : FourRel w l x (.slice A' n c') (.int .u32 (x : Int)) (.int .i64 0) w' A' n c' x 0 [] :=
    ⟨rfl, rfl, rfl, by simpa using hap.fr, hap.below, rfl, HX.out, by omega, by have := HN.out; omega⟩
  clear hap h
  go_loopw [5, 1, 6] (fun out xv iv wr => ∃ A n c y k p, FourRel w l x out xv iv wr A n c y k p) (fun _ _ iv _ => (4 - intOf iv).toNat)
  case atStart => exact ⟨_, _, _, _, _, _, hr0⟩
  case round =>
    clear hr0
    obtain ⟨A2, n2, c2, y, k, p, hr⟩ := hrel
    obtain rfl := hr.o
    obtain rfl := hr.v
    obtain rfl := hr.i
    have hle := hr.le
    have HS := Lib.hid hr.sm
    have hk4 := hr.kle
    have hbs := hr.below.size
    by_cases hlt : k < 4
    · have hone : ∀ (k : Int), ∀ u ∈ [Value.int IntKind.u8 k], u.oneCell' = true := fun k u hu => by simp at hu; subst hu; rfl
      go_wp2_with (at_builtin; refine wpList_app rfl (.tmp 14) (.tmp 18) _ rfl Tryz.underlying24 info_u8 rfl rfl (hr.fr.alloc _) rfl (Rd.lit wr 5 [_] rfl (by decide) (Nat.lt_succ_self _)) (hone _) (by have := HS.out; omega) (by have := HS.out; omega) (by simp; omega) ?_; intro A' c' w' hap)
      have hst := hr.step hlt (by rw [← u8_byte _ (by omega)]; simp) hap
      go_roundw
      case rel => exact ⟨_, _, _, _, _, _, hst⟩
      case measure => simp [intOf]; omega
    · obtain rfl : k = 4 := by omega
      have hfr := hr.fr
      have heq := hr.eq
      simp [leL] at heq
      subst heq
      have hfin : RetB w (l ++ fourL x) (.returned (.slice A2 n2 c2)) wr := ⟨_, _, _, rfl, hfr, hr.below⟩
      go_wp2
      go_ret
      exact hfin
set_option maxRecDepth 100000 in
set_option maxHeartbeats 400000 in
theorem refTakeFour_c {w : World} {B n c : Nat} {A : Option Addr} {l : List UInt8} (h : Rd w B A n c (bv l)) (hn : n ≤ 70368744177664) (h4 : 4 ≤ l.length) :
    Calls Tryz.prog 37 #[.slice A n c] w (RetNB w .u32 (leV (l.take 4)) (l.drop 4) true) := by
  have hl : l.length = n := by simpa using h.len
  obtain ⟨x0, x1, x2, x3, r, rfl⟩ := four_form h4
  obtain ⟨b, off, rfl, c0, c1, c2, c3⟩ := h.four
  have hd : decide ((n : Int) < 4) = false := by simp; omega
  have hrest := rest_c h hn (k := 4) (by omega)
  have HR := Lib.hid hrest
  have h4n : 4 ≤ n := by omega
  have b0 : x0.toNat < 256 := x0.toNat_lt
  have b1 : x1.toNat < 256 := x1.toNat_lt
  have b2 : x2.toNat < 256 := x2.toNat_lt
  have b3 : x3.toNat < 256 := x3.toNat_lt
  clear hrest hl h hn h4
  go_enter Tryz.func37, Tryz.ntmps37
  go_wp2
  refine wp_loop_rounds 5 ?_
  rw [rounds_succ]; go_wp2
  rw [rounds_succ]; go_wp2
  rw [rounds_succ]; go_wp2
  rw [rounds_succ]; go_wp2
  rw [rounds_succ]; go_wp2_with fail
  refine HR.out.mono ?_
  rintro e w' ⟨A', n', c', rfl, hf, hb⟩
  go_wp2
  go_ret3
  refine ⟨A', n', c', ?_, hf, hb⟩
  exact tup3 (by simp [leV]; omega)

set_option maxRecDepth 100000 in
set_option maxHeartbeats 400000 in
theorem refTakeFour_no {w : World} {B n c : Nat} {A : Option Addr} {l : List UInt8} (h : Rd w B A n c (bv l)) (h4 : l.length < 4) :
    Calls Tryz.prog 37 #[.slice A n c] w (RetNB w .u32 0 [] false) := by
  have hl : l.length = n := by simpa using h.len
  have h4n : n < 4 := by omega
  have hd : decide ((n : Int) < 4) = true := by simp; omega
  clear hl h h4
  go_enter Tryz.func37, Tryz.ntmps37
  go_wp2
  go_ret3
  exact ⟨none, 0, 0, rfl, Fr.nil, Below.refl _ _⟩

set_option maxRecDepth 100000 in
set_option maxHeartbeats 1000000 in
theorem takeFour_no {w : World} {B n c : Nat} {A : Option Addr} {l : List UInt8} (h : Rd w B A n c (bv l)) (h4 : l.length < 4) :
    Calls Tryz.prog 108 #[.slice A n c] w (RetNB w .u32 0 [] false) := by
  have hl : l.length = n := by simpa using h.len
  have h4n : n < 4 := by omega
  have hd : decide ((n : Int) < 4) = true := by simp; omega
  clear hl h h4
  go_enter Tryz.func108, Tryz.ntmps108
  go_wp2
  go_ret3
  exact ⟨none, 0, 0, rfl, Fr.nil, Below.refl _ _⟩

set_option maxRecDepth 100000 in
set_option maxHeartbeats 1000000 in
theorem takeFour_c {w : World} {B n c : Nat} {A : Option Addr} {l : List UInt8} (h : Rd w B A n c (bv l)) (hBw : B ≤ w.heap.size) (hn : n ≤ 70368744177664) (h4 : 4 ≤ l.length) :
    Calls Tryz.prog 108 #[.slice A n c] w (RetNB w .u32 (leV (l.take 4)) (l.drop 4) true) := by
  have hl : l.length = n := by simpa using h.len
  have hcap := h.cap
  obtain ⟨A1, hsl, hr⟩ := h.slice_lo 24 5 (P := Tryz.prog) Tryz.underlying24 info_u8 .i64 (k := 4) (by omega)
  have hsf := fun W => run_slice_hi_gen (P := Tryz.prog) (n := n) (A := A) 24 5 Tryz.underlying24 info_u8 .i64 (k := 4) (c := c) (by omega) W
  rw [bv_drop] at hr
  rw [show ((4 : Nat) : Int) = 4 from rfl] at hsl hsf
  have hcl := clone_c hr hBw (by omega)
  obtain ⟨x0, x1, x2, x3, r, rfl⟩ := four_form h4
  obtain ⟨b, off, rfl, c0, c1, c2, c3⟩ := h.four
  have hd : decide ((n : Int) < 4) = false := by simp; omega
  have HC := Lib.hid hcl
  have h4n : 4 ≤ n := by omega
  have b0 : x0.toNat < 256 := x0.toNat_lt
  have b1 : x1.toNat < 256 := x1.toNat_lt
  have b2 : x2.toNat < 256 := x2.toNat_lt
  have b3 : x3.toNat < 256 := x3.toNat_lt
  clear hl h hn h4 hr hcl
  go_enter Tryz.func108, Tryz.ntmps108
  go_wp2_with fail
  refine wp_loop_rounds 5 ?_
  rw [rounds_succ]; go_wp2_with fail
  rw [rounds_succ]; go_wp2_with fail
  rw [rounds_succ]; go_wp2_with fail
  rw [rounds_succ]; go_wp2_with fail
  rw [rounds_succ]; go_wp2_with fail
  refine HC.out.mono ?_
  rintro e w1 ⟨A2, n2, c2, rfl, hf, hb⟩
  go_wp2_with fail
  go_ret3
  exact ⟨A2, n2, c2, tup3 (four_or x0 x1 x2 x3), hf, hb⟩
structure FourAt (x : Nat) (k : Nat) (pre : List UInt8) : Prop where
  eq : pre ++ leL (4 - k) (x / 256 ^ k) = fourL x
  le : k ≤ 4

theorem FourAt.next {x k : Nat} {pre : List UInt8} (h : FourAt x k pre) (hk : k < 4) : FourAt x (k + 1) (pre ++ [byteOf (x / 256 ^ k % 256)]) ∧ pre.length < (fourL x).length := by
  have hE := h.eq
  rw [show 4 - k = (4 - (k + 1)) + 1 by omega] at hE
  simp only [leL] at hE
  refine ⟨⟨?_, by omega⟩, by rw [← hE]; simp⟩
  rw [← hE, Nat.pow_succ, ← Nat.div_div_eq_div_mul]
  simp

theorem shift8 (x k : Nat) : (x : Int) / 2 ^ (8 * k) % 256 = (((byteOf (x / 256 ^ k % 256)).toNat : Nat) : Int) := by
  rw [byteOf_toNat (by omega)]
  have e2 : ((2 : Int) ^ (8 * k)) = ((256 ^ k : Nat) : Int) := by
    rw [show (256 : Nat) ^ k = 2 ^ (8 * k) by rw [Nat.pow_mul]]; simp
  rw [e2]
  simp

set_option maxRecDepth 100000 in
set_option maxHeartbeats 1000000 in
theorem four1_in (F : Fence) (fuel : Nat) (hf : F.fn 121) (hro : F.round = none) (hfu : 1 ≤ fuel) (lp Bn n₀ : Nat) (hBn0 : Bn < n₀) (x : Nat) (hx : (x : Int) ≤ 4294967295) (J Jx : List UInt8 → World → Prop)
    (hY : ∀ pre b W, J pre W → pre.length < (fourL x).length → YieldAt F (fuel - 1) Tryz.prog lp #[.int .u8 ((b : UInt8).toNat : Int)] W fun e W' =>
      (e = .returned (.bool true) ∧ J (pre ++ [b]) W' ∧ Below n₀ W W') ∨ (e = .returned (.bool false) ∧ Jx (pre ++ [b]) W'))
    (W : World) (hBn : W.cell? ⟨Bn, 0, none⟩ = some (.int .u32 (x : Int))) (h0 : J [] W) :
    CallsIn F fuel Tryz.prog 121 #[.func (.yield lp) #[] #[], .pointer (some ⟨Bn, 0, none⟩)] W fun e W' => (∃ v, e = .returned v) ∧
      ((∃ ys, ys = fourL x ∧ J ys W') ∨ (∃ pre, True ∧ Jx pre W')) := by
  refine callsIn_of_wp Tryz.func121 rfl hf ?_ hro
  simp only [Tryz.ntmps121, List.size_toArray, List.length_cons, List.length_nil, Nat.reduceAdd, Nat.reduceSub, Array.replicate_succ, Array.replicate_zero, List.push_toArray, List.append_toArray, List.nil_append, List.cons_append]
  have hs0 : FourAt x 0 [] := ⟨by simp [fourL], by omega⟩
  have HX := Lib.hid hx
  have HY := Lib.hid hY
  clear hx hY
  gi_wp2
  gi_loopw [4] (fun r wr => ∃ (pre : List UInt8) (k : Nat), r = .int .i64 (k : Int) ∧ FourAt x k pre ∧ J pre wr ∧ wr.cell? ⟨Bn, 0, none⟩ = some (.int .u32 (x : Int))) (fun r _ => (4 - intOf r).toNat)
  case atStart => exact ⟨[], 0, rfl, hs0, h0, hBn⟩
  case round =>
    clear hs0 h0 hBn
    obtain ⟨pre, k, rfl, hs, hJs, hc⟩ := hrel
    have hk4 := hs.le
    by_cases hlt : k < 4
    · obtain ⟨hnx, hpl⟩ := hs.next hlt
      obtain ⟨fn, tmps, assign, body, hy, hR⟩ := HY.out pre (byteOf (x / 256 ^ k % 256)) wr hJs hpl
      rw [← shift8 x k] at hy
      gi_wp2
      refine hR.mono ?_
      rintro e W3 (⟨rfl, hJ3, hk3⟩ | ⟨rfl, hJx3⟩)
      · have hc3 : W3.cell? ⟨Bn, 0, none⟩ = some (.int .u32 (x : Int)) := (hk3.cell (p := ⟨Bn, 0, none⟩) hBn0).trans hc
        gi_wp2
        go_roundw
        case rel => exact ⟨_, _, by simp, hnx, hJ3, hc3⟩
        case measure => simp [intOf]; omega
      · gi_wp2
        refine bodyPost_ret (results_none rfl _ _ _) rfl ?_
        exact ⟨⟨_, rfl⟩, .inr ⟨_, trivial, hJx3⟩⟩
    · obtain rfl : k = 4 := by omega
      have heq := hs.eq
      simp [leL] at heq
      subst heq
      have HJ := Lib.hid hJs
      clear hJs hs
      gi_wp2
      go_end0
      exact ⟨⟨_, rfl⟩, .inl ⟨_, rfl, HJ.out⟩⟩

theorem four_stops (F : Fence) (fuel : Nat) (hf : F.fn 121) (hro : F.round = none) (hfu : 1 ≤ fuel) (Bn n₀ : Nat) (hBn0 : Bn < n₀) (x : Nat) (hx : (x : Int) ≤ 4294967295) (w : World) (hBn : Bn < w.heap.size)
    (hc : w.cell? ⟨Bn, 0, none⟩ = some (.int .u32 (x : Int))) :
    SeqStopsK F fuel Tryz.prog 121 #[.pointer (some ⟨Bn, 0, none⟩)] (fun b : UInt8 => #[Value.int .u8 (b.toNat : Int)]) (Below n₀) (fun zs => zs = fourL x) (fun _ => True) (fourL x).length w := fun l J Jx W hW _ _ hY h0 =>
  four1_in F fuel hf hro hfu l Bn n₀ hBn0 x hx J Jx hY W ((hW.cell (p := ⟨Bn, 0, none⟩) hBn).trans hc) h0

set_option maxRecDepth 100000 in
set_option maxHeartbeats 1000000 in
theorem four_c {w : World} (x : Int) :
    Calls Tryz.prog 102 #[.int .u32 x] w fun e w' => e = .returned (.func (.func 121) #[] #[.pointer (some ⟨w.heap.size, 0, none⟩)]) ∧ w.alloc (.cells #[.int .u32 x] 60) = w' := by
  go_enter Tryz.func102, Tryz.ntmps102
  go_wp2
  go_ret
  exact ⟨rfl, rfl⟩

set_option maxRecDepth 100000 in
set_option maxHeartbeats 1000000 in
theorem putFour_c {w : World} {B n c : Nat} {A : Option Addr} {l : List UInt8} (h : Rd w B A n c (bv l)) (hB : B ≤ w.heap.size) (hn : n ≤ 70368744177664) (x : Int) (hx0 : 0 ≤ x) (hx : x ≤ 4294967295) :
    Calls Tryz.prog 78 #[.slice A n c, .int .u32 x] w (RetB w (l ++ fourL x.toNat)) := by
  obtain ⟨x, rfl⟩ := Int.eq_ofNat_of_zero_le hx0
  rw [Int.toNat_natCast]
  have hj : Calls Tryz.prog 75 #[.slice A n c, .func (.func 121) #[] #[.pointer (some ⟨w.heap.size, 0, none⟩)], .int .i64 0] (w.alloc (.cells #[.int .u32 (x : Int)] 60)) (RetB (w.alloc (.cells #[.int .u32 (x : Int)] 60)) (l ++ fourL x)) := by
    refine (callsIn_wide (n := 4)).1 ?_
    refine join_in Fence.wide 4 trivial 121 trivial rfl (by omega) (h.alloc hB _) (by simp; omega) hn 0 (by omega) _ _ (by simp [fourL, leL]) (enters_of Tryz.func121 (by kernel_rfl) rfl) fun w0 hb0 => ?_
    refine four_stops Fence.wide 3 trivial rfl (by omega) w.heap.size _ (by simp) x hx w0 (by have := hb0.size; simp at this; omega) ?_
    exact (hb0.cell (p := ⟨w.heap.size, 0, none⟩) (by simp)).trans (Boxed.new w 60 _).cell
  have HJ := Lib.hid hj
  clear hj h hn hx hx0
  go_enter Tryz.func78, Tryz.ntmps78
  go_wp2_with fail
  refine (four_c _).mono ?_
  rintro e w1 ⟨rfl, rfl⟩
  go_wp2_with fail
  refine HJ.out.mono ?_
  rintro e w2 ⟨A2, n2, c2, rfl, hf, hb⟩
  go_wp2_with fail
  go_ret
  exact ⟨A2, n2, c2, rfl, hf.mono (by simp), (Below.refl _ _).alloc (Nat.le_refl _) _ |>.trans (hb.mono (by simp))⟩

end Go.Proofs.YtkdjjdkcogolmaaGreatDoor
