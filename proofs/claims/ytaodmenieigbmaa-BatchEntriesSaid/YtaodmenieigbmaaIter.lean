/-
  Contracts: the program's short, four and what they yield.
-/
import Derived.Test.YtaodmenieigbmaaJoin
namespace Go.Proofs.Ytaodmenieigbmaa
open Go.RowKit Go.Shelf

attribute [local go_sem] Oper.semAt_some

structure ShortAt (x : Nat) (pre : List UInt8) (y f : Nat) : Prop where
  eq : pre ++ shortF f y = shortL x
  lt : y < 128 ^ (f + 1)
  le : (y : Int) ≤ 18446744073709551615

theorem ShortAt.next {x : Nat} {pre : List UInt8} {y f : Nat} (h : ShortAt x pre y f) (h8 : 128 ≤ y) : ShortAt x (pre ++ [byteOf (y % 128 + 128)]) (y / 128) (f - 1) ∧ pre.length < (shortL x).length := by
  obtain ⟨g, rfl⟩ : ∃ g, f = g + 1 := by
    cases f with
    | zero => have := h.lt; simp at this; omega
    | succ g => exact ⟨g, rfl⟩
  have hE := h.eq
  simp only [shortF] at hE
  rw [if_neg (by omega)] at hE
  refine ⟨⟨by rw [← hE]; simp, ?_, by have := h.le; omega⟩, by rw [← hE]; simp⟩
  have := h.lt
  rw [Nat.add_sub_cancel, Nat.div_lt_iff_lt_mul (by omega)]; rw [Nat.pow_succ] at this; exact this

set_option maxRecDepth 100000 in
set_option maxHeartbeats 1000000 in
theorem short1_in (F : Fence) (fuel : Nat) (hf : F.fn 48) (hro : F.round = none) (hfu : 1 ≤ fuel) (lp Bn n₀ : Nat) (x : Nat) (hx : (x : Int) ≤ 18446744073709551615) (J Jx : List UInt8 → World → Prop)
    (hY : ∀ pre b W, J pre W → pre.length < (shortL x).length → YieldAt F (fuel - 1) Try.prog lp #[.int .u8 ((b : UInt8).toNat : Int)] W fun e W' =>
      (e = .returned (.bool true) ∧ J (pre ++ [b]) W' ∧ Below n₀ W W') ∨ (e = .returned (.bool false) ∧ Jx (pre ++ [b]) W'))
    (W : World) (hBn : W.cell? ⟨Bn, 0, none⟩ = some (.int .u64 (x : Int))) (h0 : J [] W) :
    CallsIn F fuel Try.prog 48 #[.func (.yield lp) #[] #[], .pointer (some ⟨Bn, 0, none⟩)] W fun e W' => (∃ v, e = .returned v) ∧
      ((∃ ys, ys = shortL x ∧ J ys W') ∨ (∃ pre, True ∧ Jx pre W')) := by
  refine callsIn_of_wp Try.func48 rfl hf ?_ hro
  simp only [Try.ntmps48, List.size_toArray, List.length_cons, List.length_nil, Nat.reduceAdd, Nat.reduceSub, Array.replicate_succ, Array.replicate_zero, List.push_toArray, List.append_toArray, List.nil_append, List.cons_append]
  have hs0 : ShortAt x [] x 9 := ⟨rfl, by omega, hx⟩
  have HX := Lib.hid hx
  have HY := Lib.hid hY
  clear hx hY
  gi_wp2
  gi_loopw [3] (fun r wr => ∃ (pre : List UInt8) (y f : Nat), r = .int .u64 (y : Int) ∧ ShortAt x pre y f ∧ J pre wr) (fun r _ => (intOf r).toNat)
  case atStart => exact ⟨[], x, 9, rfl, hs0, h0⟩
  case round =>
    clear hs0 h0 hBn
    obtain ⟨pre, y, f, rfl, hs, hJs⟩ := hrel
    have hle := hs.le
    by_cases h8 : y < 128
    · have hsf : shortF f y = [byteOf y] := by
        cases f with
        | zero => simp only [shortF]; rw [Nat.mod_eq_of_lt h8]
        | succ g => simp only [shortF]; rw [if_pos h8]
      have heq := hs.eq
      rw [hsf] at heq
      obtain ⟨fn, tmps, assign, body, hy, hR⟩ := HY.out pre (byteOf y) wr hJs (by rw [← heq]; simp)
      rw [byteOf_toNat (by omega), heq] at *
      have HE := Lib.hid heq
      have hd : decide ((y : Int) < 128) = true := by simp; omega
      clear heq hsf
      gi_wp2
      refine hR.mono ?_
      rintro e W3 (⟨rfl, hJ3, hk3⟩ | ⟨rfl, hJx3⟩)
      · gi_wp2
        refine bodyPost_ret (results_none rfl _ _ _) rfl ?_
        exact ⟨⟨_, rfl⟩, .inl ⟨_, rfl, hJ3⟩⟩
      · gi_wp2
        refine bodyPost_ret (results_none rfl _ _ _) rfl ?_
        exact ⟨⟨_, rfl⟩, .inr ⟨_, trivial, hJx3⟩⟩
    · obtain ⟨hnx, hpl⟩ := hs.next (by omega)
      obtain ⟨fn, tmps, assign, body, hy, hR⟩ := HY.out pre (byteOf (y % 128 + 128)) wr hJs hpl
      have ecast : ((y % 128 + 128 : Nat) : Int) = (y : Int) % 128 + 128 := by simp
      rw [byteOf_toNat (by omega), ecast] at hy
      have hd : decide ((y : Int) < 128) = false := by simp; omega
      clear ecast
      gi_wp2
      refine hR.mono ?_
      rintro e W3 (⟨rfl, hJ3, hk3⟩ | ⟨rfl, hJx3⟩)
      · gi_wp2
        go_roundw
        case rel => exact ⟨_, _, _, by simp, hnx, hJ3⟩
        case measure => simp [intOf]; omega
      · gi_wp2
        refine bodyPost_ret (results_none rfl _ _ _) rfl ?_
        exact ⟨⟨_, rfl⟩, .inr ⟨_, trivial, hJx3⟩⟩

theorem short_stops (F : Fence) (fuel : Nat) (hf : F.fn 48) (hro : F.round = none) (hfu : 1 ≤ fuel) (Bn n₀ : Nat) (x : Nat) (hx : (x : Int) ≤ 18446744073709551615) (w : World) (hBn : Bn < w.heap.size)
    (hc : w.cell? ⟨Bn, 0, none⟩ = some (.int .u64 (x : Int))) :
    SeqStopsK F fuel Try.prog 48 #[.pointer (some ⟨Bn, 0, none⟩)] (fun b : UInt8 => #[Value.int .u8 (b.toNat : Int)]) (Below n₀) (fun zs => zs = shortL x) (fun _ => True) (shortL x).length w := fun l J Jx W hW _ _ hY h0 =>
  short1_in F fuel hf hro hfu l Bn n₀ x hx J Jx hY W ((hW.cell (p := ⟨Bn, 0, none⟩) hBn).trans hc) h0

set_option maxRecDepth 100000 in
set_option maxHeartbeats 1000000 in
theorem short_c {w : World} (x : Int) :
    Calls Try.prog 40 #[.int .u64 x] w fun e w' => e = .returned (.func (.func 48) #[] #[.pointer (some ⟨w.heap.size, 0, none⟩)]) ∧ w.alloc (.cells #[.int .u64 x] 24) = w' := by
  go_enter Try.func40, Try.ntmps40
  go_wp2
  go_ret
  exact ⟨rfl, rfl⟩

set_option maxRecDepth 100000 in
set_option maxHeartbeats 1000000 in
theorem put_c {w : World} {B n c : Nat} {A : Option Addr} {l : List UInt8} (h : Rd w B A n c (bv l)) (hB : B ≤ w.heap.size) (hn : n ≤ 70368744177664) (x : Int) (hx0 : 0 ≤ x) (hx : x ≤ 18446744073709551615) :
    Calls Try.prog 27 #[.slice A n c, .int .u64 x] w (RetB w (l ++ shortL x.toNat)) := by
  obtain ⟨x, rfl⟩ := Int.eq_ofNat_of_zero_le hx0
  rw [Int.toNat_natCast]
  have hj : Calls Try.prog 39 #[.slice A n c, .func (.func 48) #[] #[.pointer (some ⟨w.heap.size, 0, none⟩)], .int .i64 0] (w.alloc (.cells #[.int .u64 (x : Int)] 24)) (RetB (w.alloc (.cells #[.int .u64 (x : Int)] 24)) (l ++ shortL x)) := by
    refine (callsIn_wide (n := 4)).1 ?_
    refine join_in Fence.wide 4 trivial 48 trivial rfl (by omega) (h.alloc hB _) (by simp; omega) hn 0 (by omega) _ _ (shortL_len x) (enters_of Try.func48 (by kernel_rfl) rfl) fun w0 hb0 => ?_
    refine short_stops Fence.wide 3 trivial rfl (by omega) w.heap.size _ x hx w0 (by have := hb0.size; simp at this; omega) ?_
    exact (hb0.cell (p := ⟨w.heap.size, 0, none⟩) (by simp)).trans (Boxed.new w 24 _).cell
  have HJ := Lib.hid hj
  clear hj h hn hx hx0
  go_enter Try.func27, Try.ntmps27
  go_wp2_with fail
  refine (short_c _).mono ?_
  rintro e w1 ⟨rfl, rfl⟩
  go_wp2_with fail
  refine HJ.out.mono ?_
  rintro e w2 ⟨A2, n2, c2, rfl, hf, hb⟩
  go_wp2_with fail
  go_ret
  exact ⟨A2, n2, c2, rfl, hf.mono (by simp), (Below.refl _ _).alloc (Nat.le_refl _) _ |>.trans (hb.mono (by simp))⟩
end Go.Proofs.Ytaodmenieigbmaa
