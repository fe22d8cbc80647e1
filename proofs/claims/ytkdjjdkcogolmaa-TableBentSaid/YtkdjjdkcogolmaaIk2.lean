/-
  The order of internal keys: the contracts of Compare, the program's and the reference's.
-/
import Derived.Test.YtkdjjdkcogolmaaIk1
namespace Go.Proofs.Ytkdjjdkcogolmaa
set_option maxRecDepth 100000
open Go.RowKit Go.Shelf

def cmpI (x y : Nat) : Int := if x < y then -1 else if y < x then 1 else 0
def cmpS (s t : ByteArray) : Int := Lib.compareBytes s.data.toList t.data.toList
/-- The order. -/
def cmpV (s : ByteArray) (q k : Nat) (s' : ByteArray) (q' k' : Nat) : Int :=
  if cmpS s s' ≠ 0 then cmpS s s' else if cmpI q' q ≠ 0 then cmpI q' q else cmpI k' k

theorem less_cmp : ∀ a b : List UInt8, Op.bytesLess a b = decide (Lib.compareBytes a b = -1)
  | [], [] => by simp [Op.bytesLess, Lib.compareBytes]
  | [], _ :: _ => by simp [Op.bytesLess, Lib.compareBytes]
  | _ :: _, [] => by simp [Op.bytesLess, Lib.compareBytes]
  | x :: a, y :: b => by
    have ih := less_cmp a b
    simp only [Op.bytesLess, Lib.compareBytes]
    by_cases h1 : x < y
    · simp [h1]
    · by_cases h2 : y < x
      · have : x ≠ y := fun e => by subst e; exact absurd h2 (by simp)
        simp [h1, h2, this]
      · have : x = y := UInt8.le_antisymm (UInt8.not_lt.1 h2) (UInt8.not_lt.1 h1)
        subst this
        simp [ih]
theorem eq_cmp : ∀ a b : List UInt8, (Lib.compareBytes a b = 0) ↔ a = b
  | [], [] => by simp [Lib.compareBytes]
  | [], _ :: _ => by simp [Lib.compareBytes]
  | _ :: _, [] => by simp [Lib.compareBytes]
  | x :: a, y :: b => by
    have ih := eq_cmp a b
    simp only [Lib.compareBytes]
    by_cases h1 : x < y
    · have : x ≠ y := fun e => by subst e; exact absurd h1 (by simp)
      simp [h1, this]
    · by_cases h2 : y < x
      · have : x ≠ y := fun e => by subst e; exact absurd h2 (by simp)
        simp [h1, h2, this]
      · have : x = y := UInt8.le_antisymm (UInt8.not_lt.1 h2) (UInt8.not_lt.1 h1)
        subst this
        simp [ih]
theorem swap_cmp : ∀ a b : List UInt8, Lib.compareBytes b a = - Lib.compareBytes a b
  | [], [] => by simp [Lib.compareBytes]
  | [], _ :: _ => by simp [Lib.compareBytes]
  | _ :: _, [] => by simp [Lib.compareBytes]
  | x :: a, y :: b => by
    have ih := swap_cmp a b
    simp only [Lib.compareBytes]
    by_cases h1 : x < y
    · have h2 : ¬ y < x := fun h => absurd (UInt8.lt_trans h h1) (by simp)
      simp [h1, h2]
    · by_cases h2 : y < x
      · simp [h1, h2]
      · simp [h1, h2, ih]
theorem three_cmp : ∀ a b : List UInt8, Lib.compareBytes a b = -1 ∨ Lib.compareBytes a b = 0 ∨ Lib.compareBytes a b = 1
  | [], [] => by simp [Lib.compareBytes]
  | [], _ :: _ => by simp [Lib.compareBytes]
  | _ :: _, [] => by simp [Lib.compareBytes]
  | x :: a, y :: b => by
    have ih := three_cmp a b
    simp only [Lib.compareBytes]
    by_cases h1 : x < y
    · simp [h1]
    · by_cases h2 : y < x
      · simp [h1, h2]
      · simp [h1, h2, ih]

theorem cmpS_three (s t : ByteArray) : cmpS s t = -1 ∨ cmpS s t = 0 ∨ cmpS s t = 1 := three_cmp _ _
theorem cmpS_swap (s t : ByteArray) : cmpS t s = - cmpS s t := swap_cmp _ _
theorem cmpS_eq (s t : ByteArray) : cmpS s t = 0 ↔ s = t := by
  unfold cmpS
  rw [eq_cmp, Array.toList_inj]
  exact ⟨fun h => by cases s; cases t; simp_all, fun h => by rw [h]⟩
theorem less_str (s t : ByteArray) : Op.bytesLess s.toList t.toList = decide (cmpS s t = -1) := by
  rw [Lib.toList_data, Lib.toList_data, less_cmp]; rfl
theorem beq_str (s t : ByteArray) : (s.toList == t.toList) = decide (cmpS s t = 0) := by
  rw [Lib.toList_data, Lib.toList_data, Bool.eq_iff_iff]; simp [cmpS, eq_cmp]

set_option maxRecDepth 100000 in
set_option maxHeartbeats 1000000 in
theorem compareString_c (w : World) (a b : ByteArray) : Calls Try.prog 64 #[.string a, .string b] w (RetVl w (.int .i64 (cmpS a b))) := by
  go_enter Try.func64, Try.ntmps64
  go_wp2
  rw [run_callFunc_extern Try.func72 (by kernel_rfl) (by kernel_rfl) (by kernel_rfl) (e := Extern.BytealgCompare.compare) (by kernel_rfl), Lib.run_compareString]
  simp only [Result.andThen]
  rw [Oper.upon_value]
  go_wp2
  go_ret
  exact RetVl.of rfl (Below.refl _ _)

set_option maxRecDepth 100000 in
set_option maxHeartbeats 1000000 in
theorem strCompare_c (w : World) (a b : ByteArray) : Calls Try.prog 49 #[.string a, .string b] w (RetVl w (.int .i64 (cmpS a b))) := by
  go_enter Try.func49, Try.ntmps49
  go_wp2_with fail
  refine (compareString_c _ _ _).mono ?_
  rintro e w1 ⟨rfl, hb⟩
  go_wp2
  go_ret
  exact RetVl.of rfl hb

set_option maxRecDepth 100000 in
set_option maxHeartbeats 1000000 in
theorem isNaN64_c (w : World) (x : Nat) : Calls Try.prog 65 #[.int .u64 (x : Int)] w (RetVl w (.bool false)) := by
  go_enter Try.func65, Try.ntmps65
  go_wp2
  go_ret
  exact RetVl.of rfl (Below.refl _ _)
set_option maxRecDepth 100000 in
set_option maxHeartbeats 1000000 in
theorem isNaN8_c (w : World) (x : Nat) : Calls Try.prog 66 #[.int .u8 (x : Int)] w (RetVl w (.bool false)) := by
  go_enter Try.func66, Try.ntmps66
  go_wp2
  go_ret
  exact RetVl.of rfl (Below.refl _ _)

set_option maxRecDepth 100000 in
set_option maxHeartbeats 1000000 in
theorem cmp64_c (w : World) (x y : Nat) : Calls Try.prog 50 #[.int .u64 (x : Int), .int .u64 (y : Int)] w (RetVl w (.int .i64 (cmpI x y))) := by
  go_enter Try.func50, Try.ntmps50
  go_wp2_with fail
  refine (isNaN64_c _ _).mono ?_
  rintro e w1 ⟨rfl, hb⟩
  go_wp2_with fail
  refine (isNaN64_c _ _).mono ?_
  rintro e w2 ⟨rfl, hb2⟩
  have hb3 := hb.trans (hb2.mono hb.size)
  clear hb hb2
  go_wp2
  all_goals go_ret
  all_goals refine RetVl.of ?_ hb3
  all_goals unfold cmpI
  all_goals first | rfl | (rw [if_pos (by omega)]; rfl) | (rw [if_neg (by omega), if_pos (by omega)]; rfl) | (rw [if_neg (by omega), if_neg (by omega)]; rfl)

set_option maxRecDepth 100000 in
set_option maxHeartbeats 1000000 in
theorem cmp8_c (w : World) (x y : Nat) : Calls Try.prog 51 #[.int .u8 (x : Int), .int .u8 (y : Int)] w (RetVl w (.int .i64 (cmpI x y))) := by
  go_enter Try.func51, Try.ntmps51
  go_wp2_with fail
  refine (isNaN8_c _ _).mono ?_
  rintro e w1 ⟨rfl, hb⟩
  go_wp2_with fail
  refine (isNaN8_c _ _).mono ?_
  rintro e w2 ⟨rfl, hb2⟩
  have hb3 := hb.trans (hb2.mono hb.size)
  clear hb hb2
  go_wp2
  all_goals go_ret
  all_goals refine RetVl.of ?_ hb3
  all_goals unfold cmpI
  all_goals first | rfl | (rw [if_pos (by omega)]; rfl) | (rw [if_neg (by omega), if_pos (by omega)]; rfl) | (rw [if_neg (by omega), if_neg (by omega)]; rfl)

theorem box_two {w : World} {o o' : Obj} {w1 : World} (hb : Below ((w.alloc o).alloc o').heap.size ((w.alloc o).alloc o') w1) : Below w.heap.size w w1 :=
  ((below_alloc w o).alloc (by simp) o').trans (hb.mono (by simp; omega))

set_option maxRecDepth 100000 in
set_option maxHeartbeats 1000000 in
theorem byKey_c (w : World) (s s' : ByteArray) (q k q' k' : Nat) : Calls Try.prog 33 #[ik s q k, ik s' q' k'] w (RetVl w (.int .i64 (cmpS s s'))) := by
  unfold ik
  go_enter Try.func33, Try.ntmps33
  go_wp2_with fail
  refine (strCompare_c _ _ _).mono ?_
  rintro e w1 ⟨rfl, hb⟩
  have hb2 := box_two hb
  clear hb
  go_wp2
  go_ret
  exact RetVl.of rfl hb2
set_option maxRecDepth 100000 in
set_option maxHeartbeats 1000000 in
theorem bySeq_c (w : World) (s s' : ByteArray) (q k q' k' : Nat) : Calls Try.prog 34 #[ik s q k, ik s' q' k'] w (RetVl w (.int .i64 (cmpI q' q))) := by
  unfold ik
  go_enter Try.func34, Try.ntmps34
  go_wp2_with fail
  refine (cmp64_c _ _ _).mono ?_
  rintro e w1 ⟨rfl, hb⟩
  have hb2 := box_two hb
  clear hb
  go_wp2
  go_ret
  exact RetVl.of rfl hb2
set_option maxRecDepth 100000 in
set_option maxHeartbeats 1000000 in
theorem byKind_c (w : World) (s s' : ByteArray) (q k q' k' : Nat) : Calls Try.prog 35 #[ik s q k, ik s' q' k'] w (RetVl w (.int .i64 (cmpI k' k))) := by
  unfold ik
  go_enter Try.func35, Try.ntmps35
  go_wp2_with fail
  refine (cmp8_c _ _ _).mono ?_
  rintro e w1 ⟨rfl, hb⟩
  have hb2 := box_two hb
  clear hb
  go_wp2
  go_ret
  exact RetVl.of rfl hb2
end Go.Proofs.Ytkdjjdkcogolmaa
