/-
  The order of internal keys as mathematics: it is one, of all three parts.
-/
import Derived.Test.YtkdjjdkcogolmaaIk3
namespace Go.Proofs.Ytkdjjdkcogolmaa
set_option maxRecDepth 100000
open Go.RowKit Go.Shelf

theorem trans_cmp : ∀ a b c : List UInt8, Lib.compareBytes a b ≤ 0 → Lib.compareBytes b c ≤ 0 → Lib.compareBytes a c ≤ 0
  | [], _, [] => by simp [Lib.compareBytes]
  | [], _, _ :: _ => by simp [Lib.compareBytes]
  | _ :: _, [], _ => by simp [Lib.compareBytes]
  | _ :: _, _ :: _, [] => by simp [Lib.compareBytes]
  | x :: a, y :: b, z :: c => by
    have ih := trans_cmp a b c
    simp only [Lib.compareBytes]
    simp only [UInt8.lt_iff_toNat_lt]
    intro h1 h2
    split at h1
    · split at h2
      · rw [if_pos (by omega)]; omega
      · split at h2
        · omega
        · rw [if_pos (by omega)]; omega
    · split at h1
      · omega
      · split at h2
        · rw [if_pos (by omega)]; omega
        · split at h2
          · omega
          · rw [if_neg (by omega), if_neg (by omega)]; exact ih h1 h2
theorem cmpS_trans {a b c : ByteArray} (h1 : cmpS a b ≤ 0) (h2 : cmpS b c ≤ 0) : cmpS a c ≤ 0 := trans_cmp _ _ _ h1 h2
theorem cmpI_lt (x y : Nat) : cmpI x y < 0 ↔ x < y := by unfold cmpI; split <;> (try split) <;> omega
theorem cmpI_eq (x y : Nat) : cmpI x y = 0 ↔ x = y := by unfold cmpI; split <;> (try split) <;> omega
theorem cmpI_gt (x y : Nat) : 0 < cmpI x y ↔ y < x := by unfold cmpI; split <;> (try split) <;> omega
theorem cmpI_three (x y : Nat) : cmpI x y = -1 ∨ cmpI x y = 0 ∨ cmpI x y = 1 := by unfold cmpI; split <;> (try split) <;> omega
theorem cmpI_swap (x y : Nat) : cmpI y x = - cmpI x y := by unfold cmpI; split <;> (try split) <;> (try split) <;> omega
section
variable (s : ByteArray) (q k : Nat) (t : ByteArray) (q' k' : Nat)
theorem cmpV_three : cmpV s q k t q' k' = -1 ∨ cmpV s q k t q' k' = 0 ∨ cmpV s q k t q' k' = 1 := by
  unfold cmpV
  have := cmpS_three s t; have := cmpI_three q' q; have := cmpI_three k' k
  split
  · assumption
  · split <;> assumption
theorem cmpV_swap : cmpV t q' k' s q k = - cmpV s q k t q' k' := by
  unfold cmpV
  rw [cmpS_swap s t, cmpI_swap q' q, cmpI_swap k' k]
  by_cases h : cmpS s t = 0
  · by_cases h2 : cmpI q' q = 0
    · simp [h, h2]
    · simp [h, h2]
  · simp [h]
theorem cmpV_zero : cmpV s q k t q' k' = 0 ↔ s = t ∧ q = q' ∧ k = k' := by
  unfold cmpV
  rw [← cmpS_eq]
  by_cases h : cmpS s t = 0
  · by_cases h2 : cmpI q' q = 0
    · have := (cmpI_eq _ _).1 h2
      simp [h, h2, cmpI_eq]; omega
    · have : q' ≠ q := fun e => h2 ((cmpI_eq _ _).2 e)
      simp [h, h2]; omega
  · simp [h]
theorem cmpV_le : cmpV s q k t q' k' ≤ 0 ↔ cmpS s t < 0 ∨ (cmpS s t = 0 ∧ (q' < q ∨ (q' = q ∧ k' ≤ k))) := by
  unfold cmpV
  by_cases h : cmpS s t = 0
  · by_cases h2 : cmpI q' q = 0
    · have h3 := (cmpI_eq _ _).1 h2
      have := cmpI_gt k' k
      simp [h, h2]; omega
    · have : q' ≠ q := fun e => h2 ((cmpI_eq _ _).2 e)
      have := cmpI_lt q' q
      simp [h, h2]; omega
  · simp [h]; omega
theorem cmpV_less (h : cmpS s t = -1) : cmpV s q k t q' k' = -1 := by unfold cmpV; simp [h]
end
theorem cmpV_trans {s t u : ByteArray} {q k q' k' q'' k'' : Nat} (h1 : cmpV s q k t q' k' ≤ 0) (h2 : cmpV t q' k' u q'' k'' ≤ 0) : cmpV s q k u q'' k'' ≤ 0 := by
  rw [cmpV_le] at h1 h2 ⊢
  have a1 : cmpS s t ≤ 0 := by omega
  have a2 : cmpS t u ≤ 0 := by omega
  have a3 := cmpS_trans a1 a2
  by_cases h : cmpS s u = 0
  · have e1 := (cmpS_eq _ _).1 h
    subst e1
    have := cmpS_swap s t
    omega
  · exact .inl (by omega)
end Go.Proofs.Ytkdjjdkcogolmaa
