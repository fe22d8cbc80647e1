/-
  Plain mathematics of short forms, more: lengths; no form begins with another one; cut short it says nothing.
-/
import Derived.Test.YtaodmenieigbmaaShort2
namespace Go.Proofs.Ytaodmenieigbmaa

theorem shortF_mono : ∀ (f x y : Nat), x ≤ y → (shortF f x).length ≤ (shortF f y).length := by
  intro f
  induction f with
  | zero => intro x y _; simp [shortF]
  | succ f ih =>
    intro x y h
    simp only [shortF]
    by_cases h1 : x < 128
    · rw [if_pos h1]
      split
      · simp
      · simp
    · rw [if_neg h1, if_neg (by omega)]
      have := ih (x / 128) (y / 128) (Nat.div_le_div_right h)
      simpa using this
theorem shortL_mono {x y : Nat} (h : x ≤ y) : (shortL x).length ≤ (shortL y).length := shortF_mono 9 x y h

theorem shortL_apart {x y : Nat} (hx : x < 2 ^ 64) (hy : y < 2 ^ 64) (h : x ≠ y) : (shortL y).take (shortL x).length ≠ shortL x := by
  intro e
  have h1 : takeN (shortL y) = some (x, (shortL x).length) := (takeN_iff _ _ _).2 ⟨hx, rfl, by rw [← e]; exact List.take_prefix _ _⟩
  have h2 : takeN (shortL y) = some (y, (shortL y).length) := (takeN_iff _ _ _).2 ⟨hy, rfl, List.prefix_refl _⟩
  rw [h1] at h2
  simp at h2
  exact h h2.1

theorem shortL_cut {x i : Nat} (hx : x < 2 ^ 64) (hi : i < (shortL x).length) : takeN ((shortL x).take i) = none := by
  refine takeN_none_of_all (k := i) (fun j c hj hc => ?_) (.inl (by simp; omega))
  rw [List.getElem?_take_of_lt hj] at hc
  exact (formed_shortL x hx).high j c hc (by omega)

theorem shortL_at {x i : Nat} (hx : x < 2 ^ 64) {c : UInt8} (hc : (shortL x)[i]? = some c) : (127 < c.toNat ↔ i < (shortL x).length - 1) := by
  have hi : i < (shortL x).length := by
    rcases Nat.lt_or_ge i (shortL x).length with h | h
    · exact h
    · rw [List.getElem?_eq_none h] at hc; cases hc
  rcases Nat.lt_or_ge (i + 1) (shortL x).length with h | h
  · have := (formed_shortL x hx).high i c hc h
    omega
  · have h1 : i = (shortL x).length - 1 := by omega
    have := (formed_shortL x hx).low c (by rw [← h1]; exact hc)
    omega

/-- How many bytes are still to come. -/
def moreL (f z : Nat) : Nat := if z = 0 then 0 else (shortF f z).length
theorem moreL_start (x : Nat) : 1 + moreL 8 (x / 128) = (shortL x).length := by
  unfold moreL shortL
  simp only [shortF]
  by_cases h : x < 128
  · rw [if_pos h, if_pos (by omega)]; simp
  · rw [if_neg h, if_neg (by omega)]; simp; omega
theorem moreL_step {f z : Nat} (hz : z ≠ 0) (hlt : z < 128 ^ (f + 1)) : moreL f z = 1 + moreL (f - 1) (z / 128) ∧ z / 128 < 128 ^ (f - 1 + 1) := by
  unfold moreL
  rw [if_neg hz]
  cases f with
  | zero =>
    simp at hlt
    simp only [shortF]
    rw [if_pos (by omega)]
    refine ⟨rfl, ?_⟩
    simp; omega
  | succ f =>
    have hq : z / 128 < 128 ^ (f + 1) := by
      rw [Nat.div_lt_iff_lt_mul (by omega)]; rw [Nat.pow_succ] at hlt; exact hlt
    refine ⟨?_, hq⟩
    simp only [shortF, Nat.add_sub_cancel]
    by_cases h : z < 128
    · rw [if_pos h, if_pos (by omega)]; simp
    · rw [if_neg h, if_neg (by omega)]; simp; omega
end Go.Proofs.Ytaodmenieigbmaa
