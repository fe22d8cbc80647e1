/-
  Plain mathematics of short forms, more: the first byte below 128 ends a form.
-/
import Derived.Test.YtaodmenieigbmaaShort
namespace Go.Proofs.Ytaodmenieigbmaa

theorem Formed.high {p : List UInt8} (h : Formed p) : ∀ i c, p[i]? = some c → i + 1 < p.length → 128 ≤ c.toNat := by
  induction p with
  | nil => exact h.elim
  | cons a p ih =>
    intro i c hc hi
    match p, h with
    | [], _ => simp at hi
    | d :: q, h =>
      cases i with
      | zero => simp at hc; subst hc; exact h.1
      | succ i => exact ih h.2.1 i c (by simpa using hc) (by simpa using hi)
theorem Formed.low {p : List UInt8} (h : Formed p) : ∀ c, p[p.length - 1]? = some c → c.toNat < 128 := by
  induction p with
  | nil => exact h.elim
  | cons a p ih =>
    intro c hc
    match p, h with
    | [], h => simp at hc; subst hc; exact h
    | d :: q, h => exact ih h.2.1 c (by simpa using hc)
theorem Formed.pos {p : List UInt8} (h : Formed p) : 0 < p.length := by
  match p, h with
  | [c], _ => simp
  | c :: d :: q, _ => simp

theorem prefix_get {p l : List UInt8} (h : p <+: l) {i : Nat} (hi : i < p.length) : l[i]? = p[i]? := by
  obtain ⟨t, rfl⟩ := h
  rw [List.getElem?_append_left hi]

/-- A form that bytes begin with ends at the first byte below 128. -/
theorem formed_end {l p : List UInt8} (hp : Formed p) (hpre : p <+: l) {k : Nat} (hall : ∀ i c, i < k → l[i]? = some c → 128 ≤ c.toNat) : k < p.length := by
  rcases Nat.lt_or_ge k p.length with h | h
  · exact h
  · have hpos := hp.pos
    have h1 : p.length - 1 < p.length := by omega
    have h2 := hp.low p[p.length - 1] (List.getElem?_eq_getElem h1)
    have h3 := hall (p.length - 1) p[p.length - 1] (by omega) (by rw [prefix_get hpre h1]; exact List.getElem?_eq_getElem h1)
    omega
theorem formed_at {l p : List UInt8} (hp : Formed p) (hpre : p <+: l) {k : Nat} {c : UInt8} (hc : l[k]? = some c) (hc8 : c.toNat < 128) : p.length ≤ k + 1 := by
  rcases Nat.lt_or_ge (k + 1) p.length with h | h
  · have h1 : k < p.length := by omega
    have := hp.high k c (by rw [← prefix_get hpre h1]; exact hc) h
    omega
  · exact h

theorem takeN_none_of_all {l : List UInt8} {k : Nat} (hall : ∀ i c, i < k → l[i]? = some c → 128 ≤ c.toNat) (hk : l.length ≤ k ∨ 10 ≤ k) : takeN l = none := by
  cases h : takeN l with
  | none => rfl
  | some r =>
    obtain ⟨v, m⟩ := r
    obtain ⟨h1, h2, h3⟩ := (takeN_iff _ _ _).1 h
    have := formed_end (formed_shortL v h1) h3 hall
    have h4 := h3.length_le
    have h5 := shortL_len v
    omega

theorem takeN_at {l : List UInt8} {k : Nat} {c : UInt8} (hall : ∀ i c, i < k → l[i]? = some c → 128 ≤ c.toNat) (hc : l[k]? = some c) (hc8 : c.toNat < 128) (_hk : k < 10) :
    takeN l = if l.take (k + 1) = shortL (valL (l.take (k + 1)) % 2 ^ 64) then some (valL (l.take (k + 1)) % 2 ^ 64, k + 1) else none := by
  have hkl : k < l.length := by
    rcases Nat.lt_or_ge k l.length with h | h
    · exact h
    · rw [List.getElem?_eq_none h] at hc; cases hc
  split
  · rename_i e
    rw [takeN_iff]
    refine ⟨Nat.mod_lt _ (by decide), ?_, ?_⟩
    · rw [← e]; simp; omega
    · rw [← e]; exact List.take_prefix _ _
  · rename_i e
    cases h : takeN l with
    | none => rfl
    | some r =>
      exfalso
      obtain ⟨v, m⟩ := r
      obtain ⟨h1, h2, h3⟩ := (takeN_iff _ _ _).1 h
      have g1 := formed_end (formed_shortL v h1) h3 hall
      have g2 := formed_at (formed_shortL v h1) h3 hc hc8
      have g3 : (shortL v).length = k + 1 := by omega
      have g4 : l.take (k + 1) = shortL v := by rw [← g3]; exact (List.prefix_iff_eq_take.1 h3).symm
      apply e
      rw [g4, valL_shortL v h1, Nat.mod_eq_of_lt h1]

theorem valL_snoc (p : List UInt8) (c : UInt8) : valL (p ++ [c]) = valL p + 128 ^ p.length * (c.toNat % 128) := by
  induction p with
  | nil => simp [valL]
  | cons d p ih =>
    simp only [List.cons_append, valL, ih, List.length_cons, Nat.pow_succ]
    rw [Nat.mul_add, ← Nat.add_assoc]
    congr 1
    ac_rfl
theorem take_snoc' {l : List UInt8} {k : Nat} {c : UInt8} (hc : l[k]? = some c) : l.take (k + 1) = l.take k ++ [c] := by
  rw [List.take_add_one, hc]; rfl
end Go.Proofs.Ytaodmenieigbmaa
