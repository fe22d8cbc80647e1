/-
  The texts BI, BJ, in one.
-/
import Derived.Test.YtkdjjdkcogolmaaGreatDoorBF
import Derived.Test.YtkdjjdkcogolmaaGreatDoorIkQ
import Derived.Test.YtkdjjdkcogolmaaGreatDoorFrL
import Derived.BigQuiet
section
/-
  Words for rows of entries (the block chapter's examples are none of this layer's).
-/
namespace Go.Proofs.YtkdjjdkcogolmaaGreatDoor
set_option maxRecDepth 100000
open Go.RowKit Go.Shelf
set_option linter.unusedVariables false

theorem RdE.now {w w' : World} {n c : Nat} {A : Option Addr} {L : List Ent} (h : RdE w w.heap.size A n c L) (hb : Below w.heap.size w w') : RdE w' w'.heap.size A n c L := (h.below hb (Nat.le_refl _)).more hb.size
theorem run_same_en {x y : Ent} (h : x = y) (W : World) : (Op.equalIn 10000 40 (en x.s x.q x.k x.v) (en y.s y.q y.k y.v)).run Tryz.prog W = .ok true W := by
  rw [run_eq_en, sameE_iff.2 h]
end Go.Proofs.YtkdjjdkcogolmaaGreatDoor
end

section
/-
  Entries put in order, as mathematics: the statements' Sorted.
-/
namespace Go.Proofs.YtkdjjdkcogolmaaGreatDoor
set_option maxRecDepth 100000
open Go.RowKit Go.Shelf
set_option linter.unusedVariables false

def lessN (e : Ent) : List Ent → Nat
  | [] => 0
  | x :: r => if cmpE x e < 0 then lessN e r + 1 else 0
def keyE (x y : Ent) : Bool := decide (x.s = y.s ∧ x.q = y.q ∧ x.k = y.k)
def dupB (x : Ent) (O : List Ent) : Bool := match O[lessN x O]? with | some y => keyE y x | none => false
theorem dup_some {x y : Ent} {O : List Ent} (h : O[lessN x O]? = some y) : dupB x O = keyE y x := by unfold dupB; rw [h]
theorem dup_none {x : Ent} {O : List Ent} (h : O[lessN x O]? = none) : dupB x O = false := by unfold dupB; rw [h]
def insE (most : Nat) (O : List Ent) (e : Ent) : List Ent :=
  if entB e = false then O
  else if dupB e O = true then O
  else if O.length = most then O
  else O.take (lessN e O) ++ (e :: O.drop (lessN e O))
def sortE (most : Nat) (L : List Ent) : List Ent := L.foldl (insE most) []
theorem lessN_le (e : Ent) : ∀ O : List Ent, lessN e O ≤ O.length
  | [] => Nat.le_refl _
  | x :: r => by
    have := lessN_le e r
    simp only [lessN]
    split <;> simp <;> omega
theorem lessN_at (e : Ent) : ∀ (O : List Ent) (m : Nat), (∀ i x, i < m → O[i]? = some x → cmpE x e < 0) → m ≤ O.length → (∀ x, O[m]? = some x → ¬ cmpE x e < 0) → lessN e O = m
  | [], m, _, h, _ => by simp at h; simp [lessN, h]
  | x :: r, 0, _, _, h => by
    have := h x rfl
    simp only [lessN]; rw [if_neg this]
  | x :: r, m + 1, h1, h2, h3 => by
    have h0 := h1 0 x (by omega) rfl
    have ih := lessN_at e r m (fun i y hi hy => h1 (i + 1) y (by omega) (by simpa using hy)) (by simpa using h2) (fun y hy => h3 y (by simpa using hy))
    simp only [lessN]; rw [if_pos h0, ih]
theorem lessN_lt (e : Ent) : ∀ (O : List Ent) (i : Nat) (x : Ent), i < lessN e O → O[i]? = some x → cmpE x e < 0
  | [], i, x, h, _ => by simp [lessN] at h
  | y :: r, i, x, h, hx => by
    simp only [lessN] at h
    split at h
    · next hy =>
      cases i with
      | zero => simp at hx; subst hx; exact hy
      | succ i => exact lessN_lt e r i x (by omega) (by simpa using hx)
    · omega
theorem lessN_ge (e : Ent) : ∀ (O : List Ent) (x : Ent), O[lessN e O]? = some x → ¬ cmpE x e < 0
  | [], x, h => by simp at h
  | y :: r, x, h => by
    simp only [lessN] at h
    split at h
    · exact lessN_ge e r x (by simpa using h)
    · next hy => simp at h; subst h; exact hy
theorem cmpE_swap (a b : Ent) : cmpE b a = - cmpE a b := cmpV_swap a.s a.q a.k b.s b.q b.k
theorem keyE_iff {a b : Ent} : keyE a b = true ↔ cmpE a b = 0 := by
  unfold keyE cmpE
  rw [cmpV_zero, decide_eq_true_iff]
theorem risB_cons {a : Ent} {r : List Ent} (h : risB r = true) (h1 : ∀ b, r[0]? = some b → cmpE a b < 0) : risB (a :: r) = true := by
  cases r with
  | nil => rfl
  | cons b r => simp only [risB, Bool.and_eq_true, decide_eq_true_eq]; exact ⟨h1 b rfl, h⟩
theorem ris_ins {e : Ent} : ∀ (O : List Ent), risB O = true → (∀ x, O[lessN e O]? = some x → keyE x e = false) → risB (O.take (lessN e O) ++ (e :: O.drop (lessN e O))) = true
  | [], _, _ => rfl
  | y :: r, h, hk => by
    by_cases hy : cmpE y e < 0
    · have hl : lessN e (y :: r) = lessN e r + 1 := by simp only [lessN]; rw [if_pos hy]
      rw [hl] at hk ⊢
      have hr : risB r = true := by
        cases r with
        | nil => rfl
        | cons z r => simp only [risB, Bool.and_eq_true] at h; exact h.2
      have ih := ris_ins r hr (fun x hx => hk x (by simpa using hx))
      simp only [List.take_succ_cons, List.drop_succ_cons, List.cons_append]
      refine risB_cons ih (fun b hb => ?_)
      by_cases h0 : lessN e r = 0
      · rw [h0] at hb; simp at hb; subst hb; exact hy
      · have : ∃ z, r[0]? = some z := by
          cases r with
          | nil => simp [lessN] at h0
          | cons z r => exact ⟨z, rfl⟩
        obtain ⟨z, hz⟩ := this
        rw [List.getElem?_append_left (by rw [List.length_take]; have := lessN_le e r; omega), List.getElem?_take_of_lt (by omega), hz] at hb
        cases hb
        exact (risB_iff _).1 h 0 y _ rfl (by simpa using hz)
    · have hl : lessN e (y :: r) = 0 := by simp only [lessN]; rw [if_neg hy]
      rw [hl] at hk ⊢
      have h1 := hk y rfl
      have h2 : cmpE y e ≠ 0 := fun h => by rw [keyE_iff.2 h] at h1; cases h1
      simp only [List.take_zero, List.drop_zero, List.nil_append]
      refine risB_cons h (fun b hb => ?_)
      simp at hb; subst hb
      rw [cmpE_swap]; omega
theorem insE_cases (most : Nat) (O : List Ent) (e : Ent) : insE most O e = O ∨ (entB e = true ∧ (∀ x, O[lessN e O]? = some x → keyE x e = false) ∧ O.length ≠ most ∧ insE most O e = O.take (lessN e O) ++ (e :: O.drop (lessN e O))) := by
  unfold insE
  by_cases h1 : entB e = false
  · left; rw [if_pos h1]
  · by_cases h2 : dupB e O = true
    · left; rw [if_neg h1, if_pos h2]
    · by_cases h3 : O.length = most
      · left; rw [if_neg h1, if_neg h2, if_pos h3]
      · right
        refine ⟨by simpa using h1, fun x hx => ?_, h3, by rw [if_neg h1, if_neg h2, if_neg h3]⟩
        rw [dup_some hx] at h2
        simpa using h2
theorem insE_ok {most : Nat} {O : List Ent} {e : Ent} (h1 : ∀ x ∈ O, entB x = true) (h2 : risB O = true) (h3 : O.length ≤ most) : (∀ x ∈ insE most O e, entB x = true) ∧ risB (insE most O e) = true ∧ (insE most O e).length ≤ most ∧ (insE most O e).length ≤ O.length + 1 := by
  rcases insE_cases most O e with h | ⟨a, b, c, h⟩
  · rw [h]; exact ⟨h1, h2, h3, by omega⟩
  · rw [h]
    refine ⟨fun x hx => ?_, ris_ins O h2 b, ?_, ?_⟩
    · rcases List.mem_append.1 hx with hx | hx
      · exact h1 x (List.mem_of_mem_take hx)
      · rcases List.mem_cons.1 hx with rfl | hx
        · exact a
        · exact h1 x (List.mem_of_mem_drop hx)
    · have := lessN_le e O
      rw [List.length_append, List.length_cons, List.length_take, List.length_drop]; omega
    · have := lessN_le e O
      rw [List.length_append, List.length_cons, List.length_take, List.length_drop]; omega
theorem foldE_ok {most : Nat} : ∀ (L O : List Ent), (∀ x ∈ O, entB x = true) → risB O = true → O.length ≤ most → (∀ x ∈ L.foldl (insE most) O, entB x = true) ∧ risB (L.foldl (insE most) O) = true ∧ (L.foldl (insE most) O).length ≤ most
  | [], O, h1, h2, h3 => ⟨h1, h2, h3⟩
  | e :: L, O, h1, h2, h3 => by
    obtain ⟨a, b, c, _⟩ := insE_ok (e := e) h1 h2 h3
    exact foldE_ok L _ a b c
theorem sortE_ok (most : Nat) (L : List Ent) : (∀ x ∈ sortE most L, entB x = true) ∧ risB (sortE most L) = true ∧ (sortE most L).length ≤ most := foldE_ok L [] (fun x hx => by cases hx) rfl (Nat.zero_le _)
theorem sortE_snoc (most : Nat) (L : List Ent) (e : Ent) : sortE most (L ++ [e]) = insE most (sortE most L) e := by simp [sortE]
/-- What is put in order is a block, or nothing. -/
theorem sortE_blk (L : List Ent) (h : sortE 64 L ≠ []) : blkB (sortE 64 L) = true := by
  obtain ⟨a, b, c⟩ := sortE_ok 64 L
  exact blkB_iff.2 ⟨List.length_pos_iff.2 h, c, a, b⟩
end Go.Proofs.YtkdjjdkcogolmaaGreatDoor
end
