/-
  Plain mathematics of a log's records: which are right, their form, what bytes begin with, and which records bytes have.
-/
import Derived.Test.YthgaiimgfnbkaaaGreatDoorFrL
namespace Go.Proofs.YthgaiimgfnbkaaaGreatDoor
set_option maxRecDepth 100000
open Go.RowKit
set_option linter.unusedVariables false

/-- A record: its first sequence, its operations. -/
abbrev Wr := Nat × List Bop
def seqB (q n : Nat) : Bool := decide (1 ≤ q) && decide (q ≤ 72057594037927935) && decide (q + n - 1 ≤ 72057594037927935)
def recB (q : Nat) (L : List Bop) : Bool := grpB L 128 && seqB q L.length
def inL (q : Nat) (L : List Bop) : List UInt8 := shortL q ++ groupL L
def recL (q : Nat) (L : List Bop) : List UInt8 := sealL (inL q L)
def walL (q : Nat) (L : List Bop) : List UInt8 := if recB q L = true then recL q L else []
def walE (q : Nat) (L : List Bop) : Int := if recB q L = true then 0 else 60
theorem recB_iff {q : Nat} {L : List Bop} : recB q L = true ↔ grpB L 128 = true ∧ 1 ≤ q ∧ q + L.length ≤ 72057594037927936 := by
  unfold recB seqB
  simp only [Bool.and_eq_true, decide_eq_true_eq]
  constructor
  · rintro ⟨h1, ⟨h2, h3⟩, h4⟩
    have := (grpB_iff.1 h1).1
    exact ⟨h1, h2, by omega⟩
  · rintro ⟨h1, h2, h3⟩
    have := (grpB_iff.1 h1).1
    exact ⟨h1, ⟨h2, by omega⟩, by omega⟩
theorem groupL_len {L : List Bop} (h : grpB L 128 = true) : (groupL L).length ≤ 50000 := by
  have := bytesL_len L
  unfold bytesL at this
  rwa [if_pos h] at this
theorem inL_len {q : Nat} {L : List Bop} (h : grpB L 128 = true) : (inL q L).length ≤ 50010 := by
  have h1 := groupL_len h
  have h2 := shortL_len q
  unfold inL
  rw [List.length_append]; omega
theorem recL_len {q : Nat} {L : List Bop} (h : grpB L 128 = true) : (recL q L).length ≤ 50018 := by
  have := inL_len (q := q) h
  unfold recL
  rw [sealL_len]; omega
theorem recL_pos {q : Nat} {L : List Bop} : 8 ≤ (recL q L).length := by unfold recL; rw [sealL_len]; omega
theorem walL_len (q : Nat) (L : List Bop) : (walL q L).length ≤ 50018 := by
  unfold walL
  split
  · rename_i h; exact recL_len (recB_iff.1 h).1
  · simp

/-- What is taken is sealed as it stood. -/
theorem takeL_put {l x y : List UInt8} (h : takeL l = some (x, y)) : sealL x ++ y = l ∧ x.length ≤ 1048576 := by
  unfold takeL at h
  split at h
  · rename_i hc
    obtain ⟨h4, hm, h8, hs⟩ := hc
    simp only [Option.some.injEq, Prod.mk.injEq] at h
    obtain ⟨rfl, rfl⟩ := h
    obtain ⟨N, hN⟩ : ∃ N, lenL l = N := ⟨_, rfl⟩
    rw [hN] at hm h8 hs ⊢
    have hx : ((l.drop 4).take N).length = N := by rw [List.length_take, List.length_drop]; omega
    have hh : headL ((l.drop 4).take N) = l.take (N + 4) := by
      unfold headL
      rw [hx]
      have h1 := (four_put h4).1
      have h2 : fourL N = l.take 4 := by
        have h3 := congrArg (List.take 4) h1
        rw [List.take_append_of_le_length (by rw [fourL_len]; exact Nat.le_refl _), List.take_of_length_le (by rw [fourL_len]; exact Nat.le_refl _)] at h3
        rw [← hN]; exact h3
      rw [h2, show N + 4 = 4 + N by omega, List.take_add]
    refine ⟨?_, by rw [hx]; exact hm⟩
    unfold sealL
    rw [hh, ← hs]
    have h5 : ((l.drop (N + 4)).take 4).length = 4 := by rw [List.length_take, List.length_drop]; omega
    have h6 : fourL (leV ((l.drop (N + 4)).take 4)) = (l.drop (N + 4)).take 4 := by
      have := leL_leV ((l.drop (N + 4)).take 4)
      rw [h5] at this
      exact this
    rw [h6, ← List.take_add, show N + 4 + 4 = N + 8 by omega, List.take_append_drop]
  · cases h

/-- The record whose form is within a frame. -/
def readIn (x : List UInt8) : Option Wr := match takeN x with
  | none => none
  | some (v, m) => match parseG (x.drop m) with
    | none => none
    | some L => if seqB v L.length = true then some (v, L) else none
theorem readIn_iff {x : List UInt8} {q : Nat} {L : List Bop} : readIn x = some (q, L) ↔ recB q L = true ∧ x = inL q L := by
  unfold readIn inL
  constructor
  · intro h
    cases ht : takeN x with
    | none => rw [ht] at h; cases h
    | some p =>
      obtain ⟨v, m⟩ := p
      rw [ht] at h
      simp only at h
      cases hp : parseG (x.drop m) with
      | none => rw [hp] at h; cases h
      | some M =>
        rw [hp] at h
        simp only at h
        split at h
        · rename_i hs
          simp only [Option.some.injEq, Prod.mk.injEq] at h
          obtain ⟨rfl, rfl⟩ := h
          obtain ⟨h1, h2⟩ := parseG_iff.1 hp
          obtain ⟨h3, h4, h5, h6, h7⟩ := takeN_le ht
          refine ⟨by unfold recB; rw [h1, hs]; rfl, ?_⟩
          rw [← h7, ← h2, List.take_append_drop]
        · cases h
  · rintro ⟨h, rfl⟩
    have hr := recB_iff.1 h
    have ht := takeN_short q (by omega) (groupL L)
    rw [ht]
    simp only [List.drop_left]
    rw [parseG_iff.2 ⟨hr.1, rfl⟩]
    simp only
    unfold recB at h
    simp only [Bool.and_eq_true] at h
    rw [if_pos h.2]
/-- The record that bytes begin with, and how many bytes it has. -/
def oneL (b : List UInt8) : Option (Wr × Nat) := match takeL b with
  | none => none
  | some (x, _) => match readIn x with
    | none => none
    | some r => some (r, x.length + 8)
theorem oneL_iff {b : List UInt8} {q : Nat} {L : List Bop} {k : Nat} : oneL b = some ((q, L), k) ↔ recB q L = true ∧ k = (recL q L).length ∧ ∃ t, b = recL q L ++ t := by
  unfold oneL recL
  constructor
  · intro h
    cases ht : takeL b with
    | none => rw [ht] at h; cases h
    | some p =>
      obtain ⟨x, y⟩ := p
      rw [ht] at h
      simp only at h
      cases hi : readIn x with
      | none => rw [hi] at h; cases h
      | some r =>
        rw [hi] at h
        simp only [Option.some.injEq, Prod.mk.injEq] at h
        obtain ⟨rfl, rfl⟩ := h
        obtain ⟨h1, rfl⟩ := readIn_iff.1 hi
        exact ⟨h1, (sealL_len _).symm, y, (takeL_put ht).1.symm⟩
  · rintro ⟨h, rfl, t, rfl⟩
    have hr := recB_iff.1 h
    rw [takeL_seal (by have := inL_len (q := q) hr.1; omega)]
    simp only
    rw [readIn_iff.2 ⟨h, rfl⟩]
    simp only [sealL_len]
theorem oneL_le {b : List UInt8} {r : Wr} {k : Nat} (h : oneL b = some (r, k)) : 8 ≤ k ∧ k ≤ b.length ∧ k ≤ 50018 := by
  obtain ⟨q, L⟩ := r
  obtain ⟨h1, rfl, t, rfl⟩ := oneL_iff.1 h
  exact ⟨recL_pos, by rw [List.length_append]; omega, recL_len (recB_iff.1 h1).1⟩
/-- What is behind the frame that bytes begin with is nothing to the record. -/
theorem oneL_near {b : List UInt8} {N : Nat} (hN : 4 ≤ b.length → N = min (lenL b + 8) b.length) : oneL (b.take N) = oneL b := by
  have key : ∀ q L k, oneL (b.take N) = some ((q, L), k) ↔ oneL b = some ((q, L), k) := by
    intro q L k
    rw [oneL_iff, oneL_iff]
    constructor
    · rintro ⟨h1, h2, t, h3⟩
      refine ⟨h1, h2, t ++ b.drop N, ?_⟩
      rw [← List.append_assoc, ← h3, List.take_append_drop]
    · rintro ⟨h1, h2, t, h3⟩
      have h8 := recL_pos (q := q) (L := L)
      have hl : lenL b = (inL q L).length := by
        rw [h3]
        exact lenL_seal (by have := inL_len (q := q) (recB_iff.1 h1).1; omega) t
      have hs : (recL q L).length = (inL q L).length + 8 := sealL_len _
      have hb : (recL q L).length ≤ b.length := by rw [h3, List.length_append]; omega
      have hn := hN (by omega)
      rw [Nat.min_eq_left (by omega)] at hn
      refine ⟨h1, h2, [], ?_⟩
      rw [List.append_nil, h3, show N = (recL q L).length by omega, List.take_left]
  cases h : oneL b with
  | none =>
    cases h2 : oneL (b.take N) with
    | none => rfl
    | some p => obtain ⟨⟨q, L⟩, k⟩ := p; rw [(key q L k).1 h2] at h; cases h
  | some p => obtain ⟨⟨q, L⟩, k⟩ := p; rw [(key q L k).2 h]

/-! ## The records of a log -/
/-- The sequence that the next record must have; 0: any. -/
def nextW (nx : Nat) (P : List Wr) : Nat := P.foldl (fun _ r => r.1 + r.2.length) nx
def catW (P : List Wr) : List UInt8 := P.flatMap fun r => recL r.1 r.2
def chain : Nat → List Wr → Prop
  | _, [] => True
  | nx, r :: P => (nx = 0 ∨ r.1 = nx) ∧ recB r.1 r.2 = true ∧ chain (r.1 + r.2.length) P
theorem nextW_snoc (nx : Nat) (P : List Wr) (r : Wr) : nextW nx (P ++ [r]) = r.1 + r.2.length := by simp [nextW]
theorem catW_snoc (P : List Wr) (r : Wr) : catW (P ++ [r]) = catW P ++ recL r.1 r.2 := by simp [catW]
theorem catW_app (P Q : List Wr) : catW (P ++ Q) = catW P ++ catW Q := by simp [catW]
theorem catW_cons (r : Wr) (P : List Wr) : catW (r :: P) = recL r.1 r.2 ++ catW P := by simp [catW]
theorem chain_app : ∀ (nx : Nat) (P Q : List Wr), chain nx (P ++ Q) ↔ chain nx P ∧ chain (nextW nx P) Q
  | nx, [], Q => by simp [chain, nextW]
  | nx, r :: P, Q => by
    have ih := chain_app (r.1 + r.2.length) P Q
    simp only [List.cons_append, chain, ih, nextW, List.foldl_cons, and_assoc]
theorem chain_snoc (nx : Nat) (P : List Wr) (r : Wr) : chain nx (P ++ [r]) ↔ chain nx P ∧ (nextW nx P = 0 ∨ r.1 = nextW nx P) ∧ recB r.1 r.2 = true := by
  rw [chain_app]; simp [chain]
theorem chain_any {nx : Nat} {P : List Wr} (h : chain nx P) : chain 0 P := by
  cases P with
  | nil => trivial
  | cons r P => exact ⟨.inl rfl, h.2⟩
theorem chain_pos : ∀ {nx : Nat} {P : List Wr}, chain nx P → P ≠ [] → 1 ≤ nextW nx P ∧ nextW nx P ≤ 72057594037927936
  | nx, [], _, h => absurd rfl h
  | nx, [r], h, _ => by
    have := (recB_iff.1 h.2.1)
    simp only [nextW, List.foldl_cons, List.foldl_nil]
    omega
  | nx, r :: s :: P, h, _ => by
    have := chain_pos (P := s :: P) h.2.2 (by simp)
    simpa only [nextW, List.foldl_cons] using this
theorem catW_len {nx : Nat} : ∀ {P : List Wr}, chain nx P → 8 * P.length ≤ (catW P).length ∧ (catW P).length ≤ 50018 * P.length := by
  intro P
  induction P generalizing nx with
  | nil => intro _; simp [catW]
  | cons r P ih =>
    intro h
    have h1 := ih h.2.2
    have h2 := recL_pos (q := r.1) (L := r.2)
    have h3 := recL_len (q := r.1) (recB_iff.1 h.2.1).1
    rw [catW_cons, List.length_append, List.length_cons]
    omega
/-- P are the records of the log b, of u bytes. -/
structure IsRead (b : List UInt8) (P : List Wr) (u : Nat) : Prop where
  ch : chain 0 P
  eq : b.take u = catW P
  le : u ≤ b.length
  stop : ∀ q L k, oneL (b.drop u) = some ((q, L), k) → nextW 0 P ≠ 0 ∧ q ≠ nextW 0 P
theorem IsRead.len {b : List UInt8} {P : List Wr} {u : Nat} (h : IsRead b P u) : u = (catW P).length := by
  rw [← h.eq, List.length_take]; have := h.le; omega
/-- What is read is one list alone. -/
theorem read_one : ∀ {P P' : List Wr} {nx : Nat} {t t' : List UInt8}, chain nx P → chain nx P' → catW P ++ t = catW P' ++ t' →
    (∀ q L k, oneL t = some ((q, L), k) → nextW nx P ≠ 0 ∧ q ≠ nextW nx P) → (∀ q L k, oneL t' = some ((q, L), k) → nextW nx P' ≠ 0 ∧ q ≠ nextW nx P') → P = P'
  | [], [], _, _, _, _, _, _, _, _ => rfl
  | [], r :: P', nx, t, t', h, h', e, hs, hs' => by
    have e1 : t = recL r.1 r.2 ++ (catW P' ++ t') := by rw [catW_cons, List.append_assoc] at e; simpa [catW] using e
    have := hs r.1 r.2 _ (oneL_iff.2 ⟨h'.2.1, rfl, _, e1⟩)
    rcases h'.1 with h0 | h0
    · exact absurd h0 this.1
    · exact absurd h0 this.2
  | r :: P, [], nx, t, t', h, h', e, hs, hs' => by
    have e1 : t' = recL r.1 r.2 ++ (catW P ++ t) := by rw [catW_cons, List.append_assoc] at e; simpa [catW] using e.symm
    have := hs' r.1 r.2 _ (oneL_iff.2 ⟨h.2.1, rfl, _, e1⟩)
    rcases h.1 with h0 | h0
    · exact absurd h0 this.1
    · exact absurd h0 this.2
  | r :: P, r' :: P', nx, t, t', h, h', e, hs, hs' => by
    rw [catW_cons, catW_cons, List.append_assoc, List.append_assoc] at e
    have h1 := (oneL_iff (b := recL r.1 r.2 ++ (catW P ++ t))).2 ⟨h.2.1, rfl, _, rfl⟩
    have h2 := (oneL_iff (b := recL r'.1 r'.2 ++ (catW P' ++ t'))).2 ⟨h'.2.1, rfl, _, rfl⟩
    rw [e, h2] at h1
    simp only [Option.some.injEq, Prod.mk.injEq] at h1
    obtain ⟨⟨e1, e2⟩, -⟩ := h1
    have hr : r' = r := Prod.ext e1 e2
    subst hr
    have e3 := List.append_cancel_left e
    rw [read_one h.2.2 h'.2.2 e3 hs hs']
theorem IsRead.one {b : List UInt8} {P P' : List Wr} {u u' : Nat} (h : IsRead b P u) (h' : IsRead b P' u') : P = P' ∧ u = u' := by
  have e : P = P' := read_one h.ch h'.ch (t := b.drop u) (t' := b.drop u') (by rw [← h.eq, ← h'.eq, List.take_append_drop, List.take_append_drop]) h.stop h'.stop
  subst e
  exact ⟨rfl, by rw [h.len, h'.len]⟩
end Go.Proofs.YthgaiimgfnbkaaaGreatDoor
