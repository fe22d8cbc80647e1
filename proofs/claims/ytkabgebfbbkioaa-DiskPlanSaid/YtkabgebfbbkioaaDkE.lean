/-
  What a disk without a plan answers: plain mathematics.
-/
import Derived.Test.YtkabgebfbbkioaaDkD
namespace Go.Proofs.Ytkabgebfbbkioaa
open Go.RowKit Go.Maps

theorem lookM_cons (p : List UInt8 × List UInt8 × Nat) (r : MF) (s : List UInt8) : lookM (p :: r) s = if p.1 == s then some p.2 else lookM r s := by
  unfold lookM
  rw [List.find?_cons]
  by_cases h : p.1 == s <;> simp [h]
theorem lookM_cut {s t : List UInt8} (h : (t == s) = false) : ∀ fs : MF, lookM (cutM fs t) s = lookM fs s
  | [] => rfl
  | p :: r => by
    have ih := lookM_cut h r
    unfold cutM at ih ⊢
    rw [List.filter_cons, lookM_cons]
    by_cases hp : p.1 == t
    · have e : p.1 = t := by simpa using hp
      have : (p.1 == s) = false := by rw [e]; exact h
      simp only [hp, this]
      simpa using ih
    · simp only [hp]
      by_cases hs : p.1 == s
      · simp [lookM_cons, hs]
      · simp only [hs]
        simp [lookM_cons, hs, ih]
theorem lookM_ins_other {q : List UInt8 × List UInt8 × Nat} {s : List UInt8} (h : (q.1 == s) = false) : ∀ fs : MF, lookM (insM q fs) s = lookM fs s
  | [] => by simp [insM, lookM_cons, h]
  | p :: r => by
    simp only [insM]
    split
    · rw [lookM_cons, if_neg (by rw [h]; decide)]
    · rw [lookM_cons, lookM_cons, lookM_ins_other h r]
theorem lookM_ins_self {q : List UInt8 × List UInt8 × Nat} : ∀ {fs : MF}, lookM fs q.1 = none → lookM (insM q fs) q.1 = some q.2
  | [], _ => by simp [insM, lookM_cons]
  | p :: r, h => by
    have hp : (p.1 == q.1) = false := lookM_none h p (List.mem_cons_self ..)
    have hr : lookM r q.1 = none := by rw [lookM_cons, hp] at h; simpa using h
    simp only [insM]
    split
    · rw [lookM_cons]; simp
    · rw [lookM_cons, hp]; simpa using lookM_ins_self hr
theorem lookM_put_self (fs : MF) (s : List UInt8) (f : List UInt8 × Nat) : lookM (putM fs s f) s = some f := lookM_ins_self (q := (s, f)) (look_cut fs s)
theorem lookM_put_other {s t : List UInt8} (h : (t == s) = false) (fs : MF) (f : List UInt8 × Nat) : lookM (putM fs t f) s = lookM fs s := by
  unfold putM
  rw [lookM_ins_other h, lookM_cut h]

theorem fails_none {m : MD} (h : m.plan = .map []) (k : Int) : failsAt m.plan k = false := by rw [h]; rfl
theorem lookM_valid {m : MD} {j : Nat} (h : Inv m j) {s : ByteArray} {f : List UInt8 × Nat} (hl : lookM m.files s.data.toList = some f) : validB s = true := by
  unfold lookM at hl
  simp only [Option.map_eq_some_iff] at hl
  obtain ⟨p, hp, rfl⟩ := hl
  have h1 := h.names p (List.mem_of_find?_eq_some hp)
  have h2 := List.find?_some hp
  have h3 : p.1 = s.data.toList := by simpa using h2
  rw [h3, valid_eta] at h1
  exact h1
theorem tick_plan (m : MD) : m.tick.plan = m.plan := rfl
theorem drop_look (m : MD) (t : List UInt8) : (dropM m t).files = cutM m.files t := by
  unfold dropM
  split
  · rename_i hl; exact (cutM_none hl).symm
  · rfl
theorem renameM_plan (m : MD) (s t : ByteArray) : (renameM m s t).1.plan = m.plan := by
  unfold renameM changeM
  split
  · split
    · split
      · rfl
      · split
        · rfl
        · exact (dropM_keep _ _).2.2
    · rfl
  · rfl
theorem removeM_plan (m : MD) (s : ByteArray) : (removeM m s).1.plan = m.plan := by
  unfold removeM changeM
  split
  · split
    · rfl
    · split
      · rfl
      · exact (dropM_keep _ _).2.2
  · rfl
theorem createM_plan (m : MD) (s : ByteArray) : (createM m s).1.plan = m.plan := by
  unfold createM
  split
  · split
    · rfl
    · split <;> rfl
  · rfl
theorem syncM_plan (m : MD) (s : ByteArray) : (syncM m s).1.plan = m.plan := by
  unfold syncM changeM
  split
  · split
    · rfl
    · split <;> rfl
  · rfl
theorem appendM_plan (m : MD) (s : ByteArray) (l : List UInt8) : (appendM m s l).1.plan = m.plan := by
  unfold appendM changeM
  split
  · split
    · rfl
    · split
      · rfl
      · split <;> rfl
  · rfl
theorem doesM_plan (m : MD) (o : DOp) : (doesM m o).1.plan = m.plan := by
  unfold doesM
  split
  · exact createM_plan _ _
  split
  · exact appendM_plan _ _ _
  split
  · exact syncM_plan _ _
  split
  · exact renameM_plan _ _ _
  split
  · exact removeM_plan _ _
  split <;> rfl
theorem runM_snoc (m : MD) (l : List DOp) (o : DOp) : runM m (l ++ [o]) = (doesM (runM m l) o).1 := by simp [runM]
theorem runM_plan (m : MD) : ∀ l : List DOp, (runM m l).plan = m.plan := by
  intro l
  induction l generalizing m with
  | nil => rfl
  | cons o l ih => exact (ih _).trans (doesM_plan m o)

/-- A file called otherwise. -/
structure RenOk (m : MD) (s t : ByteArray) (m' : MD) (f : List UInt8 × Nat) : Prop where
  valid : validB t = true
  was : lookM m.files s.data.toList = some f
  now : lookM m'.files t.data.toList = some f
  gone : s ≠ t → lookM m'.files s.data.toList = none
theorem data_ne {s t : ByteArray} (h : s ≠ t) : (s.data.toList == t.data.toList) = false := by
  rw [beq_eq_false_iff_ne]
  intro e
  exact h (by rw [← valid_eta s, e, valid_eta])
theorem rename_cases {m : MD} {j : Nat} (h : Inv m j) (hp : m.plan = .map []) (s t : ByteArray) :
    ((renameM m s t).2 = 0 ∧ ∃ f, RenOk m s t (renameM m s t).1 f) ∨
    (((renameM m s t).2 = 2 ∨ (renameM m s t).2 = 10) ∧ ((lookM m.files s.data.toList).isSome = false ∨ validB t = false)) := by
  cases hv : validB t with
  | false => exact .inr ⟨.inl (by unfold renameM; rw [hv]; rfl), .inr rfl⟩
  | true =>
    cases hl : lookM m.files s.data.toList with
    | none =>
      refine .inr ⟨?_, .inl rfl⟩
      unfold renameM changeM
      rw [if_pos hv]
      split
      · right; simp only [hl]
      · left; rfl
    | some f =>
      have hs := lookM_valid h hl
      have hr : renameM m s t = ({ dropM { m.tick with files := cutM m.files s.data.toList } t.data.toList with files := putM (dropM { m.tick with files := cutM m.files s.data.toList } t.data.toList).files t.data.toList f }, 0) := by
        unfold renameM changeM
        rw [if_pos hv, if_pos hs]
        simp only [hl, fails_none hp]
        rfl
      left
      rw [hr]
      refine ⟨rfl, f, hv, hl, lookM_put_self _ _ _, fun hne => ?_⟩
      have h1 := data_ne (fun e => hne e.symm : t ≠ s)
      show lookM (putM _ t.data.toList f) s.data.toList = none
      rw [lookM_put_other h1, drop_look, lookM_cut h1]
      exact look_cut _ _
theorem remove_cases {m : MD} (hp : m.plan = .map []) (t : ByteArray) :
    ((removeM m t).2 = 0 ∧ validB t = true ∧ lookM (removeM m t).1.files t.data.toList = none) ∨ (removeM m t).2 = 2 ∨ (removeM m t).2 = 10 := by
  unfold removeM changeM
  cases hv : validB t with
  | false => right; left; rfl
  | true =>
    rw [if_pos rfl]
    cases hl : lookM m.files t.data.toList with
    | none => right; right; rfl
    | some f =>
      simp only [fails_none hp]
      left
      refine ⟨rfl, trivial, ?_⟩
      show lookM (dropM m.tick t.data.toList).files t.data.toList = none
      rw [drop_look]
      exact look_cut _ _
theorem create_new {m : MD} (hp : m.plan = .map []) {t : ByteArray} (hv : validB t = true) (hl : lookM m.files t.data.toList = none) :
    (createM m t).2 = 0 ∧ sizeM (createM m t).1 t = (0, 0) ∧ (createM (createM m t).1 t).2 = 11 := by
  have hc : createM m t = ({ m.tick with files := putM m.files t.data.toList ([], 0) }, 0) := by
    unfold createM
    rw [if_pos hv, hl, fails_none hp]
    rfl
  rw [hc]
  refine ⟨rfl, ?_, ?_⟩
  · unfold sizeM askM
    rw [if_pos hv]
    simp only [lookM_put_self]
    rfl
  · unfold createM
    rw [if_pos hv]
    simp only [lookM_put_self]
    rfl
theorem less_before : ∀ x y : List UInt8, Op.bytesLess x y = bytesBefore x y
  | [], [] => rfl
  | [], b :: s => rfl
  | a :: r, [] => rfl
  | a :: r, b :: s => by
    simp only [Op.bytesLess, bytesBefore.eq_4, less_before r s]
theorem inv_new {cap : Int} (hc : cap ≤ 9223372036854775807) : Inv ⟨max cap 0, 0, 0, .map [], []⟩ 0 := by
  refine ⟨rfl, ?_, ?_, ?_, ?_, ?_, fun k => ?_, fun p hp => (by cases hp), Nat.le_refl _⟩
  · show (0 : Int) ≤ max cap 0; omega
  · show (0 : Int) ≤ 60 * ((0 : Nat) : Int); decide
  · show max cap 0 ≤ _; omega
  · show (0 : Int) ≤ 0; decide
  · show (0 : Int) ≤ ((0 : Nat) : Int); decide
  · show (0 : Int) ≤ 0; decide
end Go.Proofs.Ytkabgebfbbkioaa
