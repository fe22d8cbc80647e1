/-
  What one operation does, by what it answers: plain mathematics.
-/
import Derived.Test.YtkabgebfbbkioaaDkG
namespace Go.Proofs.Ytkabgebfbbkioaa
open Go.RowKit Go.Maps

theorem lookM_set_other {s t : List UInt8} {g : List UInt8 × Nat} (h : (t == s) = false) : ∀ fs : MF, lookM (setM fs t g) s = lookM fs s
  | [] => rfl
  | p :: r => by
    have ih := lookM_set_other (g := g) h r
    simp only [setM]
    by_cases hp : p.1 == t
    · have e : p.1 = t := by simpa using hp
      rw [if_pos hp, lookM_cons, lookM_cons, e, if_neg (by rw [h]; decide), if_neg (by rw [h]; decide)]
    · rw [if_neg hp, lookM_cons, lookM_cons, ih]
theorem lookM_set_self {s : List UInt8} {f g : List UInt8 × Nat} : ∀ {fs : MF}, lookM fs s = some f → lookM (setM fs s g) s = some g
  | [], h => by cases h
  | p :: r, h => by
    rw [lookM_cons] at h
    simp only [setM]
    by_cases hp : p.1 == s
    · rw [if_pos hp, lookM_cons, if_pos hp]
    · rw [if_neg hp] at h
      rw [if_neg hp, lookM_cons, if_neg hp]
      exact lookM_set_self h
theorem cut_set {s : List UInt8} {g : List UInt8 × Nat} : ∀ fs : MF, nodupM fs → cutM (setM fs s g) s = cutM fs s
  | [], _ => rfl
  | p :: r, h => by
    unfold nodupM at h
    rw [List.map_cons, List.nodup_cons] at h
    have ih := cut_set (s := s) (g := g) r h.2
    simp only [setM]
    by_cases hp : p.1 == s
    · rw [if_pos hp]; unfold cutM; rw [List.filter_cons, List.filter_cons]; simp [hp]
    · rw [if_neg hp]; unfold cutM at ih ⊢; rw [List.filter_cons, List.filter_cons, ih]
theorem ins_mid {q : List UInt8 × List UInt8 × Nat} : ∀ {a b : MF}, (∀ p ∈ a, bytesBefore q.1 p.1 = false) → (∀ p ∈ b, bytesBefore q.1 p.1 = true) → insM q (a ++ b) = a ++ q :: b
  | [], [], _, _ => rfl
  | [], h :: t, _, hb => by simp only [List.nil_append, insM]; rw [if_pos (hb h (List.mem_cons_self ..))]
  | p :: a, b, ha, hb => by
    simp only [List.cons_append, insM]
    rw [if_neg (by rw [ha p (List.mem_cons_self ..)]; decide), ins_mid (fun x hx => ha x (List.mem_cons_of_mem _ hx)) hb]
theorem put_back {fs : MF} {s : List UInt8} {f g : List UInt8 × Nat} (hr : fs.Pairwise (fun p q => bytesBefore p.1 q.1 = true)) (hn : nodupM fs) (hl : lookM fs s = some f) : putM (setM fs s g) s f = fs := by
  unfold putM
  rw [cut_set fs hn]
  obtain ⟨a, b, e, ha, hb⟩ := lookM_split hn hl
  subst e
  rw [cutM_split ha hb]
  rw [List.pairwise_append] at hr
  obtain ⟨-, h2, h3⟩ := hr
  refine ins_mid (fun p hp => before_asym _ _ (h3 p hp _ (List.mem_cons_self ..))) (fun p hp => ?_)
  exact (List.pairwise_cons.1 h2).1 p hp

/-- What an operation that has a number has done. -/
inductive Done (m : MD) (o : DOp) (r : MD × Int) : Prop
  | refused : r.2 ≠ 0 → ¬ (r.2 = 12 ∧ o.what % 7 = 1) → r.1.files = m.files → Done m o r
  | part (f : List UInt8 × Nat) (k : Nat) : r.2 = 12 → o.what % 7 = 1 → k ≤ o.b.length → lookM m.files o.s.data.toList = some f → r.1.files = setM m.files o.s.data.toList (f.1 ++ o.b.take k, f.2) → Done m o r
  | done : r.2 = 0 → (∀ s, s ≠ o.s.data.toList → ¬ (o.what % 7 = 3 ∧ s = o.t.data.toList) → lookM r.1.files s = lookM m.files s) → Done m o r
structure Did (m : MD) (o : DOp) (r : MD × Int) : Prop where
  calls : r.1.calls = m.calls + 1
  cap : r.1.cap = m.cap
  did : Done m o r
theorem ne_beq {s t : List UInt8} (h : s ≠ t) : (t == s) = false := by rw [beq_eq_false_iff_ne]; exact fun e => h e.symm
theorem did_tick {m : MD} {o : DOp} {e : Int} (h : e ≠ 0) (h2 : ¬ (e = 12 ∧ o.what % 7 = 1)) : Did m o (m.tick, e) := ⟨rfl, rfl, .refused h h2 rfl⟩
theorem did_create {m : MD} {o : DOp} (hw : o.what % 7 ≠ 1) : Did m o (createM m o.s) := by
  unfold createM
  split
  · split
    · exact did_tick (by decide) (by simp)
    · split
      · exact did_tick (by decide) (fun h => hw h.2)
      · exact ⟨rfl, rfl, .done rfl fun s hs _ => lookM_put_other (ne_beq hs) _ _⟩
  · exact did_tick (by decide) (by simp)
theorem did_change {m : MD} {o : DOp} {act : List UInt8 × Nat → MD × Int} (h : ∀ f, lookM m.files o.s.data.toList = some f → Did m o (act f)) : Did m o (changeM m o.s act) := by
  unfold changeM
  split
  · split
    · exact did_tick (by decide) (by simp)
    · rename_i f hf; exact h f hf
  · exact did_tick (by decide) (by simp)
theorem did_append {m : MD} {o : DOp} (hw : o.what % 7 = 1) : Did m o (appendM m o.s o.b) := by
  unfold appendM
  refine did_change fun f hf => ?_
  split
  · refine ⟨rfl, rfl, .part f (min (min (partOf m.plan (m.calls + 1)) o.b.length) (m.cap - m.used)).toNat rfl hw (by omega) hf rfl⟩
  · split
    · exact did_tick (by decide) (by simp)
    · exact ⟨rfl, rfl, .done rfl fun s hs _ => lookM_set_other (ne_beq hs) _⟩
theorem did_sync {m : MD} {o : DOp} (hw : o.what % 7 ≠ 1) : Did m o (syncM m o.s) := by
  unfold syncM
  refine did_change fun f hf => ?_
  split
  · exact did_tick (by decide) (fun h => hw h.2)
  · exact ⟨rfl, rfl, .done rfl fun s hs _ => lookM_set_other (ne_beq hs) _⟩
theorem did_remove {m : MD} {o : DOp} (hw : o.what % 7 ≠ 1) : Did m o (removeM m o.s) := by
  unfold removeM
  refine did_change fun f hf => ?_
  split
  · exact did_tick (by decide) (fun h => hw h.2)
  · obtain ⟨h1, h2, -⟩ := dropM_keep m.tick o.s.data.toList
    refine ⟨h2, h1, .done rfl fun s hs _ => ?_⟩
    show lookM (dropM m.tick _).files s = _
    rw [drop_look, lookM_cut (ne_beq hs)]
    rfl
theorem did_rename {m : MD} {o : DOp} (hw : o.what % 7 = 3) : Did m o (renameM m o.s o.t) := by
  unfold renameM
  split
  · refine did_change fun f hf => ?_
    split
    · exact did_tick (by decide) (fun h => by omega)
    · obtain ⟨h1, h2, -⟩ := dropM_keep { m.tick with files := cutM m.files o.s.data.toList } o.t.data.toList
      refine ⟨h2, h1, .done rfl fun s hs ht => ?_⟩
      have ht : s ≠ o.t.data.toList := fun e => ht ⟨hw, e⟩
      show lookM (putM _ _ _) s = _
      rw [lookM_put_other (ne_beq ht), drop_look, lookM_cut (ne_beq ht), lookM_cut (ne_beq hs)]
  · exact did_tick (by decide) (by simp)
theorem did {m : MD} {o : DOp} (hw : o.what % 7 ≤ 4) : Did m o (doesM m o) := by
  unfold doesM
  split
  · exact did_create (by omega)
  split
  · exact did_append (by assumption)
  split
  · exact did_sync (by omega)
  split
  · exact did_rename (by assumption)
  split
  · exact did_remove (by omega)
  · omega
theorem doesM_cap (m : MD) (o : DOp) : (doesM m o).1.cap = m.cap := by
  by_cases h : o.what % 7 ≤ 4
  · exact (did h).cap
  · unfold doesM
    rw [if_neg (by omega), if_neg (by omega), if_neg (by omega), if_neg (by omega), if_neg (by omega)]
    split <;> rfl
end Go.Proofs.Ytkabgebfbbkioaa
