/-
  Two disks, one with a plan of parts of 0, one without: plain mathematics. Two disks beside each other in memory.
-/
import Derived.Test.YtkabgebfbbkioaaDkN
namespace Go.Proofs.Ytkabgebfbbkioaa
open Go.RowKit Go.Maps

/-- A disk with a plan of parts of 0, and one without a plan: the same files. -/
structure Like (m f : MD) : Prop where
  files : m.files = f.files
  used : m.used = f.used
  cap : m.cap = f.cap
  free : f.plan = .map []
  zero : ∀ k, partOf m.plan k = 0
theorem Like.tick {m f : MD} (h : Like m f) : Like m.tick f.tick := ⟨h.files, h.used, h.cap, h.free, h.zero⟩
theorem Like.half {m f : MD} (h : Like m f) : Like m.tick f := ⟨h.files, h.used, h.cap, h.free, h.zero⟩
theorem Like.to {m f : MD} (h : Like m f) {fs : MF} {u : Int} : Like { m.tick with files := fs, used := u } { f.tick with files := fs, used := u } := ⟨rfl, rfl, h.cap, h.free, h.zero⟩
theorem setM_same {s : List UInt8} {f : List UInt8 × Nat} : ∀ {fs : MF}, lookM fs s = some f → setM fs s f = fs
  | [], h => by cases h
  | p :: r, h => by
    rw [lookM_cons] at h
    simp only [setM]
    by_cases hp : p.1 == s
    · rw [if_pos hp] at h ⊢
      cases h
      rfl
    · rw [if_neg hp] at h ⊢
      rw [setM_same h]
theorem Like.drop {m f : MD} (h : Like m f) (s : List UInt8) : Like (dropM m s) (dropM f s) := by
  unfold dropM
  rw [h.files]
  cases lookM f.files s with
  | none => exact h
  | some g => exact ⟨rfl, by show m.used - _ = f.used - _; rw [h.used], h.cap, h.free, h.zero⟩

/-- What is done to both. -/
structure Both (m f : MD) (r s : MD × Int) : Prop where
  free : s.2 ≠ 12
  refused : r.2 = 12 → failsAt m.plan (m.calls + 1) = true ∧ (s.2 = 0 ∨ s.2 = 13) ∧ Like r.1 f
  done : r.2 ≠ 12 → r.2 = s.2 ∧ (failsAt m.plan (m.calls + 1) = true → r.2 ≠ 0 ∧ r.2 ≠ 13) ∧ Like r.1 s.1
theorem both_err {m f : MD} (h : Like m f) {e : Int} (h0 : e ≠ 0) (h12 : e ≠ 12) (h13 : e ≠ 13) : Both m f (m.tick, e) (f.tick, e) :=
  ⟨h12, fun h => (h12 h).elim, fun _ => ⟨rfl, fun _ => ⟨h0, h13⟩, h.tick⟩⟩
theorem both_fail {m f : MD} (_h : Like m f) (hp : failsAt m.plan (m.calls + 1) = true) {r s : MD × Int} (hr : r.2 = 12) (hl : Like r.1 f) (hs : s.2 = 0 ∨ s.2 = 13) : Both m f r s :=
  ⟨by omega, fun _ => ⟨hp, hs, hl⟩, fun h => (h hr).elim⟩
theorem both_done {m f : MD} {r s : MD × Int} (hp : failsAt m.plan (m.calls + 1) = false) (h12 : r.2 ≠ 12) (he : r.2 = s.2) (hl : Like r.1 s.1) : Both m f r s :=
  ⟨by omega, fun h => (h12 h).elim, fun _ => ⟨he, fun h => (by rw [hp] at h; cases h), hl⟩⟩
theorem both_change {m f : MD} (h : Like m f) {s : ByteArray} {a b : List UInt8 × Nat → MD × Int} (hab : ∀ g, lookM f.files s.data.toList = some g → Both m f (a g) (b g)) : Both m f (changeM m s a) (changeM f s b) := by
  unfold changeM
  rw [h.files]
  split
  · cases hl : lookM f.files s.data.toList with
    | none => exact both_err h (by decide) (by decide) (by decide)
    | some g => exact hab g hl
  · exact both_err h (by decide) (by decide) (by decide)
theorem both_create {m f : MD} (h : Like m f) (s : ByteArray) : Both m f (createM m s) (createM f s) := by
  unfold createM
  rw [h.files, fails_none h.free]
  split
  · split
    · exact both_err h (by decide) (by decide) (by decide)
    · cases hp : failsAt m.plan (m.calls + 1) with
      | true => exact both_fail h hp rfl h.half (.inl rfl)
      | false => exact both_done hp (show (0 : Int) ≠ 12 by decide) rfl ⟨rfl, h.used, h.cap, h.free, h.zero⟩
  · exact both_err h (by decide) (by decide) (by decide)
theorem both_sync {m f : MD} (h : Like m f) (s : ByteArray) : Both m f (syncM m s) (syncM f s) := by
  unfold syncM
  refine both_change h fun g hg => ?_
  rw [fails_none h.free]
  cases hp : failsAt m.plan (m.calls + 1) with
  | true => exact both_fail h hp rfl h.half (.inl rfl)
  | false => exact both_done hp (show (0 : Int) ≠ 12 by decide) rfl ⟨by show setM m.files _ _ = setM f.files _ _; rw [h.files], h.used, h.cap, h.free, h.zero⟩
theorem both_remove {m f : MD} (h : Like m f) (s : ByteArray) : Both m f (removeM m s) (removeM f s) := by
  unfold removeM
  refine both_change h fun g hg => ?_
  rw [fails_none h.free]
  cases hp : failsAt m.plan (m.calls + 1) with
  | true => exact both_fail h hp rfl h.half (.inl rfl)
  | false => exact both_done hp (show (0 : Int) ≠ 12 by decide) rfl (h.tick.drop _)
theorem both_rename {m f : MD} (h : Like m f) (s t : ByteArray) : Both m f (renameM m s t) (renameM f s t) := by
  unfold renameM
  split
  · refine both_change h fun g hg => ?_
    rw [fails_none h.free]
    cases hp : failsAt m.plan (m.calls + 1) with
    | true => exact both_fail h hp rfl h.half (.inl rfl)
    | false =>
      have hd : Like (dropM { m.tick with files := cutM m.files s.data.toList } t.data.toList) (dropM { f.tick with files := cutM f.files s.data.toList } t.data.toList) :=
        Like.drop (m := { m.tick with files := cutM m.files s.data.toList }) (f := { f.tick with files := cutM f.files s.data.toList }) ⟨by show cutM m.files _ = cutM f.files _; rw [h.files], h.used, h.cap, h.free, h.zero⟩ _
      exact both_done hp (show (0 : Int) ≠ 12 by decide) rfl ⟨by show putM _ _ _ = putM _ _ _; rw [hd.files], hd.used, hd.cap, hd.free, hd.zero⟩
  · exact both_err h (by decide) (by decide) (by decide)
theorem both_append {m f : MD} (h : Like m f) (s : ByteArray) (l : List UInt8) : Both m f (appendM m s l) (appendM f s l) := by
  unfold appendM
  refine both_change h fun g hg => ?_
  rw [fails_none h.free, h.zero]
  cases hp : failsAt m.plan (m.calls + 1) with
  | true =>
    have hk : (min (min (0 : Int) l.length) (m.cap - m.used)).toNat = 0 := by omega
    refine both_fail h hp rfl ?_ ?_
    · show Like { m.tick with files := setM m.files s.data.toList (g.1 ++ l.take (min (min (0 : Int) l.length) (m.cap - m.used)).toNat, g.2), used := m.used + ((min (min (0 : Int) l.length) (m.cap - m.used)).toNat : Nat) } f
      rw [hk]
      refine ⟨?_, by show m.used + ((0 : Nat) : Int) = f.used; rw [h.used]; simp, h.cap, h.free, h.zero⟩
      show setM m.files s.data.toList (g.1 ++ l.take 0, g.2) = f.files
      rw [List.take_zero, List.append_nil, h.files]
      exact setM_same hg
    · simp only [Bool.false_eq_true, if_false]
      split
      · exact .inr rfl
      · exact .inl rfl
  | false =>
    simp only [Bool.false_eq_true, if_false]
    rw [h.cap, h.used]
    split
    · exact both_done hp (show (13 : Int) ≠ 12 by decide) rfl h.tick
    · exact both_done hp (show (0 : Int) ≠ 12 by decide) rfl ⟨by show setM m.files _ _ = setM f.files _ _; rw [h.files], rfl, h.cap, h.free, h.zero⟩
theorem both_does {m f : MD} (h : Like m f) {o : DOp} (hw : o.what % 7 ≤ 4) : Both m f (doesM m o) (doesM f o) := by
  unfold doesM
  split
  · exact both_create h _
  split
  · exact both_append h _ _
  split
  · exact both_sync h _
  split
  · exact both_rename h _ _
  split
  · exact both_remove h _
  · omega
theorem parts_zero (fails : List Int) (k : Int) : ∀ n, partOf (partsD fails [] n) k = 0
  | 0 => rfl
  | n + 1 => by
    have ih := parts_zero fails k n
    unfold partsD
    split
    · exact ih
    · by_cases e : fails.getD n 0 = k
      · unfold partOf
        rw [e, atKey_put_same (k := .int .i64 k) (partsD_map fails [] n) trivial]
        rfl
      · unfold partOf at ih ⊢
        rw [atKey_put_other (fun h => e (by injection h with h1 h2; exact h2.symm))]
        exact ih
/-- Just the calls whose numbers the plan has. -/
theorem fails_iff (fails parts : List Int) (k : Int) : ∀ n, n ≤ fails.length → (failsAt (partsD fails parts n) k = true ↔ k ∈ fails.take n)
  | 0, _ => by
    constructor
    · intro h; cases h
    · intro h; simp at h
  | n + 1, hn => by
    have ih := fails_iff fails parts k n (by omega)
    have hg : fails[n]? = some (fails[n]'(by omega)) := List.getElem?_eq_getElem _
    have hd : fails.getD n 0 = fails[n]'(by omega) := by rw [List.getD_eq_getElem?_getD, hg]; rfl
    have ht : fails.take (n + 1) = fails.take n ++ [fails[n]'(by omega)] := by rw [List.take_add_one, hg]; rfl
    rw [ht, List.mem_append, List.mem_singleton, ← hd]
    unfold partsD
    split
    · rename_i hh
      rw [ih]
      constructor
      · exact .inl
      · rintro (h | h)
        · exact h
        · rw [h]
          exact (fails_iff fails parts (fails.getD n 0) n (by omega)).1 hh
    · rename_i hh
      unfold failsAt
      by_cases e : k = fails.getD n 0
      · rw [e]
        constructor
        · intro _; exact .inr rfl
        · intro _; exact has_put_same (k := .int .i64 (fails.getD n 0)) (partsD_map fails parts n) trivial _
      · rw [has_put_other (fun h => e (by injection h with h1 h2))]
        constructor
        · intro h; exact .inl (ih.1 h)
        · rintro (h | h)
          · exact ih.2 h
          · exact (e h).elim
end Go.Proofs.Ytkabgebfbbkioaa
