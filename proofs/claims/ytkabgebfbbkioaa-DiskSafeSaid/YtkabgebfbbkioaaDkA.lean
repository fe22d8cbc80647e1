/-
  What a disk's operations keep: plain mathematics of a disk as it is seen.
-/
import Derived.Test.YtkabgebfbbkioaaDk21
namespace Go.Proofs.Ytkabgebfbbkioaa
open Go.RowKit Go.Maps

abbrev MF := List (List UInt8 × List UInt8 × Nat)
def nodupM (fs : MF) : Prop := (fs.map (·.1)).Nodup

theorem lookM_split {fs : MF} {s : List UInt8} {f : List UInt8 × Nat} (hn : nodupM fs) (h : lookM fs s = some f) :
    ∃ a b, fs = a ++ (s, f) :: b ∧ (∀ p ∈ a, (p.1 == s) = false) ∧ (∀ p ∈ b, (p.1 == s) = false) := by
  induction fs with
  | nil => cases h
  | cons p r ih =>
    unfold nodupM at hn
    rw [List.map_cons, List.nodup_cons] at hn
    by_cases hp : p.1 == s
    · have e : p.1 = s := by simpa using hp
      simp [lookM, hp] at h
      refine ⟨[], r, by rw [List.nil_append, ← e, ← h], by simp, fun q hq => ?_⟩
      rw [beq_eq_false_iff_ne]
      intro e2
      exact hn.1 (List.mem_map.2 ⟨q, hq, by rw [e2, e]⟩)
    · have h' : lookM r s = some f := by simpa [lookM, hp] using h
      obtain ⟨a, b, e, ha, hb⟩ := ih hn.2 h'
      refine ⟨p :: a, b, by rw [e]; rfl, fun q hq => ?_, hb⟩
      rcases List.mem_cons.1 hq with rfl | hq
      · simpa using hp
      · exact ha q hq
theorem setM_split {a b : MF} {s : List UInt8} {f g : List UInt8 × Nat} (ha : ∀ p ∈ a, (p.1 == s) = false) : setM (a ++ (s, f) :: b) s g = a ++ (s, g) :: b := by
  induction a with
  | nil => simp [setM]
  | cons p a ih =>
    have h1 := ha p (List.mem_cons_self ..)
    have h2 := ih (fun q hq => ha q (List.mem_cons_of_mem _ hq))
    simp only [List.cons_append, setM, h1, h2]
    simp
theorem cutM_split {a b : MF} {s : List UInt8} {f : List UInt8 × Nat} (ha : ∀ p ∈ a, (p.1 == s) = false) (hb : ∀ p ∈ b, (p.1 == s) = false) : cutM (a ++ (s, f) :: b) s = a ++ b := by
  unfold cutM
  rw [List.filter_append, List.filter_cons]
  have h1 : a.filter (fun p => !(p.1 == s)) = a := List.filter_eq_self.2 fun p hp => by rw [ha p hp]; rfl
  have h2 : b.filter (fun p => !(p.1 == s)) = b := List.filter_eq_self.2 fun p hp => by rw [hb p hp]; rfl
  rw [h1, h2]
  simp
theorem lookM_none {fs : MF} {s : List UInt8} (h : lookM fs s = none) : ∀ p ∈ fs, (p.1 == s) = false := by
  intro p hp
  unfold lookM at h
  simp only [Option.map_eq_none_iff, List.find?_eq_none] at h
  simpa using h p hp
theorem cutM_none {fs : MF} {s : List UInt8} (h : lookM fs s = none) : cutM fs s = fs := List.filter_eq_self.2 fun p hp => by rw [lookM_none h p hp]; rfl
theorem sumM_app (a b : MF) : sumM (a ++ b) = sumM a + sumM b := by simp [sumM]
theorem sumM_cons (p : List UInt8 × List UInt8 × Nat) (b : MF) : sumM (p :: b) = p.2.1.length + sumM b := by simp [sumM]
theorem insM_perm (q : List UInt8 × List UInt8 × Nat) (fs : MF) : (insM q fs).Perm (q :: fs) := by
  induction fs with
  | nil => exact List.Perm.refl _
  | cons p r ih =>
    simp only [insM]
    split
    · exact List.Perm.refl _
    · exact (List.Perm.cons p ih).trans (List.Perm.swap ..)
theorem sumM_ins (q : List UInt8 × List UInt8 × Nat) (fs : MF) : sumM (insM q fs) = q.2.1.length + sumM fs := by
  rw [← sumM_cons]
  exact ((insM_perm q fs).map _).sum_nat
theorem len_ins (q : List UInt8 × List UInt8 × Nat) (fs : MF) : (insM q fs).length = fs.length + 1 := (insM_perm q fs).length_eq
theorem mem_ins {q p : List UInt8 × List UInt8 × Nat} {fs : MF} (h : p ∈ insM q fs) : p = q ∨ p ∈ fs := List.mem_cons.1 ((insM_perm q fs).mem_iff.1 h)
theorem mem_cutM {p : List UInt8 × List UInt8 × Nat} {fs : MF} {s : List UInt8} (h : p ∈ cutM fs s) : p ∈ fs := (List.mem_filter.1 h).1
theorem len_cutM (fs : MF) (s : List UInt8) : (cutM fs s).length ≤ fs.length := List.length_filter_le _ _
theorem nodup_cut {fs : MF} (s : List UInt8) (h : nodupM fs) : nodupM (cutM fs s) := List.Nodup.sublist (List.Sublist.map _ List.filter_sublist) h
theorem look_cut (fs : MF) (s : List UInt8) : lookM (cutM fs s) s = none := by
  unfold lookM cutM
  simp only [Option.map_eq_none_iff, List.find?_eq_none, List.mem_filter]
  intro p hp
  simpa using hp.2
theorem crashMF_len (keeps : List Int) : ∀ (i : Nat) (fs : MF), (crashMF keeps i fs).length = fs.length
  | _, [] => rfl
  | i, p :: r => by simp only [crashMF, List.length_cons, crashMF_len keeps (i + 1) r]
theorem crashMF_names (keeps : List Int) : ∀ (i : Nat) (fs : MF), (crashMF keeps i fs).map (·.1) = fs.map (·.1)
  | _, [] => rfl
  | i, p :: r => by simp only [crashMF, List.map_cons, crashMF_names keeps (i + 1) r]
theorem crashMF_sum (keeps : List Int) : ∀ (i : Nat) (fs : MF), sumM (crashMF keeps i fs) ≤ sumM fs
  | _, [] => Nat.le_refl _
  | i, p :: r => by
    have := crashMF_sum keeps (i + 1) r
    simp only [crashMF, sumM_cons, List.length_take]
    omega

/-! ## What is done -/
structure DOp where
  what : Nat
  s : ByteArray
  t : ByteArray
  b : List UInt8
  keeps : List Int
def doesM (m : MD) (o : DOp) : MD × Int :=
  if o.what % 7 = 0 then createM m o.s
  else if o.what % 7 = 1 then appendM m o.s o.b
  else if o.what % 7 = 2 then syncM m o.s
  else if o.what % 7 = 3 then renameM m o.s o.t
  else if o.what % 7 = 4 then removeM m o.s
  else if o.what % 7 = 6 then (crashM m o.keeps, 0)
  else (m, 0)
def runM (m : MD) (l : List DOp) : MD := l.foldl (fun m o => (doesM m o).1) m

/-- Behind j operations. -/
structure Inv (m : MD) (j : Nat) : Prop where
  sum : m.used = (sumM m.files : Int)
  cap : m.used ≤ m.cap
  small : m.used ≤ 60 * (j : Int)
  max : m.cap ≤ 9223372036854775807
  calls0 : 0 ≤ m.calls
  calls : m.calls ≤ (j : Int)
  part : ∀ k, 0 ≤ partOf m.plan k
  names : ∀ p ∈ m.files, validB ⟨p.1.toArray⟩ = true
  few : m.files.length ≤ j
theorem Inv.good {m : MD} {j : Nat} (h : Inv m j) (hj : j ≤ 100000) : Good m :=
  ⟨h.sum, h.cap, by have := h.small; omega, h.max, h.calls0, by have := h.calls; omega, h.part _, h.names, by have := h.few; omega⟩
theorem Inv.more {m : MD} {j k : Nat} (h : Inv m j) (hk : j ≤ k) : Inv m k :=
  ⟨h.sum, h.cap, by have := h.small; omega, h.max, h.calls0, by have := h.calls; omega, h.part, h.names, by have := h.few; omega⟩
theorem Inv.tick {m : MD} {j : Nat} (h : Inv m j) : Inv m.tick (j + 1) :=
  ⟨h.sum, h.cap, by have := h.small; simp only [MD.tick]; omega, h.max, by have := h.calls0; simp only [MD.tick]; omega, by have := h.calls; simp only [MD.tick]; omega, h.part, h.names, by have := h.few; simp only [MD.tick]; omega⟩
theorem valid_eta (s : ByteArray) : (⟨s.data.toList.toArray⟩ : ByteArray) = s := by simp

theorem Inv.create {m : MD} {j : Nat} (h : Inv m j) (s : ByteArray) : Inv (createM m s).1 (j + 1) := by
  unfold createM
  split
  · rename_i hv
    split
    · exact h.tick
    · rename_i hl
      split
      · exact h.tick
      · have hn : lookM m.files s.data.toList = none := by simpa using hl
        have ht := h.tick
        refine ⟨?_, ht.cap, ht.small, ht.max, ht.calls0, ht.calls, ht.part, fun p hp => ?_, ?_⟩
        · show m.used = _
          rw [h.sum]
          simp only [putM, sumM_ins, cutM_none hn]
          simp
        · rcases mem_ins hp with rfl | hp
          · rw [valid_eta]; exact hv
          · exact h.names p (mem_cutM hp)
        · show (putM m.files s.data.toList ([], 0)).length ≤ _
          have := h.few
          have := len_cutM m.files s.data.toList
          simp only [putM, len_ins]; omega
  · exact h.tick
theorem Inv.setFile {m : MD} {j : Nat} (h : Inv m j) (hn : nodupM m.files) {s : List UInt8} {f g : List UInt8 × Nat} (hl : lookM m.files s = some f) {u : Int} (hu : u = m.used + (g.1.length : Int) - (f.1.length : Int)) (hc : u ≤ m.cap) (hs : u ≤ m.used + 60) :
    Inv { m.tick with files := setM m.files s g, used := u } (j + 1) := by
  obtain ⟨a, b, e, ha, hb⟩ := lookM_split hn hl
  have ht := h.tick
  have he : setM m.files s g = a ++ (s, g) :: b := by rw [e]; exact setM_split ha
  refine ⟨?_, hc, ?_, ht.max, ht.calls0, ht.calls, ht.part, ?_, ?_⟩
  · show u = ((sumM (setM m.files s g) : Nat) : Int)
    have := h.sum
    rw [e] at this
    rw [he]
    simp only [sumM_app, sumM_cons] at this ⊢
    omega
  · show u ≤ 60 * ((j + 1 : Nat) : Int)
    have := h.small
    omega
  · intro p hp
    have hp : p ∈ setM m.files s g := hp
    rw [he] at hp
    rcases List.mem_append.1 hp with hp | hp
    · exact h.names p (by rw [e]; simp [hp])
    · rcases List.mem_cons.1 hp with rfl | hp
      · exact h.names (s, f) (by rw [e]; simp)
      · exact h.names p (by rw [e]; simp [hp])
  · show (setM m.files s g).length ≤ j + 1
    have := h.few
    rw [e] at this
    rw [he]
    simp at this ⊢; omega
theorem Inv.append {m : MD} {j : Nat} (h : Inv m j) (hn : nodupM m.files) (s : ByteArray) {l : List UInt8} (hl : l.length ≤ 60) : Inv (appendM m s l).1 (j + 1) := by
  unfold appendM changeM
  split
  · split
    · exact h.tick
    · rename_i f hf
      have hp := h.part (m.calls + 1)
      have hc := h.cap
      split
      · refine h.setFile hn hf ?_ ?_ ?_
        · rw [List.length_append, List.length_take]
          omega
        · omega
        · omega
      · split
        · exact h.tick
        · refine h.setFile hn hf ?_ ?_ ?_
          · rw [List.length_append]; omega
          · omega
          · omega
  · exact h.tick
theorem Inv.sync {m : MD} {j : Nat} (h : Inv m j) (hn : nodupM m.files) (s : ByteArray) : Inv (syncM m s).1 (j + 1) := by
  unfold syncM changeM
  split
  · split
    · exact h.tick
    · rename_i f hf
      split
      · exact h.tick
      · exact h.setFile hn hf (g := (f.1, f.1.length)) (u := m.used) (by simp only []; omega) h.cap (by omega)
  · exact h.tick
theorem drop_sum {m : MD} (hn : nodupM m.files) (hs : m.used = (sumM m.files : Int)) (s : List UInt8) : (dropM m s).used = (sumM (dropM m s).files : Int) ∧ (dropM m s).used ≤ m.used ∧ (dropM m s).files.length ≤ m.files.length ∧ (∀ p ∈ (dropM m s).files, p ∈ m.files) ∧ (dropM m s).files = cutM m.files s := by
  unfold dropM
  split
  · rename_i hl
    exact ⟨hs, Int.le_refl _, Nat.le_refl _, fun p hp => hp, (cutM_none hl).symm⟩
  · rename_i f hf
    obtain ⟨a, b, e, ha, hb⟩ := lookM_split hn hf
    have he : cutM m.files s = a ++ b := by rw [e]; exact cutM_split ha hb
    refine ⟨?_, ?_, len_cutM _ _, fun p hp => mem_cutM hp, rfl⟩
    · show m.used - (f.1.length : Int) = ((sumM (cutM m.files s) : Nat) : Int)
      rw [he, hs, e]
      simp only [sumM_app, sumM_cons]
      omega
    · show m.used - (f.1.length : Int) ≤ m.used
      omega
theorem dropM_keep (m : MD) (s : List UInt8) : (dropM m s).cap = m.cap ∧ (dropM m s).calls = m.calls ∧ (dropM m s).plan = m.plan := by
  unfold dropM
  split <;> exact ⟨rfl, rfl, rfl⟩
theorem Inv.remove {m : MD} {j : Nat} (h : Inv m j) (hn : nodupM m.files) (s : ByteArray) : Inv (removeM m s).1 (j + 1) := by
  unfold removeM changeM
  split
  · split
    · exact h.tick
    · split
      · exact h.tick
      · have ht := h.tick
        obtain ⟨k1, k2, k3⟩ := dropM_keep m.tick s.data.toList
        obtain ⟨d1, d2, d3, d4, _⟩ := drop_sum (m := m.tick) hn ht.sum s.data.toList
        have e1 := ht.cap
        have e2 := ht.small
        have e3 := ht.max
        have e4 := ht.few
        show Inv (dropM m.tick s.data.toList) (j + 1)
        refine ⟨d1, ?_, ?_, ?_, ?_, ?_, ?_, fun p hp => ht.names p (d4 p hp), ?_⟩
        · rw [k1]; omega
        · show (dropM m.tick s.data.toList).used ≤ _; omega
        · rw [k1]; exact e3
        · rw [k2]; exact ht.calls0
        · rw [k2]; exact ht.calls
        · rw [k3]; exact ht.part
        · show (dropM m.tick s.data.toList).files.length ≤ _; omega
  · exact h.tick
theorem Inv.rename {m : MD} {j : Nat} (h : Inv m j) (hn : nodupM m.files) (s t : ByteArray) : Inv (renameM m s t).1 (j + 1) := by
  unfold renameM
  split
  · rename_i hv
    unfold changeM
    split
    · split
      · exact h.tick
      · rename_i f hf
        split
        · exact h.tick
        · obtain ⟨a, b, e, ha, hb⟩ := lookM_split hn hf
          have he : cutM m.files s.data.toList = a ++ b := by rw [e]; exact cutM_split ha hb
          have ht := h.tick
          have hn1 := nodup_cut s.data.toList hn
          obtain ⟨m1, hm1⟩ : ∃ m1 : MD, m1 = { m.tick with files := cutM m.files s.data.toList, used := m.used - (f.1.length : Int) } := ⟨_, rfl⟩
          have hs1 : m1.used = (sumM m1.files : Int) := by
            subst hm1
            show m.used - (f.1.length : Int) = ((sumM (cutM m.files s.data.toList) : Nat) : Int)
            rw [he, h.sum, e]
            simp only [sumM_app, sumM_cons]
            omega
          obtain ⟨d1, d2, d3, d4, d5⟩ := drop_sum (m := m1) (by subst hm1; exact hn1) hs1 t.data.toList
          have hdf : ∀ u : Int, (dropM { m.tick with files := cutM m.files s.data.toList, used := u } t.data.toList).files = (dropM m1 t.data.toList).files ∧ (dropM { m.tick with files := cutM m.files s.data.toList, used := u } t.data.toList).used = (dropM m1 t.data.toList).used + (u - (m.used - (f.1.length : Int))) := by
            intro u
            subst hm1
            unfold dropM
            dsimp only
            split <;> (refine ⟨rfl, ?_⟩; dsimp only; omega)
          obtain ⟨f1, f2⟩ := hdf m.used
          obtain ⟨k1, k2, k3⟩ := dropM_keep { m.tick with files := cutM m.files s.data.toList } t.data.toList
          have hcut : cutM (dropM m1 t.data.toList).files t.data.toList = (dropM m1 t.data.toList).files := by
            rw [d5]; exact cutM_none (look_cut _ _)
          have hfiles : putM (dropM { m.tick with files := cutM m.files s.data.toList } t.data.toList).files t.data.toList f = insM (t.data.toList, f) (dropM m1 t.data.toList).files := by
            unfold putM
            rw [show (dropM { m.tick with files := cutM m.files s.data.toList } t.data.toList).files = (dropM m1 t.data.toList).files from f1, hcut]
          have hused : (dropM { m.tick with files := cutM m.files s.data.toList } t.data.toList).used = (dropM m1 t.data.toList).used + (f.1.length : Int) := by
            have : (dropM { m.tick with files := cutM m.files s.data.toList } t.data.toList).used = (dropM m1 t.data.toList).used + (m.used - (m.used - (f.1.length : Int))) := f2
            rw [this]; omega
          have hm1u : m1.used = m.used - (f.1.length : Int) := by subst hm1; rfl
          have hm1f : m1.files = cutM m.files s.data.toList := by subst hm1; rfl
          have e1 := ht.cap
          have e2 := ht.small
          have hcl : (cutM m.files s.data.toList).length + 1 ≤ m.files.length := by rw [he, e]; simp; omega
          have e4 := ht.few
          have e1' : m.used ≤ m.cap := h.cap
          have e2' : m.used ≤ 60 * (j : Int) := h.small
          refine ⟨?_, ?_, ?_, ?_, ?_, ?_, ?_, fun p hp => ?_, ?_⟩
          · show (dropM { m.tick with files := cutM m.files s.data.toList } t.data.toList).used = ((sumM (putM (dropM { m.tick with files := cutM m.files s.data.toList } t.data.toList).files t.data.toList f) : Nat) : Int)
            rw [hfiles, hused, sumM_ins, d1]
            simp only []
            omega
          · show (dropM { m.tick with files := cutM m.files s.data.toList } t.data.toList).used ≤ (dropM { m.tick with files := cutM m.files s.data.toList } t.data.toList).cap
            rw [k1, hused]
            show _ ≤ m.cap
            omega
          · show (dropM { m.tick with files := cutM m.files s.data.toList } t.data.toList).used ≤ _
            rw [hused]
            omega
          · show (dropM { m.tick with files := cutM m.files s.data.toList } t.data.toList).cap ≤ _
            rw [k1]; exact h.max
          · show 0 ≤ (dropM { m.tick with files := cutM m.files s.data.toList } t.data.toList).calls
            rw [k2]; exact ht.calls0
          · show (dropM { m.tick with files := cutM m.files s.data.toList } t.data.toList).calls ≤ _
            rw [k2]; exact ht.calls
          · show ∀ k, 0 ≤ partOf (dropM { m.tick with files := cutM m.files s.data.toList } t.data.toList).plan k
            rw [k3]; exact h.part
          · have hp : p ∈ putM (dropM { m.tick with files := cutM m.files s.data.toList } t.data.toList).files t.data.toList f := hp
            rw [hfiles] at hp
            rcases mem_ins hp with rfl | hp
            · rw [valid_eta]; exact hv
            · have := d4 p hp
              rw [hm1f] at this
              exact h.names p (mem_cutM this)
          · show (putM (dropM { m.tick with files := cutM m.files s.data.toList } t.data.toList).files t.data.toList f).length ≤ j + 1
            rw [hfiles, len_ins]
            rw [hm1f] at d3
            have : m.files.length ≤ j := h.few
            omega
    · exact h.tick
  · exact h.tick
theorem Inv.crash {m : MD} {j : Nat} (h : Inv m j) (keeps : List Int) : Inv (crashM m keeps) j := by
  have hs := crashMF_sum keeps 0 m.files
  have h1 := h.sum
  have h2 := h.cap
  have h3 := h.small
  refine ⟨rfl, ?_, ?_, h.max, h.calls0, h.calls, h.part, fun p hp => ?_, by have := h.few; simp only [crashM, crashMF_len]; omega⟩
  · show ((sumM (crashMF keeps 0 m.files) : Nat) : Int) ≤ m.cap; omega
  · show ((sumM (crashMF keeps 0 m.files) : Nat) : Int) ≤ _; omega
  · have hm : p.1 ∈ (crashMF keeps 0 m.files).map (·.1) := List.mem_map.2 ⟨p, hp, rfl⟩
    rw [crashMF_names] at hm
    obtain ⟨q, hq, e⟩ := List.mem_map.1 hm
    rw [← e]; exact h.names q hq
theorem Inv.does {m : MD} {j : Nat} (h : Inv m j) (hn : nodupM m.files) {o : DOp} (hb : o.b.length ≤ 60) : Inv (doesM m o).1 (j + 1) := by
  unfold doesM
  split
  · exact h.create _
  split
  · exact h.append hn _ hb
  split
  · exact h.sync hn _
  split
  · exact h.rename hn _ _
  split
  · exact h.remove hn _
  split
  · exact (h.crash _).more (Nat.le_succ _)
  · exact h.more (Nat.le_succ _)
/-- Names rise in a disk. -/
theorem At.rise {w0 w : World} {S : DiskS} {m : MD} (h : At w0 w S m) : m.files.Pairwise (fun p q => bytesBefore p.1 q.1 = true) := by
  obtain ⟨es, e, hpw, -⟩ := h.disk.names.canon keyed_s
  injection e with e
  subst e
  rw [← h.see]
  show (seeF S.files).Pairwise _
  unfold seeF
  rw [List.pairwise_map] at hpw ⊢
  exact hpw.imp fun {a b} hab => hab
theorem At.nodup {w0 w : World} {S : DiskS} {m : MD} (h : At w0 w S m) : nodupM m.files := by
  have := keys_nodup (h.disk.names.canon keyed_s)
  rw [← h.see]
  show ((seeF S.files).map (·.1)).Nodup
  unfold seeF
  rw [List.map_map]
  exact this
end Go.Proofs.Ytkabgebfbbkioaa
