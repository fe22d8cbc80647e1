/-
  A disk's files: one that turns; a disk as it is seen.
-/
import Derived.Test.YtkabgebfbbkioabDk5
namespace Go.Proofs.Ytkabgebfbbkioab
open Go.RowKit Go.Maps

def setF : List (List UInt8 × FileS) → List UInt8 → FileS → List (List UInt8 × FileS)
  | [], _, _ => []
  | p :: r, s, f => if p.1 == s then (p.1, f) :: r else p :: setF r s f

theorem lookF_parts {fs : List (List UInt8 × FileS)} {s : List UInt8} {f : FileS} (h : lookF fs s = some f) :
    ∃ a b, fs = a ++ (s, f) :: b ∧ (∀ p ∈ a, (p.1 == s) = false) ∧ ∀ f', setF fs s f' = a ++ (s, f') :: b := by
  induction fs with
  | nil => cases h
  | cons p r ih =>
    by_cases hp : p.1 == s
    · refine ⟨[], r, ?_, by simp, fun f' => ?_⟩
      · simp [lookF, hp] at h
        have : p.1 = s := by simpa using hp
        rw [List.nil_append, ← this, ← h]
      · have : p.1 = s := by simpa using hp
        simp [setF, this]
    · have h' : lookF r s = some f := by simpa [lookF, hp] using h
      obtain ⟨a, b, e, ha, hs⟩ := ih h'
      refine ⟨p :: a, b, by rw [e]; rfl, ?_, fun f' => ?_⟩
      · intro q hq
        rcases List.mem_cons.1 hq with rfl | hq
        · simpa using hp
        · exact ha q hq
      · simp [setF, hp, hs f']

theorem feet_append (a b : List (List UInt8 × FileS)) : feet (a ++ b) = feet a ++ feet b := by simp [feet]
theorem feet_cons (p : List UInt8 × FileS) (b : List (List UInt8 × FileS)) : feet (p :: b) = p.2.blk :: p.2.row.toList ++ feet b := by simp [feet]

/-- A file that a disk has. -/
theorem DiskAt.file {w : World} {S : DiskS} (h : DiskAt w S) {s : List UInt8} {f : FileS} (hl : lookF S.files s = some f) :
    FileAt w f ∧ f.blk ∈ foot S ∧ (∀ g, f.row = some g → g ∈ foot S) ∧ f.blk < w.heap.size := by
  obtain ⟨a, b, e, -, -⟩ := lookF_parts hl
  have hm : (s, f) ∈ S.files := by rw [e]; simp
  have := mem_feet hm
  exact ⟨h.each _ hm, by simp [foot, this.1], fun g e => by simp [foot, this.2 g e], h.there _ (by simp [foot, this.1])⟩

theorem DiskAt.row_ne {w : World} {S : DiskS} (h : DiskAt w S) {s : List UInt8} {f : FileS} (hl : lookF S.files s = some f) : ∀ g, f.row = some g → g ≠ f.blk := by
  obtain ⟨a, b, e, -, -⟩ := lookF_parts hl
  have hap := h.apart
  simp only [foot, e, feet_append, feet_cons] at hap
  intro g hg eg
  simp only [hg, List.nodup_cons, List.mem_cons, List.mem_append, not_or, List.nodup_append, List.cons_append, Option.toList_some] at hap
  grind

/-- A file turns, in its own blocks or in new ones. -/
theorem DiskAt.setFile {w w' : World} {S : DiskS} (h : DiskAt w S) {s : List UInt8} {f f' : FileS} (hl : lookF S.files s = some f) (hb : f'.blk = f.blk)
    (hr : f'.row = f.row ∨ ∃ g, f'.row = some g ∧ w.heap.size ≤ g ∧ g < w'.heap.size) (ho : Off (f.blk :: f.row.toList) w w') (hf : FileAt w' f') :
    DiskAt w' { S with files := setF S.files s f' } := by
  obtain ⟨a, b, e, -, hs⟩ := lookF_parts hl
  have hfe : feet S.files = feet a ++ (f.blk :: f.row.toList ++ feet b) := by rw [e, feet_append, feet_cons]
  have hfe' : feet (setF S.files s f') = feet a ++ (f'.blk :: f'.row.toList ++ feet b) := by rw [hs, feet_append, feet_cons]
  have hap := h.apart
  simp only [foot, hfe] at hap
  have hth := h.there
  simp only [foot, hfe] at hth
  have keep : ∀ k, k ∈ S.dp :: S.mb :: S.fb :: (feet a ++ feet b) → w'.heap[k]? = w.heap[k]? := by
    intro k hk
    refine ho.block k (hth k ?_) ?_
    · simp only [List.mem_cons, List.mem_append] at hk ⊢
      grind
    · intro hm
      simp only [List.nodup_cons, List.mem_cons, List.mem_append, not_or, List.nodup_append, List.cons_append] at hap
      simp only [List.mem_cons, List.mem_append] at hk hm
      grind
  have hfd : FD (setF S.files s f') = FD S.files := by rw [hs, e]; simp [FD, hb]
  refine ⟨(keep _ (by simp)).trans h.head, ownsMap_kept h.parts (keep _ (by simp)), ?_, ?_, ?_, ?_, h.few⟩
  · show w'.ownsMap _ _ _ _ _ (FD (setF S.files s f'))
    rw [hfd]
    exact ownsMap_kept h.names (keep _ (by simp))
  · intro p hp
    rw [show (DiskS.files { S with files := setF S.files s f' }) = a ++ (s, f') :: b from hs f'] at hp
    rcases List.mem_append.1 hp with hp | hp
    · have hm : p ∈ S.files := by rw [e]; simp [hp]
      have hq := mem_feet (fs := a) hp
      exact (h.each p hm).kept (keep _ (by simp [hq.1])) (fun g eg => keep _ (by simp [hq.2 g eg]))
    · rcases List.mem_cons.1 hp with rfl | hp
      · exact hf
      · have hm : p ∈ S.files := by rw [e]; simp [hp]
        have hq := mem_feet (fs := b) hp
        exact (h.each p hm).kept (keep _ (by simp [hq.1])) (fun g eg => keep _ (by simp [hq.2 g eg]))
  · show (S.dp :: S.mb :: S.fb :: feet (setF S.files s f')).Nodup
    rw [hfe', hb]
    rcases hr with hr | ⟨g, hg, hg1, hg2⟩
    · rw [hr]; exact hap
    · rw [hg]
      have n1 : ∀ k, k ∈ S.dp :: S.mb :: S.fb :: (feet a ++ (f.blk :: f.row.toList ++ feet b)) → k ≠ g := fun k hk e => by have := hth k hk; omega
      simp only [List.nodup_cons, List.mem_cons, List.mem_append, not_or, List.nodup_append, List.cons_append, Option.toList_some] at hap n1 ⊢
      grind
  · intro k hk
    have hk' : k ∈ S.dp :: S.mb :: S.fb :: feet (setF S.files s f') := hk
    rw [hfe', hb] at hk'
    rcases hr with hr | ⟨g, hg, hg1, hg2⟩
    · rw [hr] at hk'; exact Nat.lt_of_lt_of_le (hth k hk') ho.size
    · rw [hg] at hk'
      by_cases e : k = g
      · rw [e]; exact hg2
      · refine Nat.lt_of_lt_of_le (hth k ?_) ho.size
        simp only [List.mem_cons, List.mem_append, Option.toList_some, List.cons_append] at hk' ⊢
        grind

/-! ## A disk as it is seen -/
structure MD where
  cap : Int
  used : Int
  calls : Int
  plan : DataW Unit
  files : List (List UInt8 × List UInt8 × Nat)

def seeF (fs : List (List UInt8 × FileS)) : List (List UInt8 × List UInt8 × Nat) := fs.map fun p => (p.1, p.2.bytes, p.2.safe)
def see (S : DiskS) : MD := ⟨S.cap, S.used, S.calls, S.plan, seeF S.files⟩
def lookM (fs : List (List UInt8 × List UInt8 × Nat)) (s : List UInt8) : Option (List UInt8 × Nat) := (fs.find? (·.1 == s)).map (·.2)
def setM : List (List UInt8 × List UInt8 × Nat) → List UInt8 → List UInt8 × Nat → List (List UInt8 × List UInt8 × Nat)
  | [], _, _ => []
  | p :: r, s, f => if p.1 == s then (p.1, f) :: r else p :: setM r s f
def cutM (fs : List (List UInt8 × List UInt8 × Nat)) (s : List UInt8) : List (List UInt8 × List UInt8 × Nat) := fs.filter (fun p => !(p.1 == s))
def insM (q : List UInt8 × List UInt8 × Nat) : List (List UInt8 × List UInt8 × Nat) → List (List UInt8 × List UInt8 × Nat)
  | [] => [q]
  | p :: r => if bytesBefore q.1 p.1 then q :: p :: r else p :: insM q r
def putM (fs : List (List UInt8 × List UInt8 × Nat)) (s : List UInt8) (f : List UInt8 × Nat) : List (List UInt8 × List UInt8 × Nat) := insM (s, f) (cutM fs s)

theorem look_see (fs : List (List UInt8 × FileS)) (s : List UInt8) : lookM (seeF fs) s = (lookF fs s).map fun f => (f.bytes, f.safe) := by
  unfold lookM lookF seeF
  rw [List.find?_map]
  simp only [Option.map_map]
  rfl
theorem set_see (fs : List (List UInt8 × FileS)) (s : List UInt8) (f : FileS) : seeF (setF fs s f) = setM (seeF fs) s (f.bytes, f.safe) := by
  induction fs with
  | nil => rfl
  | cons p r ih =>
    simp only [setF, seeF, List.map_cons, setM]
    split
    · rfl
    · rw [List.map_cons]; exact congrArg _ ih
theorem cut_see (fs : List (List UInt8 × FileS)) (s : List UInt8) : seeF (cutF fs s) = cutM (seeF fs) s := by
  simp only [seeF, cutF, cutM, List.filter_map]
  rfl
theorem ins_see (q : List UInt8 × FileS) (fs : List (List UInt8 × FileS)) : seeF (insF q fs) = insM (q.1, q.2.bytes, q.2.safe) (seeF fs) := by
  induction fs with
  | nil => rfl
  | cons p r ih =>
    simp only [insF, seeF, List.map_cons, insM]
    split
    · rfl
    · rw [List.map_cons]; exact congrArg _ ih
theorem put_see (fs : List (List UInt8 × FileS)) (s : List UInt8) (f : FileS) : seeF (putF fs s f) = putM (seeF fs) s (f.bytes, f.safe) := by
  simp only [putF, putM, ins_see, cut_see]

/-- What a call comes to: the same disk, in its own blocks or in new ones, seen as m. -/
def Step (S : DiskS) (w : World) (m : MD) (w' : World) : Prop :=
  ∃ S1, DiskAt w' S1 ∧ S1.dp = S.dp ∧ see S1 = m ∧ Off (foot S) w w' ∧ ∀ k ∈ foot S1, k ∈ foot S ∨ w.heap.size ≤ k

def MD.tick (m : MD) : MD := { m with calls := m.calls + 1 }
theorem step_tick {w w1 : World} {S : DiskS} (h : DiskAt w1 S.tick) (ho : Off [S.dp] w w1) : Step S w (see S).tick w1 :=
  ⟨S.tick, h, rfl, rfl, ⟨ho.os, ho.tape, ho.output, ho.size, fun k hk hn => ho.block k hk (fun e => hn (by rw [List.mem_singleton.1 e]; simp [foot]))⟩, fun _ hk => .inl hk⟩
end Go.Proofs.Ytkabgebfbbkioab
