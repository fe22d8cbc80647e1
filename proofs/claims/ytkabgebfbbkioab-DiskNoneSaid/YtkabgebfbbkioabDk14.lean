/-
  Contract: Rename.
-/
import Derived.Test.YtkabgebfbbkioabDk13
namespace Go.Proofs.Ytkabgebfbbkioab
open Go.RowKit Go.Maps

theorem lookF_cut (fs : List (List UInt8 × FileS)) (s : List UInt8) : lookF (cutF fs s) s = none := by
  unfold lookF cutF
  rw [Option.map_eq_none_iff, List.find?_eq_none]
  intro p hp
  have := (List.mem_filter.1 hp).2
  simpa using this
theorem lookF_drop (S : DiskS) (s : List UInt8) : lookF (dropS S s).files s = none := by
  unfold dropS
  split
  · assumption
  · exact lookF_cut _ _
theorem lookF_cut_some {fs : List (List UInt8 × FileS)} {s t : List UInt8} {f : FileS} (h : lookF (cutF fs s) t = some f) : lookF fs t = some f := by
  by_cases e : t = s
  · subst e; rw [lookF_cut] at h; cases h
  · rw [← h]
    clear h
    induction fs with
    | nil => rfl
    | cons p r ih =>
      unfold lookF cutF at ih ⊢
      rw [List.filter_cons]
      by_cases hp : p.1 == t
      · have h1 : p.1 = t := by simpa using hp
        have h2 : (p.1 == s) = false := by rw [h1]; simpa using e
        simp [h2, hp]
      · by_cases h2 : p.1 == s
        · simp only [h2, List.find?_cons, hp]
          simpa using ih
        · simp only [h2, List.find?_cons, hp, Bool.not_false, if_true]
          exact ih

/-- A file that is taken out stands in none of the disk's blocks. -/
theorem DiskAt.out {w : World} {S : DiskS} (h : DiskAt w S) {s : List UInt8} {f : FileS} (hl : lookF S.files s = some f) :
    f.blk ∉ foot { S with files := cutF S.files s } ∧ ∀ g, f.row = some g → g ∉ foot { S with files := cutF S.files s } := by
  obtain ⟨a, b, e, -, -⟩ := lookF_parts hl
  have hcut : cutF S.files s = cutF a s ++ cutF b s := by
    rw [e]; unfold cutF; rw [List.filter_append, List.filter_cons]; simp
  have hap := h.apart
  simp only [foot, e, feet_append, feet_cons] at hap
  have hsub : ∀ k, k ∈ foot { S with files := cutF S.files s } → k ∈ S.dp :: S.mb :: S.fb :: (feet a ++ feet b) := by
    intro k hk
    have hk' : k ∈ S.dp :: S.mb :: S.fb :: feet (cutF S.files s) := hk
    rw [hcut, feet_append] at hk'
    simp only [List.mem_cons, List.mem_append] at hk' ⊢
    rcases hk' with h | h | h | h | h
    · exact .inl h
    · exact .inr (.inl h)
    · exact .inr (.inr (.inl h))
    · exact .inr (.inr (.inr (.inl (feet_cut h))))
    · exact .inr (.inr (.inr (.inr (feet_cut h))))
  simp only [List.nodup_cons, List.mem_cons, List.mem_append, not_or, List.nodup_append, List.cons_append] at hap
  refine ⟨fun hm => ?_, fun g hg hm => ?_⟩
  · have := hsub _ hm
    simp only [List.mem_cons, List.mem_append] at this
    grind
  · have := hsub _ hm
    have hgr : g ∈ f.row.toList := by simp [hg]
    simp only [List.mem_cons, List.mem_append] at this
    grind

def renameM (m : MD) (old name : ByteArray) : MD × Int :=
  if validB name then
    changeM m old fun f =>
      if failsAt m.plan (m.calls + 1) then (m.tick, 12)
      else ({ dropM { m.tick with files := cutM m.files old.data.toList } name.data.toList with files := putM (dropM { m.tick with files := cutM m.files old.data.toList } name.data.toList).files name.data.toList f }, 0)
  else (m.tick, 2)

/-- Behind the three turns of a renaming. -/
theorem step_rename {w w2 w4 w6 : World} {S : DiskS} (hf0 : (S.fn : Int) ≤ S.calls) (h2 : DiskAt w2 S.tick) (o2 : Off [S.dp] w w2) {s t : List UInt8} {f : FileS} (hl : lookF S.files s = some f)
    (h4 : DiskAt w4 (dropS { S.tick with files := cutF S.files s } t)) (o4 : Off [S.dp, S.fb] w2 w4)
    (hm : w6.ownsMap Try.prog 9 ptrR S.fb (S.fn + 1) (FD (putF (dropS { S.tick with files := cutF S.files s } t).files t f))) (o6 : Off [S.fb] w4 w6) :
    Step S w { dropM { (see S).tick with files := cutM (see S).files s } t with files := putM (dropM { (see S).tick with files := cutM (see S).files s } t).files t (f.bytes, f.safe) } w6 := by
  obtain ⟨S2, hS2⟩ : ∃ S2, S2 = dropS { S.tick with files := cutF S.files s } t := ⟨_, rfl⟩
  have e1 : S2.dp = S.dp ∧ S2.fb = S.fb ∧ S2.fn = S.fn ∧ S2.calls = S.calls + 1 ∧ S2.mb = S.mb := by rw [hS2]; unfold dropS; split <;> exact ⟨rfl, rfl, rfl, rfl, rfl⟩
  obtain ⟨x1, x2, x3, x4, x5⟩ := e1
  have hsee : see S2 = dropM { (see S).tick with files := cutM (see S).files s } t := by
    rw [hS2, see_drop]
    simp only [see, DiskS.tick, MD.tick, cut_see]
  have hout := h2.out (S := S.tick) hl
  have hff := h2.file (S := S.tick) hl
  have hrow := h2.row_ne (S := S.tick) hl
  have hn : lookF S2.files t = none := by rw [hS2]; exact lookF_drop _ _
  have hfoot : ∀ k, k ∈ foot S2 → k ∈ foot { S.tick with files := cutF S.files s } := fun k hk => foot_drop (by rw [← hS2]; exact hk)
  have hbdp : f.blk ≠ S.dp ∧ f.blk ≠ S.fb := ⟨fun e => hout.1 (by rw [e]; simp [foot, DiskS.tick]), fun e => hout.1 (by rw [e]; simp [foot, DiskS.tick])⟩
  have hrdp : ∀ g, f.row = some g → g ≠ S.dp ∧ g ≠ S.fb := fun g hg => ⟨fun e => hout.2 g hg (by rw [e]; simp [foot, DiskS.tick]), fun e => hout.2 g hg (by rw [e]; simp [foot, DiskS.tick])⟩
  have hrlt : ∀ g, f.row = some g → g < w2.heap.size := fun g hg => h2.there _ (hff.2.2.1 g hg)
  have hk4 : ∀ k, k < w2.heap.size → k ≠ S.dp → k ≠ S.fb → w6.heap[k]? = w2.heap[k]? := fun k hk n1 n2 =>
    (o6.block k (Nat.lt_of_lt_of_le hk o4.size) (by simpa using n2)).trans (o4.block k hk (by simp [n1, n2]))
  have hf6 : FileAt w6 f := hff.1.kept (hk4 _ hff.2.2.2 hbdp.1 hbdp.2) (fun g hg => hk4 g (hrlt g hg) (hrdp g hg).1 (hrdp g hg).2)
  rw [← hS2] at h4 hm
  have hd := h4.put (s := t) (f := f) hn (by rw [x2, x3]; exact hm) (fun k hk hne => o6.block k (h4.there k hk) (by rw [x2] at hne; simpa using hne)) o6.size hf6
    (fun hm => hout.1 (hfoot _ hm)) (fun g hg => ⟨fun hm => hout.2 g hg (hfoot _ hm), hrow g hg, Nat.lt_of_lt_of_le (hrlt g hg) (Nat.le_trans o4.size o6.size)⟩) (by rw [x3, x4]; omega)
  refine ⟨_, hd, x1, ?_, ?_, ?_⟩
  · rw [← hsee]
    simp only [see, put_see]
  · refine Off.trans (F := foot S) (o2.wide fun k hk => by rw [List.mem_singleton.1 hk]; simp [foot]) (Off.trans (F := [S.dp, S.fb]) o4 o6 (fun k hk => .inl (by rw [List.mem_singleton.1 hk]; simp))) ?_
    intro k hk
    simp only [List.mem_cons, List.not_mem_nil, or_false] at hk
    rcases hk with rfl | rfl <;> exact .inl (by simp [foot])
  · intro k hk
    have hput : putF S2.files t f = insF (t, f) S2.files := by unfold putF; rw [cutF_none hn]
    have hk' : k ∈ S2.dp :: S2.mb :: S2.fb :: feet (putF S2.files t f) := hk
    have hpf := feet_perm (insF_perm (t, f) S2.files)
    rw [feet_cons] at hpf
    rw [hput] at hk'
    left
    have hcutsub : ∀ k, k ∈ foot { S.tick with files := cutF S.files s } → k ∈ foot S := by
      intro k hk
      simp only [foot, DiskS.tick, List.mem_cons] at hk ⊢
      rcases hk with h | h | h | h
      · exact .inl h
      · exact .inr (.inl h)
      · exact .inr (.inr (.inl h))
      · exact .inr (.inr (.inr (feet_cut h)))
    have h2s : ∀ k, k ∈ S2.dp :: S2.mb :: S2.fb :: feet S2.files → k ∈ foot S := fun k hk => hcutsub k (hfoot k hk)
    simp only [List.mem_cons, hpf.mem_iff, List.mem_append, List.cons_append] at hk' h2s
    have hb := hff.2.1
    have hr : ∀ g ∈ f.row.toList, g ∈ foot S := fun g hg => hff.2.2.1 g (by simpa using hg)
    have hb' : f.blk ∈ foot S := hb
    grind
end Go.Proofs.Ytkabgebfbbkioab
