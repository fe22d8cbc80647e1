/-
  Contract: maps.Clone of the parts (by the shelf); a copy's state at its start.
-/
import Derived.Test.YtkabgebfbbkioaaDkH
import Derived.Shelf.SlMaps.Clone
import Derived.Test.YtkabgebfbbkioaaDkV
namespace Go.Proofs.Ytkabgebfbbkioaa
open Go.RowKit Go.Maps

theorem clone_m {w : World} {b : Nat} {es : Array MapEntry} {cl : Nat} (hb : w.heap[b]? = some (.map es cl)) :
    Calls Try.prog 53 #[.map (some b)] w fun e w' => e = .returned (.map (some w.heap.size)) ∧ w' = w.alloc (.map es cl) := by
  have := AnyW.maps_Clone Try.cloneM b es cl w hb
  exact this

/-- A copy's state, with the files fs. -/
def copyS (S : DiskS) (dp mb fb : Nat) (fs : List (List UInt8 × FileS)) : DiskS := ⟨dp, mb, fb, S.mn, fs.length, S.cap, S.used, S.calls, S.plan, fs⟩
theorem copy_start {w W : World} {S : DiskS} (h : DiskAt w S) {dp mb fb : Nat} (h1 : W.heap[mb]? = w.heap[S.mb]?) (h2 : W.heap[fb]? = some (.map #[] 0))
    (h3 : W.heap[dp]? = some (.cells #[.pointer (some ⟨dp, 0, none⟩), .int .i64 S.cap, .int .i64 S.used, .int .i64 S.calls, .map (some mb), .map (some fb)] 74))
    (hd : dp ≠ mb ∧ dp ≠ fb ∧ mb ≠ fb) : DiskAt W (copyS S dp mb fb []) := by
  obtain ⟨es, cl, hb, hr⟩ := h.parts
  have hmb := (Array.getElem?_eq_some_iff.1 (h1.trans hb)).1
  have hfb := (Array.getElem?_eq_some_iff.1 h2).1
  have hdp := (Array.getElem?_eq_some_iff.1 h3).1
  have h0 : (0 : Int) ≤ S.calls := by have := h.few; omega
  refine ⟨h3, ⟨es, cl, h1.trans hb, hr⟩, ?_, fun p hp => (by cases hp), ?_, ?_, ?_⟩
  · have hempty := World.ownsMap_made (H := Unit) w Try.prog 9 ptrR
    obtain ⟨es', cl', hb', hr'⟩ := hempty
    rw [heap_alloc_new] at hb'
    injection hb' with hb'
    injection hb' with e1 e2
    subst e1
    subst e2
    exact ⟨_, _, h2, hr'⟩
  · show (dp :: mb :: fb :: feet []).Nodup
    simp [feet]
    exact ⟨⟨hd.1, hd.2.1⟩, hd.2.2⟩
  · intro k hk
    have hk : k ∈ dp :: mb :: fb :: feet [] := hk
    simp [feet] at hk
    rcases hk with rfl | rfl | rfl <;> assumption
  · exact h0
/-- A map's entry that is met. -/
theorem meetsD {fs : List (List UInt8 × FileS)} {x : ByteArray} {kl : Lit} {v : Value} {y : DataW Unit × List MemPlace} (hk : keyOf Try.prog 9 (.string x) = some kl) (hy : ptrR v = some y) (hat : ∀ zd, (FD fs).atKey kl zd = y.1) :
    x.size ≤ maxLen ∧ kl = .string x.data.toList ∧ ∃ f, lookF fs x.data.toList = some f ∧ v = .pointer (some ⟨f.blk, 0, none⟩) := by
  obtain ⟨h1, rfl⟩ := key_inv hk
  refine ⟨h1, rfl, ?_⟩
  have g0 : ∀ zd : DataW Unit, (FD fs).atKey (.string x.data.toList) zd = match lookF fs x.data.toList with | none => zd | some f => .lit (.int .i64 (f.blk : Int)) := by
    intro zd
    have h0 : ∀ es : List (Lit × DataW Unit), (DataW.map es).atKey (.string x.data.toList) zd = match es.find? (fun p => p.1.sameKey (.string x.data.toList)) with | some p => p.2 | none => zd := by intro es; simp only [DataW.atKey]; cases List.find? (fun p => p.1.sameKey (.string x.data.toList)) es <;> rfl
    unfold FD lookF
    rw [h0]
    clear h0 hat
    induction fs with
    | nil => rfl
    | cons p r ih =>
      simp only [List.map_cons, List.find?_cons, sk]
      by_cases h : p.1 == x.data.toList
      · simp only [h]; rfl
      · simp only [h]; exact ih
  have a1 := hat .nil
  have a2 := hat (.lit (.bool true))
  rw [g0] at a1 a2
  cases hl : lookF fs x.data.toList with
  | none =>
    rw [hl] at a1 a2
    simp only [] at a1 a2
    rw [← a1] at a2
    cases a2
  | some f =>
    rw [hl] at a1
    simp only [] at a1
    refine ⟨f, rfl, ?_⟩
    obtain ⟨y1, y2⟩ := y
    simp only at a1
    rw [← a1] at hy
    exact ptrR_some hy
/-- What has been met so far, put in order. -/
theorem putM_filter {fs : MF} (hr : fs.Pairwise (fun p q => bytesBefore p.1 q.1 = true)) (hn : nodupM fs) {P : List UInt8 → Bool} {s : List UInt8} {f : List UInt8 × Nat} (hl : lookM fs s = some f) (hP : P s = false) :
    putM (fs.filter fun p => P p.1) s f = fs.filter (fun p => P p.1 || p.1 == s) := by
  obtain ⟨a, b, e, ha, hb⟩ := lookM_split hn hl
  subst e
  rw [List.pairwise_append] at hr
  obtain ⟨-, h2, h3⟩ := hr
  have h2 := (List.pairwise_cons.1 h2).1
  have hc : cutM ((a ++ (s, f) :: b).filter fun p => P p.1) s = (a.filter fun p => P p.1) ++ (b.filter fun p => P p.1) := by
    rw [List.filter_append, List.filter_cons]
    simp only [hP]
    unfold cutM
    rw [if_neg (show ¬ (false = true) by decide), List.filter_eq_self]
    intro p hp
    rcases List.mem_append.1 hp with hp | hp
    · rw [ha p (List.mem_filter.1 hp).1]; rfl
    · rw [hb p (List.mem_filter.1 hp).1]; rfl
  unfold putM
  rw [hc, ins_mid (fun p hp => before_asym _ _ (h3 p (List.mem_filter.1 hp).1 _ (List.mem_cons_self ..))) (fun p hp => h2 p (List.mem_filter.1 hp).1)]
  rw [List.filter_append, List.filter_cons]
  have e1 : a.filter (fun p => P p.1 || p.1 == s) = a.filter (fun p => P p.1) := List.filter_congr fun p hp => by rw [ha p hp]; simp
  have e2 : b.filter (fun p => P p.1 || p.1 == s) = b.filter (fun p => P p.1) := List.filter_congr fun p hp => by rw [hb p hp]; simp
  rw [e1, e2]
  simp
end Go.Proofs.Ytkabgebfbbkioaa
