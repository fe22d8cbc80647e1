/-
  Contract: New.
-/
import Derived.Test.YtkabgebfbbkioabDk17
namespace Go.Proofs.Ytkabgebfbbkioab
open Go.RowKit Go.Maps

/-- A new disk. -/
def NewP (w : World) (m : MD) (e : Ending) (w' : World) : Prop :=
  ∃ S, e = .returned (.pointer (some ⟨S.dp, 0, none⟩)) ∧ DiskAt w' S ∧ see S = m ∧ Below w.heap.size w w' ∧ ∀ k ∈ foot S, w.heap.size ≤ k

set_option maxRecDepth 100000 in
set_option maxHeartbeats 1000000 in
theorem new_c {w : World} {B1 B2 n1 c1 n2 c2 : Nat} {A1 A2 : Option Addr} {fails parts : List Int} (cap : Int) (h1 : Rd w B1 A1 n1 c1 (iv fails)) (h2 : Rd w B2 A2 n2 c2 (iv parts)) (hB1 : B1 ≤ w.heap.size) (hB2 : B2 ≤ w.heap.size) (hn : n1 ≤ 70368744177664)
    (hwf : ∀ x ∈ fails, (Lit.int .i64 x).wf = true) (hwp : ∀ x ∈ parts, (Lit.int .i64 x).wf = true) :
    Calls Try.prog 18 #[.int .i64 cap, .agg #[.slice A1 n1 c1, .slice A2 n2 c2]] w (NewP w ⟨max cap 0, 0, 0, partsD fails parts n1, []⟩) := by
  have hmm := @run_makeMap Try.prog
  obtain ⟨w1, hw1⟩ : ∃ w1, w1 = w.alloc (.cells #[.slice A1 n1 c1, .slice A2 n2 c2] 47) := ⟨_, rfl⟩
  have hs1 : w1.heap.size = w.heap.size + 1 := by rw [hw1]; simp
  have hb1 : Below w.heap.size w w1 := by rw [hw1]; exact (Below.refl _ _).alloc (Nat.le_refl _) _
  have P := Lib.hid (partsOf_c (h1.under hb1 hB1) (h2.under hb1 hB2) (by omega) (by omega) hn hwf hwp)
  have hFin : Hid (∀ w4, w4.ownsMap Try.prog 3 (plainElem Try.prog 3) (w1.heap.size + 1) n1 (partsD fails parts n1) → Below w1.heap.size w1 w4 →
      NewP w ⟨max cap 0, 0, 0, partsD fails parts n1, []⟩ (.returned (.pointer (some ⟨w4.heap.size + 1, 0, none⟩)))
        ((w4.alloc (.map #[] 0)).alloc (.cells #[.pointer (some ⟨w4.heap.size + 1, 0, none⟩), .int .i64 (max cap 0), .int .i64 0, .int .i64 0, .map (some (w1.heap.size + 1)), .map (some w4.heap.size)] 28))) := by
    refine Lib.hid fun w4 hown hb => ?_
    have hlt : w1.heap.size + 1 < w4.heap.size := hown.lt
    obtain ⟨W, hW⟩ : ∃ W, W = (w4.alloc (.map #[] 0)).alloc (.cells #[.pointer (some ⟨w4.heap.size + 1, 0, none⟩), .int .i64 (max cap 0), .int .i64 0, .int .i64 0, .map (some (w1.heap.size + 1)), .map (some w4.heap.size)] 28) := ⟨_, rfl⟩
    rw [← hW]
    have hWs : W.heap.size = w4.heap.size + 2 := by rw [hW]; simp
    have hold : ∀ k, k < w4.heap.size → W.heap[k]? = w4.heap[k]? := fun k hk => by rw [hW]; exact (heap_alloc_old _ _ (by simp; omega)).trans (heap_alloc_old _ _ hk)
    have hmap : W.heap[w4.heap.size]? = some (.map #[] 0) := by rw [hW]; exact (heap_alloc_old _ _ (by simp)).trans (heap_alloc_new w4 _)
    have hhead : W.heap[w4.heap.size + 1]? = some (.cells #[.pointer (some ⟨w4.heap.size + 1, 0, none⟩), .int .i64 (max cap 0), .int .i64 0, .int .i64 0, .map (some (w1.heap.size + 1)), .map (some w4.heap.size)] 28) := by
      rw [hW]
      have := heap_alloc_new (w4.alloc (.map #[] 0)) (.cells #[.pointer (some ⟨w4.heap.size + 1, 0, none⟩), .int .i64 (max cap 0), .int .i64 0, .int .i64 0, .map (some (w1.heap.size + 1)), .map (some w4.heap.size)] 28)
      rw [show (w4.alloc (.map #[] 0)).heap.size = w4.heap.size + 1 by simp] at this
      exact this
    have hempty : (w4.alloc (.map #[] 0)).ownsMap Try.prog 9 ptrR w4.heap.size 0 (FD []) := World.ownsMap_made w4 Try.prog 9 ptrR
    refine ⟨⟨w4.heap.size + 1, w1.heap.size + 1, w4.heap.size, n1, 0, max cap 0, 0, 0, partsD fails parts n1, []⟩, rfl, ⟨?_, ?_, ?_, ?_, ?_, ?_, ?_⟩, rfl, ?_, ?_⟩
    · exact hhead
    · exact ownsMap_kept hown (hold _ hlt)
    · exact ownsMap_kept hempty (hmap.trans (heap_alloc_new w4 _).symm)
    · intro p hp; cases hp
    · simp [foot, feet]; omega
    · intro k hk
      rw [hWs]
      simp [foot, feet] at hk
      omega
    · exact Int.le_refl _
    · refine ⟨?_, ?_, ?_, ?_, ?_⟩
      · show W.os = _; rw [hW]; exact hb.os.trans hb1.os
      · show W.tape = _; rw [hW]; exact hb.tape.trans hb1.tape
      · show W.output = _; rw [hW]; exact hb.output.trans hb1.output
      · omega
      · intro k hk
        exact (hold k (by omega)).trans ((hb.block k (by omega)).trans (hb1.block k hk))
    · intro k hk
      simp [foot, feet] at hk
      omega
  clear h1 h2 hwf hwp hB1 hB2 hn hb1
  rw [hs1] at hFin
  go_enter Try.func18, Try.ntmps18
  go_wp2_with fail
  rw [← hw1]
  refine P.out.mono ?_
  rintro e w4 ⟨rfl, hown, hb⟩
  rw [hs1] at hown hb ⊢
  have hF := Lib.hid (hFin.out w4 hown hb)
  clear hown hb hFin P hw1 hs1
  go_wp2
  go_ret
  exact hF.out
end Go.Proofs.Ytkabgebfbbkioab
