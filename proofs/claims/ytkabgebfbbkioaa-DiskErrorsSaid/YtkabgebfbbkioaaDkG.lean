/-
  A plan, as it comes in; a new disk with one.
-/
import Derived.Test.YtkabgebfbbkioaaDkF
namespace Go.Proofs.Ytkabgebfbbkioaa
open Go.RowKit Go.Maps Go.ChangeShapes Go.WideShapes Go.ChangeAt Go.Deep

section
variable {H : Type} {enc : TypeId × Value → H} {w : World} {base : Nat} {spare : Nat → Bool} {held : Bool}
set_option maxRecDepth 100000 in
theorem open_intsP {r : Reach} {b0 : Nat} {v : Value} {d : DataW H} {p : List MemPlace} (h : DataW.Trod enc Try.prog w base spare held 22 v d p) (hv : Value.okWide Try.prog w r b0 22 v) :
    ∃ (A : Option Addr) (n c : Nat) (l : List Int), v = .slice A n c ∧ Rd w w.heap.size A n c (iv l) ∧ ∀ z ∈ l, (Lit.int .i64 z).wf = true := by
  obtain ⟨A, n, c, rfl⟩ := okWide_slice Try.underlying22 hv
  obtain ⟨fuel, hf⟩ := h
  obtain ⟨A', n', c', l, e, hr, hw⟩ := open_intsV (c0 := .slice A n c) (by simpa [Value.cells] using hf)
  cases e
  exact ⟨A, n, c, l, rfl, hr, hw⟩
set_option maxRecDepth 100000 in
theorem open_plan {r : Reach} {b0 : Nat} {v : Value} {d : DataW H} {p : List MemPlace} (h : DataW.Trod enc Try.prog w base spare held 24 v d p) (hv : Value.okWide Try.prog w r b0 24 v) :
    ∃ (A B : Option Addr) (n c k d : Nat) (y z : List Int), v = .agg #[.slice A n c, .slice B k d] ∧ Rd w w.heap.size A n c (iv y) ∧ (∀ x ∈ y, (Lit.int .i64 x).wf = true) ∧ Rd w w.heap.size B k d (iv z) ∧ (∀ x ∈ z, (Lit.int .i64 x).wf = true) := by
  obtain ⟨cs, rfl, hsz⟩ := okWide_struct Try.underlying24 hv
  obtain ⟨fuel, hf⟩ := h
  obtain ⟨xs, n, _, _, hl, hx, hff⟩ := DataW.trod_struct Try.underlying24 hf
  simp only [Value.cells] at hl hff
  have h0 : DataW.trod enc Try.prog w base spare held n 22 ((cs.toList.drop 0).take (Try.prog.cellsOf 22)) = xs[0]? := hff 0 _ rfl
  have h1 : DataW.trod enc Try.prog w base spare held n 22 ((cs.toList.drop 1).take (Try.prog.cellsOf 22)) = xs[1]? := hff 1 _ rfl
  have hc : Try.prog.cellsOf 24 = 2 := by kernel_rfl
  have e4 : Try.prog.cellsOf 22 = 1 := by kernel_rfl
  have hx : xs.length = 2 := hx
  rw [hc] at hl
  obtain ⟨l⟩ := cs
  simp only at hl h0 h1
  match l, hl with
  | [c0, c1], _ =>
    simp only [e4, List.drop_zero, List.drop_succ_cons, List.take_succ_cons, List.take_zero] at h0 h1
    rw [List.getElem?_eq_getElem (show 0 < xs.length by omega)] at h0
    rw [List.getElem?_eq_getElem (show 1 < xs.length by omega)] at h1
    obtain ⟨A, n, c, l, rfl, hb, hw⟩ := open_intsV h0
    obtain ⟨A2, n2, c2, l2, rfl, hb2, hw2⟩ := open_intsV h1
    exact ⟨A, A2, n, c, n2, c2, l, l2, rfl, hb, hw, hb2, hw2⟩
end

theorem partsD_map (fails parts : List Int) : ∀ n, IsMap (partsD fails parts n)
  | 0 => ⟨[], rfl⟩
  | n + 1 => by
    have ih := partsD_map fails parts n
    unfold partsD
    split
    · exact ih
    · obtain ⟨es, e⟩ := ih
      rw [e]
      exact ⟨_, rfl⟩
theorem partOf_parts (fails parts : List Int) (k : Int) : ∀ n, 0 ≤ partOf (partsD fails parts n) k
  | 0 => by show (0 : Int) ≤ 0; decide
  | n + 1 => by
    have ih := partOf_parts fails parts k n
    unfold partsD
    split
    · exact ih
    · by_cases e : fails.getD n 0 = k
      · unfold partOf
        rw [e, atKey_put_same (k := .int .i64 k) (partsD_map fails parts n) trivial]
        show 0 ≤ numD parts n
        unfold numD; omega
      · unfold partOf at ih ⊢
        rw [atKey_put_other (fun h => e (by injection h with h1 h2; exact h2.symm))]
        exact ih
theorem inv_plan {cap : Int} (hc : cap ≤ 9223372036854775807) (fails parts : List Int) (n : Nat) : Inv ⟨max cap 0, 0, 0, partsD fails parts n, []⟩ 0 := by
  refine ⟨rfl, ?_, ?_, ?_, ?_, ?_, fun k => ?_, fun p hp => (by cases hp), Nat.le_refl _⟩
  · show (0 : Int) ≤ max cap 0; omega
  · show (0 : Int) ≤ 60 * ((0 : Nat) : Int); decide
  · show max cap 0 ≤ _; omega
  · show (0 : Int) ≤ 0; decide
  · show (0 : Int) ≤ ((0 : Nat) : Int); decide
  · exact partOf_parts fails parts k n
theorem At.safe {w0 w : World} {S : DiskS} {m : MD} (h : At w0 w S m) : ∀ p ∈ m.files, p.2.2 ≤ p.2.1.length := by
  intro p hp
  rw [← h.see] at hp
  have hp : p ∈ seeF S.files := hp
  obtain ⟨q, hq, rfl⟩ := List.mem_map.1 hp
  exact (h.disk.each q hq).safe

/-! ## A crash -/
theorem crashMF_get (keeps : List Int) : ∀ (fs : MF) (i j : Nat) (p : List UInt8 × List UInt8 × Nat), fs[j]? = some p → (crashMF keeps i fs)[j]? = some (p.1, p.2.1.take (p.2.1.length - goneN p.2 (numD keeps (i + j)).toNat), p.2.1.length - goneN p.2 (numD keeps (i + j)).toNat)
  | [], i, j, p, h => by cases h
  | q :: r, i, 0, p, h => by simp at h; subst h; simp [crashMF]
  | q :: r, i, j + 1, p, h => by
    have := crashMF_get keeps r (i + 1) j p (by simpa using h)
    simp only [crashMF, List.getElem?_cons_succ]
    rw [this, show i + 1 + j = i + (j + 1) by omega]
theorem gone_all (l : List UInt8) (x : Nat) : goneN (l, l.length) x = 0 := by unfold goneN; simp
theorem crashMF_again (keeps : List Int) : ∀ (fs : MF) (i k : Nat), crashMF [] k (crashMF keeps i fs) = crashMF keeps i fs
  | [], _, _ => rfl
  | p :: r, i, k => by
    have ih := crashMF_again keeps r (i + 1) (k + 1)
    simp only [crashMF]
    rw [ih]
    congr 1
    have hl : (p.2.1.take (p.2.1.length - goneN p.2 (numD keeps i).toNat)).length = p.2.1.length - goneN p.2 (numD keeps i).toNat := by rw [List.length_take]; omega
    have hg : goneN (p.2.1.take (p.2.1.length - goneN p.2 (numD keeps i).toNat), p.2.1.length - goneN p.2 (numD keeps i).toNat) (numD [] k).toNat = 0 := by
      have := gone_all (p.2.1.take (p.2.1.length - goneN p.2 (numD keeps i).toNat)) (numD [] k).toNat
      rwa [hl] at this
    simp only [hg, hl, Nat.sub_zero]
    rw [List.take_of_length_le (by rw [hl]; exact Nat.le_refl _)]
theorem crash_again {m : MD} (keeps : List Int) : crashM (crashM m keeps) [] = crashM m keeps := by
  unfold crashM
  simp only [crashMF_again keeps]
end Go.Proofs.Ytkabgebfbbkioaa
