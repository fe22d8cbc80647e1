/-
  What comes in: an edit, a version, a slice of edits, bytes.
-/
import Derived.Test.YthgbafhfeblhaaaEdL
import Derived.WalkKit
import Derived.ProofKit
import Derived.OpenShut
import Derived.Deep.Slices
import Derived.Deep.Strs
import Derived.Lib.SmallJoins
namespace Go.Proofs.Ythgbafhfeblhaaa
set_option maxRecDepth 100000
open Go.RowKit Go.Shelf Go.ChangeShapes Go.WideShapes Go.ChangeAt Go.Deep
set_option linter.unusedSimpArgs false
set_option linter.unusedVariables false

section
variable {H : Type} {enc : TypeId × Value → H} {w : World} {base : Nat} {spare : Nat → Bool} {held : Bool}
theorem mt_cells {fuel : Nat} {cs : List Value} {x : DataW H × List MemPlace} (h : DataW.trod enc Try.prog w base spare held fuel 47 cs = some x) :
    ∃ y : Mt, cs = [.int .u64 (y.n : Int), .int .u64 (y.z : Int), .string y.s, .string y.t] ∧ MtIn y := by
  obtain ⟨y0, y1, y2, y3, n, _, hl, h0, h1, h2, h3⟩ := Go.Joins.trod_struct4 Try.underlying47 h
  have hc : Try.prog.cellsOf 47 = 4 := by kernel_rfl
  have hs : Try.prog.cellsOf 9 = 1 := by kernel_rfl
  have hu : Try.prog.cellsOf 23 = 1 := by kernel_rfl
  rw [hc] at hl
  match cs, hl with
  | [c0, c1, c2, c3], _ =>
    simp only [hs, hu, List.drop_zero, List.drop_succ_cons, List.take_succ_cons, List.take_zero] at h0 h1 h2 h3
    obtain ⟨n, e0, _, hn⟩ := DataW.trod_int Try.underlying23 h0
    obtain ⟨z, e1, _, hz⟩ := DataW.trod_int Try.underlying23 h1
    obtain ⟨s, e2, _, hs⟩ := DataW.trod_string Try.underlying9 h2
    obtain ⟨t, e3, _, ht⟩ := DataW.trod_string Try.underlying9 h3
    cases e0; cases e1; cases e2; cases e3
    have hn := bounds_u64 hn
    have hz := bounds_u64 hz
    obtain ⟨n, rfl⟩ := Int.eq_ofNat_of_zero_le hn.1
    obtain ⟨z, rfl⟩ := Int.eq_ofNat_of_zero_le hz.1
    exact ⟨⟨n, z, s, t⟩, rfl, hn.2, hz.2⟩
theorem metas_cells {fuel : Nat} {cs : List Value} {x : DataW H × List MemPlace} (h : DataW.trod enc Try.prog w base spare held fuel 22 cs = some x) :
    ∃ (A : Option Addr) (n c : Nat) (L : List Mt), cs = [.slice A n c] ∧ RdM w w.heap.size A n c L ∧ ∀ x ∈ L, MtIn x := by
  have hC : Try.prog.cellsOf 47 = 4 := by kernel_rfl
  rcases open_slice Try.underlying22 h with ⟨hcs, _⟩ | ⟨a, n, c, m, n', D, Pl, hcs, hb, hl, hm, hmm, hx, hi⟩
  · subst hcs
    exact ⟨none, 0, 0, [], rfl, RdM.nilv, fun x hx => by cases hx⟩
  · subst hcs
    have hle : n ≤ m := by rw [hmm]; split <;> omega
    have he : ∀ i, i < n → ∃ x : Mt, (MtIn x) ∧ (w.cell? (a.add (i * 4)) = some (.int .u64 (x.n : Int)) ∧ w.cell? (a.add (i * 4 + 1)) = some (.int .u64 (x.z : Int)) ∧ w.cell? (a.add (i * 4 + 2)) = some (.string x.s) ∧ w.cell? (a.add (i * 4 + 3)) = some (.string x.t)) := by
      intro i hin
      obtain ⟨cs', hc, ht⟩ := hi i (by omega)
      rw [hC] at hc
      obtain ⟨y, hcs, b1⟩ := mt_cells ht
      subst hcs
      obtain ⟨_, _, hat⟩ := World.cells?_some hc
      have a0 := hat 0 (by omega)
      have a1 := hat 1 (by omega)
      have a2 := hat 2 (by omega)
      have a3 := hat 3 (by omega)
      rw [add_of_add] at a0 a1 a2 a3
      exact ⟨y, b1, a0, a1, a2, a3⟩
    have hlen : ∀ x : Addr, 0 < n → ∃ v, w.cell? (a.add (0 * 4)) = some v := fun _ hn => by obtain ⟨x, _, h, _⟩ := he 0 hn; exact ⟨_, h⟩
    refine ⟨some a, n, c, (List.range n).map fun i => if hi : i < n then (he i hi).choose else ⟨0, 0, ⟨#[]⟩, ⟨#[]⟩⟩, rfl, ⟨by simp, hl, hm, fun e => (by cases e), fun hn => ?_⟩, ?_⟩
    · obtain ⟨b, off, spot⟩ := a
      obtain ⟨v0, h0⟩ := hlen ⟨b, off, spot⟩ hn
      have hs : spot = none := by
        cases spot with
        | none => rfl
        | some s => simp [Addr.add, World.cell?] at h0; split at h0 <;> simp at h0
      subst hs
      have hlt : b < w.heap.size := by
        have := World.block_lt_of_cell? w _ h0
        rwa [block_of_add] at this
      refine ⟨b, off, rfl, hlt, fun i x hx => ?_⟩
      rw [List.getElem?_map] at hx
      by_cases hin : i < n
      · rw [List.getElem?_range hin] at hx
        simp only [Option.map_some, hin, dif_pos, Option.some.injEq] at hx
        subst hx
        have := (he i hin).choose_spec
        have hadd : ∀ j, (⟨b, off, none⟩ : Addr).add j = ⟨b, off + j, none⟩ := fun j => by unfold Addr.add; split <;> simp_all
        simpa only [hadd, Nat.add_assoc] using this.2
      · rw [List.getElem?_eq_none (by simpa using hin)] at hx; cases hx
    · intro x hx
      obtain ⟨i, hi', rfl⟩ := List.mem_map.1 hx
      have hin : i < n := by simpa using hi'
      simp only [hin, dif_pos]
      exact (he i hin).choose_spec.1
theorem ed_cells {fuel : Nat} {cs : List Value} {x : DataW H × List MemPlace} (h : DataW.trod enc Try.prog w base spare held fuel 25 cs = some x) :
    ∃ y : Ev, cs = [.slice y.A y.n y.c, .int .u64 (y.e.a : Int), .int .u64 (y.e.b : Int), .int .u64 (y.e.c : Int)] ∧ EdIn y.e ∧ RdM w w.heap.size y.A y.n y.c y.e.L := by
  obtain ⟨y0, y1, y2, y3, n, _, hl, h0, h1, h2, h3⟩ := Go.Joins.trod_struct4 Try.underlying25 h
  have hc : Try.prog.cellsOf 25 = 4 := by kernel_rfl
  have hs : Try.prog.cellsOf 22 = 1 := by kernel_rfl
  have hu : Try.prog.cellsOf 23 = 1 := by kernel_rfl
  rw [hc] at hl
  match cs, hl with
  | [c0, c1, c2, c3], _ =>
    simp only [hs, hu, List.drop_zero, List.drop_succ_cons, List.take_succ_cons, List.take_zero] at h0 h1 h2 h3
    obtain ⟨A, n, c, L, e0, hr, hi⟩ := metas_cells h0
    obtain ⟨a, e1, _, ha⟩ := DataW.trod_int Try.underlying23 h1
    obtain ⟨b, e2, _, hb⟩ := DataW.trod_int Try.underlying23 h2
    obtain ⟨d, e3, _, hd⟩ := DataW.trod_int Try.underlying23 h3
    cases e0; cases e1; cases e2; cases e3
    have ha := bounds_u64 ha
    have hb := bounds_u64 hb
    have hd := bounds_u64 hd
    obtain ⟨a, rfl⟩ := Int.eq_ofNat_of_zero_le ha.1
    obtain ⟨b, rfl⟩ := Int.eq_ofNat_of_zero_le hb.1
    obtain ⟨d, rfl⟩ := Int.eq_ofNat_of_zero_le hd.1
    exact ⟨⟨A, n, c, ⟨L, a, b, d⟩⟩, rfl, ⟨hi, ⟨ha.2, hb.2, hd.2⟩⟩, hr⟩
theorem ver_cells {fuel : Nat} {cs : List Value} {x : DataW H × List MemPlace} (h : DataW.trod enc Try.prog w base spare held fuel 28 cs = some x) :
    ∃ y : Ev, cs = [.slice y.A y.n y.c, .int .u64 (y.e.a : Int), .int .u64 (y.e.b : Int), .int .u64 (y.e.c : Int)] ∧ EdIn y.e ∧ RdM w w.heap.size y.A y.n y.c y.e.L := by
  obtain ⟨y0, y1, y2, y3, n, _, hl, h0, h1, h2, h3⟩ := Go.Joins.trod_struct4 Try.underlying28 h
  have hc : Try.prog.cellsOf 28 = 4 := by kernel_rfl
  have hs : Try.prog.cellsOf 22 = 1 := by kernel_rfl
  have hu : Try.prog.cellsOf 23 = 1 := by kernel_rfl
  rw [hc] at hl
  match cs, hl with
  | [c0, c1, c2, c3], _ =>
    simp only [hs, hu, List.drop_zero, List.drop_succ_cons, List.take_succ_cons, List.take_zero] at h0 h1 h2 h3
    obtain ⟨A, n, c, L, e0, hr, hi⟩ := metas_cells h0
    obtain ⟨a, e1, _, ha⟩ := DataW.trod_int Try.underlying23 h1
    obtain ⟨b, e2, _, hb⟩ := DataW.trod_int Try.underlying23 h2
    obtain ⟨d, e3, _, hd⟩ := DataW.trod_int Try.underlying23 h3
    cases e0; cases e1; cases e2; cases e3
    have ha := bounds_u64 ha
    have hb := bounds_u64 hb
    have hd := bounds_u64 hd
    obtain ⟨a, rfl⟩ := Int.eq_ofNat_of_zero_le ha.1
    obtain ⟨b, rfl⟩ := Int.eq_ofNat_of_zero_le hb.1
    obtain ⟨d, rfl⟩ := Int.eq_ofNat_of_zero_le hd.1
    exact ⟨⟨A, n, c, ⟨L, a, b, d⟩⟩, rfl, ⟨hi, ⟨ha.2, hb.2, hd.2⟩⟩, hr⟩
theorem open_edit {r : Reach} {b0 : Nat} {v : Value} {d : DataW H} {p : List MemPlace} (hv : Value.okWide Try.prog w r b0 25 v) (h : DataW.Trod enc Try.prog w base spare held 25 v d p) :
    ∃ y : Ev, v = edV y.A y.n y.c y.e ∧ EdIn y.e ∧ RdM w w.heap.size y.A y.n y.c y.e.L := by
  obtain ⟨cs, rfl, hsz⟩ := okWide_struct Try.underlying25 hv
  obtain ⟨fuel, hf⟩ := h
  obtain ⟨y, hc, hb⟩ := ed_cells hf
  refine ⟨y, ?_, hb⟩
  simp only [Value.cells] at hc
  unfold edV
  rw [← hc]
theorem open_version {r : Reach} {b0 : Nat} {v : Value} {d : DataW H} {p : List MemPlace} (hv : Value.okWide Try.prog w r b0 28 v) (h : DataW.Trod enc Try.prog w base spare held 28 v d p) :
    ∃ y : Ev, v = edV y.A y.n y.c y.e ∧ EdIn y.e ∧ RdM w w.heap.size y.A y.n y.c y.e.L := by
  obtain ⟨cs, rfl, hsz⟩ := okWide_struct Try.underlying28 hv
  obtain ⟨fuel, hf⟩ := h
  obtain ⟨y, hc, hb⟩ := ver_cells hf
  refine ⟨y, ?_, hb⟩
  simp only [Value.cells] at hc
  unfold edV
  rw [← hc]
theorem edits_cells {fuel : Nat} {cs : List Value} {x : DataW H × List MemPlace} (h : DataW.trod enc Try.prog w base spare held fuel 45 cs = some x) :
    ∃ (A : Option Addr) (n c : Nat) (L : List Ev), cs = [.slice A n c] ∧ RdD w w.heap.size A n c L ∧ ∀ x ∈ L, EdIn x.e := by
  have hC : Try.prog.cellsOf 25 = 4 := by kernel_rfl
  rcases open_slice Try.underlying45 h with ⟨hcs, _⟩ | ⟨a, n, c, m, n', D, Pl, hcs, hb, hl, hm, hmm, hx, hi⟩
  · subst hcs
    exact ⟨none, 0, 0, [], rfl, ⟨rfl, Nat.le_refl _, Nat.zero_le _, fun _ => ⟨rfl, rfl⟩, fun h => absurd h (by decide), fun x hx => by cases hx⟩, fun x hx => by cases hx⟩
  · subst hcs
    have hle : n ≤ m := by rw [hmm]; split <;> omega
    have he : ∀ i, i < n → ∃ x : Ev, (EdIn x.e) ∧ RdM w w.heap.size x.A x.n x.c x.e.L ∧ (w.cell? (a.add (i * 4)) = some (.slice x.A x.n x.c) ∧ w.cell? (a.add (i * 4 + 1)) = some (.int .u64 (x.e.a : Int)) ∧ w.cell? (a.add (i * 4 + 2)) = some (.int .u64 (x.e.b : Int)) ∧ w.cell? (a.add (i * 4 + 3)) = some (.int .u64 (x.e.c : Int))) := by
      intro i hin
      obtain ⟨cs', hc, ht⟩ := hi i (by omega)
      rw [hC] at hc
      obtain ⟨y, hcs, b1, b2⟩ := ed_cells ht
      subst hcs
      obtain ⟨_, _, hat⟩ := World.cells?_some hc
      have a0 := hat 0 (by omega)
      have a1 := hat 1 (by omega)
      have a2 := hat 2 (by omega)
      have a3 := hat 3 (by omega)
      rw [add_of_add] at a0 a1 a2 a3
      exact ⟨y, b1, b2, a0, a1, a2, a3⟩
    have hlen : ∀ x : Addr, 0 < n → ∃ v, w.cell? (a.add (0 * 4)) = some v := fun _ hn => by obtain ⟨x, _, _, h, _⟩ := he 0 hn; exact ⟨_, h⟩
    refine ⟨some a, n, c, (List.range n).map fun i => if hi : i < n then (he i hi).choose else ⟨none, 0, 0, Ed.nil⟩, rfl, ⟨by simp, hl, hm, fun e => (by cases e), fun hn => ?_, ?_⟩, ?_⟩
    · obtain ⟨b, off, spot⟩ := a
      obtain ⟨v0, h0⟩ := hlen ⟨b, off, spot⟩ hn
      have hs : spot = none := by
        cases spot with
        | none => rfl
        | some s => simp [Addr.add, World.cell?] at h0; split at h0 <;> simp at h0
      subst hs
      have hlt : b < w.heap.size := by
        have := World.block_lt_of_cell? w _ h0
        rwa [block_of_add] at this
      refine ⟨b, off, rfl, hlt, fun i x hx => ?_⟩
      rw [List.getElem?_map] at hx
      by_cases hin : i < n
      · rw [List.getElem?_range hin] at hx
        simp only [Option.map_some, hin, dif_pos, Option.some.injEq] at hx
        subst hx
        have := (he i hin).choose_spec
        have hadd : ∀ j, (⟨b, off, none⟩ : Addr).add j = ⟨b, off + j, none⟩ := fun j => by unfold Addr.add; split <;> simp_all
        simpa only [hadd, Nat.add_assoc] using this.2.2
      · rw [List.getElem?_eq_none (by simpa using hin)] at hx; cases hx
    · intro x hx
      obtain ⟨i, hi', rfl⟩ := List.mem_map.1 hx
      have hin : i < n := by simpa using hi'
      simp only [hin, dif_pos]
      exact (he i hin).choose_spec.2.1
    · intro x hx
      obtain ⟨i, hi', rfl⟩ := List.mem_map.1 hx
      have hin : i < n := by simpa using hi'
      simp only [hin, dif_pos]
      exact (he i hin).choose_spec.1
theorem open_edits {r : Reach} {b0 : Nat} {v : Value} {d : DataW H} {p : List MemPlace} (h : DataW.Trod enc Try.prog w base spare held 45 v d p) (hv : Value.okWide Try.prog w r b0 45 v) :
    ∃ (A : Option Addr) (n c : Nat) (L : List Ev), v = .slice A n c ∧ RdD w w.heap.size A n c L ∧ ∀ x ∈ L, EdIn x.e := by
  obtain ⟨A, n, c, rfl⟩ := okWide_slice Try.underlying45 hv
  obtain ⟨fuel, hf⟩ := h
  obtain ⟨A', n', c', L, hcs, h1, h2⟩ := edits_cells hf
  simp [Value.cells] at hcs
  obtain ⟨rfl, rfl, rfl⟩ := hcs
  exact ⟨A, n, c, L, rfl, h1, h2⟩
theorem open_bytes {r : Reach} {b0 : Nat} {v : Value} {d : DataW H} {p : List MemPlace} (h : DataW.Trod enc Try.prog w base (fun _ => true) held 26 v d p) (hv : Value.okWide Try.prog w r b0 26 v) :
    ∃ (A : Option Addr) (n c : Nat) (l : List UInt8), v = .slice A n c ∧ l.length = n ∧ Rd w w.heap.size A n c (bv l) := by
  obtain ⟨A, n, c, rfl⟩ := okWide_slice Try.underlying26 hv
  obtain ⟨fuel, hf⟩ := h
  rcases open_ints Try.underlying26 Try.underlying5 (by kernel_rfl) hf with ⟨hcs, _⟩ | ⟨x, l, c', zs, hcs, _, hl, hm, hz, _, hcell, hwz⟩
  · simp [Value.cells] at hcs
    obtain ⟨rfl, rfl, rfl⟩ := hcs
    exact ⟨none, 0, 0, [], rfl, rfl, Rd.nilv⟩
  · simp [Value.cells] at hcs
    obtain ⟨rfl, rfl, rfl⟩ := hcs
    obtain ⟨l, hl', hR⟩ := rd_of_row (w := w) (a := some x) (len := n) (cap := c) (zs := zs) (.inr ⟨_, rfl, hl, hm, by simpa using hz, hcell, hwz⟩)
    exact ⟨_, _, _, l, rfl, hl', hR⟩
end
end Go.Proofs.Ythgbafhfeblhaaa
