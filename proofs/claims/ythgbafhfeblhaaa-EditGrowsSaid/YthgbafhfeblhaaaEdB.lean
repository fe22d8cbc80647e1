/-
  Boxes of four cells: laid, kept, stored into; one block that turns.
-/
import Derived.Test.YthgbafhfeblhaaaEd2
namespace Go.Proofs.Ythgbafhfeblhaaa
set_option maxRecDepth 100000
open Go.RowKit Go.Shelf
set_option linter.unusedSimpArgs false
set_option linter.unusedVariables false

/-- A box of four cells. -/
structure B4 (w : World) (g : Nat) (t : TypeId) (a b c d : Value) : Prop where
  h : w.heap[g]? = some (.cells #[a, b, c, d] t (0, 0))
structure C4 (w : World) (g : Nat) (a b c d : Value) : Prop where
  c0 : w.cell? ⟨g, 0, none⟩ = some a
  c1 : w.cell? ⟨g, 1, none⟩ = some b
  c2 : w.cell? ⟨g, 2, none⟩ = some c
  c3 : w.cell? ⟨g, 3, none⟩ = some d
  z0 : w.frozen? ⟨g, 0, none⟩ = false
  z1 : w.frozen? ⟨g, 1, none⟩ = false
  z2 : w.frozen? ⟨g, 2, none⟩ = false
  z3 : w.frozen? ⟨g, 3, none⟩ = false
section
variable {w w' : World} {g B : Nat} {t : TypeId} {a b c d u : Value}
theorem B4.lt (h : B4 w g t a b c d) : g < w.heap.size := (Array.getElem?_eq_some_iff.1 h.h).1
theorem B4.cells (h : B4 w g t a b c d) : C4 w g a b c d := by
  have hh := h.h
  refine ⟨?_, ?_, ?_, ?_, ?_, ?_, ?_, ?_⟩ <;> first | (simp only [World.cell?, hh]; rfl) | simp [World.frozen?, hh]
theorem B4.new (w : World) (t : TypeId) (a b c d : Value) {k : Nat} (hk : w.heap.size = k) : B4 (w.alloc (.cells #[a, b, c, d] t)) k t a b c d := ⟨heap_at hk⟩
theorem B4.under (h : B4 w g t a b c d) (hb : Below B w w') (hg : g < B) : B4 w' g t a b c d := ⟨by rw [hb.block g hg]; exact h.h⟩
theorem B4.now (h : B4 w g t a b c d) (hb : Below w.heap.size w w') : B4 w' g t a b c d := h.under hb h.lt
theorem B4.alloc (h : B4 w g t a b c d) (o : Obj) : B4 (w.alloc o) g t a b c d := h.now (below_alloc w o)
theorem B4.drew (h : B4 w g t a b c d) : B4 w.drew g t a b c d := ⟨h.h⟩
theorem B4.drewN (h : B4 w g t a b c d) (n : Nat) : B4 (w.drewN n) g t a b c d := ⟨h.h⟩
theorem B4.off (h : B4 w g t a b c d) {p : Addr} (hp : p.block ≠ g) (u : Value) : B4 (w.setCell p u) g t a b c d :=
  ⟨by simp only [World.setCell]; rw [Array.getElem?_modify, if_neg hp]; exact h.h⟩
theorem B4.set0 (h : B4 w g t a b c d) (u : Value) : B4 (w.setCell ⟨g, 0, none⟩ u) g t u b c d := ⟨by simp only [World.setCell, Array.getElem?_modify, if_pos, h.h]; rfl⟩
theorem B4.set1 (h : B4 w g t a b c d) (u : Value) : B4 (w.setCell ⟨g, 1, none⟩ u) g t a u c d := ⟨by simp only [World.setCell, Array.getElem?_modify, if_pos, h.h]; rfl⟩
theorem B4.set2 (h : B4 w g t a b c d) (u : Value) : B4 (w.setCell ⟨g, 2, none⟩ u) g t a b u d := ⟨by simp only [World.setCell, Array.getElem?_modify, if_pos, h.h]; rfl⟩
theorem B4.set3 (h : B4 w g t a b c d) (u : Value) : B4 (w.setCell ⟨g, 3, none⟩ u) g t a b c u := ⟨by simp only [World.setCell, Array.getElem?_modify, if_pos, h.h]; rfl⟩
end
/-- All four cells stored. -/
def set4 (W : World) (g : Nat) (a b c d : Value) : World := (((W.setCell ⟨g, 0, none⟩ a).setCell ⟨g, 1, none⟩ b).setCell ⟨g, 2, none⟩ c).setCell ⟨g, 3, none⟩ d
theorem B4.set {w : World} {g : Nat} {t : TypeId} {a b c d : Value} (h : B4 w g t a b c d) (a' b' c' d' : Value) : B4 (set4 w g a' b' c' d') g t a' b' c' d' := (((h.set0 a').set1 b').set2 c').set3 d'
theorem set4_below {B g : Nat} {w W : World} (h : Below B w W) (hg : B ≤ g) (a b c d : Value) : Below B w (set4 W g a b c d) := (((h.setCell hg _).setCell hg _).setCell hg _).setCell hg _

/-- Of what there was nothing but block g has turned. -/
structure Only (g : Nat) (w w' : World) : Prop where
  os : w'.os = w.os
  tape : w'.tape = w.tape
  output : w'.output = w.output
  size : w.heap.size ≤ w'.heap.size
  block : ∀ i, i < w.heap.size → i ≠ g → w'.heap[i]? = w.heap[i]?
theorem Only.of {g : Nat} {w w' : World} (h : Below w.heap.size w w') : Only g w w' := ⟨h.os, h.tape, h.output, h.size, fun i hi _ => h.block i hi⟩
theorem Only.trans {g : Nat} {w w' w'' : World} (h : Only g w w') (h2 : Only g w' w'') : Only g w w'' :=
  ⟨h2.os.trans h.os, h2.tape.trans h.tape, h2.output.trans h.output, Nat.le_trans h.size h2.size, fun i hi hn => (h2.block i (Nat.lt_of_lt_of_le hi h.size) hn).trans (h.block i hi hn)⟩
theorem Only.below {g B : Nat} {w w' : World} (h : Only g w w') (hB : B ≤ g) (hg : B ≤ w.heap.size) : Below B w w' := ⟨h.os, h.tape, h.output, h.size, fun i hi => h.block i (by omega) (by omega)⟩
theorem Only.set (w : World) (g o : Nat) (u : Value) : Only g w (w.setCell ⟨g, o, none⟩ u) :=
  ⟨rfl, rfl, rfl, by simp [World.setCell], fun i _ hn => by simp only [World.setCell]; rw [Array.getElem?_modify, if_neg (Ne.symm hn)]⟩
theorem B4.only {w w' : World} {g k : Nat} {t : TypeId} {a b c d : Value} (h : B4 w g t a b c d) (ho : Only k w w') (hn : g ≠ k) : B4 w' g t a b c d := ⟨by rw [ho.block g h.lt hn]; exact h.h⟩
theorem Rd.only {w w' : World} {B k n c : Nat} {A : Option Addr} {xs : List Value} (h : Rd w B A n c xs) (ho : Only k w w') (hk : B ≤ k) (hB : B ≤ w.heap.size) : Rd w' B A n c xs := h.under (ho.below hk hB) (Nat.le_refl _)
end Go.Proofs.Ythgbafhfeblhaaa
