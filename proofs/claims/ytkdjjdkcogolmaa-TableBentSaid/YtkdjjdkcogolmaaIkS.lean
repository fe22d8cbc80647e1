/-
  One key in memory, and what was is as it was: what a region that draws needs.
-/
import Derived.Test.YtkdjjdkcogolmaaIk7
namespace Go.Proofs.Ytkdjjdkcogolmaa
set_option maxRecDepth 100000
open Go.RowKit Go.Shelf

structure I1 (a : World) (b : Nat) (s : ByteArray) (q k : Nat) (w : World) : Prop where
  i : IkAt w b s q k
  g : Below a.heap.size a w
theorem IkAt.drew1 {w : World} {b : Nat} {s : ByteArray} {q k : Nat} (h : IkAt w b s q k) : IkAt w.drew b s q k := ⟨h.lt, h.h⟩
section
variable {a w w' : World} {b : Nat} {s : ByteArray} {q k : Nat}
theorem I1.drew (h : I1 a b s q k w) : I1 a b s q k w.drew := ⟨h.i.drew1, h.g.drew⟩
theorem I1.alloc (h : I1 a b s q k w) (o : Obj) : I1 a b s q k (w.alloc o) := ⟨h.i.alloc o, blit h.g o⟩
theorem I1.on (h : I1 a b s q k w) (hb : Below w.heap.size w w') : I1 a b s q k w' := ⟨h.i.below hb (Nat.le_refl _), bon h.g hb⟩
theorem I1.all (h : I1 a b s q k w) : I1 a b s q k w ∧ w.cell? ⟨b, 0, none⟩ = some (.string s) ∧ w.cell? ⟨b, 1, none⟩ = some (.int .u64 (q : Int)) ∧ w.cell? ⟨b, 2, none⟩ = some (.int .u8 (k : Int)) :=
  ⟨h, h.i.cells.1, h.i.cells.2.1, h.i.cells.2.2⟩
end
/-- Three of them. -/
structure I3 (a : World) (b : Nat) (s1 : ByteArray) (q1 k1 : Nat) (s2 : ByteArray) (q2 k2 : Nat) (s3 : ByteArray) (q3 k3 : Nat) (w : World) : Prop where
  i1 : IkAt w b s1 q1 k1
  i2 : IkAt w (b + 1) s2 q2 k2
  i3 : IkAt w (b + 1 + 1) s3 q3 k3
  g : Below a.heap.size a w
section
variable {a w w' : World} {b : Nat} {s1 s2 s3 : ByteArray} {q1 k1 q2 k2 q3 k3 : Nat}
theorem I3.drew (h : I3 a b s1 q1 k1 s2 q2 k2 s3 q3 k3 w) : I3 a b s1 q1 k1 s2 q2 k2 s3 q3 k3 w.drew := ⟨h.i1.drew1, h.i2.drew1, h.i3.drew1, h.g.drew⟩
theorem I3.alloc (h : I3 a b s1 q1 k1 s2 q2 k2 s3 q3 k3 w) (o : Obj) : I3 a b s1 q1 k1 s2 q2 k2 s3 q3 k3 (w.alloc o) := ⟨h.i1.alloc o, h.i2.alloc o, h.i3.alloc o, blit h.g o⟩
theorem I3.on (h : I3 a b s1 q1 k1 s2 q2 k2 s3 q3 k3 w) (hb : Below w.heap.size w w') : I3 a b s1 q1 k1 s2 q2 k2 s3 q3 k3 w' :=
  ⟨h.i1.below hb (Nat.le_refl _), h.i2.below hb (Nat.le_refl _), h.i3.below hb (Nat.le_refl _), bon h.g hb⟩
theorem I3.all (h : I3 a b s1 q1 k1 s2 q2 k2 s3 q3 k3 w) : I3 a b s1 q1 k1 s2 q2 k2 s3 q3 k3 w ∧
    w.cell? ⟨b, 0, none⟩ = some (.string s1) ∧ w.cell? ⟨b, 1, none⟩ = some (.int .u64 (q1 : Int)) ∧ w.cell? ⟨b, 2, none⟩ = some (.int .u8 (k1 : Int)) ∧
    w.cell? ⟨b + 1, 0, none⟩ = some (.string s2) ∧ w.cell? ⟨b + 1, 1, none⟩ = some (.int .u64 (q2 : Int)) ∧ w.cell? ⟨b + 1, 2, none⟩ = some (.int .u8 (k2 : Int)) ∧
    w.cell? ⟨b + 1 + 1, 0, none⟩ = some (.string s3) ∧ w.cell? ⟨b + 1 + 1, 1, none⟩ = some (.int .u64 (q3 : Int)) ∧ w.cell? ⟨b + 1 + 1, 2, none⟩ = some (.int .u8 (k3 : Int)) :=
  ⟨h, h.i1.cells.1, h.i1.cells.2.1, h.i1.cells.2.2, h.i2.cells.1, h.i2.cells.2.1, h.i2.cells.2.2, h.i3.cells.1, h.i3.cells.2.1, h.i3.cells.2.2⟩
end
end Go.Proofs.Ytkdjjdkcogolmaa
