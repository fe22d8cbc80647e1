/-
  What holds in the worlds of IkeyTells: keys and an entry in memory; the two answers of Take are one.
-/
import Derived.Test.YtobfdhnaejfehaaIkE
import Derived.Test.YtobfdhnaejfehaaIkQ
import Derived.Test.YtobfdhnaejfehaaIkL
namespace Go.Proofs.Ytobfdhnaejfehaa
open Go.RowKit Go.Shelf

theorem FrE.two (w : World) {b g : Nat} (x y : Ent) (hg : w.heap.size = g) (hb : b ≤ w.heap.size) : FrE (w.alloc (.cells #[.string x.s, .int .u64 (x.q : Int), .int .u8 (x.k : Int), .string x.v, .string y.s, .int .u64 (y.q : Int), .int .u8 (y.k : Int), .string y.v] 29)) b (some ⟨g, 0, none⟩) 2 2 [x, y] := by
  subst hg
  exact FrE.new w (L := [x, y]) rfl rfl hb (by decide)
theorem IkAt.below2 {w w' : World} {b : Nat} {s : ByteArray} {q k : Nat} (h : IkAt w b s q k) {B : Nat} (hb : Below B w w') (hB : b < B) : IkAt w' b s q k :=
  ⟨by have := h.lt; have := hb.size; omega, by rw [hb.block b hB]; exact h.h⟩
/-- An entry lies in block b. -/
structure EnAt (w : World) (b : Nat) (s : ByteArray) (q k : Nat) (v : ByteArray) : Prop where
  lt : b < w.heap.size
  h : w.heap[b]? = some (.cells #[.string s, .int .u64 (q : Int), .int .u8 (k : Int), .string v] 29 (0, 0))
section
variable {w w' : World} {b : Nat} {s v : ByteArray} {q k : Nat}
theorem EnAt.cells (h : EnAt w b s q k v) : w.cell? ⟨b, 0, none⟩ = some (.string s) ∧ w.cell? ⟨b, 1, none⟩ = some (.int .u64 (q : Int)) ∧ w.cell? ⟨b, 2, none⟩ = some (.int .u8 (k : Int)) ∧ w.cell? ⟨b, 3, none⟩ = some (.string v) := by
  refine ⟨?_, ?_, ?_, ?_⟩ <;> (simp only [World.cell?, h.h]; rfl)
theorem EnAt.new (w : World) (s : ByteArray) (q k : Nat) (v : ByteArray) : EnAt (w.alloc (.cells #[.string s, .int .u64 (q : Int), .int .u8 (k : Int), .string v] 29)) w.heap.size s q k v := ⟨by simp, heap_alloc_new w _⟩
theorem EnAt.alloc (h : EnAt w b s q k v) (o : Obj) : EnAt (w.alloc o) b s q k v := ⟨by have := h.lt; simp; omega, by rw [Go.heap_alloc_old w o h.lt]; exact h.h⟩
theorem EnAt.drew (h : EnAt w b s q k v) : EnAt w.drew b s q k v := ⟨h.lt, h.h⟩
theorem EnAt.below {B : Nat} (h : EnAt w b s q k v) (hb : Below B w w') (hB : w.heap.size ≤ B) : EnAt w' b s q k v :=
  ⟨by have := h.lt; have := hb.size; omega, by rw [hb.block b (by have := h.lt; omega)]; exact h.h⟩
end
/-- What holds in each world of the last statement. -/
structure Tk (a c : World) (b be bx by_ : Nat) (s0 : ByteArray) (q0 k0 : Nat) (s1 : ByteArray) (q1 k1 : Nat) (v : ByteArray) (sx : ByteArray) (qx kx : Nat) (w : World) : Prop where
  i0 : IkAt w b s0 q0 k0
  i1 : IkAt w (b + 1) s1 q1 k1
  ie : EnAt w be s0 q0 k0 v
  ix : IkAt w bx sx qx kx
  iy : IkAt w by_ sx qx kx
  g : Below a.heap.size a w
  gc : Below c.heap.size c w
section
variable {a c w w' : World} {b be bx by_ : Nat} {s0 s1 v sx : ByteArray} {q0 k0 q1 k1 qx kx : Nat}
theorem Tk.drew (h : Tk a c b be bx by_ s0 q0 k0 s1 q1 k1 v sx qx kx w) : Tk a c b be bx by_ s0 q0 k0 s1 q1 k1 v sx qx kx w.drew := ⟨h.i0.drew1, h.i1.drew1, h.ie.drew, h.ix.drew1, h.iy.drew1, h.g.drew, h.gc.drew⟩
theorem Tk.on (h : Tk a c b be bx by_ s0 q0 k0 s1 q1 k1 v sx qx kx w) (hb : Below w.heap.size w w') : Tk a c b be bx by_ s0 q0 k0 s1 q1 k1 v sx qx kx w' :=
  ⟨h.i0.below hb (Nat.le_refl _), h.i1.below hb (Nat.le_refl _), h.ie.below hb (Nat.le_refl _), h.ix.below hb (Nat.le_refl _), h.iy.below hb (Nat.le_refl _), bon h.g hb, bon h.gc hb⟩
theorem Tk.all (h : Tk a c b be bx by_ s0 q0 k0 s1 q1 k1 v sx qx kx w) : Tk a c b be bx by_ s0 q0 k0 s1 q1 k1 v sx qx kx w ∧
    (w.cell? ⟨b, 0, none⟩ = some (.string s0) ∧ w.cell? ⟨b, 1, none⟩ = some (.int .u64 (q0 : Int)) ∧ w.cell? ⟨b, 2, none⟩ = some (.int .u8 (k0 : Int))) ∧
    (w.cell? ⟨b + 1, 0, none⟩ = some (.string s1) ∧ w.cell? ⟨b + 1, 1, none⟩ = some (.int .u64 (q1 : Int)) ∧ w.cell? ⟨b + 1, 2, none⟩ = some (.int .u8 (k1 : Int))) ∧
    (w.cell? ⟨be, 0, none⟩ = some (.string s0) ∧ w.cell? ⟨be, 1, none⟩ = some (.int .u64 (q0 : Int)) ∧ w.cell? ⟨be, 2, none⟩ = some (.int .u8 (k0 : Int)) ∧ w.cell? ⟨be, 3, none⟩ = some (.string v)) ∧
    (w.cell? ⟨bx, 0, none⟩ = some (.string sx) ∧ w.cell? ⟨bx, 1, none⟩ = some (.int .u64 (qx : Int)) ∧ w.cell? ⟨bx, 2, none⟩ = some (.int .u8 (kx : Int))) ∧
    (w.cell? ⟨by_, 0, none⟩ = some (.string sx) ∧ w.cell? ⟨by_, 1, none⟩ = some (.int .u64 (qx : Int)) ∧ w.cell? ⟨by_, 2, none⟩ = some (.int .u8 (kx : Int))) :=
  ⟨h, h.i0.cells, h.i1.cells, h.ie.cells, h.ix.cells, h.iy.cells⟩
end
theorem key_same {l : List UInt8} {s s' : ByteArray} {q k q' k' : Nat} {r r' : List UInt8} {ok ok' : Bool} (h : KeyR l s q k r ok) (h' : KeyR l s' q' k' r' ok') : s = s' ∧ q = q' ∧ k = k' ∧ r = r' ∧ ok = ok' := by
  cases ok with
  | true =>
    have e := h.yes rfl
    cases ok' with
    | true =>
      have e' := h'.yes rfl
      rw [e] at e'
      simp only [Option.some.injEq, Prod.mk.injEq] at e'
      exact ⟨e'.1, e'.2.1, e'.2.2.1, e'.2.2.2, rfl⟩
    | false => have := (h'.no rfl).1; rw [e] at this; cases this
  | false =>
    obtain ⟨e, e1, e2, e3, e4⟩ := h.no rfl
    cases ok' with
    | true => have := h'.yes rfl; rw [e] at this; cases this
    | false =>
      obtain ⟨_, f1, f2, f3, f4⟩ := h'.no rfl
      exact ⟨e1.trans f1.symm, e2.trans f2.symm, e3.trans f3.symm, e4.trans f4.symm, rfl⟩
end Go.Proofs.Ytobfdhnaejfehaa
