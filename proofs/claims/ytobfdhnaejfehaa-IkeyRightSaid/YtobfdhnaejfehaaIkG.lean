/-
  Boxes of keys beside each other: a store into one leaves the others.
-/
import Derived.Test.YtobfdhnaejfehaaIkF
import Derived.Laws.MakeOwn
namespace Go.Proofs.Ytobfdhnaejfehaa
open Go.RowKit Go.Shelf

theorem IkAt.other {w : World} {b : Nat} {s : ByteArray} {q k : Nat} (h : IkAt w b s q k) {p : Addr} (hp : b ≠ p.block) (u : Value) : IkAt (w.setCell p u) b s q k :=
  ⟨by have := h.lt; simpa [World.setCell] using this, by rw [Below.heap_setCell _ _ _ _ hp]; exact h.h⟩
theorem i1_set {a w : World} {b : Nat} {s : ByteArray} {q k : Nat} (h : I1 a b s q k w) {p : Addr} (hp : b ≠ p.block) (ha : a.heap.size ≤ p.block) (u : Value) : I1 a b s q k (w.setCell p u) :=
  ⟨h.i.other hp u, h.g.setCell ha u⟩
theorem i1_set3 {a w : World} {b c : Nat} {s : ByteArray} {q k : Nat} (h : I1 a b s q k w) (hp : b ≠ c) (ha : a.heap.size ≤ c) {u v x : Value} :
    I1 a b s q k (((w.setCell ⟨c, 0, none⟩ u).setCell ⟨c, 1, none⟩ v).setCell ⟨c, 2, none⟩ x) := i1_set (i1_set (i1_set h hp ha u) hp ha v) hp ha x
theorem IkAt.set0 {w : World} {b : Nat} {s : ByteArray} {q k : Nat} (h : IkAt w b s q k) (s' : ByteArray) : IkAt (w.setCell ⟨b, 0, none⟩ (.string s')) b s' q k :=
  ⟨by have := h.lt; simpa [World.setCell] using this, by simp only [World.setCell, Array.getElem?_modify, if_pos, h.h]; rfl⟩
theorem IkAt.set1 {w : World} {b : Nat} {s : ByteArray} {q k : Nat} (h : IkAt w b s q k) (q' : Nat) : IkAt (w.setCell ⟨b, 1, none⟩ (.int .u64 (q' : Int))) b s q' k :=
  ⟨by have := h.lt; simpa [World.setCell] using this, by simp only [World.setCell, Array.getElem?_modify, if_pos, h.h]; rfl⟩
theorem IkAt.set2 {w : World} {b : Nat} {s : ByteArray} {q k : Nat} (h : IkAt w b s q k) (k' : Nat) : IkAt (w.setCell ⟨b, 2, none⟩ (.int .u8 (k' : Int))) b s q k' :=
  ⟨by have := h.lt; simpa [World.setCell] using this, by simp only [World.setCell, Array.getElem?_modify, if_pos, h.h]; rfl⟩
/-- Four boxes of one key, apart from each other. -/
structure Bx (a : World) (s : ByteArray) (q k : Nat) (W : World) (b7 b8 b9 b10 : Nat) : Prop where
  i7 : IkAt W b7 s q k
  i8 : IkAt W b8 s q k
  i9 : IkAt W b9 s q k
  i10 : IkAt W b10 s q k
  ne : b7 ≠ b8 ∧ b7 ≠ b9 ∧ b7 ≠ b10 ∧ b8 ≠ b9 ∧ b8 ≠ b10 ∧ b9 ≠ b10
  lo : a.heap.size ≤ b7 ∧ a.heap.size ≤ b8 ∧ a.heap.size ≤ b9 ∧ a.heap.size ≤ b10
  g : Below a.heap.size a W
/-- New bytes, all 0. -/
def zeros (m : Nat) : List UInt8 := List.replicate m 0
theorem made_zeros (m : Nat) : madeCells (Value.int .u8 0).cells (m * 1) = (bv (zeros m)).toArray := by
  apply Array.ext
  · simp [size_madeCells, zeros]
  · intro i h1 h2
    simp [madeCells, zeros, bv, b8, Value.cells, Nat.mod_one]
theorem run_zeros {g : Nat} (m : Nat) (hm : (m : Int) ≤ 1000) (W : World) (hg : W.heap.size = g) : (Instr.makeSlice 26 (.int .i64 (m : Int)) (.int .i64 (m : Int))).run Try.prog W = .ok (.slice (some ⟨g, 0, none⟩) m m) (W.alloc (.cells (bv (zeros m)).toArray 5)) := by
  subst hg
  obtain ⟨i, hi, hz0, hz1, hz2⟩ := info_parts info_u8
  have := run_makeSlice (P := Try.prog) W 26 5 i _ Try.underlying26 hi hz0 .i64 .i64 (m : Int) (m : Int) (by omega) (Int.le_refl _) (by rw [hz1]; simp; omega) (by rw [hz2]; omega) (by omega)
  rw [this, hz1, Int.toNat_natCast, made_zeros]
theorem run_zstr {g : Nat} (m : Nat) (hm : (m : Int) ≤ 1000) (W : World) (hg : W.heap.size = g) : (convert 26 9 (.slice (some ⟨g, 0, none⟩) m m)).run Try.prog (W.alloc (.cells (bv (zeros m)).toArray 5)) = .ok (.string ⟨(zeros m).toArray⟩) (W.alloc (.cells (bv (zeros m)).toArray 5)) :=
  run_str (Rd.litb W (zeros m) hg rfl (by simp [zeros]) (by simp only [maxLen]; omega)) _ _ _ Try.underlying26 Try.underlying5 Try.underlying9
theorem zeros_size (s : ByteArray) (m : Nat) : (s ++ (⟨(zeros m).toArray⟩ : ByteArray)).size = s.size + m := by
  rw [ByteArray.size_append]
  congr 1
  show (zeros m).toArray.size = m
  simp [zeros]
/-- The boxes of the last statement of IkeyRight: the key, the long one, the gone one. -/
structure Rk (a : World) (b7 b8 b11 : Nat) (s : ByteArray) (q : Nat) (l : ByteArray) (w : World) : Prop where
  i7 : IkAt w b7 s q 1
  i8 : IkAt w b8 l q 1
  i11 : IkAt w b11 s q 0
  g : Below a.heap.size a w
section
variable {a w w' : World} {b7 b8 b11 : Nat} {s l : ByteArray} {q : Nat}
theorem Rk.drew (h : Rk a b7 b8 b11 s q l w) : Rk a b7 b8 b11 s q l w.drew := ⟨h.i7.drew1, h.i8.drew1, h.i11.drew1, h.g.drew⟩
theorem Rk.alloc (h : Rk a b7 b8 b11 s q l w) (o : Obj) : Rk a b7 b8 b11 s q l (w.alloc o) := ⟨h.i7.alloc o, h.i8.alloc o, h.i11.alloc o, blit h.g o⟩
theorem Rk.on (h : Rk a b7 b8 b11 s q l w) (hb : Below w.heap.size w w') : Rk a b7 b8 b11 s q l w' := ⟨h.i7.below hb (Nat.le_refl _), h.i8.below hb (Nat.le_refl _), h.i11.below hb (Nat.le_refl _), bon h.g hb⟩
theorem Rk.all (h : Rk a b7 b8 b11 s q l w) : Rk a b7 b8 b11 s q l w ∧ (w.cell? ⟨b7, 0, none⟩ = some (.string s) ∧ w.cell? ⟨b7, 1, none⟩ = some (.int .u64 (q : Int)) ∧ w.cell? ⟨b7, 2, none⟩ = some (.int .u8 1)) ∧
    (w.cell? ⟨b8, 0, none⟩ = some (.string l) ∧ w.cell? ⟨b8, 1, none⟩ = some (.int .u64 (q : Int)) ∧ w.cell? ⟨b8, 2, none⟩ = some (.int .u8 1)) ∧
    (w.cell? ⟨b11, 0, none⟩ = some (.string s) ∧ w.cell? ⟨b11, 1, none⟩ = some (.int .u64 (q : Int)) ∧ w.cell? ⟨b11, 2, none⟩ = some (.int .u8 0)) := ⟨h, h.i7.cells, h.i8.cells, h.i11.cells⟩
end
end Go.Proofs.Ytobfdhnaejfehaa
