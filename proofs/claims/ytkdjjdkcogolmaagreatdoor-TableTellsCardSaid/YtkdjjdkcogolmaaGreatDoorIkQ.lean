/-
  The texts IkS, IkQ, in one.
-/
import Derived.Test.YtkdjjdkcogolmaaGreatDoorIk7
import Derived.Laws.StructEq
section
/-
  One key in memory, and what was is as it was: what a region that draws needs.
-/
namespace Go.Proofs.YtkdjjdkcogolmaaGreatDoor
set_option maxRecDepth 100000
open Go.RowKit Go.Shelf

structure I1 (a : World) (b : Nat) (s : ByteArray) (q k : Nat) (w : World) : Prop where
  i : IkAt w b s q k
  g : Below a.heap.size a w
theorem IkAt.drew1 {w : World} {b : Nat} {s : ByteArray} {q k : Nat} (h : IkAt w b s q k) : IkAt w.drew b s q k := ⟨h.lt, h.h⟩
section
variable {a w w' : World} {b : Nat} {s : ByteArray} {q k : Nat}
theorem I1.drew (h : I1 a b s q k w) : I1 a b s q k w.drew := ⟨h.i.drew1, h.g.drew⟩
theorem I1.alloc (h : I1 a b s q k w) (o : Obj) : I1 a b s q k (w.alloc o) := ⟨h.i.alloc o, blit h.g o⟩
theorem I1.on (h : I1 a b s q k w) (hb : Below w.heap.size w w') : I1 a b s q k w' := ⟨h.i.below hb (Nat.le_refl _), bon h.g hb⟩
theorem I1.all (h : I1 a b s q k w) : I1 a b s q k w ∧ w.cell? ⟨b, 0, none⟩ = some (.string s) ∧ w.cell? ⟨b, 1, none⟩ = some (.int .u64 (q : Int)) ∧ w.cell? ⟨b, 2, none⟩ = some (.int .u8 (k : Int)) :=
  ⟨h, h.i.cells.1, h.i.cells.2.1, h.i.cells.2.2⟩
end
/-- Three of them. -/
structure I3 (a : World) (b : Nat) (s1 : ByteArray) (q1 k1 : Nat) (s2 : ByteArray) (q2 k2 : Nat) (s3 : ByteArray) (q3 k3 : Nat) (w : World) : Prop where
  i1 : IkAt w b s1 q1 k1
  i2 : IkAt w (b + 1) s2 q2 k2
  i3 : IkAt w (b + 1 + 1) s3 q3 k3
  g : Below a.heap.size a w
section
variable {a w w' : World} {b : Nat} {s1 s2 s3 : ByteArray} {q1 k1 q2 k2 q3 k3 : Nat}
theorem I3.drew (h : I3 a b s1 q1 k1 s2 q2 k2 s3 q3 k3 w) : I3 a b s1 q1 k1 s2 q2 k2 s3 q3 k3 w.drew := ⟨h.i1.drew1, h.i2.drew1, h.i3.drew1, h.g.drew⟩
theorem I3.alloc (h : I3 a b s1 q1 k1 s2 q2 k2 s3 q3 k3 w) (o : Obj) : I3 a b s1 q1 k1 s2 q2 k2 s3 q3 k3 (w.alloc o) := ⟨h.i1.alloc o, h.i2.alloc o, h.i3.alloc o, blit h.g o⟩
theorem I3.on (h : I3 a b s1 q1 k1 s2 q2 k2 s3 q3 k3 w) (hb : Below w.heap.size w w') : I3 a b s1 q1 k1 s2 q2 k2 s3 q3 k3 w' :=
  ⟨h.i1.below hb (Nat.le_refl _), h.i2.below hb (Nat.le_refl _), h.i3.below hb (Nat.le_refl _), bon h.g hb⟩
theorem I3.all (h : I3 a b s1 q1 k1 s2 q2 k2 s3 q3 k3 w) : I3 a b s1 q1 k1 s2 q2 k2 s3 q3 k3 w ∧
    w.cell? ⟨b, 0, none⟩ = some (.string s1) ∧ w.cell? ⟨b, 1, none⟩ = some (.int .u64 (q1 : Int)) ∧ w.cell? ⟨b, 2, none⟩ = some (.int .u8 (k1 : Int)) ∧
    w.cell? ⟨b + 1, 0, none⟩ = some (.string s2) ∧ w.cell? ⟨b + 1, 1, none⟩ = some (.int .u64 (q2 : Int)) ∧ w.cell? ⟨b + 1, 2, none⟩ = some (.int .u8 (k2 : Int)) ∧
    w.cell? ⟨b + 1 + 1, 0, none⟩ = some (.string s3) ∧ w.cell? ⟨b + 1 + 1, 1, none⟩ = some (.int .u64 (q3 : Int)) ∧ w.cell? ⟨b + 1 + 1, 2, none⟩ = some (.int .u8 (k3 : Int)) :=
  ⟨h, h.i1.cells.1, h.i1.cells.2.1, h.i1.cells.2.2, h.i2.cells.1, h.i2.cells.2.1, h.i2.cells.2.2, h.i3.cells.1, h.i3.cells.2.1, h.i3.cells.2.2⟩
end
end Go.Proofs.YtkdjjdkcogolmaaGreatDoor
end

section
/-
  Two internal keys held against each other by '=='.
-/
namespace Go.Proofs.YtkdjjdkcogolmaaGreatDoor
set_option maxRecDepth 100000
open Go.RowKit Go.Shelf

def sameK (s : ByteArray) (q k : Nat) (t : ByteArray) (q' k' : Nat) : Bool := decide (s = t ∧ q = q' ∧ k = k')
set_option maxRecDepth 100000 in
theorem run_eq_ik (W : World) (s : ByteArray) (q k : Nat) (t : ByteArray) (q' k' : Nat) :
    (Op.equalIn 10000 26 (.agg #[.string s, .int .u64 (q : Int), .int .u8 (k : Int)]) (.agg #[.string t, .int .u64 (q' : Int), .int .u8 (k' : Int)])).run Tryz.prog W = .ok (sameK s q k t q' k') W := by
  have hs : (s.toList == t.toList) = decide (s = t) := by rw [beq_str]; simp [cmpS_eq]
  rw [show (10000 : Nat) = 9998 + 1 + 1 from rfl, run_equalIn_agg W (9998 + 1) 26 _ _ (by kernel_rfl) (by kernel_rfl)]
  obtain ⟨fs, hfs⟩ : ∃ fs, (Tryz.prog.fieldsOf 26).toList = fs := ⟨_, rfl⟩
  rw [hfs]
  have h2 := Tryz.underlying26
  have h3 := hfs
  unfold Program.fieldsOf at h3
  rw [h2] at h3
  simp only at h3
  subst h3
  simp only [Op.eqFields]
  have a0 : (part 9 #[Value.string s, Value.int IntKind.u64 (q : Int), Value.int IntKind.u8 (k : Int)] 0).run Tryz.prog W = .ok (.string s) W := by kernel_rfl
  have a1 : (part 22 #[Value.string s, Value.int IntKind.u64 (q : Int), Value.int IntKind.u8 (k : Int)] 1).run Tryz.prog W = .ok (.int .u64 (q : Int)) W := by kernel_rfl
  have a2 : (part 5 #[Value.string s, Value.int IntKind.u64 (q : Int), Value.int IntKind.u8 (k : Int)] 2).run Tryz.prog W = .ok (.int .u8 (k : Int)) W := by kernel_rfl
  have b0 : (part 9 #[Value.string t, Value.int IntKind.u64 (q' : Int), Value.int IntKind.u8 (k' : Int)] 0).run Tryz.prog W = .ok (.string t) W := by kernel_rfl
  have b1 : (part 22 #[Value.string t, Value.int IntKind.u64 (q' : Int), Value.int IntKind.u8 (k' : Int)] 1).run Tryz.prog W = .ok (.int .u64 (q' : Int)) W := by kernel_rfl
  have b2 : (part 5 #[Value.string t, Value.int IntKind.u64 (q' : Int), Value.int IntKind.u8 (k' : Int)] 2).run Tryz.prog W = .ok (.int .u8 (k' : Int)) W := by kernel_rfl
  have e0 := run_equalIn_string (P := Tryz.prog) W 9998 9 s t Tryz.underlying9
  have e1 := run_equalIn_int (P := Tryz.prog) W 9998 22 .u64 _ (q : Int) (q' : Int) Tryz.underlying22
  have e2 := run_equalIn_int (P := Tryz.prog) W 9998 5 .u8 _ (k : Int) (k' : Int) Tryz.underlying5
  rw [if_pos (by decide), if_pos (by decide), if_pos (by decide)]
  rw [hs] at e0
  rw [show ((q : Int) == (q' : Int)) = decide (q = q') by rw [Bool.eq_iff_iff]; simp; omega] at e1
  rw [show ((k : Int) == (k' : Int)) = decide (k = k') by rw [Bool.eq_iff_iff]; simp; omega] at e2
  have hgoal : sameK s q k t q' k' = if !decide (s = t) then false else if !decide (q = q') then false else if !decide (k = k') then false else true := by
    unfold sameK
    by_cases h0 : s = t <;> by_cases h1 : q = q' <;> by_cases h2 : k = k' <;> simp [h0, h1, h2]
  rw [hgoal]
  simp only [Sem.run_bind, a0, b0, e0, Result.andThen_ok, Sem.run_ite, a1, b1, e1, a2, b2, e2, Sem.run_pure]
  cases decide (s = t) <;> cases decide (q = q') <;> cases decide (k = k') <;> rfl
end Go.Proofs.YtkdjjdkcogolmaaGreatDoor
end
