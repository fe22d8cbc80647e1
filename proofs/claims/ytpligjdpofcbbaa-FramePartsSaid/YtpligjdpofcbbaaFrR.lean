/-
  What comes in: rows of bytes; frames one behind the other.
-/
import Derived.Test.YtpligjdpofcbbaaFrL
import Derived.WalkKit
import Derived.ProofKit
import Derived.OpenShut
import Derived.Deep.Matrix
namespace Go.Proofs.Ytpligjdpofcbbaa
open Go.RowKit Go.ChangeShapes Go.WideShapes Go.ChangeAt Go.Deep

/-- A row of bytes that came in: where it lies, and what it reads as. -/
structure Row where
  a : Option Addr
  n : Nat
  c : Nat
  l : List UInt8
def Row.v (r : Row) : Value := .slice r.a r.n r.c
/-- Rows that came in. -/
structure RowsAt (w : World) (A : Option Addr) (n c : Nat) (L : List Row) : Prop where
  rd : Rd w w.heap.size A n c (L.map Row.v)
  row : ∀ r ∈ L, Rd w w.heap.size r.a r.n r.c (bv r.l)

theorem open_rows {H : Type} {enc : TypeId × Value → H} {w : World} {base : Nat} {held : Bool} {r : Reach} {b0 : Nat} {v : Value} {d : DataW H} {p : List MemPlace} (h : DataW.Trod enc Try.prog w base (fun _ => true) held 28 v d p) (hv : Value.okWide Try.prog w r b0 28 v) :
    ∃ (A : Option Addr) (n c : Nat) (L : List Row), v = .slice A n c ∧ RowsAt w A n c L := by
  obtain ⟨A, n, c, rfl⟩ := okWide_slice Try.underlying28 hv
  obtain ⟨fuel, hf⟩ := h
  rcases open_int_rows Try.underlying28 Try.underlying22 Try.underlying5 (by kernel_rfl) (by kernel_rfl) hf with ⟨hcs, _⟩ | ⟨a, len, cap, RA, RL, RC, RZ, hcs, _, hl, hm, _, hr⟩
  · simp [Value.cells] at hcs
    obtain ⟨rfl, rfl, rfl⟩ := hcs
    exact ⟨none, 0, 0, [], rfl, Rd.nilv, fun r hr => by cases hr⟩
  · simp [Value.cells] at hcs
    obtain ⟨rfl, rfl, rfl⟩ := hcs
    have he : ∀ i, i < n → ∃ l : List UInt8, Rd w w.heap.size (RA i) (RL i) (RC i) (bv l) := by
      intro i hi
      obtain ⟨_, h1, h2, h3, h4, h5, h6⟩ := hr i (by omega)
      obtain ⟨l, _, hR⟩ := rd_of_row (w := w) (a := RA i) (len := RL i) (cap := RC i) (zs := RZ i) (by
        cases hA : RA i with
        | none =>
          have h0 := h5 hA
          exact .inl ⟨rfl, by omega, h0, List.eq_nil_of_length_eq_zero (by omega)⟩
        | some x =>
          exact .inr ⟨x, rfl, h1, h2, h3, fun j hj => (h6 x hA).2 j (by omega), h4⟩)
      exact ⟨l, hR⟩
    refine ⟨some a, n, c, (List.range n).map fun i => ⟨RA i, RL i, RC i, if hi : i < n then (he i hi).choose else []⟩, rfl, ⟨by simp, hl, hm, fun e => (by cases e), fun hn ad e => ?_, fun ad e j u hu => ?_⟩, fun r hr' => ?_⟩
    · cases e
      have := World.block_lt_of_cell? w _ (hr 0 (by omega)).1
      rwa [block_of_add] at this
    · cases e
      have hj : j < n := by
        rcases Nat.lt_or_ge j n with h | h
        · exact h
        · rw [List.getElem?_eq_none (by simp; omega)] at hu; cases hu
      simp only [List.map_map, List.getElem?_map, List.getElem?_range hj, Option.map_some, Function.comp, Row.v, Option.some.injEq] at hu
      rw [← hu]
      exact (hr j (by omega)).1
    · obtain ⟨i, hi, rfl⟩ := List.mem_map.1 hr'
      have hi' := List.mem_range.1 hi
      simp only [hi', dif_pos]
      exact (he i hi').choose_spec

/-- Frames, one behind the other. -/
def catL : List Row → List UInt8
  | [] => []
  | r :: L => sealL r.l ++ catL L
theorem catL_snoc : ∀ (L : List Row) (r : Row), catL (L ++ [r]) = catL L ++ sealL r.l
  | [], r => by simp [catL]
  | x :: L, r => by simp only [List.cons_append, catL, catL_snoc L r, List.append_assoc]
theorem catL_len : ∀ (L : List Row), (∀ r ∈ L, r.l.length ≤ 60) → (catL L).length ≤ 68 * L.length
  | [], _ => by simp [catL]
  | x :: L, h => by
    have h1 := catL_len L (fun r hr => h r (by simp [hr]))
    have h2 := h x (by simp)
    simp only [catL, List.length_append, sealL_len, List.length_cons]
    omega
theorem info_bytes : (Try.prog.info? 22).map (fun i => (i.zero, i.size, i.bytes)) = some (some (.slice none 0 0), 1, 24) := by kernel_rfl
end Go.Proofs.Ytpligjdpofcbbaa
