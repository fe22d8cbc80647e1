/-
  Notes of tables, and edits, as values; which notes are right; the contracts of it, on both sides.
-/
import Derived.Test.YthgbafhfeblhaaaHelp
import Derived.Test.YthgbafhfeblhaaaBack
import Derived.Lib.Bytealg
namespace Go.Proofs.Ythgbafhfeblhaaa
set_option maxRecDepth 100000
open Go.RowKit Go.Shelf

/-- A note's parts: its number, its size, its least key, its greatest. -/
structure Mt where
  n : Nat
  z : Nat
  s : ByteArray
  t : ByteArray
/-- A note as a value. -/
def mv (x : Mt) : Value := .agg #[.int .u64 (x.n : Int), .int .u64 (x.z : Int), .string x.s, .string x.t]
/-- A call that returned a value, and left what was. -/
def RetVl (w : World) (v : Value) (e : Ending) (w' : World) : Prop := e = .returned v ∧ Below w.heap.size w w'
theorem below_alloc (w : World) (o : Obj) : Below w.heap.size w (w.alloc o) := (Below.refl _ _).alloc (Nat.le_refl _) _
theorem RetVl.bool {w w' : World} {b c : Bool} (h : b = c) (hb : Below w.heap.size w w') : RetVl w (.bool c) (.returned (.bool b)) w' := ⟨by rw [h], hb⟩
theorem RetVl.of {w w' : World} {v u : Value} (hv : u = v) (hb : Below w.heap.size w w') : RetVl w v (.returned u) w' := ⟨by rw [hv], hb⟩
theorem str_nil (s : ByteArray) : s.toList = [] ↔ s.size = 0 := by
  rw [Lib.toList_data, ← List.length_eq_zero_iff, ← Lib.size_eq]
theorem str_emp (s : ByteArray) : s.toList.isEmpty = decide (s.size = 0) := by
  rw [Bool.eq_iff_iff]; simp [str_nil]
theorem heap_at {w : World} {o : Obj} {g : Nat} (h : w.heap.size = g) : (w.alloc o).heap[g]? = some o := by subst h; exact heap_alloc_new w o

def keyB (s : ByteArray) : Bool := decide (1 ≤ s.size) && decide (s.size ≤ 64)

set_option maxRecDepth 100000 in
set_option maxHeartbeats 1000000 in
theorem key_c (w : World) (s : ByteArray) : Calls Try.prog 54 #[.string s] w (RetVl w (.bool (keyB s))) := by
  go_enter Try.func54, Try.ntmps54
  go_wp2
  all_goals go_ret
  all_goals refine RetVl.bool ?_ (Below.refl _ _)
  all_goals unfold keyB
  all_goals rw [Bool.eq_iff_iff]
  all_goals simp [-ByteArray.size_eq_zero_iff]
  all_goals omega

/-- One string is not greater than another one. -/
def leS (s t : ByteArray) : Bool := Op.bytesLess s.toList t.toList || s.toList == t.toList
def noteB (x : Mt) : Bool := decide (0 < x.n) && decide (0 < x.z) && keyB x.s && keyB x.t && leS x.s x.t

set_option maxRecDepth 100000 in
set_option maxHeartbeats 1000000 in
theorem note_c (w : World) (x : Mt) : Calls Try.prog 44 #[mv x] w (RetVl w (.bool (noteB x))) := by
  have H := Lib.hid (fun W s => key_c W s)
  have hx : noteB x = (decide (0 < x.n) && decide (0 < x.z) && keyB x.s && keyB x.t && leS x.s x.t) := rfl
  unfold leS at hx
  have HX := Lib.hid hx
  clear hx
  unfold mv
  have hb0 := below_alloc w (Obj.cells #[Value.int IntKind.u64 (x.n : Int), Value.int IntKind.u64 (x.z : Int), .string x.s, .string x.t] 47)
  go_enter Try.func44, Try.ntmps44
  by_cases h1 : 0 < x.n
  · by_cases h2 : 0 < x.z
    · have d1 : decide ((0 : Int) < (x.n : Int)) = true := by simp; omega
      have d2 : decide ((0 : Int) < (x.z : Int)) = true := by simp; omega
      go_wp2_with fail
      refine (H.out _ _).mono ?_
      rintro e w1 ⟨rfl, hb1⟩
      have c2 : w1.cell? ⟨w.heap.size, 2, none⟩ = some (.string x.s) := by rw [hb1.cell (by simp)]; simp only [World.cell?, heap_alloc_new]; rfl
      have c3 : w1.cell? ⟨w.heap.size, 3, none⟩ = some (.string x.t) := by rw [hb1.cell (by simp)]; simp only [World.cell?, heap_alloc_new]; rfl
      have hb2 := bon hb0 hb1
      cases hk : keyB x.s with
      | false =>
        rw [hk] at HX
        clear hb0 hb1
        go_wp2_with fail
        go_ret
        exact RetVl.bool (by rw [HX.out]; simp) hb2
      | true =>
        rw [hk] at HX
        go_wp2_with fail
        refine (H.out _ _).mono ?_
        rintro e w3 ⟨rfl, hb3⟩
        have e2 : w3.cell? ⟨w.heap.size, 2, none⟩ = some (.string x.s) := by rw [hb3.cell (by have := hb1.size; simp at this; simp; omega)]; exact c2
        have e3 : w3.cell? ⟨w.heap.size, 3, none⟩ = some (.string x.t) := by rw [hb3.cell (by have := hb1.size; simp at this; simp; omega)]; exact c3
        have hb4 := bon hb2 hb3
        clear hb0 hb1 hb2 hb3 c2 c3
        cases hk2 : keyB x.t with
        | false =>
          rw [hk2] at HX
          go_wp2_with fail
          go_ret
          exact RetVl.bool (by rw [HX.out]; simp) hb4
        | true =>
          rw [hk2] at HX
          go_wp2_with fail
          go_ret
          exact RetVl.bool (by rw [HX.out]; simp [h1, h2]) hb4
    · have d1 : decide ((0 : Int) < (x.n : Int)) = true := by simp; omega
      have d2 : decide ((0 : Int) < (x.z : Int)) = false := by simp; omega
      go_wp2_with fail
      go_ret
      exact RetVl.bool (by rw [HX.out]; simp [h2]) hb0
  · have d1 : decide ((0 : Int) < (x.n : Int)) = false := by simp; omega
    go_wp2_with fail
    go_ret
    exact RetVl.bool (by rw [HX.out]; simp [h1]) hb0

set_option maxRecDepth 100000 in
set_option maxHeartbeats 1000000 in
theorem refNote_c (w : World) (x : Mt) : Calls Try.prog 37 #[mv x] w (RetVl w (.bool (noteB x))) := by
  unfold mv
  go_enter Try.func37, Try.ntmps37
  go_wp2
  all_goals go_ret
  all_goals refine RetVl.bool ?_ (below_alloc _ _)
  all_goals unfold noteB keyB leS
  all_goals rw [Bool.eq_iff_iff]
  all_goals simp_all [-ByteArray.size_eq_zero_iff]
  all_goals omega
end Go.Proofs.Ythgbafhfeblhaaa
