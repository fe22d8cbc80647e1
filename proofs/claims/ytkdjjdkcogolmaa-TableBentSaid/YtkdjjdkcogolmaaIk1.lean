/-
  Internal keys: what is right, as a test on the parts; the contracts of Right and Entry, the program's and the reference's; of what is sought.
-/
import Derived.Test.YtkdjjdkcogolmaaHelp
import Derived.Lib.Bytealg
namespace Go.Proofs.Ytkdjjdkcogolmaa
set_option maxRecDepth 100000
open Go.RowKit Go.Shelf

/-- An internal key, and an entry, as values. -/
def ik (s : ByteArray) (q k : Nat) : Value := .agg #[.string s, .int .u64 (q : Int), .int .u8 (k : Int)]
def en (s : ByteArray) (q k : Nat) (v : ByteArray) : Value := .agg #[.string s, .int .u64 (q : Int), .int .u8 (k : Int), .string v]
/-- A call that returned a value, and left what was. -/
def RetVl (w : World) (v : Value) (e : Ending) (w' : World) : Prop := e = .returned v ∧ Below w.heap.size w w'
def rightB (s : ByteArray) (q k : Nat) : Bool := decide (0 < s.size) && decide (s.size ≤ 64) && decide ((q : Int) ≤ 72057594037927935) && decide (k ≤ 1)
def entryB (s : ByteArray) (q k : Nat) (v : ByteArray) : Bool := rightB s q k && decide (v.size ≤ 256) && (decide (v.size = 0) || decide (k ≠ 0))

theorem str_nil (s : ByteArray) : s.toList = [] ↔ s.size = 0 := by
  rw [Lib.toList_data, ← List.length_eq_zero_iff, ← Lib.size_eq]
theorem str_emp (s : ByteArray) : s.toList.isEmpty = decide (s.size = 0) := by
  rw [Bool.eq_iff_iff]; simp [str_nil]
theorem below_alloc (w : World) (o : Obj) : Below w.heap.size w (w.alloc o) := (Below.refl _ _).alloc (Nat.le_refl _) _
theorem RetVl.bool {w w' : World} {b c : Bool} (h : b = c) (hb : Below w.heap.size w w') : RetVl w (.bool c) (.returned (.bool b)) w' := ⟨by rw [h], hb⟩
theorem RetVl.of {w w' : World} {v u : Value} (hv : u = v) (hb : Below w.heap.size w w') : RetVl w v (.returned u) w' := ⟨by rw [hv], hb⟩

set_option maxRecDepth 100000 in
set_option maxHeartbeats 1000000 in
theorem right_c (w : World) (s : ByteArray) (q k : Nat) : Calls Try.prog 25 #[ik s q k] w (RetVl w (.bool (rightB s q k))) := by
  unfold ik
  go_enter Try.func25, Try.ntmps25
  go_wp2
  all_goals go_ret
  all_goals refine RetVl.bool ?_ (below_alloc _ _)
  all_goals (try simp only [str_nil, str_emp] at *)
  all_goals unfold rightB
  all_goals rw [Bool.eq_iff_iff]
  all_goals simp [-ByteArray.size_eq_zero_iff]
  all_goals omega

/-- The world behind an entry's box, and behind a call that left it. -/
theorem box_en {w w1 : World} {s v : ByteArray} {q k : Nat} (hb1 : Below (w.alloc (Obj.cells #[Value.string s, Value.int IntKind.u64 (q : Int), Value.int IntKind.u8 (k : Int), .string v] 45)).heap.size (w.alloc (Obj.cells #[Value.string s, Value.int IntKind.u64 (q : Int), Value.int IntKind.u8 (k : Int), .string v] 45)) w1) :
    Below w.heap.size w w1 ∧ w1.cell? ⟨w.heap.size, 2, none⟩ = some (.int .u8 (k : Int)) ∧ w1.cell? ⟨w.heap.size, 3, none⟩ = some (.string v) := by
  refine ⟨(below_alloc w _).trans (hb1.mono (by simp)), ?_, ?_⟩
  · rw [hb1.cell (by simp)]; simp only [World.cell?, heap_alloc_new]; rfl
  · rw [hb1.cell (by simp)]; simp only [World.cell?, heap_alloc_new]; rfl

set_option maxRecDepth 100000 in
set_option maxHeartbeats 1000000 in
theorem entry_c (w : World) (s : ByteArray) (q k : Nat) (v : ByteArray) : Calls Try.prog 17 #[en s q k v] w (RetVl w (.bool (entryB s q k v))) := by
  unfold en
  go_enter Try.func17, Try.ntmps17
  have hr := right_c (w.alloc (Obj.cells #[Value.string s, Value.int IntKind.u64 ↑q, Value.int IntKind.u8 ↑k, .string v] 45)) s q k
  unfold ik at hr
  have HR := Lib.hid hr
  clear hr
  go_wp2_with fail
  refine HR.out.mono ?_
  rintro e w1 ⟨rfl, hb1⟩
  obtain ⟨hb2, c2, c3⟩ := box_en hb1
  clear hb1 HR
  go_wp2
  all_goals go_ret
  all_goals refine RetVl.bool ?_ hb2
  all_goals (try simp only [str_nil, str_emp] at *)
  all_goals unfold entryB
  all_goals rw [Bool.eq_iff_iff]
  all_goals simp_all [-ByteArray.size_eq_zero_iff]
  all_goals omega

/-- A result that lies in a variable of its own. -/
theorem ret_cell {fn : Func} {p : Tmp} {R : Ending → World → Prop} {a : Act} {w : World} {g : Nat} {t : TypeId} {s : ByteArray} {q k : Nat} {fr : Nat × Nat} (h : fn.results = #[.cell p 43]) (hd : a.defers = [])
    (hp : a.tmps.getD p undef = .pointer (some ⟨g, 0, none⟩)) (hg : w.heap[g]? = some (.cells #[.string s, .int .u64 (q : Int), .int .u8 (k : Int)] t fr)) (hR : R (.returned (ik s q k)) w) : bodyPost Try.prog fn R .ret a w :=
  bodyPost_ret (results_cell_row h a.tmps w g t _ fr _ hp hg Try.underlying43 rfl (by kernel_rfl)) hd hR

end Go.Proofs.Ytkdjjdkcogolmaa
