/-
  The texts Ik1, Ik2, Ik3, in one.
-/
import Derived.Test.YtkdjjdkcogolmaaGreatDoorHelp
import Derived.Lib.Bytealg
import Derived.Laws.EntriesVeiled
section
/-
  Internal keys: what is right, as a test on the parts; the contracts of Right and Entry, the program's and the reference's; of what is sought.
-/
namespace Go.Proofs.YtkdjjdkcogolmaaGreatDoor
set_option maxRecDepth 100000
open Go.RowKit Go.Shelf

/-- An internal key, and an entry, as values. -/
def ik (s : ByteArray) (q k : Nat) : Value := .agg #[.string s, .int .u64 (q : Int), .int .u8 (k : Int)]
def en (s : ByteArray) (q k : Nat) (v : ByteArray) : Value := .agg #[.string s, .int .u64 (q : Int), .int .u8 (k : Int), .string v]
/-- A call that returned a value, and left what was. -/
def RetVl (w : World) (v : Value) (e : Ending) (w' : World) : Prop := e = .returned v ∧ Below w.heap.size w w'
def rightB (s : ByteArray) (q k : Nat) : Bool := decide (0 < s.size) && decide (s.size ≤ 64) && decide ((q : Int) ≤ 72057594037927935) && decide (k ≤ 1)
def entryB (s : ByteArray) (q k : Nat) (v : ByteArray) : Bool := rightB s q k && decide (v.size ≤ 256) && (decide (v.size = 0) || decide (k ≠ 0))

theorem str_nil (s : ByteArray) : s.toList = [] ↔ s.size = 0 := by
  rw [Lib.toList_data, ← List.length_eq_zero_iff, ← Lib.size_eq]
theorem str_emp (s : ByteArray) : s.toList.isEmpty = decide (s.size = 0) := by
  rw [Bool.eq_iff_iff]; simp [str_nil]
theorem below_alloc (w : World) (o : Obj) : Below w.heap.size w (w.alloc o) := (Below.refl _ _).alloc (Nat.le_refl _) _
theorem RetVl.bool {w w' : World} {b c : Bool} (h : b = c) (hb : Below w.heap.size w w') : RetVl w (.bool c) (.returned (.bool b)) w' := ⟨by rw [h], hb⟩
theorem RetVl.of {w w' : World} {v u : Value} (hv : u = v) (hb : Below w.heap.size w w') : RetVl w v (.returned u) w' := ⟨by rw [hv], hb⟩

set_option maxRecDepth 100000 in
set_option maxHeartbeats 1000000 in
theorem right_c (w : World) (s : ByteArray) (q k : Nat) : Calls Tryz.prog 67 #[ik s q k] w (RetVl w (.bool (rightB s q k))) := by
  unfold ik
  go_enter Tryz.func67, Tryz.ntmps67
  go_wp2
  all_goals go_ret
  all_goals refine RetVl.bool ?_ (below_alloc _ _)
  all_goals (try simp only [str_nil, str_emp] at *)
  all_goals unfold rightB
  all_goals rw [Bool.eq_iff_iff]
  all_goals simp [-ByteArray.size_eq_zero_iff]
  all_goals omega

set_option maxRecDepth 100000 in
set_option maxHeartbeats 1000000 in
theorem refRight_c (w : World) (s : ByteArray) (q k : Nat) : Calls Tryz.prog 60 #[ik s q k] w (RetVl w (.bool (rightB s q k))) := by
  unfold ik
  go_enter Tryz.func60, Tryz.ntmps60
  go_wp2
  all_goals go_ret
  all_goals refine RetVl.bool ?_ (below_alloc _ _)
  all_goals unfold rightB
  all_goals rw [Bool.eq_iff_iff]
  all_goals simp
  all_goals omega

/-- The world behind an entry's box, and behind a call that left it. -/
theorem box_en {w w1 : World} {s v : ByteArray} {q k : Nat} (hb1 : Below (w.alloc (Obj.cells #[Value.string s, Value.int IntKind.u64 (q : Int), Value.int IntKind.u8 (k : Int), .string v] 40)).heap.size (w.alloc (Obj.cells #[Value.string s, Value.int IntKind.u64 (q : Int), Value.int IntKind.u8 (k : Int), .string v] 40)) w1) :
    Below w.heap.size w w1 ∧ w1.cell? ⟨w.heap.size, 2, none⟩ = some (.int .u8 (k : Int)) ∧ w1.cell? ⟨w.heap.size, 3, none⟩ = some (.string v) := by
  refine ⟨(below_alloc w _).trans (hb1.mono (by simp)), ?_, ?_⟩
  · rw [hb1.cell (by simp)]; simp only [World.cell?, heap_alloc_new]; rfl
  · rw [hb1.cell (by simp)]; simp only [World.cell?, heap_alloc_new]; rfl

set_option maxRecDepth 100000 in
set_option maxHeartbeats 1000000 in
theorem entry_c (w : World) (s : ByteArray) (q k : Nat) (v : ByteArray) : Calls Tryz.prog 44 #[en s q k v] w (RetVl w (.bool (entryB s q k v))) := by
  unfold en
  go_enter Tryz.func44, Tryz.ntmps44
  have hr := right_c (w.alloc (Obj.cells #[Value.string s, Value.int IntKind.u64 ↑q, Value.int IntKind.u8 ↑k, .string v] 40)) s q k
  unfold ik at hr
  have HR := Lib.hid hr
  clear hr
  go_wp2_with fail
  refine HR.out.mono ?_
  rintro e w1 ⟨rfl, hb1⟩
  obtain ⟨hb2, c2, c3⟩ := box_en hb1
  clear hb1 HR
  go_wp2
  all_goals go_ret
  all_goals refine RetVl.bool ?_ hb2
  all_goals (try simp only [str_nil, str_emp] at *)
  all_goals unfold entryB
  all_goals rw [Bool.eq_iff_iff]
  all_goals simp_all [-ByteArray.size_eq_zero_iff]
  all_goals omega

set_option maxRecDepth 100000 in
set_option maxHeartbeats 1000000 in
theorem refEntry_c (w : World) (s : ByteArray) (q k : Nat) (v : ByteArray) : Calls Tryz.prog 54 #[en s q k v] w (RetVl w (.bool (entryB s q k v))) := by
  unfold en
  go_enter Tryz.func54, Tryz.ntmps54
  have hr := refRight_c (w.alloc (Obj.cells #[Value.string s, Value.int IntKind.u64 ↑q, Value.int IntKind.u8 ↑k, .string v] 40)) s q k
  unfold ik at hr
  have HR := Lib.hid hr
  clear hr
  go_wp2_with fail
  refine HR.out.mono ?_
  rintro e w1 ⟨rfl, hb1⟩
  obtain ⟨hb2, c2, c3⟩ := box_en hb1
  have hk : rightB s q k = true → k ≤ 1 := by unfold rightB; simp
  clear hb1 HR
  go_wp2
  all_goals go_ret
  all_goals refine RetVl.bool ?_ hb2
  all_goals (try simp only [str_emp] at *)
  all_goals unfold entryB
  all_goals rw [Bool.eq_iff_iff]
  all_goals simp_all [-ByteArray.size_eq_zero_iff]
  all_goals omega

/-- A result that lies in a variable of its own. -/
theorem ret_cell {fn : Func} {p : Tmp} {R : Ending → World → Prop} {a : Act} {w : World} {g : Nat} {t : TypeId} {s : ByteArray} {q k : Nat} {fr : Nat × Nat} (h : fn.results = #[.cell p 26]) (hd : a.defers = [])
    (hp : a.tmps.getD p undef = .pointer (some ⟨g, 0, none⟩)) (hg : w.heap[g]? = some (.cells #[.string s, .int .u64 (q : Int), .int .u8 (k : Int)] t fr)) (hR : R (.returned (ik s q k)) w) : bodyPost Tryz.prog fn R .ret a w :=
  bodyPost_ret (results_cell_row h a.tmps w g t _ fr _ hp hg Tryz.underlying26 rfl (by kernel_rfl)) hd hR

end Go.Proofs.YtkdjjdkcogolmaaGreatDoor
end

section
/-
  The order of internal keys: the contracts of Compare, the program's and the reference's.
-/
namespace Go.Proofs.YtkdjjdkcogolmaaGreatDoor
set_option maxRecDepth 100000
open Go.RowKit Go.Shelf

def cmpI (x y : Nat) : Int := if x < y then -1 else if y < x then 1 else 0
def cmpS (s t : ByteArray) : Int := Lib.compareBytes s.data.toList t.data.toList
/-- The order. -/
def cmpV (s : ByteArray) (q k : Nat) (s' : ByteArray) (q' k' : Nat) : Int :=
  if cmpS s s' ≠ 0 then cmpS s s' else if cmpI q' q ≠ 0 then cmpI q' q else cmpI k' k

theorem less_cmp : ∀ a b : List UInt8, Op.bytesLess a b = decide (Lib.compareBytes a b = -1)
  | [], [] => by simp [Op.bytesLess, Lib.compareBytes]
  | [], _ :: _ => by simp [Op.bytesLess, Lib.compareBytes]
  | _ :: _, [] => by simp [Op.bytesLess, Lib.compareBytes]
  | x :: a, y :: b => by
    have ih := less_cmp a b
    simp only [Op.bytesLess, Lib.compareBytes]
    by_cases h1 : x < y
    · simp [h1]
    · by_cases h2 : y < x
      · have : x ≠ y := fun e => by subst e; exact absurd h2 (by simp)
        simp [h1, h2, this]
      · have : x = y := UInt8.le_antisymm (UInt8.not_lt.1 h2) (UInt8.not_lt.1 h1)
        subst this
        simp [ih]
theorem eq_cmp : ∀ a b : List UInt8, (Lib.compareBytes a b = 0) ↔ a = b
  | [], [] => by simp [Lib.compareBytes]
  | [], _ :: _ => by simp [Lib.compareBytes]
  | _ :: _, [] => by simp [Lib.compareBytes]
  | x :: a, y :: b => by
    have ih := eq_cmp a b
    simp only [Lib.compareBytes]
    by_cases h1 : x < y
    · have : x ≠ y := fun e => by subst e; exact absurd h1 (by simp)
      simp [h1, this]
    · by_cases h2 : y < x
      · have : x ≠ y := fun e => by subst e; exact absurd h2 (by simp)
        simp [h1, h2, this]
      · have : x = y := UInt8.le_antisymm (UInt8.not_lt.1 h2) (UInt8.not_lt.1 h1)
        subst this
        simp [ih]
theorem swap_cmp : ∀ a b : List UInt8, Lib.compareBytes b a = - Lib.compareBytes a b
  | [], [] => by simp [Lib.compareBytes]
  | [], _ :: _ => by simp [Lib.compareBytes]
  | _ :: _, [] => by simp [Lib.compareBytes]
  | x :: a, y :: b => by
    have ih := swap_cmp a b
    simp only [Lib.compareBytes]
    by_cases h1 : x < y
    · have h2 : ¬ y < x := fun h => absurd (UInt8.lt_trans h h1) (by simp)
      simp [h1, h2]
    · by_cases h2 : y < x
      · simp [h1, h2]
      · simp [h1, h2, ih]
theorem three_cmp : ∀ a b : List UInt8, Lib.compareBytes a b = -1 ∨ Lib.compareBytes a b = 0 ∨ Lib.compareBytes a b = 1
  | [], [] => by simp [Lib.compareBytes]
  | [], _ :: _ => by simp [Lib.compareBytes]
  | _ :: _, [] => by simp [Lib.compareBytes]
  | x :: a, y :: b => by
    have ih := three_cmp a b
    simp only [Lib.compareBytes]
    by_cases h1 : x < y
    · simp [h1]
    · by_cases h2 : y < x
      · simp [h1, h2]
      · simp [h1, h2, ih]

theorem cmpS_three (s t : ByteArray) : cmpS s t = -1 ∨ cmpS s t = 0 ∨ cmpS s t = 1 := three_cmp _ _
theorem cmpS_swap (s t : ByteArray) : cmpS t s = - cmpS s t := swap_cmp _ _
theorem cmpS_eq (s t : ByteArray) : cmpS s t = 0 ↔ s = t := by
  unfold cmpS
  rw [eq_cmp, Array.toList_inj]
  exact ⟨fun h => by cases s; cases t; simp_all, fun h => by rw [h]⟩
theorem less_str (s t : ByteArray) : Op.bytesLess s.toList t.toList = decide (cmpS s t = -1) := by
  rw [Lib.toList_data, Lib.toList_data, less_cmp]; rfl
theorem beq_str (s t : ByteArray) : (s.toList == t.toList) = decide (cmpS s t = 0) := by
  rw [Lib.toList_data, Lib.toList_data, Bool.eq_iff_iff]; simp [cmpS, eq_cmp]

set_option maxRecDepth 100000 in
set_option maxHeartbeats 1000000 in
theorem compareString_c (w : World) (a b : ByteArray) : Calls Tryz.prog 129 #[.string a, .string b] w (RetVl w (.int .i64 (cmpS a b))) := by
  go_enter Tryz.func129, Tryz.ntmps129
  go_wp2
  rw [run_callFunc_extern Tryz.func139 (by kernel_rfl) (by kernel_rfl) (by kernel_rfl) (e := Extern.BytealgCompare.compare) (by kernel_rfl), Lib.run_compareString]
  simp only [Result.andThen]
  rw [Oper.upon_value]
  go_wp2
  go_ret
  exact RetVl.of rfl (Below.refl _ _)

set_option maxRecDepth 100000 in
set_option maxHeartbeats 1000000 in
theorem strCompare_c (w : World) (a b : ByteArray) : Calls Tryz.prog 113 #[.string a, .string b] w (RetVl w (.int .i64 (cmpS a b))) := by
  go_enter Tryz.func113, Tryz.ntmps113
  go_wp2_with fail
  refine (compareString_c _ _ _).mono ?_
  rintro e w1 ⟨rfl, hb⟩
  go_wp2
  go_ret
  exact RetVl.of rfl hb

set_option maxRecDepth 100000 in
set_option maxHeartbeats 1000000 in
theorem isNaN64_c (w : World) (x : Nat) : Calls Tryz.prog 130 #[.int .u64 (x : Int)] w (RetVl w (.bool false)) := by
  go_enter Tryz.func130, Tryz.ntmps130
  go_wp2
  go_ret
  exact RetVl.of rfl (Below.refl _ _)
set_option maxRecDepth 100000 in
set_option maxHeartbeats 1000000 in
theorem isNaN8_c (w : World) (x : Nat) : Calls Tryz.prog 131 #[.int .u8 (x : Int)] w (RetVl w (.bool false)) := by
  go_enter Tryz.func131, Tryz.ntmps131
  go_wp2
  go_ret
  exact RetVl.of rfl (Below.refl _ _)

set_option maxRecDepth 100000 in
set_option maxHeartbeats 1000000 in
theorem cmp64_c (w : World) (x y : Nat) : Calls Tryz.prog 114 #[.int .u64 (x : Int), .int .u64 (y : Int)] w (RetVl w (.int .i64 (cmpI x y))) := by
  go_enter Tryz.func114, Tryz.ntmps114
  go_wp2_with fail
  refine (isNaN64_c _ _).mono ?_
  rintro e w1 ⟨rfl, hb⟩
  go_wp2_with fail
  refine (isNaN64_c _ _).mono ?_
  rintro e w2 ⟨rfl, hb2⟩
  have hb3 := hb.trans (hb2.mono hb.size)
  clear hb hb2
  go_wp2
  all_goals go_ret
  all_goals refine RetVl.of ?_ hb3
  all_goals unfold cmpI
  all_goals first | rfl | (rw [if_pos (by omega)]; rfl) | (rw [if_neg (by omega), if_pos (by omega)]; rfl) | (rw [if_neg (by omega), if_neg (by omega)]; rfl)

set_option maxRecDepth 100000 in
set_option maxHeartbeats 1000000 in
theorem cmp8_c (w : World) (x y : Nat) : Calls Tryz.prog 115 #[.int .u8 (x : Int), .int .u8 (y : Int)] w (RetVl w (.int .i64 (cmpI x y))) := by
  go_enter Tryz.func115, Tryz.ntmps115
  go_wp2_with fail
  refine (isNaN8_c _ _).mono ?_
  rintro e w1 ⟨rfl, hb⟩
  go_wp2_with fail
  refine (isNaN8_c _ _).mono ?_
  rintro e w2 ⟨rfl, hb2⟩
  have hb3 := hb.trans (hb2.mono hb.size)
  clear hb hb2
  go_wp2
  all_goals go_ret
  all_goals refine RetVl.of ?_ hb3
  all_goals unfold cmpI
  all_goals first | rfl | (rw [if_pos (by omega)]; rfl) | (rw [if_neg (by omega), if_pos (by omega)]; rfl) | (rw [if_neg (by omega), if_neg (by omega)]; rfl)

theorem box_two {w : World} {o o' : Obj} {w1 : World} (hb : Below ((w.alloc o).alloc o').heap.size ((w.alloc o).alloc o') w1) : Below w.heap.size w w1 :=
  ((below_alloc w o).alloc (by simp) o').trans (hb.mono (by simp; omega))

set_option maxRecDepth 100000 in
set_option maxHeartbeats 1000000 in
theorem byKey_c (w : World) (s s' : ByteArray) (q k q' k' : Nat) : Calls Tryz.prog 87 #[ik s q k, ik s' q' k'] w (RetVl w (.int .i64 (cmpS s s'))) := by
  unfold ik
  go_enter Tryz.func87, Tryz.ntmps87
  go_wp2_with fail
  refine (strCompare_c _ _ _).mono ?_
  rintro e w1 ⟨rfl, hb⟩
  have hb2 := box_two hb
  clear hb
  go_wp2
  go_ret
  exact RetVl.of rfl hb2
set_option maxRecDepth 100000 in
set_option maxHeartbeats 1000000 in
theorem bySeq_c (w : World) (s s' : ByteArray) (q k q' k' : Nat) : Calls Tryz.prog 88 #[ik s q k, ik s' q' k'] w (RetVl w (.int .i64 (cmpI q' q))) := by
  unfold ik
  go_enter Tryz.func88, Tryz.ntmps88
  go_wp2_with fail
  refine (cmp64_c _ _ _).mono ?_
  rintro e w1 ⟨rfl, hb⟩
  have hb2 := box_two hb
  clear hb
  go_wp2
  go_ret
  exact RetVl.of rfl hb2
set_option maxRecDepth 100000 in
set_option maxHeartbeats 1000000 in
theorem byKind_c (w : World) (s s' : ByteArray) (q k q' k' : Nat) : Calls Tryz.prog 89 #[ik s q k, ik s' q' k'] w (RetVl w (.int .i64 (cmpI k' k))) := by
  unfold ik
  go_enter Tryz.func89, Tryz.ntmps89
  go_wp2_with fail
  refine (cmp8_c _ _ _).mono ?_
  rintro e w1 ⟨rfl, hb⟩
  have hb2 := box_two hb
  clear hb
  go_wp2
  go_ret
  exact RetVl.of rfl hb2
end Go.Proofs.YtkdjjdkcogolmaaGreatDoor
end

section
/-
  The order of internal keys: the contracts of order and Compare, the program's and the reference's.
-/
namespace Go.Proofs.YtkdjjdkcogolmaaGreatDoor
set_option maxRecDepth 100000
open Go.RowKit Go.Shelf

/-- An internal key lies in block b. -/
structure IkAt (w : World) (b : Nat) (s : ByteArray) (q k : Nat) : Prop where
  lt : b < w.heap.size
  h : w.heap[b]? = some (.cells #[.string s, .int .u64 (q : Int), .int .u8 (k : Int)] 26 (0, 0))
theorem IkAt.cells {w : World} {b : Nat} {s : ByteArray} {q k : Nat} (h : IkAt w b s q k) :
    w.cell? ⟨b, 0, none⟩ = some (.string s) ∧ w.cell? ⟨b, 1, none⟩ = some (.int .u64 (q : Int)) ∧ w.cell? ⟨b, 2, none⟩ = some (.int .u8 (k : Int)) := by
  refine ⟨?_, ?_, ?_⟩ <;> (simp only [World.cell?, h.h]; rfl)
theorem IkAt.new (w : World) (s : ByteArray) (q k : Nat) : IkAt (w.alloc (.cells #[.string s, .int .u64 (q : Int), .int .u8 (k : Int)] 26)) w.heap.size s q k := ⟨by simp, heap_alloc_new w _⟩
theorem IkAt.alloc {w : World} {b : Nat} {s : ByteArray} {q k : Nat} (h : IkAt w b s q k) (o : Obj) : IkAt (w.alloc o) b s q k := ⟨by have := h.lt; simp; omega, by rw [Go.heap_alloc_old w o h.lt]; exact h.h⟩
theorem IkAt.below {w w' : World} {b : Nat} {s : ByteArray} {q k : Nat} (h : IkAt w b s q k) {B : Nat} (hb : Below B w w') (hB : w.heap.size ≤ B) : IkAt w' b s q k :=
  ⟨by have := h.lt; have := hb.size; omega, by rw [hb.block b (by have := h.lt; omega)]; exact h.h⟩

theorem RetVl.int {w w' : World} {a b : Int} (h : a = b) (hb : Below w.heap.size w w') : RetVl w (.int .i64 b) (.returned (.int .i64 a)) w' := ⟨by rw [h], hb⟩
def orderV : Value := .agg #[.func (.func 87) #[] #[], .func (.func 88) #[] #[], .func (.func 89) #[] #[]]

set_option maxRecDepth 100000 in
set_option maxHeartbeats 1000000 in
theorem order_c (w : World) : Calls Tryz.prog 66 #[] w (RetVl w orderV) := by
  go_enter Tryz.func66, Tryz.ntmps66
  go_wp2
  exact bodyPost_ret (v := orderV) (results_cell_row (fn := Tryz.f66) rfl _ _ w.heap.size _ _ _ _ rfl (heap_alloc_new w _) Tryz.underlying96 rfl (by kernel_rfl)) rfl (RetVl.of rfl (below_alloc _ _))

set_option maxRecDepth 100000 in
set_option maxHeartbeats 2000000 in
theorem compare_c (w : World) (s s' : ByteArray) (q k q' k' : Nat) : Calls Tryz.prog 42 #[ik s q k, ik s' q' k'] w (RetVl w (.int .i64 (cmpV s q k s' q' k'))) := by
  have K0 := Lib.hid (fun W => byKey_c W s s' q k q' k')
  have K1 := Lib.hid (fun W => bySeq_c W s s' q k q' k')
  have K2 := Lib.hid (fun W => byKind_c W s s' q k q' k')
  have j0 : ∀ W, (Instr.index 96 orderV (.int .i64 0)).run Tryz.prog W = .ok (.func (.func 87) #[] #[]) W := fun _ => by kernel_rfl
  have j1 : ∀ W, (Instr.index 96 orderV (.int .i64 1)).run Tryz.prog W = .ok (.func (.func 88) #[] #[]) W := fun _ => by kernel_rfl
  have j2 : ∀ W, (Instr.index 96 orderV (.int .i64 2)).run Tryz.prog W = .ok (.func (.func 89) #[] #[]) W := fun _ => by kernel_rfl
  have hV : ∀ c d e : Int, c = cmpS s s' → d = cmpI q' q → e = cmpI k' k → cmpV s q k s' q' k' = if c ≠ 0 then c else if d ≠ 0 then d else e := fun c d e hc hd he => by subst hc; subst hd; subst he; rfl
  generalize cmpV s q k s' q' k' = V at hV ⊢
  generalize hc0 : cmpS s s' = c0 at *
  generalize hc1 : cmpI q' q = c1 at *
  generalize hc2 : cmpI k' k = c2 at *
  have HV := Lib.hid (hV _ _ _ rfl rfl rfl)
  clear hV
  unfold ik at K0 K1 K2
  unfold orderV at j0 j1 j2
  unfold ik
  go_enter Tryz.func42, Tryz.ntmps42
  have i0 := (IkAt.new w s q k).alloc (.cells #[.string s', .int .u64 (q' : Int), .int .u8 (k' : Int)] 26)
  have i1 := IkAt.new (w.alloc (.cells #[.string s, .int .u64 (q : Int), .int .u8 (k : Int)] 26)) s' q' k'
  rw [show (w.alloc (.cells #[.string s, .int .u64 (q : Int), .int .u8 (k : Int)] 26)).heap.size = w.heap.size + 1 by simp] at i1
  go_wp2_with fail
  refine (order_c _).mono ?_
  rintro e w1 ⟨rfl, hb⟩
  have hb2 := box_two hb
  have i0 := i0.below hb (Nat.le_refl _)
  have i1 := i1.below hb (Nat.le_refl _)
  clear hb
  obtain ⟨a0, a1, a2⟩ := i0.cells
  obtain ⟨b0, b1, b2⟩ := i1.cells
  unfold orderV
  clear hc0 hc1 hc2
  go_wp2_with fail
  refine wp_loop_rounds 4 ?_
  rw [rounds_succ]
  go_wp2_with fail
  refine (K0.out _).mono ?_
  rintro e w2 ⟨rfl, hb⟩
  have hb2 := hb2.trans (hb.mono hb2.size)
  have i0 := i0.below hb (Nat.le_refl _)
  have i1 := i1.below hb (Nat.le_refl _)
  clear hb
  clear a0 a1 a2 b0 b1 b2
  obtain ⟨a0, a1, a2⟩ := i0.cells
  obtain ⟨b0, b1, b2⟩ := i1.cells
  by_cases h0 : c0 = 0
  case neg =>
    go_wp2_with fail
    go_ret
    exact RetVl.of (by simp [HV.out, h0]) hb2
  subst h0
  go_wp2_with fail
  rw [rounds_succ]
  go_wp2_with fail
  refine (K1.out _).mono ?_
  rintro e w3 ⟨rfl, hb⟩
  have hb2 := hb2.trans (hb.mono hb2.size)
  have i0 := i0.below hb (Nat.le_refl _)
  have i1 := i1.below hb (Nat.le_refl _)
  clear hb
  clear a0 a1 a2 b0 b1 b2
  obtain ⟨a0, a1, a2⟩ := i0.cells
  obtain ⟨b0, b1, b2⟩ := i1.cells
  by_cases h1 : c1 = 0
  case neg =>
    go_wp2_with fail
    go_ret
    exact RetVl.of (by simp [HV.out, h1]) hb2
  subst h1
  go_wp2_with fail
  rw [rounds_succ]
  go_wp2_with fail
  refine (K2.out _).mono ?_
  rintro e w4 ⟨rfl, hb⟩
  have hb2 := hb2.trans (hb.mono hb2.size)
  have i0 := i0.below hb (Nat.le_refl _)
  have i1 := i1.below hb (Nat.le_refl _)
  clear hb
  clear a0 a1 a2 b0 b1 b2
  obtain ⟨a0, a1, a2⟩ := i0.cells
  obtain ⟨b0, b1, b2⟩ := i1.cells
  by_cases h2 : c2 = 0
  case neg =>
    go_wp2_with fail
    go_ret
    exact RetVl.of (by simp [HV.out]) hb2
  subst h2
  go_wp2_with fail
  rw [rounds_succ]
  go_wp2_with fail
  go_ret
  exact RetVl.of (by simp [HV.out]) hb2

set_option maxRecDepth 100000 in
set_option maxHeartbeats 2000000 in
theorem refCompare_c (w : World) (s s' : ByteArray) (q k q' k' : Nat) : Calls Tryz.prog 43 #[ik s q k, ik s' q' k'] w (RetVl w (.int .i64 (cmpV s q k s' q' k'))) := by
  have t1 := less_str s s'
  have t2 : (!(Op.bytesLess s.toList s'.toList || s.toList == s'.toList)) = decide (cmpS s s' = 1) := by
    rw [less_str, beq_str]; rcases cmpS_three s s' with h | h | h <;> simp [h]
  have t3 := cmpS_three s s'
  have HV0 : (cmpV s q k s' q' k' = if cmpS s s' ≠ 0 then cmpS s s' else if cmpI q' q ≠ 0 then cmpI q' q else cmpI k' k) := rfl
  have HV := Lib.hid HV0
  clear HV0
  generalize cmpV s q k s' q' k' = V at HV ⊢
  have f1 : cmpS s s' = -1 → Op.bytesLess s.toList s'.toList = true := fun h => by rw [t1, h]; rfl
  have f2 : cmpS s s' = 0 → Op.bytesLess s.toList s'.toList = false ∧ (s.toList == s'.toList) = true := fun h => by rw [t1, beq_str, h]; exact ⟨rfl, rfl⟩
  have f3 : cmpS s s' = 1 → Op.bytesLess s.toList s'.toList = false ∧ (s.toList == s'.toList) = false := fun h => by rw [t1, beq_str, h]; exact ⟨rfl, rfl⟩
  clear t1 t2
  unfold ik
  rcases t3 with h | h | h
  · have g1 := f1 h
    rw [h] at HV
    clear f1 f2 f3 h
    go_enter Tryz.func43, Tryz.ntmps43
    go_wp2
    go_ret
    exact RetVl.of (by simp [HV.out]) (box_two (Below.refl _ _))
  · obtain ⟨g1, g2⟩ := f2 h
    rw [h] at HV
    clear f1 f2 f3 h
    go_enter Tryz.func43, Tryz.ntmps43
    go_wp2
    all_goals go_ret
    all_goals refine RetVl.int ?_ (box_two (Below.refl _ _))
    all_goals rw [HV.out]
    all_goals unfold cmpI
    all_goals simp [*]
    all_goals omega
  · obtain ⟨g1, g2⟩ := f3 h
    rw [h] at HV
    clear f1 f2 f3 h
    go_enter Tryz.func43, Tryz.ntmps43
    go_wp2
    go_ret
    exact RetVl.of (by simp [HV.out]) (box_two (Below.refl _ _))
end Go.Proofs.YtkdjjdkcogolmaaGreatDoor
end
