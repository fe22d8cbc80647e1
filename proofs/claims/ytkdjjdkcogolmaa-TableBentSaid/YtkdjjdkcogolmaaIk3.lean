/-
  The order of internal keys: the contracts of order and Compare, the program's and the reference's.
-/
import Derived.Test.YtkdjjdkcogolmaaIk2
import Derived.Laws.EntriesVeiled
namespace Go.Proofs.Ytkdjjdkcogolmaa
set_option maxRecDepth 100000
open Go.RowKit Go.Shelf

/-- An internal key lies in block b. -/
structure IkAt (w : World) (b : Nat) (s : ByteArray) (q k : Nat) : Prop where
  lt : b < w.heap.size
  h : w.heap[b]? = some (.cells #[.string s, .int .u64 (q : Int), .int .u8 (k : Int)] 43 (0, 0))
theorem IkAt.cells {w : World} {b : Nat} {s : ByteArray} {q k : Nat} (h : IkAt w b s q k) :
    w.cell? ⟨b, 0, none⟩ = some (.string s) ∧ w.cell? ⟨b, 1, none⟩ = some (.int .u64 (q : Int)) ∧ w.cell? ⟨b, 2, none⟩ = some (.int .u8 (k : Int)) := by
  refine ⟨?_, ?_, ?_⟩ <;> (simp only [World.cell?, h.h]; rfl)
theorem IkAt.new (w : World) (s : ByteArray) (q k : Nat) : IkAt (w.alloc (.cells #[.string s, .int .u64 (q : Int), .int .u8 (k : Int)] 43)) w.heap.size s q k := ⟨by simp, heap_alloc_new w _⟩
theorem IkAt.alloc {w : World} {b : Nat} {s : ByteArray} {q k : Nat} (h : IkAt w b s q k) (o : Obj) : IkAt (w.alloc o) b s q k := ⟨by have := h.lt; simp; omega, by rw [Go.heap_alloc_old w o h.lt]; exact h.h⟩
theorem IkAt.below {w w' : World} {b : Nat} {s : ByteArray} {q k : Nat} (h : IkAt w b s q k) {B : Nat} (hb : Below B w w') (hB : w.heap.size ≤ B) : IkAt w' b s q k :=
  ⟨by have := h.lt; have := hb.size; omega, by rw [hb.block b (by have := h.lt; omega)]; exact h.h⟩

theorem RetVl.int {w w' : World} {a b : Int} (h : a = b) (hb : Below w.heap.size w w') : RetVl w (.int .i64 b) (.returned (.int .i64 a)) w' := ⟨by rw [h], hb⟩
def orderV : Value := .agg #[.func (.func 33) #[] #[], .func (.func 34) #[] #[], .func (.func 35) #[] #[]]

set_option maxRecDepth 100000 in
set_option maxHeartbeats 1000000 in
theorem order_c (w : World) : Calls Try.prog 24 #[] w (RetVl w orderV) := by
  go_enter Try.func24, Try.ntmps24
  go_wp2
  exact bodyPost_ret (v := orderV) (results_cell_row (fn := Try.f24) rfl _ _ w.heap.size _ _ _ _ rfl (heap_alloc_new w _) Try.underlying61 rfl (by kernel_rfl)) rfl (RetVl.of rfl (below_alloc _ _))

set_option maxRecDepth 100000 in
set_option maxHeartbeats 2000000 in
theorem compare_c (w : World) (s s' : ByteArray) (q k q' k' : Nat) : Calls Try.prog 15 #[ik s q k, ik s' q' k'] w (RetVl w (.int .i64 (cmpV s q k s' q' k'))) := by
  have K0 := Lib.hid (fun W => byKey_c W s s' q k q' k')
  have K1 := Lib.hid (fun W => bySeq_c W s s' q k q' k')
  have K2 := Lib.hid (fun W => byKind_c W s s' q k q' k')
  have j0 : ∀ W, (Instr.index 61 orderV (.int .i64 0)).run Try.prog W = .ok (.func (.func 33) #[] #[]) W := fun _ => by kernel_rfl
  have j1 : ∀ W, (Instr.index 61 orderV (.int .i64 1)).run Try.prog W = .ok (.func (.func 34) #[] #[]) W := fun _ => by kernel_rfl
  have j2 : ∀ W, (Instr.index 61 orderV (.int .i64 2)).run Try.prog W = .ok (.func (.func 35) #[] #[]) W := fun _ => by kernel_rfl
  have hV : ∀ c d e : Int, c = cmpS s s' → d = cmpI q' q → e = cmpI k' k → cmpV s q k s' q' k' = if c ≠ 0 then c else if d ≠ 0 then d else e := fun c d e hc hd he => by subst hc; subst hd; subst he; rfl
  generalize cmpV s q k s' q' k' = V at hV ⊢
  generalize hc0 : cmpS s s' = c0 at *
  generalize hc1 : cmpI q' q = c1 at *
  generalize hc2 : cmpI k' k = c2 at *
  have HV := Lib.hid (hV _ _ _ rfl rfl rfl)
  clear hV
  unfold ik at K0 K1 K2
  unfold orderV at j0 j1 j2
  unfold ik
  go_enter Try.func15, Try.ntmps15
  have i0 := (IkAt.new w s q k).alloc (.cells #[.string s', .int .u64 (q' : Int), .int .u8 (k' : Int)] 43)
  have i1 := IkAt.new (w.alloc (.cells #[.string s, .int .u64 (q : Int), .int .u8 (k : Int)] 43)) s' q' k'
  rw [show (w.alloc (.cells #[.string s, .int .u64 (q : Int), .int .u8 (k : Int)] 43)).heap.size = w.heap.size + 1 by simp] at i1
  go_wp2_with fail
  refine (order_c _).mono ?_
  rintro e w1 ⟨rfl, hb⟩
  have hb2 := box_two hb
  have i0 := i0.below hb (Nat.le_refl _)
  have i1 := i1.below hb (Nat.le_refl _)
  clear hb
  obtain ⟨a0, a1, a2⟩ := i0.cells
  obtain ⟨b0, b1, b2⟩ := i1.cells
  unfold orderV
  clear hc0 hc1 hc2
  go_wp2_with fail
  refine wp_loop_rounds 4 ?_
  rw [rounds_succ]
  go_wp2_with fail
  refine (K0.out _).mono ?_
  rintro e w2 ⟨rfl, hb⟩
  have hb2 := hb2.trans (hb.mono hb2.size)
  have i0 := i0.below hb (Nat.le_refl _)
  have i1 := i1.below hb (Nat.le_refl _)
  clear hb
  clear a0 a1 a2 b0 b1 b2
  obtain ⟨a0, a1, a2⟩ := i0.cells
  obtain ⟨b0, b1, b2⟩ := i1.cells
  by_cases h0 : c0 = 0
  case neg =>
    go_wp2_with fail
    go_ret
    exact RetVl.of (by simp [HV.out, h0]) hb2
  subst h0
  go_wp2_with fail
  rw [rounds_succ]
  go_wp2_with fail
  refine (K1.out _).mono ?_
  rintro e w3 ⟨rfl, hb⟩
  have hb2 := hb2.trans (hb.mono hb2.size)
  have i0 := i0.below hb (Nat.le_refl _)
  have i1 := i1.below hb (Nat.le_refl _)
  clear hb
  clear a0 a1 a2 b0 b1 b2
  obtain ⟨a0, a1, a2⟩ := i0.cells
  obtain ⟨b0, b1, b2⟩ := i1.cells
  by_cases h1 : c1 = 0
  case neg =>
    go_wp2_with fail
    go_ret
    exact RetVl.of (by simp [HV.out, h1]) hb2
  subst h1
  go_wp2_with fail
  rw [rounds_succ]
  go_wp2_with fail
  refine (K2.out _).mono ?_
  rintro e w4 ⟨rfl, hb⟩
  have hb2 := hb2.trans (hb.mono hb2.size)
  have i0 := i0.below hb (Nat.le_refl _)
  have i1 := i1.below hb (Nat.le_refl _)
  clear hb
  clear a0 a1 a2 b0 b1 b2
  obtain ⟨a0, a1, a2⟩ := i0.cells
  obtain ⟨b0, b1, b2⟩ := i1.cells
  by_cases h2 : c2 = 0
  case neg =>
    go_wp2_with fail
    go_ret
    exact RetVl.of (by simp [HV.out]) hb2
  subst h2
  go_wp2_with fail
  rw [rounds_succ]
  go_wp2_with fail
  go_ret
  exact RetVl.of (by simp [HV.out]) hb2

end Go.Proofs.Ytkdjjdkcogolmaa
