/-
  The order of internal keys: the contracts of order and Compare, the program's and the reference's.
-/
import Derived.Test.YtfbmphaabdhphaaIk2
import Derived.Laws.EntriesVeiled
namespace Go.Proofs.Ytfbmphaabdhphaa
set_option maxRecDepth 100000
open Go.RowKit Go.Shelf

/-- An internal key lies in block b. -/
structure IkAt (w : World) (b : Nat) (s : ByteArray) (q k : Nat) : Prop where
  lt : b < w.heap.size
  h : w.heap[b]? = some (.cells #[.string s, .int .u64 (q : Int), .int .u8 (k : Int)] 26 (0, 0))
theorem IkAt.cells {w : World} {b : Nat} {s : ByteArray} {q k : Nat} (h : IkAt w b s q k) :
    w.cell? ⟨b, 0, none⟩ = some (.string s) ∧ w.cell? ⟨b, 1, none⟩ = some (.int .u64 (q : Int)) ∧ w.cell? ⟨b, 2, none⟩ = some (.int .u8 (k : Int)) := by
  refine ⟨?_, ?_, ?_⟩ <;> (simp only [World.cell?, h.h]; rfl)
theorem IkAt.new (w : World) (s : ByteArray) (q k : Nat) : IkAt (w.alloc (.cells #[.string s, .int .u64 (q : Int), .int .u8 (k : Int)] 26)) w.heap.size s q k := ⟨by simp, heap_alloc_new w _⟩
theorem IkAt.alloc {w : World} {b : Nat} {s : ByteArray} {q k : Nat} (h : IkAt w b s q k) (o : Obj) : IkAt (w.alloc o) b s q k := ⟨by have := h.lt; simp; omega, by rw [Go.heap_alloc_old w o h.lt]; exact h.h⟩
theorem IkAt.below {w w' : World} {b : Nat} {s : ByteArray} {q k : Nat} (h : IkAt w b s q k) {B : Nat} (hb : Below B w w') (hB : w.heap.size ≤ B) : IkAt w' b s q k :=
  ⟨by have := h.lt; have := hb.size; omega, by rw [hb.block b (by have := h.lt; omega)]; exact h.h⟩

theorem RetVl.int {w w' : World} {a b : Int} (h : a = b) (hb : Below w.heap.size w w') : RetVl w (.int .i64 b) (.returned (.int .i64 a)) w' := ⟨by rw [h], hb⟩
def orderV : Value := .agg #[.func (.func 49) #[] #[], .func (.func 50) #[] #[], .func (.func 51) #[] #[]]

set_option maxRecDepth 100000 in
set_option maxHeartbeats 1000000 in
theorem order_c (w : World) : Calls Try.prog 37 #[] w (RetVl w orderV) := by
  go_enter Try.func37, Try.ntmps37
  go_wp2
  exact bodyPost_ret (v := orderV) (results_cell_row (fn := Try.f37) rfl _ _ w.heap.size _ _ _ _ rfl (heap_alloc_new w _) Try.underlying66 rfl (by kernel_rfl)) rfl (RetVl.of rfl (below_alloc _ _))

set_option maxRecDepth 100000 in
set_option maxHeartbeats 2000000 in
theorem compare_c (w : World) (s s' : ByteArray) (q k q' k' : Nat) : Calls Try.prog 20 #[ik s q k, ik s' q' k'] w (RetVl w (.int .i64 (cmpV s q k s' q' k'))) := by
  have K0 := Lib.hid (fun W => byKey_c W s s' q k q' k')
  have K1 := Lib.hid (fun W => bySeq_c W s s' q k q' k')
  have K2 := Lib.hid (fun W => byKind_c W s s' q k q' k')
  have j0 : ∀ W, (Instr.index 66 orderV (.int .i64 0)).run Try.prog W = .ok (.func (.func 49) #[] #[]) W := fun _ => by kernel_rfl
  have j1 : ∀ W, (Instr.index 66 orderV (.int .i64 1)).run Try.prog W = .ok (.func (.func 50) #[] #[]) W := fun _ => by kernel_rfl
  have j2 : ∀ W, (Instr.index 66 orderV (.int .i64 2)).run Try.prog W = .ok (.func (.func 51) #[] #[]) W := fun _ => by kernel_rfl
  have hV : ∀ c d e : Int, c = cmpS s s' → d = cmpI q' q → e = cmpI k' k → cmpV s q k s' q' k' = if c ≠ 0 then c else if d ≠ 0 then d else e := fun c d e hc hd he => by subst hc; subst hd; subst he; rfl
  generalize cmpV s q k s' q' k' = V at hV ⊢
  generalize hc0 : cmpS s s' = c0 at *
  generalize hc1 : cmpI q' q = c1 at *
  generalize hc2 : cmpI k' k = c2 at *
  have HV := Lib.hid (hV _ _ _ rfl rfl rfl)
  clear hV
  unfold ik at K0 K1 K2
  unfold orderV at j0 j1 j2
  unfold ik
  go_enter Try.func20, Try.ntmps20
  have i0 := (IkAt.new w s q k).alloc (.cells #[.string s', .int .u64 (q' : Int), .int .u8 (k' : Int)] 26)
  have i1 := IkAt.new (w.alloc (.cells #[.string s, .int .u64 (q : Int), .int .u8 (k : Int)] 26)) s' q' k'
  rw [show (w.alloc (.cells #[.string s, .int .u64 (q : Int), .int .u8 (k : Int)] 26)).heap.size = w.heap.size + 1 by simp] at i1
  go_wp2_with fail
  refine (order_c _).mono ?_
  rintro e w1 ⟨rfl, hb⟩
  have hb2 := box_two hb
  have i0 := i0.below hb (Nat.le_refl _)
  have i1 := i1.below hb (Nat.le_refl _)
  clear hb
  obtain ⟨a0, a1, a2⟩ := i0.cells
  obtain ⟨b0, b1, b2⟩ := i1.cells
  unfold orderV
  clear hc0 hc1 hc2
  go_wp2_with fail
  refine wp_loop_rounds 4 ?_
  rw [rounds_succ]
  go_wp2_with fail
  refine (K0.out _).mono ?_
  rintro e w2 ⟨rfl, hb⟩
  have hb2 := hb2.trans (hb.mono hb2.size)
  have i0 := i0.below hb (Nat.le_refl _)
  have i1 := i1.below hb (Nat.le_refl _)
  clear hb
  clear a0 a1 a2 b0 b1 b2
  obtain ⟨a0, a1, a2⟩ := i0.cells
  obtain ⟨b0, b1, b2⟩ := i1.cells
  by_cases h0 : c0 = 0
  case neg =>
    go_wp2_with fail
    go_ret
    exact RetVl.of (by simp [HV.out, h0]) hb2
  subst h0
  go_wp2_with fail
  rw [rounds_succ]
  go_wp2_with fail
  refine (K1.out _).mono ?_
  rintro e w3 ⟨rfl, hb⟩
  have hb2 := hb2.trans (hb.mono hb2.size)
  have i0 := i0.below hb (Nat.le_refl _)
  have i1 := i1.below hb (Nat.le_refl _)
  clear hb
  clear a0 a1 a2 b0 b1 b2
  obtain ⟨a0, a1, a2⟩ := i0.cells
  obtain ⟨b0, b1, b2⟩ := i1.cells
  by_cases h1 : c1 = 0
  case neg =>
    go_wp2_with fail
    go_ret
    exact RetVl.of (by simp [HV.out, h1]) hb2
  subst h1
  go_wp2_with fail
  rw [rounds_succ]
  go_wp2_with fail
  refine (K2.out _).mono ?_
  rintro e w4 ⟨rfl, hb⟩
  have hb2 := hb2.trans (hb.mono hb2.size)
  have i0 := i0.below hb (Nat.le_refl _)
  have i1 := i1.below hb (Nat.le_refl _)
  clear hb
  clear a0 a1 a2 b0 b1 b2
  obtain ⟨a0, a1, a2⟩ := i0.cells
  obtain ⟨b0, b1, b2⟩ := i1.cells
  by_cases h2 : c2 = 0
  case neg =>
    go_wp2_with fail
    go_ret
    exact RetVl.of (by simp [HV.out]) hb2
  subst h2
  go_wp2_with fail
  rw [rounds_succ]
  go_wp2_with fail
  go_ret
  exact RetVl.of (by simp [HV.out]) hb2

set_option maxRecDepth 100000 in
set_option maxHeartbeats 2000000 in
theorem refCompare_c (w : World) (s s' : ByteArray) (q k q' k' : Nat) : Calls Try.prog 35 #[ik s q k, ik s' q' k'] w (RetVl w (.int .i64 (cmpV s q k s' q' k'))) := by
  have t1 := less_str s s'
  have t2 : (!(Op.bytesLess s.toList s'.toList || s.toList == s'.toList)) = decide (cmpS s s' = 1) := by
    rw [less_str, beq_str]; rcases cmpS_three s s' with h | h | h <;> simp [h]
  have t3 := cmpS_three s s'
  have HV0 : (cmpV s q k s' q' k' = if cmpS s s' ≠ 0 then cmpS s s' else if cmpI q' q ≠ 0 then cmpI q' q else cmpI k' k) := rfl
  have HV := Lib.hid HV0
  clear HV0
  generalize cmpV s q k s' q' k' = V at HV ⊢
  have f1 : cmpS s s' = -1 → Op.bytesLess s.toList s'.toList = true := fun h => by rw [t1, h]; rfl
  have f2 : cmpS s s' = 0 → Op.bytesLess s.toList s'.toList = false ∧ (s.toList == s'.toList) = true := fun h => by rw [t1, beq_str, h]; exact ⟨rfl, rfl⟩
  have f3 : cmpS s s' = 1 → Op.bytesLess s.toList s'.toList = false ∧ (s.toList == s'.toList) = false := fun h => by rw [t1, beq_str, h]; exact ⟨rfl, rfl⟩
  clear t1 t2
  unfold ik
  rcases t3 with h | h | h
  · have g1 := f1 h
    rw [h] at HV
    clear f1 f2 f3 h
    go_enter Try.func35, Try.ntmps35
    go_wp2
    go_ret
    exact RetVl.of (by simp [HV.out]) (box_two (Below.refl _ _))
  · obtain ⟨g1, g2⟩ := f2 h
    rw [h] at HV
    clear f1 f2 f3 h
    go_enter Try.func35, Try.ntmps35
    go_wp2
    all_goals go_ret
    all_goals refine RetVl.int ?_ (box_two (Below.refl _ _))
    all_goals rw [HV.out]
    all_goals unfold cmpI
    all_goals simp [*]
    all_goals omega
  · obtain ⟨g1, g2⟩ := f3 h
    rw [h] at HV
    clear f1 f2 f3 h
    go_enter Try.func35, Try.ntmps35
    go_wp2
    go_ret
    exact RetVl.of (by simp [HV.out]) (box_two (Below.refl _ _))
end Go.Proofs.Ytfbmphaabdhphaa
