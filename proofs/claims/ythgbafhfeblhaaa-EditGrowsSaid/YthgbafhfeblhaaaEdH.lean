/-
  All of a version, as an edit: the contract of Whole.
-/
import Derived.Test.YthgbafhfeblhaaaEdG
namespace Go.Proofs.Ythgbafhfeblhaaa
set_option maxRecDepth 100000
open Go.RowKit Go.Shelf
set_option linter.unusedSimpArgs false
set_option linter.unusedVariables false

def WholeR (w : World) (v : Ed) (e' : Ending) (w' : World) : Prop :=
  ∃ A n c, e' = .returned (edV A n c v) ∧ FrM w' w.heap.size A n c v.L ∧ Below w.heap.size w w'

set_option maxRecDepth 100000 in
set_option maxHeartbeats 8000000 in
theorem whole_c {w : World} {B n1 c1 : Nat} {A1 : Option Addr} {v : Ed} (h1 : RdM w B A1 n1 c1 v.L) (hB : B ≤ w.heap.size) (hn : n1 ≤ 2932031007402) :
    Calls Try.prog 23 #[edV A1 n1 c1 v] w (WholeR w v) := by
  obtain ⟨w2, hw2⟩ : ∃ w2, w2 = (w.alloc (.cells #[.slice A1 n1 c1, .int .u64 (v.a : Int), .int .u64 (v.b : Int), .int .u64 (v.c : Int)] 28)).alloc (.cells #[.slice none 0 0, .int .u64 0, .int .u64 0, .int .u64 0] 25) := ⟨_, rfl⟩
  have hv : B4 w2 w.heap.size 28 (.slice A1 n1 c1) (.int .u64 (v.a : Int)) (.int .u64 (v.b : Int)) (.int .u64 (v.c : Int)) := by rw [hw2]; exact (B4.new _ _ _ _ _ _ rfl).alloc _
  have hr : B4 w2 (w.heap.size + 1) 25 (.slice none 0 0) (.int .u64 0) (.int .u64 0) (.int .u64 0) := by rw [hw2]; exact B4.new _ _ _ _ _ _ (by simp)
  have hb2 : Below w.heap.size w w2 := by rw [hw2]; exact (below_alloc w _).alloc (by simp) _
  have HV := Lib.hid hv
  have HR := Lib.hid hr
  have HB2 := Lib.hid hb2
  have HCL := Lib.hid (fun W (hW : Below w2.heap.size w2 W) => mclone_c (h1.below (hb2.trans (hW.mono hb2.size)) hB) (Nat.le_trans hB (hb2.trans (hW.mono hb2.size)).size) hn)
  have HSK := Lib.hid (fun (W : World) (hW : Below w2.heap.size w2 W) => show Below w.heap.size w W ∧ W.cell? ⟨w.heap.size, 0, none⟩ = some (.slice A1 n1 c1) ∧ W.cell? ⟨w.heap.size, 1, none⟩ = some (.int .u64 (v.a : Int)) ∧ W.cell? ⟨w.heap.size, 2, none⟩ = some (.int .u64 (v.b : Int)) ∧ W.cell? ⟨w.heap.size, 3, none⟩ = some (.int .u64 (v.c : Int)) by
    obtain ⟨g0, g1, g2, g3, _, _, _, _⟩ := (HV.out.now hW).cells
    exact ⟨HB2.out.trans (hW.mono HB2.out.size), g0, g1, g2, g3⟩)
  have HSS := Lib.hid (fun (W0 : World) (a b c d : Value) (hW : Below w2.heap.size w2 W0) => show Below w.heap.size w ((((W0.setCell ⟨w.heap.size + 1, 0, none⟩ a).setCell ⟨w.heap.size + 1, 1, none⟩ b).setCell ⟨w.heap.size + 1, 2, none⟩ c).setCell ⟨w.heap.size + 1, 3, none⟩ d) ∧ ((((W0.setCell ⟨w.heap.size + 1, 0, none⟩ a).setCell ⟨w.heap.size + 1, 1, none⟩ b).setCell ⟨w.heap.size + 1, 2, none⟩ c).setCell ⟨w.heap.size + 1, 3, none⟩ d).cell? ⟨w.heap.size, 0, none⟩ = some (.slice A1 n1 c1) ∧ ((((W0.setCell ⟨w.heap.size + 1, 0, none⟩ a).setCell ⟨w.heap.size + 1, 1, none⟩ b).setCell ⟨w.heap.size + 1, 2, none⟩ c).setCell ⟨w.heap.size + 1, 3, none⟩ d).cell? ⟨w.heap.size, 1, none⟩ = some (.int .u64 (v.a : Int)) ∧ ((((W0.setCell ⟨w.heap.size + 1, 0, none⟩ a).setCell ⟨w.heap.size + 1, 1, none⟩ b).setCell ⟨w.heap.size + 1, 2, none⟩ c).setCell ⟨w.heap.size + 1, 3, none⟩ d).cell? ⟨w.heap.size, 2, none⟩ = some (.int .u64 (v.b : Int)) ∧ ((((W0.setCell ⟨w.heap.size + 1, 0, none⟩ a).setCell ⟨w.heap.size + 1, 1, none⟩ b).setCell ⟨w.heap.size + 1, 2, none⟩ c).setCell ⟨w.heap.size + 1, 3, none⟩ d).cell? ⟨w.heap.size, 3, none⟩ = some (.int .u64 (v.c : Int)) by
    have x1 := (HV.out.now hW).offset4 (k := w.heap.size + 1) (by omega) a b c d
    obtain ⟨g0, g1, g2, g3, _, _, _, _⟩ := x1.cells
    exact ⟨set4_below (HB2.out.trans (hW.mono HB2.out.size)) (show w.heap.size ≤ w.heap.size + 1 by omega) a b c d, g0, g1, g2, g3⟩)
  have hs0 : Below w2.heap.size w2 w2.drew := below_drewN (Below.refl _ _) 1
  have HS0 := Lib.hid hs0
  clear hv hr hb2 h1 hn
  unfold edV
  go_enter Try.func23, Try.ntmps23
  go_upto_region 1 with (fail)
  rw [← hw2]
  clear hw2
  refine wp_region_noPanic ?_
  refine wp_region_held_drew (S := fun w' => Below w.heap.size w w' ∧ w'.cell? ⟨w.heap.size, 0, none⟩ = some (.slice A1 n1 c1) ∧ w'.cell? ⟨w.heap.size, 1, none⟩ = some (.int .u64 (v.a : Int)) ∧ w'.cell? ⟨w.heap.size, 2, none⟩ = some (.int .u64 (v.b : Int)) ∧ w'.cell? ⟨w.heap.size, 3, none⟩ = some (.int .u64 (v.c : Int))) (by kernel_rfl) (HSK.out _ hs0) (fun hHeld => ?_)
  refine wpAnyH_take (i := 0) (oi := { dst := some 3, op := Op.fieldAddr 28 (Operand.tmp 1) 0, type := 0, pos := "edit.go:68", after := #[], guard := none }) (v := ?v1) rfl (by kernel_rfl) (by kernel_rfl) (by kernel_rfl) (fun _ _ _ h => h) (Or.inl ⟨by rfl, ?hy1⟩) (by assumption) ?rest1
  case hy1 => (intro w hSw; (try dsimp only at hSw); go_simp; try with_reducible rfl)
  try simp only [Act.put, List.setIfInBounds_toArray, List.set_cons_zero, List.set_cons_succ]
  refine wpAnyH_take (i := 1) (oi := { dst := some 4, op := Op.load 22 (Operand.tmp 3), type := 22, pos := "edit.go:68", after := #[{ on := 0, ground := Ground.data }], guard := none }) (v := ?v2) rfl (by kernel_rfl) (by kernel_rfl) (by kernel_rfl) (fun _ _ _ h => h) (Or.inl ⟨by rfl, ?hy2⟩) (by assumption) ?rest2
  case hy2 => (intro w hSw; (try dsimp only at hSw); go_simp; try with_reducible rfl)
  try simp only [Act.put, List.setIfInBounds_toArray, List.set_cons_zero, List.set_cons_succ]
  refine wpAnyH_take (i := 3) (oi := { dst := some 6, op := Op.fieldAddr 28 (Operand.tmp 1) 1, type := 0, pos := "edit.go:68", after := #[], guard := none }) (v := ?v3) rfl (by kernel_rfl) (by kernel_rfl) (by kernel_rfl) (fun _ _ _ h => h) (Or.inl ⟨by rfl, ?hy3⟩) (by assumption) ?rest3
  case hy3 => (intro w hSw; (try dsimp only at hSw); go_simp; try with_reducible rfl)
  try simp only [Act.put, List.setIfInBounds_toArray, List.set_cons_zero, List.set_cons_succ]
  refine wpAnyH_take (i := 4) (oi := { dst := some 7, op := Op.load 23 (Operand.tmp 6), type := 23, pos := "edit.go:68", after := #[{ on := 3, ground := Ground.data }], guard := none }) (v := ?v4) rfl (by kernel_rfl) (by kernel_rfl) (by kernel_rfl) (fun _ _ _ h => h) (Or.inl ⟨by rfl, ?hy4⟩) (by assumption) ?rest4
  case hy4 => (intro w hSw; (try dsimp only at hSw); go_simp; try with_reducible rfl)
  try simp only [Act.put, List.setIfInBounds_toArray, List.set_cons_zero, List.set_cons_succ]
  refine wpAnyH_take (i := 5) (oi := { dst := some 8, op := Op.fieldAddr 28 (Operand.tmp 1) 2, type := 0, pos := "edit.go:68", after := #[], guard := none }) (v := ?v5) rfl (by kernel_rfl) (by kernel_rfl) (by kernel_rfl) (fun _ _ _ h => h) (Or.inl ⟨by rfl, ?hy5⟩) (by assumption) ?rest5
  case hy5 => (intro w hSw; (try dsimp only at hSw); go_simp; try with_reducible rfl)
  try simp only [Act.put, List.setIfInBounds_toArray, List.set_cons_zero, List.set_cons_succ]
  refine wpAnyH_take (i := 6) (oi := { dst := some 9, op := Op.load 23 (Operand.tmp 8), type := 23, pos := "edit.go:68", after := #[{ on := 5, ground := Ground.data }], guard := none }) (v := ?v6) rfl (by kernel_rfl) (by kernel_rfl) (by kernel_rfl) (fun _ _ _ h => h) (Or.inl ⟨by rfl, ?hy6⟩) (by assumption) ?rest6
  case hy6 => (intro w hSw; (try dsimp only at hSw); go_simp; try with_reducible rfl)
  try simp only [Act.put, List.setIfInBounds_toArray, List.set_cons_zero, List.set_cons_succ]
  refine wpAnyH_take (i := 7) (oi := { dst := some 10, op := Op.fieldAddr 28 (Operand.tmp 1) 3, type := 0, pos := "edit.go:68", after := #[], guard := none }) (v := ?v7) rfl (by kernel_rfl) (by kernel_rfl) (by kernel_rfl) (fun _ _ _ h => h) (Or.inl ⟨by rfl, ?hy7⟩) (by assumption) ?rest7
  case hy7 => (intro w hSw; (try dsimp only at hSw); go_simp; try with_reducible rfl)
  try simp only [Act.put, List.setIfInBounds_toArray, List.set_cons_zero, List.set_cons_succ]
  refine wpAnyH_take (i := 8) (oi := { dst := some 11, op := Op.load 23 (Operand.tmp 10), type := 23, pos := "edit.go:68", after := #[{ on := 7, ground := Ground.data }], guard := none }) (v := ?v8) rfl (by kernel_rfl) (by kernel_rfl) (by kernel_rfl) (fun _ _ _ h => h) (Or.inl ⟨by rfl, ?hy8⟩) (by assumption) ?rest8
  case hy8 => (intro w hSw; (try dsimp only at hSw); go_simp; try with_reducible rfl)
  try simp only [Act.put, List.setIfInBounds_toArray, List.set_cons_zero, List.set_cons_succ]
  refine wpAnyH_ready (rs := [2]) (by kernel_rfl) (by simp) ?_
  refine AllReadyH.cons (o := { dst := some 5, op := Op.call { callee := Callee.value (Operand.func 32), args := #[Operand.tmp 4], argTypes := #[22] }, type := 22, pos := "edit.go:68", after := #[{ on := 1, ground := Ground.data }], guard := none }) rfl (fun K hK => ?_) AllReadyH.nil
  go_simp
  refine (HCL.out _ HS0.out).mono ?_
  rintro e' w5 ⟨A5, n5, c5, rfl, hf5, hb5⟩
  replace hHeld := HSK.out _ (bon hs0 hb5)
  have hb45 : Below w2.heap.size w2 w5 := bon HS0.out hb5
  have HF5 := Lib.hid (hf5.mono (b' := w.heap.size + 2) (Nat.le_trans HR.out.lt HS0.out.size))
  have HR5 := Lib.hid (HR.out.now hb45)
  have HB5 := Lib.hid (HB2.out.trans (hb45.mono HB2.out.size))
  obtain ⟨o0, o1, o2, o3, oz0, oz1, oz2, oz3⟩ := HR5.out.cells
  clear hf5 hb5
  go_wp2_with fail
  refine hK.out _ _ hHeld (fun hHeld' => ?_)
  clear hK K
  try simp only [Act.put, List.setIfInBounds_toArray, List.set_cons_zero, List.set_cons_succ]
  refine wpAnyH_take (i := 9) (oi := { dst := some 12, op := Op.build 25 #[(0, Operand.tmp 5), (1, Operand.tmp 7), (2, Operand.tmp 9), (3, Operand.tmp 11)], type := 25, pos := "edit.go:68", after := #[{ on := 2, ground := Ground.data }, { on := 4, ground := Ground.data }, { on := 6, ground := Ground.data }, { on := 8, ground := Ground.data }], guard := none }) (v := ?v9) rfl (by kernel_rfl) (by kernel_rfl) (by kernel_rfl) (fun _ _ _ h => h) (Or.inl ⟨by rfl, ?hy9⟩) (by assumption) ?rest9
  case hy9 => (intro w hSw; (try dsimp only at hSw); go_simp; try with_reducible rfl)
  try simp only [Act.put, List.setIfInBounds_toArray, List.set_cons_zero, List.set_cons_succ]
  refine wpAnyH_ready (rs := [10]) (by kernel_rfl) (by simp) ?_
  refine AllReadyH.cons (o := { dst := none, op := Op.store 25 (Operand.tmp 2) (Operand.tmp 12), type := 0, pos := "edit.go:68", after := #[{ on := 9, ground := Ground.data }, { on := 2, ground := Ground.chain }, { on := 0, ground := Ground.phase }, { on := 1, ground := Ground.phase }, { on := 2, ground := Ground.phase }, { on := 3, ground := Ground.phase }, { on := 4, ground := Ground.phase }, { on := 5, ground := Ground.phase }, { on := 6, ground := Ground.phase }, { on := 7, ground := Ground.phase }, { on := 8, ground := Ground.phase }, { on := 9, ground := Ground.phase }], guard := none }) rfl (fun K hK => ?_) AllReadyH.nil
  go_simp
  clear hHeld
  refine hK.out _ _ (HSS.out _ _ _ _ _ hb45) (fun hHeld => ?_)
  clear hK K
  try simp only [Act.put, List.setIfInBounds_toArray, List.set_cons_zero, List.set_cons_succ]
  refine wpAnyH_done (by kernel_rfl) ?_ _
  refine NoPanic.normal ?_
  have HZ := Lib.hid (HR5.out.set (.slice A5 n5 c5) (.int .u64 (v.a : Int)) (.int .u64 (v.b : Int)) (.int .u64 (v.c : Int)))
  have HB := Lib.hid (set4_below HB5.out (show w.heap.size ≤ w.heap.size + 1 by omega) (.slice A5 n5 c5) (.int .u64 (v.a : Int)) (.int .u64 (v.b : Int)) (.int .u64 (v.c : Int)))
  have HFF := Lib.hid ((HF5.out.offset4 (k := w.heap.size + 1) (fr_ne HF5.out (by omega)) (.slice A5 n5 c5) (.int .u64 (v.a : Int)) (.int .u64 (v.b : Int)) (.int .u64 (v.c : Int))).mono (b' := w.heap.size) (by omega))
  obtain ⟨wz, hwz⟩ : ∃ wz, wz = set4 w5 (w.heap.size + 1) (.slice A5 n5 c5) (.int .u64 (v.a : Int)) (.int .u64 (v.b : Int)) (.int .u64 (v.c : Int)) := ⟨_, rfl⟩
  rw [← hwz] at HZ HB HFF
  unfold set4 at hwz
  (try simp only [Exit.inBlock, Exit.then])
  rw [← hwz]
  clear hwz o0 o1 o2 o3 oz0 oz1 oz2 oz3
  obtain ⟨y0, y1, y2, y3, _, _, _, _⟩ := HZ.out.cells
  go_wp2_with fail
  (try simp only [Exit.inBlock, Exit.then])
  refine bodyPost_ret (v := edV A5 n5 c5 v) (by simp [edV, results, Try.results23, go_sem, y0, y1, y2, y3]; try rfl) rfl ?_
  exact ⟨A5, n5, c5, rfl, HFF.out, HB.out⟩
end Go.Proofs.Ythgbafhfeblhaaa
