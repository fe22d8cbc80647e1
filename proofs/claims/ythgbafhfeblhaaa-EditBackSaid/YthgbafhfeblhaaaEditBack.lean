/-
  What is right is put, and parsed as it was; what is parsed is right, and put as it stood; two have the same bytes just if they are the same: for every two edits and every bytes.
-/
import Derived.Test.YthgbafhfeblhaaaRows
import Derived.Test.YthgbafhfeblhaaaEdO
import Derived.WalkKit
import Derived.ProofKit
import Derived.OpenShut
import Derived.ShutString
import Derived.ChangeOld
import Derived.Below
namespace Go.Proofs.Ythgbafhfeblhaaa.editBack
set_option maxRecDepth 100000
open Go.ChangeShapes Go.WideShapes Go.ChangeAt Go.RowKit
open Go.ChangeMaps (open_string shut_string)
set_option linter.unusedVariables false

theorem own : ownKnob Try.prog.godebug = none := by kernel_rfl
theorem laidOut : laidOutB Try.prog = true := by kernel_rfl

open Go.Shelf
set_option linter.unusedSimpArgs false
theorem few_len {e : Ed} (h : fewE e = true) : e.L.length ≤ 70 := by simp [fewE] at h; omega
theorem few_two {x y : Ev} : fewD [x, y] = (fewE x.e && fewE y.e) := by simp [fewD]

set_option maxRecDepth 100000 in
set_option maxHeartbeats 8000000 in
theorem walk (y0 : Ev) (y1 : Ev) (A2 : Option Addr) (n2 c2 : Nat) (l2 : List UInt8) (w : World) (o0 : EdIn y0.e) (r0 : RdM w w.heap.size y0.A y0.n y0.c y0.e.L) (o1 : EdIn y1.e) (r1 : RdM w w.heap.size y1.A y1.n y1.c y1.e.L) (w2 : l2.length = n2) (r2 : Rd w w.heap.size A2 n2 c2 (bv l2)) :
    Calls Try.prog 4 #[edV y0.A y0.n y0.c y0.e, edV y1.A y1.n y1.c y1.e, .slice A2 n2 c2] w fun e w' => e = .returned (.bool true) ∧ Below w.heap.size w w' := by
  obtain ⟨A0, n0, c0, e0⟩ := y0
  obtain ⟨A1, n1, c1, e1⟩ := y1
  simp only at o0 r0 o1 r1 ⊢
  obtain ⟨lraw, hlraw⟩ : ∃ x, x = l2 := ⟨_, rfl⟩
  rw [← hlraw] at w2 r2
  clear hlraw
  have hn2 := rd_n r2
  have ht := Two.new w 25 25 A0 A1 n0 c0 n1 c1 e0 e1
  obtain ⟨w1', hw1'⟩ : ∃ w2, w2 = ((w.alloc (.cells #[.slice A0 n0 c0, .int .u64 (e0.a : Int), .int .u64 (e0.b : Int), .int .u64 (e0.c : Int)] 25)).alloc (.cells #[.slice A1 n1 c1, .int .u64 (e1.a : Int), .int .u64 (e1.b : Int), .int .u64 (e1.c : Int)] 25)) := ⟨_, rfl⟩
  rw [← hw1'] at ht
  clear w2
  obtain ⟨w2, hw2⟩ : ∃ x, x = w1' := ⟨_, rfl⟩
  rw [← hw2] at hw1' ht
  clear hw2
  have HT := Lib.hid ht
  have HR0 := Lib.hid (fun W (hW : Below w2.heap.size w2 W) => r0.below (ht.below.trans (hW.mono ht.below.size)) (Nat.le_refl _))
  have HR1 := Lib.hid (fun W (hW : Below w2.heap.size w2 W) => r1.below (ht.below.trans (hW.mono ht.below.size)) (Nat.le_refl _))
  have HRW := Lib.hid (fun W (hW : Below w2.heap.size w2 W) => r2.below (ht.below.trans (hW.mono ht.below.size)))
  have HL0 := Lib.hid r0.len
  have HL1 := Lib.hid r1.len
  have hmax2 : (n2 : Int) ≤ 9223372036854775807 := by have h1 := r2.cap; have h2 := r2.max; unfold maxLen at h2; omega
  obtain ⟨q0, q1, q2, q3, _, _, _, _⟩ := ht.b1.cells
  obtain ⟨p0, p1, p2, p3, _, _, _, _⟩ := ht.b2.cells
  obtain ⟨wr, hwr⟩ : ∃ wr, wr = w2.alloc (.cells #[.slice A0 n0 c0, .int .u64 (e0.a : Int), .int .u64 (e0.b : Int), .int .u64 (e0.c : Int), .slice A1 n1 c1, .int .u64 (e1.a : Int), .int .u64 (e1.b : Int), .int .u64 (e1.c : Int)] 25) := ⟨_, rfl⟩
  have HFW := Lib.hid (show RdD wr (w2.heap.size + 1) (some ⟨w2.heap.size, 0, none⟩) 2 2 [⟨A0, n0, c0, e0⟩, ⟨A1, n1, c1, e1⟩] by
    rw [hwr]
    refine RdD.lit w2 rfl rfl rfl (by decide) (fun x hx => ?_)
    simp only [List.mem_cons, List.not_mem_nil, or_false] at hx
    rcases hx with rfl | rfl
    · exact (HR0.out w2 (Below.refl _ _)).more ht.below.size
    · exact (HR1.out w2 (Below.refl _ _)).more ht.below.size)
  have HBR := Lib.hid (show Below w2.heap.size w2 wr by rw [hwr]; exact below_alloc _ _)
  have HFEW := Lib.hid (few_c HFW.out (by rw [hwr]; simp))
  rw [few_two] at HFEW
  simp only at HFEW
  have O0 := Lib.hid o0
  have O1 := Lib.hid o1
  have HN2 := Lib.hid hn2
  clear ht r0 r1 r2 o0 o1 hn2
  unfold edV
  go_enter Try.func4, Try.ntmps4
  go_upto_region 1 with (fail)
  rw [← hw1']
  clear hw1'
  go_wp2_with (rw [← hwr])
  clear hwr
  refine HFEW.out.mono ?_
  rintro e w3 ⟨rfl, hb3⟩
  have HX := Lib.hid (bon HBR.out hb3)
  clear hb3 q0 q1 q2 q3 p0 p1 p2 p3
  cases hf0 : fewE e0 with
  | false =>
    simp only [Bool.false_and]
    clear hf0
    go_wp2_with fail
    refine (awake9_c _).mono ?_
    rintro e w99 ⟨rfl, hb99⟩
    go_wp2_with fail
    go_ret
    exact ⟨rfl, bon (bon HT.out.below HX.out) hb99⟩
  | true =>
    cases hf1 : fewE e1 with
    | false =>
      simp only [Bool.and_false]
      clear hf1
      go_wp2_with fail
      refine (awake9_c _).mono ?_
      rintro e w99 ⟨rfl, hb99⟩
      go_wp2_with fail
      go_ret
      exact ⟨rfl, bon (bon HT.out.below HX.out) hb99⟩
    | true =>
      simp only [Bool.and_true]
      have hn0 : n0 ≤ 70 := by have := few_len hf0; have := HL0.out; omega
      have hn1 : n1 ≤ 70 := by have := few_len hf1; have := HL1.out; omega
      clear hf0 hf1
      by_cases h600 : n2 ≤ 600
      case neg =>
        have d1 : decide ((600 : Int) < (n2 : Int)) = true := by simp; omega
        have d2 : decide (600 < n2) = true := by simp; omega
        go_wp2_with fail
        refine (awake9_c _).mono ?_
        rintro e w99 ⟨rfl, hb99⟩
        go_wp2_with fail
        go_ret
        exact ⟨rfl, bon (bon HT.out.below HX.out) hb99⟩
      case pos =>
      have d1 : decide ((600 : Int) < (n2 : Int)) = false := by simp; omega
      have d2 : decide (600 < n2) = false := by simp; omega
      have HBY0 := Lib.hid (fun W (hW : Below w2.heap.size w2 W) => bytes_c (e := e0) (HR0.out W hW) (Nat.le_trans HT.out.below.size hW.size) (by omega) O0.out)
      have HBY1 := Lib.hid (fun W (hW : Below w2.heap.size w2 W) => bytes_c (e := e1) (HR1.out W hW) (Nat.le_trans HT.out.below.size hW.size) (by omega) O1.out)
      have HRA := Lib.hid (fun W (hW : Below w2.heap.size w2 W) => right_c (e := e0) (HR0.out W hW) (Nat.le_trans HT.out.below.size hW.size) (by omega))
      have HS00 := Lib.hid (fun W (hW : Below w2.heap.size w2 W) => same_e (e := e0) (f := e0) (HR0.out W hW) (HR0.out W hW) (Nat.le_trans HT.out.below.size hW.size) (by omega))
      have HS01 := Lib.hid (fun W (hW : Below w2.heap.size w2 W) => same_e (e := e0) (f := e1) (HR0.out W hW) (HR1.out W hW) (Nat.le_trans HT.out.below.size hW.size) (by omega))
      have HS10 := Lib.hid (fun W (hW : Below w2.heap.size w2 W) => same_e (e := e1) (f := e0) (HR1.out W hW) (HR0.out W hW) (Nat.le_trans HT.out.below.size hW.size) (by omega))
      simp only [(sameE_eq e0 e0).2 rfl] at HS00
      simp only [sameE_comm e1 e0] at HS10
      have HNN := Lib.hid (show n0 ≤ 70 ∧ n1 ≤ 70 from ⟨hn0, hn1⟩)
      unfold edV at HBY0 HBY1 HRA HS00 HS01 HS10
      obtain ⟨q0, q1, q2, q3, _, _, _, _⟩ := (HT.out.now HX.out).b1.cells
      obtain ⟨p0, p1, p2, p3, _, _, _, _⟩ := (HT.out.now HX.out).b2.cells
      clear hn0 hn1
      go_wp2_with fail
      refine (HBY0.out _ HX.out).mono ?_
      rintro e w4 ⟨A4, n4, c4, rfl, hf4, hb4⟩
      have HX4 := Lib.hid (bon HX.out hb4)
      have HF4 := Lib.hid (hf4.rd (Nat.le_refl _))
      clear q0 q1 q2 q3 p0 p1 p2 p3 hf4 hb4
      obtain ⟨q0, q1, q2, q3, _, _, _, _⟩ := (HT.out.now HX4.out).b1.cells
      obtain ⟨p0, p1, p2, p3, _, _, _, _⟩ := (HT.out.now HX4.out).b2.cells
      go_wp2_with fail
      refine (HBY1.out _ HX4.out).mono ?_
      rintro e w5 ⟨A5, n5, c5, rfl, hf5, hb5⟩
      have HX5a := Lib.hid (bon HX4.out hb5)
      have hst : Below w5.heap.size w5 w5.drew := below_drewN (Below.refl _ _) 1
      have HSK := Lib.hid (fun (W : World) (hW : Below w5.heap.size w5 W) => show Below w5.heap.size w5 W ∧ W.cell? ⟨w.heap.size, 0, none⟩ = some (.slice A0 n0 c0) ∧ W.cell? ⟨w.heap.size, 1, none⟩ = some (.int .u64 (e0.a : Int)) ∧ W.cell? ⟨w.heap.size, 2, none⟩ = some (.int .u64 (e0.b : Int)) ∧ W.cell? ⟨w.heap.size, 3, none⟩ = some (.int .u64 (e0.c : Int)) ∧ W.cell? ⟨w.heap.size + 1, 0, none⟩ = some (.slice A1 n1 c1) ∧ W.cell? ⟨w.heap.size + 1, 1, none⟩ = some (.int .u64 (e1.a : Int)) ∧ W.cell? ⟨w.heap.size + 1, 2, none⟩ = some (.int .u64 (e1.b : Int)) ∧ W.cell? ⟨w.heap.size + 1, 3, none⟩ = some (.int .u64 (e1.c : Int)) by
        obtain ⟨g0, g1, g2, g3, _, _, _, _⟩ := (HT.out.now (bon HX5a.out hW)).b1.cells
        obtain ⟨k0, k1, k2, k3, _, _, _, _⟩ := (HT.out.now (bon HX5a.out hW)).b2.cells
        exact ⟨hW, g0, g1, g2, g3, k0, k1, k2, k3⟩)
      have HF4b := Lib.hid (HF4.out.now hb5)
      have HF5 := Lib.hid (hf5.rd (Nat.le_refl _))
      clear q0 q1 q2 q3 p0 p1 p2 p3 hf5 hb5 HF4
      cases hra : rightE e0 with
      | false =>
        have HBL := Lib.hid (show bytesL e0 = [] by unfold bytesL; rw [hra]; rfl)
        have HE : errE false = 90 := rfl
        rw [HE]
        simp only [hra] at HRA
        obtain rfl : n4 = 0 := by have := rd_n HF4b.out; rw [HBL.out] at this; simpa using this
        have HRN := Lib.hid hra
        clear hra HE
        go_upto_region 5 with (fail)
        refine wp_region_noPanic ?_
        refine wp_region_held_drew (S := fun w' => Below w5.heap.size w5 w' ∧ w'.cell? ⟨w.heap.size, 0, none⟩ = some (.slice A0 n0 c0) ∧ w'.cell? ⟨w.heap.size, 1, none⟩ = some (.int .u64 (e0.a : Int)) ∧ w'.cell? ⟨w.heap.size, 2, none⟩ = some (.int .u64 (e0.b : Int)) ∧ w'.cell? ⟨w.heap.size, 3, none⟩ = some (.int .u64 (e0.c : Int)) ∧ w'.cell? ⟨w.heap.size + 1, 0, none⟩ = some (.slice A1 n1 c1) ∧ w'.cell? ⟨w.heap.size + 1, 1, none⟩ = some (.int .u64 (e1.a : Int)) ∧ w'.cell? ⟨w.heap.size + 1, 2, none⟩ = some (.int .u64 (e1.b : Int)) ∧ w'.cell? ⟨w.heap.size + 1, 3, none⟩ = some (.int .u64 (e1.c : Int))) (by kernel_rfl) (HSK.out _ hst) (fun hHeld => ?_)
        refine wpAnyH_take (i := 0) (oi := { dst := some 38, op := Op.move (Operand.tmp 8), type := 32, pos := "outright.go:19", after := #[], guard := none }) (v := ?v32) rfl (by kernel_rfl) (by kernel_rfl) (by kernel_rfl) (fun _ _ _ h => h) (Or.inl ⟨by rfl, ?hy32⟩) (by assumption) ?rest32
        case hy32 => (intro w hSw; (try dsimp only at hSw); go_simp; try with_reducible rfl)
        try simp only [Act.put, List.setIfInBounds_toArray, List.set_cons_zero, List.set_cons_succ]
        refine wpAnyH_take (i := 1) (oi := { dst := some 39, op := Op.binOp BinOp.eql 32 (Operand.tmp 38) (Operand.const (Value.int IntKind.i64 0)) 32, type := 4, pos := "outright.go:19", after := #[{ on := 0, ground := Ground.data }], guard := none }) (v := ?v33) rfl (by kernel_rfl) (by kernel_rfl) (by kernel_rfl) (fun _ _ _ h => h) (Or.inl ⟨by rfl, ?hy33⟩) (by assumption) ?rest33
        case hy33 => (intro w hSw; (try dsimp only at hSw); go_simp; try with_reducible rfl)
        try simp only [Act.put, List.setIfInBounds_toArray, List.set_cons_zero, List.set_cons_succ]
        refine wpAnyH_take (i := 2) (oi := { dst := some 40, op := Op.load 25 (Operand.tmp 3), type := 25, pos := "outright.go:19", after := #[], guard := none }) (v := ?v34) rfl (by kernel_rfl) (by kernel_rfl) (by kernel_rfl) (fun _ _ _ h => h) (Or.inl ⟨by rfl, ?hy34⟩) (by assumption) ?rest34
        case hy34 => (intro w hSw; (try dsimp only at hSw); go_simp; try with_reducible rfl)
        try simp only [Act.put, List.setIfInBounds_toArray, List.set_cons_zero, List.set_cons_succ]
        refine wpAnyH_ready (rs := [3]) (by kernel_rfl) (by simp) ?_
        refine AllReadyH.cons (o := { dst := some 41, op := Op.call { callee := Callee.value (Operand.func 17), args := #[Operand.tmp 40], argTypes := #[25] }, type := 4, pos := "outright.go:19", after := #[{ on := 2, ground := Ground.data }], guard := none }) rfl (fun K hK => ?_) AllReadyH.nil
        go_simp
        refine (HRA.out _ (bon HX5a.out hHeld.1)).mono ?_
        rintro e wk ⟨rfl, hb⟩
        replace hHeld := HSK.out _ (bon hHeld.1 hb)
        clear hb
        go_wp2_with fail
        refine hK.out _ _ hHeld (fun hHeld' => ?_)
        clear hK K
        try simp only [Act.put, List.setIfInBounds_toArray, List.set_cons_zero, List.set_cons_succ]
        refine wpAnyH_take (i := 4) (oi := { dst := some 42, op := Op.binOp BinOp.neq 4 (Operand.tmp 39) (Operand.tmp 41) 4, type := 4, pos := "outright.go:19", after := #[{ on := 1, ground := Ground.data }, { on := 3, ground := Ground.data }], guard := none }) (v := ?v35) rfl (by kernel_rfl) (by kernel_rfl) (by kernel_rfl) (fun _ _ _ h => h) (Or.inl ⟨by rfl, ?hy35⟩) (by assumption) ?rest35
        case hy35 => (intro w hSw; (try dsimp only at hSw); go_simp; try with_reducible rfl)
        try simp only [Act.put, List.setIfInBounds_toArray, List.set_cons_zero, List.set_cons_succ]
        refine wpAnyH_take (i := 5) (oi := { dst := some 43, op := Op.move (Operand.tmp 42), type := 4, pos := "outright.go:19", after := #[{ on := 4, ground := Ground.data }, { on := 3, ground := Ground.chain }], guard := none }) (v := ?v36) rfl (by kernel_rfl) (by kernel_rfl) (by kernel_rfl) (fun _ _ _ h => h) (Or.inl ⟨by rfl, ?hy36⟩) (by assumption) ?rest36
        case hy36 => (intro w hSw; (try dsimp only at hSw); go_simp; try with_reducible rfl)
        try simp only [Act.put, List.setIfInBounds_toArray, List.set_cons_zero, List.set_cons_succ]
        refine wpAnyH_take (i := 6) (oi := { dst := some 44, op := Op.move (Operand.tmp 8), type := 32, pos := "outright.go:19", after := #[{ on := 5, ground := Ground.guard }], guard := some (5, false) }) (v := ?v37) rfl (by kernel_rfl) (by kernel_rfl) (by kernel_rfl) (fun _ _ _ h => h) (Or.inl ⟨by rfl, ?hy37⟩) (by assumption) ?rest37
        case hy37 => (intro w hSw; (try dsimp only at hSw); go_simp; try with_reducible rfl)
        try simp only [Act.put, List.setIfInBounds_toArray, List.set_cons_zero, List.set_cons_succ]
        refine wpAnyH_take (i := 7) (oi := { dst := some 45, op := Op.binOp BinOp.neq 32 (Operand.tmp 44) (Operand.const (Value.int IntKind.i64 0)) 32, type := 4, pos := "outright.go:19", after := #[{ on := 6, ground := Ground.data }, { on := 5, ground := Ground.guard }], guard := some (5, false) }) (v := ?v38) rfl (by kernel_rfl) (by kernel_rfl) (by kernel_rfl) (fun _ _ _ h => h) (Or.inl ⟨by rfl, ?hy38⟩) (by assumption) ?rest38
        case hy38 => (intro w hSw; (try dsimp only at hSw); go_simp; try with_reducible rfl)
        try simp only [Act.put, List.setIfInBounds_toArray, List.set_cons_zero, List.set_cons_succ]
        refine wpAnyH_take (i := 8) (oi := { dst := some 46, op := Op.move (Operand.tmp 45), type := 4, pos := "outright.go:19", after := #[{ on := 7, ground := Ground.data }, { on := 5, ground := Ground.chain }, { on := 5, ground := Ground.guard }], guard := some (5, false) }) (v := ?v39) rfl (by kernel_rfl) (by kernel_rfl) (by kernel_rfl) (fun _ _ _ h => h) (Or.inl ⟨by rfl, ?hy39⟩) (by assumption) ?rest39
        case hy39 => (intro w hSw; (try dsimp only at hSw); go_simp; try with_reducible rfl)
        try simp only [Act.put, List.setIfInBounds_toArray, List.set_cons_zero, List.set_cons_succ]
        refine wpAnyH_take (i := 9) (oi := { dst := some 47, op := Op.move (Operand.tmp 8), type := 32, pos := "outright.go:19", after := #[{ on := 8, ground := Ground.guard }], guard := some (8, true) }) (v := ?v40) rfl (by kernel_rfl) (by kernel_rfl) (by kernel_rfl) (fun _ _ _ h => h) (Or.inl ⟨by rfl, ?hy40⟩) (by assumption) ?rest40
        case hy40 => (intro w hSw; (try dsimp only at hSw); go_simp; try with_reducible rfl)
        try simp only [Act.put, List.setIfInBounds_toArray, List.set_cons_zero, List.set_cons_succ]
        refine wpAnyH_take (i := 10) (oi := { dst := some 48, op := Op.binOp BinOp.neq 32 (Operand.tmp 47) (Operand.const (Value.int IntKind.i64 90)) 32, type := 4, pos := "outright.go:19", after := #[{ on := 9, ground := Ground.data }, { on := 8, ground := Ground.guard }], guard := some (8, true) }) (v := ?v41) rfl (by kernel_rfl) (by kernel_rfl) (by kernel_rfl) (fun _ _ _ h => h) (Or.inl ⟨by rfl, ?hy41⟩) (by assumption) ?rest41
        case hy41 => (intro w hSw; (try dsimp only at hSw); go_simp; try with_reducible rfl)
        try simp only [Act.put, List.setIfInBounds_toArray, List.set_cons_zero, List.set_cons_succ]
        refine wpAnyH_take (i := 11) (oi := { dst := some 49, op := Op.move (Operand.tmp 48), type := 4, pos := "outright.go:19", after := #[{ on := 10, ground := Ground.data }, { on := 8, ground := Ground.chain }, { on := 8, ground := Ground.guard }], guard := some (8, true) }) (v := ?v42) rfl (by kernel_rfl) (by kernel_rfl) (by kernel_rfl) (fun _ _ _ h => h) (Or.inl ⟨by rfl, ?hy42⟩) (by assumption) ?rest42
        case hy42 => (intro w hSw; (try dsimp only at hSw); go_simp; try with_reducible rfl)
        try simp only [Act.put, List.setIfInBounds_toArray, List.set_cons_zero, List.set_cons_succ]
        refine wpAnyH_take (i := 12) (oi := { dst := some 50, op := Op.move (Operand.tmp 7), type := 26, pos := "outright.go:19", after := #[{ on := 11, ground := Ground.guard }], guard := some (11, false) }) (v := ?v43) rfl (by kernel_rfl) (by kernel_rfl) (by kernel_rfl) (fun _ _ _ h => h) (Or.inl ⟨by rfl, ?hy43⟩) (by assumption) ?rest43
        case hy43 => (intro w hSw; (try dsimp only at hSw); go_simp; try with_reducible rfl)
        try simp only [Act.put, List.setIfInBounds_toArray, List.set_cons_zero, List.set_cons_succ]
        refine wpAnyH_take (i := 13) (oi := { dst := some 51, op := Op.call { callee := Callee.builtin Builtin.len, args := #[Operand.tmp 50], argTypes := #[26] }, type := 3, pos := "outright.go:19", after := #[{ on := 12, ground := Ground.data }, { on := 11, ground := Ground.guard }], guard := some (11, false) }) (v := ?v44) rfl (by kernel_rfl) (by kernel_rfl) (by kernel_rfl) (fun _ _ _ h => h) (Or.inl ⟨by rfl, ?hy44⟩) (by assumption) ?rest44
        case hy44 => (intro w hSw; (try dsimp only at hSw); go_simp; try with_reducible rfl)
        try simp only [Act.put, List.setIfInBounds_toArray, List.set_cons_zero, List.set_cons_succ]
        refine wpAnyH_take (i := 14) (oi := { dst := some 52, op := Op.binOp BinOp.neq 3 (Operand.tmp 51) (Operand.const (Value.int IntKind.i64 0)) 3, type := 4, pos := "outright.go:19", after := #[{ on := 13, ground := Ground.data }, { on := 11, ground := Ground.guard }], guard := some (11, false) }) (v := ?v45) rfl (by kernel_rfl) (by kernel_rfl) (by kernel_rfl) (fun _ _ _ h => h) (Or.inl ⟨by rfl, ?hy45⟩) (by assumption) ?rest45
        case hy45 => (intro w hSw; (try dsimp only at hSw); go_simp; try with_reducible rfl)
        try simp only [Act.put, List.setIfInBounds_toArray, List.set_cons_zero, List.set_cons_succ]
        refine wpAnyH_take (i := 15) (oi := { dst := some 53, op := Op.pick (Operand.tmp 49) (Operand.const (Value.bool true)) (Operand.tmp 52), type := 4, pos := "outright.go:19", after := #[{ on := 11, ground := Ground.data }, { on := 14, ground := Ground.data }, { on := 8, ground := Ground.guard }], guard := some (8, true) }) (v := ?v46) rfl (by kernel_rfl) (by kernel_rfl) (by kernel_rfl) (fun _ _ _ h => h) (Or.inl ⟨by rfl, ?hy46⟩) (by assumption) ?rest46
        case hy46 => (intro w hSw; (try dsimp only at hSw); go_simp; try with_reducible rfl)
        try simp only [Act.put, List.setIfInBounds_toArray, List.set_cons_zero, List.set_cons_succ]
        refine wpAnyH_take (i := 16) (oi := { dst := some 54, op := Op.pick (Operand.tmp 46) (Operand.tmp 53) (Operand.const (Value.bool false)), type := 4, pos := "outright.go:19", after := #[{ on := 8, ground := Ground.data }, { on := 15, ground := Ground.data }, { on := 5, ground := Ground.guard }], guard := some (5, false) }) (v := ?v47) rfl (by kernel_rfl) (by kernel_rfl) (by kernel_rfl) (fun _ _ _ h => h) (Or.inl ⟨by rfl, ?hy47⟩) (by assumption) ?rest47
        case hy47 => (intro w hSw; (try dsimp only at hSw); go_simp; try with_reducible rfl)
        try simp only [Act.put, List.setIfInBounds_toArray, List.set_cons_zero, List.set_cons_succ]
        refine wpAnyH_take (i := 17) (oi := { dst := some 55, op := Op.pick (Operand.tmp 43) (Operand.const (Value.bool true)) (Operand.tmp 54), type := 4, pos := "outright.go:19", after := #[{ on := 5, ground := Ground.data }, { on := 16, ground := Ground.data }], guard := none }) (v := ?v48) rfl (by kernel_rfl) (by kernel_rfl) (by kernel_rfl) (fun _ _ _ h => h) (Or.inl ⟨by rfl, ?hy48⟩) (by assumption) ?rest48
        case hy48 => (intro w hSw; (try dsimp only at hSw); go_simp; try with_reducible rfl)
        try simp only [Act.put, List.setIfInBounds_toArray, List.set_cons_zero, List.set_cons_succ]
        refine wpAnyH_take (i := 18) (oi := { dst := some 56, op := Op.move (Operand.tmp 55), type := 4, pos := "outright.go:19", after := #[{ on := 17, ground := Ground.data }, { on := 11, ground := Ground.chain }], guard := none }) (v := ?v49) rfl (by kernel_rfl) (by kernel_rfl) (by kernel_rfl) (fun _ _ _ h => h) (Or.inl ⟨by rfl, ?hy49⟩) (by assumption) ?rest49
        case hy49 => (intro w hSw; (try dsimp only at hSw); go_simp; try with_reducible rfl)
        try simp only [Act.put, List.setIfInBounds_toArray, List.set_cons_zero, List.set_cons_succ]
        refine wpAnyH_take (i := 19) (oi := { dst := some 57, op := Op.load 25 (Operand.tmp 3), type := 25, pos := "outright.go:19", after := #[{ on := 18, ground := Ground.guard }], guard := some (18, false) }) (v := ?v50) rfl (by kernel_rfl) (by kernel_rfl) (by kernel_rfl) (fun _ _ _ h => h) (Or.inl ⟨by rfl, ?hy50⟩) (by assumption) ?rest50
        case hy50 => (intro w hSw; (try dsimp only at hSw); go_simp; try with_reducible rfl)
        try simp only [Act.put, List.setIfInBounds_toArray, List.set_cons_zero, List.set_cons_succ]
        refine wpAnyH_take (i := 20) (oi := { dst := some 58, op := Op.load 25 (Operand.tmp 3), type := 25, pos := "outright.go:19", after := #[{ on := 18, ground := Ground.guard }], guard := some (18, false) }) (v := ?v51) rfl (by kernel_rfl) (by kernel_rfl) (by kernel_rfl) (fun _ _ _ h => h) (Or.inl ⟨by rfl, ?hy51⟩) (by assumption) ?rest51
        case hy51 => (intro w hSw; (try dsimp only at hSw); go_simp; try with_reducible rfl)
        try simp only [Act.put, List.setIfInBounds_toArray, List.set_cons_zero, List.set_cons_succ]
        refine wpAnyH_ready (rs := [21]) (by kernel_rfl) (by simp) ?_
        refine AllReadyH.cons (o := { dst := some 59, op := Op.call { callee := Callee.value (Operand.func 19), args := #[Operand.tmp 57, Operand.tmp 58], argTypes := #[25, 25] }, type := 4, pos := "outright.go:19", after := #[{ on := 19, ground := Ground.data }, { on := 20, ground := Ground.data }, { on := 18, ground := Ground.chain }, { on := 18, ground := Ground.guard }], guard := some (18, false) }) rfl (fun K hK => ?_) AllReadyH.nil
        go_simp
        refine (HS00.out _ (bon HX5a.out hHeld.1)).mono ?_
        rintro e wk ⟨rfl, hb⟩
        replace hHeld := HSK.out _ (bon hHeld.1 hb)
        clear hb
        go_wp2_with fail
        refine hK.out _ _ hHeld (fun hHeld' => ?_)
        clear hK K
        try simp only [Act.put, List.setIfInBounds_toArray, List.set_cons_zero, List.set_cons_succ]
        refine wpAnyH_take (i := 22) (oi := { dst := some 60, op := Op.unOp UnOp.not 4 (Operand.tmp 59), type := 4, pos := "outright.go:19", after := #[{ on := 21, ground := Ground.data }, { on := 18, ground := Ground.guard }], guard := some (18, false) }) (v := ?v52) rfl (by kernel_rfl) (by kernel_rfl) (by kernel_rfl) (fun _ _ _ h => h) (Or.inl ⟨by rfl, ?hy52⟩) (by assumption) ?rest52
        case hy52 => (intro w hSw; (try dsimp only at hSw); go_simp; try with_reducible rfl)
        try simp only [Act.put, List.setIfInBounds_toArray, List.set_cons_zero, List.set_cons_succ]
        refine wpAnyH_take (i := 23) (oi := { dst := some 61, op := Op.pick (Operand.tmp 56) (Operand.const (Value.bool true)) (Operand.tmp 60), type := 4, pos := "outright.go:19", after := #[{ on := 18, ground := Ground.data }, { on := 22, ground := Ground.data }], guard := none }) (v := ?v53) rfl (by kernel_rfl) (by kernel_rfl) (by kernel_rfl) (fun _ _ _ h => h) (Or.inl ⟨by rfl, ?hy53⟩) (by assumption) ?rest53
        case hy53 => (intro w hSw; (try dsimp only at hSw); go_simp; try with_reducible rfl)
        try simp only [Act.put, List.setIfInBounds_toArray, List.set_cons_zero, List.set_cons_succ]
        refine wpAnyH_take (i := 24) (oi := { dst := some 62, op := Op.move (Operand.tmp 61), type := 4, pos := "outright.go:19", after := #[{ on := 23, ground := Ground.data }, { on := 21, ground := Ground.chain }], guard := none }) (v := ?v54) rfl (by kernel_rfl) (by kernel_rfl) (by kernel_rfl) (fun _ _ _ h => h) (Or.inl ⟨by rfl, ?hy54⟩) (by assumption) ?rest54
        case hy54 => (intro w hSw; (try dsimp only at hSw); go_simp; try with_reducible rfl)
        try simp only [Act.put, List.setIfInBounds_toArray, List.set_cons_zero, List.set_cons_succ]
        refine wpAnyH_take (i := 25) (oi := { dst := some 63, op := Op.load 25 (Operand.tmp 3), type := 25, pos := "outright.go:19", after := #[{ on := 24, ground := Ground.guard }], guard := some (24, false) }) (v := ?v55) rfl (by kernel_rfl) (by kernel_rfl) (by kernel_rfl) (fun _ _ _ h => h) (Or.inl ⟨by rfl, ?hy55⟩) (by assumption) ?rest55
        case hy55 => (intro w hSw; (try dsimp only at hSw); go_simp; try with_reducible rfl)
        try simp only [Act.put, List.setIfInBounds_toArray, List.set_cons_zero, List.set_cons_succ]
        refine wpAnyH_take (i := 26) (oi := { dst := some 64, op := Op.load 25 (Operand.tmp 4), type := 25, pos := "outright.go:19", after := #[{ on := 24, ground := Ground.guard }], guard := some (24, false) }) (v := ?v56) rfl (by kernel_rfl) (by kernel_rfl) (by kernel_rfl) (fun _ _ _ h => h) (Or.inl ⟨by rfl, ?hy56⟩) (by assumption) ?rest56
        case hy56 => (intro w hSw; (try dsimp only at hSw); go_simp; try with_reducible rfl)
        try simp only [Act.put, List.setIfInBounds_toArray, List.set_cons_zero, List.set_cons_succ]
        refine wpAnyH_take (i := 28) (oi := { dst := some 66, op := Op.load 25 (Operand.tmp 4), type := 25, pos := "outright.go:19", after := #[{ on := 24, ground := Ground.guard }], guard := some (24, false) }) (v := ?v57) rfl (by kernel_rfl) (by kernel_rfl) (by kernel_rfl) (fun _ _ _ h => h) (Or.inl ⟨by rfl, ?hy57⟩) (by assumption) ?rest57
        case hy57 => (intro w hSw; (try dsimp only at hSw); go_simp; try with_reducible rfl)
        try simp only [Act.put, List.setIfInBounds_toArray, List.set_cons_zero, List.set_cons_succ]
        refine wpAnyH_take (i := 29) (oi := { dst := some 67, op := Op.load 25 (Operand.tmp 3), type := 25, pos := "outright.go:19", after := #[{ on := 24, ground := Ground.guard }], guard := some (24, false) }) (v := ?v58) rfl (by kernel_rfl) (by kernel_rfl) (by kernel_rfl) (fun _ _ _ h => h) (Or.inl ⟨by rfl, ?hy58⟩) (by assumption) ?rest58
        case hy58 => (intro w hSw; (try dsimp only at hSw); go_simp; try with_reducible rfl)
        try simp only [Act.put, List.setIfInBounds_toArray, List.set_cons_zero, List.set_cons_succ]
        refine wpAnyH_ready (rs := [27]) (by kernel_rfl) (by simp) ?_
        refine AllReadyH.cons (o := { dst := some 65, op := Op.call { callee := Callee.value (Operand.func 19), args := #[Operand.tmp 63, Operand.tmp 64], argTypes := #[25, 25] }, type := 4, pos := "outright.go:19", after := #[{ on := 25, ground := Ground.data }, { on := 26, ground := Ground.data }, { on := 24, ground := Ground.chain }, { on := 24, ground := Ground.guard }], guard := some (24, false) }) rfl (fun K hK => ?_) AllReadyH.nil
        go_simp
        refine (HS01.out _ (bon HX5a.out hHeld.1)).mono ?_
        rintro e wk ⟨rfl, hb⟩
        replace hHeld := HSK.out _ (bon hHeld.1 hb)
        clear hb
        go_wp2_with fail
        refine hK.out _ _ hHeld (fun hHeld' => ?_)
        clear hK K
        try simp only [Act.put, List.setIfInBounds_toArray, List.set_cons_zero, List.set_cons_succ]
        refine wpAnyH_ready (rs := [30]) (by kernel_rfl) (by simp) ?_
        refine AllReadyH.cons (o := { dst := some 68, op := Op.call { callee := Callee.value (Operand.func 19), args := #[Operand.tmp 66, Operand.tmp 67], argTypes := #[25, 25] }, type := 4, pos := "outright.go:19", after := #[{ on := 28, ground := Ground.data }, { on := 29, ground := Ground.data }, { on := 27, ground := Ground.chain }, { on := 24, ground := Ground.guard }], guard := some (24, false) }) rfl (fun K hK => ?_) AllReadyH.nil
        go_simp
        refine (HS10.out _ (bon HX5a.out hHeld.1)).mono ?_
        rintro e wk ⟨rfl, hb⟩
        replace hHeld := HSK.out _ (bon hHeld.1 hb)
        clear hb
        go_wp2_with fail
        refine hK.out _ _ hHeld (fun hHeld' => ?_)
        clear hK K
        try simp only [Act.put, List.setIfInBounds_toArray, List.set_cons_zero, List.set_cons_succ]
        refine wpAnyH_take (i := 31) (oi := { dst := some 69, op := Op.binOp BinOp.neq 4 (Operand.tmp 65) (Operand.tmp 68) 4, type := 4, pos := "outright.go:19", after := #[{ on := 27, ground := Ground.data }, { on := 30, ground := Ground.data }, { on := 24, ground := Ground.guard }], guard := some (24, false) }) (v := ?v59) rfl (by kernel_rfl) (by kernel_rfl) (by kernel_rfl) (fun _ _ _ h => h) (Or.inl ⟨by rfl, ?hy59⟩) (by assumption) ?rest59
        case hy59 => (intro w hSw; (try dsimp only at hSw); go_simp; try with_reducible rfl)
        try simp only [Act.put, List.setIfInBounds_toArray, List.set_cons_zero, List.set_cons_succ]
        refine wpAnyH_take (i := 32) (oi := { dst := some 70, op := Op.pick (Operand.tmp 62) (Operand.const (Value.bool true)) (Operand.tmp 69), type := 4, pos := "outright.go:19", after := #[{ on := 24, ground := Ground.data }, { on := 31, ground := Ground.data }], guard := none }) (v := ?v60) rfl (by kernel_rfl) (by kernel_rfl) (by kernel_rfl) (fun _ _ _ h => h) (Or.inl ⟨by rfl, ?hy60⟩) (by assumption) ?rest60
        case hy60 => (intro w hSw; (try dsimp only at hSw); go_simp; try with_reducible rfl)
        try simp only [Act.put, List.setIfInBounds_toArray, List.set_cons_zero, List.set_cons_succ]
        refine wpAnyH_done (by kernel_rfl) ?_ _
        refine NoPanic.normal ?_
        have HX := Lib.hid (bon HX5a.out hHeld.1)
        clear hHeld
        have HPR := Lib.hid (fun W (hW : Below w2.heap.size w2 W) => parse_c (HRW.out W hW) (Nat.le_trans (HT.out.below.size) hW.size) (by omega))
        go_wp2_with fail
        refine (HPR.out _ HX.out).mono ?_
        rintro e w20 ⟨A20, n20, c20, rfl, hf20, hb20⟩
        have hok20 : rightE (prsV lraw) = true ∨ prsK lraw = false := by
          unfold prsV prsK
          cases hp : parseE lraw with
          | none => exact .inr rfl
          | some y => exact .inl (parseE_iff.1 hp).1
        obtain ⟨m, hm⟩ : ∃ m, m = prsV lraw := ⟨_, rfl⟩
        rw [← hm] at hf20 hok20
        rw [← hm]
        have HMM := Lib.hid hm
        clear hm
        obtain ⟨w21, hw21⟩ : ∃ w21, w21 = w20.alloc (.cells #[.slice A20 n20 c20, .int .u64 (m.a : Int), .int .u64 (m.b : Int), .int .u64 (m.c : Int)] 25) := ⟨_, rfl⟩
        have HM1 := Lib.hid (show B4 w21 w20.heap.size 25 (.slice A20 n20 c20) (.int .u64 (m.a : Int)) (.int .u64 (m.b : Int)) (.int .u64 (m.c : Int)) by rw [hw21]; exact B4.new _ _ _ _ _ _ rfl)
        have HX2 := Lib.hid (show Below w2.heap.size w2 w21 by rw [hw21]; exact blit (bon HX.out hb20) _)
        have HF2 := Lib.hid (show RdM w21 w21.heap.size A20 n20 c20 m.L by rw [hw21]; exact (hf20.alloc _).rd (Nat.le_refl _))
        have HLEN := Lib.hid hf20.len
        have HOK := Lib.hid hok20
        have d0 : (errE (prsK lraw) == 0) = prsK lraw := by unfold errE; cases prsK lraw <;> rfl
        have HKK := Lib.hid (show parseE lraw = if prsK lraw = true then some m else none by
          rw [HMM.out]; unfold prsK prsV; cases parseE lraw <;> rfl)
        clear hf20 hb20 hok20
        unfold edV
        go_upto_region 12 with (fail)
        rw [← hw21]
        clear hw21
        cases hk : prsK lraw with
        | false =>
          have HE : errE false = 90 := rfl
          rw [HE]
          have HN := Lib.hid (show parseE lraw = none by rw [HKK.out, hk]; rfl)
          have HNIL := Lib.hid (show m = Ed.nil by rw [HMM.out]; unfold prsV; rw [HN.out]; rfl)
          obtain ⟨q0, q1, q2, q3, _, _, _, _⟩ := HM1.out.cells
          have HSM := Lib.hid (same_e (e := m) (f := Ed.nil) (n2 := 0) (c2 := 0) (A2 := none) HF2.out RdM.nilv (Nat.le_refl _) (by have := HLEN.out; rw [HNIL.out] at this; simp [Ed.nil] at this; omega))
          rw [show sameE m Ed.nil = true by rw [HNIL.out]; exact (sameE_eq _ _).2 rfl] at HSM
          unfold edV Ed.nil at HSM
          clear hk d0 HE
          go_wp2_with fail
          refine HSM.out.mono ?_
          rintro e w22 ⟨rfl, hb22⟩
          have HX3 := Lib.hid (bon HX2.out hb22)
          clear hb22
          go_wp2_with fail
          refine (awake9_c _).mono ?_
          rintro e w99 ⟨rfl, hb99⟩
          go_wp2_with fail
          go_ret
          exact ⟨rfl, bon (bon HT.out.below HX3.out) hb99⟩
        | true =>
          have HE : errE true = 0 := rfl
          rw [HE]
          have HYS := Lib.hid (parseE_iff.1 (show parseE lraw = some m by rw [HKK.out, hk]; rfl))
          obtain ⟨q0, q1, q2, q3, _, _, _, _⟩ := HM1.out.cells
          have hn20 : n20 ≤ 64 := by have := (notesB_sizes (rightE_notes HYS.out.1)).1; have := HLEN.out; omega
          have HBY := Lib.hid (bytes_c HF2.out (Nat.le_refl _) (by omega) HYS.out.2.2.in_)
          have HRT := Lib.hid (fun W (hW : Below w21.heap.size w21 W) => right_c (e := m) (HF2.out.below hW (Nat.le_refl _)) hW.size (by omega))
          have HBL := Lib.hid (show bytesL m = lraw by unfold bytesL; rw [if_pos HYS.out.1]; exact HYS.out.2.1)
          have HER := Lib.hid (show errE (rightE m) = 0 by rw [HYS.out.1]; rfl)
          unfold edV at HBY HRT
          clear hk d0 HE hn20
          go_wp2_with fail
          refine HBY.out.mono ?_
          rintro e w22 ⟨A22, n22, c22, rfl, hf22, hb22⟩
          rw [HBL.out] at hf22
          rw [HER.out]
          have HF22 := Lib.hid (hf22.rd (Nat.le_refl _))
          have HX3 := Lib.hid (bon HX2.out hb22)
          have HB22 := Lib.hid hb22
          obtain ⟨r0, r1, r2, r3, _, _, _, _⟩ := (HM1.out.now hb22).cells
          clear q0 q1 q2 q3 hf22 hb22
          go_wp2_with fail
          refine (HRT.out _ HB22.out).mono ?_
          rintro e w23 ⟨rfl, hb23⟩
          rw [HYS.out.1]
          have HX4 := Lib.hid (bon HX3.out hb23)
          have HSM := Lib.hid (same_t (HF22.out.now hb23) (HRW.out w23 HX4.out) rfl)
          clear r0 r1 r2 r3 hb23
          go_wp2_with fail
          refine HSM.out.mono ?_
          rintro e w24 ⟨rfl, rfl⟩
          go_wp2_with fail
          refine (awake9_c _).mono ?_
          rintro e w99 ⟨rfl, hb99⟩
          go_wp2_with fail
          go_ret
          exact ⟨rfl, bon (bon HT.out.below HX4.out) hb99⟩
      | true =>
        have HBL := Lib.hid (show bytesL e0 = formE e0 by unfold bytesL; rw [hra]; rfl)
        have HE : errE true = 0 := rfl
        rw [HE]
        simp only [hra] at HRA
        have HRN := Lib.hid hra
        clear hra HE
        go_upto_region 5 with (fail)
        refine wp_region_noPanic ?_
        refine wp_region_held_drew (S := fun w' => Below w5.heap.size w5 w' ∧ w'.cell? ⟨w.heap.size, 0, none⟩ = some (.slice A0 n0 c0) ∧ w'.cell? ⟨w.heap.size, 1, none⟩ = some (.int .u64 (e0.a : Int)) ∧ w'.cell? ⟨w.heap.size, 2, none⟩ = some (.int .u64 (e0.b : Int)) ∧ w'.cell? ⟨w.heap.size, 3, none⟩ = some (.int .u64 (e0.c : Int)) ∧ w'.cell? ⟨w.heap.size + 1, 0, none⟩ = some (.slice A1 n1 c1) ∧ w'.cell? ⟨w.heap.size + 1, 1, none⟩ = some (.int .u64 (e1.a : Int)) ∧ w'.cell? ⟨w.heap.size + 1, 2, none⟩ = some (.int .u64 (e1.b : Int)) ∧ w'.cell? ⟨w.heap.size + 1, 3, none⟩ = some (.int .u64 (e1.c : Int))) (by kernel_rfl) (HSK.out _ hst) (fun hHeld => ?_)
        refine wpAnyH_take (i := 0) (oi := { dst := some 38, op := Op.move (Operand.tmp 8), type := 32, pos := "outright.go:19", after := #[], guard := none }) (v := ?v61) rfl (by kernel_rfl) (by kernel_rfl) (by kernel_rfl) (fun _ _ _ h => h) (Or.inl ⟨by rfl, ?hy61⟩) (by assumption) ?rest61
        case hy61 => (intro w hSw; (try dsimp only at hSw); go_simp; try with_reducible rfl)
        try simp only [Act.put, List.setIfInBounds_toArray, List.set_cons_zero, List.set_cons_succ]
        refine wpAnyH_take (i := 1) (oi := { dst := some 39, op := Op.binOp BinOp.eql 32 (Operand.tmp 38) (Operand.const (Value.int IntKind.i64 0)) 32, type := 4, pos := "outright.go:19", after := #[{ on := 0, ground := Ground.data }], guard := none }) (v := ?v62) rfl (by kernel_rfl) (by kernel_rfl) (by kernel_rfl) (fun _ _ _ h => h) (Or.inl ⟨by rfl, ?hy62⟩) (by assumption) ?rest62
        case hy62 => (intro w hSw; (try dsimp only at hSw); go_simp; try with_reducible rfl)
        try simp only [Act.put, List.setIfInBounds_toArray, List.set_cons_zero, List.set_cons_succ]
        refine wpAnyH_take (i := 2) (oi := { dst := some 40, op := Op.load 25 (Operand.tmp 3), type := 25, pos := "outright.go:19", after := #[], guard := none }) (v := ?v63) rfl (by kernel_rfl) (by kernel_rfl) (by kernel_rfl) (fun _ _ _ h => h) (Or.inl ⟨by rfl, ?hy63⟩) (by assumption) ?rest63
        case hy63 => (intro w hSw; (try dsimp only at hSw); go_simp; try with_reducible rfl)
        try simp only [Act.put, List.setIfInBounds_toArray, List.set_cons_zero, List.set_cons_succ]
        refine wpAnyH_ready (rs := [3]) (by kernel_rfl) (by simp) ?_
        refine AllReadyH.cons (o := { dst := some 41, op := Op.call { callee := Callee.value (Operand.func 17), args := #[Operand.tmp 40], argTypes := #[25] }, type := 4, pos := "outright.go:19", after := #[{ on := 2, ground := Ground.data }], guard := none }) rfl (fun K hK => ?_) AllReadyH.nil
        go_simp
        refine (HRA.out _ (bon HX5a.out hHeld.1)).mono ?_
        rintro e wk ⟨rfl, hb⟩
        replace hHeld := HSK.out _ (bon hHeld.1 hb)
        clear hb
        go_wp2_with fail
        refine hK.out _ _ hHeld (fun hHeld' => ?_)
        clear hK K
        try simp only [Act.put, List.setIfInBounds_toArray, List.set_cons_zero, List.set_cons_succ]
        refine wpAnyH_take (i := 4) (oi := { dst := some 42, op := Op.binOp BinOp.neq 4 (Operand.tmp 39) (Operand.tmp 41) 4, type := 4, pos := "outright.go:19", after := #[{ on := 1, ground := Ground.data }, { on := 3, ground := Ground.data }], guard := none }) (v := ?v64) rfl (by kernel_rfl) (by kernel_rfl) (by kernel_rfl) (fun _ _ _ h => h) (Or.inl ⟨by rfl, ?hy64⟩) (by assumption) ?rest64
        case hy64 => (intro w hSw; (try dsimp only at hSw); go_simp; try with_reducible rfl)
        try simp only [Act.put, List.setIfInBounds_toArray, List.set_cons_zero, List.set_cons_succ]
        refine wpAnyH_take (i := 5) (oi := { dst := some 43, op := Op.move (Operand.tmp 42), type := 4, pos := "outright.go:19", after := #[{ on := 4, ground := Ground.data }, { on := 3, ground := Ground.chain }], guard := none }) (v := ?v65) rfl (by kernel_rfl) (by kernel_rfl) (by kernel_rfl) (fun _ _ _ h => h) (Or.inl ⟨by rfl, ?hy65⟩) (by assumption) ?rest65
        case hy65 => (intro w hSw; (try dsimp only at hSw); go_simp; try with_reducible rfl)
        try simp only [Act.put, List.setIfInBounds_toArray, List.set_cons_zero, List.set_cons_succ]
        refine wpAnyH_take (i := 6) (oi := { dst := some 44, op := Op.move (Operand.tmp 8), type := 32, pos := "outright.go:19", after := #[{ on := 5, ground := Ground.guard }], guard := some (5, false) }) (v := ?v66) rfl (by kernel_rfl) (by kernel_rfl) (by kernel_rfl) (fun _ _ _ h => h) (Or.inl ⟨by rfl, ?hy66⟩) (by assumption) ?rest66
        case hy66 => (intro w hSw; (try dsimp only at hSw); go_simp; try with_reducible rfl)
        try simp only [Act.put, List.setIfInBounds_toArray, List.set_cons_zero, List.set_cons_succ]
        refine wpAnyH_take (i := 7) (oi := { dst := some 45, op := Op.binOp BinOp.neq 32 (Operand.tmp 44) (Operand.const (Value.int IntKind.i64 0)) 32, type := 4, pos := "outright.go:19", after := #[{ on := 6, ground := Ground.data }, { on := 5, ground := Ground.guard }], guard := some (5, false) }) (v := ?v67) rfl (by kernel_rfl) (by kernel_rfl) (by kernel_rfl) (fun _ _ _ h => h) (Or.inl ⟨by rfl, ?hy67⟩) (by assumption) ?rest67
        case hy67 => (intro w hSw; (try dsimp only at hSw); go_simp; try with_reducible rfl)
        try simp only [Act.put, List.setIfInBounds_toArray, List.set_cons_zero, List.set_cons_succ]
        refine wpAnyH_take (i := 8) (oi := { dst := some 46, op := Op.move (Operand.tmp 45), type := 4, pos := "outright.go:19", after := #[{ on := 7, ground := Ground.data }, { on := 5, ground := Ground.chain }, { on := 5, ground := Ground.guard }], guard := some (5, false) }) (v := ?v68) rfl (by kernel_rfl) (by kernel_rfl) (by kernel_rfl) (fun _ _ _ h => h) (Or.inl ⟨by rfl, ?hy68⟩) (by assumption) ?rest68
        case hy68 => (intro w hSw; (try dsimp only at hSw); go_simp; try with_reducible rfl)
        try simp only [Act.put, List.setIfInBounds_toArray, List.set_cons_zero, List.set_cons_succ]
        refine wpAnyH_take (i := 9) (oi := { dst := some 47, op := Op.move (Operand.tmp 8), type := 32, pos := "outright.go:19", after := #[{ on := 8, ground := Ground.guard }], guard := some (8, true) }) (v := undef) rfl (by kernel_rfl) (by kernel_rfl) (by kernel_rfl) (fun _ _ _ h => h) (Or.inr ⟨by rfl, rfl⟩) (by assumption) ?_
        try simp only [Act.put, List.setIfInBounds_toArray, List.set_cons_zero, List.set_cons_succ]
        refine wpAnyH_take (i := 10) (oi := { dst := some 48, op := Op.binOp BinOp.neq 32 (Operand.tmp 47) (Operand.const (Value.int IntKind.i64 90)) 32, type := 4, pos := "outright.go:19", after := #[{ on := 9, ground := Ground.data }, { on := 8, ground := Ground.guard }], guard := some (8, true) }) (v := undef) rfl (by kernel_rfl) (by kernel_rfl) (by kernel_rfl) (fun _ _ _ h => h) (Or.inr ⟨by rfl, rfl⟩) (by assumption) ?_
        try simp only [Act.put, List.setIfInBounds_toArray, List.set_cons_zero, List.set_cons_succ]
        refine wpAnyH_take (i := 11) (oi := { dst := some 49, op := Op.move (Operand.tmp 48), type := 4, pos := "outright.go:19", after := #[{ on := 10, ground := Ground.data }, { on := 8, ground := Ground.chain }, { on := 8, ground := Ground.guard }], guard := some (8, true) }) (v := undef) rfl (by kernel_rfl) (by kernel_rfl) (by kernel_rfl) (fun _ _ _ h => h) (Or.inr ⟨by rfl, rfl⟩) (by assumption) ?_
        try simp only [Act.put, List.setIfInBounds_toArray, List.set_cons_zero, List.set_cons_succ]
        refine wpAnyH_take (i := 12) (oi := { dst := some 50, op := Op.move (Operand.tmp 7), type := 26, pos := "outright.go:19", after := #[{ on := 11, ground := Ground.guard }], guard := some (11, false) }) (v := undef) rfl (by kernel_rfl) (by kernel_rfl) (by kernel_rfl) (fun _ _ _ h => h) (Or.inr ⟨by rfl, rfl⟩) (by assumption) ?_
        try simp only [Act.put, List.setIfInBounds_toArray, List.set_cons_zero, List.set_cons_succ]
        refine wpAnyH_take (i := 13) (oi := { dst := some 51, op := Op.call { callee := Callee.builtin Builtin.len, args := #[Operand.tmp 50], argTypes := #[26] }, type := 3, pos := "outright.go:19", after := #[{ on := 12, ground := Ground.data }, { on := 11, ground := Ground.guard }], guard := some (11, false) }) (v := undef) rfl (by kernel_rfl) (by kernel_rfl) (by kernel_rfl) (fun _ _ _ h => h) (Or.inr ⟨by rfl, rfl⟩) (by assumption) ?_
        try simp only [Act.put, List.setIfInBounds_toArray, List.set_cons_zero, List.set_cons_succ]
        refine wpAnyH_take (i := 14) (oi := { dst := some 52, op := Op.binOp BinOp.neq 3 (Operand.tmp 51) (Operand.const (Value.int IntKind.i64 0)) 3, type := 4, pos := "outright.go:19", after := #[{ on := 13, ground := Ground.data }, { on := 11, ground := Ground.guard }], guard := some (11, false) }) (v := undef) rfl (by kernel_rfl) (by kernel_rfl) (by kernel_rfl) (fun _ _ _ h => h) (Or.inr ⟨by rfl, rfl⟩) (by assumption) ?_
        try simp only [Act.put, List.setIfInBounds_toArray, List.set_cons_zero, List.set_cons_succ]
        refine wpAnyH_take (i := 15) (oi := { dst := some 53, op := Op.pick (Operand.tmp 49) (Operand.const (Value.bool true)) (Operand.tmp 52), type := 4, pos := "outright.go:19", after := #[{ on := 11, ground := Ground.data }, { on := 14, ground := Ground.data }, { on := 8, ground := Ground.guard }], guard := some (8, true) }) (v := undef) rfl (by kernel_rfl) (by kernel_rfl) (by kernel_rfl) (fun _ _ _ h => h) (Or.inr ⟨by rfl, rfl⟩) (by assumption) ?_
        try simp only [Act.put, List.setIfInBounds_toArray, List.set_cons_zero, List.set_cons_succ]
        refine wpAnyH_take (i := 16) (oi := { dst := some 54, op := Op.pick (Operand.tmp 46) (Operand.tmp 53) (Operand.const (Value.bool false)), type := 4, pos := "outright.go:19", after := #[{ on := 8, ground := Ground.data }, { on := 15, ground := Ground.data }, { on := 5, ground := Ground.guard }], guard := some (5, false) }) (v := ?v69) rfl (by kernel_rfl) (by kernel_rfl) (by kernel_rfl) (fun _ _ _ h => h) (Or.inl ⟨by rfl, ?hy69⟩) (by assumption) ?rest69
        case hy69 => (intro w hSw; (try dsimp only at hSw); go_simp; try with_reducible rfl)
        try simp only [Act.put, List.setIfInBounds_toArray, List.set_cons_zero, List.set_cons_succ]
        refine wpAnyH_take (i := 17) (oi := { dst := some 55, op := Op.pick (Operand.tmp 43) (Operand.const (Value.bool true)) (Operand.tmp 54), type := 4, pos := "outright.go:19", after := #[{ on := 5, ground := Ground.data }, { on := 16, ground := Ground.data }], guard := none }) (v := ?v70) rfl (by kernel_rfl) (by kernel_rfl) (by kernel_rfl) (fun _ _ _ h => h) (Or.inl ⟨by rfl, ?hy70⟩) (by assumption) ?rest70
        case hy70 => (intro w hSw; (try dsimp only at hSw); go_simp; try with_reducible rfl)
        try simp only [Act.put, List.setIfInBounds_toArray, List.set_cons_zero, List.set_cons_succ]
        refine wpAnyH_take (i := 18) (oi := { dst := some 56, op := Op.move (Operand.tmp 55), type := 4, pos := "outright.go:19", after := #[{ on := 17, ground := Ground.data }, { on := 11, ground := Ground.chain }], guard := none }) (v := ?v71) rfl (by kernel_rfl) (by kernel_rfl) (by kernel_rfl) (fun _ _ _ h => h) (Or.inl ⟨by rfl, ?hy71⟩) (by assumption) ?rest71
        case hy71 => (intro w hSw; (try dsimp only at hSw); go_simp; try with_reducible rfl)
        try simp only [Act.put, List.setIfInBounds_toArray, List.set_cons_zero, List.set_cons_succ]
        refine wpAnyH_take (i := 19) (oi := { dst := some 57, op := Op.load 25 (Operand.tmp 3), type := 25, pos := "outright.go:19", after := #[{ on := 18, ground := Ground.guard }], guard := some (18, false) }) (v := ?v72) rfl (by kernel_rfl) (by kernel_rfl) (by kernel_rfl) (fun _ _ _ h => h) (Or.inl ⟨by rfl, ?hy72⟩) (by assumption) ?rest72
        case hy72 => (intro w hSw; (try dsimp only at hSw); go_simp; try with_reducible rfl)
        try simp only [Act.put, List.setIfInBounds_toArray, List.set_cons_zero, List.set_cons_succ]
        refine wpAnyH_take (i := 20) (oi := { dst := some 58, op := Op.load 25 (Operand.tmp 3), type := 25, pos := "outright.go:19", after := #[{ on := 18, ground := Ground.guard }], guard := some (18, false) }) (v := ?v73) rfl (by kernel_rfl) (by kernel_rfl) (by kernel_rfl) (fun _ _ _ h => h) (Or.inl ⟨by rfl, ?hy73⟩) (by assumption) ?rest73
        case hy73 => (intro w hSw; (try dsimp only at hSw); go_simp; try with_reducible rfl)
        try simp only [Act.put, List.setIfInBounds_toArray, List.set_cons_zero, List.set_cons_succ]
        refine wpAnyH_ready (rs := [21]) (by kernel_rfl) (by simp) ?_
        refine AllReadyH.cons (o := { dst := some 59, op := Op.call { callee := Callee.value (Operand.func 19), args := #[Operand.tmp 57, Operand.tmp 58], argTypes := #[25, 25] }, type := 4, pos := "outright.go:19", after := #[{ on := 19, ground := Ground.data }, { on := 20, ground := Ground.data }, { on := 18, ground := Ground.chain }, { on := 18, ground := Ground.guard }], guard := some (18, false) }) rfl (fun K hK => ?_) AllReadyH.nil
        go_simp
        refine (HS00.out _ (bon HX5a.out hHeld.1)).mono ?_
        rintro e wk ⟨rfl, hb⟩
        replace hHeld := HSK.out _ (bon hHeld.1 hb)
        clear hb
        go_wp2_with fail
        refine hK.out _ _ hHeld (fun hHeld' => ?_)
        clear hK K
        try simp only [Act.put, List.setIfInBounds_toArray, List.set_cons_zero, List.set_cons_succ]
        refine wpAnyH_take (i := 22) (oi := { dst := some 60, op := Op.unOp UnOp.not 4 (Operand.tmp 59), type := 4, pos := "outright.go:19", after := #[{ on := 21, ground := Ground.data }, { on := 18, ground := Ground.guard }], guard := some (18, false) }) (v := ?v74) rfl (by kernel_rfl) (by kernel_rfl) (by kernel_rfl) (fun _ _ _ h => h) (Or.inl ⟨by rfl, ?hy74⟩) (by assumption) ?rest74
        case hy74 => (intro w hSw; (try dsimp only at hSw); go_simp; try with_reducible rfl)
        try simp only [Act.put, List.setIfInBounds_toArray, List.set_cons_zero, List.set_cons_succ]
        refine wpAnyH_take (i := 23) (oi := { dst := some 61, op := Op.pick (Operand.tmp 56) (Operand.const (Value.bool true)) (Operand.tmp 60), type := 4, pos := "outright.go:19", after := #[{ on := 18, ground := Ground.data }, { on := 22, ground := Ground.data }], guard := none }) (v := ?v75) rfl (by kernel_rfl) (by kernel_rfl) (by kernel_rfl) (fun _ _ _ h => h) (Or.inl ⟨by rfl, ?hy75⟩) (by assumption) ?rest75
        case hy75 => (intro w hSw; (try dsimp only at hSw); go_simp; try with_reducible rfl)
        try simp only [Act.put, List.setIfInBounds_toArray, List.set_cons_zero, List.set_cons_succ]
        refine wpAnyH_take (i := 24) (oi := { dst := some 62, op := Op.move (Operand.tmp 61), type := 4, pos := "outright.go:19", after := #[{ on := 23, ground := Ground.data }, { on := 21, ground := Ground.chain }], guard := none }) (v := ?v76) rfl (by kernel_rfl) (by kernel_rfl) (by kernel_rfl) (fun _ _ _ h => h) (Or.inl ⟨by rfl, ?hy76⟩) (by assumption) ?rest76
        case hy76 => (intro w hSw; (try dsimp only at hSw); go_simp; try with_reducible rfl)
        try simp only [Act.put, List.setIfInBounds_toArray, List.set_cons_zero, List.set_cons_succ]
        refine wpAnyH_take (i := 25) (oi := { dst := some 63, op := Op.load 25 (Operand.tmp 3), type := 25, pos := "outright.go:19", after := #[{ on := 24, ground := Ground.guard }], guard := some (24, false) }) (v := ?v77) rfl (by kernel_rfl) (by kernel_rfl) (by kernel_rfl) (fun _ _ _ h => h) (Or.inl ⟨by rfl, ?hy77⟩) (by assumption) ?rest77
        case hy77 => (intro w hSw; (try dsimp only at hSw); go_simp; try with_reducible rfl)
        try simp only [Act.put, List.setIfInBounds_toArray, List.set_cons_zero, List.set_cons_succ]
        refine wpAnyH_take (i := 26) (oi := { dst := some 64, op := Op.load 25 (Operand.tmp 4), type := 25, pos := "outright.go:19", after := #[{ on := 24, ground := Ground.guard }], guard := some (24, false) }) (v := ?v78) rfl (by kernel_rfl) (by kernel_rfl) (by kernel_rfl) (fun _ _ _ h => h) (Or.inl ⟨by rfl, ?hy78⟩) (by assumption) ?rest78
        case hy78 => (intro w hSw; (try dsimp only at hSw); go_simp; try with_reducible rfl)
        try simp only [Act.put, List.setIfInBounds_toArray, List.set_cons_zero, List.set_cons_succ]
        refine wpAnyH_take (i := 28) (oi := { dst := some 66, op := Op.load 25 (Operand.tmp 4), type := 25, pos := "outright.go:19", after := #[{ on := 24, ground := Ground.guard }], guard := some (24, false) }) (v := ?v79) rfl (by kernel_rfl) (by kernel_rfl) (by kernel_rfl) (fun _ _ _ h => h) (Or.inl ⟨by rfl, ?hy79⟩) (by assumption) ?rest79
        case hy79 => (intro w hSw; (try dsimp only at hSw); go_simp; try with_reducible rfl)
        try simp only [Act.put, List.setIfInBounds_toArray, List.set_cons_zero, List.set_cons_succ]
        refine wpAnyH_take (i := 29) (oi := { dst := some 67, op := Op.load 25 (Operand.tmp 3), type := 25, pos := "outright.go:19", after := #[{ on := 24, ground := Ground.guard }], guard := some (24, false) }) (v := ?v80) rfl (by kernel_rfl) (by kernel_rfl) (by kernel_rfl) (fun _ _ _ h => h) (Or.inl ⟨by rfl, ?hy80⟩) (by assumption) ?rest80
        case hy80 => (intro w hSw; (try dsimp only at hSw); go_simp; try with_reducible rfl)
        try simp only [Act.put, List.setIfInBounds_toArray, List.set_cons_zero, List.set_cons_succ]
        refine wpAnyH_ready (rs := [27]) (by kernel_rfl) (by simp) ?_
        refine AllReadyH.cons (o := { dst := some 65, op := Op.call { callee := Callee.value (Operand.func 19), args := #[Operand.tmp 63, Operand.tmp 64], argTypes := #[25, 25] }, type := 4, pos := "outright.go:19", after := #[{ on := 25, ground := Ground.data }, { on := 26, ground := Ground.data }, { on := 24, ground := Ground.chain }, { on := 24, ground := Ground.guard }], guard := some (24, false) }) rfl (fun K hK => ?_) AllReadyH.nil
        go_simp
        refine (HS01.out _ (bon HX5a.out hHeld.1)).mono ?_
        rintro e wk ⟨rfl, hb⟩
        replace hHeld := HSK.out _ (bon hHeld.1 hb)
        clear hb
        go_wp2_with fail
        refine hK.out _ _ hHeld (fun hHeld' => ?_)
        clear hK K
        try simp only [Act.put, List.setIfInBounds_toArray, List.set_cons_zero, List.set_cons_succ]
        refine wpAnyH_ready (rs := [30]) (by kernel_rfl) (by simp) ?_
        refine AllReadyH.cons (o := { dst := some 68, op := Op.call { callee := Callee.value (Operand.func 19), args := #[Operand.tmp 66, Operand.tmp 67], argTypes := #[25, 25] }, type := 4, pos := "outright.go:19", after := #[{ on := 28, ground := Ground.data }, { on := 29, ground := Ground.data }, { on := 27, ground := Ground.chain }, { on := 24, ground := Ground.guard }], guard := some (24, false) }) rfl (fun K hK => ?_) AllReadyH.nil
        go_simp
        refine (HS10.out _ (bon HX5a.out hHeld.1)).mono ?_
        rintro e wk ⟨rfl, hb⟩
        replace hHeld := HSK.out _ (bon hHeld.1 hb)
        clear hb
        go_wp2_with fail
        refine hK.out _ _ hHeld (fun hHeld' => ?_)
        clear hK K
        try simp only [Act.put, List.setIfInBounds_toArray, List.set_cons_zero, List.set_cons_succ]
        refine wpAnyH_take (i := 31) (oi := { dst := some 69, op := Op.binOp BinOp.neq 4 (Operand.tmp 65) (Operand.tmp 68) 4, type := 4, pos := "outright.go:19", after := #[{ on := 27, ground := Ground.data }, { on := 30, ground := Ground.data }, { on := 24, ground := Ground.guard }], guard := some (24, false) }) (v := ?v81) rfl (by kernel_rfl) (by kernel_rfl) (by kernel_rfl) (fun _ _ _ h => h) (Or.inl ⟨by rfl, ?hy81⟩) (by assumption) ?rest81
        case hy81 => (intro w hSw; (try dsimp only at hSw); go_simp; try with_reducible rfl)
        try simp only [Act.put, List.setIfInBounds_toArray, List.set_cons_zero, List.set_cons_succ]
        refine wpAnyH_take (i := 32) (oi := { dst := some 70, op := Op.pick (Operand.tmp 62) (Operand.const (Value.bool true)) (Operand.tmp 69), type := 4, pos := "outright.go:19", after := #[{ on := 24, ground := Ground.data }, { on := 31, ground := Ground.data }], guard := none }) (v := ?v82) rfl (by kernel_rfl) (by kernel_rfl) (by kernel_rfl) (fun _ _ _ h => h) (Or.inl ⟨by rfl, ?hy82⟩) (by assumption) ?rest82
        case hy82 => (intro w hSw; (try dsimp only at hSw); go_simp; try with_reducible rfl)
        try simp only [Act.put, List.setIfInBounds_toArray, List.set_cons_zero, List.set_cons_succ]
        refine wpAnyH_done (by kernel_rfl) ?_ _
        refine NoPanic.normal ?_
        have HX6 := Lib.hid (bon HX5a.out hHeld.1)
        have HFX := Lib.hid (HF4b.out.now hHeld.1)
        have HFY := Lib.hid (HF5.out.now hHeld.1)
        rw [HBL.out] at HFX
        have hx4 : n4 ≤ 100000 := by
          have h1 := rd_n HFX.out
          have h2 := saidsL_len (notesB_sizes (rightE_notes HRN.out)).1 (O0.out.ok HRN.out).L 4
          rw [h1]; unfold formE; rw [List.length_cons]; omega
        have HPA := Lib.hid (parse_c HFX.out (Nat.le_refl _) (by omega))
        have HPS := Lib.hid (show parseE (formE e0) = some e0 from parseE_iff.2 ⟨HRN.out, rfl, O0.out.ok HRN.out⟩)
        have HPV := Lib.hid (show prsV (formE e0) = e0 ∧ prsK (formE e0) = true by unfold prsV prsK; rw [HPS.out]; exact ⟨rfl, rfl⟩)
        clear hHeld hx4
        go_wp2_with fail
        refine HPA.out.mono ?_
        rintro e w6 ⟨A6, n6, c6, rfl, hf6, hb6⟩
        rw [HPV.out.1] at hf6
        rw [HPV.out.1, HPV.out.2]
        obtain ⟨w7, hw7⟩ : ∃ w7, w7 = w6.alloc (.cells #[.slice A6 n6 c6, .int .u64 (e0.a : Int), .int .u64 (e0.b : Int), .int .u64 (e0.c : Int)] 25) := ⟨_, rfl⟩
        have HM7 := Lib.hid (show B4 w7 w6.heap.size 25 (.slice A6 n6 c6) (.int .u64 (e0.a : Int)) (.int .u64 (e0.b : Int)) (.int .u64 (e0.c : Int)) by rw [hw7]; exact B4.new _ _ _ _ _ _ rfl)
        have HX7 := Lib.hid (show Below w2.heap.size w2 w7 by rw [hw7]; exact blit (bon HX6.out hb6) _)
        have hfr7 : RdM w7 w7.heap.size A6 n6 c6 e0.L := by rw [hw7]; exact (hf6.alloc _).rd (Nat.le_refl _)
        have hlen7 := hf6.len
        have HFX7 := Lib.hid ((HFX.out.now hb6).now (show Below w6.heap.size w6 w7 by rw [hw7]; exact below_alloc _ _))
        have HFY7 := Lib.hid ((HFY.out.now hb6).now (show Below w6.heap.size w6 w7 by rw [hw7]; exact below_alloc _ _))
        have HSMA := Lib.hid (fun W (hW : Below w7.heap.size w7 W) => same_e (e := e0) (f := e0) (hfr7.below hW (Nat.le_refl _)) ((HR0.out W (bon HX7.out hW)).more (Nat.le_trans HT.out.below.size HX7.out.size)) hW.size (by have := HL0.out; have := HNN.out; omega))
        simp only [(sameE_eq e0 e0).2 rfl] at HSMA
        have HSXY := Lib.hid (fun W (hW : Below w7.heap.size w7 W) => same_c (HFX7.out.now hW) (HFY7.out.now hW))
        have hst7 : Below w7.heap.size w7 w7.drew := below_drewN (Below.refl _ _) 1
        have HSK7 := Lib.hid (fun (W : World) (hW : Below w7.heap.size w7 W) => show Below w7.heap.size w7 W ∧ W.cell? ⟨w.heap.size, 0, none⟩ = some (.slice A0 n0 c0) ∧ W.cell? ⟨w.heap.size, 1, none⟩ = some (.int .u64 (e0.a : Int)) ∧ W.cell? ⟨w.heap.size, 2, none⟩ = some (.int .u64 (e0.b : Int)) ∧ W.cell? ⟨w.heap.size, 3, none⟩ = some (.int .u64 (e0.c : Int)) ∧ W.cell? ⟨w.heap.size + 1, 0, none⟩ = some (.slice A1 n1 c1) ∧ W.cell? ⟨w.heap.size + 1, 1, none⟩ = some (.int .u64 (e1.a : Int)) ∧ W.cell? ⟨w.heap.size + 1, 2, none⟩ = some (.int .u64 (e1.b : Int)) ∧ W.cell? ⟨w.heap.size + 1, 3, none⟩ = some (.int .u64 (e1.c : Int)) ∧ W.cell? ⟨w6.heap.size, 0, none⟩ = some (.slice A6 n6 c6) ∧ W.cell? ⟨w6.heap.size, 1, none⟩ = some (.int .u64 (e0.a : Int)) ∧ W.cell? ⟨w6.heap.size, 2, none⟩ = some (.int .u64 (e0.b : Int)) ∧ W.cell? ⟨w6.heap.size, 3, none⟩ = some (.int .u64 (e0.c : Int)) by
          obtain ⟨g0, g1, g2, g3, _, _, _, _⟩ := (HT.out.now (bon HX7.out hW)).b1.cells
          obtain ⟨k0, k1, k2, k3, _, _, _, _⟩ := (HT.out.now (bon HX7.out hW)).b2.cells
          obtain ⟨j0, j1, j2, j3, _, _, _, _⟩ := (HM7.out.now hW).cells
          exact ⟨hW, g0, g1, g2, g3, k0, k1, k2, k3, j0, j1, j2, j3⟩)
        have HSK := HSK7
        clear hf6 hb6 hfr7 hlen7
        have HE0 : errE true = 0 := rfl
        rw [HE0]
        unfold edV at HSMA
        unfold edV
        go_upto_region 9 with (fail)
        rw [← hw7]
        clear hw7 HE0
        cases hrb : rightE e1 with
        | false =>
          have HE : errE false = 90 := rfl
          rw [HE]
          clear hrb HE
          refine wp_region_noPanic ?_
          refine wp_region_held_drew (S := fun w' => Below w7.heap.size w7 w' ∧ w'.cell? ⟨w.heap.size, 0, none⟩ = some (.slice A0 n0 c0) ∧ w'.cell? ⟨w.heap.size, 1, none⟩ = some (.int .u64 (e0.a : Int)) ∧ w'.cell? ⟨w.heap.size, 2, none⟩ = some (.int .u64 (e0.b : Int)) ∧ w'.cell? ⟨w.heap.size, 3, none⟩ = some (.int .u64 (e0.c : Int)) ∧ w'.cell? ⟨w.heap.size + 1, 0, none⟩ = some (.slice A1 n1 c1) ∧ w'.cell? ⟨w.heap.size + 1, 1, none⟩ = some (.int .u64 (e1.a : Int)) ∧ w'.cell? ⟨w.heap.size + 1, 2, none⟩ = some (.int .u64 (e1.b : Int)) ∧ w'.cell? ⟨w.heap.size + 1, 3, none⟩ = some (.int .u64 (e1.c : Int)) ∧ w'.cell? ⟨w6.heap.size, 0, none⟩ = some (.slice A6 n6 c6) ∧ w'.cell? ⟨w6.heap.size, 1, none⟩ = some (.int .u64 (e0.a : Int)) ∧ w'.cell? ⟨w6.heap.size, 2, none⟩ = some (.int .u64 (e0.b : Int)) ∧ w'.cell? ⟨w6.heap.size, 3, none⟩ = some (.int .u64 (e0.c : Int))) (by kernel_rfl) (HSK.out _ hst7) (fun hHeld => ?_)
          refine wpAnyH_take (i := 0) (oi := { dst := some 78, op := Op.move (Operand.tmp 12), type := 32, pos := "outright.go:24", after := #[], guard := none }) (v := ?v1) rfl (by kernel_rfl) (by kernel_rfl) (by kernel_rfl) (fun _ _ _ h => h) (Or.inl ⟨by rfl, ?hy1⟩) (by assumption) ?rest1
          case hy1 => (intro w hSw; (try dsimp only at hSw); go_simp; try with_reducible rfl)
          try simp only [Act.put, List.setIfInBounds_toArray, List.set_cons_zero, List.set_cons_succ]
          refine wpAnyH_take (i := 1) (oi := { dst := some 79, op := Op.binOp BinOp.neq 32 (Operand.tmp 78) (Operand.const (Value.int IntKind.i64 0)) 32, type := 4, pos := "outright.go:24", after := #[{ on := 0, ground := Ground.data }], guard := none }) (v := ?v2) rfl (by kernel_rfl) (by kernel_rfl) (by kernel_rfl) (fun _ _ _ h => h) (Or.inl ⟨by rfl, ?hy2⟩) (by assumption) ?rest2
          case hy2 => (intro w hSw; (try dsimp only at hSw); go_simp; try with_reducible rfl)
          try simp only [Act.put, List.setIfInBounds_toArray, List.set_cons_zero, List.set_cons_succ]
          refine wpAnyH_take (i := 2) (oi := { dst := some 80, op := Op.move (Operand.tmp 79), type := 4, pos := "outright.go:24", after := #[{ on := 1, ground := Ground.data }], guard := none }) (v := ?v3) rfl (by kernel_rfl) (by kernel_rfl) (by kernel_rfl) (fun _ _ _ h => h) (Or.inl ⟨by rfl, ?hy3⟩) (by assumption) ?rest3
          case hy3 => (intro w hSw; (try dsimp only at hSw); go_simp; try with_reducible rfl)
          try simp only [Act.put, List.setIfInBounds_toArray, List.set_cons_zero, List.set_cons_succ]
          refine wpAnyH_take (i := 3) (oi := { dst := some 81, op := Op.load 25 (Operand.tmp 11), type := 25, pos := "outright.go:24", after := #[{ on := 2, ground := Ground.guard }], guard := some (2, false) }) (v := ?v4) rfl (by kernel_rfl) (by kernel_rfl) (by kernel_rfl) (fun _ _ _ h => h) (Or.inl ⟨by rfl, ?hy4⟩) (by assumption) ?rest4
          case hy4 => (intro w hSw; (try dsimp only at hSw); go_simp; try with_reducible rfl)
          try simp only [Act.put, List.setIfInBounds_toArray, List.set_cons_zero, List.set_cons_succ]
          refine wpAnyH_take (i := 4) (oi := { dst := some 82, op := Op.load 25 (Operand.tmp 3), type := 25, pos := "outright.go:24", after := #[{ on := 2, ground := Ground.guard }], guard := some (2, false) }) (v := ?v5) rfl (by kernel_rfl) (by kernel_rfl) (by kernel_rfl) (fun _ _ _ h => h) (Or.inl ⟨by rfl, ?hy5⟩) (by assumption) ?rest5
          case hy5 => (intro w hSw; (try dsimp only at hSw); go_simp; try with_reducible rfl)
          try simp only [Act.put, List.setIfInBounds_toArray, List.set_cons_zero, List.set_cons_succ]
          refine wpAnyH_ready (rs := [5]) (by kernel_rfl) (by simp) ?_
          refine AllReadyH.cons (o := { dst := some 83, op := Op.call { callee := Callee.value (Operand.func 19), args := #[Operand.tmp 81, Operand.tmp 82], argTypes := #[25, 25] }, type := 4, pos := "outright.go:24", after := #[{ on := 3, ground := Ground.data }, { on := 4, ground := Ground.data }, { on := 2, ground := Ground.chain }, { on := 2, ground := Ground.guard }], guard := some (2, false) }) rfl (fun K hK => ?_) AllReadyH.nil
          go_simp
          refine (HSMA.out _ hHeld.1).mono ?_
          rintro e wk ⟨rfl, hb⟩
          replace hHeld := HSK.out _ (bon hHeld.1 hb)
          clear hb
          go_wp2_with fail
          refine hK.out _ _ hHeld (fun hHeld' => ?_)
          clear hK K
          try simp only [Act.put, List.setIfInBounds_toArray, List.set_cons_zero, List.set_cons_succ]
          refine wpAnyH_take (i := 6) (oi := { dst := some 84, op := Op.unOp UnOp.not 4 (Operand.tmp 83), type := 4, pos := "outright.go:24", after := #[{ on := 5, ground := Ground.data }, { on := 2, ground := Ground.guard }], guard := some (2, false) }) (v := ?v6) rfl (by kernel_rfl) (by kernel_rfl) (by kernel_rfl) (fun _ _ _ h => h) (Or.inl ⟨by rfl, ?hy6⟩) (by assumption) ?rest6
          case hy6 => (intro w hSw; (try dsimp only at hSw); go_simp; try with_reducible rfl)
          try simp only [Act.put, List.setIfInBounds_toArray, List.set_cons_zero, List.set_cons_succ]
          refine wpAnyH_take (i := 7) (oi := { dst := some 85, op := Op.pick (Operand.tmp 80) (Operand.const (Value.bool true)) (Operand.tmp 84), type := 4, pos := "outright.go:24", after := #[{ on := 2, ground := Ground.data }, { on := 6, ground := Ground.data }], guard := none }) (v := ?v7) rfl (by kernel_rfl) (by kernel_rfl) (by kernel_rfl) (fun _ _ _ h => h) (Or.inl ⟨by rfl, ?hy7⟩) (by assumption) ?rest7
          case hy7 => (intro w hSw; (try dsimp only at hSw); go_simp; try with_reducible rfl)
          try simp only [Act.put, List.setIfInBounds_toArray, List.set_cons_zero, List.set_cons_succ]
          refine wpAnyH_take (i := 8) (oi := { dst := some 86, op := Op.move (Operand.tmp 85), type := 4, pos := "outright.go:24", after := #[{ on := 7, ground := Ground.data }, { on := 5, ground := Ground.chain }], guard := none }) (v := ?v8) rfl (by kernel_rfl) (by kernel_rfl) (by kernel_rfl) (fun _ _ _ h => h) (Or.inl ⟨by rfl, ?hy8⟩) (by assumption) ?rest8
          case hy8 => (intro w hSw; (try dsimp only at hSw); go_simp; try with_reducible rfl)
          try simp only [Act.put, List.setIfInBounds_toArray, List.set_cons_zero, List.set_cons_succ]
          refine wpAnyH_take (i := 9) (oi := { dst := some 87, op := Op.move (Operand.tmp 10), type := 32, pos := "outright.go:24", after := #[{ on := 8, ground := Ground.guard }], guard := some (8, false) }) (v := ?v9) rfl (by kernel_rfl) (by kernel_rfl) (by kernel_rfl) (fun _ _ _ h => h) (Or.inl ⟨by rfl, ?hy9⟩) (by assumption) ?rest9
          case hy9 => (intro w hSw; (try dsimp only at hSw); go_simp; try with_reducible rfl)
          try simp only [Act.put, List.setIfInBounds_toArray, List.set_cons_zero, List.set_cons_succ]
          refine wpAnyH_take (i := 10) (oi := { dst := some 88, op := Op.binOp BinOp.eql 32 (Operand.tmp 87) (Operand.const (Value.int IntKind.i64 0)) 32, type := 4, pos := "outright.go:24", after := #[{ on := 9, ground := Ground.data }, { on := 8, ground := Ground.guard }], guard := some (8, false) }) (v := ?v10) rfl (by kernel_rfl) (by kernel_rfl) (by kernel_rfl) (fun _ _ _ h => h) (Or.inl ⟨by rfl, ?hy10⟩) (by assumption) ?rest10
          case hy10 => (intro w hSw; (try dsimp only at hSw); go_simp; try with_reducible rfl)
          try simp only [Act.put, List.setIfInBounds_toArray, List.set_cons_zero, List.set_cons_succ]
          refine wpAnyH_take (i := 11) (oi := { dst := some 89, op := Op.move (Operand.tmp 88), type := 4, pos := "outright.go:24", after := #[{ on := 10, ground := Ground.data }, { on := 8, ground := Ground.chain }, { on := 8, ground := Ground.guard }], guard := some (8, false) }) (v := ?v11) rfl (by kernel_rfl) (by kernel_rfl) (by kernel_rfl) (fun _ _ _ h => h) (Or.inl ⟨by rfl, ?hy11⟩) (by assumption) ?rest11
          case hy11 => (intro w hSw; (try dsimp only at hSw); go_simp; try with_reducible rfl)
          try simp only [Act.put, List.setIfInBounds_toArray, List.set_cons_zero, List.set_cons_succ]
          refine wpAnyH_take (i := 12) (oi := { dst := some 90, op := Op.move (Operand.tmp 7), type := 26, pos := "outright.go:24", after := #[{ on := 11, ground := Ground.guard }], guard := some (11, true) }) (v := undef) rfl (by kernel_rfl) (by kernel_rfl) (by kernel_rfl) (fun _ _ _ h => h) (Or.inr ⟨by rfl, rfl⟩) (by assumption) ?_
          try simp only [Act.put, List.setIfInBounds_toArray, List.set_cons_zero, List.set_cons_succ]
          refine wpAnyH_take (i := 13) (oi := { dst := some 91, op := Op.move (Operand.tmp 9), type := 26, pos := "outright.go:24", after := #[{ on := 11, ground := Ground.guard }], guard := some (11, true) }) (v := undef) rfl (by kernel_rfl) (by kernel_rfl) (by kernel_rfl) (fun _ _ _ h => h) (Or.inr ⟨by rfl, rfl⟩) (by assumption) ?_
          try simp only [Act.put, List.setIfInBounds_toArray, List.set_cons_zero, List.set_cons_succ]
          refine wpAnyH_take (i := 14) (oi := { dst := some 92, op := Op.call { callee := Callee.value (Operand.func 21), args := #[Operand.tmp 90, Operand.tmp 91], argTypes := #[26, 26] }, type := 4, pos := "outright.go:24", after := #[{ on := 12, ground := Ground.data }, { on := 13, ground := Ground.data }, { on := 11, ground := Ground.chain }, { on := 11, ground := Ground.guard }], guard := some (11, true) }) (v := undef) rfl (by kernel_rfl) (by kernel_rfl) (by kernel_rfl) (fun _ _ _ h => h) (Or.inr ⟨by rfl, rfl⟩) (by assumption) ?_
          try simp only [Act.put, List.setIfInBounds_toArray, List.set_cons_zero, List.set_cons_succ]
          refine wpAnyH_take (i := 15) (oi := { dst := some 93, op := Op.load 25 (Operand.tmp 3), type := 25, pos := "outright.go:24", after := #[{ on := 11, ground := Ground.guard }], guard := some (11, true) }) (v := undef) rfl (by kernel_rfl) (by kernel_rfl) (by kernel_rfl) (fun _ _ _ h => h) (Or.inr ⟨by rfl, rfl⟩) (by assumption) ?_
          try simp only [Act.put, List.setIfInBounds_toArray, List.set_cons_zero, List.set_cons_succ]
          refine wpAnyH_take (i := 16) (oi := { dst := some 94, op := Op.load 25 (Operand.tmp 4), type := 25, pos := "outright.go:24", after := #[{ on := 11, ground := Ground.guard }], guard := some (11, true) }) (v := undef) rfl (by kernel_rfl) (by kernel_rfl) (by kernel_rfl) (fun _ _ _ h => h) (Or.inr ⟨by rfl, rfl⟩) (by assumption) ?_
          try simp only [Act.put, List.setIfInBounds_toArray, List.set_cons_zero, List.set_cons_succ]
          refine wpAnyH_take (i := 17) (oi := { dst := some 95, op := Op.call { callee := Callee.value (Operand.func 19), args := #[Operand.tmp 93, Operand.tmp 94], argTypes := #[25, 25] }, type := 4, pos := "outright.go:24", after := #[{ on := 15, ground := Ground.data }, { on := 16, ground := Ground.data }, { on := 14, ground := Ground.chain }, { on := 11, ground := Ground.guard }], guard := some (11, true) }) (v := undef) rfl (by kernel_rfl) (by kernel_rfl) (by kernel_rfl) (fun _ _ _ h => h) (Or.inr ⟨by rfl, rfl⟩) (by assumption) ?_
          try simp only [Act.put, List.setIfInBounds_toArray, List.set_cons_zero, List.set_cons_succ]
          refine wpAnyH_take (i := 18) (oi := { dst := some 96, op := Op.binOp BinOp.neq 4 (Operand.tmp 92) (Operand.tmp 95) 4, type := 4, pos := "outright.go:24", after := #[{ on := 14, ground := Ground.data }, { on := 17, ground := Ground.data }, { on := 11, ground := Ground.guard }], guard := some (11, true) }) (v := undef) rfl (by kernel_rfl) (by kernel_rfl) (by kernel_rfl) (fun _ _ _ h => h) (Or.inr ⟨by rfl, rfl⟩) (by assumption) ?_
          try simp only [Act.put, List.setIfInBounds_toArray, List.set_cons_zero, List.set_cons_succ]
          refine wpAnyH_take (i := 19) (oi := { dst := some 97, op := Op.pick (Operand.tmp 89) (Operand.tmp 96) (Operand.const (Value.bool false)), type := 4, pos := "outright.go:24", after := #[{ on := 11, ground := Ground.data }, { on := 18, ground := Ground.data }, { on := 8, ground := Ground.guard }], guard := some (8, false) }) (v := ?v12) rfl (by kernel_rfl) (by kernel_rfl) (by kernel_rfl) (fun _ _ _ h => h) (Or.inl ⟨by rfl, ?hy12⟩) (by assumption) ?rest12
          case hy12 => (intro w hSw; (try dsimp only at hSw); go_simp; try with_reducible rfl)
          try simp only [Act.put, List.setIfInBounds_toArray, List.set_cons_zero, List.set_cons_succ]
          refine wpAnyH_take (i := 20) (oi := { dst := some 98, op := Op.pick (Operand.tmp 86) (Operand.const (Value.bool true)) (Operand.tmp 97), type := 4, pos := "outright.go:24", after := #[{ on := 8, ground := Ground.data }, { on := 19, ground := Ground.data }], guard := none }) (v := ?v13) rfl (by kernel_rfl) (by kernel_rfl) (by kernel_rfl) (fun _ _ _ h => h) (Or.inl ⟨by rfl, ?hy13⟩) (by assumption) ?rest13
          case hy13 => (intro w hSw; (try dsimp only at hSw); go_simp; try with_reducible rfl)
          try simp only [Act.put, List.setIfInBounds_toArray, List.set_cons_zero, List.set_cons_succ]
          refine wpAnyH_done (by kernel_rfl) ?_ _
          refine NoPanic.normal ?_
          have HX := Lib.hid (bon HX7.out hHeld.1)
          clear hHeld
          have HPR := Lib.hid (fun W (hW : Below w2.heap.size w2 W) => parse_c (HRW.out W hW) (Nat.le_trans (HT.out.below.size) hW.size) (by omega))
          go_wp2_with fail
          refine (HPR.out _ HX.out).mono ?_
          rintro e w20 ⟨A20, n20, c20, rfl, hf20, hb20⟩
          have hok20 : rightE (prsV lraw) = true ∨ prsK lraw = false := by
            unfold prsV prsK
            cases hp : parseE lraw with
            | none => exact .inr rfl
            | some y => exact .inl (parseE_iff.1 hp).1
          obtain ⟨m, hm⟩ : ∃ m, m = prsV lraw := ⟨_, rfl⟩
          rw [← hm] at hf20 hok20
          rw [← hm]
          have HMM := Lib.hid hm
          clear hm
          obtain ⟨w21, hw21⟩ : ∃ w21, w21 = w20.alloc (.cells #[.slice A20 n20 c20, .int .u64 (m.a : Int), .int .u64 (m.b : Int), .int .u64 (m.c : Int)] 25) := ⟨_, rfl⟩
          have HM1 := Lib.hid (show B4 w21 w20.heap.size 25 (.slice A20 n20 c20) (.int .u64 (m.a : Int)) (.int .u64 (m.b : Int)) (.int .u64 (m.c : Int)) by rw [hw21]; exact B4.new _ _ _ _ _ _ rfl)
          have HX2 := Lib.hid (show Below w2.heap.size w2 w21 by rw [hw21]; exact blit (bon HX.out hb20) _)
          have HF2 := Lib.hid (show RdM w21 w21.heap.size A20 n20 c20 m.L by rw [hw21]; exact (hf20.alloc _).rd (Nat.le_refl _))
          have HLEN := Lib.hid hf20.len
          have HOK := Lib.hid hok20
          have d0 : (errE (prsK lraw) == 0) = prsK lraw := by unfold errE; cases prsK lraw <;> rfl
          have HKK := Lib.hid (show parseE lraw = if prsK lraw = true then some m else none by
            rw [HMM.out]; unfold prsK prsV; cases parseE lraw <;> rfl)
          clear hf20 hb20 hok20
          unfold edV
          go_upto_region 12 with (fail)
          rw [← hw21]
          clear hw21
          cases hk : prsK lraw with
          | false =>
            have HE : errE false = 90 := rfl
            rw [HE]
            have HN := Lib.hid (show parseE lraw = none by rw [HKK.out, hk]; rfl)
            have HNIL := Lib.hid (show m = Ed.nil by rw [HMM.out]; unfold prsV; rw [HN.out]; rfl)
            obtain ⟨q0, q1, q2, q3, _, _, _, _⟩ := HM1.out.cells
            have HSM := Lib.hid (same_e (e := m) (f := Ed.nil) (n2 := 0) (c2 := 0) (A2 := none) HF2.out RdM.nilv (Nat.le_refl _) (by have := HLEN.out; rw [HNIL.out] at this; simp [Ed.nil] at this; omega))
            rw [show sameE m Ed.nil = true by rw [HNIL.out]; exact (sameE_eq _ _).2 rfl] at HSM
            unfold edV Ed.nil at HSM
            clear hk d0 HE
            go_wp2_with fail
            refine HSM.out.mono ?_
            rintro e w22 ⟨rfl, hb22⟩
            have HX3 := Lib.hid (bon HX2.out hb22)
            clear hb22
            go_wp2_with fail
            refine (awake9_c _).mono ?_
            rintro e w99 ⟨rfl, hb99⟩
            go_wp2_with fail
            go_ret
            exact ⟨rfl, bon (bon HT.out.below HX3.out) hb99⟩
          | true =>
            have HE : errE true = 0 := rfl
            rw [HE]
            have HYS := Lib.hid (parseE_iff.1 (show parseE lraw = some m by rw [HKK.out, hk]; rfl))
            obtain ⟨q0, q1, q2, q3, _, _, _, _⟩ := HM1.out.cells
            have hn20 : n20 ≤ 64 := by have := (notesB_sizes (rightE_notes HYS.out.1)).1; have := HLEN.out; omega
            have HBY := Lib.hid (bytes_c HF2.out (Nat.le_refl _) (by omega) HYS.out.2.2.in_)
            have HRT := Lib.hid (fun W (hW : Below w21.heap.size w21 W) => right_c (e := m) (HF2.out.below hW (Nat.le_refl _)) hW.size (by omega))
            have HBL := Lib.hid (show bytesL m = lraw by unfold bytesL; rw [if_pos HYS.out.1]; exact HYS.out.2.1)
            have HER := Lib.hid (show errE (rightE m) = 0 by rw [HYS.out.1]; rfl)
            unfold edV at HBY HRT
            clear hk d0 HE hn20
            go_wp2_with fail
            refine HBY.out.mono ?_
            rintro e w22 ⟨A22, n22, c22, rfl, hf22, hb22⟩
            rw [HBL.out] at hf22
            rw [HER.out]
            have HF22 := Lib.hid (hf22.rd (Nat.le_refl _))
            have HX3 := Lib.hid (bon HX2.out hb22)
            have HB22 := Lib.hid hb22
            obtain ⟨r0, r1, r2, r3, _, _, _, _⟩ := (HM1.out.now hb22).cells
            clear q0 q1 q2 q3 hf22 hb22
            go_wp2_with fail
            refine (HRT.out _ HB22.out).mono ?_
            rintro e w23 ⟨rfl, hb23⟩
            rw [HYS.out.1]
            have HX4 := Lib.hid (bon HX3.out hb23)
            have HSM := Lib.hid (same_t (HF22.out.now hb23) (HRW.out w23 HX4.out) rfl)
            clear r0 r1 r2 r3 hb23
            go_wp2_with fail
            refine HSM.out.mono ?_
            rintro e w24 ⟨rfl, rfl⟩
            go_wp2_with fail
            refine (awake9_c _).mono ?_
            rintro e w99 ⟨rfl, hb99⟩
            go_wp2_with fail
            go_ret
            exact ⟨rfl, bon (bon HT.out.below HX4.out) hb99⟩
        | true =>
          have HE : errE true = 0 := rfl
          rw [HE]
          have HBL1 := Lib.hid (show bytesL e1 = formE e1 by unfold bytesL; rw [hrb]; rfl)
          have HEQ := Lib.hid (show (formE e0 == formE e1) = sameE e0 e1 by
            rw [Bool.eq_iff_iff, sameE_eq]
            constructor
            · intro h
              exact formE_inj (notesB_sizes (rightE_notes HRN.out)).1 (O0.out.ok HRN.out) (notesB_sizes (rightE_notes hrb)).1 (O1.out.ok hrb) (by simpa using h)
            · rintro rfl
              simp)
          simp only [HBL1.out, HEQ.out] at HSXY
          clear hrb HE
          refine wp_region_noPanic ?_
          refine wp_region_held_drew (S := fun w' => Below w7.heap.size w7 w' ∧ w'.cell? ⟨w.heap.size, 0, none⟩ = some (.slice A0 n0 c0) ∧ w'.cell? ⟨w.heap.size, 1, none⟩ = some (.int .u64 (e0.a : Int)) ∧ w'.cell? ⟨w.heap.size, 2, none⟩ = some (.int .u64 (e0.b : Int)) ∧ w'.cell? ⟨w.heap.size, 3, none⟩ = some (.int .u64 (e0.c : Int)) ∧ w'.cell? ⟨w.heap.size + 1, 0, none⟩ = some (.slice A1 n1 c1) ∧ w'.cell? ⟨w.heap.size + 1, 1, none⟩ = some (.int .u64 (e1.a : Int)) ∧ w'.cell? ⟨w.heap.size + 1, 2, none⟩ = some (.int .u64 (e1.b : Int)) ∧ w'.cell? ⟨w.heap.size + 1, 3, none⟩ = some (.int .u64 (e1.c : Int)) ∧ w'.cell? ⟨w6.heap.size, 0, none⟩ = some (.slice A6 n6 c6) ∧ w'.cell? ⟨w6.heap.size, 1, none⟩ = some (.int .u64 (e0.a : Int)) ∧ w'.cell? ⟨w6.heap.size, 2, none⟩ = some (.int .u64 (e0.b : Int)) ∧ w'.cell? ⟨w6.heap.size, 3, none⟩ = some (.int .u64 (e0.c : Int))) (by kernel_rfl) (HSK.out _ hst7) (fun hHeld => ?_)
          refine wpAnyH_take (i := 0) (oi := { dst := some 78, op := Op.move (Operand.tmp 12), type := 32, pos := "outright.go:24", after := #[], guard := none }) (v := ?v14) rfl (by kernel_rfl) (by kernel_rfl) (by kernel_rfl) (fun _ _ _ h => h) (Or.inl ⟨by rfl, ?hy14⟩) (by assumption) ?rest14
          case hy14 => (intro w hSw; (try dsimp only at hSw); go_simp; try with_reducible rfl)
          try simp only [Act.put, List.setIfInBounds_toArray, List.set_cons_zero, List.set_cons_succ]
          refine wpAnyH_take (i := 1) (oi := { dst := some 79, op := Op.binOp BinOp.neq 32 (Operand.tmp 78) (Operand.const (Value.int IntKind.i64 0)) 32, type := 4, pos := "outright.go:24", after := #[{ on := 0, ground := Ground.data }], guard := none }) (v := ?v15) rfl (by kernel_rfl) (by kernel_rfl) (by kernel_rfl) (fun _ _ _ h => h) (Or.inl ⟨by rfl, ?hy15⟩) (by assumption) ?rest15
          case hy15 => (intro w hSw; (try dsimp only at hSw); go_simp; try with_reducible rfl)
          try simp only [Act.put, List.setIfInBounds_toArray, List.set_cons_zero, List.set_cons_succ]
          refine wpAnyH_take (i := 2) (oi := { dst := some 80, op := Op.move (Operand.tmp 79), type := 4, pos := "outright.go:24", after := #[{ on := 1, ground := Ground.data }], guard := none }) (v := ?v16) rfl (by kernel_rfl) (by kernel_rfl) (by kernel_rfl) (fun _ _ _ h => h) (Or.inl ⟨by rfl, ?hy16⟩) (by assumption) ?rest16
          case hy16 => (intro w hSw; (try dsimp only at hSw); go_simp; try with_reducible rfl)
          try simp only [Act.put, List.setIfInBounds_toArray, List.set_cons_zero, List.set_cons_succ]
          refine wpAnyH_take (i := 3) (oi := { dst := some 81, op := Op.load 25 (Operand.tmp 11), type := 25, pos := "outright.go:24", after := #[{ on := 2, ground := Ground.guard }], guard := some (2, false) }) (v := ?v17) rfl (by kernel_rfl) (by kernel_rfl) (by kernel_rfl) (fun _ _ _ h => h) (Or.inl ⟨by rfl, ?hy17⟩) (by assumption) ?rest17
          case hy17 => (intro w hSw; (try dsimp only at hSw); go_simp; try with_reducible rfl)
          try simp only [Act.put, List.setIfInBounds_toArray, List.set_cons_zero, List.set_cons_succ]
          refine wpAnyH_take (i := 4) (oi := { dst := some 82, op := Op.load 25 (Operand.tmp 3), type := 25, pos := "outright.go:24", after := #[{ on := 2, ground := Ground.guard }], guard := some (2, false) }) (v := ?v18) rfl (by kernel_rfl) (by kernel_rfl) (by kernel_rfl) (fun _ _ _ h => h) (Or.inl ⟨by rfl, ?hy18⟩) (by assumption) ?rest18
          case hy18 => (intro w hSw; (try dsimp only at hSw); go_simp; try with_reducible rfl)
          try simp only [Act.put, List.setIfInBounds_toArray, List.set_cons_zero, List.set_cons_succ]
          refine wpAnyH_ready (rs := [5]) (by kernel_rfl) (by simp) ?_
          refine AllReadyH.cons (o := { dst := some 83, op := Op.call { callee := Callee.value (Operand.func 19), args := #[Operand.tmp 81, Operand.tmp 82], argTypes := #[25, 25] }, type := 4, pos := "outright.go:24", after := #[{ on := 3, ground := Ground.data }, { on := 4, ground := Ground.data }, { on := 2, ground := Ground.chain }, { on := 2, ground := Ground.guard }], guard := some (2, false) }) rfl (fun K hK => ?_) AllReadyH.nil
          go_simp
          refine (HSMA.out _ hHeld.1).mono ?_
          rintro e wk ⟨rfl, hb⟩
          replace hHeld := HSK.out _ (bon hHeld.1 hb)
          clear hb
          go_wp2_with fail
          refine hK.out _ _ hHeld (fun hHeld' => ?_)
          clear hK K
          try simp only [Act.put, List.setIfInBounds_toArray, List.set_cons_zero, List.set_cons_succ]
          refine wpAnyH_take (i := 6) (oi := { dst := some 84, op := Op.unOp UnOp.not 4 (Operand.tmp 83), type := 4, pos := "outright.go:24", after := #[{ on := 5, ground := Ground.data }, { on := 2, ground := Ground.guard }], guard := some (2, false) }) (v := ?v19) rfl (by kernel_rfl) (by kernel_rfl) (by kernel_rfl) (fun _ _ _ h => h) (Or.inl ⟨by rfl, ?hy19⟩) (by assumption) ?rest19
          case hy19 => (intro w hSw; (try dsimp only at hSw); go_simp; try with_reducible rfl)
          try simp only [Act.put, List.setIfInBounds_toArray, List.set_cons_zero, List.set_cons_succ]
          refine wpAnyH_take (i := 7) (oi := { dst := some 85, op := Op.pick (Operand.tmp 80) (Operand.const (Value.bool true)) (Operand.tmp 84), type := 4, pos := "outright.go:24", after := #[{ on := 2, ground := Ground.data }, { on := 6, ground := Ground.data }], guard := none }) (v := ?v20) rfl (by kernel_rfl) (by kernel_rfl) (by kernel_rfl) (fun _ _ _ h => h) (Or.inl ⟨by rfl, ?hy20⟩) (by assumption) ?rest20
          case hy20 => (intro w hSw; (try dsimp only at hSw); go_simp; try with_reducible rfl)
          try simp only [Act.put, List.setIfInBounds_toArray, List.set_cons_zero, List.set_cons_succ]
          refine wpAnyH_take (i := 8) (oi := { dst := some 86, op := Op.move (Operand.tmp 85), type := 4, pos := "outright.go:24", after := #[{ on := 7, ground := Ground.data }, { on := 5, ground := Ground.chain }], guard := none }) (v := ?v21) rfl (by kernel_rfl) (by kernel_rfl) (by kernel_rfl) (fun _ _ _ h => h) (Or.inl ⟨by rfl, ?hy21⟩) (by assumption) ?rest21
          case hy21 => (intro w hSw; (try dsimp only at hSw); go_simp; try with_reducible rfl)
          try simp only [Act.put, List.setIfInBounds_toArray, List.set_cons_zero, List.set_cons_succ]
          refine wpAnyH_take (i := 9) (oi := { dst := some 87, op := Op.move (Operand.tmp 10), type := 32, pos := "outright.go:24", after := #[{ on := 8, ground := Ground.guard }], guard := some (8, false) }) (v := ?v22) rfl (by kernel_rfl) (by kernel_rfl) (by kernel_rfl) (fun _ _ _ h => h) (Or.inl ⟨by rfl, ?hy22⟩) (by assumption) ?rest22
          case hy22 => (intro w hSw; (try dsimp only at hSw); go_simp; try with_reducible rfl)
          try simp only [Act.put, List.setIfInBounds_toArray, List.set_cons_zero, List.set_cons_succ]
          refine wpAnyH_take (i := 10) (oi := { dst := some 88, op := Op.binOp BinOp.eql 32 (Operand.tmp 87) (Operand.const (Value.int IntKind.i64 0)) 32, type := 4, pos := "outright.go:24", after := #[{ on := 9, ground := Ground.data }, { on := 8, ground := Ground.guard }], guard := some (8, false) }) (v := ?v23) rfl (by kernel_rfl) (by kernel_rfl) (by kernel_rfl) (fun _ _ _ h => h) (Or.inl ⟨by rfl, ?hy23⟩) (by assumption) ?rest23
          case hy23 => (intro w hSw; (try dsimp only at hSw); go_simp; try with_reducible rfl)
          try simp only [Act.put, List.setIfInBounds_toArray, List.set_cons_zero, List.set_cons_succ]
          refine wpAnyH_take (i := 11) (oi := { dst := some 89, op := Op.move (Operand.tmp 88), type := 4, pos := "outright.go:24", after := #[{ on := 10, ground := Ground.data }, { on := 8, ground := Ground.chain }, { on := 8, ground := Ground.guard }], guard := some (8, false) }) (v := ?v24) rfl (by kernel_rfl) (by kernel_rfl) (by kernel_rfl) (fun _ _ _ h => h) (Or.inl ⟨by rfl, ?hy24⟩) (by assumption) ?rest24
          case hy24 => (intro w hSw; (try dsimp only at hSw); go_simp; try with_reducible rfl)
          try simp only [Act.put, List.setIfInBounds_toArray, List.set_cons_zero, List.set_cons_succ]
          refine wpAnyH_take (i := 12) (oi := { dst := some 90, op := Op.move (Operand.tmp 7), type := 26, pos := "outright.go:24", after := #[{ on := 11, ground := Ground.guard }], guard := some (11, true) }) (v := ?v25) rfl (by kernel_rfl) (by kernel_rfl) (by kernel_rfl) (fun _ _ _ h => h) (Or.inl ⟨by rfl, ?hy25⟩) (by assumption) ?rest25
          case hy25 => (intro w hSw; (try dsimp only at hSw); go_simp; try with_reducible rfl)
          try simp only [Act.put, List.setIfInBounds_toArray, List.set_cons_zero, List.set_cons_succ]
          refine wpAnyH_take (i := 13) (oi := { dst := some 91, op := Op.move (Operand.tmp 9), type := 26, pos := "outright.go:24", after := #[{ on := 11, ground := Ground.guard }], guard := some (11, true) }) (v := ?v26) rfl (by kernel_rfl) (by kernel_rfl) (by kernel_rfl) (fun _ _ _ h => h) (Or.inl ⟨by rfl, ?hy26⟩) (by assumption) ?rest26
          case hy26 => (intro w hSw; (try dsimp only at hSw); go_simp; try with_reducible rfl)
          try simp only [Act.put, List.setIfInBounds_toArray, List.set_cons_zero, List.set_cons_succ]
          refine wpAnyH_take (i := 15) (oi := { dst := some 93, op := Op.load 25 (Operand.tmp 3), type := 25, pos := "outright.go:24", after := #[{ on := 11, ground := Ground.guard }], guard := some (11, true) }) (v := ?v27) rfl (by kernel_rfl) (by kernel_rfl) (by kernel_rfl) (fun _ _ _ h => h) (Or.inl ⟨by rfl, ?hy27⟩) (by assumption) ?rest27
          case hy27 => (intro w hSw; (try dsimp only at hSw); go_simp; try with_reducible rfl)
          try simp only [Act.put, List.setIfInBounds_toArray, List.set_cons_zero, List.set_cons_succ]
          refine wpAnyH_take (i := 16) (oi := { dst := some 94, op := Op.load 25 (Operand.tmp 4), type := 25, pos := "outright.go:24", after := #[{ on := 11, ground := Ground.guard }], guard := some (11, true) }) (v := ?v28) rfl (by kernel_rfl) (by kernel_rfl) (by kernel_rfl) (fun _ _ _ h => h) (Or.inl ⟨by rfl, ?hy28⟩) (by assumption) ?rest28
          case hy28 => (intro w hSw; (try dsimp only at hSw); go_simp; try with_reducible rfl)
          try simp only [Act.put, List.setIfInBounds_toArray, List.set_cons_zero, List.set_cons_succ]
          refine wpAnyH_ready (rs := [14]) (by kernel_rfl) (by simp) ?_
          refine AllReadyH.cons (o := { dst := some 92, op := Op.call { callee := Callee.value (Operand.func 21), args := #[Operand.tmp 90, Operand.tmp 91], argTypes := #[26, 26] }, type := 4, pos := "outright.go:24", after := #[{ on := 12, ground := Ground.data }, { on := 13, ground := Ground.data }, { on := 11, ground := Ground.chain }, { on := 11, ground := Ground.guard }], guard := some (11, true) }) rfl (fun K hK => ?_) AllReadyH.nil
          go_simp
          refine (HSXY.out _ hHeld.1).mono ?_
          rintro e wk ⟨rfl, rfl⟩
          replace hHeld := hHeld
          go_wp2_with fail
          refine hK.out _ _ hHeld (fun hHeld' => ?_)
          clear hK K
          try simp only [Act.put, List.setIfInBounds_toArray, List.set_cons_zero, List.set_cons_succ]
          refine wpAnyH_ready (rs := [17]) (by kernel_rfl) (by simp) ?_
          refine AllReadyH.cons (o := { dst := some 95, op := Op.call { callee := Callee.value (Operand.func 19), args := #[Operand.tmp 93, Operand.tmp 94], argTypes := #[25, 25] }, type := 4, pos := "outright.go:24", after := #[{ on := 15, ground := Ground.data }, { on := 16, ground := Ground.data }, { on := 14, ground := Ground.chain }, { on := 11, ground := Ground.guard }], guard := some (11, true) }) rfl (fun K hK => ?_) AllReadyH.nil
          go_simp
          refine (HS01.out _ (bon HX7.out hHeld.1)).mono ?_
          rintro e wk ⟨rfl, hb⟩
          replace hHeld := HSK.out _ (bon hHeld.1 hb)
          clear hb
          go_wp2_with fail
          refine hK.out _ _ hHeld (fun hHeld' => ?_)
          clear hK K
          try simp only [Act.put, List.setIfInBounds_toArray, List.set_cons_zero, List.set_cons_succ]
          refine wpAnyH_take (i := 18) (oi := { dst := some 96, op := Op.binOp BinOp.neq 4 (Operand.tmp 92) (Operand.tmp 95) 4, type := 4, pos := "outright.go:24", after := #[{ on := 14, ground := Ground.data }, { on := 17, ground := Ground.data }, { on := 11, ground := Ground.guard }], guard := some (11, true) }) (v := ?v29) rfl (by kernel_rfl) (by kernel_rfl) (by kernel_rfl) (fun _ _ _ h => h) (Or.inl ⟨by rfl, ?hy29⟩) (by assumption) ?rest29
          case hy29 => (intro w hSw; (try dsimp only at hSw); go_simp; try with_reducible rfl)
          try simp only [Act.put, List.setIfInBounds_toArray, List.set_cons_zero, List.set_cons_succ]
          refine wpAnyH_take (i := 19) (oi := { dst := some 97, op := Op.pick (Operand.tmp 89) (Operand.tmp 96) (Operand.const (Value.bool false)), type := 4, pos := "outright.go:24", after := #[{ on := 11, ground := Ground.data }, { on := 18, ground := Ground.data }, { on := 8, ground := Ground.guard }], guard := some (8, false) }) (v := ?v30) rfl (by kernel_rfl) (by kernel_rfl) (by kernel_rfl) (fun _ _ _ h => h) (Or.inl ⟨by rfl, ?hy30⟩) (by assumption) ?rest30
          case hy30 => (intro w hSw; (try dsimp only at hSw); go_simp; try with_reducible rfl)
          try simp only [Act.put, List.setIfInBounds_toArray, List.set_cons_zero, List.set_cons_succ]
          refine wpAnyH_take (i := 20) (oi := { dst := some 98, op := Op.pick (Operand.tmp 86) (Operand.const (Value.bool true)) (Operand.tmp 97), type := 4, pos := "outright.go:24", after := #[{ on := 8, ground := Ground.data }, { on := 19, ground := Ground.data }], guard := none }) (v := ?v31) rfl (by kernel_rfl) (by kernel_rfl) (by kernel_rfl) (fun _ _ _ h => h) (Or.inl ⟨by rfl, ?hy31⟩) (by assumption) ?rest31
          case hy31 => (intro w hSw; (try dsimp only at hSw); go_simp; try with_reducible rfl)
          try simp only [Act.put, List.setIfInBounds_toArray, List.set_cons_zero, List.set_cons_succ]
          refine wpAnyH_done (by kernel_rfl) ?_ _
          refine NoPanic.normal ?_
          have HX := Lib.hid (bon HX7.out hHeld.1)
          clear hHeld
          have HPR := Lib.hid (fun W (hW : Below w2.heap.size w2 W) => parse_c (HRW.out W hW) (Nat.le_trans (HT.out.below.size) hW.size) (by omega))
          go_wp2_with fail
          refine (HPR.out _ HX.out).mono ?_
          rintro e w20 ⟨A20, n20, c20, rfl, hf20, hb20⟩
          have hok20 : rightE (prsV lraw) = true ∨ prsK lraw = false := by
            unfold prsV prsK
            cases hp : parseE lraw with
            | none => exact .inr rfl
            | some y => exact .inl (parseE_iff.1 hp).1
          obtain ⟨m, hm⟩ : ∃ m, m = prsV lraw := ⟨_, rfl⟩
          rw [← hm] at hf20 hok20
          rw [← hm]
          have HMM := Lib.hid hm
          clear hm
          obtain ⟨w21, hw21⟩ : ∃ w21, w21 = w20.alloc (.cells #[.slice A20 n20 c20, .int .u64 (m.a : Int), .int .u64 (m.b : Int), .int .u64 (m.c : Int)] 25) := ⟨_, rfl⟩
          have HM1 := Lib.hid (show B4 w21 w20.heap.size 25 (.slice A20 n20 c20) (.int .u64 (m.a : Int)) (.int .u64 (m.b : Int)) (.int .u64 (m.c : Int)) by rw [hw21]; exact B4.new _ _ _ _ _ _ rfl)
          have HX2 := Lib.hid (show Below w2.heap.size w2 w21 by rw [hw21]; exact blit (bon HX.out hb20) _)
          have HF2 := Lib.hid (show RdM w21 w21.heap.size A20 n20 c20 m.L by rw [hw21]; exact (hf20.alloc _).rd (Nat.le_refl _))
          have HLEN := Lib.hid hf20.len
          have HOK := Lib.hid hok20
          have d0 : (errE (prsK lraw) == 0) = prsK lraw := by unfold errE; cases prsK lraw <;> rfl
          have HKK := Lib.hid (show parseE lraw = if prsK lraw = true then some m else none by
            rw [HMM.out]; unfold prsK prsV; cases parseE lraw <;> rfl)
          clear hf20 hb20 hok20
          unfold edV
          go_upto_region 12 with (fail)
          rw [← hw21]
          clear hw21
          cases hk : prsK lraw with
          | false =>
            have HE : errE false = 90 := rfl
            rw [HE]
            have HN := Lib.hid (show parseE lraw = none by rw [HKK.out, hk]; rfl)
            have HNIL := Lib.hid (show m = Ed.nil by rw [HMM.out]; unfold prsV; rw [HN.out]; rfl)
            obtain ⟨q0, q1, q2, q3, _, _, _, _⟩ := HM1.out.cells
            have HSM := Lib.hid (same_e (e := m) (f := Ed.nil) (n2 := 0) (c2 := 0) (A2 := none) HF2.out RdM.nilv (Nat.le_refl _) (by have := HLEN.out; rw [HNIL.out] at this; simp [Ed.nil] at this; omega))
            rw [show sameE m Ed.nil = true by rw [HNIL.out]; exact (sameE_eq _ _).2 rfl] at HSM
            unfold edV Ed.nil at HSM
            clear hk d0 HE
            go_wp2_with fail
            refine HSM.out.mono ?_
            rintro e w22 ⟨rfl, hb22⟩
            have HX3 := Lib.hid (bon HX2.out hb22)
            clear hb22
            go_wp2_with fail
            refine (awake9_c _).mono ?_
            rintro e w99 ⟨rfl, hb99⟩
            go_wp2_with fail
            go_ret
            exact ⟨rfl, bon (bon HT.out.below HX3.out) hb99⟩
          | true =>
            have HE : errE true = 0 := rfl
            rw [HE]
            have HYS := Lib.hid (parseE_iff.1 (show parseE lraw = some m by rw [HKK.out, hk]; rfl))
            obtain ⟨q0, q1, q2, q3, _, _, _, _⟩ := HM1.out.cells
            have hn20 : n20 ≤ 64 := by have := (notesB_sizes (rightE_notes HYS.out.1)).1; have := HLEN.out; omega
            have HBY := Lib.hid (bytes_c HF2.out (Nat.le_refl _) (by omega) HYS.out.2.2.in_)
            have HRT := Lib.hid (fun W (hW : Below w21.heap.size w21 W) => right_c (e := m) (HF2.out.below hW (Nat.le_refl _)) hW.size (by omega))
            have HBL := Lib.hid (show bytesL m = lraw by unfold bytesL; rw [if_pos HYS.out.1]; exact HYS.out.2.1)
            have HER := Lib.hid (show errE (rightE m) = 0 by rw [HYS.out.1]; rfl)
            unfold edV at HBY HRT
            clear hk d0 HE hn20
            go_wp2_with fail
            refine HBY.out.mono ?_
            rintro e w22 ⟨A22, n22, c22, rfl, hf22, hb22⟩
            rw [HBL.out] at hf22
            rw [HER.out]
            have HF22 := Lib.hid (hf22.rd (Nat.le_refl _))
            have HX3 := Lib.hid (bon HX2.out hb22)
            have HB22 := Lib.hid hb22
            obtain ⟨r0, r1, r2, r3, _, _, _, _⟩ := (HM1.out.now hb22).cells
            clear q0 q1 q2 q3 hf22 hb22
            go_wp2_with fail
            refine (HRT.out _ HB22.out).mono ?_
            rintro e w23 ⟨rfl, hb23⟩
            rw [HYS.out.1]
            have HX4 := Lib.hid (bon HX3.out hb23)
            have HSM := Lib.hid (same_t (HF22.out.now hb23) (HRW.out w23 HX4.out) rfl)
            clear r0 r1 r2 r3 hb23
            go_wp2_with fail
            refine HSM.out.mono ?_
            rintro e w24 ⟨rfl, rfl⟩
            go_wp2_with fail
            refine (awake9_c _).mono ?_
            rintro e w99 ⟨rfl, hb99⟩
            go_wp2_with fail
            go_ret
            exact ⟨rfl, bon (bon HT.out.below HX4.out) hb99⟩

set_option maxRecDepth 100000 in
theorem lifted (os : Os) (started : os.Started) (H : Type) (enc : TypeId × Value → H) :
    ReturnsInHanded {} Try.checked os 4 .any (Rows.editBackSpec.pre6 enc Try.prog Try.f4 Rows.editBackRow.domain false) (Rows.editBackSpec.post enc Try.prog Try.f4 false true false false) := by
  refine returnsInHanded_of_change (C := Try.checked) own started (by kernel_rfl) Try.func4
    (ChangeSpec.witness6 (enc := enc) (C := Try.checked) false ⟨#[], #[.agg #[.slice none 0 0, .int .u64 0, .int .u64 0, .int .u64 0], .agg #[.slice none 0 0, .int .u64 0, .int .u64 0, .int .u64 0], .slice none 0 0], []⟩ 8 (by kernel_rfl) (by kernel_rfl) (by kernel_rfl) (by kernel_rfl)) ?_
  intro W base args ds gs before hval0 hW hcnd _
  have hval : ∀ (j : Nat) t v, Try.f4.params[j]? = some t → args[j]? = some v → Value.okWide Try.prog W .any base t v := hval0
  have hW' := hW
  obtain ⟨p, q, hA0, hV, rfl, hfz, hnd⟩ := hW
  have hA : DataW.TrodAll enc Try.prog W 0 (fun _ => true) true Try.f4.params.toList args.toList ds p := hA0
  rw [Try.params4] at hA hval
  obtain ⟨v0, vs0, d0, ds0, p0, q0_, hargs, rfl, rfl, h0, r0_⟩ := trodAll_cons hA
  obtain ⟨v1, vs1, d1, ds1, p1, q1_, rfl, rfl, rfl, h1, r1_⟩ := trodAll_cons r0_
  obtain ⟨v2, vs2, d2, ds2, p2, q2_, rfl, rfl, rfl, h2, r2_⟩ := trodAll_cons r1_
  obtain ⟨rfl, rfl, rfl⟩ := trodAll_nil r2_
  obtain rfl : args = #[v0, v1, v2] := by cases args; simp_all
  obtain ⟨rfl, rfl⟩ := trodVars_none hV
  have kk0 := h0
  have lt0 : ∀ x ∈ p0, x.block < W.heap.size := by obtain ⟨m, hm⟩ := kk0; exact DataW.trod_lt m _ _ _ hm
  have kk1 := h1
  have lt1 : ∀ x ∈ p1, x.block < W.heap.size := by obtain ⟨m, hm⟩ := kk1; exact DataW.trod_lt m _ _ _ hm
  have kk2 := h2
  have lt2 : ∀ x ∈ p2, x.block < W.heap.size := by obtain ⟨m, hm⟩ := kk2; exact DataW.trod_lt m _ _ _ hm
  obtain ⟨y0, e0, o0, r0⟩ := open_edit (hval 0 _ v0 rfl rfl) h0
  subst e0
  obtain ⟨y1, e1, o1, r1⟩ := open_edit (hval 1 _ v1 rfl rfl) h1
  subst e1
  obtain ⟨A2, n2, c2, l2, e2, w2, r2⟩ := open_bytes h2 (hval 2 _ v2 rfl rfl)
  subst e2
  clear hA0 hval0
  refine (walk y0 y1 A2 n2 c2 l2 W o0 r0 o1 r1 w2 r2).mono fun e W' ⟨he, bel⟩ => ?_
  subst he
  exact ⟨_, rfl, _, _, _, [], _, [], hW', trodAll_mk1 (shut_bool Try.underlying4 _), (trodAll_cons_mk (Below.trod laidOut (by kernel_rfl) (of_decide_eq_true (by kernel_rfl)) kk0 bel lt0) (trodAll_cons_mk (Below.trod laidOut (by kernel_rfl) (of_decide_eq_true (by kernel_rfl)) kk1 bel lt1) (trodAll_cons_mk (Below.trod laidOut (by kernel_rfl) (of_decide_eq_true (by kernel_rfl)) kk2 bel lt2) trodAll_mk0))), rfl, bel.frame _, fun h => by cases h⟩

theorem over : Rows.editBackRow.holds Try.pinned (OpenSpec.ofChange Rows.editBackSpec) :=
  OpenClaim.holds_of_wide 4 Try.f4 rfl rfl rfl rfl rfl rfl rfl ⟨rfl, rfl, rfl, rfl, rfl⟩ rfl rfl rfl rfl rfl (by kernel_rfl) Try.func4 (by kernel_rfl)
    (of_decide_eq_true (by kernel_rfl)) (by unfold Func.isWrapper; first | (rw [if_pos (by decide +kernel)]; kernel_rfl) | (rw [if_neg (by decide +kernel)]; exact ⟨rfl, rfl⟩))
    (fun os started H enc _ => lifted os started H enc)

/-- The statement. -/
theorem proved : Rows.EditBackSaid := over
#print axioms proved
end Go.Proofs.Ythgbafhfeblhaaa.editBack
