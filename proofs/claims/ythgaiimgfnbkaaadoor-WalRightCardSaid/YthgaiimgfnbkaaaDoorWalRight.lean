/-
  WalRight: a record is put just if its first sequence is above 0, all its sequences may be, and its ops are a group; two that are put have the same bytes just if they are the same. The package variables of the library that are read hold what their own initialisers lay.
-/
import Derived.Test.YthgaiimgfnbkaaaDoorWO
import Derived.Test.YthgaiimgfnbkaaaDoorCards
import Derived.Test.YthgaiimgfnbkaaaDoorTie
import Derived.WalkKit
import Derived.ProofKit
import Derived.OpenShut
import Derived.ShutString
import Derived.ChangeOld
import Derived.Below
import Derived.Deep.DeepHandedRow
import Derived.BigRegion
import Derived.Deep.RegionWith
import Derived.Deep.RegionHeld3
namespace Go.Proofs.YthgaiimgfnbkaaaDoor.walRight
set_option maxRecDepth 100000
open Go.ChangeShapes Go.WideShapes Go.ChangeAt Go.RowKit
open Go.ChangeMaps (open_string shut_string)
set_option linter.unusedVariables false
set_option maxRecDepth 100000

theorem own : ownKnob Tryd.prog.godebug = none := by kernel_rfl
theorem laidOut : laidOutB Tryd.prog = true := by kernel_rfl

theorem right_start {w : World} {x0 x1 : WR} (r0 : RdO w w.heap.size x0.A x0.n x0.c x0.L) (r1 : RdO w w.heap.size x1.A x1.n x1.c x1.L) :
    ∃ W0, ((w.alloc (.cells #[.int .u64 (x0.q : Int), .slice x0.A x0.n x0.c] 28)).alloc (.cells #[.int .u64 (x1.q : Int), .slice x1.A x1.n x1.c] 28)).alloc (.cells #[.int .u64 (x0.q : Int), .slice x0.A x0.n x0.c, .int .u64 (x1.q : Int), .slice x1.A x1.n x1.c] 28) = W0 ∧
      RecAt W0 w.heap.size x0.q x0.A x0.n x0.c ∧ RecAt W0 (w.heap.size + 1) x1.q x1.A x1.n x1.c ∧ Recs W0 (some ⟨w.heap.size + 1 + 1, 0, none⟩) 2 2 [x0, x1] ∧ Below w.heap.size w W0 := by
  have hb : Below w.heap.size w (((w.alloc (.cells #[.int .u64 (x0.q : Int), .slice x0.A x0.n x0.c] 28)).alloc (.cells #[.int .u64 (x1.q : Int), .slice x1.A x1.n x1.c] 28)).alloc (.cells #[.int .u64 (x0.q : Int), .slice x0.A x0.n x0.c, .int .u64 (x1.q : Int), .slice x1.A x1.n x1.c] 28)) := blit (blit (below_alloc w _) _) _
  refine ⟨_, rfl, ?_, ?_, ⟨?_, ?_⟩, hb⟩
  · exact ((RecAt.new w x0.q x0.A x0.n x0.c).alloc _).alloc _
  · have h := RecAt.new (w.alloc (.cells #[.int .u64 (x0.q : Int), .slice x0.A x0.n x0.c] 28)) x1.q x1.A x1.n x1.c
    rw [World.size_alloc] at h
    exact h.alloc _
  · have h := (FrW.new ((w.alloc (.cells #[.int .u64 (x0.q : Int), .slice x0.A x0.n x0.c] 28)).alloc (.cells #[.int .u64 (x1.q : Int), .slice x1.A x1.n x1.c] 28)) (b := 0) (k := 2) (L := [x0, x1]) (cur := #[.int .u64 (x0.q : Int), .slice x0.A x0.n x0.c, .int .u64 (x1.q : Int), .slice x1.A x1.n x1.c]) rfl rfl (Nat.zero_le _) (by decide)).here
    have e : ((w.alloc (.cells #[.int .u64 (x0.q : Int), .slice x0.A x0.n x0.c] 28)).alloc (.cells #[.int .u64 (x1.q : Int), .slice x1.A x1.n x1.c] 28)).heap.size = w.heap.size + 1 + 1 := by simp
    rw [← e]
    exact h
  · intro x hx
    simp only [List.mem_cons, List.not_mem_nil, or_false] at hx
    rcases hx with rfl | rfl
    · exact r0.now hb
    · exact r1.now hb
theorem recL_inj {q q' : Nat} {L L' : List Bop} (h : recB q L = true) (h' : recB q' L' = true) : (recL q L == recL q' L') = sameRs [(q, L)] [(q', L')] := by
  rw [Bool.eq_iff_iff, sameRs_iff, beq_iff_eq]
  constructor
  · intro e
    have e1 := inL_len (q := q) (recB_iff.1 h).1
    have e2 := inL_len (q := q') (recB_iff.1 h').1
    have e3 : inL q L = inL q' L' := sealL_inj (by omega) (by omega) e
    have h1 := (readIn_iff (x := inL q L)).2 ⟨h, rfl⟩
    have h2 := (readIn_iff (x := inL q' L')).2 ⟨h', rfl⟩
    rw [e3, h2] at h1
    simp only [Option.some.injEq] at h1
    rw [h1]
  · intro e
    simp only [List.cons.injEq, and_true, Prod.mk.injEq] at e
    rw [e.1, e.2]
theorem recs_at {w : World} {g : Nat} {x : WR} (h : RecAt w g x.q x.A x.n x.c) (r : RdO w w.heap.size x.A x.n x.c x.L) : Recs w (some ⟨g, 0, none⟩) 1 1 [x] :=
  ⟨FrW.here (b := 0) ⟨⟨rfl, .inr ⟨g, 1, #[.int .u64 (x.q : Int), .slice x.A x.n x.c], rfl, Nat.zero_le _, h.h, Nat.le_refl _, by decide, rfl, rfl⟩⟩⟩, fun y hy => by
    simp only [List.mem_singleton] at hy
    subst hy
    exact r⟩
/-- Two records laid one behind the other, in either order. -/
theorem two_lay (w : World) (x y : WR) : RecAt ((w.alloc (.cells #[.int .u64 (x.q : Int), .slice x.A x.n x.c] 28)).alloc (.cells #[.int .u64 (y.q : Int), .slice y.A y.n y.c] 28)) w.heap.size x.q x.A x.n x.c ∧ RecAt ((w.alloc (.cells #[.int .u64 (x.q : Int), .slice x.A x.n x.c] 28)).alloc (.cells #[.int .u64 (y.q : Int), .slice y.A y.n y.c] 28)) (w.heap.size + 1) y.q y.A y.n y.c ∧ Below w.heap.size w ((w.alloc (.cells #[.int .u64 (x.q : Int), .slice x.A x.n x.c] 28)).alloc (.cells #[.int .u64 (y.q : Int), .slice y.A y.n y.c] 28)) := by
  have h := RecAt.new (w.alloc (.cells #[.int .u64 (x.q : Int), .slice x.A x.n x.c] 28)) y.q y.A y.n y.c
  rw [World.size_alloc] at h
  exact ⟨(RecAt.new w x.q x.A x.n x.c).alloc _, h, blit (below_alloc w _) _⟩
theorem small_n {x : WR} {w : World} (r : RdO w w.heap.size x.A x.n x.c x.L) (h : fewB x.L 140 = true) : (x.n : Int) ≤ 140 := by
  unfold fewB at h
  simp only [Bool.and_eq_true, decide_eq_true_eq] at h
  rw [r.len] at h
  exact h.2

set_option maxHeartbeats 8000000 in
theorem walk (x0 : WR) (x1 : WR) (w : World) (q0 : (x0.q : Int) ≤ 18446744073709551615) (r0 : RdO w w.heap.size x0.A x0.n x0.c x0.L) (q1 : (x1.q : Int) ≤ 18446744073709551615) (r1 : RdO w w.heap.size x1.A x1.n x1.c x1.L) (hv : Vars w) :
    Calls Tryd.prog 6 #[wrv x0, wrv x1] w fun e w' => e = .returned (.bool true) ∧ Below w.heap.size w w' := by
  obtain ⟨W0, hW0, a0, a1, rr, g0⟩ := right_start r0 r1
  have HW0 := Lib.hid hW0
  have s0 := r0.now g0
  have s1 := r1.now g0
  have HSM := Lib.hid (fun (h : fewW [x0, x1] 2 = true) => show (x0.n : Int) ≤ 140 ∧ (x1.n : Int) ≤ 140 by
    unfold fewW at h
    simp only [List.all_cons, List.all_nil, Bool.and_eq_true, Bool.and_true] at h
    exact ⟨small_n r0 h.1.1, small_n r1 h.1.2⟩)
  replace hv := hv.now g0
  have b0 : w.heap.size < W0.heap.size := a0.lt
  have b1 : w.heap.size + 1 < W0.heap.size := a1.lt
  clear hW0 r0 r1
  unfold wrv
  go_enter Tryd.func6, Tryd.ntmps6
  go_wp2_with fail
  rw [HW0.out]
  clear HW0
  cases hfew : fewW [x0, x1] 2 with
  | false =>
    refine (fewW_c rr 2).mono ?_
    rintro e w1 ⟨rfl, hb1⟩
    rw [hfew]
    replace hv := hv.now hb1
    replace g0 := bon g0 hb1
    clear hb1 rr
    go_wp2_with fail
    refine (awake6_c hv).mono ?_
    rintro e w99 ⟨rfl, hb99⟩
    go_wp2_with fail
    go_ret
    exact ⟨rfl, bon g0 hb99⟩
  | true =>
    refine (fewW_c rr 2).mono ?_
    rintro e w1 ⟨rfl, hb1⟩
    rw [hfew]
    replace hv := hv.now hb1
    replace g0 := bon g0 hb1
    obtain ⟨n0s, n1s⟩ := HSM.out hfew
    replace a0 := a0.below hb1 (Nat.le_refl _)
    replace a1 := a1.below hb1 (Nat.le_refl _)
    replace s0 := s0.now hb1
    replace s1 := s1.now hb1
    clear hb1 rr HSM b0 b1 hfew
    obtain ⟨a0a, a0b⟩ := a0.cells
    go_wp2_with fail
    clear a0a a0b
    obtain ⟨l0, hl0⟩ : ∃ l, walL x0.q x0.L = l := ⟨_, rfl⟩
    obtain ⟨l1, hl1⟩ : ∃ l, walL x1.q x1.L = l := ⟨_, rfl⟩
    have HL0 := Lib.hid hl0
    have HL1 := Lib.hid hl1
    have L0 := s0.len
    clear hl0 hl1
    cases hr0 : recB x0.q x0.L with
    | true =>
      have k0 := (walL_yes hr0).2
      have HE := Lib.hid (recB_iff.1 hr0)
      have HR0 := Lib.hid hr0
      clear hr0
      refine (walBytes_t s0 q0 (by omega) HL0.out k0).mono ?_
      rintro e w2 ⟨A1, m1, c1, rfl, hf1, hb2⟩
      clear k0
      replace hv := hv.now hb2
      replace g0 := bon g0 hb2
      replace a0 := a0.below hb2 (Nat.le_refl _)
      replace a1 := a1.below hb2 (Nat.le_refl _)
      replace s0 := s0.now hb2
      replace s1 := s1.now hb2
      have f1 := hf1.here
      clear hb2 hf1
      obtain ⟨a1a, a1b⟩ := a1.cells
      go_wp2_with fail
      clear a1a a1b
      cases hr1 : recB x1.q x1.L with
      | true =>
        have k1 := (walL_yes hr1).2
        have HR1 := Lib.hid hr1
        clear hr1
        refine (walBytes_t s1 q1 (by omega) HL1.out k1).mono ?_
        rintro e w3 ⟨A2, m2, c2, rfl, hf2, hb3⟩
        clear k1
        replace hv := hv.now hb3
        replace g0 := bon g0 hb3
        replace a0 := a0.below hb3 (Nat.le_refl _)
        replace a1 := a1.below hb3 (Nat.le_refl _)
        replace s0 := s0.now hb3
        replace s1 := s1.now hb3
        replace f1 := f1.now hb3
        have f2 := hf2.here
        clear hb3 hf2
        obtain ⟨a0a, a0b⟩ := a0.cells
        obtain ⟨hg1, hq1, hqn⟩ := HE.out
        have hn1 : (1 : Int) ≤ (x0.n : Int) := by have := (grpB_iff.1 hg1).1; omega
        have hn2 : (x0.n : Int) ≤ 128 := by have := (grpB_iff.1 hg1).2.1; omega
        have hqi : (1 : Int) ≤ (x0.q : Int) := by omega
        have hqj : (x0.q : Int) + (x0.n : Int) ≤ 72057594037927936 := by omega
        have e1 : ((x0.q : Int) == 0) = false := by simp; omega
        have e2 : ((x0.n : Int) == 0) = false := by simp; omega
        have e3 : decide ((128 : Int) < (x0.n : Int)) = false := by simp; omega
        have e4 : decide ((72057594037927935 : Int) < (x0.q : Int)) = false := by simp; omega
        have e5 : decide ((72057594037927935 : Int) - (x0.q : Int) < (x0.n : Int) - 1) = false := by simp; omega
        have e6 : ((60 : Int) == 0) = false := by decide
        have e10 : ((60 : Int) != 0) = true := by decide
        clear hg1 hq1 hqn
        have hb4 := below_alloc w3 (.cells #[.int .u64 1, .slice x0.A x0.n x0.c] 28)
        go_wp2_with fail
        have HA := Lib.hid (And.intro a0 a1)
        clear a0a a0b a0 a1
        cases hrg : recB 1 x0.L with
        | true =>
          have k2 := (walL_yes hrg).2
          have HRG := Lib.hid hrg
          clear hrg
          refine (walBytes_t (q := 1) (s0.now hb4) (by decide) (by omega) rfl k2).mono ?_
          rintro e w5 ⟨A3, m3, c3, rfl, -, hb5⟩
          clear k2
          replace hb5 := bon hb4 hb5
          clear hb4
          replace hv := hv.now hb5
          replace g0 := bon g0 hb5
          have a0 := HA.out.1.below hb5 (Nat.le_refl _)
          have a1 := HA.out.2.below hb5 (Nat.le_refl _)
          replace s0 := s0.now hb5
          replace s1 := s1.now hb5
          replace f1 := f1.now hb5
          replace f2 := f2.now hb5
          clear hb5 HA
          obtain ⟨a0a, a0b⟩ := a0.cells
          obtain ⟨a1a, a1b⟩ := a1.cells
          have lt0 := a0.lt
          have lt1 := a1.lt
          have HS1 := Lib.hid (fun (W : World) (hW : Below w5.heap.size w5 W) => same_c (f1.now hW) (f2.now hW))
          have HS6 := Lib.hid (fun (W : World) (ga gb : Nat) (ha : RecAt W ga x0.q x0.A x0.n x0.c) (hb : RecAt W gb x1.q x1.A x1.n x1.c) (hW : Below w5.heap.size w5 W) => sameW_t (recs_at ha (s0.now hW)) (recs_at hb (s1.now hW)) (fun y hy => by simp only [List.mem_singleton] at hy; subst hy; omega) (fun y hy => by simp only [List.mem_singleton] at hy; subst hy; omega) (by decide) (b := sameRs [(x0.q, x0.L)] [(x1.q, x1.L)]) rfl)
          have HT := Lib.hid (recL_inj HR0.out HR1.out)
          have HE0 := Lib.hid (show l0 = recL x0.q x0.L by rw [← HL0.out, (walL_yes HR0.out).1])
          have HE1 := Lib.hid (show l1 = recL x1.q x1.L by rw [← HL1.out, (walL_yes HR1.out).1])
          have HV := Lib.hid hv
          have HG := Lib.hid g0
          have HSK := Lib.hid (fun (W : World) (hW : Below w5.heap.size w5 W) => show Below w5.heap.size w5 W ∧ W.cell? ⟨w.heap.size, 0, none⟩ = some (.int .u64 (x0.q : Int)) ∧ W.cell? ⟨w.heap.size, 1, none⟩ = some (.slice x0.A x0.n x0.c) ∧ W.cell? ⟨w.heap.size + 1, 0, none⟩ = some (.int .u64 (x1.q : Int)) ∧ W.cell? ⟨w.heap.size + 1, 1, none⟩ = some (.slice x1.A x1.n x1.c) from ⟨hW, (hW.cell (p := ⟨w.heap.size, 0, none⟩) lt0).trans a0a, (hW.cell (p := ⟨w.heap.size, 1, none⟩) lt0).trans a0b, (hW.cell (p := ⟨w.heap.size + 1, 0, none⟩) lt1).trans a1a, (hW.cell (p := ⟨w.heap.size + 1, 1, none⟩) lt1).trans a1b⟩)
          have T01 := two_lay w5 x0 x1
          have T10 := two_lay w5 x1 x0
          have HT01 := Lib.hid T01
          have HT10 := Lib.hid T10
          have hst : Below w5.heap.size w5 w5.drew := (Below.refl _ _).drew
          obtain ⟨bs, hbs⟩ : ∃ bs, sameRs [(x0.q, x0.L)] [(x1.q, x1.L)] = bs := ⟨_, rfl⟩
          have hll : (l0 == l1) = bs := by rw [HE0.out, HE1.out, HT.out, hbs]
          rw [hll] at HS1
          rw [hbs] at HS6
          have hbb : (bs == bs) = true := by simp
          clear a0 a1 hv g0 s0 s1 f1 f2 T01 T10 hll HE0 HE1 HT HL0 HL1 hbs
          go_wp2_with fail
          go_region_held3 (fun w' => Below w5.heap.size w5 w' ∧ w'.cell? ⟨w.heap.size, 0, none⟩ = some (.int .u64 (x0.q : Int)) ∧ w'.cell? ⟨w.heap.size, 1, none⟩ = some (.slice x0.A x0.n x0.c) ∧ w'.cell? ⟨w.heap.size + 1, 0, none⟩ = some (.int .u64 (x1.q : Int)) ∧ w'.cell? ⟨w.heap.size + 1, 1, none⟩ = some (.slice x1.A x1.n x1.c))
            ((first | assumption | exact HSK.out _ (by assumption) | exact HSK.out _ (bon (And.left (by assumption)) (by assumption)) | exact HSK.out _ (blit (And.left (by assumption)) _) | exact HSK.out _ (Below.drew (And.left (by assumption)))))
            (first
            | (go_at_call 15; refine (HS1.out _ (And.left (by assumption))).mono ?_; rintro e w6 ⟨rfl, rfl⟩)
            | (go_at_call 11; refine (HS6.out _ _ _ (by first | exact HT01.out.1 | exact HT01.out.1.drew | exact HT10.out.2.1 | exact HT10.out.2.1.drew) (by first | exact HT01.out.2.1 | exact HT01.out.2.1.drew | exact HT10.out.1 | exact HT10.out.1.drew) (And.left (by assumption))).mono ?_; rintro e w7 ⟨rfl, hb7⟩)
            | (go_at_call 8; refine (awake6_c (HV.out.now (And.left (by assumption)))).mono ?_; rintro e w8 ⟨rfl, hb8⟩))
          all_goals (go_wp2_with fail; go_ret; exact ⟨rfl, bon HG.out (And.left (by assumption))⟩)
        | false =>
          have k2 := (walL_no hrg).2
          have HRG := Lib.hid hrg
          clear hrg
          refine (walBytes_t (q := 1) (s0.now hb4) (by decide) (by omega) rfl k2).mono ?_
          rintro e w5 ⟨A3, m3, c3, rfl, -, hb5⟩
          clear k2
          replace hb5 := bon hb4 hb5
          clear hb4
          replace hv := hv.now hb5
          replace g0 := bon g0 hb5
          have a0 := HA.out.1.below hb5 (Nat.le_refl _)
          have a1 := HA.out.2.below hb5 (Nat.le_refl _)
          replace s0 := s0.now hb5
          replace s1 := s1.now hb5
          replace f1 := f1.now hb5
          replace f2 := f2.now hb5
          clear hb5 HA
          obtain ⟨a0a, a0b⟩ := a0.cells
          obtain ⟨a1a, a1b⟩ := a1.cells
          have lt0 := a0.lt
          have lt1 := a1.lt
          have HS1 := Lib.hid (fun (W : World) (hW : Below w5.heap.size w5 W) => same_c (f1.now hW) (f2.now hW))
          have HS6 := Lib.hid (fun (W : World) (ga gb : Nat) (ha : RecAt W ga x0.q x0.A x0.n x0.c) (hb : RecAt W gb x1.q x1.A x1.n x1.c) (hW : Below w5.heap.size w5 W) => sameW_t (recs_at ha (s0.now hW)) (recs_at hb (s1.now hW)) (fun y hy => by simp only [List.mem_singleton] at hy; subst hy; omega) (fun y hy => by simp only [List.mem_singleton] at hy; subst hy; omega) (by decide) (b := sameRs [(x0.q, x0.L)] [(x1.q, x1.L)]) rfl)
          have HT := Lib.hid (recL_inj HR0.out HR1.out)
          have HE0 := Lib.hid (show l0 = recL x0.q x0.L by rw [← HL0.out, (walL_yes HR0.out).1])
          have HE1 := Lib.hid (show l1 = recL x1.q x1.L by rw [← HL1.out, (walL_yes HR1.out).1])
          have HV := Lib.hid hv
          have HG := Lib.hid g0
          have HSK := Lib.hid (fun (W : World) (hW : Below w5.heap.size w5 W) => show Below w5.heap.size w5 W ∧ W.cell? ⟨w.heap.size, 0, none⟩ = some (.int .u64 (x0.q : Int)) ∧ W.cell? ⟨w.heap.size, 1, none⟩ = some (.slice x0.A x0.n x0.c) ∧ W.cell? ⟨w.heap.size + 1, 0, none⟩ = some (.int .u64 (x1.q : Int)) ∧ W.cell? ⟨w.heap.size + 1, 1, none⟩ = some (.slice x1.A x1.n x1.c) from ⟨hW, (hW.cell (p := ⟨w.heap.size, 0, none⟩) lt0).trans a0a, (hW.cell (p := ⟨w.heap.size, 1, none⟩) lt0).trans a0b, (hW.cell (p := ⟨w.heap.size + 1, 0, none⟩) lt1).trans a1a, (hW.cell (p := ⟨w.heap.size + 1, 1, none⟩) lt1).trans a1b⟩)
          have T01 := two_lay w5 x0 x1
          have T10 := two_lay w5 x1 x0
          have HT01 := Lib.hid T01
          have HT10 := Lib.hid T10
          have hst : Below w5.heap.size w5 w5.drew := (Below.refl _ _).drew
          obtain ⟨bs, hbs⟩ : ∃ bs, sameRs [(x0.q, x0.L)] [(x1.q, x1.L)] = bs := ⟨_, rfl⟩
          have hll : (l0 == l1) = bs := by rw [HE0.out, HE1.out, HT.out, hbs]
          rw [hll] at HS1
          rw [hbs] at HS6
          have hbb : (bs == bs) = true := by simp
          clear a0 a1 hv g0 s0 s1 f1 f2 T01 T10 hll HE0 HE1 HT HL0 HL1 hbs
          go_wp2_with fail
          go_region_held3 (fun w' => Below w5.heap.size w5 w' ∧ w'.cell? ⟨w.heap.size, 0, none⟩ = some (.int .u64 (x0.q : Int)) ∧ w'.cell? ⟨w.heap.size, 1, none⟩ = some (.slice x0.A x0.n x0.c) ∧ w'.cell? ⟨w.heap.size + 1, 0, none⟩ = some (.int .u64 (x1.q : Int)) ∧ w'.cell? ⟨w.heap.size + 1, 1, none⟩ = some (.slice x1.A x1.n x1.c))
            ((first | assumption | exact HSK.out _ (by assumption) | exact HSK.out _ (bon (And.left (by assumption)) (by assumption)) | exact HSK.out _ (blit (And.left (by assumption)) _) | exact HSK.out _ (Below.drew (And.left (by assumption)))))
            (first
            | (go_at_call 15; refine (HS1.out _ (And.left (by assumption))).mono ?_; rintro e w6 ⟨rfl, rfl⟩)
            | (go_at_call 11; refine (HS6.out _ _ _ (by first | exact HT01.out.1 | exact HT01.out.1.drew | exact HT10.out.2.1 | exact HT10.out.2.1.drew) (by first | exact HT01.out.2.1 | exact HT01.out.2.1.drew | exact HT10.out.1 | exact HT10.out.1.drew) (And.left (by assumption))).mono ?_; rintro e w7 ⟨rfl, hb7⟩)
            | (go_at_call 8; refine (awake6_c (HV.out.now (And.left (by assumption)))).mono ?_; rintro e w8 ⟨rfl, hb8⟩))
          all_goals (go_wp2_with fail; go_ret; exact ⟨rfl, bon HG.out (And.left (by assumption))⟩)
      | false =>
        have k1 := (walL_no hr1).2
        clear hr1
        refine (walBytes_t s1 q1 (by omega) HL1.out k1).mono ?_
        rintro e w3 ⟨A2, m2, c2, rfl, hf2, hb3⟩
        clear k1
        replace hv := hv.now hb3
        replace g0 := bon g0 hb3
        replace a0 := a0.below hb3 (Nat.le_refl _)
        replace a1 := a1.below hb3 (Nat.le_refl _)
        replace s0 := s0.now hb3
        replace s1 := s1.now hb3
        replace f1 := f1.now hb3
        have f2 := hf2.here
        clear hb3 hf2
        obtain ⟨a0a, a0b⟩ := a0.cells
        obtain ⟨hg1, hq1, hqn⟩ := HE.out
        have hn1 : (1 : Int) ≤ (x0.n : Int) := by have := (grpB_iff.1 hg1).1; omega
        have hn2 : (x0.n : Int) ≤ 128 := by have := (grpB_iff.1 hg1).2.1; omega
        have hqi : (1 : Int) ≤ (x0.q : Int) := by omega
        have hqj : (x0.q : Int) + (x0.n : Int) ≤ 72057594037927936 := by omega
        have e1 : ((x0.q : Int) == 0) = false := by simp; omega
        have e2 : ((x0.n : Int) == 0) = false := by simp; omega
        have e3 : decide ((128 : Int) < (x0.n : Int)) = false := by simp; omega
        have e4 : decide ((72057594037927935 : Int) < (x0.q : Int)) = false := by simp; omega
        have e5 : decide ((72057594037927935 : Int) - (x0.q : Int) < (x0.n : Int) - 1) = false := by simp; omega
        have e6 : ((60 : Int) == 0) = false := by decide
        have e10 : ((60 : Int) != 0) = true := by decide
        clear hg1 hq1 hqn
        have hb4 := below_alloc w3 (.cells #[.int .u64 1, .slice x0.A x0.n x0.c] 28)
        go_wp2_with fail
        have HA := Lib.hid (And.intro a0 a1)
        clear a0a a0b a0 a1
        cases hrg : recB 1 x0.L with
        | true =>
          have k2 := (walL_yes hrg).2
          have HRG := Lib.hid hrg
          clear hrg
          refine (walBytes_t (q := 1) (s0.now hb4) (by decide) (by omega) rfl k2).mono ?_
          rintro e w5 ⟨A3, m3, c3, rfl, -, hb5⟩
          clear k2
          replace hb5 := bon hb4 hb5
          clear hb4
          replace hv := hv.now hb5
          replace g0 := bon g0 hb5
          have a0 := HA.out.1.below hb5 (Nat.le_refl _)
          have a1 := HA.out.2.below hb5 (Nat.le_refl _)
          replace s0 := s0.now hb5
          replace s1 := s1.now hb5
          replace f1 := f1.now hb5
          replace f2 := f2.now hb5
          clear hb5 HA
          have HV := Lib.hid hv
          have HG := Lib.hid g0
          have hst : Below w5.heap.size w5 w5.drew := (Below.refl _ _).drew
          clear a0 a1 hv g0 s0 s1 f1 f2
          go_wp2_with fail
          refine wp_region_noPanic ?_
          refine wp_region_held_drew (S := fun w' => Below w5.heap.size w5 w') (by kernel_rfl) hst (fun hHeld => ?_)
          refine wpAnyH_take (i := 0) (oi := { dst := some 97, op := Op.move (Operand.tmp 6), type := 45, pos := "outright.go:133", after := #[], guard := none }) (v := ?v1) rfl (by kernel_rfl) (by kernel_rfl) (by kernel_rfl) (fun _ _ _ h => h) (Or.inl ⟨by rfl, ?hy1⟩) (by assumption) ?rest1
          case hy1 => (intro w hSw; (try dsimp only at hSw); go_simp; try with_reducible rfl)
          try simp only [Act.put, List.setIfInBounds_toArray, List.set_cons_zero, List.set_cons_succ]
          refine wpAnyH_take (i := 1) (oi := { dst := some 98, op := Op.binOp BinOp.neq 45 (Operand.tmp 97) (Operand.const (Value.int IntKind.i64 0)) 45, type := 4, pos := "outright.go:133", after := #[{ on := 0, ground := Ground.data }], guard := none }) (v := ?v2) rfl (by kernel_rfl) (by kernel_rfl) (by kernel_rfl) (fun _ _ _ h => h) (Or.inl ⟨by rfl, ?hy2⟩) (by assumption) ?rest2
          case hy2 => (intro w hSw; (try dsimp only at hSw); go_simp; try with_reducible rfl)
          try simp only [Act.put, List.setIfInBounds_toArray, List.set_cons_zero, List.set_cons_succ]
          refine wpAnyH_take (i := 2) (oi := { dst := some 99, op := Op.move (Operand.tmp 98), type := 4, pos := "outright.go:133", after := #[{ on := 1, ground := Ground.data }], guard := none }) (v := ?v3) rfl (by kernel_rfl) (by kernel_rfl) (by kernel_rfl) (fun _ _ _ h => h) (Or.inl ⟨by rfl, ?hy3⟩) (by assumption) ?rest3
          case hy3 => (intro w hSw; (try dsimp only at hSw); go_simp; try with_reducible rfl)
          try simp only [Act.put, List.setIfInBounds_toArray, List.set_cons_zero, List.set_cons_succ]
          refine wpAnyH_take (i := 3) (oi := { dst := some 100, op := Op.move (Operand.tmp 8), type := 45, pos := "outright.go:133", after := #[{ on := 2, ground := Ground.guard }], guard := some (2, false) }) (v := ?v4) rfl (by kernel_rfl) (by kernel_rfl) (by kernel_rfl) (fun _ _ _ h => h) (Or.inl ⟨by rfl, ?hy4⟩) (by assumption) ?rest4
          case hy4 => (intro w hSw; (try dsimp only at hSw); go_simp; try with_reducible rfl)
          try simp only [Act.put, List.setIfInBounds_toArray, List.set_cons_zero, List.set_cons_succ]
          refine wpAnyH_take (i := 4) (oi := { dst := some 101, op := Op.binOp BinOp.neq 45 (Operand.tmp 100) (Operand.const (Value.int IntKind.i64 0)) 45, type := 4, pos := "outright.go:133", after := #[{ on := 3, ground := Ground.data }, { on := 2, ground := Ground.guard }], guard := some (2, false) }) (v := ?v5) rfl (by kernel_rfl) (by kernel_rfl) (by kernel_rfl) (fun _ _ _ h => h) (Or.inl ⟨by rfl, ?hy5⟩) (by assumption) ?rest5
          case hy5 => (intro w hSw; (try dsimp only at hSw); go_simp; try with_reducible rfl)
          try simp only [Act.put, List.setIfInBounds_toArray, List.set_cons_zero, List.set_cons_succ]
          refine wpAnyH_take (i := 5) (oi := { dst := some 102, op := Op.pick (Operand.tmp 99) (Operand.const (Value.bool true)) (Operand.tmp 101), type := 4, pos := "outright.go:133", after := #[{ on := 2, ground := Ground.data }, { on := 4, ground := Ground.data }], guard := none }) (v := ?v6) rfl (by kernel_rfl) (by kernel_rfl) (by kernel_rfl) (fun _ _ _ h => h) (Or.inl ⟨by rfl, ?hy6⟩) (by assumption) ?rest6
          case hy6 => (intro w hSw; (try dsimp only at hSw); go_simp; try with_reducible rfl)
          try simp only [Act.put, List.setIfInBounds_toArray, List.set_cons_zero, List.set_cons_succ]
          refine wpAnyH_take (i := 6) (oi := { dst := some 103, op := Op.move (Operand.tmp 102), type := 4, pos := "outright.go:133", after := #[{ on := 5, ground := Ground.data }, { on := 2, ground := Ground.chain }], guard := none }) (v := ?v7) rfl (by kernel_rfl) (by kernel_rfl) (by kernel_rfl) (fun _ _ _ h => h) (Or.inl ⟨by rfl, ?hy7⟩) (by assumption) ?rest7
          case hy7 => (intro w hSw; (try dsimp only at hSw); go_simp; try with_reducible rfl)
          try simp only [Act.put, List.setIfInBounds_toArray, List.set_cons_zero, List.set_cons_succ]
          refine wpAnyH_take (i := 7) (oi := { dst := some 104, op := Op.move (Operand.tmp 5), type := 31, pos := "outright.go:133", after := #[{ on := 6, ground := Ground.guard }], guard := some (6, false) }) (v := undef) rfl (by kernel_rfl) (by kernel_rfl) (by kernel_rfl) (fun _ _ _ h => h) (Or.inr ⟨by rfl, rfl⟩) (by assumption) ?_
          try simp only [Act.put, List.setIfInBounds_toArray, List.set_cons_zero, List.set_cons_succ]
          refine wpAnyH_take (i := 8) (oi := { dst := some 105, op := Op.move (Operand.tmp 7), type := 31, pos := "outright.go:133", after := #[{ on := 6, ground := Ground.guard }], guard := some (6, false) }) (v := undef) rfl (by kernel_rfl) (by kernel_rfl) (by kernel_rfl) (fun _ _ _ h => h) (Or.inr ⟨by rfl, rfl⟩) (by assumption) ?_
          try simp only [Act.put, List.setIfInBounds_toArray, List.set_cons_zero, List.set_cons_succ]
          refine wpAnyH_take (i := 10) (oi := { dst := some 107, op := Op.load 28 (Operand.tmp 2), type := 28, pos := "outright.go:133", after := #[{ on := 6, ground := Ground.guard }], guard := some (6, false) }) (v := undef) rfl (by kernel_rfl) (by kernel_rfl) (by kernel_rfl) (fun _ _ _ h => h) (Or.inr ⟨by rfl, rfl⟩) (by assumption) ?_
          try simp only [Act.put, List.setIfInBounds_toArray, List.set_cons_zero, List.set_cons_succ]
          refine wpAnyH_take (i := 12) (oi := { dst := some 109, op := Op.load 28 (Operand.tmp 3), type := 28, pos := "outright.go:133", after := #[{ on := 6, ground := Ground.guard }], guard := some (6, false) }) (v := undef) rfl (by kernel_rfl) (by kernel_rfl) (by kernel_rfl) (fun _ _ _ h => h) (Or.inr ⟨by rfl, rfl⟩) (by assumption) ?_
          try simp only [Act.put, List.setIfInBounds_toArray, List.set_cons_zero, List.set_cons_succ]
          refine wpAnyH_take (i := 9) (oi := { dst := some 106, op := Op.call { callee := Callee.value (Operand.func 15), args := #[Operand.tmp 104, Operand.tmp 105], argTypes := #[31, 31] }, type := 4, pos := "outright.go:133", after := #[{ on := 7, ground := Ground.data }, { on := 8, ground := Ground.data }, { on := 6, ground := Ground.chain }, { on := 6, ground := Ground.guard }], guard := some (6, false) }) (v := undef) rfl (by kernel_rfl) (by kernel_rfl) (by kernel_rfl) (fun _ _ _ h => h) (Or.inr ⟨by rfl, rfl⟩) (by assumption) ?_
          try simp only [Act.put, List.setIfInBounds_toArray, List.set_cons_zero, List.set_cons_succ]
          refine wpAnyH_take (i := 11) (oi := { dst := some 108, op := Op.buildSlice 29 1 #[(0, Operand.tmp 107)], type := 29, pos := "outright.go:133", after := #[{ on := 10, ground := Ground.data }, { on := 6, ground := Ground.guard }], guard := some (6, false) }) (v := undef) rfl (by kernel_rfl) (by kernel_rfl) (by kernel_rfl) (fun _ _ _ h => h) (Or.inr ⟨by rfl, rfl⟩) (by assumption) ?_
          try simp only [Act.put, List.setIfInBounds_toArray, List.set_cons_zero, List.set_cons_succ]
          refine wpAnyH_take (i := 13) (oi := { dst := some 110, op := Op.buildSlice 29 1 #[(0, Operand.tmp 109)], type := 29, pos := "outright.go:133", after := #[{ on := 12, ground := Ground.data }, { on := 6, ground := Ground.guard }], guard := some (6, false) }) (v := undef) rfl (by kernel_rfl) (by kernel_rfl) (by kernel_rfl) (fun _ _ _ h => h) (Or.inr ⟨by rfl, rfl⟩) (by assumption) ?_
          try simp only [Act.put, List.setIfInBounds_toArray, List.set_cons_zero, List.set_cons_succ]
          refine wpAnyH_take (i := 14) (oi := { dst := some 111, op := Op.call { callee := Callee.value (Operand.func 11), args := #[Operand.tmp 108, Operand.tmp 110], argTypes := #[29, 29] }, type := 4, pos := "outright.go:133", after := #[{ on := 11, ground := Ground.data }, { on := 13, ground := Ground.data }, { on := 9, ground := Ground.chain }, { on := 6, ground := Ground.guard }], guard := some (6, false) }) (v := undef) rfl (by kernel_rfl) (by kernel_rfl) (by kernel_rfl) (fun _ _ _ h => h) (Or.inr ⟨by rfl, rfl⟩) (by assumption) ?_
          try simp only [Act.put, List.setIfInBounds_toArray, List.set_cons_zero, List.set_cons_succ]
          refine wpAnyH_take (i := 15) (oi := { dst := some 112, op := Op.binOp BinOp.eql 4 (Operand.tmp 106) (Operand.tmp 111) 4, type := 4, pos := "outright.go:133", after := #[{ on := 9, ground := Ground.data }, { on := 14, ground := Ground.data }, { on := 6, ground := Ground.guard }], guard := some (6, false) }) (v := undef) rfl (by kernel_rfl) (by kernel_rfl) (by kernel_rfl) (fun _ _ _ h => h) (Or.inr ⟨by rfl, rfl⟩) (by assumption) ?_
          try simp only [Act.put, List.setIfInBounds_toArray, List.set_cons_zero, List.set_cons_succ]
          refine wpAnyH_take (i := 16) (oi := { dst := some 113, op := Op.pick (Operand.tmp 103) (Operand.const (Value.bool true)) (Operand.tmp 112), type := 4, pos := "outright.go:133", after := #[{ on := 6, ground := Ground.data }, { on := 15, ground := Ground.data }], guard := none }) (v := ?v8) rfl (by kernel_rfl) (by kernel_rfl) (by kernel_rfl) (fun _ _ _ h => h) (Or.inl ⟨by rfl, ?hy8⟩) (by assumption) ?rest8
          case hy8 => (intro w hSw; (try dsimp only at hSw); go_simp; try with_reducible rfl)
          try simp only [Act.put, List.setIfInBounds_toArray, List.set_cons_zero, List.set_cons_succ]
          refine wpAnyH_take (i := 17) (oi := { dst := some 114, op := Op.move (Operand.tmp 113), type := 4, pos := "outright.go:133", after := #[{ on := 16, ground := Ground.data }, { on := 14, ground := Ground.chain }], guard := none }) (v := ?v9) rfl (by kernel_rfl) (by kernel_rfl) (by kernel_rfl) (fun _ _ _ h => h) (Or.inl ⟨by rfl, ?hy9⟩) (by assumption) ?rest9
          case hy9 => (intro w hSw; (try dsimp only at hSw); go_simp; try with_reducible rfl)
          try simp only [Act.put, List.setIfInBounds_toArray, List.set_cons_zero, List.set_cons_succ]
          refine wpAnyH_ready (rs := [18]) (by kernel_rfl) (by simp) ?_
          refine AllReadyH.cons (o := { dst := some 115, op := Op.call { callee := Callee.value (Operand.func 8), args := #[], argTypes := #[] }, type := 4, pos := "outright.go:133", after := #[{ on := 17, ground := Ground.chain }, { on := 17, ground := Ground.guard }], guard := some (17, true) }) rfl (fun K hK => ?_) AllReadyH.nil
          go_simp
          refine (awake6_c (HV.out.now hHeld)).mono ?_
          rintro e w8 ⟨rfl, hb8⟩
          replace hHeld := bon hHeld hb8
          clear hb8
          go_wp2_with fail
          refine hK.out _ _ hHeld (fun hHeld' => ?_)
          clear hK K
          try simp only [Act.put, List.setIfInBounds_toArray, List.set_cons_zero, List.set_cons_succ]
          refine wpAnyH_take (i := 19) (oi := { dst := some 116, op := Op.pick (Operand.tmp 114) (Operand.tmp 115) (Operand.const (Value.bool false)), type := 4, pos := "outright.go:133", after := #[{ on := 17, ground := Ground.data }, { on := 18, ground := Ground.data }], guard := none }) (v := ?v10) rfl (by kernel_rfl) (by kernel_rfl) (by kernel_rfl) (fun _ _ _ h => h) (Or.inl ⟨by rfl, ?hy10⟩) (by assumption) ?rest10
          case hy10 => (intro w hSw; (try dsimp only at hSw); go_simp; try with_reducible rfl)
          try simp only [Act.put, List.setIfInBounds_toArray, List.set_cons_zero, List.set_cons_succ]
          refine wpAnyH_take (i := 20) (oi := { dst := some 4, op := Op.assign (Operand.tmp 116), type := 4, pos := "outright.go:133", after := #[{ on := 19, ground := Ground.data }, { on := 18, ground := Ground.chain }, { on := 0, ground := Ground.phase }, { on := 1, ground := Ground.phase }, { on := 2, ground := Ground.phase }, { on := 3, ground := Ground.phase }, { on := 4, ground := Ground.phase }, { on := 5, ground := Ground.phase }, { on := 6, ground := Ground.phase }, { on := 7, ground := Ground.phase }, { on := 8, ground := Ground.phase }, { on := 9, ground := Ground.phase }, { on := 10, ground := Ground.phase }, { on := 11, ground := Ground.phase }, { on := 12, ground := Ground.phase }, { on := 13, ground := Ground.phase }, { on := 14, ground := Ground.phase }, { on := 15, ground := Ground.phase }, { on := 16, ground := Ground.phase }, { on := 17, ground := Ground.phase }, { on := 18, ground := Ground.phase }, { on := 19, ground := Ground.phase }], guard := none }) (v := ?v11) rfl (by kernel_rfl) (by kernel_rfl) (by kernel_rfl) (fun _ _ _ h => h) (Or.inl ⟨by rfl, ?hy11⟩) (by assumption) ?rest11
          case hy11 => (intro w hSw; (try dsimp only at hSw); go_simp; try with_reducible rfl)
          try simp only [Act.put, List.setIfInBounds_toArray, List.set_cons_zero, List.set_cons_succ]
          refine wpAnyH_done (by kernel_rfl) ?_ _
          refine NoPanic.normal ?_
          go_wp2_with fail
          go_ret
          exact ⟨rfl, bon HG.out hHeld⟩
        | false =>
          have k2 := (walL_no hrg).2
          have HRG := Lib.hid hrg
          clear hrg
          refine (walBytes_t (q := 1) (s0.now hb4) (by decide) (by omega) rfl k2).mono ?_
          rintro e w5 ⟨A3, m3, c3, rfl, -, hb5⟩
          clear k2
          replace hb5 := bon hb4 hb5
          clear hb4
          replace hv := hv.now hb5
          replace g0 := bon g0 hb5
          have a0 := HA.out.1.below hb5 (Nat.le_refl _)
          have a1 := HA.out.2.below hb5 (Nat.le_refl _)
          replace s0 := s0.now hb5
          replace s1 := s1.now hb5
          replace f1 := f1.now hb5
          replace f2 := f2.now hb5
          clear hb5 HA
          have HV := Lib.hid hv
          have HG := Lib.hid g0
          have hst : Below w5.heap.size w5 w5.drew := (Below.refl _ _).drew
          clear a0 a1 hv g0 s0 s1 f1 f2
          go_wp2_with fail
          refine wp_region_noPanic ?_
          refine wp_region_held_drew (S := fun w' => Below w5.heap.size w5 w') (by kernel_rfl) hst (fun hHeld => ?_)
          refine wpAnyH_take (i := 0) (oi := { dst := some 97, op := Op.move (Operand.tmp 6), type := 45, pos := "outright.go:133", after := #[], guard := none }) (v := ?v12) rfl (by kernel_rfl) (by kernel_rfl) (by kernel_rfl) (fun _ _ _ h => h) (Or.inl ⟨by rfl, ?hy12⟩) (by assumption) ?rest12
          case hy12 => (intro w hSw; (try dsimp only at hSw); go_simp; try with_reducible rfl)
          try simp only [Act.put, List.setIfInBounds_toArray, List.set_cons_zero, List.set_cons_succ]
          refine wpAnyH_take (i := 1) (oi := { dst := some 98, op := Op.binOp BinOp.neq 45 (Operand.tmp 97) (Operand.const (Value.int IntKind.i64 0)) 45, type := 4, pos := "outright.go:133", after := #[{ on := 0, ground := Ground.data }], guard := none }) (v := ?v13) rfl (by kernel_rfl) (by kernel_rfl) (by kernel_rfl) (fun _ _ _ h => h) (Or.inl ⟨by rfl, ?hy13⟩) (by assumption) ?rest13
          case hy13 => (intro w hSw; (try dsimp only at hSw); go_simp; try with_reducible rfl)
          try simp only [Act.put, List.setIfInBounds_toArray, List.set_cons_zero, List.set_cons_succ]
          refine wpAnyH_take (i := 2) (oi := { dst := some 99, op := Op.move (Operand.tmp 98), type := 4, pos := "outright.go:133", after := #[{ on := 1, ground := Ground.data }], guard := none }) (v := ?v14) rfl (by kernel_rfl) (by kernel_rfl) (by kernel_rfl) (fun _ _ _ h => h) (Or.inl ⟨by rfl, ?hy14⟩) (by assumption) ?rest14
          case hy14 => (intro w hSw; (try dsimp only at hSw); go_simp; try with_reducible rfl)
          try simp only [Act.put, List.setIfInBounds_toArray, List.set_cons_zero, List.set_cons_succ]
          refine wpAnyH_take (i := 3) (oi := { dst := some 100, op := Op.move (Operand.tmp 8), type := 45, pos := "outright.go:133", after := #[{ on := 2, ground := Ground.guard }], guard := some (2, false) }) (v := ?v15) rfl (by kernel_rfl) (by kernel_rfl) (by kernel_rfl) (fun _ _ _ h => h) (Or.inl ⟨by rfl, ?hy15⟩) (by assumption) ?rest15
          case hy15 => (intro w hSw; (try dsimp only at hSw); go_simp; try with_reducible rfl)
          try simp only [Act.put, List.setIfInBounds_toArray, List.set_cons_zero, List.set_cons_succ]
          refine wpAnyH_take (i := 4) (oi := { dst := some 101, op := Op.binOp BinOp.neq 45 (Operand.tmp 100) (Operand.const (Value.int IntKind.i64 0)) 45, type := 4, pos := "outright.go:133", after := #[{ on := 3, ground := Ground.data }, { on := 2, ground := Ground.guard }], guard := some (2, false) }) (v := ?v16) rfl (by kernel_rfl) (by kernel_rfl) (by kernel_rfl) (fun _ _ _ h => h) (Or.inl ⟨by rfl, ?hy16⟩) (by assumption) ?rest16
          case hy16 => (intro w hSw; (try dsimp only at hSw); go_simp; try with_reducible rfl)
          try simp only [Act.put, List.setIfInBounds_toArray, List.set_cons_zero, List.set_cons_succ]
          refine wpAnyH_take (i := 5) (oi := { dst := some 102, op := Op.pick (Operand.tmp 99) (Operand.const (Value.bool true)) (Operand.tmp 101), type := 4, pos := "outright.go:133", after := #[{ on := 2, ground := Ground.data }, { on := 4, ground := Ground.data }], guard := none }) (v := ?v17) rfl (by kernel_rfl) (by kernel_rfl) (by kernel_rfl) (fun _ _ _ h => h) (Or.inl ⟨by rfl, ?hy17⟩) (by assumption) ?rest17
          case hy17 => (intro w hSw; (try dsimp only at hSw); go_simp; try with_reducible rfl)
          try simp only [Act.put, List.setIfInBounds_toArray, List.set_cons_zero, List.set_cons_succ]
          refine wpAnyH_take (i := 6) (oi := { dst := some 103, op := Op.move (Operand.tmp 102), type := 4, pos := "outright.go:133", after := #[{ on := 5, ground := Ground.data }, { on := 2, ground := Ground.chain }], guard := none }) (v := ?v18) rfl (by kernel_rfl) (by kernel_rfl) (by kernel_rfl) (fun _ _ _ h => h) (Or.inl ⟨by rfl, ?hy18⟩) (by assumption) ?rest18
          case hy18 => (intro w hSw; (try dsimp only at hSw); go_simp; try with_reducible rfl)
          try simp only [Act.put, List.setIfInBounds_toArray, List.set_cons_zero, List.set_cons_succ]
          refine wpAnyH_take (i := 7) (oi := { dst := some 104, op := Op.move (Operand.tmp 5), type := 31, pos := "outright.go:133", after := #[{ on := 6, ground := Ground.guard }], guard := some (6, false) }) (v := undef) rfl (by kernel_rfl) (by kernel_rfl) (by kernel_rfl) (fun _ _ _ h => h) (Or.inr ⟨by rfl, rfl⟩) (by assumption) ?_
          try simp only [Act.put, List.setIfInBounds_toArray, List.set_cons_zero, List.set_cons_succ]
          refine wpAnyH_take (i := 8) (oi := { dst := some 105, op := Op.move (Operand.tmp 7), type := 31, pos := "outright.go:133", after := #[{ on := 6, ground := Ground.guard }], guard := some (6, false) }) (v := undef) rfl (by kernel_rfl) (by kernel_rfl) (by kernel_rfl) (fun _ _ _ h => h) (Or.inr ⟨by rfl, rfl⟩) (by assumption) ?_
          try simp only [Act.put, List.setIfInBounds_toArray, List.set_cons_zero, List.set_cons_succ]
          refine wpAnyH_take (i := 10) (oi := { dst := some 107, op := Op.load 28 (Operand.tmp 2), type := 28, pos := "outright.go:133", after := #[{ on := 6, ground := Ground.guard }], guard := some (6, false) }) (v := undef) rfl (by kernel_rfl) (by kernel_rfl) (by kernel_rfl) (fun _ _ _ h => h) (Or.inr ⟨by rfl, rfl⟩) (by assumption) ?_
          try simp only [Act.put, List.setIfInBounds_toArray, List.set_cons_zero, List.set_cons_succ]
          refine wpAnyH_take (i := 12) (oi := { dst := some 109, op := Op.load 28 (Operand.tmp 3), type := 28, pos := "outright.go:133", after := #[{ on := 6, ground := Ground.guard }], guard := some (6, false) }) (v := undef) rfl (by kernel_rfl) (by kernel_rfl) (by kernel_rfl) (fun _ _ _ h => h) (Or.inr ⟨by rfl, rfl⟩) (by assumption) ?_
          try simp only [Act.put, List.setIfInBounds_toArray, List.set_cons_zero, List.set_cons_succ]
          refine wpAnyH_take (i := 9) (oi := { dst := some 106, op := Op.call { callee := Callee.value (Operand.func 15), args := #[Operand.tmp 104, Operand.tmp 105], argTypes := #[31, 31] }, type := 4, pos := "outright.go:133", after := #[{ on := 7, ground := Ground.data }, { on := 8, ground := Ground.data }, { on := 6, ground := Ground.chain }, { on := 6, ground := Ground.guard }], guard := some (6, false) }) (v := undef) rfl (by kernel_rfl) (by kernel_rfl) (by kernel_rfl) (fun _ _ _ h => h) (Or.inr ⟨by rfl, rfl⟩) (by assumption) ?_
          try simp only [Act.put, List.setIfInBounds_toArray, List.set_cons_zero, List.set_cons_succ]
          refine wpAnyH_take (i := 11) (oi := { dst := some 108, op := Op.buildSlice 29 1 #[(0, Operand.tmp 107)], type := 29, pos := "outright.go:133", after := #[{ on := 10, ground := Ground.data }, { on := 6, ground := Ground.guard }], guard := some (6, false) }) (v := undef) rfl (by kernel_rfl) (by kernel_rfl) (by kernel_rfl) (fun _ _ _ h => h) (Or.inr ⟨by rfl, rfl⟩) (by assumption) ?_
          try simp only [Act.put, List.setIfInBounds_toArray, List.set_cons_zero, List.set_cons_succ]
          refine wpAnyH_take (i := 13) (oi := { dst := some 110, op := Op.buildSlice 29 1 #[(0, Operand.tmp 109)], type := 29, pos := "outright.go:133", after := #[{ on := 12, ground := Ground.data }, { on := 6, ground := Ground.guard }], guard := some (6, false) }) (v := undef) rfl (by kernel_rfl) (by kernel_rfl) (by kernel_rfl) (fun _ _ _ h => h) (Or.inr ⟨by rfl, rfl⟩) (by assumption) ?_
          try simp only [Act.put, List.setIfInBounds_toArray, List.set_cons_zero, List.set_cons_succ]
          refine wpAnyH_take (i := 14) (oi := { dst := some 111, op := Op.call { callee := Callee.value (Operand.func 11), args := #[Operand.tmp 108, Operand.tmp 110], argTypes := #[29, 29] }, type := 4, pos := "outright.go:133", after := #[{ on := 11, ground := Ground.data }, { on := 13, ground := Ground.data }, { on := 9, ground := Ground.chain }, { on := 6, ground := Ground.guard }], guard := some (6, false) }) (v := undef) rfl (by kernel_rfl) (by kernel_rfl) (by kernel_rfl) (fun _ _ _ h => h) (Or.inr ⟨by rfl, rfl⟩) (by assumption) ?_
          try simp only [Act.put, List.setIfInBounds_toArray, List.set_cons_zero, List.set_cons_succ]
          refine wpAnyH_take (i := 15) (oi := { dst := some 112, op := Op.binOp BinOp.eql 4 (Operand.tmp 106) (Operand.tmp 111) 4, type := 4, pos := "outright.go:133", after := #[{ on := 9, ground := Ground.data }, { on := 14, ground := Ground.data }, { on := 6, ground := Ground.guard }], guard := some (6, false) }) (v := undef) rfl (by kernel_rfl) (by kernel_rfl) (by kernel_rfl) (fun _ _ _ h => h) (Or.inr ⟨by rfl, rfl⟩) (by assumption) ?_
          try simp only [Act.put, List.setIfInBounds_toArray, List.set_cons_zero, List.set_cons_succ]
          refine wpAnyH_take (i := 16) (oi := { dst := some 113, op := Op.pick (Operand.tmp 103) (Operand.const (Value.bool true)) (Operand.tmp 112), type := 4, pos := "outright.go:133", after := #[{ on := 6, ground := Ground.data }, { on := 15, ground := Ground.data }], guard := none }) (v := ?v19) rfl (by kernel_rfl) (by kernel_rfl) (by kernel_rfl) (fun _ _ _ h => h) (Or.inl ⟨by rfl, ?hy19⟩) (by assumption) ?rest19
          case hy19 => (intro w hSw; (try dsimp only at hSw); go_simp; try with_reducible rfl)
          try simp only [Act.put, List.setIfInBounds_toArray, List.set_cons_zero, List.set_cons_succ]
          refine wpAnyH_take (i := 17) (oi := { dst := some 114, op := Op.move (Operand.tmp 113), type := 4, pos := "outright.go:133", after := #[{ on := 16, ground := Ground.data }, { on := 14, ground := Ground.chain }], guard := none }) (v := ?v20) rfl (by kernel_rfl) (by kernel_rfl) (by kernel_rfl) (fun _ _ _ h => h) (Or.inl ⟨by rfl, ?hy20⟩) (by assumption) ?rest20
          case hy20 => (intro w hSw; (try dsimp only at hSw); go_simp; try with_reducible rfl)
          try simp only [Act.put, List.setIfInBounds_toArray, List.set_cons_zero, List.set_cons_succ]
          refine wpAnyH_ready (rs := [18]) (by kernel_rfl) (by simp) ?_
          refine AllReadyH.cons (o := { dst := some 115, op := Op.call { callee := Callee.value (Operand.func 8), args := #[], argTypes := #[] }, type := 4, pos := "outright.go:133", after := #[{ on := 17, ground := Ground.chain }, { on := 17, ground := Ground.guard }], guard := some (17, true) }) rfl (fun K hK => ?_) AllReadyH.nil
          go_simp
          refine (awake6_c (HV.out.now hHeld)).mono ?_
          rintro e w8 ⟨rfl, hb8⟩
          replace hHeld := bon hHeld hb8
          clear hb8
          go_wp2_with fail
          refine hK.out _ _ hHeld (fun hHeld' => ?_)
          clear hK K
          try simp only [Act.put, List.setIfInBounds_toArray, List.set_cons_zero, List.set_cons_succ]
          refine wpAnyH_take (i := 19) (oi := { dst := some 116, op := Op.pick (Operand.tmp 114) (Operand.tmp 115) (Operand.const (Value.bool false)), type := 4, pos := "outright.go:133", after := #[{ on := 17, ground := Ground.data }, { on := 18, ground := Ground.data }], guard := none }) (v := ?v21) rfl (by kernel_rfl) (by kernel_rfl) (by kernel_rfl) (fun _ _ _ h => h) (Or.inl ⟨by rfl, ?hy21⟩) (by assumption) ?rest21
          case hy21 => (intro w hSw; (try dsimp only at hSw); go_simp; try with_reducible rfl)
          try simp only [Act.put, List.setIfInBounds_toArray, List.set_cons_zero, List.set_cons_succ]
          refine wpAnyH_take (i := 20) (oi := { dst := some 4, op := Op.assign (Operand.tmp 116), type := 4, pos := "outright.go:133", after := #[{ on := 19, ground := Ground.data }, { on := 18, ground := Ground.chain }, { on := 0, ground := Ground.phase }, { on := 1, ground := Ground.phase }, { on := 2, ground := Ground.phase }, { on := 3, ground := Ground.phase }, { on := 4, ground := Ground.phase }, { on := 5, ground := Ground.phase }, { on := 6, ground := Ground.phase }, { on := 7, ground := Ground.phase }, { on := 8, ground := Ground.phase }, { on := 9, ground := Ground.phase }, { on := 10, ground := Ground.phase }, { on := 11, ground := Ground.phase }, { on := 12, ground := Ground.phase }, { on := 13, ground := Ground.phase }, { on := 14, ground := Ground.phase }, { on := 15, ground := Ground.phase }, { on := 16, ground := Ground.phase }, { on := 17, ground := Ground.phase }, { on := 18, ground := Ground.phase }, { on := 19, ground := Ground.phase }], guard := none }) (v := ?v22) rfl (by kernel_rfl) (by kernel_rfl) (by kernel_rfl) (fun _ _ _ h => h) (Or.inl ⟨by rfl, ?hy22⟩) (by assumption) ?rest22
          case hy22 => (intro w hSw; (try dsimp only at hSw); go_simp; try with_reducible rfl)
          try simp only [Act.put, List.setIfInBounds_toArray, List.set_cons_zero, List.set_cons_succ]
          refine wpAnyH_done (by kernel_rfl) ?_ _
          refine NoPanic.normal ?_
          go_wp2_with fail
          go_ret
          exact ⟨rfl, bon HG.out hHeld⟩
    | false =>
      have k0 := (walL_no hr0).2
      have HN0 := Lib.hid hr0
      clear hr0
      refine (walBytes_t s0 q0 (by omega) HL0.out k0).mono ?_
      rintro e w2 ⟨A1, m1, c1, rfl, hf1, hb2⟩
      clear k0
      replace hv := hv.now hb2
      replace g0 := bon g0 hb2
      replace a0 := a0.below hb2 (Nat.le_refl _)
      replace a1 := a1.below hb2 (Nat.le_refl _)
      replace s0 := s0.now hb2
      replace s1 := s1.now hb2
      have f1 := hf1.here
      clear hb2 hf1
      obtain ⟨a1a, a1b⟩ := a1.cells
      go_wp2_with fail
      clear a1a a1b
      cases hr1 : recB x1.q x1.L with
      | true =>
        have k1 := (walL_yes hr1).2
        have HR1 := Lib.hid hr1
        clear hr1
        refine (walBytes_t s1 q1 (by omega) HL1.out k1).mono ?_
        rintro e w3 ⟨A2, m2, c2, rfl, hf2, hb3⟩
        clear k1
        replace hv := hv.now hb3
        replace g0 := bon g0 hb3
        replace a0 := a0.below hb3 (Nat.le_refl _)
        replace a1 := a1.below hb3 (Nat.le_refl _)
        replace s0 := s0.now hb3
        replace s1 := s1.now hb3
        replace f1 := f1.now hb3
        have f2 := hf2.here
        clear hb3 hf2
        obtain ⟨a0a, a0b⟩ := a0.cells
        have hl00 : l0 = [] := by rw [← HL0.out]; exact (walL_no HN0.out).1
        obtain rfl : 0 = m1 := by have h := f1.len; rw [hl00] at h; simpa using h
        have e6 : ((60 : Int) == 0) = false := by decide
        have e10 : ((60 : Int) != 0) = true := by decide
        have e7 : ((60 : Int) != 60) = false := by decide
        clear hl00
        have hb4 := below_alloc w3 (.cells #[.int .u64 1, .slice x0.A x0.n x0.c] 28)
        go_wp2_with fail
        have HA := Lib.hid (And.intro a0 a1)
        clear a0a a0b a0 a1
        cases hrg : recB 1 x0.L with
        | true =>
          have k2 := (walL_yes hrg).2
          have HRG := Lib.hid hrg
          clear hrg
          refine (walBytes_t (q := 1) (s0.now hb4) (by decide) (by omega) rfl k2).mono ?_
          rintro e w5 ⟨A3, m3, c3, rfl, -, hb5⟩
          clear k2
          replace hb5 := bon hb4 hb5
          clear hb4
          replace hv := hv.now hb5
          replace g0 := bon g0 hb5
          have a0 := HA.out.1.below hb5 (Nat.le_refl _)
          have a1 := HA.out.2.below hb5 (Nat.le_refl _)
          replace s0 := s0.now hb5
          replace s1 := s1.now hb5
          replace f1 := f1.now hb5
          replace f2 := f2.now hb5
          clear hb5 HA
          obtain ⟨a0a, a0b⟩ := a0.cells
          have hcon : x0.q = 0 ∨ 72057594037927735 < x0.q := by
            have h1 := (recB_iff.1 HRG.out).1
            have h2 := (grpB_iff.1 h1).2.1
            rcases Nat.eq_zero_or_pos x0.q with h | h
            · exact .inl h
            · refine .inr (Nat.lt_of_not_le fun h3 => ?_)
              have h4 := recB_iff.2 ⟨h1, h, by omega⟩
              rw [HN0.out] at h4
              cases h4
          rcases hcon with hc | hc
          · have e8 : decide ((0 : Int) < (x0.q : Int)) = false := by simp; omega
            have e8' : decide (0 < x0.q) = false := by simp; omega
            have HV := Lib.hid hv
            have HG := Lib.hid g0
            have hst : Below w5.heap.size w5 w5.drew := (Below.refl _ _).drew
            clear a0 a1 hv g0 s0 s1 f1 f2
            go_wp2_with fail
            refine wp_region_noPanic ?_
            refine wp_region_held_drew (S := fun w' => Below w5.heap.size w5 w') (by kernel_rfl) hst (fun hHeld => ?_)
            refine wpAnyH_take (i := 0) (oi := { dst := some 97, op := Op.move (Operand.tmp 6), type := 45, pos := "outright.go:133", after := #[], guard := none }) (v := ?v23) rfl (by kernel_rfl) (by kernel_rfl) (by kernel_rfl) (fun _ _ _ h => h) (Or.inl ⟨by rfl, ?hy23⟩) (by assumption) ?rest23
            case hy23 => (intro w hSw; (try dsimp only at hSw); go_simp; try with_reducible rfl)
            try simp only [Act.put, List.setIfInBounds_toArray, List.set_cons_zero, List.set_cons_succ]
            refine wpAnyH_take (i := 1) (oi := { dst := some 98, op := Op.binOp BinOp.neq 45 (Operand.tmp 97) (Operand.const (Value.int IntKind.i64 0)) 45, type := 4, pos := "outright.go:133", after := #[{ on := 0, ground := Ground.data }], guard := none }) (v := ?v24) rfl (by kernel_rfl) (by kernel_rfl) (by kernel_rfl) (fun _ _ _ h => h) (Or.inl ⟨by rfl, ?hy24⟩) (by assumption) ?rest24
            case hy24 => (intro w hSw; (try dsimp only at hSw); go_simp; try with_reducible rfl)
            try simp only [Act.put, List.setIfInBounds_toArray, List.set_cons_zero, List.set_cons_succ]
            refine wpAnyH_take (i := 2) (oi := { dst := some 99, op := Op.move (Operand.tmp 98), type := 4, pos := "outright.go:133", after := #[{ on := 1, ground := Ground.data }], guard := none }) (v := ?v25) rfl (by kernel_rfl) (by kernel_rfl) (by kernel_rfl) (fun _ _ _ h => h) (Or.inl ⟨by rfl, ?hy25⟩) (by assumption) ?rest25
            case hy25 => (intro w hSw; (try dsimp only at hSw); go_simp; try with_reducible rfl)
            try simp only [Act.put, List.setIfInBounds_toArray, List.set_cons_zero, List.set_cons_succ]
            refine wpAnyH_take (i := 3) (oi := { dst := some 100, op := Op.move (Operand.tmp 8), type := 45, pos := "outright.go:133", after := #[{ on := 2, ground := Ground.guard }], guard := some (2, false) }) (v := undef) rfl (by kernel_rfl) (by kernel_rfl) (by kernel_rfl) (fun _ _ _ h => h) (Or.inr ⟨by rfl, rfl⟩) (by assumption) ?_
            try simp only [Act.put, List.setIfInBounds_toArray, List.set_cons_zero, List.set_cons_succ]
            refine wpAnyH_take (i := 4) (oi := { dst := some 101, op := Op.binOp BinOp.neq 45 (Operand.tmp 100) (Operand.const (Value.int IntKind.i64 0)) 45, type := 4, pos := "outright.go:133", after := #[{ on := 3, ground := Ground.data }, { on := 2, ground := Ground.guard }], guard := some (2, false) }) (v := undef) rfl (by kernel_rfl) (by kernel_rfl) (by kernel_rfl) (fun _ _ _ h => h) (Or.inr ⟨by rfl, rfl⟩) (by assumption) ?_
            try simp only [Act.put, List.setIfInBounds_toArray, List.set_cons_zero, List.set_cons_succ]
            refine wpAnyH_take (i := 5) (oi := { dst := some 102, op := Op.pick (Operand.tmp 99) (Operand.const (Value.bool true)) (Operand.tmp 101), type := 4, pos := "outright.go:133", after := #[{ on := 2, ground := Ground.data }, { on := 4, ground := Ground.data }], guard := none }) (v := ?v26) rfl (by kernel_rfl) (by kernel_rfl) (by kernel_rfl) (fun _ _ _ h => h) (Or.inl ⟨by rfl, ?hy26⟩) (by assumption) ?rest26
            case hy26 => (intro w hSw; (try dsimp only at hSw); go_simp; try with_reducible rfl)
            try simp only [Act.put, List.setIfInBounds_toArray, List.set_cons_zero, List.set_cons_succ]
            refine wpAnyH_take (i := 6) (oi := { dst := some 103, op := Op.move (Operand.tmp 102), type := 4, pos := "outright.go:133", after := #[{ on := 5, ground := Ground.data }, { on := 2, ground := Ground.chain }], guard := none }) (v := ?v27) rfl (by kernel_rfl) (by kernel_rfl) (by kernel_rfl) (fun _ _ _ h => h) (Or.inl ⟨by rfl, ?hy27⟩) (by assumption) ?rest27
            case hy27 => (intro w hSw; (try dsimp only at hSw); go_simp; try with_reducible rfl)
            try simp only [Act.put, List.setIfInBounds_toArray, List.set_cons_zero, List.set_cons_succ]
            refine wpAnyH_take (i := 7) (oi := { dst := some 104, op := Op.move (Operand.tmp 5), type := 31, pos := "outright.go:133", after := #[{ on := 6, ground := Ground.guard }], guard := some (6, false) }) (v := undef) rfl (by kernel_rfl) (by kernel_rfl) (by kernel_rfl) (fun _ _ _ h => h) (Or.inr ⟨by rfl, rfl⟩) (by assumption) ?_
            try simp only [Act.put, List.setIfInBounds_toArray, List.set_cons_zero, List.set_cons_succ]
            refine wpAnyH_take (i := 8) (oi := { dst := some 105, op := Op.move (Operand.tmp 7), type := 31, pos := "outright.go:133", after := #[{ on := 6, ground := Ground.guard }], guard := some (6, false) }) (v := undef) rfl (by kernel_rfl) (by kernel_rfl) (by kernel_rfl) (fun _ _ _ h => h) (Or.inr ⟨by rfl, rfl⟩) (by assumption) ?_
            try simp only [Act.put, List.setIfInBounds_toArray, List.set_cons_zero, List.set_cons_succ]
            refine wpAnyH_take (i := 10) (oi := { dst := some 107, op := Op.load 28 (Operand.tmp 2), type := 28, pos := "outright.go:133", after := #[{ on := 6, ground := Ground.guard }], guard := some (6, false) }) (v := undef) rfl (by kernel_rfl) (by kernel_rfl) (by kernel_rfl) (fun _ _ _ h => h) (Or.inr ⟨by rfl, rfl⟩) (by assumption) ?_
            try simp only [Act.put, List.setIfInBounds_toArray, List.set_cons_zero, List.set_cons_succ]
            refine wpAnyH_take (i := 12) (oi := { dst := some 109, op := Op.load 28 (Operand.tmp 3), type := 28, pos := "outright.go:133", after := #[{ on := 6, ground := Ground.guard }], guard := some (6, false) }) (v := undef) rfl (by kernel_rfl) (by kernel_rfl) (by kernel_rfl) (fun _ _ _ h => h) (Or.inr ⟨by rfl, rfl⟩) (by assumption) ?_
            try simp only [Act.put, List.setIfInBounds_toArray, List.set_cons_zero, List.set_cons_succ]
            refine wpAnyH_take (i := 9) (oi := { dst := some 106, op := Op.call { callee := Callee.value (Operand.func 15), args := #[Operand.tmp 104, Operand.tmp 105], argTypes := #[31, 31] }, type := 4, pos := "outright.go:133", after := #[{ on := 7, ground := Ground.data }, { on := 8, ground := Ground.data }, { on := 6, ground := Ground.chain }, { on := 6, ground := Ground.guard }], guard := some (6, false) }) (v := undef) rfl (by kernel_rfl) (by kernel_rfl) (by kernel_rfl) (fun _ _ _ h => h) (Or.inr ⟨by rfl, rfl⟩) (by assumption) ?_
            try simp only [Act.put, List.setIfInBounds_toArray, List.set_cons_zero, List.set_cons_succ]
            refine wpAnyH_take (i := 11) (oi := { dst := some 108, op := Op.buildSlice 29 1 #[(0, Operand.tmp 107)], type := 29, pos := "outright.go:133", after := #[{ on := 10, ground := Ground.data }, { on := 6, ground := Ground.guard }], guard := some (6, false) }) (v := undef) rfl (by kernel_rfl) (by kernel_rfl) (by kernel_rfl) (fun _ _ _ h => h) (Or.inr ⟨by rfl, rfl⟩) (by assumption) ?_
            try simp only [Act.put, List.setIfInBounds_toArray, List.set_cons_zero, List.set_cons_succ]
            refine wpAnyH_take (i := 13) (oi := { dst := some 110, op := Op.buildSlice 29 1 #[(0, Operand.tmp 109)], type := 29, pos := "outright.go:133", after := #[{ on := 12, ground := Ground.data }, { on := 6, ground := Ground.guard }], guard := some (6, false) }) (v := undef) rfl (by kernel_rfl) (by kernel_rfl) (by kernel_rfl) (fun _ _ _ h => h) (Or.inr ⟨by rfl, rfl⟩) (by assumption) ?_
            try simp only [Act.put, List.setIfInBounds_toArray, List.set_cons_zero, List.set_cons_succ]
            refine wpAnyH_take (i := 14) (oi := { dst := some 111, op := Op.call { callee := Callee.value (Operand.func 11), args := #[Operand.tmp 108, Operand.tmp 110], argTypes := #[29, 29] }, type := 4, pos := "outright.go:133", after := #[{ on := 11, ground := Ground.data }, { on := 13, ground := Ground.data }, { on := 9, ground := Ground.chain }, { on := 6, ground := Ground.guard }], guard := some (6, false) }) (v := undef) rfl (by kernel_rfl) (by kernel_rfl) (by kernel_rfl) (fun _ _ _ h => h) (Or.inr ⟨by rfl, rfl⟩) (by assumption) ?_
            try simp only [Act.put, List.setIfInBounds_toArray, List.set_cons_zero, List.set_cons_succ]
            refine wpAnyH_take (i := 15) (oi := { dst := some 112, op := Op.binOp BinOp.eql 4 (Operand.tmp 106) (Operand.tmp 111) 4, type := 4, pos := "outright.go:133", after := #[{ on := 9, ground := Ground.data }, { on := 14, ground := Ground.data }, { on := 6, ground := Ground.guard }], guard := some (6, false) }) (v := undef) rfl (by kernel_rfl) (by kernel_rfl) (by kernel_rfl) (fun _ _ _ h => h) (Or.inr ⟨by rfl, rfl⟩) (by assumption) ?_
            try simp only [Act.put, List.setIfInBounds_toArray, List.set_cons_zero, List.set_cons_succ]
            refine wpAnyH_take (i := 16) (oi := { dst := some 113, op := Op.pick (Operand.tmp 103) (Operand.const (Value.bool true)) (Operand.tmp 112), type := 4, pos := "outright.go:133", after := #[{ on := 6, ground := Ground.data }, { on := 15, ground := Ground.data }], guard := none }) (v := ?v28) rfl (by kernel_rfl) (by kernel_rfl) (by kernel_rfl) (fun _ _ _ h => h) (Or.inl ⟨by rfl, ?hy28⟩) (by assumption) ?rest28
            case hy28 => (intro w hSw; (try dsimp only at hSw); go_simp; try with_reducible rfl)
            try simp only [Act.put, List.setIfInBounds_toArray, List.set_cons_zero, List.set_cons_succ]
            refine wpAnyH_take (i := 17) (oi := { dst := some 114, op := Op.move (Operand.tmp 113), type := 4, pos := "outright.go:133", after := #[{ on := 16, ground := Ground.data }, { on := 14, ground := Ground.chain }], guard := none }) (v := ?v29) rfl (by kernel_rfl) (by kernel_rfl) (by kernel_rfl) (fun _ _ _ h => h) (Or.inl ⟨by rfl, ?hy29⟩) (by assumption) ?rest29
            case hy29 => (intro w hSw; (try dsimp only at hSw); go_simp; try with_reducible rfl)
            try simp only [Act.put, List.setIfInBounds_toArray, List.set_cons_zero, List.set_cons_succ]
            refine wpAnyH_ready (rs := [18]) (by kernel_rfl) (by simp) ?_
            refine AllReadyH.cons (o := { dst := some 115, op := Op.call { callee := Callee.value (Operand.func 8), args := #[], argTypes := #[] }, type := 4, pos := "outright.go:133", after := #[{ on := 17, ground := Ground.chain }, { on := 17, ground := Ground.guard }], guard := some (17, true) }) rfl (fun K hK => ?_) AllReadyH.nil
            go_simp
            refine (awake6_c (HV.out.now hHeld)).mono ?_
            rintro e w8 ⟨rfl, hb8⟩
            replace hHeld := bon hHeld hb8
            clear hb8
            go_wp2_with fail
            refine hK.out _ _ hHeld (fun hHeld' => ?_)
            clear hK K
            try simp only [Act.put, List.setIfInBounds_toArray, List.set_cons_zero, List.set_cons_succ]
            refine wpAnyH_take (i := 19) (oi := { dst := some 116, op := Op.pick (Operand.tmp 114) (Operand.tmp 115) (Operand.const (Value.bool false)), type := 4, pos := "outright.go:133", after := #[{ on := 17, ground := Ground.data }, { on := 18, ground := Ground.data }], guard := none }) (v := ?v30) rfl (by kernel_rfl) (by kernel_rfl) (by kernel_rfl) (fun _ _ _ h => h) (Or.inl ⟨by rfl, ?hy30⟩) (by assumption) ?rest30
            case hy30 => (intro w hSw; (try dsimp only at hSw); go_simp; try with_reducible rfl)
            try simp only [Act.put, List.setIfInBounds_toArray, List.set_cons_zero, List.set_cons_succ]
            refine wpAnyH_take (i := 20) (oi := { dst := some 4, op := Op.assign (Operand.tmp 116), type := 4, pos := "outright.go:133", after := #[{ on := 19, ground := Ground.data }, { on := 18, ground := Ground.chain }, { on := 0, ground := Ground.phase }, { on := 1, ground := Ground.phase }, { on := 2, ground := Ground.phase }, { on := 3, ground := Ground.phase }, { on := 4, ground := Ground.phase }, { on := 5, ground := Ground.phase }, { on := 6, ground := Ground.phase }, { on := 7, ground := Ground.phase }, { on := 8, ground := Ground.phase }, { on := 9, ground := Ground.phase }, { on := 10, ground := Ground.phase }, { on := 11, ground := Ground.phase }, { on := 12, ground := Ground.phase }, { on := 13, ground := Ground.phase }, { on := 14, ground := Ground.phase }, { on := 15, ground := Ground.phase }, { on := 16, ground := Ground.phase }, { on := 17, ground := Ground.phase }, { on := 18, ground := Ground.phase }, { on := 19, ground := Ground.phase }], guard := none }) (v := ?v31) rfl (by kernel_rfl) (by kernel_rfl) (by kernel_rfl) (fun _ _ _ h => h) (Or.inl ⟨by rfl, ?hy31⟩) (by assumption) ?rest31
            case hy31 => (intro w hSw; (try dsimp only at hSw); go_simp; try with_reducible rfl)
            try simp only [Act.put, List.setIfInBounds_toArray, List.set_cons_zero, List.set_cons_succ]
            refine wpAnyH_done (by kernel_rfl) ?_ _
            refine NoPanic.normal ?_
            go_wp2_with fail
            go_ret
            exact ⟨rfl, bon HG.out hHeld⟩
          · have e8 : decide ((0 : Int) < (x0.q : Int)) = true := by simp; omega
            have e8' : decide (0 < x0.q) = true := by simp; omega
            have e9 : decide ((x0.q : Int) ≤ 72057594037927735) = false := by simp; omega
            have e9' : decide (x0.q ≤ 72057594037927735) = false := by simp; omega
            have HV := Lib.hid hv
            have HG := Lib.hid g0
            have hst : Below w5.heap.size w5 w5.drew := (Below.refl _ _).drew
            clear a0 a1 hv g0 s0 s1 f1 f2
            go_wp2_with fail
            refine wp_region_noPanic ?_
            refine wp_region_held_drew (S := fun w' => Below w5.heap.size w5 w') (by kernel_rfl) hst (fun hHeld => ?_)
            refine wpAnyH_take (i := 0) (oi := { dst := some 97, op := Op.move (Operand.tmp 6), type := 45, pos := "outright.go:133", after := #[], guard := none }) (v := ?v32) rfl (by kernel_rfl) (by kernel_rfl) (by kernel_rfl) (fun _ _ _ h => h) (Or.inl ⟨by rfl, ?hy32⟩) (by assumption) ?rest32
            case hy32 => (intro w hSw; (try dsimp only at hSw); go_simp; try with_reducible rfl)
            try simp only [Act.put, List.setIfInBounds_toArray, List.set_cons_zero, List.set_cons_succ]
            refine wpAnyH_take (i := 1) (oi := { dst := some 98, op := Op.binOp BinOp.neq 45 (Operand.tmp 97) (Operand.const (Value.int IntKind.i64 0)) 45, type := 4, pos := "outright.go:133", after := #[{ on := 0, ground := Ground.data }], guard := none }) (v := ?v33) rfl (by kernel_rfl) (by kernel_rfl) (by kernel_rfl) (fun _ _ _ h => h) (Or.inl ⟨by rfl, ?hy33⟩) (by assumption) ?rest33
            case hy33 => (intro w hSw; (try dsimp only at hSw); go_simp; try with_reducible rfl)
            try simp only [Act.put, List.setIfInBounds_toArray, List.set_cons_zero, List.set_cons_succ]
            refine wpAnyH_take (i := 2) (oi := { dst := some 99, op := Op.move (Operand.tmp 98), type := 4, pos := "outright.go:133", after := #[{ on := 1, ground := Ground.data }], guard := none }) (v := ?v34) rfl (by kernel_rfl) (by kernel_rfl) (by kernel_rfl) (fun _ _ _ h => h) (Or.inl ⟨by rfl, ?hy34⟩) (by assumption) ?rest34
            case hy34 => (intro w hSw; (try dsimp only at hSw); go_simp; try with_reducible rfl)
            try simp only [Act.put, List.setIfInBounds_toArray, List.set_cons_zero, List.set_cons_succ]
            refine wpAnyH_take (i := 3) (oi := { dst := some 100, op := Op.move (Operand.tmp 8), type := 45, pos := "outright.go:133", after := #[{ on := 2, ground := Ground.guard }], guard := some (2, false) }) (v := undef) rfl (by kernel_rfl) (by kernel_rfl) (by kernel_rfl) (fun _ _ _ h => h) (Or.inr ⟨by rfl, rfl⟩) (by assumption) ?_
            try simp only [Act.put, List.setIfInBounds_toArray, List.set_cons_zero, List.set_cons_succ]
            refine wpAnyH_take (i := 4) (oi := { dst := some 101, op := Op.binOp BinOp.neq 45 (Operand.tmp 100) (Operand.const (Value.int IntKind.i64 0)) 45, type := 4, pos := "outright.go:133", after := #[{ on := 3, ground := Ground.data }, { on := 2, ground := Ground.guard }], guard := some (2, false) }) (v := undef) rfl (by kernel_rfl) (by kernel_rfl) (by kernel_rfl) (fun _ _ _ h => h) (Or.inr ⟨by rfl, rfl⟩) (by assumption) ?_
            try simp only [Act.put, List.setIfInBounds_toArray, List.set_cons_zero, List.set_cons_succ]
            refine wpAnyH_take (i := 5) (oi := { dst := some 102, op := Op.pick (Operand.tmp 99) (Operand.const (Value.bool true)) (Operand.tmp 101), type := 4, pos := "outright.go:133", after := #[{ on := 2, ground := Ground.data }, { on := 4, ground := Ground.data }], guard := none }) (v := ?v35) rfl (by kernel_rfl) (by kernel_rfl) (by kernel_rfl) (fun _ _ _ h => h) (Or.inl ⟨by rfl, ?hy35⟩) (by assumption) ?rest35
            case hy35 => (intro w hSw; (try dsimp only at hSw); go_simp; try with_reducible rfl)
            try simp only [Act.put, List.setIfInBounds_toArray, List.set_cons_zero, List.set_cons_succ]
            refine wpAnyH_take (i := 6) (oi := { dst := some 103, op := Op.move (Operand.tmp 102), type := 4, pos := "outright.go:133", after := #[{ on := 5, ground := Ground.data }, { on := 2, ground := Ground.chain }], guard := none }) (v := ?v36) rfl (by kernel_rfl) (by kernel_rfl) (by kernel_rfl) (fun _ _ _ h => h) (Or.inl ⟨by rfl, ?hy36⟩) (by assumption) ?rest36
            case hy36 => (intro w hSw; (try dsimp only at hSw); go_simp; try with_reducible rfl)
            try simp only [Act.put, List.setIfInBounds_toArray, List.set_cons_zero, List.set_cons_succ]
            refine wpAnyH_take (i := 7) (oi := { dst := some 104, op := Op.move (Operand.tmp 5), type := 31, pos := "outright.go:133", after := #[{ on := 6, ground := Ground.guard }], guard := some (6, false) }) (v := undef) rfl (by kernel_rfl) (by kernel_rfl) (by kernel_rfl) (fun _ _ _ h => h) (Or.inr ⟨by rfl, rfl⟩) (by assumption) ?_
            try simp only [Act.put, List.setIfInBounds_toArray, List.set_cons_zero, List.set_cons_succ]
            refine wpAnyH_take (i := 8) (oi := { dst := some 105, op := Op.move (Operand.tmp 7), type := 31, pos := "outright.go:133", after := #[{ on := 6, ground := Ground.guard }], guard := some (6, false) }) (v := undef) rfl (by kernel_rfl) (by kernel_rfl) (by kernel_rfl) (fun _ _ _ h => h) (Or.inr ⟨by rfl, rfl⟩) (by assumption) ?_
            try simp only [Act.put, List.setIfInBounds_toArray, List.set_cons_zero, List.set_cons_succ]
            refine wpAnyH_take (i := 10) (oi := { dst := some 107, op := Op.load 28 (Operand.tmp 2), type := 28, pos := "outright.go:133", after := #[{ on := 6, ground := Ground.guard }], guard := some (6, false) }) (v := undef) rfl (by kernel_rfl) (by kernel_rfl) (by kernel_rfl) (fun _ _ _ h => h) (Or.inr ⟨by rfl, rfl⟩) (by assumption) ?_
            try simp only [Act.put, List.setIfInBounds_toArray, List.set_cons_zero, List.set_cons_succ]
            refine wpAnyH_take (i := 12) (oi := { dst := some 109, op := Op.load 28 (Operand.tmp 3), type := 28, pos := "outright.go:133", after := #[{ on := 6, ground := Ground.guard }], guard := some (6, false) }) (v := undef) rfl (by kernel_rfl) (by kernel_rfl) (by kernel_rfl) (fun _ _ _ h => h) (Or.inr ⟨by rfl, rfl⟩) (by assumption) ?_
            try simp only [Act.put, List.setIfInBounds_toArray, List.set_cons_zero, List.set_cons_succ]
            refine wpAnyH_take (i := 9) (oi := { dst := some 106, op := Op.call { callee := Callee.value (Operand.func 15), args := #[Operand.tmp 104, Operand.tmp 105], argTypes := #[31, 31] }, type := 4, pos := "outright.go:133", after := #[{ on := 7, ground := Ground.data }, { on := 8, ground := Ground.data }, { on := 6, ground := Ground.chain }, { on := 6, ground := Ground.guard }], guard := some (6, false) }) (v := undef) rfl (by kernel_rfl) (by kernel_rfl) (by kernel_rfl) (fun _ _ _ h => h) (Or.inr ⟨by rfl, rfl⟩) (by assumption) ?_
            try simp only [Act.put, List.setIfInBounds_toArray, List.set_cons_zero, List.set_cons_succ]
            refine wpAnyH_take (i := 11) (oi := { dst := some 108, op := Op.buildSlice 29 1 #[(0, Operand.tmp 107)], type := 29, pos := "outright.go:133", after := #[{ on := 10, ground := Ground.data }, { on := 6, ground := Ground.guard }], guard := some (6, false) }) (v := undef) rfl (by kernel_rfl) (by kernel_rfl) (by kernel_rfl) (fun _ _ _ h => h) (Or.inr ⟨by rfl, rfl⟩) (by assumption) ?_
            try simp only [Act.put, List.setIfInBounds_toArray, List.set_cons_zero, List.set_cons_succ]
            refine wpAnyH_take (i := 13) (oi := { dst := some 110, op := Op.buildSlice 29 1 #[(0, Operand.tmp 109)], type := 29, pos := "outright.go:133", after := #[{ on := 12, ground := Ground.data }, { on := 6, ground := Ground.guard }], guard := some (6, false) }) (v := undef) rfl (by kernel_rfl) (by kernel_rfl) (by kernel_rfl) (fun _ _ _ h => h) (Or.inr ⟨by rfl, rfl⟩) (by assumption) ?_
            try simp only [Act.put, List.setIfInBounds_toArray, List.set_cons_zero, List.set_cons_succ]
            refine wpAnyH_take (i := 14) (oi := { dst := some 111, op := Op.call { callee := Callee.value (Operand.func 11), args := #[Operand.tmp 108, Operand.tmp 110], argTypes := #[29, 29] }, type := 4, pos := "outright.go:133", after := #[{ on := 11, ground := Ground.data }, { on := 13, ground := Ground.data }, { on := 9, ground := Ground.chain }, { on := 6, ground := Ground.guard }], guard := some (6, false) }) (v := undef) rfl (by kernel_rfl) (by kernel_rfl) (by kernel_rfl) (fun _ _ _ h => h) (Or.inr ⟨by rfl, rfl⟩) (by assumption) ?_
            try simp only [Act.put, List.setIfInBounds_toArray, List.set_cons_zero, List.set_cons_succ]
            refine wpAnyH_take (i := 15) (oi := { dst := some 112, op := Op.binOp BinOp.eql 4 (Operand.tmp 106) (Operand.tmp 111) 4, type := 4, pos := "outright.go:133", after := #[{ on := 9, ground := Ground.data }, { on := 14, ground := Ground.data }, { on := 6, ground := Ground.guard }], guard := some (6, false) }) (v := undef) rfl (by kernel_rfl) (by kernel_rfl) (by kernel_rfl) (fun _ _ _ h => h) (Or.inr ⟨by rfl, rfl⟩) (by assumption) ?_
            try simp only [Act.put, List.setIfInBounds_toArray, List.set_cons_zero, List.set_cons_succ]
            refine wpAnyH_take (i := 16) (oi := { dst := some 113, op := Op.pick (Operand.tmp 103) (Operand.const (Value.bool true)) (Operand.tmp 112), type := 4, pos := "outright.go:133", after := #[{ on := 6, ground := Ground.data }, { on := 15, ground := Ground.data }], guard := none }) (v := ?v37) rfl (by kernel_rfl) (by kernel_rfl) (by kernel_rfl) (fun _ _ _ h => h) (Or.inl ⟨by rfl, ?hy37⟩) (by assumption) ?rest37
            case hy37 => (intro w hSw; (try dsimp only at hSw); go_simp; try with_reducible rfl)
            try simp only [Act.put, List.setIfInBounds_toArray, List.set_cons_zero, List.set_cons_succ]
            refine wpAnyH_take (i := 17) (oi := { dst := some 114, op := Op.move (Operand.tmp 113), type := 4, pos := "outright.go:133", after := #[{ on := 16, ground := Ground.data }, { on := 14, ground := Ground.chain }], guard := none }) (v := ?v38) rfl (by kernel_rfl) (by kernel_rfl) (by kernel_rfl) (fun _ _ _ h => h) (Or.inl ⟨by rfl, ?hy38⟩) (by assumption) ?rest38
            case hy38 => (intro w hSw; (try dsimp only at hSw); go_simp; try with_reducible rfl)
            try simp only [Act.put, List.setIfInBounds_toArray, List.set_cons_zero, List.set_cons_succ]
            refine wpAnyH_ready (rs := [18]) (by kernel_rfl) (by simp) ?_
            refine AllReadyH.cons (o := { dst := some 115, op := Op.call { callee := Callee.value (Operand.func 8), args := #[], argTypes := #[] }, type := 4, pos := "outright.go:133", after := #[{ on := 17, ground := Ground.chain }, { on := 17, ground := Ground.guard }], guard := some (17, true) }) rfl (fun K hK => ?_) AllReadyH.nil
            go_simp
            refine (awake6_c (HV.out.now hHeld)).mono ?_
            rintro e w8 ⟨rfl, hb8⟩
            replace hHeld := bon hHeld hb8
            clear hb8
            go_wp2_with fail
            refine hK.out _ _ hHeld (fun hHeld' => ?_)
            clear hK K
            try simp only [Act.put, List.setIfInBounds_toArray, List.set_cons_zero, List.set_cons_succ]
            refine wpAnyH_take (i := 19) (oi := { dst := some 116, op := Op.pick (Operand.tmp 114) (Operand.tmp 115) (Operand.const (Value.bool false)), type := 4, pos := "outright.go:133", after := #[{ on := 17, ground := Ground.data }, { on := 18, ground := Ground.data }], guard := none }) (v := ?v39) rfl (by kernel_rfl) (by kernel_rfl) (by kernel_rfl) (fun _ _ _ h => h) (Or.inl ⟨by rfl, ?hy39⟩) (by assumption) ?rest39
            case hy39 => (intro w hSw; (try dsimp only at hSw); go_simp; try with_reducible rfl)
            try simp only [Act.put, List.setIfInBounds_toArray, List.set_cons_zero, List.set_cons_succ]
            refine wpAnyH_take (i := 20) (oi := { dst := some 4, op := Op.assign (Operand.tmp 116), type := 4, pos := "outright.go:133", after := #[{ on := 19, ground := Ground.data }, { on := 18, ground := Ground.chain }, { on := 0, ground := Ground.phase }, { on := 1, ground := Ground.phase }, { on := 2, ground := Ground.phase }, { on := 3, ground := Ground.phase }, { on := 4, ground := Ground.phase }, { on := 5, ground := Ground.phase }, { on := 6, ground := Ground.phase }, { on := 7, ground := Ground.phase }, { on := 8, ground := Ground.phase }, { on := 9, ground := Ground.phase }, { on := 10, ground := Ground.phase }, { on := 11, ground := Ground.phase }, { on := 12, ground := Ground.phase }, { on := 13, ground := Ground.phase }, { on := 14, ground := Ground.phase }, { on := 15, ground := Ground.phase }, { on := 16, ground := Ground.phase }, { on := 17, ground := Ground.phase }, { on := 18, ground := Ground.phase }, { on := 19, ground := Ground.phase }], guard := none }) (v := ?v40) rfl (by kernel_rfl) (by kernel_rfl) (by kernel_rfl) (fun _ _ _ h => h) (Or.inl ⟨by rfl, ?hy40⟩) (by assumption) ?rest40
            case hy40 => (intro w hSw; (try dsimp only at hSw); go_simp; try with_reducible rfl)
            try simp only [Act.put, List.setIfInBounds_toArray, List.set_cons_zero, List.set_cons_succ]
            refine wpAnyH_done (by kernel_rfl) ?_ _
            refine NoPanic.normal ?_
            go_wp2_with fail
            go_ret
            exact ⟨rfl, bon HG.out hHeld⟩
        | false =>
          have k2 := (walL_no hrg).2
          have HRG := Lib.hid hrg
          clear hrg
          refine (walBytes_t (q := 1) (s0.now hb4) (by decide) (by omega) rfl k2).mono ?_
          rintro e w5 ⟨A3, m3, c3, rfl, -, hb5⟩
          clear k2
          replace hb5 := bon hb4 hb5
          clear hb4
          replace hv := hv.now hb5
          replace g0 := bon g0 hb5
          have a0 := HA.out.1.below hb5 (Nat.le_refl _)
          have a1 := HA.out.2.below hb5 (Nat.le_refl _)
          replace s0 := s0.now hb5
          replace s1 := s1.now hb5
          replace f1 := f1.now hb5
          replace f2 := f2.now hb5
          clear hb5 HA
          have HV := Lib.hid hv
          have HG := Lib.hid g0
          have hst : Below w5.heap.size w5 w5.drew := (Below.refl _ _).drew
          clear a0 a1 hv g0 s0 s1 f1 f2
          go_wp2_with fail
          refine wp_region_noPanic ?_
          refine wp_region_held_drew (S := fun w' => Below w5.heap.size w5 w') (by kernel_rfl) hst (fun hHeld => ?_)
          refine wpAnyH_take (i := 0) (oi := { dst := some 97, op := Op.move (Operand.tmp 6), type := 45, pos := "outright.go:133", after := #[], guard := none }) (v := ?v41) rfl (by kernel_rfl) (by kernel_rfl) (by kernel_rfl) (fun _ _ _ h => h) (Or.inl ⟨by rfl, ?hy41⟩) (by assumption) ?rest41
          case hy41 => (intro w hSw; (try dsimp only at hSw); go_simp; try with_reducible rfl)
          try simp only [Act.put, List.setIfInBounds_toArray, List.set_cons_zero, List.set_cons_succ]
          refine wpAnyH_take (i := 1) (oi := { dst := some 98, op := Op.binOp BinOp.neq 45 (Operand.tmp 97) (Operand.const (Value.int IntKind.i64 0)) 45, type := 4, pos := "outright.go:133", after := #[{ on := 0, ground := Ground.data }], guard := none }) (v := ?v42) rfl (by kernel_rfl) (by kernel_rfl) (by kernel_rfl) (fun _ _ _ h => h) (Or.inl ⟨by rfl, ?hy42⟩) (by assumption) ?rest42
          case hy42 => (intro w hSw; (try dsimp only at hSw); go_simp; try with_reducible rfl)
          try simp only [Act.put, List.setIfInBounds_toArray, List.set_cons_zero, List.set_cons_succ]
          refine wpAnyH_take (i := 2) (oi := { dst := some 99, op := Op.move (Operand.tmp 98), type := 4, pos := "outright.go:133", after := #[{ on := 1, ground := Ground.data }], guard := none }) (v := ?v43) rfl (by kernel_rfl) (by kernel_rfl) (by kernel_rfl) (fun _ _ _ h => h) (Or.inl ⟨by rfl, ?hy43⟩) (by assumption) ?rest43
          case hy43 => (intro w hSw; (try dsimp only at hSw); go_simp; try with_reducible rfl)
          try simp only [Act.put, List.setIfInBounds_toArray, List.set_cons_zero, List.set_cons_succ]
          refine wpAnyH_take (i := 3) (oi := { dst := some 100, op := Op.move (Operand.tmp 8), type := 45, pos := "outright.go:133", after := #[{ on := 2, ground := Ground.guard }], guard := some (2, false) }) (v := undef) rfl (by kernel_rfl) (by kernel_rfl) (by kernel_rfl) (fun _ _ _ h => h) (Or.inr ⟨by rfl, rfl⟩) (by assumption) ?_
          try simp only [Act.put, List.setIfInBounds_toArray, List.set_cons_zero, List.set_cons_succ]
          refine wpAnyH_take (i := 4) (oi := { dst := some 101, op := Op.binOp BinOp.neq 45 (Operand.tmp 100) (Operand.const (Value.int IntKind.i64 0)) 45, type := 4, pos := "outright.go:133", after := #[{ on := 3, ground := Ground.data }, { on := 2, ground := Ground.guard }], guard := some (2, false) }) (v := undef) rfl (by kernel_rfl) (by kernel_rfl) (by kernel_rfl) (fun _ _ _ h => h) (Or.inr ⟨by rfl, rfl⟩) (by assumption) ?_
          try simp only [Act.put, List.setIfInBounds_toArray, List.set_cons_zero, List.set_cons_succ]
          refine wpAnyH_take (i := 5) (oi := { dst := some 102, op := Op.pick (Operand.tmp 99) (Operand.const (Value.bool true)) (Operand.tmp 101), type := 4, pos := "outright.go:133", after := #[{ on := 2, ground := Ground.data }, { on := 4, ground := Ground.data }], guard := none }) (v := ?v44) rfl (by kernel_rfl) (by kernel_rfl) (by kernel_rfl) (fun _ _ _ h => h) (Or.inl ⟨by rfl, ?hy44⟩) (by assumption) ?rest44
          case hy44 => (intro w hSw; (try dsimp only at hSw); go_simp; try with_reducible rfl)
          try simp only [Act.put, List.setIfInBounds_toArray, List.set_cons_zero, List.set_cons_succ]
          refine wpAnyH_take (i := 6) (oi := { dst := some 103, op := Op.move (Operand.tmp 102), type := 4, pos := "outright.go:133", after := #[{ on := 5, ground := Ground.data }, { on := 2, ground := Ground.chain }], guard := none }) (v := ?v45) rfl (by kernel_rfl) (by kernel_rfl) (by kernel_rfl) (fun _ _ _ h => h) (Or.inl ⟨by rfl, ?hy45⟩) (by assumption) ?rest45
          case hy45 => (intro w hSw; (try dsimp only at hSw); go_simp; try with_reducible rfl)
          try simp only [Act.put, List.setIfInBounds_toArray, List.set_cons_zero, List.set_cons_succ]
          refine wpAnyH_take (i := 7) (oi := { dst := some 104, op := Op.move (Operand.tmp 5), type := 31, pos := "outright.go:133", after := #[{ on := 6, ground := Ground.guard }], guard := some (6, false) }) (v := undef) rfl (by kernel_rfl) (by kernel_rfl) (by kernel_rfl) (fun _ _ _ h => h) (Or.inr ⟨by rfl, rfl⟩) (by assumption) ?_
          try simp only [Act.put, List.setIfInBounds_toArray, List.set_cons_zero, List.set_cons_succ]
          refine wpAnyH_take (i := 8) (oi := { dst := some 105, op := Op.move (Operand.tmp 7), type := 31, pos := "outright.go:133", after := #[{ on := 6, ground := Ground.guard }], guard := some (6, false) }) (v := undef) rfl (by kernel_rfl) (by kernel_rfl) (by kernel_rfl) (fun _ _ _ h => h) (Or.inr ⟨by rfl, rfl⟩) (by assumption) ?_
          try simp only [Act.put, List.setIfInBounds_toArray, List.set_cons_zero, List.set_cons_succ]
          refine wpAnyH_take (i := 10) (oi := { dst := some 107, op := Op.load 28 (Operand.tmp 2), type := 28, pos := "outright.go:133", after := #[{ on := 6, ground := Ground.guard }], guard := some (6, false) }) (v := undef) rfl (by kernel_rfl) (by kernel_rfl) (by kernel_rfl) (fun _ _ _ h => h) (Or.inr ⟨by rfl, rfl⟩) (by assumption) ?_
          try simp only [Act.put, List.setIfInBounds_toArray, List.set_cons_zero, List.set_cons_succ]
          refine wpAnyH_take (i := 12) (oi := { dst := some 109, op := Op.load 28 (Operand.tmp 3), type := 28, pos := "outright.go:133", after := #[{ on := 6, ground := Ground.guard }], guard := some (6, false) }) (v := undef) rfl (by kernel_rfl) (by kernel_rfl) (by kernel_rfl) (fun _ _ _ h => h) (Or.inr ⟨by rfl, rfl⟩) (by assumption) ?_
          try simp only [Act.put, List.setIfInBounds_toArray, List.set_cons_zero, List.set_cons_succ]
          refine wpAnyH_take (i := 9) (oi := { dst := some 106, op := Op.call { callee := Callee.value (Operand.func 15), args := #[Operand.tmp 104, Operand.tmp 105], argTypes := #[31, 31] }, type := 4, pos := "outright.go:133", after := #[{ on := 7, ground := Ground.data }, { on := 8, ground := Ground.data }, { on := 6, ground := Ground.chain }, { on := 6, ground := Ground.guard }], guard := some (6, false) }) (v := undef) rfl (by kernel_rfl) (by kernel_rfl) (by kernel_rfl) (fun _ _ _ h => h) (Or.inr ⟨by rfl, rfl⟩) (by assumption) ?_
          try simp only [Act.put, List.setIfInBounds_toArray, List.set_cons_zero, List.set_cons_succ]
          refine wpAnyH_take (i := 11) (oi := { dst := some 108, op := Op.buildSlice 29 1 #[(0, Operand.tmp 107)], type := 29, pos := "outright.go:133", after := #[{ on := 10, ground := Ground.data }, { on := 6, ground := Ground.guard }], guard := some (6, false) }) (v := undef) rfl (by kernel_rfl) (by kernel_rfl) (by kernel_rfl) (fun _ _ _ h => h) (Or.inr ⟨by rfl, rfl⟩) (by assumption) ?_
          try simp only [Act.put, List.setIfInBounds_toArray, List.set_cons_zero, List.set_cons_succ]
          refine wpAnyH_take (i := 13) (oi := { dst := some 110, op := Op.buildSlice 29 1 #[(0, Operand.tmp 109)], type := 29, pos := "outright.go:133", after := #[{ on := 12, ground := Ground.data }, { on := 6, ground := Ground.guard }], guard := some (6, false) }) (v := undef) rfl (by kernel_rfl) (by kernel_rfl) (by kernel_rfl) (fun _ _ _ h => h) (Or.inr ⟨by rfl, rfl⟩) (by assumption) ?_
          try simp only [Act.put, List.setIfInBounds_toArray, List.set_cons_zero, List.set_cons_succ]
          refine wpAnyH_take (i := 14) (oi := { dst := some 111, op := Op.call { callee := Callee.value (Operand.func 11), args := #[Operand.tmp 108, Operand.tmp 110], argTypes := #[29, 29] }, type := 4, pos := "outright.go:133", after := #[{ on := 11, ground := Ground.data }, { on := 13, ground := Ground.data }, { on := 9, ground := Ground.chain }, { on := 6, ground := Ground.guard }], guard := some (6, false) }) (v := undef) rfl (by kernel_rfl) (by kernel_rfl) (by kernel_rfl) (fun _ _ _ h => h) (Or.inr ⟨by rfl, rfl⟩) (by assumption) ?_
          try simp only [Act.put, List.setIfInBounds_toArray, List.set_cons_zero, List.set_cons_succ]
          refine wpAnyH_take (i := 15) (oi := { dst := some 112, op := Op.binOp BinOp.eql 4 (Operand.tmp 106) (Operand.tmp 111) 4, type := 4, pos := "outright.go:133", after := #[{ on := 9, ground := Ground.data }, { on := 14, ground := Ground.data }, { on := 6, ground := Ground.guard }], guard := some (6, false) }) (v := undef) rfl (by kernel_rfl) (by kernel_rfl) (by kernel_rfl) (fun _ _ _ h => h) (Or.inr ⟨by rfl, rfl⟩) (by assumption) ?_
          try simp only [Act.put, List.setIfInBounds_toArray, List.set_cons_zero, List.set_cons_succ]
          refine wpAnyH_take (i := 16) (oi := { dst := some 113, op := Op.pick (Operand.tmp 103) (Operand.const (Value.bool true)) (Operand.tmp 112), type := 4, pos := "outright.go:133", after := #[{ on := 6, ground := Ground.data }, { on := 15, ground := Ground.data }], guard := none }) (v := ?v46) rfl (by kernel_rfl) (by kernel_rfl) (by kernel_rfl) (fun _ _ _ h => h) (Or.inl ⟨by rfl, ?hy46⟩) (by assumption) ?rest46
          case hy46 => (intro w hSw; (try dsimp only at hSw); go_simp; try with_reducible rfl)
          try simp only [Act.put, List.setIfInBounds_toArray, List.set_cons_zero, List.set_cons_succ]
          refine wpAnyH_take (i := 17) (oi := { dst := some 114, op := Op.move (Operand.tmp 113), type := 4, pos := "outright.go:133", after := #[{ on := 16, ground := Ground.data }, { on := 14, ground := Ground.chain }], guard := none }) (v := ?v47) rfl (by kernel_rfl) (by kernel_rfl) (by kernel_rfl) (fun _ _ _ h => h) (Or.inl ⟨by rfl, ?hy47⟩) (by assumption) ?rest47
          case hy47 => (intro w hSw; (try dsimp only at hSw); go_simp; try with_reducible rfl)
          try simp only [Act.put, List.setIfInBounds_toArray, List.set_cons_zero, List.set_cons_succ]
          refine wpAnyH_ready (rs := [18]) (by kernel_rfl) (by simp) ?_
          refine AllReadyH.cons (o := { dst := some 115, op := Op.call { callee := Callee.value (Operand.func 8), args := #[], argTypes := #[] }, type := 4, pos := "outright.go:133", after := #[{ on := 17, ground := Ground.chain }, { on := 17, ground := Ground.guard }], guard := some (17, true) }) rfl (fun K hK => ?_) AllReadyH.nil
          go_simp
          refine (awake6_c (HV.out.now hHeld)).mono ?_
          rintro e w8 ⟨rfl, hb8⟩
          replace hHeld := bon hHeld hb8
          clear hb8
          go_wp2_with fail
          refine hK.out _ _ hHeld (fun hHeld' => ?_)
          clear hK K
          try simp only [Act.put, List.setIfInBounds_toArray, List.set_cons_zero, List.set_cons_succ]
          refine wpAnyH_take (i := 19) (oi := { dst := some 116, op := Op.pick (Operand.tmp 114) (Operand.tmp 115) (Operand.const (Value.bool false)), type := 4, pos := "outright.go:133", after := #[{ on := 17, ground := Ground.data }, { on := 18, ground := Ground.data }], guard := none }) (v := ?v48) rfl (by kernel_rfl) (by kernel_rfl) (by kernel_rfl) (fun _ _ _ h => h) (Or.inl ⟨by rfl, ?hy48⟩) (by assumption) ?rest48
          case hy48 => (intro w hSw; (try dsimp only at hSw); go_simp; try with_reducible rfl)
          try simp only [Act.put, List.setIfInBounds_toArray, List.set_cons_zero, List.set_cons_succ]
          refine wpAnyH_take (i := 20) (oi := { dst := some 4, op := Op.assign (Operand.tmp 116), type := 4, pos := "outright.go:133", after := #[{ on := 19, ground := Ground.data }, { on := 18, ground := Ground.chain }, { on := 0, ground := Ground.phase }, { on := 1, ground := Ground.phase }, { on := 2, ground := Ground.phase }, { on := 3, ground := Ground.phase }, { on := 4, ground := Ground.phase }, { on := 5, ground := Ground.phase }, { on := 6, ground := Ground.phase }, { on := 7, ground := Ground.phase }, { on := 8, ground := Ground.phase }, { on := 9, ground := Ground.phase }, { on := 10, ground := Ground.phase }, { on := 11, ground := Ground.phase }, { on := 12, ground := Ground.phase }, { on := 13, ground := Ground.phase }, { on := 14, ground := Ground.phase }, { on := 15, ground := Ground.phase }, { on := 16, ground := Ground.phase }, { on := 17, ground := Ground.phase }, { on := 18, ground := Ground.phase }, { on := 19, ground := Ground.phase }], guard := none }) (v := ?v49) rfl (by kernel_rfl) (by kernel_rfl) (by kernel_rfl) (fun _ _ _ h => h) (Or.inl ⟨by rfl, ?hy49⟩) (by assumption) ?rest49
          case hy49 => (intro w hSw; (try dsimp only at hSw); go_simp; try with_reducible rfl)
          try simp only [Act.put, List.setIfInBounds_toArray, List.set_cons_zero, List.set_cons_succ]
          refine wpAnyH_done (by kernel_rfl) ?_ _
          refine NoPanic.normal ?_
          go_wp2_with fail
          go_ret
          exact ⟨rfl, bon HG.out hHeld⟩
      | false =>
        have k1 := (walL_no hr1).2
        clear hr1
        refine (walBytes_t s1 q1 (by omega) HL1.out k1).mono ?_
        rintro e w3 ⟨A2, m2, c2, rfl, hf2, hb3⟩
        clear k1
        replace hv := hv.now hb3
        replace g0 := bon g0 hb3
        replace a0 := a0.below hb3 (Nat.le_refl _)
        replace a1 := a1.below hb3 (Nat.le_refl _)
        replace s0 := s0.now hb3
        replace s1 := s1.now hb3
        replace f1 := f1.now hb3
        have f2 := hf2.here
        clear hb3 hf2
        obtain ⟨a0a, a0b⟩ := a0.cells
        have hl00 : l0 = [] := by rw [← HL0.out]; exact (walL_no HN0.out).1
        obtain rfl : 0 = m1 := by have h := f1.len; rw [hl00] at h; simpa using h
        have e6 : ((60 : Int) == 0) = false := by decide
        have e10 : ((60 : Int) != 0) = true := by decide
        have e7 : ((60 : Int) != 60) = false := by decide
        clear hl00
        have hb4 := below_alloc w3 (.cells #[.int .u64 1, .slice x0.A x0.n x0.c] 28)
        go_wp2_with fail
        have HA := Lib.hid (And.intro a0 a1)
        clear a0a a0b a0 a1
        cases hrg : recB 1 x0.L with
        | true =>
          have k2 := (walL_yes hrg).2
          have HRG := Lib.hid hrg
          clear hrg
          refine (walBytes_t (q := 1) (s0.now hb4) (by decide) (by omega) rfl k2).mono ?_
          rintro e w5 ⟨A3, m3, c3, rfl, -, hb5⟩
          clear k2
          replace hb5 := bon hb4 hb5
          clear hb4
          replace hv := hv.now hb5
          replace g0 := bon g0 hb5
          have a0 := HA.out.1.below hb5 (Nat.le_refl _)
          have a1 := HA.out.2.below hb5 (Nat.le_refl _)
          replace s0 := s0.now hb5
          replace s1 := s1.now hb5
          replace f1 := f1.now hb5
          replace f2 := f2.now hb5
          clear hb5 HA
          obtain ⟨a0a, a0b⟩ := a0.cells
          have hcon : x0.q = 0 ∨ 72057594037927735 < x0.q := by
            have h1 := (recB_iff.1 HRG.out).1
            have h2 := (grpB_iff.1 h1).2.1
            rcases Nat.eq_zero_or_pos x0.q with h | h
            · exact .inl h
            · refine .inr (Nat.lt_of_not_le fun h3 => ?_)
              have h4 := recB_iff.2 ⟨h1, h, by omega⟩
              rw [HN0.out] at h4
              cases h4
          rcases hcon with hc | hc
          · have e8 : decide ((0 : Int) < (x0.q : Int)) = false := by simp; omega
            have e8' : decide (0 < x0.q) = false := by simp; omega
            have HV := Lib.hid hv
            have HG := Lib.hid g0
            have hst : Below w5.heap.size w5 w5.drew := (Below.refl _ _).drew
            clear a0 a1 hv g0 s0 s1 f1 f2
            go_wp2_with fail
            refine wp_region_noPanic ?_
            refine wp_region_held_drew (S := fun w' => Below w5.heap.size w5 w') (by kernel_rfl) hst (fun hHeld => ?_)
            refine wpAnyH_take (i := 0) (oi := { dst := some 97, op := Op.move (Operand.tmp 6), type := 45, pos := "outright.go:133", after := #[], guard := none }) (v := ?v50) rfl (by kernel_rfl) (by kernel_rfl) (by kernel_rfl) (fun _ _ _ h => h) (Or.inl ⟨by rfl, ?hy50⟩) (by assumption) ?rest50
            case hy50 => (intro w hSw; (try dsimp only at hSw); go_simp; try with_reducible rfl)
            try simp only [Act.put, List.setIfInBounds_toArray, List.set_cons_zero, List.set_cons_succ]
            refine wpAnyH_take (i := 1) (oi := { dst := some 98, op := Op.binOp BinOp.neq 45 (Operand.tmp 97) (Operand.const (Value.int IntKind.i64 0)) 45, type := 4, pos := "outright.go:133", after := #[{ on := 0, ground := Ground.data }], guard := none }) (v := ?v51) rfl (by kernel_rfl) (by kernel_rfl) (by kernel_rfl) (fun _ _ _ h => h) (Or.inl ⟨by rfl, ?hy51⟩) (by assumption) ?rest51
            case hy51 => (intro w hSw; (try dsimp only at hSw); go_simp; try with_reducible rfl)
            try simp only [Act.put, List.setIfInBounds_toArray, List.set_cons_zero, List.set_cons_succ]
            refine wpAnyH_take (i := 2) (oi := { dst := some 99, op := Op.move (Operand.tmp 98), type := 4, pos := "outright.go:133", after := #[{ on := 1, ground := Ground.data }], guard := none }) (v := ?v52) rfl (by kernel_rfl) (by kernel_rfl) (by kernel_rfl) (fun _ _ _ h => h) (Or.inl ⟨by rfl, ?hy52⟩) (by assumption) ?rest52
            case hy52 => (intro w hSw; (try dsimp only at hSw); go_simp; try with_reducible rfl)
            try simp only [Act.put, List.setIfInBounds_toArray, List.set_cons_zero, List.set_cons_succ]
            refine wpAnyH_take (i := 3) (oi := { dst := some 100, op := Op.move (Operand.tmp 8), type := 45, pos := "outright.go:133", after := #[{ on := 2, ground := Ground.guard }], guard := some (2, false) }) (v := undef) rfl (by kernel_rfl) (by kernel_rfl) (by kernel_rfl) (fun _ _ _ h => h) (Or.inr ⟨by rfl, rfl⟩) (by assumption) ?_
            try simp only [Act.put, List.setIfInBounds_toArray, List.set_cons_zero, List.set_cons_succ]
            refine wpAnyH_take (i := 4) (oi := { dst := some 101, op := Op.binOp BinOp.neq 45 (Operand.tmp 100) (Operand.const (Value.int IntKind.i64 0)) 45, type := 4, pos := "outright.go:133", after := #[{ on := 3, ground := Ground.data }, { on := 2, ground := Ground.guard }], guard := some (2, false) }) (v := undef) rfl (by kernel_rfl) (by kernel_rfl) (by kernel_rfl) (fun _ _ _ h => h) (Or.inr ⟨by rfl, rfl⟩) (by assumption) ?_
            try simp only [Act.put, List.setIfInBounds_toArray, List.set_cons_zero, List.set_cons_succ]
            refine wpAnyH_take (i := 5) (oi := { dst := some 102, op := Op.pick (Operand.tmp 99) (Operand.const (Value.bool true)) (Operand.tmp 101), type := 4, pos := "outright.go:133", after := #[{ on := 2, ground := Ground.data }, { on := 4, ground := Ground.data }], guard := none }) (v := ?v53) rfl (by kernel_rfl) (by kernel_rfl) (by kernel_rfl) (fun _ _ _ h => h) (Or.inl ⟨by rfl, ?hy53⟩) (by assumption) ?rest53
            case hy53 => (intro w hSw; (try dsimp only at hSw); go_simp; try with_reducible rfl)
            try simp only [Act.put, List.setIfInBounds_toArray, List.set_cons_zero, List.set_cons_succ]
            refine wpAnyH_take (i := 6) (oi := { dst := some 103, op := Op.move (Operand.tmp 102), type := 4, pos := "outright.go:133", after := #[{ on := 5, ground := Ground.data }, { on := 2, ground := Ground.chain }], guard := none }) (v := ?v54) rfl (by kernel_rfl) (by kernel_rfl) (by kernel_rfl) (fun _ _ _ h => h) (Or.inl ⟨by rfl, ?hy54⟩) (by assumption) ?rest54
            case hy54 => (intro w hSw; (try dsimp only at hSw); go_simp; try with_reducible rfl)
            try simp only [Act.put, List.setIfInBounds_toArray, List.set_cons_zero, List.set_cons_succ]
            refine wpAnyH_take (i := 7) (oi := { dst := some 104, op := Op.move (Operand.tmp 5), type := 31, pos := "outright.go:133", after := #[{ on := 6, ground := Ground.guard }], guard := some (6, false) }) (v := undef) rfl (by kernel_rfl) (by kernel_rfl) (by kernel_rfl) (fun _ _ _ h => h) (Or.inr ⟨by rfl, rfl⟩) (by assumption) ?_
            try simp only [Act.put, List.setIfInBounds_toArray, List.set_cons_zero, List.set_cons_succ]
            refine wpAnyH_take (i := 8) (oi := { dst := some 105, op := Op.move (Operand.tmp 7), type := 31, pos := "outright.go:133", after := #[{ on := 6, ground := Ground.guard }], guard := some (6, false) }) (v := undef) rfl (by kernel_rfl) (by kernel_rfl) (by kernel_rfl) (fun _ _ _ h => h) (Or.inr ⟨by rfl, rfl⟩) (by assumption) ?_
            try simp only [Act.put, List.setIfInBounds_toArray, List.set_cons_zero, List.set_cons_succ]
            refine wpAnyH_take (i := 10) (oi := { dst := some 107, op := Op.load 28 (Operand.tmp 2), type := 28, pos := "outright.go:133", after := #[{ on := 6, ground := Ground.guard }], guard := some (6, false) }) (v := undef) rfl (by kernel_rfl) (by kernel_rfl) (by kernel_rfl) (fun _ _ _ h => h) (Or.inr ⟨by rfl, rfl⟩) (by assumption) ?_
            try simp only [Act.put, List.setIfInBounds_toArray, List.set_cons_zero, List.set_cons_succ]
            refine wpAnyH_take (i := 12) (oi := { dst := some 109, op := Op.load 28 (Operand.tmp 3), type := 28, pos := "outright.go:133", after := #[{ on := 6, ground := Ground.guard }], guard := some (6, false) }) (v := undef) rfl (by kernel_rfl) (by kernel_rfl) (by kernel_rfl) (fun _ _ _ h => h) (Or.inr ⟨by rfl, rfl⟩) (by assumption) ?_
            try simp only [Act.put, List.setIfInBounds_toArray, List.set_cons_zero, List.set_cons_succ]
            refine wpAnyH_take (i := 9) (oi := { dst := some 106, op := Op.call { callee := Callee.value (Operand.func 15), args := #[Operand.tmp 104, Operand.tmp 105], argTypes := #[31, 31] }, type := 4, pos := "outright.go:133", after := #[{ on := 7, ground := Ground.data }, { on := 8, ground := Ground.data }, { on := 6, ground := Ground.chain }, { on := 6, ground := Ground.guard }], guard := some (6, false) }) (v := undef) rfl (by kernel_rfl) (by kernel_rfl) (by kernel_rfl) (fun _ _ _ h => h) (Or.inr ⟨by rfl, rfl⟩) (by assumption) ?_
            try simp only [Act.put, List.setIfInBounds_toArray, List.set_cons_zero, List.set_cons_succ]
            refine wpAnyH_take (i := 11) (oi := { dst := some 108, op := Op.buildSlice 29 1 #[(0, Operand.tmp 107)], type := 29, pos := "outright.go:133", after := #[{ on := 10, ground := Ground.data }, { on := 6, ground := Ground.guard }], guard := some (6, false) }) (v := undef) rfl (by kernel_rfl) (by kernel_rfl) (by kernel_rfl) (fun _ _ _ h => h) (Or.inr ⟨by rfl, rfl⟩) (by assumption) ?_
            try simp only [Act.put, List.setIfInBounds_toArray, List.set_cons_zero, List.set_cons_succ]
            refine wpAnyH_take (i := 13) (oi := { dst := some 110, op := Op.buildSlice 29 1 #[(0, Operand.tmp 109)], type := 29, pos := "outright.go:133", after := #[{ on := 12, ground := Ground.data }, { on := 6, ground := Ground.guard }], guard := some (6, false) }) (v := undef) rfl (by kernel_rfl) (by kernel_rfl) (by kernel_rfl) (fun _ _ _ h => h) (Or.inr ⟨by rfl, rfl⟩) (by assumption) ?_
            try simp only [Act.put, List.setIfInBounds_toArray, List.set_cons_zero, List.set_cons_succ]
            refine wpAnyH_take (i := 14) (oi := { dst := some 111, op := Op.call { callee := Callee.value (Operand.func 11), args := #[Operand.tmp 108, Operand.tmp 110], argTypes := #[29, 29] }, type := 4, pos := "outright.go:133", after := #[{ on := 11, ground := Ground.data }, { on := 13, ground := Ground.data }, { on := 9, ground := Ground.chain }, { on := 6, ground := Ground.guard }], guard := some (6, false) }) (v := undef) rfl (by kernel_rfl) (by kernel_rfl) (by kernel_rfl) (fun _ _ _ h => h) (Or.inr ⟨by rfl, rfl⟩) (by assumption) ?_
            try simp only [Act.put, List.setIfInBounds_toArray, List.set_cons_zero, List.set_cons_succ]
            refine wpAnyH_take (i := 15) (oi := { dst := some 112, op := Op.binOp BinOp.eql 4 (Operand.tmp 106) (Operand.tmp 111) 4, type := 4, pos := "outright.go:133", after := #[{ on := 9, ground := Ground.data }, { on := 14, ground := Ground.data }, { on := 6, ground := Ground.guard }], guard := some (6, false) }) (v := undef) rfl (by kernel_rfl) (by kernel_rfl) (by kernel_rfl) (fun _ _ _ h => h) (Or.inr ⟨by rfl, rfl⟩) (by assumption) ?_
            try simp only [Act.put, List.setIfInBounds_toArray, List.set_cons_zero, List.set_cons_succ]
            refine wpAnyH_take (i := 16) (oi := { dst := some 113, op := Op.pick (Operand.tmp 103) (Operand.const (Value.bool true)) (Operand.tmp 112), type := 4, pos := "outright.go:133", after := #[{ on := 6, ground := Ground.data }, { on := 15, ground := Ground.data }], guard := none }) (v := ?v55) rfl (by kernel_rfl) (by kernel_rfl) (by kernel_rfl) (fun _ _ _ h => h) (Or.inl ⟨by rfl, ?hy55⟩) (by assumption) ?rest55
            case hy55 => (intro w hSw; (try dsimp only at hSw); go_simp; try with_reducible rfl)
            try simp only [Act.put, List.setIfInBounds_toArray, List.set_cons_zero, List.set_cons_succ]
            refine wpAnyH_take (i := 17) (oi := { dst := some 114, op := Op.move (Operand.tmp 113), type := 4, pos := "outright.go:133", after := #[{ on := 16, ground := Ground.data }, { on := 14, ground := Ground.chain }], guard := none }) (v := ?v56) rfl (by kernel_rfl) (by kernel_rfl) (by kernel_rfl) (fun _ _ _ h => h) (Or.inl ⟨by rfl, ?hy56⟩) (by assumption) ?rest56
            case hy56 => (intro w hSw; (try dsimp only at hSw); go_simp; try with_reducible rfl)
            try simp only [Act.put, List.setIfInBounds_toArray, List.set_cons_zero, List.set_cons_succ]
            refine wpAnyH_ready (rs := [18]) (by kernel_rfl) (by simp) ?_
            refine AllReadyH.cons (o := { dst := some 115, op := Op.call { callee := Callee.value (Operand.func 8), args := #[], argTypes := #[] }, type := 4, pos := "outright.go:133", after := #[{ on := 17, ground := Ground.chain }, { on := 17, ground := Ground.guard }], guard := some (17, true) }) rfl (fun K hK => ?_) AllReadyH.nil
            go_simp
            refine (awake6_c (HV.out.now hHeld)).mono ?_
            rintro e w8 ⟨rfl, hb8⟩
            replace hHeld := bon hHeld hb8
            clear hb8
            go_wp2_with fail
            refine hK.out _ _ hHeld (fun hHeld' => ?_)
            clear hK K
            try simp only [Act.put, List.setIfInBounds_toArray, List.set_cons_zero, List.set_cons_succ]
            refine wpAnyH_take (i := 19) (oi := { dst := some 116, op := Op.pick (Operand.tmp 114) (Operand.tmp 115) (Operand.const (Value.bool false)), type := 4, pos := "outright.go:133", after := #[{ on := 17, ground := Ground.data }, { on := 18, ground := Ground.data }], guard := none }) (v := ?v57) rfl (by kernel_rfl) (by kernel_rfl) (by kernel_rfl) (fun _ _ _ h => h) (Or.inl ⟨by rfl, ?hy57⟩) (by assumption) ?rest57
            case hy57 => (intro w hSw; (try dsimp only at hSw); go_simp; try with_reducible rfl)
            try simp only [Act.put, List.setIfInBounds_toArray, List.set_cons_zero, List.set_cons_succ]
            refine wpAnyH_take (i := 20) (oi := { dst := some 4, op := Op.assign (Operand.tmp 116), type := 4, pos := "outright.go:133", after := #[{ on := 19, ground := Ground.data }, { on := 18, ground := Ground.chain }, { on := 0, ground := Ground.phase }, { on := 1, ground := Ground.phase }, { on := 2, ground := Ground.phase }, { on := 3, ground := Ground.phase }, { on := 4, ground := Ground.phase }, { on := 5, ground := Ground.phase }, { on := 6, ground := Ground.phase }, { on := 7, ground := Ground.phase }, { on := 8, ground := Ground.phase }, { on := 9, ground := Ground.phase }, { on := 10, ground := Ground.phase }, { on := 11, ground := Ground.phase }, { on := 12, ground := Ground.phase }, { on := 13, ground := Ground.phase }, { on := 14, ground := Ground.phase }, { on := 15, ground := Ground.phase }, { on := 16, ground := Ground.phase }, { on := 17, ground := Ground.phase }, { on := 18, ground := Ground.phase }, { on := 19, ground := Ground.phase }], guard := none }) (v := ?v58) rfl (by kernel_rfl) (by kernel_rfl) (by kernel_rfl) (fun _ _ _ h => h) (Or.inl ⟨by rfl, ?hy58⟩) (by assumption) ?rest58
            case hy58 => (intro w hSw; (try dsimp only at hSw); go_simp; try with_reducible rfl)
            try simp only [Act.put, List.setIfInBounds_toArray, List.set_cons_zero, List.set_cons_succ]
            refine wpAnyH_done (by kernel_rfl) ?_ _
            refine NoPanic.normal ?_
            go_wp2_with fail
            go_ret
            exact ⟨rfl, bon HG.out hHeld⟩
          · have e8 : decide ((0 : Int) < (x0.q : Int)) = true := by simp; omega
            have e8' : decide (0 < x0.q) = true := by simp; omega
            have e9 : decide ((x0.q : Int) ≤ 72057594037927735) = false := by simp; omega
            have e9' : decide (x0.q ≤ 72057594037927735) = false := by simp; omega
            have HV := Lib.hid hv
            have HG := Lib.hid g0
            have hst : Below w5.heap.size w5 w5.drew := (Below.refl _ _).drew
            clear a0 a1 hv g0 s0 s1 f1 f2
            go_wp2_with fail
            refine wp_region_noPanic ?_
            refine wp_region_held_drew (S := fun w' => Below w5.heap.size w5 w') (by kernel_rfl) hst (fun hHeld => ?_)
            refine wpAnyH_take (i := 0) (oi := { dst := some 97, op := Op.move (Operand.tmp 6), type := 45, pos := "outright.go:133", after := #[], guard := none }) (v := ?v59) rfl (by kernel_rfl) (by kernel_rfl) (by kernel_rfl) (fun _ _ _ h => h) (Or.inl ⟨by rfl, ?hy59⟩) (by assumption) ?rest59
            case hy59 => (intro w hSw; (try dsimp only at hSw); go_simp; try with_reducible rfl)
            try simp only [Act.put, List.setIfInBounds_toArray, List.set_cons_zero, List.set_cons_succ]
            refine wpAnyH_take (i := 1) (oi := { dst := some 98, op := Op.binOp BinOp.neq 45 (Operand.tmp 97) (Operand.const (Value.int IntKind.i64 0)) 45, type := 4, pos := "outright.go:133", after := #[{ on := 0, ground := Ground.data }], guard := none }) (v := ?v60) rfl (by kernel_rfl) (by kernel_rfl) (by kernel_rfl) (fun _ _ _ h => h) (Or.inl ⟨by rfl, ?hy60⟩) (by assumption) ?rest60
            case hy60 => (intro w hSw; (try dsimp only at hSw); go_simp; try with_reducible rfl)
            try simp only [Act.put, List.setIfInBounds_toArray, List.set_cons_zero, List.set_cons_succ]
            refine wpAnyH_take (i := 2) (oi := { dst := some 99, op := Op.move (Operand.tmp 98), type := 4, pos := "outright.go:133", after := #[{ on := 1, ground := Ground.data }], guard := none }) (v := ?v61) rfl (by kernel_rfl) (by kernel_rfl) (by kernel_rfl) (fun _ _ _ h => h) (Or.inl ⟨by rfl, ?hy61⟩) (by assumption) ?rest61
            case hy61 => (intro w hSw; (try dsimp only at hSw); go_simp; try with_reducible rfl)
            try simp only [Act.put, List.setIfInBounds_toArray, List.set_cons_zero, List.set_cons_succ]
            refine wpAnyH_take (i := 3) (oi := { dst := some 100, op := Op.move (Operand.tmp 8), type := 45, pos := "outright.go:133", after := #[{ on := 2, ground := Ground.guard }], guard := some (2, false) }) (v := undef) rfl (by kernel_rfl) (by kernel_rfl) (by kernel_rfl) (fun _ _ _ h => h) (Or.inr ⟨by rfl, rfl⟩) (by assumption) ?_
            try simp only [Act.put, List.setIfInBounds_toArray, List.set_cons_zero, List.set_cons_succ]
            refine wpAnyH_take (i := 4) (oi := { dst := some 101, op := Op.binOp BinOp.neq 45 (Operand.tmp 100) (Operand.const (Value.int IntKind.i64 0)) 45, type := 4, pos := "outright.go:133", after := #[{ on := 3, ground := Ground.data }, { on := 2, ground := Ground.guard }], guard := some (2, false) }) (v := undef) rfl (by kernel_rfl) (by kernel_rfl) (by kernel_rfl) (fun _ _ _ h => h) (Or.inr ⟨by rfl, rfl⟩) (by assumption) ?_
            try simp only [Act.put, List.setIfInBounds_toArray, List.set_cons_zero, List.set_cons_succ]
            refine wpAnyH_take (i := 5) (oi := { dst := some 102, op := Op.pick (Operand.tmp 99) (Operand.const (Value.bool true)) (Operand.tmp 101), type := 4, pos := "outright.go:133", after := #[{ on := 2, ground := Ground.data }, { on := 4, ground := Ground.data }], guard := none }) (v := ?v62) rfl (by kernel_rfl) (by kernel_rfl) (by kernel_rfl) (fun _ _ _ h => h) (Or.inl ⟨by rfl, ?hy62⟩) (by assumption) ?rest62
            case hy62 => (intro w hSw; (try dsimp only at hSw); go_simp; try with_reducible rfl)
            try simp only [Act.put, List.setIfInBounds_toArray, List.set_cons_zero, List.set_cons_succ]
            refine wpAnyH_take (i := 6) (oi := { dst := some 103, op := Op.move (Operand.tmp 102), type := 4, pos := "outright.go:133", after := #[{ on := 5, ground := Ground.data }, { on := 2, ground := Ground.chain }], guard := none }) (v := ?v63) rfl (by kernel_rfl) (by kernel_rfl) (by kernel_rfl) (fun _ _ _ h => h) (Or.inl ⟨by rfl, ?hy63⟩) (by assumption) ?rest63
            case hy63 => (intro w hSw; (try dsimp only at hSw); go_simp; try with_reducible rfl)
            try simp only [Act.put, List.setIfInBounds_toArray, List.set_cons_zero, List.set_cons_succ]
            refine wpAnyH_take (i := 7) (oi := { dst := some 104, op := Op.move (Operand.tmp 5), type := 31, pos := "outright.go:133", after := #[{ on := 6, ground := Ground.guard }], guard := some (6, false) }) (v := undef) rfl (by kernel_rfl) (by kernel_rfl) (by kernel_rfl) (fun _ _ _ h => h) (Or.inr ⟨by rfl, rfl⟩) (by assumption) ?_
            try simp only [Act.put, List.setIfInBounds_toArray, List.set_cons_zero, List.set_cons_succ]
            refine wpAnyH_take (i := 8) (oi := { dst := some 105, op := Op.move (Operand.tmp 7), type := 31, pos := "outright.go:133", after := #[{ on := 6, ground := Ground.guard }], guard := some (6, false) }) (v := undef) rfl (by kernel_rfl) (by kernel_rfl) (by kernel_rfl) (fun _ _ _ h => h) (Or.inr ⟨by rfl, rfl⟩) (by assumption) ?_
            try simp only [Act.put, List.setIfInBounds_toArray, List.set_cons_zero, List.set_cons_succ]
            refine wpAnyH_take (i := 10) (oi := { dst := some 107, op := Op.load 28 (Operand.tmp 2), type := 28, pos := "outright.go:133", after := #[{ on := 6, ground := Ground.guard }], guard := some (6, false) }) (v := undef) rfl (by kernel_rfl) (by kernel_rfl) (by kernel_rfl) (fun _ _ _ h => h) (Or.inr ⟨by rfl, rfl⟩) (by assumption) ?_
            try simp only [Act.put, List.setIfInBounds_toArray, List.set_cons_zero, List.set_cons_succ]
            refine wpAnyH_take (i := 12) (oi := { dst := some 109, op := Op.load 28 (Operand.tmp 3), type := 28, pos := "outright.go:133", after := #[{ on := 6, ground := Ground.guard }], guard := some (6, false) }) (v := undef) rfl (by kernel_rfl) (by kernel_rfl) (by kernel_rfl) (fun _ _ _ h => h) (Or.inr ⟨by rfl, rfl⟩) (by assumption) ?_
            try simp only [Act.put, List.setIfInBounds_toArray, List.set_cons_zero, List.set_cons_succ]
            refine wpAnyH_take (i := 9) (oi := { dst := some 106, op := Op.call { callee := Callee.value (Operand.func 15), args := #[Operand.tmp 104, Operand.tmp 105], argTypes := #[31, 31] }, type := 4, pos := "outright.go:133", after := #[{ on := 7, ground := Ground.data }, { on := 8, ground := Ground.data }, { on := 6, ground := Ground.chain }, { on := 6, ground := Ground.guard }], guard := some (6, false) }) (v := undef) rfl (by kernel_rfl) (by kernel_rfl) (by kernel_rfl) (fun _ _ _ h => h) (Or.inr ⟨by rfl, rfl⟩) (by assumption) ?_
            try simp only [Act.put, List.setIfInBounds_toArray, List.set_cons_zero, List.set_cons_succ]
            refine wpAnyH_take (i := 11) (oi := { dst := some 108, op := Op.buildSlice 29 1 #[(0, Operand.tmp 107)], type := 29, pos := "outright.go:133", after := #[{ on := 10, ground := Ground.data }, { on := 6, ground := Ground.guard }], guard := some (6, false) }) (v := undef) rfl (by kernel_rfl) (by kernel_rfl) (by kernel_rfl) (fun _ _ _ h => h) (Or.inr ⟨by rfl, rfl⟩) (by assumption) ?_
            try simp only [Act.put, List.setIfInBounds_toArray, List.set_cons_zero, List.set_cons_succ]
            refine wpAnyH_take (i := 13) (oi := { dst := some 110, op := Op.buildSlice 29 1 #[(0, Operand.tmp 109)], type := 29, pos := "outright.go:133", after := #[{ on := 12, ground := Ground.data }, { on := 6, ground := Ground.guard }], guard := some (6, false) }) (v := undef) rfl (by kernel_rfl) (by kernel_rfl) (by kernel_rfl) (fun _ _ _ h => h) (Or.inr ⟨by rfl, rfl⟩) (by assumption) ?_
            try simp only [Act.put, List.setIfInBounds_toArray, List.set_cons_zero, List.set_cons_succ]
            refine wpAnyH_take (i := 14) (oi := { dst := some 111, op := Op.call { callee := Callee.value (Operand.func 11), args := #[Operand.tmp 108, Operand.tmp 110], argTypes := #[29, 29] }, type := 4, pos := "outright.go:133", after := #[{ on := 11, ground := Ground.data }, { on := 13, ground := Ground.data }, { on := 9, ground := Ground.chain }, { on := 6, ground := Ground.guard }], guard := some (6, false) }) (v := undef) rfl (by kernel_rfl) (by kernel_rfl) (by kernel_rfl) (fun _ _ _ h => h) (Or.inr ⟨by rfl, rfl⟩) (by assumption) ?_
            try simp only [Act.put, List.setIfInBounds_toArray, List.set_cons_zero, List.set_cons_succ]
            refine wpAnyH_take (i := 15) (oi := { dst := some 112, op := Op.binOp BinOp.eql 4 (Operand.tmp 106) (Operand.tmp 111) 4, type := 4, pos := "outright.go:133", after := #[{ on := 9, ground := Ground.data }, { on := 14, ground := Ground.data }, { on := 6, ground := Ground.guard }], guard := some (6, false) }) (v := undef) rfl (by kernel_rfl) (by kernel_rfl) (by kernel_rfl) (fun _ _ _ h => h) (Or.inr ⟨by rfl, rfl⟩) (by assumption) ?_
            try simp only [Act.put, List.setIfInBounds_toArray, List.set_cons_zero, List.set_cons_succ]
            refine wpAnyH_take (i := 16) (oi := { dst := some 113, op := Op.pick (Operand.tmp 103) (Operand.const (Value.bool true)) (Operand.tmp 112), type := 4, pos := "outright.go:133", after := #[{ on := 6, ground := Ground.data }, { on := 15, ground := Ground.data }], guard := none }) (v := ?v64) rfl (by kernel_rfl) (by kernel_rfl) (by kernel_rfl) (fun _ _ _ h => h) (Or.inl ⟨by rfl, ?hy64⟩) (by assumption) ?rest64
            case hy64 => (intro w hSw; (try dsimp only at hSw); go_simp; try with_reducible rfl)
            try simp only [Act.put, List.setIfInBounds_toArray, List.set_cons_zero, List.set_cons_succ]
            refine wpAnyH_take (i := 17) (oi := { dst := some 114, op := Op.move (Operand.tmp 113), type := 4, pos := "outright.go:133", after := #[{ on := 16, ground := Ground.data }, { on := 14, ground := Ground.chain }], guard := none }) (v := ?v65) rfl (by kernel_rfl) (by kernel_rfl) (by kernel_rfl) (fun _ _ _ h => h) (Or.inl ⟨by rfl, ?hy65⟩) (by assumption) ?rest65
            case hy65 => (intro w hSw; (try dsimp only at hSw); go_simp; try with_reducible rfl)
            try simp only [Act.put, List.setIfInBounds_toArray, List.set_cons_zero, List.set_cons_succ]
            refine wpAnyH_ready (rs := [18]) (by kernel_rfl) (by simp) ?_
            refine AllReadyH.cons (o := { dst := some 115, op := Op.call { callee := Callee.value (Operand.func 8), args := #[], argTypes := #[] }, type := 4, pos := "outright.go:133", after := #[{ on := 17, ground := Ground.chain }, { on := 17, ground := Ground.guard }], guard := some (17, true) }) rfl (fun K hK => ?_) AllReadyH.nil
            go_simp
            refine (awake6_c (HV.out.now hHeld)).mono ?_
            rintro e w8 ⟨rfl, hb8⟩
            replace hHeld := bon hHeld hb8
            clear hb8
            go_wp2_with fail
            refine hK.out _ _ hHeld (fun hHeld' => ?_)
            clear hK K
            try simp only [Act.put, List.setIfInBounds_toArray, List.set_cons_zero, List.set_cons_succ]
            refine wpAnyH_take (i := 19) (oi := { dst := some 116, op := Op.pick (Operand.tmp 114) (Operand.tmp 115) (Operand.const (Value.bool false)), type := 4, pos := "outright.go:133", after := #[{ on := 17, ground := Ground.data }, { on := 18, ground := Ground.data }], guard := none }) (v := ?v66) rfl (by kernel_rfl) (by kernel_rfl) (by kernel_rfl) (fun _ _ _ h => h) (Or.inl ⟨by rfl, ?hy66⟩) (by assumption) ?rest66
            case hy66 => (intro w hSw; (try dsimp only at hSw); go_simp; try with_reducible rfl)
            try simp only [Act.put, List.setIfInBounds_toArray, List.set_cons_zero, List.set_cons_succ]
            refine wpAnyH_take (i := 20) (oi := { dst := some 4, op := Op.assign (Operand.tmp 116), type := 4, pos := "outright.go:133", after := #[{ on := 19, ground := Ground.data }, { on := 18, ground := Ground.chain }, { on := 0, ground := Ground.phase }, { on := 1, ground := Ground.phase }, { on := 2, ground := Ground.phase }, { on := 3, ground := Ground.phase }, { on := 4, ground := Ground.phase }, { on := 5, ground := Ground.phase }, { on := 6, ground := Ground.phase }, { on := 7, ground := Ground.phase }, { on := 8, ground := Ground.phase }, { on := 9, ground := Ground.phase }, { on := 10, ground := Ground.phase }, { on := 11, ground := Ground.phase }, { on := 12, ground := Ground.phase }, { on := 13, ground := Ground.phase }, { on := 14, ground := Ground.phase }, { on := 15, ground := Ground.phase }, { on := 16, ground := Ground.phase }, { on := 17, ground := Ground.phase }, { on := 18, ground := Ground.phase }, { on := 19, ground := Ground.phase }], guard := none }) (v := ?v67) rfl (by kernel_rfl) (by kernel_rfl) (by kernel_rfl) (fun _ _ _ h => h) (Or.inl ⟨by rfl, ?hy67⟩) (by assumption) ?rest67
            case hy67 => (intro w hSw; (try dsimp only at hSw); go_simp; try with_reducible rfl)
            try simp only [Act.put, List.setIfInBounds_toArray, List.set_cons_zero, List.set_cons_succ]
            refine wpAnyH_done (by kernel_rfl) ?_ _
            refine NoPanic.normal ?_
            go_wp2_with fail
            go_ret
            exact ⟨rfl, bon HG.out hHeld⟩
        | false =>
          have k2 := (walL_no hrg).2
          have HRG := Lib.hid hrg
          clear hrg
          refine (walBytes_t (q := 1) (s0.now hb4) (by decide) (by omega) rfl k2).mono ?_
          rintro e w5 ⟨A3, m3, c3, rfl, -, hb5⟩
          clear k2
          replace hb5 := bon hb4 hb5
          clear hb4
          replace hv := hv.now hb5
          replace g0 := bon g0 hb5
          have a0 := HA.out.1.below hb5 (Nat.le_refl _)
          have a1 := HA.out.2.below hb5 (Nat.le_refl _)
          replace s0 := s0.now hb5
          replace s1 := s1.now hb5
          replace f1 := f1.now hb5
          replace f2 := f2.now hb5
          clear hb5 HA
          have HV := Lib.hid hv
          have HG := Lib.hid g0
          have hst : Below w5.heap.size w5 w5.drew := (Below.refl _ _).drew
          clear a0 a1 hv g0 s0 s1 f1 f2
          go_wp2_with fail
          refine wp_region_noPanic ?_
          refine wp_region_held_drew (S := fun w' => Below w5.heap.size w5 w') (by kernel_rfl) hst (fun hHeld => ?_)
          refine wpAnyH_take (i := 0) (oi := { dst := some 97, op := Op.move (Operand.tmp 6), type := 45, pos := "outright.go:133", after := #[], guard := none }) (v := ?v68) rfl (by kernel_rfl) (by kernel_rfl) (by kernel_rfl) (fun _ _ _ h => h) (Or.inl ⟨by rfl, ?hy68⟩) (by assumption) ?rest68
          case hy68 => (intro w hSw; (try dsimp only at hSw); go_simp; try with_reducible rfl)
          try simp only [Act.put, List.setIfInBounds_toArray, List.set_cons_zero, List.set_cons_succ]
          refine wpAnyH_take (i := 1) (oi := { dst := some 98, op := Op.binOp BinOp.neq 45 (Operand.tmp 97) (Operand.const (Value.int IntKind.i64 0)) 45, type := 4, pos := "outright.go:133", after := #[{ on := 0, ground := Ground.data }], guard := none }) (v := ?v69) rfl (by kernel_rfl) (by kernel_rfl) (by kernel_rfl) (fun _ _ _ h => h) (Or.inl ⟨by rfl, ?hy69⟩) (by assumption) ?rest69
          case hy69 => (intro w hSw; (try dsimp only at hSw); go_simp; try with_reducible rfl)
          try simp only [Act.put, List.setIfInBounds_toArray, List.set_cons_zero, List.set_cons_succ]
          refine wpAnyH_take (i := 2) (oi := { dst := some 99, op := Op.move (Operand.tmp 98), type := 4, pos := "outright.go:133", after := #[{ on := 1, ground := Ground.data }], guard := none }) (v := ?v70) rfl (by kernel_rfl) (by kernel_rfl) (by kernel_rfl) (fun _ _ _ h => h) (Or.inl ⟨by rfl, ?hy70⟩) (by assumption) ?rest70
          case hy70 => (intro w hSw; (try dsimp only at hSw); go_simp; try with_reducible rfl)
          try simp only [Act.put, List.setIfInBounds_toArray, List.set_cons_zero, List.set_cons_succ]
          refine wpAnyH_take (i := 3) (oi := { dst := some 100, op := Op.move (Operand.tmp 8), type := 45, pos := "outright.go:133", after := #[{ on := 2, ground := Ground.guard }], guard := some (2, false) }) (v := undef) rfl (by kernel_rfl) (by kernel_rfl) (by kernel_rfl) (fun _ _ _ h => h) (Or.inr ⟨by rfl, rfl⟩) (by assumption) ?_
          try simp only [Act.put, List.setIfInBounds_toArray, List.set_cons_zero, List.set_cons_succ]
          refine wpAnyH_take (i := 4) (oi := { dst := some 101, op := Op.binOp BinOp.neq 45 (Operand.tmp 100) (Operand.const (Value.int IntKind.i64 0)) 45, type := 4, pos := "outright.go:133", after := #[{ on := 3, ground := Ground.data }, { on := 2, ground := Ground.guard }], guard := some (2, false) }) (v := undef) rfl (by kernel_rfl) (by kernel_rfl) (by kernel_rfl) (fun _ _ _ h => h) (Or.inr ⟨by rfl, rfl⟩) (by assumption) ?_
          try simp only [Act.put, List.setIfInBounds_toArray, List.set_cons_zero, List.set_cons_succ]
          refine wpAnyH_take (i := 5) (oi := { dst := some 102, op := Op.pick (Operand.tmp 99) (Operand.const (Value.bool true)) (Operand.tmp 101), type := 4, pos := "outright.go:133", after := #[{ on := 2, ground := Ground.data }, { on := 4, ground := Ground.data }], guard := none }) (v := ?v71) rfl (by kernel_rfl) (by kernel_rfl) (by kernel_rfl) (fun _ _ _ h => h) (Or.inl ⟨by rfl, ?hy71⟩) (by assumption) ?rest71
          case hy71 => (intro w hSw; (try dsimp only at hSw); go_simp; try with_reducible rfl)
          try simp only [Act.put, List.setIfInBounds_toArray, List.set_cons_zero, List.set_cons_succ]
          refine wpAnyH_take (i := 6) (oi := { dst := some 103, op := Op.move (Operand.tmp 102), type := 4, pos := "outright.go:133", after := #[{ on := 5, ground := Ground.data }, { on := 2, ground := Ground.chain }], guard := none }) (v := ?v72) rfl (by kernel_rfl) (by kernel_rfl) (by kernel_rfl) (fun _ _ _ h => h) (Or.inl ⟨by rfl, ?hy72⟩) (by assumption) ?rest72
          case hy72 => (intro w hSw; (try dsimp only at hSw); go_simp; try with_reducible rfl)
          try simp only [Act.put, List.setIfInBounds_toArray, List.set_cons_zero, List.set_cons_succ]
          refine wpAnyH_take (i := 7) (oi := { dst := some 104, op := Op.move (Operand.tmp 5), type := 31, pos := "outright.go:133", after := #[{ on := 6, ground := Ground.guard }], guard := some (6, false) }) (v := undef) rfl (by kernel_rfl) (by kernel_rfl) (by kernel_rfl) (fun _ _ _ h => h) (Or.inr ⟨by rfl, rfl⟩) (by assumption) ?_
          try simp only [Act.put, List.setIfInBounds_toArray, List.set_cons_zero, List.set_cons_succ]
          refine wpAnyH_take (i := 8) (oi := { dst := some 105, op := Op.move (Operand.tmp 7), type := 31, pos := "outright.go:133", after := #[{ on := 6, ground := Ground.guard }], guard := some (6, false) }) (v := undef) rfl (by kernel_rfl) (by kernel_rfl) (by kernel_rfl) (fun _ _ _ h => h) (Or.inr ⟨by rfl, rfl⟩) (by assumption) ?_
          try simp only [Act.put, List.setIfInBounds_toArray, List.set_cons_zero, List.set_cons_succ]
          refine wpAnyH_take (i := 10) (oi := { dst := some 107, op := Op.load 28 (Operand.tmp 2), type := 28, pos := "outright.go:133", after := #[{ on := 6, ground := Ground.guard }], guard := some (6, false) }) (v := undef) rfl (by kernel_rfl) (by kernel_rfl) (by kernel_rfl) (fun _ _ _ h => h) (Or.inr ⟨by rfl, rfl⟩) (by assumption) ?_
          try simp only [Act.put, List.setIfInBounds_toArray, List.set_cons_zero, List.set_cons_succ]
          refine wpAnyH_take (i := 12) (oi := { dst := some 109, op := Op.load 28 (Operand.tmp 3), type := 28, pos := "outright.go:133", after := #[{ on := 6, ground := Ground.guard }], guard := some (6, false) }) (v := undef) rfl (by kernel_rfl) (by kernel_rfl) (by kernel_rfl) (fun _ _ _ h => h) (Or.inr ⟨by rfl, rfl⟩) (by assumption) ?_
          try simp only [Act.put, List.setIfInBounds_toArray, List.set_cons_zero, List.set_cons_succ]
          refine wpAnyH_take (i := 9) (oi := { dst := some 106, op := Op.call { callee := Callee.value (Operand.func 15), args := #[Operand.tmp 104, Operand.tmp 105], argTypes := #[31, 31] }, type := 4, pos := "outright.go:133", after := #[{ on := 7, ground := Ground.data }, { on := 8, ground := Ground.data }, { on := 6, ground := Ground.chain }, { on := 6, ground := Ground.guard }], guard := some (6, false) }) (v := undef) rfl (by kernel_rfl) (by kernel_rfl) (by kernel_rfl) (fun _ _ _ h => h) (Or.inr ⟨by rfl, rfl⟩) (by assumption) ?_
          try simp only [Act.put, List.setIfInBounds_toArray, List.set_cons_zero, List.set_cons_succ]
          refine wpAnyH_take (i := 11) (oi := { dst := some 108, op := Op.buildSlice 29 1 #[(0, Operand.tmp 107)], type := 29, pos := "outright.go:133", after := #[{ on := 10, ground := Ground.data }, { on := 6, ground := Ground.guard }], guard := some (6, false) }) (v := undef) rfl (by kernel_rfl) (by kernel_rfl) (by kernel_rfl) (fun _ _ _ h => h) (Or.inr ⟨by rfl, rfl⟩) (by assumption) ?_
          try simp only [Act.put, List.setIfInBounds_toArray, List.set_cons_zero, List.set_cons_succ]
          refine wpAnyH_take (i := 13) (oi := { dst := some 110, op := Op.buildSlice 29 1 #[(0, Operand.tmp 109)], type := 29, pos := "outright.go:133", after := #[{ on := 12, ground := Ground.data }, { on := 6, ground := Ground.guard }], guard := some (6, false) }) (v := undef) rfl (by kernel_rfl) (by kernel_rfl) (by kernel_rfl) (fun _ _ _ h => h) (Or.inr ⟨by rfl, rfl⟩) (by assumption) ?_
          try simp only [Act.put, List.setIfInBounds_toArray, List.set_cons_zero, List.set_cons_succ]
          refine wpAnyH_take (i := 14) (oi := { dst := some 111, op := Op.call { callee := Callee.value (Operand.func 11), args := #[Operand.tmp 108, Operand.tmp 110], argTypes := #[29, 29] }, type := 4, pos := "outright.go:133", after := #[{ on := 11, ground := Ground.data }, { on := 13, ground := Ground.data }, { on := 9, ground := Ground.chain }, { on := 6, ground := Ground.guard }], guard := some (6, false) }) (v := undef) rfl (by kernel_rfl) (by kernel_rfl) (by kernel_rfl) (fun _ _ _ h => h) (Or.inr ⟨by rfl, rfl⟩) (by assumption) ?_
          try simp only [Act.put, List.setIfInBounds_toArray, List.set_cons_zero, List.set_cons_succ]
          refine wpAnyH_take (i := 15) (oi := { dst := some 112, op := Op.binOp BinOp.eql 4 (Operand.tmp 106) (Operand.tmp 111) 4, type := 4, pos := "outright.go:133", after := #[{ on := 9, ground := Ground.data }, { on := 14, ground := Ground.data }, { on := 6, ground := Ground.guard }], guard := some (6, false) }) (v := undef) rfl (by kernel_rfl) (by kernel_rfl) (by kernel_rfl) (fun _ _ _ h => h) (Or.inr ⟨by rfl, rfl⟩) (by assumption) ?_
          try simp only [Act.put, List.setIfInBounds_toArray, List.set_cons_zero, List.set_cons_succ]
          refine wpAnyH_take (i := 16) (oi := { dst := some 113, op := Op.pick (Operand.tmp 103) (Operand.const (Value.bool true)) (Operand.tmp 112), type := 4, pos := "outright.go:133", after := #[{ on := 6, ground := Ground.data }, { on := 15, ground := Ground.data }], guard := none }) (v := ?v73) rfl (by kernel_rfl) (by kernel_rfl) (by kernel_rfl) (fun _ _ _ h => h) (Or.inl ⟨by rfl, ?hy73⟩) (by assumption) ?rest73
          case hy73 => (intro w hSw; (try dsimp only at hSw); go_simp; try with_reducible rfl)
          try simp only [Act.put, List.setIfInBounds_toArray, List.set_cons_zero, List.set_cons_succ]
          refine wpAnyH_take (i := 17) (oi := { dst := some 114, op := Op.move (Operand.tmp 113), type := 4, pos := "outright.go:133", after := #[{ on := 16, ground := Ground.data }, { on := 14, ground := Ground.chain }], guard := none }) (v := ?v74) rfl (by kernel_rfl) (by kernel_rfl) (by kernel_rfl) (fun _ _ _ h => h) (Or.inl ⟨by rfl, ?hy74⟩) (by assumption) ?rest74
          case hy74 => (intro w hSw; (try dsimp only at hSw); go_simp; try with_reducible rfl)
          try simp only [Act.put, List.setIfInBounds_toArray, List.set_cons_zero, List.set_cons_succ]
          refine wpAnyH_ready (rs := [18]) (by kernel_rfl) (by simp) ?_
          refine AllReadyH.cons (o := { dst := some 115, op := Op.call { callee := Callee.value (Operand.func 8), args := #[], argTypes := #[] }, type := 4, pos := "outright.go:133", after := #[{ on := 17, ground := Ground.chain }, { on := 17, ground := Ground.guard }], guard := some (17, true) }) rfl (fun K hK => ?_) AllReadyH.nil
          go_simp
          refine (awake6_c (HV.out.now hHeld)).mono ?_
          rintro e w8 ⟨rfl, hb8⟩
          replace hHeld := bon hHeld hb8
          clear hb8
          go_wp2_with fail
          refine hK.out _ _ hHeld (fun hHeld' => ?_)
          clear hK K
          try simp only [Act.put, List.setIfInBounds_toArray, List.set_cons_zero, List.set_cons_succ]
          refine wpAnyH_take (i := 19) (oi := { dst := some 116, op := Op.pick (Operand.tmp 114) (Operand.tmp 115) (Operand.const (Value.bool false)), type := 4, pos := "outright.go:133", after := #[{ on := 17, ground := Ground.data }, { on := 18, ground := Ground.data }], guard := none }) (v := ?v75) rfl (by kernel_rfl) (by kernel_rfl) (by kernel_rfl) (fun _ _ _ h => h) (Or.inl ⟨by rfl, ?hy75⟩) (by assumption) ?rest75
          case hy75 => (intro w hSw; (try dsimp only at hSw); go_simp; try with_reducible rfl)
          try simp only [Act.put, List.setIfInBounds_toArray, List.set_cons_zero, List.set_cons_succ]
          refine wpAnyH_take (i := 20) (oi := { dst := some 4, op := Op.assign (Operand.tmp 116), type := 4, pos := "outright.go:133", after := #[{ on := 19, ground := Ground.data }, { on := 18, ground := Ground.chain }, { on := 0, ground := Ground.phase }, { on := 1, ground := Ground.phase }, { on := 2, ground := Ground.phase }, { on := 3, ground := Ground.phase }, { on := 4, ground := Ground.phase }, { on := 5, ground := Ground.phase }, { on := 6, ground := Ground.phase }, { on := 7, ground := Ground.phase }, { on := 8, ground := Ground.phase }, { on := 9, ground := Ground.phase }, { on := 10, ground := Ground.phase }, { on := 11, ground := Ground.phase }, { on := 12, ground := Ground.phase }, { on := 13, ground := Ground.phase }, { on := 14, ground := Ground.phase }, { on := 15, ground := Ground.phase }, { on := 16, ground := Ground.phase }, { on := 17, ground := Ground.phase }, { on := 18, ground := Ground.phase }, { on := 19, ground := Ground.phase }], guard := none }) (v := ?v76) rfl (by kernel_rfl) (by kernel_rfl) (by kernel_rfl) (fun _ _ _ h => h) (Or.inl ⟨by rfl, ?hy76⟩) (by assumption) ?rest76
          case hy76 => (intro w hSw; (try dsimp only at hSw); go_simp; try with_reducible rfl)
          try simp only [Act.put, List.setIfInBounds_toArray, List.set_cons_zero, List.set_cons_succ]
          refine wpAnyH_done (by kernel_rfl) ?_ _
          refine NoPanic.normal ?_
          go_wp2_with fail
          go_ret
          exact ⟨rfl, bon HG.out hHeld⟩


theorem contract (H : Type) (enc : TypeId × Value → H) (W : World) (base : Nat) (args : Array Value) (ds gs : List (DataW H)) (before : List MemPlace)
    (hval0 : ∀ (j : Nat) t v, Tryd.f6.params[j]? = some t → args[j]? = some v → Value.okWide Tryd.prog W .any base t v)
    (hW : DataW.Whole enc Tryd.prog Tryd.f6.params.toList Rows.walRightSpec.vars false W args.toList ds gs before) (hL : laidMetH Tryd.prog Rows.walRightRow.laid W) :
    Calls Tryd.prog 6 args W fun e W' => ∃ v, e = .returned v ∧ Rows.walRightSpec.post enc Tryd.prog Tryd.f6 false true false false W args v W' := by
  have hval : ∀ (j : Nat) t v, Tryd.f6.params[j]? = some t → args[j]? = some v → Value.okWide Tryd.prog W .any base t v := hval0
  have hW' := hW
  obtain ⟨p, q, hA0, hV, rfl, hfz, hnd⟩ := hW
  have hA : DataW.TrodAll enc Tryd.prog W 0 (fun _ => true) true Tryd.f6.params.toList args.toList ds p := hA0
  rw [Tryd.params6] at hA hval
  obtain ⟨v0, vs0, d0, ds0, p0, q0_, hargs, rfl, rfl, h0, r0_⟩ := trodAll_cons hA
  obtain ⟨v1, vs1, d1, ds1, p1, q1_, rfl, rfl, rfl, h1, r1_⟩ := trodAll_cons r0_
  obtain ⟨rfl, rfl, rfl⟩ := trodAll_nil r1_
  obtain rfl : args = #[v0, v1] := by cases args; simp_all
  obtain ⟨rfl, rfl⟩ := trodVars_none hV
  have kk0 := h0
  have lt0 : ∀ x ∈ p0, x.block < W.heap.size := by obtain ⟨m, hm⟩ := kk0; exact DataW.trod_lt m _ _ _ hm
  have kk1 := h1
  have lt1 : ∀ x ∈ p1, x.block < W.heap.size := by obtain ⟨m, hm⟩ := kk1; exact DataW.trod_lt m _ _ _ hm
  obtain ⟨x0, e0, q0, r0⟩ := open_rec (hval 0 _ v0 rfl rfl) h0
  subst e0
  obtain ⟨x1, e1, q1, r1⟩ := open_rec (hval 1 _ v1 rfl rfl) h1
  subst e1
  clear hA0 hval0
  refine (walk x0 x1 W q0 r0 q1 r1 (vars_of hL)).mono fun e W' ⟨he, bel⟩ => ?_
  subst he
  exact ⟨_, rfl, _, _, _, [], _, [], hW', trodAll_mk1 (shut_bool Tryd.underlying4 _), (trodAll_cons_mk (Below.trod laidOut (by kernel_rfl) (of_decide_eq_true (by kernel_rfl)) kk0 bel lt0) (trodAll_cons_mk (Below.trod laidOut (by kernel_rfl) (of_decide_eq_true (by kernel_rfl)) kk1 bel lt1) trodAll_mk0)), rfl, bel.frame _, fun h => by cases h⟩

theorem laid_met (os : Os) : laidMet Tryd.prog Rows.walRightRow.laid ((laidWorld os).forCall (fun _ _ => 0) ⟨#[], #[.agg #[.int .u64 0, .slice none 0 0], .agg #[.int .u64 0, .slice none 0 0]], []⟩).memory :=
  laidMet_of_run' 8 (by kernel_rfl) (by kernel_rfl)
theorem reads (os : Os) {H : Type} (enc : TypeId × Value → H) : ∃ places, DataW.whole enc Tryd.prog ((laidWorld os).forCall (fun _ _ => 0) ⟨#[], #[.agg #[.int .u64 0, .slice none 0 0], .agg #[.int .u64 0, .slice none 0 0]], []⟩).memory Tryd.f6.params.toList Rows.walRightSpec.vars false (#[.agg #[.int .u64 0, .slice none 0 0], .agg #[.int .u64 0, .slice none 0 0]] : Array Value).toList 8 = some ([.agg [.lit (.int .u64 0), .nil], .agg [.lit (.int .u64 0), .nil]], [], places) :=
  ⟨[], by kernel_rfl⟩
theorem lifted (os : Os) (started : os.Started) (H : Type) (enc : TypeId × Value → H) (F0 : Stop.Interp) :
    ReturnsInHanded {} Tryd.checked os 6 .any ((OpenSpec.ofChange Rows.walRightSpec).preRow enc Tryd.prog Tryd.f6 Rows.walRightRow.domain false Rows.walRightRow.laid) (((OpenSpec.ofChange Rows.walRightSpec).at F0).post enc Tryd.prog Tryd.f6 false true false false) := by
  obtain ⟨places, hx⟩ := reads os enc
  refine returnsInHanded_of_row (C := Tryd.checked) (s := OpenSpec.ofChange Rows.walRightSpec) own started (by kernel_rfl) Tryd.func6
    (witness_row_at (enc := enc) (C := Tryd.checked) false (laidWorld os) #[.agg #[.int .u64 0, .slice none 0 0], .agg #[.int .u64 0, .slice none 0 0]] rfl (by kernel_rfl) (by kernel_rfl) (by kernel_rfl)
      (OpenSpec.preRow_of_cond 8 hx (by kernel_rfl) (fun k hk => by cases hk) (by kernel_rfl) (laid_met os))) ?_
  intro W base args ds gs before hval hW _ _ _ hL _ _
  exact contract H enc W base args ds gs before hval hW hL

theorem said : Rows.WalRightSaid :=
  OpenClaim.holds_of_cond 6 Tryd.f6 rfl rfl rfl rfl rfl rfl rfl ⟨rfl, rfl, rfl, rfl, rfl⟩ rfl rfl rfl rfl rfl (by kernel_rfl) Tryd.func6 (by kernel_rfl)
    (of_decide_eq_true (by kernel_rfl)) (by unfold Func.isWrapper; first | (rw [if_pos (by decide +kernel)]; kernel_rfl) | (rw [if_neg (by decide +kernel)]; exact ⟨rfl, rfl⟩))
    (fun os started H enc _ F0 => by rw [OpenClaim.pre_eq_preRow]; exact lifted os started H enc F0)

theorem plain (f : FuncId) (fn : Func) (hf : Tryd.pinned.checked.prog.funcNamed Tryd.f6.name = some f) (hfn : Tryd.pinned.checked.prog.funcs[f]? = some fn) :
    true = Tryd.pinned.checked.prog.looks [] ∧ ∀ (j : Nat) t, fn.params[j]? = some t → Tryd.pinned.checked.prog.wantsStandIn t = false := by
  obtain rfl : f = 6 := Option.some.inj ((show Tryd.prog.funcNamed Tryd.f6.name = some 6 by kernel_rfl).symm.trans hf) |>.symm
  obtain rfl : fn = Tryd.f6 := (Option.some.inj (Tryd.func6.symm.trans hfn)).symm
  refine ⟨by kernel_rfl, fun j t ht => ?_⟩
  rw [Tryd.params6] at ht
  have hm := Array.mem_of_getElem? ht
  simp only [List.mem_toArray, List.mem_cons, List.not_mem_nil, or_false] at hm
  rcases hm with rfl | rfl
  · exact (show Tryd.prog.wantsStandIn 28 = false by kernel_rfl)
  · exact (show Tryd.prog.wantsStandIn 28 = false by kernel_rfl)

/-- The statement: the card. -/
theorem proved : Rows.WalRightCardSaid :=
  Claim7.holds_tied_plain_at .later [] _ _ _ _ said (fun _ h => by cases h) (by kernel_rfl) (fun _ h => by cases h) walRight_row_tie rfl ⟨rfl, rfl⟩ (by kernel_rfl) rfl plain (by kernel_rfl)
#print axioms proved
end Go.Proofs.YthgaiimgfnbkaaaDoor.walRight
