/-
  An edit whose note has a number that is not above the last one, or one of whose numbers is below the version, is refused; with that taken away it is not, as long as it tells something: for every two edits.
-/
import Derived.Test.YthgbafhfeblhaaaRows
import Derived.Test.YthgbafhfeblhaaaEdO
import Derived.WalkKit
import Derived.ProofKit
import Derived.OpenShut
import Derived.ShutString
import Derived.ChangeOld
import Derived.Below
import Derived.Deep.CutBlock
namespace Go.Proofs.Ythgbafhfeblhaaa.editRefused
set_option maxRecDepth 100000
open Go.ChangeShapes Go.WideShapes Go.ChangeAt Go.RowKit
open Go.ChangeMaps (open_string shut_string)
set_option linter.unusedVariables false

theorem own : ownKnob Try.prog.godebug = none := by kernel_rfl
theorem laidOut : laidOutB Try.prog = true := by kernel_rfl

open Go.Shelf
set_option linter.unusedSimpArgs false
theorem few_len {e : Ed} (h : fewE e = true) : e.L.length ≤ 70 := by simp [fewE] at h; omega
theorem few_two {x y : Ev} : fewD [x, y] = (fewE x.e && fewE y.e) := by simp [fewD]

theorem apply_nil {e : Ed} (h : rightE e = true) : applyE Ed.nil e = e ∧ okB Ed.nil e = true := by
  have hf : follB Ed.nil e = true := by
    simp [follB, lowB, fallB, Ed.nil]
  have hk : okB Ed.nil e = true := by unfold okB; rw [h, hf]; rfl
  refine ⟨?_, hk⟩
  unfold applyE
  rw [if_pos hk]
  obtain ⟨L, a, b, c⟩ := e
  simp [addE, Ed.nil]
theorem ok_nil_no {e : Ed} (h : rightE e = false) : okB Ed.nil e = false := by unfold okB; rw [h]; rfl
/-- The edit with that taken away. -/
def takeE (l : Bool) (v e : Ed) : Ed := ⟨if l = true then [] else e.L, max e.a v.a, max e.b v.b, max e.c v.c⟩
theorem fallB_max (x y : Nat) : fallB x (max y x) = false := by
  unfold fallB
  by_cases h : 0 < max y x
  · simp; omega
  · simp; omega
theorem take_ok (v e : Ed) : okB v (takeE (lowB v e) v e) = rightE (takeE (lowB v e) v e) := by
  have hl : lowB v (takeE (lowB v e) v e) = false := by
    cases h : lowB v e with
    | true => simp [lowB, takeE]
    | false => exact h
  unfold okB follB
  rw [hl]
  unfold takeE
  simp [fallB_max]
theorem takeE_in {l : Bool} {v e : Ed} (hv : EdIn v) (he : EdIn e) : EdIn (takeE l v e) := by
  obtain ⟨h1, h2, h3, h4⟩ := hv
  obtain ⟨k1, k2, k3, k4⟩ := he
  refine ⟨fun x hx => ?_, ?_, ?_, ?_⟩
  · cases l with
    | true => simp [takeE] at hx
    | false => exact k1 x (by simpa [takeE] using hx)
  · simp only [takeE]; omega
  · simp only [takeE]; omega
  · simp only [takeE]; omega

set_option maxRecDepth 100000 in
set_option maxHeartbeats 8000000 in
theorem walk (y0 : Ev) (y1 : Ev) (w : World) (o0 : EdIn y0.e) (r0 : RdM w w.heap.size y0.A y0.n y0.c y0.e.L) (o1 : EdIn y1.e) (r1 : RdM w w.heap.size y1.A y1.n y1.c y1.e.L) :
    Calls Try.prog 6 #[edV y0.A y0.n y0.c y0.e, edV y1.A y1.n y1.c y1.e] w fun e w' => e = .returned (.bool true) ∧ Below w.heap.size w w' := by
  obtain ⟨A0, n0, c0, e0⟩ := y0
  obtain ⟨A1, n1, c1, e1⟩ := y1
  simp only at o0 r0 o1 r1 ⊢
  have ht := Two.new w 25 25 A0 A1 n0 c0 n1 c1 e0 e1
  obtain ⟨w2, hw2⟩ : ∃ w2, w2 = ((w.alloc (.cells #[.slice A0 n0 c0, .int .u64 (e0.a : Int), .int .u64 (e0.b : Int), .int .u64 (e0.c : Int)] 25)).alloc (.cells #[.slice A1 n1 c1, .int .u64 (e1.a : Int), .int .u64 (e1.b : Int), .int .u64 (e1.c : Int)] 25)) := ⟨_, rfl⟩
  rw [← hw2] at ht
  have HT := Lib.hid ht
  have HR0 := Lib.hid (fun W (hW : Below w2.heap.size w2 W) => r0.below (ht.below.trans (hW.mono ht.below.size)) (Nat.le_refl _))
  have HR1 := Lib.hid (fun W (hW : Below w2.heap.size w2 W) => r1.below (ht.below.trans (hW.mono ht.below.size)) (Nat.le_refl _))
  have HL0 := Lib.hid r0.len
  have HL1 := Lib.hid r1.len
  obtain ⟨q0, q1, q2, q3, _, _, _, _⟩ := ht.b1.cells
  obtain ⟨p0, p1, p2, p3, _, _, _, _⟩ := ht.b2.cells
  obtain ⟨wr, hwr⟩ : ∃ wr, wr = w2.alloc (.cells #[.slice A0 n0 c0, .int .u64 (e0.a : Int), .int .u64 (e0.b : Int), .int .u64 (e0.c : Int), .slice A1 n1 c1, .int .u64 (e1.a : Int), .int .u64 (e1.b : Int), .int .u64 (e1.c : Int)] 25) := ⟨_, rfl⟩
  have HFW := Lib.hid (show RdD wr (w2.heap.size + 1) (some ⟨w2.heap.size, 0, none⟩) 2 2 [⟨A0, n0, c0, e0⟩, ⟨A1, n1, c1, e1⟩] by
    rw [hwr]
    refine RdD.lit w2 rfl rfl rfl (by decide) (fun x hx => ?_)
    simp only [List.mem_cons, List.not_mem_nil, or_false] at hx
    rcases hx with rfl | rfl
    · exact (HR0.out w2 (Below.refl _ _)).more ht.below.size
    · exact (HR1.out w2 (Below.refl _ _)).more ht.below.size)
  have HBR := Lib.hid (show Below w2.heap.size w2 wr by rw [hwr]; exact below_alloc _ _)
  have HFEW := Lib.hid (few_c HFW.out (by rw [hwr]; simp))
  rw [few_two] at HFEW
  simp only at HFEW
  have O0 := Lib.hid o0
  have O1 := Lib.hid o1
  clear ht r0 r1 o0 o1
  unfold edV
  go_enter Try.func6, Try.ntmps6
  go_upto_region 1 with (fail)
  rw [← hw2]
  clear hw2
  go_wp2_with (rw [← hwr])
  clear hwr
  refine HFEW.out.mono ?_
  rintro e w3 ⟨rfl, hb3⟩
  have HX := Lib.hid (bon HBR.out hb3)
  clear hb3 q0 q1 q2 q3 p0 p1 p2 p3
  cases hf0 : fewE e0 with
  | false =>
    simp only [Bool.false_and]
    clear hf0
    go_wp2_with fail
    refine (awake9_c _).mono ?_
    rintro e w99 ⟨rfl, hb99⟩
    go_wp2_with fail
    go_ret
    exact ⟨rfl, bon (bon HT.out.below HX.out) hb99⟩
  | true =>
    cases hf1 : fewE e1 with
    | false =>
      simp only [Bool.and_false]
      clear hf1
      go_wp2_with fail
      refine (awake9_c _).mono ?_
      rintro e w99 ⟨rfl, hb99⟩
      go_wp2_with fail
      go_ret
      exact ⟨rfl, bon (bon HT.out.below HX.out) hb99⟩
    | true =>
      simp only [Bool.and_true]
      have hn0 : n0 ≤ 70 := by have := few_len hf0; have := HL0.out; omega
      have hn1 : n1 ≤ 70 := by have := few_len hf1; have := HL1.out; omega
      have HNN := Lib.hid (show n0 ≤ 70 ∧ n1 ≤ 70 from ⟨hn0, hn1⟩)
      clear hf0 hf1 hn0 hn1
      have HAP := Lib.hid (fun W (hW : Below w2.heap.size w2 W) => apply_c (w := W) (v := Ed.nil) (e := e0) (A1 := none) (n1 := 0) (c1 := 0) RdM.nilv (HR0.out W hW) (Nat.le_trans HT.out.below.size hW.size) (by decide) (by have := HNN.out; omega))
      have HRB := Lib.hid (fun W (hW : Below w2.heap.size w2 W) => right_c (e := e1) (HR1.out W hW) (Nat.le_trans HT.out.below.size hW.size) (by have := HNN.out; omega))
      have HRA := Lib.hid (fun W (hW : Below w2.heap.size w2 W) => right_c (e := e0) (HR0.out W hW) (Nat.le_trans HT.out.below.size hW.size) (by have := HNN.out; omega))
      unfold edV Ed.nil at HAP
      unfold edV at HRA HRB
      obtain ⟨q0, q1, q2, q3, _, _, _, _⟩ := (HT.out.now HX.out).b1.cells
      go_wp2_with fail
      refine (HAP.out _ HX.out).mono ?_
      rintro e w4 ⟨A4, n4, c4, rfl, hf4, hb4⟩
      have HX4a := Lib.hid (bon HX.out hb4)
      clear q0 q1 q2 q3
      cases hra : rightE e0 with
      | false =>
        have HKN := Lib.hid (ok_nil_no hra)
        have HAA := Lib.hid (show applyE Ed.nil e0 = Ed.nil by unfold applyE; rw [HKN.out]; rfl)
        unfold Ed.nil at HKN HAA
        rw [HAA.out, HKN.out]
        have HE : errE false = 90 := rfl
        rw [HE]
        obtain ⟨w5, hw5⟩ : ∃ w5, w5 = w4.alloc (.cells #[.slice A4 n4 c4, .int .u64 ((0 : Nat) : Int), .int .u64 ((0 : Nat) : Int), .int .u64 ((0 : Nat) : Int)] 28) := ⟨_, rfl⟩
        have HX5 := Lib.hid (show Below w2.heap.size w2 w5 by rw [hw5]; exact blit HX4a.out _)
        obtain ⟨q0, q1, q2, q3, _, _, _, _⟩ := (HT.out.now HX5.out).b1.cells
        have hw5b : w5 = w4.alloc (.cells #[.slice A4 n4 c4, .int .u64 0, .int .u64 0, .int .u64 0] 28) := hw5
        have HRN := Lib.hid (HRA.out w5 HX5.out)
        rw [hra] at HRN
        clear hra hf4 hb4 HE
        unfold edV
        go_upto_region 4 with (fail)
        first | rw [← hw5] | rw [← hw5b]
        clear hw5 hw5b
        go_wp2_with fail
        refine HRN.out.mono ?_
        rintro e w6 ⟨rfl, hb6⟩
        have HX6 := Lib.hid (bon HX5.out hb6)
        clear hb6 q0 q1 q2 q3
        go_wp2_with fail
        refine (awake9_c _).mono ?_
        rintro e w99 ⟨rfl, hb99⟩
        go_wp2_with fail
        go_ret
        exact ⟨rfl, bon (bon HT.out.below HX6.out) hb99⟩
      | true =>
        obtain ⟨haa, hkk⟩ := apply_nil hra
        have HAA := Lib.hid haa
        have HKK := Lib.hid hkk
        have HRAY := Lib.hid hra
        unfold Ed.nil at HAA HKK
        (try unfold Ed.nil at hf4)
        rw [HAA.out] at hf4
        rw [HAA.out, HKK.out]
        have HE : errE true = 0 := rfl
        rw [HE]
        obtain ⟨w5, hw5⟩ : ∃ w5, w5 = w4.alloc (.cells #[.slice A4 n4 c4, .int .u64 (e0.a : Int), .int .u64 (e0.b : Int), .int .u64 (e0.c : Int)] 28) := ⟨_, rfl⟩
        have HX5 := Lib.hid (show Below w2.heap.size w2 w5 by rw [hw5]; exact blit HX4a.out _)
        have HV5 := Lib.hid (show B4 w5 w4.heap.size 28 (.slice A4 n4 c4) (.int .u64 (e0.a : Int)) (.int .u64 (e0.b : Int)) (.int .u64 (e0.c : Int)) by rw [hw5]; exact B4.new _ _ _ _ _ _ rfl)
        have HF5 := Lib.hid (show RdM w5 w5.heap.size A4 n4 c4 e0.L by rw [hw5]; exact (hf4.alloc _).rd (Nat.le_refl _))
        have HL4 := Lib.hid hf4.len
        have HN4 := Lib.hid (show n4 ≤ 70 by have := hf4.len; have := HL0.out; have := HNN.out; omega)
        have HRN := Lib.hid (HRB.out w5 HX5.out)
        obtain ⟨p0, p1, p2, p3, _, _, _, _⟩ := (HT.out.now HX5.out).b2.cells
        clear hra hf4 hb4 HE haa hkk
        unfold edV
        go_upto_region 4 with (fail)
        rw [← hw5]
        clear hw5
        go_wp2_with fail
        refine HRN.out.mono ?_
        rintro e w6 ⟨rfl, hb6⟩
        have HB6 := Lib.hid hb6
        have HX6 := Lib.hid (bon HX5.out hb6)
        clear hb6 p0 p1 p2 p3
        obtain ⟨q0, q1, q2, q3, _, _, _, _⟩ := (HT.out.now HX6.out).b1.cells
        obtain ⟨p0, p1, p2, p3, _, _, _, _⟩ := (HT.out.now HX6.out).b2.cells
        obtain ⟨v0, v1, v2, v3, _, _, _, _⟩ := (HV5.out.now HB6.out).cells
        cases hrb : rightE e1 with
        | false =>
          have HRN2 := Lib.hid (HRA.out w6 HX6.out)
          rw [HRAY.out] at HRN2
          clear hrb
          go_wp2_with fail
          refine HRN2.out.mono ?_
          rintro e w7 ⟨rfl, hb7⟩
          have HX7 := Lib.hid (bon HX6.out hb7)
          clear hb7 q0 q1 q2 q3 p0 p1 p2 p3 v0 v1 v2 v3
          go_wp2_with fail
          refine (awake9_c _).mono ?_
          rintro e w99 ⟨rfl, hb99⟩
          go_wp2_with fail
          go_ret
          exact ⟨rfl, bon (bon HT.out.below HX7.out) hb99⟩
        | true =>
          have HRBY := Lib.hid hrb
          have HOKB := Lib.hid (show okB e0 e1 = (!lowB e0 e1 && !(fallB e0.a e1.a || (fallB e0.b e1.b || fallB e0.c e1.c))) by
            unfold okB follB; rw [hrb]; cases lowB e0 e1 <;> cases fallB e0.a e1.a <;> cases fallB e0.b e1.b <;> cases fallB e0.c e1.c <;> rfl)
          have HAP2 := Lib.hid (apply_c (w := w6) (v := e0) (e := e1) (HF5.out.below HB6.out (Nat.le_refl _)) ((HR1.out w6 HX6.out).more (Nat.le_trans HT.out.below.size HX5.out.size)) HB6.out.size (by have := HN4.out; omega) (by have := HNN.out; omega))
          unfold edV at HAP2
          clear hrb
          go_wp2_with fail
          refine HAP2.out.mono ?_
          rintro e w6b ⟨A7, n7, c7, rfl, hf7, hb7⟩
          obtain ⟨wv, hwv⟩ : ∃ wv : Ed, wv = applyE e0 e1 := ⟨_, rfl⟩
          rw [← hwv]
          clear hwv hf7
          obtain ⟨w7, hw7⟩ : ∃ w7, w7 = w6b.alloc (.cells #[.slice A7 n7 c7, .int .u64 (wv.a : Int), .int .u64 (wv.b : Int), .int .u64 (wv.c : Int)] 28) := ⟨_, rfl⟩
          have HB7 := Lib.hid (show Below w5.heap.size w5 w7 by rw [hw7]; exact blit (bon HB6.out hb7) _)
          have HX7 := Lib.hid (bon HX5.out HB7.out)
          have HK4 := Lib.hid (HF5.out.below HB7.out (Nat.le_refl _))
          have HK1 := Lib.hid (HR1.out w7 HX7.out)
          clear hb7 q0 q1 q2 q3 p0 p1 p2 p3 v0 v1 v2 v3
          obtain ⟨q0, q1, q2, q3, _, _, _, _⟩ := (HT.out.now HX7.out).b1.cells
          obtain ⟨p0, p1, p2, p3, _, _, _, _⟩ := (HT.out.now HX7.out).b2.cells
          obtain ⟨v0, v1, v2, v3, _, _, _, _⟩ := (HV5.out.now HB7.out).cells
          unfold edV
          go_upto_region 7 with (fail)
          rw [← hw7]
          clear hw7
          go_cut [9] from 47 to 73 (fun lv wx => lv = .bool (lowB e0 e1) ∧ ∃ q, wx = w7.drewN q)
          case first =>
            have HLB := Lib.hid (show lowB e0 e1 = (decide (0 < n4) && decide (0 < n1) && decide (headN e1.L ≤ lastN e0.L)) by rw [← HL1.out, ← HL4.out]; rfl)
            by_cases h0 : 0 < n4
            · have d0 : decide ((0 : Int) < (n4 : Int)) = true := by simp; omega
              have d0n : decide (0 < n4) = true := by simp; omega
              by_cases h00 : 0 < n1
              · have d1 : decide ((0 : Int) < (n1 : Int)) = true := by simp; omega
                have d1n : decide (0 < n1) = true := by simp; omega
                obtain ⟨j, hj⟩ : ∃ j, n4 = j + 1 := ⟨n4 - 1, by omega⟩
                obtain ⟨b1, o1, hA1, hb1, hc1⟩ := HK4.out.form (by omega)
                obtain ⟨b2, o2, hA2, hb2, hc2⟩ := HK1.out.form (by omega)
                subst hA1
                subst hA2
                obtain ⟨x, hx⟩ : ∃ x, e0.L[j]? = some x := ⟨e0.L[j]'(by have := HL4.out; omega), List.getElem?_eq_getElem _⟩
                obtain ⟨y, hy⟩ : ∃ y, e1.L[0]? = some y := ⟨e1.L[0]'(by have := HL1.out; omega), List.getElem?_eq_getElem _⟩
                obtain ⟨x0, _, _, _⟩ := hc1 j x hx
                obtain ⟨y0, _, _, _⟩ := hc2 0 y hy
                rw [Nat.zero_mul, Nat.add_zero] at y0
                have hw : IntKind.i64.wrap ((n4 : Int) - 1) = (j : Int) := by have := HL4.out; have := HN4.out; rw [wrapi _ (by omega) (by omega)]; omega
                have hji : (0 : Int) ≤ (j : Int) := by omega
                have hjn : (j : Int) < (n4 : Int) := by omega
                have hn2 : (0 : Int) < (n1 : Int) := by omega
                have HXX := Lib.hid (lastN_get (x := x) (by rw [HL4.out, hj]) hx)
                have HYY := Lib.hid (headN_get hy)
                clear hx hy hc1 hc2 hj
                by_cases hlow : y.n ≤ x.n
                · have d2 : decide ((y.n : Int) ≤ (x.n : Int)) = true := by simp; omega
                  have d2n : decide (y.n ≤ x.n) = true := by simp; omega
                  have HLOW := Lib.hid (show lowB e0 e1 = true by rw [HLB.out, HXX.out, HYY.out]; simp [h0, h00, hlow])
                  clear h0 h00 hlow
                  go_quiet (fail)
                  (try go_wp2_with fail)
                  go_meet
                  exact ⟨by rw [HLOW.out], _, rfl⟩
                · have d2 : decide ((y.n : Int) ≤ (x.n : Int)) = false := by simp; omega
                  have d2n : decide (y.n ≤ x.n) = false := by simp; omega
                  have HLOW := Lib.hid (show lowB e0 e1 = false by rw [HLB.out, HXX.out, HYY.out]; simp [hlow])
                  clear h0 h00 hlow
                  go_quiet (fail)
                  (try go_wp2_with fail)
                  go_meet
                  exact ⟨by rw [HLOW.out], _, rfl⟩
              · have d1 : decide ((0 : Int) < (n1 : Int)) = false := by simp; omega
                have d1n : decide (0 < n1) = false := by simp; omega
                have HLOW := Lib.hid (show lowB e0 e1 = false by rw [HLB.out]; simp [h00])
                clear h0 h00
                go_quiet (fail)
                (try go_wp2_with fail)
                go_meet
                exact ⟨by rw [HLOW.out], _, rfl⟩
            · have d0 : decide ((0 : Int) < (n4 : Int)) = false := by simp; omega
              have d0n : decide (0 < n4) = false := by simp; omega
              have HLOW := Lib.hid (show lowB e0 e1 = false by rw [HLB.out]; simp [h0])
              clear h0
              go_quiet (fail)
              (try go_wp2_with fail)
              go_meet
              exact ⟨by rw [HLOW.out], _, rfl⟩
          case rest =>
          obtain ⟨rfl, q, hwq⟩ := hcut
          have HB8 := Lib.hid (show Below w5.heap.size w5 wc by rw [hwq]; exact below_drewN HB7.out q)
          clear hwq
          generalize wc = w8 at HB8 ⊢
          have HX8 := Lib.hid (bon HX5.out HB8.out)
          clear q0 q1 q2 q3 p0 p1 p2 p3 v0 v1 v2 v3
          obtain ⟨p0, p1, p2, p3, _, _, _, _⟩ := (HT.out.now HX8.out).b2.cells
          obtain ⟨v0, v1, v2, v3, _, _, _, _⟩ := (HV5.out.now HB8.out).cells
          go_upto_region 8 with (fail)
          go_cut [10] from 74 to 107 (fun fv wx => fv = .bool (fallB e0.a e1.a || (fallB e0.b e1.b || fallB e0.c e1.c)) ∧ wx = w8)
          case first =>
            have HFA := Lib.hid (show fallB e0.a e1.a = (decide (0 < e1.a) && decide (e1.a < e0.a)) from rfl)
            have HFB := Lib.hid (show fallB e0.b e1.b = (decide (0 < e1.b) && decide (e1.b < e0.b)) from rfl)
            have HFC := Lib.hid (show fallB e0.c e1.c = (decide (0 < e1.c) && decide (e1.c < e0.c)) from rfl)
            go_wp2
            all_goals go_meet
            all_goals refine ⟨?_, rfl⟩
            all_goals (congr 1; rw [HFA.out, HFB.out, HFC.out, Bool.eq_iff_iff]; first | (simp; done) | (simp; omega) | (simp_all; done) | (simp_all; omega))
          case rest =>
          obtain ⟨rfl, hwx⟩ := hcut
          rw [hwx]
          clear hwx
          obtain ⟨fb, hfb⟩ : ∃ fb, fb = (fallB e0.a e1.a || (fallB e0.b e1.b || fallB e0.c e1.c)) := ⟨_, rfl⟩
          rw [← hfb] at HOKB
          rw [← hfb]
          clear hfb
          have HSK := Lib.hid (fun (W : World) (hW : Below w8.heap.size w8 W) => show Below w8.heap.size w8 W ∧ W.cell? ⟨w.heap.size + 1, 0, none⟩ = some (.slice A1 n1 c1) ∧ W.cell? ⟨w.heap.size + 1, 1, none⟩ = some (.int .u64 (e1.a : Int)) ∧ W.cell? ⟨w.heap.size + 1, 2, none⟩ = some (.int .u64 (e1.b : Int)) ∧ W.cell? ⟨w.heap.size + 1, 3, none⟩ = some (.int .u64 (e1.c : Int)) ∧ W.cell? ⟨w4.heap.size, 0, none⟩ = some (.slice A4 n4 c4) ∧ W.cell? ⟨w4.heap.size, 1, none⟩ = some (.int .u64 (e0.a : Int)) ∧ W.cell? ⟨w4.heap.size, 2, none⟩ = some (.int .u64 (e0.b : Int)) ∧ W.cell? ⟨w4.heap.size, 3, none⟩ = some (.int .u64 (e0.c : Int)) by
            obtain ⟨k0, k1, k2, k3, _, _, _, _⟩ := (HT.out.now (bon HX8.out hW)).b2.cells
            obtain ⟨j0, j1, j2, j3, _, _, _, _⟩ := (HV5.out.now (bon HB8.out hW)).cells
            exact ⟨hW, k0, k1, k2, k3, j0, j1, j2, j3⟩)
          obtain ⟨ma, hma⟩ : ∃ ma, ma = max e1.a e0.a := ⟨_, rfl⟩
          obtain ⟨mb, hmb⟩ : ∃ mb, mb = max e1.b e0.b := ⟨_, rfl⟩
          obtain ⟨mc, hmc⟩ : ∃ mc, mc = max e1.c e0.c := ⟨_, rfl⟩
          have hmax : ∀ (x y : Nat) (W : World) (ts : Array TypeId) (ty : TypeId), (Builtin.max_ ts ty #[.int .u64 (x : Int), .int .u64 (y : Int)]).run Try.prog W = .ok (.int .u64 ((max x y : Nat) : Int)) W := fun x y W ts ty => by
            rw [Lib.run_max_ints]; congr 2; omega
          have hmx := hmax e1.a e0.a
          have hmy := hmax e1.b e0.b
          have hmz := hmax e1.c e0.c
          rw [← hma] at hmx
          rw [← hmb] at hmy
          rw [← hmc] at hmz
          have HTK := Lib.hid (show ∀ l, takeE l e0 e1 = ⟨if l = true then [] else e1.L, ma, mb, mc⟩ from fun l => by rw [hma, hmb, hmc]; rfl)
          have HTOK := Lib.hid (take_ok e0 e1)
          clear hma hmb hmc hmax
          cases hlw : lowB e0 e1 with
          | true =>
            rw [hlw] at HOKB HTOK
            rw [HTK.out true, if_pos rfl] at HTOK
            have HOK := Lib.hid (show okB e0 e1 = false by rw [HOKB.out]; rfl)
            rw [HOK.out]
            have HE : errE false = 90 := rfl
            rw [HE]
            clear hlw HE
            cases fb with
            | true =>
              obtain ⟨w9, hw9⟩ : ∃ w9, w9 = w8.alloc (.cells #[.slice none 0 0, .int .u64 (e1.a : Int), .int .u64 (e1.b : Int), .int .u64 (e1.c : Int)] 25) := ⟨_, rfl⟩
              have HC9 := Lib.hid (show B4 w9 w8.heap.size 25 (.slice none 0 0) (.int .u64 (e1.a : Int)) (.int .u64 (e1.b : Int)) (.int .u64 (e1.c : Int)) by rw [hw9]; exact B4.new _ _ _ _ _ _ rfl)
              have hst : Below w8.heap.size w8 w9.drew := by rw [hw9]; exact (below_alloc _ _).drew
              have HST := Lib.hid hst
              go_upto_region 14 with (fail)
              rw [← hw9]
              clear hw9
              obtain ⟨g0, g1, g2, g3, gz0, gz1, gz2, gz3⟩ := HC9.out.cells
              clear p0 p1 p2 p3 v0 v1 v2 v3
              refine wp_region_noPanic ?_
              refine wp_region_held_drew (S := fun w' => Below w8.heap.size w8 w' ∧ w'.cell? ⟨w.heap.size + 1, 0, none⟩ = some (.slice A1 n1 c1) ∧ w'.cell? ⟨w.heap.size + 1, 1, none⟩ = some (.int .u64 (e1.a : Int)) ∧ w'.cell? ⟨w.heap.size + 1, 2, none⟩ = some (.int .u64 (e1.b : Int)) ∧ w'.cell? ⟨w.heap.size + 1, 3, none⟩ = some (.int .u64 (e1.c : Int)) ∧ w'.cell? ⟨w4.heap.size, 0, none⟩ = some (.slice A4 n4 c4) ∧ w'.cell? ⟨w4.heap.size, 1, none⟩ = some (.int .u64 (e0.a : Int)) ∧ w'.cell? ⟨w4.heap.size, 2, none⟩ = some (.int .u64 (e0.b : Int)) ∧ w'.cell? ⟨w4.heap.size, 3, none⟩ = some (.int .u64 (e0.c : Int))) (by kernel_rfl) (HSK.out _ hst) (fun hHeld => ?_)
              refine wpAnyH_take (i := 0) (oi := { dst := some 118, op := Op.fieldAddr 25 (Operand.tmp 3) 1, type := 0, pos := "outright.go:90", after := #[], guard := none }) (v := ?v1) rfl (by kernel_rfl) (by kernel_rfl) (by kernel_rfl) (fun _ _ _ h => h) (Or.inl ⟨by rfl, ?hy1⟩) (by assumption) ?rest1
              case hy1 => (intro w hSw; (try dsimp only at hSw); go_simp; try with_reducible rfl)
              try simp only [Act.put, List.setIfInBounds_toArray, List.set_cons_zero, List.set_cons_succ]
              refine wpAnyH_take (i := 1) (oi := { dst := some 119, op := Op.load 23 (Operand.tmp 118), type := 23, pos := "outright.go:90", after := #[{ on := 0, ground := Ground.data }], guard := none }) (v := ?v2) rfl (by kernel_rfl) (by kernel_rfl) (by kernel_rfl) (fun _ _ _ h => h) (Or.inl ⟨by rfl, ?hy2⟩) (by assumption) ?rest2
              case hy2 => (intro w hSw; (try dsimp only at hSw); go_simp; try with_reducible rfl)
              try simp only [Act.put, List.setIfInBounds_toArray, List.set_cons_zero, List.set_cons_succ]
              refine wpAnyH_take (i := 2) (oi := { dst := some 120, op := Op.fieldAddr 28 (Operand.tmp 5) 1, type := 0, pos := "outright.go:90", after := #[], guard := none }) (v := ?v3) rfl (by kernel_rfl) (by kernel_rfl) (by kernel_rfl) (fun _ _ _ h => h) (Or.inl ⟨by rfl, ?hy3⟩) (by assumption) ?rest3
              case hy3 => (intro w hSw; (try dsimp only at hSw); go_simp; try with_reducible rfl)
              try simp only [Act.put, List.setIfInBounds_toArray, List.set_cons_zero, List.set_cons_succ]
              refine wpAnyH_take (i := 3) (oi := { dst := some 121, op := Op.load 23 (Operand.tmp 120), type := 23, pos := "outright.go:90", after := #[{ on := 2, ground := Ground.data }], guard := none }) (v := ?v4) rfl (by kernel_rfl) (by kernel_rfl) (by kernel_rfl) (fun _ _ _ h => h) (Or.inl ⟨by rfl, ?hy4⟩) (by assumption) ?rest4
              case hy4 => (intro w hSw; (try dsimp only at hSw); go_simp; try with_reducible rfl)
              try simp only [Act.put, List.setIfInBounds_toArray, List.set_cons_zero, List.set_cons_succ]
              refine wpAnyH_take (i := 4) (oi := { dst := some 122, op := Op.call { callee := Callee.builtin Builtin.max, args := #[Operand.tmp 119, Operand.tmp 121], argTypes := #[23, 23] }, type := 23, pos := "outright.go:90", after := #[{ on := 1, ground := Ground.data }, { on := 3, ground := Ground.data }], guard := none }) (v := ?v5) rfl (by kernel_rfl) (by kernel_rfl) (by kernel_rfl) (fun _ _ _ h => h) (Or.inl ⟨by rfl, ?hy5⟩) (by assumption) ?rest5
              case hy5 => (intro w hSw; (try dsimp only at hSw); go_simp; try with_reducible rfl)
              try simp only [Act.put, List.setIfInBounds_toArray, List.set_cons_zero, List.set_cons_succ]
              refine wpAnyH_take (i := 5) (oi := { dst := some 123, op := Op.fieldAddr 25 (Operand.tmp 3) 2, type := 0, pos := "outright.go:90", after := #[], guard := none }) (v := ?v6) rfl (by kernel_rfl) (by kernel_rfl) (by kernel_rfl) (fun _ _ _ h => h) (Or.inl ⟨by rfl, ?hy6⟩) (by assumption) ?rest6
              case hy6 => (intro w hSw; (try dsimp only at hSw); go_simp; try with_reducible rfl)
              try simp only [Act.put, List.setIfInBounds_toArray, List.set_cons_zero, List.set_cons_succ]
              refine wpAnyH_take (i := 6) (oi := { dst := some 124, op := Op.load 23 (Operand.tmp 123), type := 23, pos := "outright.go:90", after := #[{ on := 5, ground := Ground.data }], guard := none }) (v := ?v7) rfl (by kernel_rfl) (by kernel_rfl) (by kernel_rfl) (fun _ _ _ h => h) (Or.inl ⟨by rfl, ?hy7⟩) (by assumption) ?rest7
              case hy7 => (intro w hSw; (try dsimp only at hSw); go_simp; try with_reducible rfl)
              try simp only [Act.put, List.setIfInBounds_toArray, List.set_cons_zero, List.set_cons_succ]
              refine wpAnyH_take (i := 7) (oi := { dst := some 125, op := Op.fieldAddr 28 (Operand.tmp 5) 2, type := 0, pos := "outright.go:90", after := #[], guard := none }) (v := ?v8) rfl (by kernel_rfl) (by kernel_rfl) (by kernel_rfl) (fun _ _ _ h => h) (Or.inl ⟨by rfl, ?hy8⟩) (by assumption) ?rest8
              case hy8 => (intro w hSw; (try dsimp only at hSw); go_simp; try with_reducible rfl)
              try simp only [Act.put, List.setIfInBounds_toArray, List.set_cons_zero, List.set_cons_succ]
              refine wpAnyH_take (i := 8) (oi := { dst := some 126, op := Op.load 23 (Operand.tmp 125), type := 23, pos := "outright.go:90", after := #[{ on := 7, ground := Ground.data }], guard := none }) (v := ?v9) rfl (by kernel_rfl) (by kernel_rfl) (by kernel_rfl) (fun _ _ _ h => h) (Or.inl ⟨by rfl, ?hy9⟩) (by assumption) ?rest9
              case hy9 => (intro w hSw; (try dsimp only at hSw); go_simp; try with_reducible rfl)
              try simp only [Act.put, List.setIfInBounds_toArray, List.set_cons_zero, List.set_cons_succ]
              refine wpAnyH_take (i := 9) (oi := { dst := some 127, op := Op.call { callee := Callee.builtin Builtin.max, args := #[Operand.tmp 124, Operand.tmp 126], argTypes := #[23, 23] }, type := 23, pos := "outright.go:90", after := #[{ on := 6, ground := Ground.data }, { on := 8, ground := Ground.data }], guard := none }) (v := ?v10) rfl (by kernel_rfl) (by kernel_rfl) (by kernel_rfl) (fun _ _ _ h => h) (Or.inl ⟨by rfl, ?hy10⟩) (by assumption) ?rest10
              case hy10 => (intro w hSw; (try dsimp only at hSw); go_simp; try with_reducible rfl)
              try simp only [Act.put, List.setIfInBounds_toArray, List.set_cons_zero, List.set_cons_succ]
              refine wpAnyH_take (i := 10) (oi := { dst := some 128, op := Op.fieldAddr 25 (Operand.tmp 3) 3, type := 0, pos := "outright.go:90", after := #[], guard := none }) (v := ?v11) rfl (by kernel_rfl) (by kernel_rfl) (by kernel_rfl) (fun _ _ _ h => h) (Or.inl ⟨by rfl, ?hy11⟩) (by assumption) ?rest11
              case hy11 => (intro w hSw; (try dsimp only at hSw); go_simp; try with_reducible rfl)
              try simp only [Act.put, List.setIfInBounds_toArray, List.set_cons_zero, List.set_cons_succ]
              refine wpAnyH_take (i := 11) (oi := { dst := some 129, op := Op.load 23 (Operand.tmp 128), type := 23, pos := "outright.go:90", after := #[{ on := 10, ground := Ground.data }], guard := none }) (v := ?v12) rfl (by kernel_rfl) (by kernel_rfl) (by kernel_rfl) (fun _ _ _ h => h) (Or.inl ⟨by rfl, ?hy12⟩) (by assumption) ?rest12
              case hy12 => (intro w hSw; (try dsimp only at hSw); go_simp; try with_reducible rfl)
              try simp only [Act.put, List.setIfInBounds_toArray, List.set_cons_zero, List.set_cons_succ]
              refine wpAnyH_take (i := 12) (oi := { dst := some 130, op := Op.fieldAddr 28 (Operand.tmp 5) 3, type := 0, pos := "outright.go:90", after := #[], guard := none }) (v := ?v13) rfl (by kernel_rfl) (by kernel_rfl) (by kernel_rfl) (fun _ _ _ h => h) (Or.inl ⟨by rfl, ?hy13⟩) (by assumption) ?rest13
              case hy13 => (intro w hSw; (try dsimp only at hSw); go_simp; try with_reducible rfl)
              try simp only [Act.put, List.setIfInBounds_toArray, List.set_cons_zero, List.set_cons_succ]
              refine wpAnyH_take (i := 13) (oi := { dst := some 131, op := Op.load 23 (Operand.tmp 130), type := 23, pos := "outright.go:90", after := #[{ on := 12, ground := Ground.data }], guard := none }) (v := ?v14) rfl (by kernel_rfl) (by kernel_rfl) (by kernel_rfl) (fun _ _ _ h => h) (Or.inl ⟨by rfl, ?hy14⟩) (by assumption) ?rest14
              case hy14 => (intro w hSw; (try dsimp only at hSw); go_simp; try with_reducible rfl)
              try simp only [Act.put, List.setIfInBounds_toArray, List.set_cons_zero, List.set_cons_succ]
              refine wpAnyH_take (i := 14) (oi := { dst := some 132, op := Op.call { callee := Callee.builtin Builtin.max, args := #[Operand.tmp 129, Operand.tmp 131], argTypes := #[23, 23] }, type := 23, pos := "outright.go:90", after := #[{ on := 11, ground := Ground.data }, { on := 13, ground := Ground.data }], guard := none }) (v := ?v15) rfl (by kernel_rfl) (by kernel_rfl) (by kernel_rfl) (fun _ _ _ h => h) (Or.inl ⟨by rfl, ?hy15⟩) (by assumption) ?rest15
              case hy15 => (intro w hSw; (try dsimp only at hSw); go_simp; try with_reducible rfl)
              try simp only [Act.put, List.setIfInBounds_toArray, List.set_cons_zero, List.set_cons_succ]
              refine wpAnyH_take (i := 15) (oi := { dst := some 133, op := Op.fieldAddr 25 (Operand.tmp 11) 1, type := 0, pos := "outright.go:90", after := #[{ on := 0, ground := Ground.phase }, { on := 1, ground := Ground.phase }, { on := 2, ground := Ground.phase }, { on := 3, ground := Ground.phase }, { on := 4, ground := Ground.phase }, { on := 5, ground := Ground.textOnly Departure.lateStores }, { on := 6, ground := Ground.textOnly Departure.lateStores }, { on := 7, ground := Ground.textOnly Departure.lateStores }, { on := 8, ground := Ground.textOnly Departure.lateStores }, { on := 9, ground := Ground.textOnly Departure.lateStoresUnsure }, { on := 10, ground := Ground.textOnly Departure.lateStores }, { on := 11, ground := Ground.textOnly Departure.lateStores }, { on := 12, ground := Ground.textOnly Departure.lateStores }, { on := 13, ground := Ground.textOnly Departure.lateStores }, { on := 14, ground := Ground.textOnly Departure.lateStoresUnsure }], guard := none }) (v := ?v16) rfl (by kernel_rfl) (by kernel_rfl) (by kernel_rfl) (fun _ _ _ h => h) (Or.inl ⟨by rfl, ?hy16⟩) (by assumption) ?rest16
              case hy16 => (intro w hSw; (try dsimp only at hSw); go_simp; try with_reducible rfl)
              try simp only [Act.put, List.setIfInBounds_toArray, List.set_cons_zero, List.set_cons_succ]
              refine wpAnyH_ready (rs := [16]) (by kernel_rfl) (by simp) ?_
              refine AllReadyH.cons (o := { dst := none, op := Op.store 23 (Operand.tmp 133) (Operand.tmp 122), type := 0, pos := "outright.go:90", after := #[{ on := 15, ground := Ground.data }, { on := 4, ground := Ground.data }, { on := 0, ground := Ground.phase }, { on := 1, ground := Ground.phase }, { on := 2, ground := Ground.phase }, { on := 3, ground := Ground.phase }, { on := 4, ground := Ground.phase }, { on := 5, ground := Ground.textOnly Departure.lateStores }, { on := 6, ground := Ground.textOnly Departure.lateStores }, { on := 7, ground := Ground.textOnly Departure.lateStores }, { on := 8, ground := Ground.textOnly Departure.lateStores }, { on := 9, ground := Ground.textOnly Departure.lateStoresUnsure }, { on := 10, ground := Ground.textOnly Departure.lateStores }, { on := 11, ground := Ground.textOnly Departure.lateStores }, { on := 12, ground := Ground.textOnly Departure.lateStores }, { on := 13, ground := Ground.textOnly Departure.lateStores }, { on := 14, ground := Ground.textOnly Departure.lateStoresUnsure }], guard := none }) rfl (fun K hK => ?_) AllReadyH.nil
              go_simp
              clear hHeld
              refine hK.out _ _ (HSK.out _ (Below.setCell hst (Nat.le_refl _) _)) (fun hHeld => ?_)
              clear hK K
              try simp only [Act.put, List.setIfInBounds_toArray, List.set_cons_zero, List.set_cons_succ]
              refine wpAnyH_take (i := 17) (oi := { dst := some 134, op := Op.fieldAddr 25 (Operand.tmp 11) 2, type := 0, pos := "outright.go:90", after := #[{ on := 0, ground := Ground.phase }, { on := 1, ground := Ground.phase }, { on := 2, ground := Ground.phase }, { on := 3, ground := Ground.phase }, { on := 4, ground := Ground.phase }, { on := 5, ground := Ground.phase }, { on := 6, ground := Ground.phase }, { on := 7, ground := Ground.phase }, { on := 8, ground := Ground.phase }, { on := 9, ground := Ground.phase }, { on := 10, ground := Ground.textOnly Departure.lateStores }, { on := 11, ground := Ground.textOnly Departure.lateStores }, { on := 12, ground := Ground.textOnly Departure.lateStores }, { on := 13, ground := Ground.textOnly Departure.lateStores }, { on := 14, ground := Ground.textOnly Departure.lateStoresUnsure }, { on := 15, ground := Ground.phase }, { on := 16, ground := Ground.phase }], guard := none }) (v := ?v17) rfl (by kernel_rfl) (by kernel_rfl) (by kernel_rfl) (fun _ _ _ h => h) (Or.inl ⟨by rfl, ?hy17⟩) (by assumption) ?rest17
              case hy17 => (intro w hSw; (try dsimp only at hSw); go_simp; try with_reducible rfl)
              try simp only [Act.put, List.setIfInBounds_toArray, List.set_cons_zero, List.set_cons_succ]
              refine wpAnyH_ready (rs := [18]) (by kernel_rfl) (by simp) ?_
              refine AllReadyH.cons (o := { dst := none, op := Op.store 23 (Operand.tmp 134) (Operand.tmp 127), type := 0, pos := "outright.go:90", after := #[{ on := 17, ground := Ground.data }, { on := 9, ground := Ground.data }, { on := 16, ground := Ground.chain }, { on := 0, ground := Ground.phase }, { on := 1, ground := Ground.phase }, { on := 2, ground := Ground.phase }, { on := 3, ground := Ground.phase }, { on := 4, ground := Ground.phase }, { on := 5, ground := Ground.phase }, { on := 6, ground := Ground.phase }, { on := 7, ground := Ground.phase }, { on := 8, ground := Ground.phase }, { on := 9, ground := Ground.phase }, { on := 10, ground := Ground.textOnly Departure.lateStores }, { on := 11, ground := Ground.textOnly Departure.lateStores }, { on := 12, ground := Ground.textOnly Departure.lateStores }, { on := 13, ground := Ground.textOnly Departure.lateStores }, { on := 14, ground := Ground.textOnly Departure.lateStoresUnsure }, { on := 15, ground := Ground.phase }, { on := 16, ground := Ground.phase }], guard := none }) rfl (fun K hK => ?_) AllReadyH.nil
              go_simp
              clear hHeld
              refine hK.out _ _ (HSK.out _ (Below.setCell (Below.setCell hst (Nat.le_refl _) _) (Nat.le_refl _) _)) (fun hHeld => ?_)
              clear hK K
              try simp only [Act.put, List.setIfInBounds_toArray, List.set_cons_zero, List.set_cons_succ]
              refine wpAnyH_take (i := 19) (oi := { dst := some 135, op := Op.fieldAddr 25 (Operand.tmp 11) 3, type := 0, pos := "outright.go:90", after := #[{ on := 0, ground := Ground.phase }, { on := 1, ground := Ground.phase }, { on := 2, ground := Ground.phase }, { on := 3, ground := Ground.phase }, { on := 4, ground := Ground.phase }, { on := 5, ground := Ground.phase }, { on := 6, ground := Ground.phase }, { on := 7, ground := Ground.phase }, { on := 8, ground := Ground.phase }, { on := 9, ground := Ground.phase }, { on := 10, ground := Ground.phase }, { on := 11, ground := Ground.phase }, { on := 12, ground := Ground.phase }, { on := 13, ground := Ground.phase }, { on := 14, ground := Ground.phase }, { on := 15, ground := Ground.phase }, { on := 16, ground := Ground.phase }, { on := 17, ground := Ground.phase }, { on := 18, ground := Ground.phase }], guard := none }) (v := ?v18) rfl (by kernel_rfl) (by kernel_rfl) (by kernel_rfl) (fun _ _ _ h => h) (Or.inl ⟨by rfl, ?hy18⟩) (by assumption) ?rest18
              case hy18 => (intro w hSw; (try dsimp only at hSw); go_simp; try with_reducible rfl)
              try simp only [Act.put, List.setIfInBounds_toArray, List.set_cons_zero, List.set_cons_succ]
              refine wpAnyH_ready (rs := [20]) (by kernel_rfl) (by simp) ?_
              refine AllReadyH.cons (o := { dst := none, op := Op.store 23 (Operand.tmp 135) (Operand.tmp 132), type := 0, pos := "outright.go:90", after := #[{ on := 19, ground := Ground.data }, { on := 14, ground := Ground.data }, { on := 18, ground := Ground.chain }, { on := 0, ground := Ground.phase }, { on := 1, ground := Ground.phase }, { on := 2, ground := Ground.phase }, { on := 3, ground := Ground.phase }, { on := 4, ground := Ground.phase }, { on := 5, ground := Ground.phase }, { on := 6, ground := Ground.phase }, { on := 7, ground := Ground.phase }, { on := 8, ground := Ground.phase }, { on := 9, ground := Ground.phase }, { on := 10, ground := Ground.phase }, { on := 11, ground := Ground.phase }, { on := 12, ground := Ground.phase }, { on := 13, ground := Ground.phase }, { on := 14, ground := Ground.phase }, { on := 15, ground := Ground.phase }, { on := 16, ground := Ground.phase }, { on := 17, ground := Ground.phase }, { on := 18, ground := Ground.phase }], guard := none }) rfl (fun K hK => ?_) AllReadyH.nil
              go_simp
              clear hHeld
              refine hK.out _ _ (HSK.out _ (Below.setCell (Below.setCell (Below.setCell hst (Nat.le_refl _) _) (Nat.le_refl _) _) (Nat.le_refl _) _)) (fun hHeld => ?_)
              clear hK K
              try simp only [Act.put, List.setIfInBounds_toArray, List.set_cons_zero, List.set_cons_succ]
              refine wpAnyH_done (by kernel_rfl) ?_ _
              refine NoPanic.normal ?_
              obtain ⟨w10, hw10⟩ : ∃ w10, w10 = ((w9.drew.setCell ⟨w8.heap.size, 1, none⟩ (.int .u64 (ma : Int))).setCell ⟨w8.heap.size, 2, none⟩ (.int .u64 (mb : Int))).setCell ⟨w8.heap.size, 3, none⟩ (.int .u64 (mc : Int)) := ⟨_, rfl⟩
              have HC10 := Lib.hid (show B4 w10 w8.heap.size 25 (.slice none 0 0) (.int .u64 (ma : Int)) (.int .u64 (mb : Int)) (.int .u64 (mc : Int)) by rw [hw10]; exact ((HC9.out.drew.set1 _).set2 _).set3 _)
              have HB10 := Lib.hid (show Below w8.heap.size w8 w10 by rw [hw10]; exact Below.setCell (Below.setCell (Below.setCell HST.out (Nat.le_refl _) _) (Nat.le_refl _) _) (Nat.le_refl _) _)
              have HX10 := Lib.hid (bon HX8.out HB10.out)
              have HV10 := Lib.hid (bon HB8.out HB10.out)
              have HRC := Lib.hid (show ∀ W, Below w2.heap.size w2 W → RdM W w.heap.size none 0 0 [] from fun W hW => RdM.nilv)
              have HAPC := Lib.hid (apply_c (w := w10) (v := e0) (e := ⟨[], ma, mb, mc⟩) (HF5.out.below HV10.out (Nat.le_refl _)) ((HRC.out w10 HX10.out).more (Nat.le_trans HT.out.below.size HX5.out.size)) HV10.out.size (by have := HN4.out; omega) (by have := HNN.out; omega))
              have HRTC := Lib.hid (fun W (hW : Below w2.heap.size w2 W) => right_c (e := ⟨[], ma, mb, mc⟩) (HRC.out W hW) (Nat.le_trans HT.out.below.size hW.size) (by have := HNN.out; omega))
              unfold edV at HAPC HRTC
              clear hHeld hst
              have hw10b : w10 = (((w9.setCell ⟨w8.heap.size, 1, none⟩ (.int .u64 (ma : Int))).setCell ⟨w8.heap.size, 2, none⟩ (.int .u64 (mb : Int))).setCell ⟨w8.heap.size, 3, none⟩ (.int .u64 (mc : Int))).drew := hw10
              go_upto_region 15 with (fail)
              first | rw [← hw10] | rw [← hw10b]
              clear hw10 hw10b g0 g1 g2 g3 gz0 gz1 gz2 gz3
              obtain ⟨g0, g1, g2, g3, _, _, _, _⟩ := HC10.out.cells
              obtain ⟨v0, v1, v2, v3, _, _, _, _⟩ := (HV5.out.now HV10.out).cells
              go_wp2_with fail
              refine HAPC.out.mono ?_
              rintro e w11 ⟨A11, n11, c11, rfl, hf11, hb11⟩
              obtain ⟨wu, hwu⟩ : ∃ wu : Ed, wu = applyE e0 ⟨[], ma, mb, mc⟩ := ⟨_, rfl⟩
              rw [← hwu]
              rw [HTOK.out]
              clear hwu hf11
              obtain ⟨w12, hw12⟩ : ∃ w12, w12 = w11.alloc (.cells #[.slice A11 n11 c11, .int .u64 (wu.a : Int), .int .u64 (wu.b : Int), .int .u64 (wu.c : Int)] 28) := ⟨_, rfl⟩
              have HB12 := Lib.hid (show Below w10.heap.size w10 w12 by rw [hw12]; exact blit hb11 _)
              have HX12 := Lib.hid (bon HX10.out HB12.out)
              clear hb11 g0 g1 g2 g3 v0 v1 v2 v3
              obtain ⟨g0, g1, g2, g3, _, _, _, _⟩ := (HC10.out.now HB12.out).cells
              have HRQ := Lib.hid (HRTC.out w12 HX12.out)
              unfold edV
              go_upto_region 16 with (fail)
              rw [← hw12]
              clear hw12
              obtain ⟨rq, hrq⟩ : ∃ rq, rq = rightE ⟨[], ma, mb, mc⟩ := ⟨_, rfl⟩
              rw [← hrq] at HRQ
              rw [← hrq]
              clear hrq
              have HE1 : errE true = 0 := rfl
              have HE2 : errE false = 90 := rfl
              cases rq with
              | true =>
                rw [HE1]
                clear HE1 HE2
                go_wp2_with fail
                refine HRQ.out.mono ?_
                rintro e w13 ⟨rfl, hb13⟩
                have HX13 := Lib.hid (bon HX12.out hb13)
                clear hb13 g0 g1 g2 g3
                go_wp2_with fail
                refine (awake9_c _).mono ?_
                rintro e w99 ⟨rfl, hb99⟩
                go_wp2_with fail
                go_ret
                exact ⟨rfl, bon (bon HT.out.below HX13.out) hb99⟩
              | false =>
                rw [HE2]
                clear HE1 HE2
                go_wp2_with fail
                refine HRQ.out.mono ?_
                rintro e w13 ⟨rfl, hb13⟩
                have HX13 := Lib.hid (bon HX12.out hb13)
                clear hb13 g0 g1 g2 g3
                go_wp2_with fail
                refine (awake9_c _).mono ?_
                rintro e w99 ⟨rfl, hb99⟩
                go_wp2_with fail
                go_ret
                exact ⟨rfl, bon (bon HT.out.below HX13.out) hb99⟩
            | false =>
              obtain ⟨w9, hw9⟩ : ∃ w9, w9 = w8.alloc (.cells #[.slice none 0 0, .int .u64 (e1.a : Int), .int .u64 (e1.b : Int), .int .u64 (e1.c : Int)] 25) := ⟨_, rfl⟩
              have HC9 := Lib.hid (show B4 w9 w8.heap.size 25 (.slice none 0 0) (.int .u64 (e1.a : Int)) (.int .u64 (e1.b : Int)) (.int .u64 (e1.c : Int)) by rw [hw9]; exact B4.new _ _ _ _ _ _ rfl)
              have hst : Below w8.heap.size w8 w9.drew := by rw [hw9]; exact (below_alloc _ _).drew
              have HST := Lib.hid hst
              go_upto_region 14 with (fail)
              rw [← hw9]
              clear hw9
              obtain ⟨g0, g1, g2, g3, gz0, gz1, gz2, gz3⟩ := HC9.out.cells
              clear p0 p1 p2 p3 v0 v1 v2 v3
              refine wp_region_noPanic ?_
              refine wp_region_held_drew (S := fun w' => Below w8.heap.size w8 w' ∧ w'.cell? ⟨w.heap.size + 1, 0, none⟩ = some (.slice A1 n1 c1) ∧ w'.cell? ⟨w.heap.size + 1, 1, none⟩ = some (.int .u64 (e1.a : Int)) ∧ w'.cell? ⟨w.heap.size + 1, 2, none⟩ = some (.int .u64 (e1.b : Int)) ∧ w'.cell? ⟨w.heap.size + 1, 3, none⟩ = some (.int .u64 (e1.c : Int)) ∧ w'.cell? ⟨w4.heap.size, 0, none⟩ = some (.slice A4 n4 c4) ∧ w'.cell? ⟨w4.heap.size, 1, none⟩ = some (.int .u64 (e0.a : Int)) ∧ w'.cell? ⟨w4.heap.size, 2, none⟩ = some (.int .u64 (e0.b : Int)) ∧ w'.cell? ⟨w4.heap.size, 3, none⟩ = some (.int .u64 (e0.c : Int))) (by kernel_rfl) (HSK.out _ hst) (fun hHeld => ?_)
              refine wpAnyH_take (i := 0) (oi := { dst := some 118, op := Op.fieldAddr 25 (Operand.tmp 3) 1, type := 0, pos := "outright.go:90", after := #[], guard := none }) (v := ?v19) rfl (by kernel_rfl) (by kernel_rfl) (by kernel_rfl) (fun _ _ _ h => h) (Or.inl ⟨by rfl, ?hy19⟩) (by assumption) ?rest19
              case hy19 => (intro w hSw; (try dsimp only at hSw); go_simp; try with_reducible rfl)
              try simp only [Act.put, List.setIfInBounds_toArray, List.set_cons_zero, List.set_cons_succ]
              refine wpAnyH_take (i := 1) (oi := { dst := some 119, op := Op.load 23 (Operand.tmp 118), type := 23, pos := "outright.go:90", after := #[{ on := 0, ground := Ground.data }], guard := none }) (v := ?v20) rfl (by kernel_rfl) (by kernel_rfl) (by kernel_rfl) (fun _ _ _ h => h) (Or.inl ⟨by rfl, ?hy20⟩) (by assumption) ?rest20
              case hy20 => (intro w hSw; (try dsimp only at hSw); go_simp; try with_reducible rfl)
              try simp only [Act.put, List.setIfInBounds_toArray, List.set_cons_zero, List.set_cons_succ]
              refine wpAnyH_take (i := 2) (oi := { dst := some 120, op := Op.fieldAddr 28 (Operand.tmp 5) 1, type := 0, pos := "outright.go:90", after := #[], guard := none }) (v := ?v21) rfl (by kernel_rfl) (by kernel_rfl) (by kernel_rfl) (fun _ _ _ h => h) (Or.inl ⟨by rfl, ?hy21⟩) (by assumption) ?rest21
              case hy21 => (intro w hSw; (try dsimp only at hSw); go_simp; try with_reducible rfl)
              try simp only [Act.put, List.setIfInBounds_toArray, List.set_cons_zero, List.set_cons_succ]
              refine wpAnyH_take (i := 3) (oi := { dst := some 121, op := Op.load 23 (Operand.tmp 120), type := 23, pos := "outright.go:90", after := #[{ on := 2, ground := Ground.data }], guard := none }) (v := ?v22) rfl (by kernel_rfl) (by kernel_rfl) (by kernel_rfl) (fun _ _ _ h => h) (Or.inl ⟨by rfl, ?hy22⟩) (by assumption) ?rest22
              case hy22 => (intro w hSw; (try dsimp only at hSw); go_simp; try with_reducible rfl)
              try simp only [Act.put, List.setIfInBounds_toArray, List.set_cons_zero, List.set_cons_succ]
              refine wpAnyH_take (i := 4) (oi := { dst := some 122, op := Op.call { callee := Callee.builtin Builtin.max, args := #[Operand.tmp 119, Operand.tmp 121], argTypes := #[23, 23] }, type := 23, pos := "outright.go:90", after := #[{ on := 1, ground := Ground.data }, { on := 3, ground := Ground.data }], guard := none }) (v := ?v23) rfl (by kernel_rfl) (by kernel_rfl) (by kernel_rfl) (fun _ _ _ h => h) (Or.inl ⟨by rfl, ?hy23⟩) (by assumption) ?rest23
              case hy23 => (intro w hSw; (try dsimp only at hSw); go_simp; try with_reducible rfl)
              try simp only [Act.put, List.setIfInBounds_toArray, List.set_cons_zero, List.set_cons_succ]
              refine wpAnyH_take (i := 5) (oi := { dst := some 123, op := Op.fieldAddr 25 (Operand.tmp 3) 2, type := 0, pos := "outright.go:90", after := #[], guard := none }) (v := ?v24) rfl (by kernel_rfl) (by kernel_rfl) (by kernel_rfl) (fun _ _ _ h => h) (Or.inl ⟨by rfl, ?hy24⟩) (by assumption) ?rest24
              case hy24 => (intro w hSw; (try dsimp only at hSw); go_simp; try with_reducible rfl)
              try simp only [Act.put, List.setIfInBounds_toArray, List.set_cons_zero, List.set_cons_succ]
              refine wpAnyH_take (i := 6) (oi := { dst := some 124, op := Op.load 23 (Operand.tmp 123), type := 23, pos := "outright.go:90", after := #[{ on := 5, ground := Ground.data }], guard := none }) (v := ?v25) rfl (by kernel_rfl) (by kernel_rfl) (by kernel_rfl) (fun _ _ _ h => h) (Or.inl ⟨by rfl, ?hy25⟩) (by assumption) ?rest25
              case hy25 => (intro w hSw; (try dsimp only at hSw); go_simp; try with_reducible rfl)
              try simp only [Act.put, List.setIfInBounds_toArray, List.set_cons_zero, List.set_cons_succ]
              refine wpAnyH_take (i := 7) (oi := { dst := some 125, op := Op.fieldAddr 28 (Operand.tmp 5) 2, type := 0, pos := "outright.go:90", after := #[], guard := none }) (v := ?v26) rfl (by kernel_rfl) (by kernel_rfl) (by kernel_rfl) (fun _ _ _ h => h) (Or.inl ⟨by rfl, ?hy26⟩) (by assumption) ?rest26
              case hy26 => (intro w hSw; (try dsimp only at hSw); go_simp; try with_reducible rfl)
              try simp only [Act.put, List.setIfInBounds_toArray, List.set_cons_zero, List.set_cons_succ]
              refine wpAnyH_take (i := 8) (oi := { dst := some 126, op := Op.load 23 (Operand.tmp 125), type := 23, pos := "outright.go:90", after := #[{ on := 7, ground := Ground.data }], guard := none }) (v := ?v27) rfl (by kernel_rfl) (by kernel_rfl) (by kernel_rfl) (fun _ _ _ h => h) (Or.inl ⟨by rfl, ?hy27⟩) (by assumption) ?rest27
              case hy27 => (intro w hSw; (try dsimp only at hSw); go_simp; try with_reducible rfl)
              try simp only [Act.put, List.setIfInBounds_toArray, List.set_cons_zero, List.set_cons_succ]
              refine wpAnyH_take (i := 9) (oi := { dst := some 127, op := Op.call { callee := Callee.builtin Builtin.max, args := #[Operand.tmp 124, Operand.tmp 126], argTypes := #[23, 23] }, type := 23, pos := "outright.go:90", after := #[{ on := 6, ground := Ground.data }, { on := 8, ground := Ground.data }], guard := none }) (v := ?v28) rfl (by kernel_rfl) (by kernel_rfl) (by kernel_rfl) (fun _ _ _ h => h) (Or.inl ⟨by rfl, ?hy28⟩) (by assumption) ?rest28
              case hy28 => (intro w hSw; (try dsimp only at hSw); go_simp; try with_reducible rfl)
              try simp only [Act.put, List.setIfInBounds_toArray, List.set_cons_zero, List.set_cons_succ]
              refine wpAnyH_take (i := 10) (oi := { dst := some 128, op := Op.fieldAddr 25 (Operand.tmp 3) 3, type := 0, pos := "outright.go:90", after := #[], guard := none }) (v := ?v29) rfl (by kernel_rfl) (by kernel_rfl) (by kernel_rfl) (fun _ _ _ h => h) (Or.inl ⟨by rfl, ?hy29⟩) (by assumption) ?rest29
              case hy29 => (intro w hSw; (try dsimp only at hSw); go_simp; try with_reducible rfl)
              try simp only [Act.put, List.setIfInBounds_toArray, List.set_cons_zero, List.set_cons_succ]
              refine wpAnyH_take (i := 11) (oi := { dst := some 129, op := Op.load 23 (Operand.tmp 128), type := 23, pos := "outright.go:90", after := #[{ on := 10, ground := Ground.data }], guard := none }) (v := ?v30) rfl (by kernel_rfl) (by kernel_rfl) (by kernel_rfl) (fun _ _ _ h => h) (Or.inl ⟨by rfl, ?hy30⟩) (by assumption) ?rest30
              case hy30 => (intro w hSw; (try dsimp only at hSw); go_simp; try with_reducible rfl)
              try simp only [Act.put, List.setIfInBounds_toArray, List.set_cons_zero, List.set_cons_succ]
              refine wpAnyH_take (i := 12) (oi := { dst := some 130, op := Op.fieldAddr 28 (Operand.tmp 5) 3, type := 0, pos := "outright.go:90", after := #[], guard := none }) (v := ?v31) rfl (by kernel_rfl) (by kernel_rfl) (by kernel_rfl) (fun _ _ _ h => h) (Or.inl ⟨by rfl, ?hy31⟩) (by assumption) ?rest31
              case hy31 => (intro w hSw; (try dsimp only at hSw); go_simp; try with_reducible rfl)
              try simp only [Act.put, List.setIfInBounds_toArray, List.set_cons_zero, List.set_cons_succ]
              refine wpAnyH_take (i := 13) (oi := { dst := some 131, op := Op.load 23 (Operand.tmp 130), type := 23, pos := "outright.go:90", after := #[{ on := 12, ground := Ground.data }], guard := none }) (v := ?v32) rfl (by kernel_rfl) (by kernel_rfl) (by kernel_rfl) (fun _ _ _ h => h) (Or.inl ⟨by rfl, ?hy32⟩) (by assumption) ?rest32
              case hy32 => (intro w hSw; (try dsimp only at hSw); go_simp; try with_reducible rfl)
              try simp only [Act.put, List.setIfInBounds_toArray, List.set_cons_zero, List.set_cons_succ]
              refine wpAnyH_take (i := 14) (oi := { dst := some 132, op := Op.call { callee := Callee.builtin Builtin.max, args := #[Operand.tmp 129, Operand.tmp 131], argTypes := #[23, 23] }, type := 23, pos := "outright.go:90", after := #[{ on := 11, ground := Ground.data }, { on := 13, ground := Ground.data }], guard := none }) (v := ?v33) rfl (by kernel_rfl) (by kernel_rfl) (by kernel_rfl) (fun _ _ _ h => h) (Or.inl ⟨by rfl, ?hy33⟩) (by assumption) ?rest33
              case hy33 => (intro w hSw; (try dsimp only at hSw); go_simp; try with_reducible rfl)
              try simp only [Act.put, List.setIfInBounds_toArray, List.set_cons_zero, List.set_cons_succ]
              refine wpAnyH_take (i := 15) (oi := { dst := some 133, op := Op.fieldAddr 25 (Operand.tmp 11) 1, type := 0, pos := "outright.go:90", after := #[{ on := 0, ground := Ground.phase }, { on := 1, ground := Ground.phase }, { on := 2, ground := Ground.phase }, { on := 3, ground := Ground.phase }, { on := 4, ground := Ground.phase }, { on := 5, ground := Ground.textOnly Departure.lateStores }, { on := 6, ground := Ground.textOnly Departure.lateStores }, { on := 7, ground := Ground.textOnly Departure.lateStores }, { on := 8, ground := Ground.textOnly Departure.lateStores }, { on := 9, ground := Ground.textOnly Departure.lateStoresUnsure }, { on := 10, ground := Ground.textOnly Departure.lateStores }, { on := 11, ground := Ground.textOnly Departure.lateStores }, { on := 12, ground := Ground.textOnly Departure.lateStores }, { on := 13, ground := Ground.textOnly Departure.lateStores }, { on := 14, ground := Ground.textOnly Departure.lateStoresUnsure }], guard := none }) (v := ?v34) rfl (by kernel_rfl) (by kernel_rfl) (by kernel_rfl) (fun _ _ _ h => h) (Or.inl ⟨by rfl, ?hy34⟩) (by assumption) ?rest34
              case hy34 => (intro w hSw; (try dsimp only at hSw); go_simp; try with_reducible rfl)
              try simp only [Act.put, List.setIfInBounds_toArray, List.set_cons_zero, List.set_cons_succ]
              refine wpAnyH_ready (rs := [16]) (by kernel_rfl) (by simp) ?_
              refine AllReadyH.cons (o := { dst := none, op := Op.store 23 (Operand.tmp 133) (Operand.tmp 122), type := 0, pos := "outright.go:90", after := #[{ on := 15, ground := Ground.data }, { on := 4, ground := Ground.data }, { on := 0, ground := Ground.phase }, { on := 1, ground := Ground.phase }, { on := 2, ground := Ground.phase }, { on := 3, ground := Ground.phase }, { on := 4, ground := Ground.phase }, { on := 5, ground := Ground.textOnly Departure.lateStores }, { on := 6, ground := Ground.textOnly Departure.lateStores }, { on := 7, ground := Ground.textOnly Departure.lateStores }, { on := 8, ground := Ground.textOnly Departure.lateStores }, { on := 9, ground := Ground.textOnly Departure.lateStoresUnsure }, { on := 10, ground := Ground.textOnly Departure.lateStores }, { on := 11, ground := Ground.textOnly Departure.lateStores }, { on := 12, ground := Ground.textOnly Departure.lateStores }, { on := 13, ground := Ground.textOnly Departure.lateStores }, { on := 14, ground := Ground.textOnly Departure.lateStoresUnsure }], guard := none }) rfl (fun K hK => ?_) AllReadyH.nil
              go_simp
              clear hHeld
              refine hK.out _ _ (HSK.out _ (Below.setCell hst (Nat.le_refl _) _)) (fun hHeld => ?_)
              clear hK K
              try simp only [Act.put, List.setIfInBounds_toArray, List.set_cons_zero, List.set_cons_succ]
              refine wpAnyH_take (i := 17) (oi := { dst := some 134, op := Op.fieldAddr 25 (Operand.tmp 11) 2, type := 0, pos := "outright.go:90", after := #[{ on := 0, ground := Ground.phase }, { on := 1, ground := Ground.phase }, { on := 2, ground := Ground.phase }, { on := 3, ground := Ground.phase }, { on := 4, ground := Ground.phase }, { on := 5, ground := Ground.phase }, { on := 6, ground := Ground.phase }, { on := 7, ground := Ground.phase }, { on := 8, ground := Ground.phase }, { on := 9, ground := Ground.phase }, { on := 10, ground := Ground.textOnly Departure.lateStores }, { on := 11, ground := Ground.textOnly Departure.lateStores }, { on := 12, ground := Ground.textOnly Departure.lateStores }, { on := 13, ground := Ground.textOnly Departure.lateStores }, { on := 14, ground := Ground.textOnly Departure.lateStoresUnsure }, { on := 15, ground := Ground.phase }, { on := 16, ground := Ground.phase }], guard := none }) (v := ?v35) rfl (by kernel_rfl) (by kernel_rfl) (by kernel_rfl) (fun _ _ _ h => h) (Or.inl ⟨by rfl, ?hy35⟩) (by assumption) ?rest35
              case hy35 => (intro w hSw; (try dsimp only at hSw); go_simp; try with_reducible rfl)
              try simp only [Act.put, List.setIfInBounds_toArray, List.set_cons_zero, List.set_cons_succ]
              refine wpAnyH_ready (rs := [18]) (by kernel_rfl) (by simp) ?_
              refine AllReadyH.cons (o := { dst := none, op := Op.store 23 (Operand.tmp 134) (Operand.tmp 127), type := 0, pos := "outright.go:90", after := #[{ on := 17, ground := Ground.data }, { on := 9, ground := Ground.data }, { on := 16, ground := Ground.chain }, { on := 0, ground := Ground.phase }, { on := 1, ground := Ground.phase }, { on := 2, ground := Ground.phase }, { on := 3, ground := Ground.phase }, { on := 4, ground := Ground.phase }, { on := 5, ground := Ground.phase }, { on := 6, ground := Ground.phase }, { on := 7, ground := Ground.phase }, { on := 8, ground := Ground.phase }, { on := 9, ground := Ground.phase }, { on := 10, ground := Ground.textOnly Departure.lateStores }, { on := 11, ground := Ground.textOnly Departure.lateStores }, { on := 12, ground := Ground.textOnly Departure.lateStores }, { on := 13, ground := Ground.textOnly Departure.lateStores }, { on := 14, ground := Ground.textOnly Departure.lateStoresUnsure }, { on := 15, ground := Ground.phase }, { on := 16, ground := Ground.phase }], guard := none }) rfl (fun K hK => ?_) AllReadyH.nil
              go_simp
              clear hHeld
              refine hK.out _ _ (HSK.out _ (Below.setCell (Below.setCell hst (Nat.le_refl _) _) (Nat.le_refl _) _)) (fun hHeld => ?_)
              clear hK K
              try simp only [Act.put, List.setIfInBounds_toArray, List.set_cons_zero, List.set_cons_succ]
              refine wpAnyH_take (i := 19) (oi := { dst := some 135, op := Op.fieldAddr 25 (Operand.tmp 11) 3, type := 0, pos := "outright.go:90", after := #[{ on := 0, ground := Ground.phase }, { on := 1, ground := Ground.phase }, { on := 2, ground := Ground.phase }, { on := 3, ground := Ground.phase }, { on := 4, ground := Ground.phase }, { on := 5, ground := Ground.phase }, { on := 6, ground := Ground.phase }, { on := 7, ground := Ground.phase }, { on := 8, ground := Ground.phase }, { on := 9, ground := Ground.phase }, { on := 10, ground := Ground.phase }, { on := 11, ground := Ground.phase }, { on := 12, ground := Ground.phase }, { on := 13, ground := Ground.phase }, { on := 14, ground := Ground.phase }, { on := 15, ground := Ground.phase }, { on := 16, ground := Ground.phase }, { on := 17, ground := Ground.phase }, { on := 18, ground := Ground.phase }], guard := none }) (v := ?v36) rfl (by kernel_rfl) (by kernel_rfl) (by kernel_rfl) (fun _ _ _ h => h) (Or.inl ⟨by rfl, ?hy36⟩) (by assumption) ?rest36
              case hy36 => (intro w hSw; (try dsimp only at hSw); go_simp; try with_reducible rfl)
              try simp only [Act.put, List.setIfInBounds_toArray, List.set_cons_zero, List.set_cons_succ]
              refine wpAnyH_ready (rs := [20]) (by kernel_rfl) (by simp) ?_
              refine AllReadyH.cons (o := { dst := none, op := Op.store 23 (Operand.tmp 135) (Operand.tmp 132), type := 0, pos := "outright.go:90", after := #[{ on := 19, ground := Ground.data }, { on := 14, ground := Ground.data }, { on := 18, ground := Ground.chain }, { on := 0, ground := Ground.phase }, { on := 1, ground := Ground.phase }, { on := 2, ground := Ground.phase }, { on := 3, ground := Ground.phase }, { on := 4, ground := Ground.phase }, { on := 5, ground := Ground.phase }, { on := 6, ground := Ground.phase }, { on := 7, ground := Ground.phase }, { on := 8, ground := Ground.phase }, { on := 9, ground := Ground.phase }, { on := 10, ground := Ground.phase }, { on := 11, ground := Ground.phase }, { on := 12, ground := Ground.phase }, { on := 13, ground := Ground.phase }, { on := 14, ground := Ground.phase }, { on := 15, ground := Ground.phase }, { on := 16, ground := Ground.phase }, { on := 17, ground := Ground.phase }, { on := 18, ground := Ground.phase }], guard := none }) rfl (fun K hK => ?_) AllReadyH.nil
              go_simp
              clear hHeld
              refine hK.out _ _ (HSK.out _ (Below.setCell (Below.setCell (Below.setCell hst (Nat.le_refl _) _) (Nat.le_refl _) _) (Nat.le_refl _) _)) (fun hHeld => ?_)
              clear hK K
              try simp only [Act.put, List.setIfInBounds_toArray, List.set_cons_zero, List.set_cons_succ]
              refine wpAnyH_done (by kernel_rfl) ?_ _
              refine NoPanic.normal ?_
              obtain ⟨w10, hw10⟩ : ∃ w10, w10 = ((w9.drew.setCell ⟨w8.heap.size, 1, none⟩ (.int .u64 (ma : Int))).setCell ⟨w8.heap.size, 2, none⟩ (.int .u64 (mb : Int))).setCell ⟨w8.heap.size, 3, none⟩ (.int .u64 (mc : Int)) := ⟨_, rfl⟩
              have HC10 := Lib.hid (show B4 w10 w8.heap.size 25 (.slice none 0 0) (.int .u64 (ma : Int)) (.int .u64 (mb : Int)) (.int .u64 (mc : Int)) by rw [hw10]; exact ((HC9.out.drew.set1 _).set2 _).set3 _)
              have HB10 := Lib.hid (show Below w8.heap.size w8 w10 by rw [hw10]; exact Below.setCell (Below.setCell (Below.setCell HST.out (Nat.le_refl _) _) (Nat.le_refl _) _) (Nat.le_refl _) _)
              have HX10 := Lib.hid (bon HX8.out HB10.out)
              have HV10 := Lib.hid (bon HB8.out HB10.out)
              have HRC := Lib.hid (show ∀ W, Below w2.heap.size w2 W → RdM W w.heap.size none 0 0 [] from fun W hW => RdM.nilv)
              have HAPC := Lib.hid (apply_c (w := w10) (v := e0) (e := ⟨[], ma, mb, mc⟩) (HF5.out.below HV10.out (Nat.le_refl _)) ((HRC.out w10 HX10.out).more (Nat.le_trans HT.out.below.size HX5.out.size)) HV10.out.size (by have := HN4.out; omega) (by have := HNN.out; omega))
              have HRTC := Lib.hid (fun W (hW : Below w2.heap.size w2 W) => right_c (e := ⟨[], ma, mb, mc⟩) (HRC.out W hW) (Nat.le_trans HT.out.below.size hW.size) (by have := HNN.out; omega))
              unfold edV at HAPC HRTC
              clear hHeld hst
              have hw10b : w10 = (((w9.setCell ⟨w8.heap.size, 1, none⟩ (.int .u64 (ma : Int))).setCell ⟨w8.heap.size, 2, none⟩ (.int .u64 (mb : Int))).setCell ⟨w8.heap.size, 3, none⟩ (.int .u64 (mc : Int))).drew := hw10
              go_upto_region 15 with (fail)
              first | rw [← hw10] | rw [← hw10b]
              clear hw10 hw10b g0 g1 g2 g3 gz0 gz1 gz2 gz3
              obtain ⟨g0, g1, g2, g3, _, _, _, _⟩ := HC10.out.cells
              obtain ⟨v0, v1, v2, v3, _, _, _, _⟩ := (HV5.out.now HV10.out).cells
              go_wp2_with fail
              refine HAPC.out.mono ?_
              rintro e w11 ⟨A11, n11, c11, rfl, hf11, hb11⟩
              obtain ⟨wu, hwu⟩ : ∃ wu : Ed, wu = applyE e0 ⟨[], ma, mb, mc⟩ := ⟨_, rfl⟩
              rw [← hwu]
              rw [HTOK.out]
              clear hwu hf11
              obtain ⟨w12, hw12⟩ : ∃ w12, w12 = w11.alloc (.cells #[.slice A11 n11 c11, .int .u64 (wu.a : Int), .int .u64 (wu.b : Int), .int .u64 (wu.c : Int)] 28) := ⟨_, rfl⟩
              have HB12 := Lib.hid (show Below w10.heap.size w10 w12 by rw [hw12]; exact blit hb11 _)
              have HX12 := Lib.hid (bon HX10.out HB12.out)
              clear hb11 g0 g1 g2 g3 v0 v1 v2 v3
              obtain ⟨g0, g1, g2, g3, _, _, _, _⟩ := (HC10.out.now HB12.out).cells
              have HRQ := Lib.hid (HRTC.out w12 HX12.out)
              unfold edV
              go_upto_region 16 with (fail)
              rw [← hw12]
              clear hw12
              obtain ⟨rq, hrq⟩ : ∃ rq, rq = rightE ⟨[], ma, mb, mc⟩ := ⟨_, rfl⟩
              rw [← hrq] at HRQ
              rw [← hrq]
              clear hrq
              have HE1 : errE true = 0 := rfl
              have HE2 : errE false = 90 := rfl
              cases rq with
              | true =>
                rw [HE1]
                clear HE1 HE2
                go_wp2_with fail
                refine HRQ.out.mono ?_
                rintro e w13 ⟨rfl, hb13⟩
                have HX13 := Lib.hid (bon HX12.out hb13)
                clear hb13 g0 g1 g2 g3
                go_wp2_with fail
                refine (awake9_c _).mono ?_
                rintro e w99 ⟨rfl, hb99⟩
                go_wp2_with fail
                go_ret
                exact ⟨rfl, bon (bon HT.out.below HX13.out) hb99⟩
              | false =>
                rw [HE2]
                clear HE1 HE2
                go_wp2_with fail
                refine HRQ.out.mono ?_
                rintro e w13 ⟨rfl, hb13⟩
                have HX13 := Lib.hid (bon HX12.out hb13)
                clear hb13 g0 g1 g2 g3
                go_wp2_with fail
                refine (awake9_c _).mono ?_
                rintro e w99 ⟨rfl, hb99⟩
                go_wp2_with fail
                go_ret
                exact ⟨rfl, bon (bon HT.out.below HX13.out) hb99⟩
          | false =>
            rw [hlw] at HOKB HTOK
            rw [HTK.out false, if_neg (by decide)] at HTOK
            clear hlw
            cases fb with
            | true =>
              have HOK := Lib.hid (show okB e0 e1 = false by rw [HOKB.out]; rfl)
              rw [HOK.out]
              have HE : errE false = 90 := rfl
              rw [HE]
              clear HE
              obtain ⟨w9, hw9⟩ : ∃ w9, w9 = w8.alloc (.cells #[.slice A1 n1 c1, .int .u64 (e1.a : Int), .int .u64 (e1.b : Int), .int .u64 (e1.c : Int)] 25) := ⟨_, rfl⟩
              have HC9 := Lib.hid (show B4 w9 w8.heap.size 25 (.slice A1 n1 c1) (.int .u64 (e1.a : Int)) (.int .u64 (e1.b : Int)) (.int .u64 (e1.c : Int)) by rw [hw9]; exact B4.new _ _ _ _ _ _ rfl)
              have hst : Below w8.heap.size w8 w9.drew := by rw [hw9]; exact (below_alloc _ _).drew
              have HST := Lib.hid hst
              go_upto_region 14 with (fail)
              rw [← hw9]
              clear hw9
              obtain ⟨g0, g1, g2, g3, gz0, gz1, gz2, gz3⟩ := HC9.out.cells
              clear p0 p1 p2 p3 v0 v1 v2 v3
              refine wp_region_noPanic ?_
              refine wp_region_held_drew (S := fun w' => Below w8.heap.size w8 w' ∧ w'.cell? ⟨w.heap.size + 1, 0, none⟩ = some (.slice A1 n1 c1) ∧ w'.cell? ⟨w.heap.size + 1, 1, none⟩ = some (.int .u64 (e1.a : Int)) ∧ w'.cell? ⟨w.heap.size + 1, 2, none⟩ = some (.int .u64 (e1.b : Int)) ∧ w'.cell? ⟨w.heap.size + 1, 3, none⟩ = some (.int .u64 (e1.c : Int)) ∧ w'.cell? ⟨w4.heap.size, 0, none⟩ = some (.slice A4 n4 c4) ∧ w'.cell? ⟨w4.heap.size, 1, none⟩ = some (.int .u64 (e0.a : Int)) ∧ w'.cell? ⟨w4.heap.size, 2, none⟩ = some (.int .u64 (e0.b : Int)) ∧ w'.cell? ⟨w4.heap.size, 3, none⟩ = some (.int .u64 (e0.c : Int))) (by kernel_rfl) (HSK.out _ hst) (fun hHeld => ?_)
              refine wpAnyH_take (i := 0) (oi := { dst := some 118, op := Op.fieldAddr 25 (Operand.tmp 3) 1, type := 0, pos := "outright.go:90", after := #[], guard := none }) (v := ?v37) rfl (by kernel_rfl) (by kernel_rfl) (by kernel_rfl) (fun _ _ _ h => h) (Or.inl ⟨by rfl, ?hy37⟩) (by assumption) ?rest37
              case hy37 => (intro w hSw; (try dsimp only at hSw); go_simp; try with_reducible rfl)
              try simp only [Act.put, List.setIfInBounds_toArray, List.set_cons_zero, List.set_cons_succ]
              refine wpAnyH_take (i := 1) (oi := { dst := some 119, op := Op.load 23 (Operand.tmp 118), type := 23, pos := "outright.go:90", after := #[{ on := 0, ground := Ground.data }], guard := none }) (v := ?v38) rfl (by kernel_rfl) (by kernel_rfl) (by kernel_rfl) (fun _ _ _ h => h) (Or.inl ⟨by rfl, ?hy38⟩) (by assumption) ?rest38
              case hy38 => (intro w hSw; (try dsimp only at hSw); go_simp; try with_reducible rfl)
              try simp only [Act.put, List.setIfInBounds_toArray, List.set_cons_zero, List.set_cons_succ]
              refine wpAnyH_take (i := 2) (oi := { dst := some 120, op := Op.fieldAddr 28 (Operand.tmp 5) 1, type := 0, pos := "outright.go:90", after := #[], guard := none }) (v := ?v39) rfl (by kernel_rfl) (by kernel_rfl) (by kernel_rfl) (fun _ _ _ h => h) (Or.inl ⟨by rfl, ?hy39⟩) (by assumption) ?rest39
              case hy39 => (intro w hSw; (try dsimp only at hSw); go_simp; try with_reducible rfl)
              try simp only [Act.put, List.setIfInBounds_toArray, List.set_cons_zero, List.set_cons_succ]
              refine wpAnyH_take (i := 3) (oi := { dst := some 121, op := Op.load 23 (Operand.tmp 120), type := 23, pos := "outright.go:90", after := #[{ on := 2, ground := Ground.data }], guard := none }) (v := ?v40) rfl (by kernel_rfl) (by kernel_rfl) (by kernel_rfl) (fun _ _ _ h => h) (Or.inl ⟨by rfl, ?hy40⟩) (by assumption) ?rest40
              case hy40 => (intro w hSw; (try dsimp only at hSw); go_simp; try with_reducible rfl)
              try simp only [Act.put, List.setIfInBounds_toArray, List.set_cons_zero, List.set_cons_succ]
              refine wpAnyH_take (i := 4) (oi := { dst := some 122, op := Op.call { callee := Callee.builtin Builtin.max, args := #[Operand.tmp 119, Operand.tmp 121], argTypes := #[23, 23] }, type := 23, pos := "outright.go:90", after := #[{ on := 1, ground := Ground.data }, { on := 3, ground := Ground.data }], guard := none }) (v := ?v41) rfl (by kernel_rfl) (by kernel_rfl) (by kernel_rfl) (fun _ _ _ h => h) (Or.inl ⟨by rfl, ?hy41⟩) (by assumption) ?rest41
              case hy41 => (intro w hSw; (try dsimp only at hSw); go_simp; try with_reducible rfl)
              try simp only [Act.put, List.setIfInBounds_toArray, List.set_cons_zero, List.set_cons_succ]
              refine wpAnyH_take (i := 5) (oi := { dst := some 123, op := Op.fieldAddr 25 (Operand.tmp 3) 2, type := 0, pos := "outright.go:90", after := #[], guard := none }) (v := ?v42) rfl (by kernel_rfl) (by kernel_rfl) (by kernel_rfl) (fun _ _ _ h => h) (Or.inl ⟨by rfl, ?hy42⟩) (by assumption) ?rest42
              case hy42 => (intro w hSw; (try dsimp only at hSw); go_simp; try with_reducible rfl)
              try simp only [Act.put, List.setIfInBounds_toArray, List.set_cons_zero, List.set_cons_succ]
              refine wpAnyH_take (i := 6) (oi := { dst := some 124, op := Op.load 23 (Operand.tmp 123), type := 23, pos := "outright.go:90", after := #[{ on := 5, ground := Ground.data }], guard := none }) (v := ?v43) rfl (by kernel_rfl) (by kernel_rfl) (by kernel_rfl) (fun _ _ _ h => h) (Or.inl ⟨by rfl, ?hy43⟩) (by assumption) ?rest43
              case hy43 => (intro w hSw; (try dsimp only at hSw); go_simp; try with_reducible rfl)
              try simp only [Act.put, List.setIfInBounds_toArray, List.set_cons_zero, List.set_cons_succ]
              refine wpAnyH_take (i := 7) (oi := { dst := some 125, op := Op.fieldAddr 28 (Operand.tmp 5) 2, type := 0, pos := "outright.go:90", after := #[], guard := none }) (v := ?v44) rfl (by kernel_rfl) (by kernel_rfl) (by kernel_rfl) (fun _ _ _ h => h) (Or.inl ⟨by rfl, ?hy44⟩) (by assumption) ?rest44
              case hy44 => (intro w hSw; (try dsimp only at hSw); go_simp; try with_reducible rfl)
              try simp only [Act.put, List.setIfInBounds_toArray, List.set_cons_zero, List.set_cons_succ]
              refine wpAnyH_take (i := 8) (oi := { dst := some 126, op := Op.load 23 (Operand.tmp 125), type := 23, pos := "outright.go:90", after := #[{ on := 7, ground := Ground.data }], guard := none }) (v := ?v45) rfl (by kernel_rfl) (by kernel_rfl) (by kernel_rfl) (fun _ _ _ h => h) (Or.inl ⟨by rfl, ?hy45⟩) (by assumption) ?rest45
              case hy45 => (intro w hSw; (try dsimp only at hSw); go_simp; try with_reducible rfl)
              try simp only [Act.put, List.setIfInBounds_toArray, List.set_cons_zero, List.set_cons_succ]
              refine wpAnyH_take (i := 9) (oi := { dst := some 127, op := Op.call { callee := Callee.builtin Builtin.max, args := #[Operand.tmp 124, Operand.tmp 126], argTypes := #[23, 23] }, type := 23, pos := "outright.go:90", after := #[{ on := 6, ground := Ground.data }, { on := 8, ground := Ground.data }], guard := none }) (v := ?v46) rfl (by kernel_rfl) (by kernel_rfl) (by kernel_rfl) (fun _ _ _ h => h) (Or.inl ⟨by rfl, ?hy46⟩) (by assumption) ?rest46
              case hy46 => (intro w hSw; (try dsimp only at hSw); go_simp; try with_reducible rfl)
              try simp only [Act.put, List.setIfInBounds_toArray, List.set_cons_zero, List.set_cons_succ]
              refine wpAnyH_take (i := 10) (oi := { dst := some 128, op := Op.fieldAddr 25 (Operand.tmp 3) 3, type := 0, pos := "outright.go:90", after := #[], guard := none }) (v := ?v47) rfl (by kernel_rfl) (by kernel_rfl) (by kernel_rfl) (fun _ _ _ h => h) (Or.inl ⟨by rfl, ?hy47⟩) (by assumption) ?rest47
              case hy47 => (intro w hSw; (try dsimp only at hSw); go_simp; try with_reducible rfl)
              try simp only [Act.put, List.setIfInBounds_toArray, List.set_cons_zero, List.set_cons_succ]
              refine wpAnyH_take (i := 11) (oi := { dst := some 129, op := Op.load 23 (Operand.tmp 128), type := 23, pos := "outright.go:90", after := #[{ on := 10, ground := Ground.data }], guard := none }) (v := ?v48) rfl (by kernel_rfl) (by kernel_rfl) (by kernel_rfl) (fun _ _ _ h => h) (Or.inl ⟨by rfl, ?hy48⟩) (by assumption) ?rest48
              case hy48 => (intro w hSw; (try dsimp only at hSw); go_simp; try with_reducible rfl)
              try simp only [Act.put, List.setIfInBounds_toArray, List.set_cons_zero, List.set_cons_succ]
              refine wpAnyH_take (i := 12) (oi := { dst := some 130, op := Op.fieldAddr 28 (Operand.tmp 5) 3, type := 0, pos := "outright.go:90", after := #[], guard := none }) (v := ?v49) rfl (by kernel_rfl) (by kernel_rfl) (by kernel_rfl) (fun _ _ _ h => h) (Or.inl ⟨by rfl, ?hy49⟩) (by assumption) ?rest49
              case hy49 => (intro w hSw; (try dsimp only at hSw); go_simp; try with_reducible rfl)
              try simp only [Act.put, List.setIfInBounds_toArray, List.set_cons_zero, List.set_cons_succ]
              refine wpAnyH_take (i := 13) (oi := { dst := some 131, op := Op.load 23 (Operand.tmp 130), type := 23, pos := "outright.go:90", after := #[{ on := 12, ground := Ground.data }], guard := none }) (v := ?v50) rfl (by kernel_rfl) (by kernel_rfl) (by kernel_rfl) (fun _ _ _ h => h) (Or.inl ⟨by rfl, ?hy50⟩) (by assumption) ?rest50
              case hy50 => (intro w hSw; (try dsimp only at hSw); go_simp; try with_reducible rfl)
              try simp only [Act.put, List.setIfInBounds_toArray, List.set_cons_zero, List.set_cons_succ]
              refine wpAnyH_take (i := 14) (oi := { dst := some 132, op := Op.call { callee := Callee.builtin Builtin.max, args := #[Operand.tmp 129, Operand.tmp 131], argTypes := #[23, 23] }, type := 23, pos := "outright.go:90", after := #[{ on := 11, ground := Ground.data }, { on := 13, ground := Ground.data }], guard := none }) (v := ?v51) rfl (by kernel_rfl) (by kernel_rfl) (by kernel_rfl) (fun _ _ _ h => h) (Or.inl ⟨by rfl, ?hy51⟩) (by assumption) ?rest51
              case hy51 => (intro w hSw; (try dsimp only at hSw); go_simp; try with_reducible rfl)
              try simp only [Act.put, List.setIfInBounds_toArray, List.set_cons_zero, List.set_cons_succ]
              refine wpAnyH_take (i := 15) (oi := { dst := some 133, op := Op.fieldAddr 25 (Operand.tmp 11) 1, type := 0, pos := "outright.go:90", after := #[{ on := 0, ground := Ground.phase }, { on := 1, ground := Ground.phase }, { on := 2, ground := Ground.phase }, { on := 3, ground := Ground.phase }, { on := 4, ground := Ground.phase }, { on := 5, ground := Ground.textOnly Departure.lateStores }, { on := 6, ground := Ground.textOnly Departure.lateStores }, { on := 7, ground := Ground.textOnly Departure.lateStores }, { on := 8, ground := Ground.textOnly Departure.lateStores }, { on := 9, ground := Ground.textOnly Departure.lateStoresUnsure }, { on := 10, ground := Ground.textOnly Departure.lateStores }, { on := 11, ground := Ground.textOnly Departure.lateStores }, { on := 12, ground := Ground.textOnly Departure.lateStores }, { on := 13, ground := Ground.textOnly Departure.lateStores }, { on := 14, ground := Ground.textOnly Departure.lateStoresUnsure }], guard := none }) (v := ?v52) rfl (by kernel_rfl) (by kernel_rfl) (by kernel_rfl) (fun _ _ _ h => h) (Or.inl ⟨by rfl, ?hy52⟩) (by assumption) ?rest52
              case hy52 => (intro w hSw; (try dsimp only at hSw); go_simp; try with_reducible rfl)
              try simp only [Act.put, List.setIfInBounds_toArray, List.set_cons_zero, List.set_cons_succ]
              refine wpAnyH_ready (rs := [16]) (by kernel_rfl) (by simp) ?_
              refine AllReadyH.cons (o := { dst := none, op := Op.store 23 (Operand.tmp 133) (Operand.tmp 122), type := 0, pos := "outright.go:90", after := #[{ on := 15, ground := Ground.data }, { on := 4, ground := Ground.data }, { on := 0, ground := Ground.phase }, { on := 1, ground := Ground.phase }, { on := 2, ground := Ground.phase }, { on := 3, ground := Ground.phase }, { on := 4, ground := Ground.phase }, { on := 5, ground := Ground.textOnly Departure.lateStores }, { on := 6, ground := Ground.textOnly Departure.lateStores }, { on := 7, ground := Ground.textOnly Departure.lateStores }, { on := 8, ground := Ground.textOnly Departure.lateStores }, { on := 9, ground := Ground.textOnly Departure.lateStoresUnsure }, { on := 10, ground := Ground.textOnly Departure.lateStores }, { on := 11, ground := Ground.textOnly Departure.lateStores }, { on := 12, ground := Ground.textOnly Departure.lateStores }, { on := 13, ground := Ground.textOnly Departure.lateStores }, { on := 14, ground := Ground.textOnly Departure.lateStoresUnsure }], guard := none }) rfl (fun K hK => ?_) AllReadyH.nil
              go_simp
              clear hHeld
              refine hK.out _ _ (HSK.out _ (Below.setCell hst (Nat.le_refl _) _)) (fun hHeld => ?_)
              clear hK K
              try simp only [Act.put, List.setIfInBounds_toArray, List.set_cons_zero, List.set_cons_succ]
              refine wpAnyH_take (i := 17) (oi := { dst := some 134, op := Op.fieldAddr 25 (Operand.tmp 11) 2, type := 0, pos := "outright.go:90", after := #[{ on := 0, ground := Ground.phase }, { on := 1, ground := Ground.phase }, { on := 2, ground := Ground.phase }, { on := 3, ground := Ground.phase }, { on := 4, ground := Ground.phase }, { on := 5, ground := Ground.phase }, { on := 6, ground := Ground.phase }, { on := 7, ground := Ground.phase }, { on := 8, ground := Ground.phase }, { on := 9, ground := Ground.phase }, { on := 10, ground := Ground.textOnly Departure.lateStores }, { on := 11, ground := Ground.textOnly Departure.lateStores }, { on := 12, ground := Ground.textOnly Departure.lateStores }, { on := 13, ground := Ground.textOnly Departure.lateStores }, { on := 14, ground := Ground.textOnly Departure.lateStoresUnsure }, { on := 15, ground := Ground.phase }, { on := 16, ground := Ground.phase }], guard := none }) (v := ?v53) rfl (by kernel_rfl) (by kernel_rfl) (by kernel_rfl) (fun _ _ _ h => h) (Or.inl ⟨by rfl, ?hy53⟩) (by assumption) ?rest53
              case hy53 => (intro w hSw; (try dsimp only at hSw); go_simp; try with_reducible rfl)
              try simp only [Act.put, List.setIfInBounds_toArray, List.set_cons_zero, List.set_cons_succ]
              refine wpAnyH_ready (rs := [18]) (by kernel_rfl) (by simp) ?_
              refine AllReadyH.cons (o := { dst := none, op := Op.store 23 (Operand.tmp 134) (Operand.tmp 127), type := 0, pos := "outright.go:90", after := #[{ on := 17, ground := Ground.data }, { on := 9, ground := Ground.data }, { on := 16, ground := Ground.chain }, { on := 0, ground := Ground.phase }, { on := 1, ground := Ground.phase }, { on := 2, ground := Ground.phase }, { on := 3, ground := Ground.phase }, { on := 4, ground := Ground.phase }, { on := 5, ground := Ground.phase }, { on := 6, ground := Ground.phase }, { on := 7, ground := Ground.phase }, { on := 8, ground := Ground.phase }, { on := 9, ground := Ground.phase }, { on := 10, ground := Ground.textOnly Departure.lateStores }, { on := 11, ground := Ground.textOnly Departure.lateStores }, { on := 12, ground := Ground.textOnly Departure.lateStores }, { on := 13, ground := Ground.textOnly Departure.lateStores }, { on := 14, ground := Ground.textOnly Departure.lateStoresUnsure }, { on := 15, ground := Ground.phase }, { on := 16, ground := Ground.phase }], guard := none }) rfl (fun K hK => ?_) AllReadyH.nil
              go_simp
              clear hHeld
              refine hK.out _ _ (HSK.out _ (Below.setCell (Below.setCell hst (Nat.le_refl _) _) (Nat.le_refl _) _)) (fun hHeld => ?_)
              clear hK K
              try simp only [Act.put, List.setIfInBounds_toArray, List.set_cons_zero, List.set_cons_succ]
              refine wpAnyH_take (i := 19) (oi := { dst := some 135, op := Op.fieldAddr 25 (Operand.tmp 11) 3, type := 0, pos := "outright.go:90", after := #[{ on := 0, ground := Ground.phase }, { on := 1, ground := Ground.phase }, { on := 2, ground := Ground.phase }, { on := 3, ground := Ground.phase }, { on := 4, ground := Ground.phase }, { on := 5, ground := Ground.phase }, { on := 6, ground := Ground.phase }, { on := 7, ground := Ground.phase }, { on := 8, ground := Ground.phase }, { on := 9, ground := Ground.phase }, { on := 10, ground := Ground.phase }, { on := 11, ground := Ground.phase }, { on := 12, ground := Ground.phase }, { on := 13, ground := Ground.phase }, { on := 14, ground := Ground.phase }, { on := 15, ground := Ground.phase }, { on := 16, ground := Ground.phase }, { on := 17, ground := Ground.phase }, { on := 18, ground := Ground.phase }], guard := none }) (v := ?v54) rfl (by kernel_rfl) (by kernel_rfl) (by kernel_rfl) (fun _ _ _ h => h) (Or.inl ⟨by rfl, ?hy54⟩) (by assumption) ?rest54
              case hy54 => (intro w hSw; (try dsimp only at hSw); go_simp; try with_reducible rfl)
              try simp only [Act.put, List.setIfInBounds_toArray, List.set_cons_zero, List.set_cons_succ]
              refine wpAnyH_ready (rs := [20]) (by kernel_rfl) (by simp) ?_
              refine AllReadyH.cons (o := { dst := none, op := Op.store 23 (Operand.tmp 135) (Operand.tmp 132), type := 0, pos := "outright.go:90", after := #[{ on := 19, ground := Ground.data }, { on := 14, ground := Ground.data }, { on := 18, ground := Ground.chain }, { on := 0, ground := Ground.phase }, { on := 1, ground := Ground.phase }, { on := 2, ground := Ground.phase }, { on := 3, ground := Ground.phase }, { on := 4, ground := Ground.phase }, { on := 5, ground := Ground.phase }, { on := 6, ground := Ground.phase }, { on := 7, ground := Ground.phase }, { on := 8, ground := Ground.phase }, { on := 9, ground := Ground.phase }, { on := 10, ground := Ground.phase }, { on := 11, ground := Ground.phase }, { on := 12, ground := Ground.phase }, { on := 13, ground := Ground.phase }, { on := 14, ground := Ground.phase }, { on := 15, ground := Ground.phase }, { on := 16, ground := Ground.phase }, { on := 17, ground := Ground.phase }, { on := 18, ground := Ground.phase }], guard := none }) rfl (fun K hK => ?_) AllReadyH.nil
              go_simp
              clear hHeld
              refine hK.out _ _ (HSK.out _ (Below.setCell (Below.setCell (Below.setCell hst (Nat.le_refl _) _) (Nat.le_refl _) _) (Nat.le_refl _) _)) (fun hHeld => ?_)
              clear hK K
              try simp only [Act.put, List.setIfInBounds_toArray, List.set_cons_zero, List.set_cons_succ]
              refine wpAnyH_done (by kernel_rfl) ?_ _
              refine NoPanic.normal ?_
              obtain ⟨w10, hw10⟩ : ∃ w10, w10 = ((w9.drew.setCell ⟨w8.heap.size, 1, none⟩ (.int .u64 (ma : Int))).setCell ⟨w8.heap.size, 2, none⟩ (.int .u64 (mb : Int))).setCell ⟨w8.heap.size, 3, none⟩ (.int .u64 (mc : Int)) := ⟨_, rfl⟩
              have HC10 := Lib.hid (show B4 w10 w8.heap.size 25 (.slice A1 n1 c1) (.int .u64 (ma : Int)) (.int .u64 (mb : Int)) (.int .u64 (mc : Int)) by rw [hw10]; exact ((HC9.out.drew.set1 _).set2 _).set3 _)
              have HB10 := Lib.hid (show Below w8.heap.size w8 w10 by rw [hw10]; exact Below.setCell (Below.setCell (Below.setCell HST.out (Nat.le_refl _) _) (Nat.le_refl _) _) (Nat.le_refl _) _)
              have HX10 := Lib.hid (bon HX8.out HB10.out)
              have HV10 := Lib.hid (bon HB8.out HB10.out)
              have HRC := Lib.hid (show ∀ W, Below w2.heap.size w2 W → RdM W w.heap.size A1 n1 c1 e1.L from fun W hW => HR1.out W hW)
              have HAPC := Lib.hid (apply_c (w := w10) (v := e0) (e := ⟨e1.L, ma, mb, mc⟩) (HF5.out.below HV10.out (Nat.le_refl _)) ((HRC.out w10 HX10.out).more (Nat.le_trans HT.out.below.size HX5.out.size)) HV10.out.size (by have := HN4.out; omega) (by have := HNN.out; omega))
              have HRTC := Lib.hid (fun W (hW : Below w2.heap.size w2 W) => right_c (e := ⟨e1.L, ma, mb, mc⟩) (HRC.out W hW) (Nat.le_trans HT.out.below.size hW.size) (by have := HNN.out; omega))
              unfold edV at HAPC HRTC
              clear hHeld hst
              have hw10b : w10 = (((w9.setCell ⟨w8.heap.size, 1, none⟩ (.int .u64 (ma : Int))).setCell ⟨w8.heap.size, 2, none⟩ (.int .u64 (mb : Int))).setCell ⟨w8.heap.size, 3, none⟩ (.int .u64 (mc : Int))).drew := hw10
              go_upto_region 15 with (fail)
              first | rw [← hw10] | rw [← hw10b]
              clear hw10 hw10b g0 g1 g2 g3 gz0 gz1 gz2 gz3
              obtain ⟨g0, g1, g2, g3, _, _, _, _⟩ := HC10.out.cells
              obtain ⟨v0, v1, v2, v3, _, _, _, _⟩ := (HV5.out.now HV10.out).cells
              go_wp2_with fail
              refine HAPC.out.mono ?_
              rintro e w11 ⟨A11, n11, c11, rfl, hf11, hb11⟩
              obtain ⟨wu, hwu⟩ : ∃ wu : Ed, wu = applyE e0 ⟨e1.L, ma, mb, mc⟩ := ⟨_, rfl⟩
              rw [← hwu]
              rw [HTOK.out]
              clear hwu hf11
              obtain ⟨w12, hw12⟩ : ∃ w12, w12 = w11.alloc (.cells #[.slice A11 n11 c11, .int .u64 (wu.a : Int), .int .u64 (wu.b : Int), .int .u64 (wu.c : Int)] 28) := ⟨_, rfl⟩
              have HB12 := Lib.hid (show Below w10.heap.size w10 w12 by rw [hw12]; exact blit hb11 _)
              have HX12 := Lib.hid (bon HX10.out HB12.out)
              clear hb11 g0 g1 g2 g3 v0 v1 v2 v3
              obtain ⟨g0, g1, g2, g3, _, _, _, _⟩ := (HC10.out.now HB12.out).cells
              have HRQ := Lib.hid (HRTC.out w12 HX12.out)
              unfold edV
              go_upto_region 16 with (fail)
              rw [← hw12]
              clear hw12
              obtain ⟨rq, hrq⟩ : ∃ rq, rq = rightE ⟨e1.L, ma, mb, mc⟩ := ⟨_, rfl⟩
              rw [← hrq] at HRQ
              rw [← hrq]
              clear hrq
              have HE1 : errE true = 0 := rfl
              have HE2 : errE false = 90 := rfl
              cases rq with
              | true =>
                rw [HE1]
                clear HE1 HE2
                go_wp2_with fail
                refine HRQ.out.mono ?_
                rintro e w13 ⟨rfl, hb13⟩
                have HX13 := Lib.hid (bon HX12.out hb13)
                clear hb13 g0 g1 g2 g3
                go_wp2_with fail
                refine (awake9_c _).mono ?_
                rintro e w99 ⟨rfl, hb99⟩
                go_wp2_with fail
                go_ret
                exact ⟨rfl, bon (bon HT.out.below HX13.out) hb99⟩
              | false =>
                rw [HE2]
                clear HE1 HE2
                go_wp2_with fail
                refine HRQ.out.mono ?_
                rintro e w13 ⟨rfl, hb13⟩
                have HX13 := Lib.hid (bon HX12.out hb13)
                clear hb13 g0 g1 g2 g3
                go_wp2_with fail
                refine (awake9_c _).mono ?_
                rintro e w99 ⟨rfl, hb99⟩
                go_wp2_with fail
                go_ret
                exact ⟨rfl, bon (bon HT.out.below HX13.out) hb99⟩
            | false =>
              have HOK := Lib.hid (show okB e0 e1 = true by rw [HOKB.out]; rfl)
              rw [HOK.out]
              have HE : errE true = 0 := rfl
              rw [HE]
              clear HE
              obtain ⟨w9, hw9⟩ : ∃ w9, w9 = w8.alloc (.cells #[.slice A1 n1 c1, .int .u64 (e1.a : Int), .int .u64 (e1.b : Int), .int .u64 (e1.c : Int)] 25) := ⟨_, rfl⟩
              have HC9 := Lib.hid (show B4 w9 w8.heap.size 25 (.slice A1 n1 c1) (.int .u64 (e1.a : Int)) (.int .u64 (e1.b : Int)) (.int .u64 (e1.c : Int)) by rw [hw9]; exact B4.new _ _ _ _ _ _ rfl)
              have hst : Below w8.heap.size w8 w9.drew := by rw [hw9]; exact (below_alloc _ _).drew
              have HST := Lib.hid hst
              go_upto_region 14 with (fail)
              rw [← hw9]
              clear hw9
              obtain ⟨g0, g1, g2, g3, gz0, gz1, gz2, gz3⟩ := HC9.out.cells
              clear p0 p1 p2 p3 v0 v1 v2 v3
              refine wp_region_noPanic ?_
              refine wp_region_held_drew (S := fun w' => Below w8.heap.size w8 w' ∧ w'.cell? ⟨w.heap.size + 1, 0, none⟩ = some (.slice A1 n1 c1) ∧ w'.cell? ⟨w.heap.size + 1, 1, none⟩ = some (.int .u64 (e1.a : Int)) ∧ w'.cell? ⟨w.heap.size + 1, 2, none⟩ = some (.int .u64 (e1.b : Int)) ∧ w'.cell? ⟨w.heap.size + 1, 3, none⟩ = some (.int .u64 (e1.c : Int)) ∧ w'.cell? ⟨w4.heap.size, 0, none⟩ = some (.slice A4 n4 c4) ∧ w'.cell? ⟨w4.heap.size, 1, none⟩ = some (.int .u64 (e0.a : Int)) ∧ w'.cell? ⟨w4.heap.size, 2, none⟩ = some (.int .u64 (e0.b : Int)) ∧ w'.cell? ⟨w4.heap.size, 3, none⟩ = some (.int .u64 (e0.c : Int))) (by kernel_rfl) (HSK.out _ hst) (fun hHeld => ?_)
              refine wpAnyH_take (i := 0) (oi := { dst := some 118, op := Op.fieldAddr 25 (Operand.tmp 3) 1, type := 0, pos := "outright.go:90", after := #[], guard := none }) (v := ?v55) rfl (by kernel_rfl) (by kernel_rfl) (by kernel_rfl) (fun _ _ _ h => h) (Or.inl ⟨by rfl, ?hy55⟩) (by assumption) ?rest55
              case hy55 => (intro w hSw; (try dsimp only at hSw); go_simp; try with_reducible rfl)
              try simp only [Act.put, List.setIfInBounds_toArray, List.set_cons_zero, List.set_cons_succ]
              refine wpAnyH_take (i := 1) (oi := { dst := some 119, op := Op.load 23 (Operand.tmp 118), type := 23, pos := "outright.go:90", after := #[{ on := 0, ground := Ground.data }], guard := none }) (v := ?v56) rfl (by kernel_rfl) (by kernel_rfl) (by kernel_rfl) (fun _ _ _ h => h) (Or.inl ⟨by rfl, ?hy56⟩) (by assumption) ?rest56
              case hy56 => (intro w hSw; (try dsimp only at hSw); go_simp; try with_reducible rfl)
              try simp only [Act.put, List.setIfInBounds_toArray, List.set_cons_zero, List.set_cons_succ]
              refine wpAnyH_take (i := 2) (oi := { dst := some 120, op := Op.fieldAddr 28 (Operand.tmp 5) 1, type := 0, pos := "outright.go:90", after := #[], guard := none }) (v := ?v57) rfl (by kernel_rfl) (by kernel_rfl) (by kernel_rfl) (fun _ _ _ h => h) (Or.inl ⟨by rfl, ?hy57⟩) (by assumption) ?rest57
              case hy57 => (intro w hSw; (try dsimp only at hSw); go_simp; try with_reducible rfl)
              try simp only [Act.put, List.setIfInBounds_toArray, List.set_cons_zero, List.set_cons_succ]
              refine wpAnyH_take (i := 3) (oi := { dst := some 121, op := Op.load 23 (Operand.tmp 120), type := 23, pos := "outright.go:90", after := #[{ on := 2, ground := Ground.data }], guard := none }) (v := ?v58) rfl (by kernel_rfl) (by kernel_rfl) (by kernel_rfl) (fun _ _ _ h => h) (Or.inl ⟨by rfl, ?hy58⟩) (by assumption) ?rest58
              case hy58 => (intro w hSw; (try dsimp only at hSw); go_simp; try with_reducible rfl)
              try simp only [Act.put, List.setIfInBounds_toArray, List.set_cons_zero, List.set_cons_succ]
              refine wpAnyH_take (i := 4) (oi := { dst := some 122, op := Op.call { callee := Callee.builtin Builtin.max, args := #[Operand.tmp 119, Operand.tmp 121], argTypes := #[23, 23] }, type := 23, pos := "outright.go:90", after := #[{ on := 1, ground := Ground.data }, { on := 3, ground := Ground.data }], guard := none }) (v := ?v59) rfl (by kernel_rfl) (by kernel_rfl) (by kernel_rfl) (fun _ _ _ h => h) (Or.inl ⟨by rfl, ?hy59⟩) (by assumption) ?rest59
              case hy59 => (intro w hSw; (try dsimp only at hSw); go_simp; try with_reducible rfl)
              try simp only [Act.put, List.setIfInBounds_toArray, List.set_cons_zero, List.set_cons_succ]
              refine wpAnyH_take (i := 5) (oi := { dst := some 123, op := Op.fieldAddr 25 (Operand.tmp 3) 2, type := 0, pos := "outright.go:90", after := #[], guard := none }) (v := ?v60) rfl (by kernel_rfl) (by kernel_rfl) (by kernel_rfl) (fun _ _ _ h => h) (Or.inl ⟨by rfl, ?hy60⟩) (by assumption) ?rest60
              case hy60 => (intro w hSw; (try dsimp only at hSw); go_simp; try with_reducible rfl)
              try simp only [Act.put, List.setIfInBounds_toArray, List.set_cons_zero, List.set_cons_succ]
              refine wpAnyH_take (i := 6) (oi := { dst := some 124, op := Op.load 23 (Operand.tmp 123), type := 23, pos := "outright.go:90", after := #[{ on := 5, ground := Ground.data }], guard := none }) (v := ?v61) rfl (by kernel_rfl) (by kernel_rfl) (by kernel_rfl) (fun _ _ _ h => h) (Or.inl ⟨by rfl, ?hy61⟩) (by assumption) ?rest61
              case hy61 => (intro w hSw; (try dsimp only at hSw); go_simp; try with_reducible rfl)
              try simp only [Act.put, List.setIfInBounds_toArray, List.set_cons_zero, List.set_cons_succ]
              refine wpAnyH_take (i := 7) (oi := { dst := some 125, op := Op.fieldAddr 28 (Operand.tmp 5) 2, type := 0, pos := "outright.go:90", after := #[], guard := none }) (v := ?v62) rfl (by kernel_rfl) (by kernel_rfl) (by kernel_rfl) (fun _ _ _ h => h) (Or.inl ⟨by rfl, ?hy62⟩) (by assumption) ?rest62
              case hy62 => (intro w hSw; (try dsimp only at hSw); go_simp; try with_reducible rfl)
              try simp only [Act.put, List.setIfInBounds_toArray, List.set_cons_zero, List.set_cons_succ]
              refine wpAnyH_take (i := 8) (oi := { dst := some 126, op := Op.load 23 (Operand.tmp 125), type := 23, pos := "outright.go:90", after := #[{ on := 7, ground := Ground.data }], guard := none }) (v := ?v63) rfl (by kernel_rfl) (by kernel_rfl) (by kernel_rfl) (fun _ _ _ h => h) (Or.inl ⟨by rfl, ?hy63⟩) (by assumption) ?rest63
              case hy63 => (intro w hSw; (try dsimp only at hSw); go_simp; try with_reducible rfl)
              try simp only [Act.put, List.setIfInBounds_toArray, List.set_cons_zero, List.set_cons_succ]
              refine wpAnyH_take (i := 9) (oi := { dst := some 127, op := Op.call { callee := Callee.builtin Builtin.max, args := #[Operand.tmp 124, Operand.tmp 126], argTypes := #[23, 23] }, type := 23, pos := "outright.go:90", after := #[{ on := 6, ground := Ground.data }, { on := 8, ground := Ground.data }], guard := none }) (v := ?v64) rfl (by kernel_rfl) (by kernel_rfl) (by kernel_rfl) (fun _ _ _ h => h) (Or.inl ⟨by rfl, ?hy64⟩) (by assumption) ?rest64
              case hy64 => (intro w hSw; (try dsimp only at hSw); go_simp; try with_reducible rfl)
              try simp only [Act.put, List.setIfInBounds_toArray, List.set_cons_zero, List.set_cons_succ]
              refine wpAnyH_take (i := 10) (oi := { dst := some 128, op := Op.fieldAddr 25 (Operand.tmp 3) 3, type := 0, pos := "outright.go:90", after := #[], guard := none }) (v := ?v65) rfl (by kernel_rfl) (by kernel_rfl) (by kernel_rfl) (fun _ _ _ h => h) (Or.inl ⟨by rfl, ?hy65⟩) (by assumption) ?rest65
              case hy65 => (intro w hSw; (try dsimp only at hSw); go_simp; try with_reducible rfl)
              try simp only [Act.put, List.setIfInBounds_toArray, List.set_cons_zero, List.set_cons_succ]
              refine wpAnyH_take (i := 11) (oi := { dst := some 129, op := Op.load 23 (Operand.tmp 128), type := 23, pos := "outright.go:90", after := #[{ on := 10, ground := Ground.data }], guard := none }) (v := ?v66) rfl (by kernel_rfl) (by kernel_rfl) (by kernel_rfl) (fun _ _ _ h => h) (Or.inl ⟨by rfl, ?hy66⟩) (by assumption) ?rest66
              case hy66 => (intro w hSw; (try dsimp only at hSw); go_simp; try with_reducible rfl)
              try simp only [Act.put, List.setIfInBounds_toArray, List.set_cons_zero, List.set_cons_succ]
              refine wpAnyH_take (i := 12) (oi := { dst := some 130, op := Op.fieldAddr 28 (Operand.tmp 5) 3, type := 0, pos := "outright.go:90", after := #[], guard := none }) (v := ?v67) rfl (by kernel_rfl) (by kernel_rfl) (by kernel_rfl) (fun _ _ _ h => h) (Or.inl ⟨by rfl, ?hy67⟩) (by assumption) ?rest67
              case hy67 => (intro w hSw; (try dsimp only at hSw); go_simp; try with_reducible rfl)
              try simp only [Act.put, List.setIfInBounds_toArray, List.set_cons_zero, List.set_cons_succ]
              refine wpAnyH_take (i := 13) (oi := { dst := some 131, op := Op.load 23 (Operand.tmp 130), type := 23, pos := "outright.go:90", after := #[{ on := 12, ground := Ground.data }], guard := none }) (v := ?v68) rfl (by kernel_rfl) (by kernel_rfl) (by kernel_rfl) (fun _ _ _ h => h) (Or.inl ⟨by rfl, ?hy68⟩) (by assumption) ?rest68
              case hy68 => (intro w hSw; (try dsimp only at hSw); go_simp; try with_reducible rfl)
              try simp only [Act.put, List.setIfInBounds_toArray, List.set_cons_zero, List.set_cons_succ]
              refine wpAnyH_take (i := 14) (oi := { dst := some 132, op := Op.call { callee := Callee.builtin Builtin.max, args := #[Operand.tmp 129, Operand.tmp 131], argTypes := #[23, 23] }, type := 23, pos := "outright.go:90", after := #[{ on := 11, ground := Ground.data }, { on := 13, ground := Ground.data }], guard := none }) (v := ?v69) rfl (by kernel_rfl) (by kernel_rfl) (by kernel_rfl) (fun _ _ _ h => h) (Or.inl ⟨by rfl, ?hy69⟩) (by assumption) ?rest69
              case hy69 => (intro w hSw; (try dsimp only at hSw); go_simp; try with_reducible rfl)
              try simp only [Act.put, List.setIfInBounds_toArray, List.set_cons_zero, List.set_cons_succ]
              refine wpAnyH_take (i := 15) (oi := { dst := some 133, op := Op.fieldAddr 25 (Operand.tmp 11) 1, type := 0, pos := "outright.go:90", after := #[{ on := 0, ground := Ground.phase }, { on := 1, ground := Ground.phase }, { on := 2, ground := Ground.phase }, { on := 3, ground := Ground.phase }, { on := 4, ground := Ground.phase }, { on := 5, ground := Ground.textOnly Departure.lateStores }, { on := 6, ground := Ground.textOnly Departure.lateStores }, { on := 7, ground := Ground.textOnly Departure.lateStores }, { on := 8, ground := Ground.textOnly Departure.lateStores }, { on := 9, ground := Ground.textOnly Departure.lateStoresUnsure }, { on := 10, ground := Ground.textOnly Departure.lateStores }, { on := 11, ground := Ground.textOnly Departure.lateStores }, { on := 12, ground := Ground.textOnly Departure.lateStores }, { on := 13, ground := Ground.textOnly Departure.lateStores }, { on := 14, ground := Ground.textOnly Departure.lateStoresUnsure }], guard := none }) (v := ?v70) rfl (by kernel_rfl) (by kernel_rfl) (by kernel_rfl) (fun _ _ _ h => h) (Or.inl ⟨by rfl, ?hy70⟩) (by assumption) ?rest70
              case hy70 => (intro w hSw; (try dsimp only at hSw); go_simp; try with_reducible rfl)
              try simp only [Act.put, List.setIfInBounds_toArray, List.set_cons_zero, List.set_cons_succ]
              refine wpAnyH_ready (rs := [16]) (by kernel_rfl) (by simp) ?_
              refine AllReadyH.cons (o := { dst := none, op := Op.store 23 (Operand.tmp 133) (Operand.tmp 122), type := 0, pos := "outright.go:90", after := #[{ on := 15, ground := Ground.data }, { on := 4, ground := Ground.data }, { on := 0, ground := Ground.phase }, { on := 1, ground := Ground.phase }, { on := 2, ground := Ground.phase }, { on := 3, ground := Ground.phase }, { on := 4, ground := Ground.phase }, { on := 5, ground := Ground.textOnly Departure.lateStores }, { on := 6, ground := Ground.textOnly Departure.lateStores }, { on := 7, ground := Ground.textOnly Departure.lateStores }, { on := 8, ground := Ground.textOnly Departure.lateStores }, { on := 9, ground := Ground.textOnly Departure.lateStoresUnsure }, { on := 10, ground := Ground.textOnly Departure.lateStores }, { on := 11, ground := Ground.textOnly Departure.lateStores }, { on := 12, ground := Ground.textOnly Departure.lateStores }, { on := 13, ground := Ground.textOnly Departure.lateStores }, { on := 14, ground := Ground.textOnly Departure.lateStoresUnsure }], guard := none }) rfl (fun K hK => ?_) AllReadyH.nil
              go_simp
              clear hHeld
              refine hK.out _ _ (HSK.out _ (Below.setCell hst (Nat.le_refl _) _)) (fun hHeld => ?_)
              clear hK K
              try simp only [Act.put, List.setIfInBounds_toArray, List.set_cons_zero, List.set_cons_succ]
              refine wpAnyH_take (i := 17) (oi := { dst := some 134, op := Op.fieldAddr 25 (Operand.tmp 11) 2, type := 0, pos := "outright.go:90", after := #[{ on := 0, ground := Ground.phase }, { on := 1, ground := Ground.phase }, { on := 2, ground := Ground.phase }, { on := 3, ground := Ground.phase }, { on := 4, ground := Ground.phase }, { on := 5, ground := Ground.phase }, { on := 6, ground := Ground.phase }, { on := 7, ground := Ground.phase }, { on := 8, ground := Ground.phase }, { on := 9, ground := Ground.phase }, { on := 10, ground := Ground.textOnly Departure.lateStores }, { on := 11, ground := Ground.textOnly Departure.lateStores }, { on := 12, ground := Ground.textOnly Departure.lateStores }, { on := 13, ground := Ground.textOnly Departure.lateStores }, { on := 14, ground := Ground.textOnly Departure.lateStoresUnsure }, { on := 15, ground := Ground.phase }, { on := 16, ground := Ground.phase }], guard := none }) (v := ?v71) rfl (by kernel_rfl) (by kernel_rfl) (by kernel_rfl) (fun _ _ _ h => h) (Or.inl ⟨by rfl, ?hy71⟩) (by assumption) ?rest71
              case hy71 => (intro w hSw; (try dsimp only at hSw); go_simp; try with_reducible rfl)
              try simp only [Act.put, List.setIfInBounds_toArray, List.set_cons_zero, List.set_cons_succ]
              refine wpAnyH_ready (rs := [18]) (by kernel_rfl) (by simp) ?_
              refine AllReadyH.cons (o := { dst := none, op := Op.store 23 (Operand.tmp 134) (Operand.tmp 127), type := 0, pos := "outright.go:90", after := #[{ on := 17, ground := Ground.data }, { on := 9, ground := Ground.data }, { on := 16, ground := Ground.chain }, { on := 0, ground := Ground.phase }, { on := 1, ground := Ground.phase }, { on := 2, ground := Ground.phase }, { on := 3, ground := Ground.phase }, { on := 4, ground := Ground.phase }, { on := 5, ground := Ground.phase }, { on := 6, ground := Ground.phase }, { on := 7, ground := Ground.phase }, { on := 8, ground := Ground.phase }, { on := 9, ground := Ground.phase }, { on := 10, ground := Ground.textOnly Departure.lateStores }, { on := 11, ground := Ground.textOnly Departure.lateStores }, { on := 12, ground := Ground.textOnly Departure.lateStores }, { on := 13, ground := Ground.textOnly Departure.lateStores }, { on := 14, ground := Ground.textOnly Departure.lateStoresUnsure }, { on := 15, ground := Ground.phase }, { on := 16, ground := Ground.phase }], guard := none }) rfl (fun K hK => ?_) AllReadyH.nil
              go_simp
              clear hHeld
              refine hK.out _ _ (HSK.out _ (Below.setCell (Below.setCell hst (Nat.le_refl _) _) (Nat.le_refl _) _)) (fun hHeld => ?_)
              clear hK K
              try simp only [Act.put, List.setIfInBounds_toArray, List.set_cons_zero, List.set_cons_succ]
              refine wpAnyH_take (i := 19) (oi := { dst := some 135, op := Op.fieldAddr 25 (Operand.tmp 11) 3, type := 0, pos := "outright.go:90", after := #[{ on := 0, ground := Ground.phase }, { on := 1, ground := Ground.phase }, { on := 2, ground := Ground.phase }, { on := 3, ground := Ground.phase }, { on := 4, ground := Ground.phase }, { on := 5, ground := Ground.phase }, { on := 6, ground := Ground.phase }, { on := 7, ground := Ground.phase }, { on := 8, ground := Ground.phase }, { on := 9, ground := Ground.phase }, { on := 10, ground := Ground.phase }, { on := 11, ground := Ground.phase }, { on := 12, ground := Ground.phase }, { on := 13, ground := Ground.phase }, { on := 14, ground := Ground.phase }, { on := 15, ground := Ground.phase }, { on := 16, ground := Ground.phase }, { on := 17, ground := Ground.phase }, { on := 18, ground := Ground.phase }], guard := none }) (v := ?v72) rfl (by kernel_rfl) (by kernel_rfl) (by kernel_rfl) (fun _ _ _ h => h) (Or.inl ⟨by rfl, ?hy72⟩) (by assumption) ?rest72
              case hy72 => (intro w hSw; (try dsimp only at hSw); go_simp; try with_reducible rfl)
              try simp only [Act.put, List.setIfInBounds_toArray, List.set_cons_zero, List.set_cons_succ]
              refine wpAnyH_ready (rs := [20]) (by kernel_rfl) (by simp) ?_
              refine AllReadyH.cons (o := { dst := none, op := Op.store 23 (Operand.tmp 135) (Operand.tmp 132), type := 0, pos := "outright.go:90", after := #[{ on := 19, ground := Ground.data }, { on := 14, ground := Ground.data }, { on := 18, ground := Ground.chain }, { on := 0, ground := Ground.phase }, { on := 1, ground := Ground.phase }, { on := 2, ground := Ground.phase }, { on := 3, ground := Ground.phase }, { on := 4, ground := Ground.phase }, { on := 5, ground := Ground.phase }, { on := 6, ground := Ground.phase }, { on := 7, ground := Ground.phase }, { on := 8, ground := Ground.phase }, { on := 9, ground := Ground.phase }, { on := 10, ground := Ground.phase }, { on := 11, ground := Ground.phase }, { on := 12, ground := Ground.phase }, { on := 13, ground := Ground.phase }, { on := 14, ground := Ground.phase }, { on := 15, ground := Ground.phase }, { on := 16, ground := Ground.phase }, { on := 17, ground := Ground.phase }, { on := 18, ground := Ground.phase }], guard := none }) rfl (fun K hK => ?_) AllReadyH.nil
              go_simp
              clear hHeld
              refine hK.out _ _ (HSK.out _ (Below.setCell (Below.setCell (Below.setCell hst (Nat.le_refl _) _) (Nat.le_refl _) _) (Nat.le_refl _) _)) (fun hHeld => ?_)
              clear hK K
              try simp only [Act.put, List.setIfInBounds_toArray, List.set_cons_zero, List.set_cons_succ]
              refine wpAnyH_done (by kernel_rfl) ?_ _
              refine NoPanic.normal ?_
              obtain ⟨w10, hw10⟩ : ∃ w10, w10 = ((w9.drew.setCell ⟨w8.heap.size, 1, none⟩ (.int .u64 (ma : Int))).setCell ⟨w8.heap.size, 2, none⟩ (.int .u64 (mb : Int))).setCell ⟨w8.heap.size, 3, none⟩ (.int .u64 (mc : Int)) := ⟨_, rfl⟩
              have HC10 := Lib.hid (show B4 w10 w8.heap.size 25 (.slice A1 n1 c1) (.int .u64 (ma : Int)) (.int .u64 (mb : Int)) (.int .u64 (mc : Int)) by rw [hw10]; exact ((HC9.out.drew.set1 _).set2 _).set3 _)
              have HB10 := Lib.hid (show Below w8.heap.size w8 w10 by rw [hw10]; exact Below.setCell (Below.setCell (Below.setCell HST.out (Nat.le_refl _) _) (Nat.le_refl _) _) (Nat.le_refl _) _)
              have HX10 := Lib.hid (bon HX8.out HB10.out)
              have HV10 := Lib.hid (bon HB8.out HB10.out)
              have HRC := Lib.hid (show ∀ W, Below w2.heap.size w2 W → RdM W w.heap.size A1 n1 c1 e1.L from fun W hW => HR1.out W hW)
              have HAPC := Lib.hid (apply_c (w := w10) (v := e0) (e := ⟨e1.L, ma, mb, mc⟩) (HF5.out.below HV10.out (Nat.le_refl _)) ((HRC.out w10 HX10.out).more (Nat.le_trans HT.out.below.size HX5.out.size)) HV10.out.size (by have := HN4.out; omega) (by have := HNN.out; omega))
              have HRTC := Lib.hid (fun W (hW : Below w2.heap.size w2 W) => right_c (e := ⟨e1.L, ma, mb, mc⟩) (HRC.out W hW) (Nat.le_trans HT.out.below.size hW.size) (by have := HNN.out; omega))
              unfold edV at HAPC HRTC
              clear hHeld hst
              have hw10b : w10 = (((w9.setCell ⟨w8.heap.size, 1, none⟩ (.int .u64 (ma : Int))).setCell ⟨w8.heap.size, 2, none⟩ (.int .u64 (mb : Int))).setCell ⟨w8.heap.size, 3, none⟩ (.int .u64 (mc : Int))).drew := hw10
              go_upto_region 15 with (fail)
              first | rw [← hw10] | rw [← hw10b]
              clear hw10 hw10b g0 g1 g2 g3 gz0 gz1 gz2 gz3
              obtain ⟨g0, g1, g2, g3, _, _, _, _⟩ := HC10.out.cells
              obtain ⟨v0, v1, v2, v3, _, _, _, _⟩ := (HV5.out.now HV10.out).cells
              go_wp2_with fail
              refine HAPC.out.mono ?_
              rintro e w11 ⟨A11, n11, c11, rfl, hf11, hb11⟩
              obtain ⟨wu, hwu⟩ : ∃ wu : Ed, wu = applyE e0 ⟨e1.L, ma, mb, mc⟩ := ⟨_, rfl⟩
              rw [← hwu]
              rw [HTOK.out]
              clear hwu hf11
              obtain ⟨w12, hw12⟩ : ∃ w12, w12 = w11.alloc (.cells #[.slice A11 n11 c11, .int .u64 (wu.a : Int), .int .u64 (wu.b : Int), .int .u64 (wu.c : Int)] 28) := ⟨_, rfl⟩
              have HB12 := Lib.hid (show Below w10.heap.size w10 w12 by rw [hw12]; exact blit hb11 _)
              have HX12 := Lib.hid (bon HX10.out HB12.out)
              clear hb11 g0 g1 g2 g3 v0 v1 v2 v3
              obtain ⟨g0, g1, g2, g3, _, _, _, _⟩ := (HC10.out.now HB12.out).cells
              have HRQ := Lib.hid (HRTC.out w12 HX12.out)
              unfold edV
              go_upto_region 16 with (fail)
              rw [← hw12]
              clear hw12
              obtain ⟨rq, hrq⟩ : ∃ rq, rq = rightE ⟨e1.L, ma, mb, mc⟩ := ⟨_, rfl⟩
              rw [← hrq] at HRQ
              rw [← hrq]
              clear hrq
              have HE1 : errE true = 0 := rfl
              have HE2 : errE false = 90 := rfl
              cases rq with
              | true =>
                rw [HE1]
                clear HE1 HE2
                go_wp2_with fail
                refine HRQ.out.mono ?_
                rintro e w13 ⟨rfl, hb13⟩
                have HX13 := Lib.hid (bon HX12.out hb13)
                clear hb13 g0 g1 g2 g3
                go_wp2_with fail
                refine (awake9_c _).mono ?_
                rintro e w99 ⟨rfl, hb99⟩
                go_wp2_with fail
                go_ret
                exact ⟨rfl, bon (bon HT.out.below HX13.out) hb99⟩
              | false =>
                rw [HE2]
                clear HE1 HE2
                go_wp2_with fail
                refine HRQ.out.mono ?_
                rintro e w13 ⟨rfl, hb13⟩
                have HX13 := Lib.hid (bon HX12.out hb13)
                clear hb13 g0 g1 g2 g3
                go_wp2_with fail
                refine (awake9_c _).mono ?_
                rintro e w99 ⟨rfl, hb99⟩
                go_wp2_with fail
                go_ret
                exact ⟨rfl, bon (bon HT.out.below HX13.out) hb99⟩

set_option maxRecDepth 100000 in
theorem lifted (os : Os) (started : os.Started) (H : Type) (enc : TypeId × Value → H) :
    ReturnsInHanded {} Try.checked os 6 .any (Rows.editRefusedSpec.pre6 enc Try.prog Try.f6 Rows.editRefusedRow.domain false) (Rows.editRefusedSpec.post enc Try.prog Try.f6 false true false false) := by
  refine returnsInHanded_of_change (C := Try.checked) own started (by kernel_rfl) Try.func6
    (ChangeSpec.witness6 (enc := enc) (C := Try.checked) false ⟨#[], #[.agg #[.slice none 0 0, .int .u64 0, .int .u64 0, .int .u64 0], .agg #[.slice none 0 0, .int .u64 0, .int .u64 0, .int .u64 0]], []⟩ 8 (by kernel_rfl) (by kernel_rfl) (by kernel_rfl) (by kernel_rfl)) ?_
  intro W base args ds gs before hval0 hW hcnd _
  have hval : ∀ (j : Nat) t v, Try.f6.params[j]? = some t → args[j]? = some v → Value.okWide Try.prog W .any base t v := hval0
  have hW' := hW
  obtain ⟨p, q, hA0, hV, rfl, hfz, hnd⟩ := hW
  have hA : DataW.TrodAll enc Try.prog W 0 (fun _ => true) true Try.f6.params.toList args.toList ds p := hA0
  rw [Try.params6] at hA hval
  obtain ⟨v0, vs0, d0, ds0, p0, q0_, hargs, rfl, rfl, h0, r0_⟩ := trodAll_cons hA
  obtain ⟨v1, vs1, d1, ds1, p1, q1_, rfl, rfl, rfl, h1, r1_⟩ := trodAll_cons r0_
  obtain ⟨rfl, rfl, rfl⟩ := trodAll_nil r1_
  obtain rfl : args = #[v0, v1] := by cases args; simp_all
  obtain ⟨rfl, rfl⟩ := trodVars_none hV
  have kk0 := h0
  have lt0 : ∀ x ∈ p0, x.block < W.heap.size := by obtain ⟨m, hm⟩ := kk0; exact DataW.trod_lt m _ _ _ hm
  have kk1 := h1
  have lt1 : ∀ x ∈ p1, x.block < W.heap.size := by obtain ⟨m, hm⟩ := kk1; exact DataW.trod_lt m _ _ _ hm
  obtain ⟨y0, e0, o0, r0⟩ := open_edit (hval 0 _ v0 rfl rfl) h0
  subst e0
  obtain ⟨y1, e1, o1, r1⟩ := open_edit (hval 1 _ v1 rfl rfl) h1
  subst e1
  clear hA0 hval0
  refine (walk y0 y1 W o0 r0 o1 r1).mono fun e W' ⟨he, bel⟩ => ?_
  subst he
  exact ⟨_, rfl, _, _, _, [], _, [], hW', trodAll_mk1 (shut_bool Try.underlying4 _), (trodAll_cons_mk (Below.trod laidOut (by kernel_rfl) (of_decide_eq_true (by kernel_rfl)) kk0 bel lt0) (trodAll_cons_mk (Below.trod laidOut (by kernel_rfl) (of_decide_eq_true (by kernel_rfl)) kk1 bel lt1) trodAll_mk0)), rfl, bel.frame _, fun h => by cases h⟩

theorem over : Rows.editRefusedRow.holds Try.pinned (OpenSpec.ofChange Rows.editRefusedSpec) :=
  OpenClaim.holds_of_wide 6 Try.f6 rfl rfl rfl rfl rfl rfl rfl ⟨rfl, rfl, rfl, rfl, rfl⟩ rfl rfl rfl rfl rfl (by kernel_rfl) Try.func6 (by kernel_rfl)
    (of_decide_eq_true (by kernel_rfl)) (by unfold Func.isWrapper; first | (rw [if_pos (by decide +kernel)]; kernel_rfl) | (rw [if_neg (by decide +kernel)]; exact ⟨rfl, rfl⟩))
    (fun os started H enc _ => lifted os started H enc)

/-- The statement. -/
theorem proved : Rows.EditRefusedSaid := over
#print axioms proved
end Go.Proofs.Ythgbafhfeblhaaa.editRefused
