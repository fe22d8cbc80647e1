/-
  What is sought is the first entry that is not ahead, in whichever block it stands: at an entry's own key that entry; behind the last one none. No condition.
-/
import Derived.Test.YtkdjjdkcogolmaaRows
import Derived.Test.YtkdjjdkcogolmaaTD
import Derived.WalkKit
import Derived.ProofKit
import Derived.OpenShut
import Derived.ShutString
import Derived.ChangeOld
import Derived.Below
namespace Go.Proofs.Ytkdjjdkcogolmaa.tableSeek
set_option maxRecDepth 100000
open Go.ChangeShapes Go.WideShapes Go.ChangeAt Go.RowKit
open Go.ChangeMaps (open_string shut_string)
set_option linter.unusedVariables false

theorem own : ownKnob Try.prog.godebug = none := by kernel_rfl
theorem laidOut : laidOutB Try.prog = true := by kernel_rfl

open Go.Shelf
def LtP (O : List Ent) (s : ByteArray) (q k j : Nat) : Prop := ∀ (t : Nat) (y : Ent), t < j → O[t]? = some y → cmpV y.s y.q y.k s q k < 0

set_option maxRecDepth 100000 in
set_option maxHeartbeats 8000000 in
theorem walk (A0 : Option Addr) (n0 c0 : Nat) (L0 : List Ent) (s1 : ByteArray) (q1 k1 : Nat) (w : World) (r0 : RdE w w.heap.size A0 n0 c0 L0) (o0 : ∀ x ∈ L0, EntOk x) (w1 : s1.size ≤ maxLen) (x1 : (q1 : Int) ≤ 18446744073709551615) (y1 : (k1 : Int) ≤ 255) :
    Calls Try.prog 5 #[.slice A0 n0 c0, ik s1 q1 k1] w fun e w' => e = .returned (.bool true) ∧ Below w.heap.size w w' := by
  unfold ik
  have i0 := IkAt.new w s1 q1 k1
  have rr := r0.now (below_alloc w (.cells #[.string s1, .int .u64 (q1 : Int), .int .u8 (k1 : Int)] 43))
  have g0 := below_alloc w (.cells #[.string s1, .int .u64 (q1 : Int), .int .u8 (k1 : Int)] 43)
  have hl0 := r0.len
  have HL0 := Lib.hid hl0
  clear r0 o0 w1 x1 y1 hl0
  go_enter Try.func5, Try.ntmps5
  go_upto_region 1 with (fail)
  generalize hwa : w.alloc (.cells #[.string s1, .int .u64 (q1 : Int), .int .u8 (k1 : Int)] 43) = wa at *
  generalize hgk : w.heap.size = gk at i0 ⊢
  clear hwa
  obtain ⟨a0, a1, a2⟩ := i0.cells
  go_wp2_with fail
  refine (few_c rr (Nat.le_refl _) 120).mono ?_
  rintro e w2 ⟨rfl, hb2⟩
  replace rr := rr.now hb2
  replace i0 := i0.below hb2 (Nat.le_refl _)
  replace g0 := bon g0 hb2
  clear hb2 a0 a1 a2
  obtain ⟨a0, a1, a2⟩ := i0.cells
  cases hfew : fewB L0 120 with
  | false =>
    have G0 := Lib.hid g0
    clear g0 rr i0 hfew
    go_wp2_with fail
    refine (awake8_c _).mono ?_
    rintro e w99 ⟨rfl, hb99⟩
    go_wp2_with fail
    go_ret
    exact ⟨rfl, bon G0.out hb99⟩
  | true =>
  have hn : n0 ≤ 120 := few_t HL0.out hfew
  clear hfew
  by_cases hks : 70 < s1.size
  · have d1 : decide ((70 : Int) < (s1.size : Int)) = true := by simp; omega
    have d1' : decide (70 < s1.size) = true := by simpa using hks
    have G0 := Lib.hid g0
    clear g0 rr i0 hks
    go_wp2_with fail
    refine (awake8_c _).mono ?_
    rintro e w99 ⟨rfl, hb99⟩
    go_wp2_with fail
    go_ret
    exact ⟨rfl, bon G0.out hb99⟩
  have d1 : decide ((70 : Int) < (s1.size : Int)) = false := by simp; omega
  have d1' : decide (70 < s1.size) = false := by simpa using hks
  have HS := Lib.hid (sorted_c rr (by omega) 120 (by decide))
  have G0 := Lib.hid g0
  have I0 := Lib.hid i0
  clear g0 i0 rr hks
  go_wp2_with fail
  refine HS.out.mono ?_
  rintro e w3 ⟨A3, n3, c3, rfl, hf3, hb3⟩
  obtain ⟨O, hO⟩ : ∃ O, sortE 120 L0 = O := ⟨_, rfl⟩
  have hsb := sort_tbl (mo := 120) (by decide) L0
  have hol := (sortE_ok 120 L0).2.2
  rw [hO] at hf3 hsb hol
  have hl3 := hf3.len
  have r3 := hf3.rd (Nat.le_refl _)
  have I3 := Lib.hid (I0.out.below hb3 (Nat.le_refl _))
  have G3 := Lib.hid (bon G0.out hb3)
  clear hf3 hb3 HS G0 I0 hO a0 a1 a2 d1 d1'
  by_cases hz : n3 = 0
  · have d1 : ((n3 : Int) == 0) = true := by simp; omega
    have d1' : (n3 == 0) = true := by simpa using hz
    clear hz hsb hl3 r3 hol
    go_wp2_with fail
    refine (awake8_c _).mono ?_
    rintro e w99 ⟨rfl, hb99⟩
    go_wp2_with fail
    go_ret
    exact ⟨rfl, bon G3.out hb99⟩
  have d1 : ((n3 : Int) == 0) = false := by simp; omega
  have d1' : (n3 == 0) = false := by simpa using hz
  have hblk : tblB O = true := hsb (fun h => hz (by rw [← hl3, h]; rfl))
  have hn64 : n3 ≤ 120 := by omega
  have hni : (n3 : Int) ≤ 120 := by omega
  have HB := Lib.hid (tbuild_t r3 (Nat.le_refl _) (by omega) (if_pos hblk : bltL O = tabL O) (if_pos hblk : bltE O = 0))
  have HBLK := Lib.hid hblk
  have HL3 := Lib.hid hl3
  have HLB := Lib.hid (tabL_len hblk)
  have HPR := Lib.hid (prt_of hblk)
  have R3 := Lib.hid r3
  clear hblk hsb hl3 r3 hz hol
  go_wp2_with fail
  refine HB.out.mono ?_
  rintro e w4 ⟨A4, n4, c4, rfl, hf4, hb4⟩
  have hn4 : n4 ≤ 12500000 := tret_len hf4 HLB.out
  have r4 := hf4.rd (Nat.le_refl _)
  have r3 := R3.out.now hb4
  have i4 := I3.out.below hb4 (Nat.le_refl _)
  have g4 := bon G3.out hb4
  clear hf4 hb4 HB I3 G3 R3 d1 d1'
  go_wp2_with fail
  go_loopw [7] (fun iv wr => ∃ k : Nat, iv = .int .i64 (k : Int) ∧ k ≤ n3 + 7 ∧ RdE wr wr.heap.size A3 n3 c3 O ∧ Rd wr wr.heap.size A4 n4 c4 (bv (tabL O)) ∧ IkAt wr gk s1 q1 k1 ∧ Below w.heap.size w wr) (fun iv _ => ((n3 : Int) + 7 - intOf iv).toNat)
  case atStart => exact ⟨0, rfl, Nat.zero_le _, r3, r4, i4, g4⟩
  case round =>
    clear r3 r4 i4 g4
    obtain ⟨k, rfl, hkn, r3, r4, i4, g4⟩ := hrel
    by_cases hlt : k < n3
    · obtain ⟨x, hx⟩ : ∃ x, O[k]? = some x := ⟨O[k]'(by have := HL3.out; omega), List.getElem?_eq_getElem _⟩
      have r3' := r3
      obtain ⟨b, off, hA, hbB, hcell⟩ := r3'.form (by omega)
      subst hA
      obtain ⟨x0, x1, x2, x3⟩ := hcell k x hx
      have hki : (k : Int) < (n3 : Int) := by omega
      have hk0 : (0 : Int) ≤ (k : Int) := by omega
      obtain ⟨so1, so2⟩ := tk_own HBLK.out hx
      have HSK := Lib.hid (tseek_t r4 (Nat.le_refl _) (by omega) x.s (x.q : Int) (x.k : Int) x.q x.k rfl rfl so1 so2 HPR.out.2)
      have EQ := fun W => run_same_en (x := x) (y := x) rfl W
      unfold en at EQ
      have HX := Lib.hid hx
      have R3 := Lib.hid r3
      have R4 := Lib.hid r4
      have I4 := Lib.hid i4
      have G4 := Lib.hid g4
      clear r3 r3' r4 i4 g4 hcell hx so1 so2
      go_wp2_with fail
      refine HSK.out.mono ?_
      rintro e w5 ⟨rfl, hb5⟩
      unfold en
      have z5 := EnAt.new w5 x
      have bb : Below wr.heap.size wr (w5.alloc (.cells #[.string x.s, .int .u64 (x.q : Int), .int .u8 (x.k : Int), .string x.v] 45)) := blit hb5 _
      have R5 := Lib.hid (R3.out.now bb)
      have S5 := Lib.hid (R4.out.now bb)
      have I5 := Lib.hid (I4.out.below bb (Nat.le_refl _))
      have G5 := Lib.hid (bon G4.out bb)
      have c0 : (w5.alloc (.cells #[.string x.s, .int .u64 (x.q : Int), .int .u8 (x.k : Int), .string x.v] 45)).cell? ⟨b, off + k * 4, none⟩ = _ := (bb.cell hbB).trans x0
      have c1 : (w5.alloc (.cells #[.string x.s, .int .u64 (x.q : Int), .int .u8 (x.k : Int), .string x.v] 45)).cell? ⟨b, off + k * 4 + 1, none⟩ = _ := (bb.cell hbB).trans x1
      have c2 : (w5.alloc (.cells #[.string x.s, .int .u64 (x.q : Int), .int .u8 (x.k : Int), .string x.v] 45)).cell? ⟨b, off + k * 4 + 2, none⟩ = _ := (bb.cell hbB).trans x2
      have c3' : (w5.alloc (.cells #[.string x.s, .int .u64 (x.q : Int), .int .u8 (x.k : Int), .string x.v] 45)).cell? ⟨b, off + k * 4 + 3, none⟩ = _ := (bb.cell hbB).trans x3
      clear x0 x1 x2 x3 hb5 bb R3 R4 I4 G4 HSK
      go_upto_region 13 with (fail)
      generalize hwc : w5.alloc (.cells #[.string x.s, .int .u64 (x.q : Int), .int .u8 (x.k : Int), .string x.v] 45) = wc at *
      generalize hbf : w5.heap.size = bf at *
      clear hwc hbf
      obtain ⟨z0, z1, z2, z3⟩ := z5.cells
      clear z5
      go_quiet (fail)
      go_wp2_with fail
      go_roundw
      case rel => exact ⟨k + 7, by simp, by omega, R5.out.now (below_drewN (Below.refl _ _) _), S5.out.drewN _, I5.out.below (below_drewN (Below.refl _ _) _) (Nat.le_refl _), below_drewN G5.out _⟩
      case measure => simp [intOf]; omega
    · have hki : ¬ (k : Int) < (n3 : Int) := by omega
      obtain ⟨X, hX⟩ : ∃ X, skT (tabL O) s1 q1 k1 = X := ⟨_, rfl⟩
      obtain ⟨ok, hok⟩ : ∃ ok, skTB (tabL O) s1 q1 k1 = ok := ⟨_, rfl⟩
      have HX := Lib.hid hX
      have HOK := Lib.hid hok
      obtain ⟨a0, a1, a2⟩ := i4.cells
      have HSK := Lib.hid (tseek_t r4 (Nat.le_refl _) (by omega) s1 (q1 : Int) (k1 : Int) q1 k1 rfl rfl hX hok HPR.out.2)
      have R3 := Lib.hid r3
      have I4 := Lib.hid i4
      have G4 := Lib.hid g4
      clear r3 r4 i4 g4 hX hok
      go_wp2_with fail
      refine HSK.out.mono ?_
      rintro e w5 ⟨rfl, hb5⟩
      unfold en
      have z5 := EnAt.new w5 X
      have bb : Below wr.heap.size wr (w5.alloc (.cells #[.string X.s, .int .u64 (X.q : Int), .int .u8 (X.k : Int), .string X.v] 45)) := blit hb5 _
      have R5 := Lib.hid (R3.out.now bb)
      have I5 := Lib.hid (I4.out.below bb (Nat.le_refl _))
      have G5 := Lib.hid (bon G4.out bb)
      clear a0 a1 a2 hb5 bb R3 I4 G4 HSK hki hkn hlt
      go_upto_region 16 with (fail)
      generalize hwc : w5.alloc (.cells #[.string X.s, .int .u64 (X.q : Int), .int .u8 (X.k : Int), .string X.v] 45) = wc at *
      generalize hbf : w5.heap.size = bf at *
      clear hwc hbf
      have r3 := R5.out
      have i4 := I5.out
      have g4 := G5.out
      clear R5 I5 G5
      go_wp2_with fail
      go_loopw [81] (fun iv wr => ∃ j : Nat, iv = .int .i64 (j : Int) ∧ j ≤ n3 ∧ LtP O s1 q1 k1 j ∧ RdE wr wr.heap.size A3 n3 c3 O ∧ EnAt wr bf X ∧ IkAt wr gk s1 q1 k1 ∧ Below w.heap.size w wr) (fun iv _ => ((n3 : Int) - intOf iv).toNat)
      case atStart => exact ⟨0, rfl, Nat.zero_le _, fun j y hj => by omega, r3, z5, i4, g4⟩
      case round =>
        clear r3 z5 i4 g4
        obtain ⟨j, rfl, hjk, hall, r3, z5, i4, g4⟩ := hrel
        by_cases hlt : j < n3
        · obtain ⟨x, hx⟩ : ∃ x, O[j]? = some x := ⟨O[j]'(by have := HL3.out; omega), List.getElem?_eq_getElem _⟩
          have r3' := r3
          obtain ⟨b, off, hA, hbB, hcell⟩ := r3'.form (by omega)
          subst hA
          obtain ⟨x0, x1, x2, x3⟩ := hcell j x hx
          have hki : (j : Int) < (n3 : Int) := by omega
          have hk0 : (0 : Int) ≤ (j : Int) := by omega
          have y0 := EnAt.new wr x
          have ba := below_alloc wr (.cells #[.string x.s, .int .u64 (x.q : Int), .int .u8 (x.k : Int), .string x.v] 45)
          have R3 := Lib.hid (r3.now ba)
          have i4b := i4.below ba (Nat.le_refl _)
          have Z5 := Lib.hid (z5.below ba)
          have G4 := Lib.hid (bon g4 ba)
          have HXX := Lib.hid hx
          have HALL := Lib.hid hall
          clear r3 r3' z5 i4 g4 hcell hbB hx ba hall
          go_upto_region 21 with (fail)
          generalize hwb : wr.alloc (.cells #[.string x.s, .int .u64 (x.q : Int), .int .u8 (x.k : Int), .string x.v] 45) = wb at *
          generalize hbe : wr.heap.size = be at *
          clear hwb hbe x0 x1 x2 x3
          obtain ⟨x0, x1, x2, x3⟩ := y0.cells
          obtain ⟨a0, a1, a2⟩ := i4b.cells
          have Y0 := Lib.hid y0
          have I4 := Lib.hid i4b
          have HC := Lib.hid (compare_c wb x.s s1 x.q x.k q1 k1)
          unfold ik at HC
          clear y0 i4b
          go_wp2_with fail
          refine HC.out.mono ?_
          rintro e w6 ⟨rfl, hb6⟩
          have R6 := Lib.hid (R3.out.now hb6)
          have z6 := Z5.out.below hb6
          have y6 := Y0.out.below hb6
          have I6 := Lib.hid (I4.out.below hb6 (Nat.le_refl _))
          have G6 := Lib.hid (bon G4.out hb6)
          obtain ⟨cv, hcv⟩ : ∃ cv, cmpV x.s x.q x.k s1 q1 k1 = cv := ⟨_, rfl⟩
          rw [hcv]
          have HCV := Lib.hid hcv
          clear x0 x1 x2 x3 a0 a1 a2 hb6 R3 Z5 Y0 I4 G4 HC hcv
          by_cases hneg : cv < 0
          · have e1 : decide (cv < 0) = true := by simpa using hneg
            have e2 : decide (0 ≤ cv) = false := by simp; omega
            have e3 : ¬ 0 ≤ cv := by omega
            have Z6 := Lib.hid z6
            clear z6 y6
            go_wp2_with fail
            go_roundw
            case rel =>
              refine ⟨j + 1, by simp, by omega, fun t y ht hy => ?_, R6.out, Z6.out, I6.out, G6.out⟩
              rcases Nat.lt_or_ge t j with h1 | h1
              · exact HALL.out t y h1 hy
              · obtain rfl : t = j := by omega
                rw [HXX.out] at hy
                cases hy
                rw [HCV.out]; exact hneg
            case measure => simp [intOf]; omega
          · have e1 : decide (cv < 0) = false := by simpa using hneg
            have e2 : 0 ≤ cv := by omega
            have e3 : decide (0 ≤ cv) = true := by simpa using e2
            obtain ⟨f1, f2⟩ := tk_yes HBLK.out HALL.out HXX.out (by rw [HCV.out]; exact hneg)
            rw [HX.out] at f1
            rw [HOK.out] at f2
            subst f1
            subst f2
            obtain ⟨x0, x1, x2, x3⟩ := y6.cells
            obtain ⟨z0, z1, z2, z3⟩ := z6.cells
            have EQ := fun W => run_same_en (x := X) (y := X) rfl W
            unfold en at EQ
            clear z6 y6
            go_wp2_with fail
            refine (awake8_c _).mono ?_
            rintro e w99 ⟨rfl, hb99⟩
            go_wp2_with fail
            go_ret
            exact ⟨rfl, bon G6.out hb99⟩
        · have hki : ¬ (j : Int) < (n3 : Int) := by omega
          obtain ⟨f1, f2⟩ := tk_no HBLK.out (s := s1) (q := q1) (k := k1) (fun t y hy => hall t y (by
            rcases Nat.lt_or_ge t O.length with h1 | h1
            · have := HL3.out; omega
            · rw [List.getElem?_eq_none h1] at hy; cases hy) hy)
          rw [HX.out] at f1
          rw [HOK.out] at f2
          subst f2
          obtain ⟨z0, z1, z2, z3⟩ := z5.cells
          have EQ : ∀ W, (Op.equalIn 10000 45 (en X.s X.q X.k X.v) (.agg #[.string ⟨#[]⟩, .int .u64 0, .int .u8 0, .string ⟨#[]⟩])).run Try.prog W = .ok true W := fun W => run_same_en (x := X) (y := noE) f1 W
          unfold en at EQ
          have G4 := Lib.hid g4
          clear r3 z5 i4 g4 hall f1
          go_wp2_with fail
          refine (awake8_c _).mono ?_
          rintro e w99 ⟨rfl, hb99⟩
          go_wp2_with fail
          go_ret
          exact ⟨rfl, bon G4.out hb99⟩

set_option maxRecDepth 100000 in
theorem lifted (os : Os) (started : os.Started) (H : Type) (enc : TypeId × Value → H) :
    ReturnsInHanded {} Try.checked os 5 .any (Rows.tableSeekSpec.pre6 enc Try.prog Try.f5 Rows.tableSeekRow.domain false) (Rows.tableSeekSpec.post enc Try.prog Try.f5 false true false false) := by
  refine returnsInHanded_of_change (C := Try.checked) own started (by kernel_rfl) Try.func5
    (ChangeSpec.witness6 (enc := enc) (C := Try.checked) false ⟨#[], #[.slice none 0 0, .agg #[.string ByteArray.empty, .int .u64 0, .int .u8 0]], []⟩ 8 (by kernel_rfl) (by kernel_rfl) (by kernel_rfl) (by kernel_rfl)) ?_
  intro W base args ds gs before hval0 hW hcnd _
  have hval : ∀ (j : Nat) t v, Try.f5.params[j]? = some t → args[j]? = some v → Value.okWide Try.prog W .any base t v := hval0
  have hW' := hW
  obtain ⟨p, q, hA0, hV, rfl, hfz, hnd⟩ := hW
  have hA : DataW.TrodAll enc Try.prog W 0 (fun _ => true) true Try.f5.params.toList args.toList ds p := hA0
  rw [Try.params5] at hA hval
  obtain ⟨v0, vs0, d0, ds0, p0, q0_, hargs, rfl, rfl, h0, r0_⟩ := trodAll_cons hA
  obtain ⟨v1, vs1, d1, ds1, p1, q1_, rfl, rfl, rfl, h1, r1_⟩ := trodAll_cons r0_
  obtain ⟨rfl, rfl, rfl⟩ := trodAll_nil r1_
  obtain rfl : args = #[v0, v1] := by cases args; simp_all
  obtain ⟨rfl, rfl⟩ := trodVars_none hV
  have kk0 := h0
  have lt0 : ∀ x ∈ p0, x.block < W.heap.size := by obtain ⟨m, hm⟩ := kk0; exact DataW.trod_lt m _ _ _ hm
  have kk1 := h1
  have lt1 : ∀ x ∈ p1, x.block < W.heap.size := by obtain ⟨m, hm⟩ := kk1; exact DataW.trod_lt m _ _ _ hm
  obtain ⟨A0, n0, c0, L0, e0, r0, o0⟩ := open_ents h0 (hval 0 _ v0 rfl rfl)
  subst e0
  obtain ⟨s1, q1, k1, e1, w1, x1, y1⟩ := open_ik (hval 1 _ v1 rfl rfl) h1
  subst e1
  clear hA0 hval0
  refine (walk A0 n0 c0 L0 s1 q1 k1 W r0 o0 w1 x1 y1).mono fun e W' ⟨he, bel⟩ => ?_
  subst he
  exact ⟨_, rfl, _, _, _, [], _, [], hW', trodAll_mk1 (shut_bool Try.underlying4 _), (trodAll_cons_mk (Below.trod laidOut (by kernel_rfl) (of_decide_eq_true (by kernel_rfl)) kk0 bel lt0) (trodAll_cons_mk (Below.trod laidOut (by kernel_rfl) (of_decide_eq_true (by kernel_rfl)) kk1 bel lt1) trodAll_mk0)), rfl, bel.frame _, fun h => by cases h⟩

theorem over : Rows.tableSeekRow.holds Try.pinned (OpenSpec.ofChange Rows.tableSeekSpec) :=
  OpenClaim.holds_of_wide 5 Try.f5 rfl rfl rfl rfl rfl rfl rfl ⟨rfl, rfl, rfl, rfl, rfl⟩ rfl rfl rfl rfl rfl (by kernel_rfl) Try.func5 (by kernel_rfl)
    (of_decide_eq_true (by kernel_rfl)) (by unfold Func.isWrapper; first | (rw [if_pos (by decide +kernel)]; kernel_rfl) | (rw [if_neg (by decide +kernel)]; exact ⟨rfl, rfl⟩))
    (fun os started H enc _ => lifted os started H enc)

/-- The statement. -/
theorem proved : Rows.TableSeekSaid := over
#print axioms proved
end Go.Proofs.Ytkdjjdkcogolmaa.tableSeek
