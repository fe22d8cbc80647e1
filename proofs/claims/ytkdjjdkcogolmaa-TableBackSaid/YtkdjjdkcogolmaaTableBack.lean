/-
  What is built is parsed, and nothing but tables are built; what is parsed rises, and is built as it stood; two have the same bytes just if they are the same. No condition.
-/
import Derived.Test.YtkdjjdkcogolmaaRows
import Derived.Test.YtkdjjdkcogolmaaTD
import Derived.WalkKit
import Derived.ProofKit
import Derived.OpenShut
import Derived.ShutString
import Derived.ChangeOld
import Derived.Below
namespace Go.Proofs.Ytkdjjdkcogolmaa.tableBack
set_option maxRecDepth 100000
open Go.ChangeShapes Go.WideShapes Go.ChangeAt Go.RowKit
open Go.ChangeMaps (open_string shut_string)
set_option linter.unusedVariables false

theorem own : ownKnob Try.prog.godebug = none := by kernel_rfl
theorem laidOut : laidOutB Try.prog = true := by kernel_rfl

open Go.Shelf

set_option maxRecDepth 100000 in
set_option maxHeartbeats 8000000 in
theorem walk (A0 : Option Addr) (n0 c0 : Nat) (L0 : List Ent) (A1 : Option Addr) (n1 c1 : Nat) (L1 : List Ent) (A2 : Option Addr) (n2 c2 : Nat) (l2 : List UInt8) (w : World) (r0 : RdE w w.heap.size A0 n0 c0 L0) (o0 : ∀ x ∈ L0, EntOk x) (r1 : RdE w w.heap.size A1 n1 c1 L1) (o1 : ∀ x ∈ L1, EntOk x) (w2 : l2.length = n2) (r2 : Rd w w.heap.size A2 n2 c2 (bv l2)) :
    Calls Try.prog 3 #[.slice A0 n0 c0, .slice A1 n1 c1, .slice A2 n2 c2] w fun e w' => e = .returned (.bool true) ∧ Below w.heap.size w w' := by
  have hl0 := r0.len
  have hl1 := r1.len
  have raw := r2
  have ro := r1
  have g0 : Below w.heap.size w w := Below.refl _ _
  have HL0 := Lib.hid hl0
  have HL1 := Lib.hid hl1
  have HL2 := Lib.hid w2
  clear r1 r2 o0 o1 hl0 hl1 w2
  go_enter Try.func3, Try.ntmps3
  go_wp2_with fail
  refine (few_c r0 (Nat.le_refl _) 120).mono ?_
  rintro e w1 ⟨rfl, hb1⟩
  replace r0 := r0.now hb1
  replace raw := raw.now hb1
  replace ro := ro.now hb1
  replace g0 := bon g0 hb1
  clear hb1
  cases hfew : fewB L0 120 with
  | false =>
    have G0 := Lib.hid g0
    clear g0 r0 ro raw hfew
    go_wp2_with fail
    refine (awake8_c _).mono ?_
    rintro e w99 ⟨rfl, hb99⟩
    go_wp2_with fail
    go_ret
    exact ⟨rfl, bon G0.out hb99⟩
  | true =>
  have hn0 : n0 ≤ 120 := few_t HL0.out hfew
  clear hfew
  have HFW := Lib.hid (few_c ro (Nat.le_refl _) 120)
  go_wp2_with fail
  refine HFW.out.mono ?_
  rintro e w3 ⟨rfl, hb3⟩
  replace r0 := r0.now hb3
  replace raw := raw.now hb3
  replace ro := ro.now hb3
  replace g0 := bon g0 hb3
  clear hb3
  clear HFW
  cases hfew : fewB L1 120 with
  | false =>
    have G0 := Lib.hid g0
    clear g0 r0 ro raw hfew
    go_wp2_with fail
    refine (awake8_c _).mono ?_
    rintro e w99 ⟨rfl, hb99⟩
    go_wp2_with fail
    go_ret
    exact ⟨rfl, bon G0.out hb99⟩
  | true =>
  have hn1 : n1 ≤ 120 := few_t HL1.out hfew
  clear hfew
  by_cases hrl : 2000 < n2
  · have d1 : decide ((2000 : Int) < (n2 : Int)) = true := by simp; omega
    have d1' : decide (2000 < n2) = true := by simpa using hrl
    have G0 := Lib.hid g0
    clear g0 r0 ro raw hrl
    go_wp2_with fail
    refine (awake8_c _).mono ?_
    rintro e w99 ⟨rfl, hb99⟩
    go_wp2_with fail
    go_ret
    exact ⟨rfl, bon G0.out hb99⟩
  have d1 : decide ((2000 : Int) < (n2 : Int)) = false := by simp; omega
  have d1' : decide (2000 < n2) = false := by simpa using hrl
  have HSO := Lib.hid (sorted_c r0 (by omega) 120 (by decide))
  have hn2 : n2 ≤ 2000 := by omega
  clear hrl
  go_wp2_with fail
  refine HSO.out.mono ?_
  rintro e w4 ⟨A3, n3, c3, rfl, hf3, hb4⟩
  obtain ⟨O, hO⟩ : ∃ O, sortE 120 L0 = O := ⟨_, rfl⟩
  have HSB := Lib.hid (hO ▸ sort_tbl (mo := 120) (by decide) L0)
  have hol := (sortE_ok 120 L0).2.2
  rw [hO] at hf3 hol
  have HOL := Lib.hid hol
  obtain ⟨P, hP⟩ : ∃ P, sortE 120 L1 = P := ⟨_, rfl⟩
  have hpl := (sortE_ok 120 L1).2.2
  rw [hP] at hpl
  have HPL := Lib.hid hpl
  have HPP := Lib.hid hP
  have HN1 := Lib.hid (show n1 ≤ 200 by omega)
  have HO64 := Lib.hid (show ∀ n, O.length = n → n ≤ 120 by intro n h; omega)
  have hN0 := Lib.hid (show ∀ n, L0.length = n → n ≤ 120 by intro n h; have := HL0.out; omega)
  have tw : TwoAt (w4.alloc (.cells #[.slice A0 n0 c0, .slice A3 n3 c3] 22)) w4.heap.size A0 n0 c0 L0 A3 n3 c3 O :=
    ⟨by simp, heap_alloc_new w4 _, (r0.now hb4).now (below_alloc w4 _), (hf3.alloc _).rd (Nat.le_refl _)⟩
  have bb4 : Below w3.heap.size w3 (w4.alloc (.cells #[.slice A0 n0 c0, .slice A3 n3 c3] 22)) := blit hb4 _
  replace raw := raw.now bb4
  replace ro := ro.now bb4
  replace g0 := bon g0 bb4
  clear bb4
  obtain ⟨gt, hgt⟩ : ∃ gt, w4.heap.size = gt := ⟨_, rfl⟩
  rw [hgt] at tw
  clear hf3 hb4 HSO r0 hO hol hP hpl hn0 hn1 d1 d1'
  have RAW := Lib.hid raw
  have TW := Lib.hid tw
  have RO := Lib.hid ro
  have G0 := Lib.hid g0
  clear raw tw ro g0
  go_wp2_with fail
  go_loopw [41] (fun iv wr => ∃ k : Nat, iv = .int .i64 (k : Int) ∧ k ≤ 2 ∧ Rd wr wr.heap.size A2 n2 c2 (bv l2) ∧ TwoAt wr gt A0 n0 c0 L0 A3 n3 c3 O ∧ RdE wr wr.heap.size A1 n1 c1 L1 ∧ Below w.heap.size w wr) (fun iv _ => ((2 : Int) - intOf iv).toNat)
  case atStart => exact ⟨0, rfl, by omega, RAW.out, TW.out, RO.out, G0.out⟩
  case round =>
    clear RAW TW RO G0 hgt
    obtain ⟨k, rfl, hk2, raw, tw, ro, g0⟩ := hrel
    by_cases hlt : k < 2
    · obtain ⟨Ax, nx, cx, Lx, z0, rx, hLx⟩ := tw.at_ hlt
      have hlx := rx.len
      have hnx : nx ≤ 120 := by
        rcases hLx with rfl | rfl
        · exact hN0.out nx hlx
        · exact HO64.out nx hlx
      have hki : (k : Int) < 2 := by omega
      have hk0 : (0 : Int) ≤ (k : Int) := by omega
      have HBX := Lib.hid (fun a b h1 h2 => tbuild_t rx (Nat.le_refl _) (by omega) (L := Lx) (l := a) (e0 := b) h1 h2)
      have HLX := Lib.hid hlx
      cases hb : tblB Lx with
      | false =>
        have HBX2 := Lib.hid (HBX.out _ _ (blt_no hb).1 (blt_no hb).2)
        have HBN := Lib.hid hb
        clear HBX hb hLx
        go_wp2_with fail
        refine HBX2.out.mono ?_
        rintro e w11 ⟨A11, n11, c11, rfl, hf11, hb11⟩
        obtain rfl : n11 = 0 := by have := hf11.len; simpa using this.symm
        replace raw := raw.now hb11
        replace tw := tw.now hb11
        replace ro := ro.now hb11
        replace rx := rx.now hb11
        replace g0 := bon g0 hb11
        clear hf11 hb11 HBX2 z0
        by_cases hz : 0 < nx
        · have d1 : decide ((0 : Int) < (nx : Int)) = true := by simp; omega
          have d1' : decide (0 < nx) = true := by simpa using hz
          have hs := tsame_no HBN.out HSB.out (by rw [HLX.out]; exact hz)
          have h3n := tw.r2.len
          have HSE := Lib.hid (sameE_c rx tw.r2 (by omega) (by have := HOL.out; omega))
          rw [hs] at HSE
          have RAW := Lib.hid raw
          have TW := Lib.hid tw
          have RO := Lib.hid ro
          have G0 := Lib.hid g0
          clear rx raw tw ro g0 hs h3n
          go_wp2_with fail
          refine HSE.out.mono ?_
          intro e w13 hq
          obtain ⟨rfl, hb13⟩ := hq.below
          have raw := RAW.out.now hb13
          have tw := TW.out.now hb13
          have ro := RO.out.now hb13
          have g0 := bon G0.out hb13
          clear hb13 hq HSE RAW TW RO G0
          go_wp2_with fail
          go_roundw
          case rel => exact ⟨k + 1, by simp, by omega, raw, tw, ro, g0⟩
          case measure => simp [intOf]; omega
        · have d1 : decide ((0 : Int) < (nx : Int)) = false := by simp; omega
          have d1' : decide (0 < nx) = false := by simpa using hz
          go_wp2_with fail
          go_roundw
          case rel => exact ⟨k + 1, by simp, by omega, raw, tw, ro, g0⟩
          case measure => simp [intOf]; omega
      | true =>
        have HBX2 := Lib.hid (HBX.out _ _ (blt_yes hb).1 (blt_yes hb).2)
        have HBY := Lib.hid hb
        have HXL := Lib.hid (tabL_len hb)
        clear HBX hb hLx
        go_wp2_with fail
        refine HBX2.out.mono ?_
        rintro e w11 ⟨A11, n11, c11, rfl, hf11, hb11⟩
        have hn11 : n11 ≤ 12500000 := tret_len hf11 HXL.out
        have rb := hf11.rd (Nat.le_refl _)
        replace raw := raw.now hb11
        replace tw := tw.now hb11
        replace ro := ro.now hb11
        replace rx := rx.now hb11
        replace g0 := bon g0 hb11
        clear hf11 hb11 HBX2 z0
        have HPX := Lib.hid (tparse_t rb (Nat.le_refl _) (by omega) (prt_of HBY.out).1 (prt_of HBY.out).2)
        go_wp2_with fail
        refine HPX.out.mono ?_
        rintro e w12 ⟨A12, n12, c12, rfl, hf12, hb12⟩
        have h12 : n12 ≤ 120 := by have := hf12.len; have := HLX.out; omega
        have rm := hf12.rd (Nat.le_refl _)
        replace raw := raw.now hb12
        replace tw := tw.now hb12
        replace ro := ro.now hb12
        replace rx := rx.now hb12
        replace rb := rb.now hb12
        replace g0 := bon g0 hb12
        clear hf12 hb12 HPX
        have HSO := Lib.hid (sorted_c ro HN1.out 120 (by decide))
        go_wp2_with fail
        refine HSO.out.mono ?_
        rintro e w13 ⟨A13, n13, c13, rfl, hf13, hb13⟩
        rw [HPP.out] at hf13
        have h13 : n13 ≤ 120 := by have := hf13.len; have := HPL.out; omega
        have rp := hf13.rd (Nat.le_refl _)
        replace raw := raw.now hb13
        replace tw := tw.now hb13
        replace ro := ro.now hb13
        replace rx := rx.now hb13
        replace rb := rb.now hb13
        replace rm := rm.now hb13
        replace g0 := bon g0 hb13
        clear hf13 hb13 HSO
        have HBP := Lib.hid (tbuild_c rp (Nat.le_refl _) (by omega))
        go_wp2_with fail
        refine HBP.out.mono ?_
        rintro e w14 ⟨A14, n14, c14, rfl, hf14, hb14⟩
        have rc := hf14.rd (Nat.le_refl _)
        replace raw := raw.now hb14
        replace tw := tw.now hb14
        replace ro := ro.now hb14
        replace rx := rx.now hb14
        replace rb := rb.now hb14
        replace rm := rm.now hb14
        replace rp := rp.now hb14
        replace g0 := bon g0 hb14
        clear hf14 hb14 HBP
        have HSE := Lib.hid (sameE_c rm rx (by omega) (by omega))
        have hse : sameEs Lx Lx = true := sameEs_iff.2 rfl
        rw [hse] at HSE
        clear hse
        obtain ⟨E14, hE14⟩ : ∃ E14, bltE P = E14 := ⟨_, rfl⟩
        rw [hE14]
        have RX := Lib.hid rx
        have RB := Lib.hid rb
        have RC := Lib.hid rc
        have RP := Lib.hid rp
        have RAW := Lib.hid raw
        have TW := Lib.hid tw
        have RO := Lib.hid ro
        have G0 := Lib.hid g0
        clear rx rb rc rm rp raw tw ro g0
        go_wp2_with fail
        refine HSE.out.mono ?_
        intro e w15 hq
        obtain ⟨rfl, hb15⟩ := hq.below
        have rx := RX.out.now hb15
        have rb := RB.out.now hb15
        have rc := RC.out.now hb15
        have rp := RP.out.now hb15
        have raw := RAW.out.now hb15
        have tw := TW.out.now hb15
        have ro := RO.out.now hb15
        have g0 := bon G0.out hb15
        clear hb15 hq HSE RX RB RC RP RAW TW RO G0
        cases hbp : tblB P with
        | false =>
          have e80 : E14 = 80 := by rw [← hE14]; exact (blt_no hbp).2
          have d1 : (E14 == 0) = false := by rw [e80]; decide
          clear hE14 hbp e80 rx rb rc rp
          go_wp2_with fail
          go_roundw
          case rel => exact ⟨k + 1, by simp, by omega, raw, tw, ro, g0⟩
          case measure => simp [intOf]; omega
        | true =>
          obtain rfl : E14 = 0 := by rw [← hE14]; exact (blt_yes hbp).2
          rw [(blt_yes hbp).1] at rc
          have HS := Lib.hid (same_c rb rc)
          obtain ⟨bb, hbb⟩ : ∃ bb, sameEs Lx P = bb := ⟨_, rfl⟩
          have hsm := tsame_iff HBY.out hbp
          rw [hbb] at hsm
          rw [hsm] at HS
          have hne : (bb != bb) = false := by simp
          have HSE := Lib.hid (sameE_c rx rp (by omega) (by omega))
          rw [hbb] at HSE
          have RAW := Lib.hid raw
          have TW := Lib.hid tw
          have RO := Lib.hid ro
          have G0 := Lib.hid g0
          clear hE14 hbp hsm hbb rb rc rx rp raw tw ro g0
          go_wp2_with fail
          refine HS.out.mono ?_
          rintro e w16 ⟨rfl, rfl⟩
          go_wp2_with fail
          refine HSE.out.mono ?_
          intro e w18 hq
          obtain ⟨rfl, hb18⟩ := hq.below
          have raw := RAW.out.now hb18
          have tw := TW.out.now hb18
          have ro := RO.out.now hb18
          have g0 := bon G0.out hb18
          clear hb18 hq HSE RAW TW RO G0 HS
          go_wp2_with fail
          go_roundw
          case rel => exact ⟨k + 1, by simp, by omega, raw, tw, ro, g0⟩
          case measure => simp [intOf]; omega
    · have hki : ¬ (k : Int) < 2 := by omega
      obtain rfl : k = 2 := by omega
      obtain ⟨M, hM⟩ : ∃ M, prtL l2 = M := ⟨_, rfl⟩
      rcases prt_cases l2 with ⟨hE, hL, _⟩ | ⟨hE, htb, hpar, _⟩
      case inr =>
        rw [hM] at htb hpar
        have HP := Lib.hid (tparse_t raw (Nat.le_refl _) (by omega) hM hE)
        have HBLK := Lib.hid htb
        have HPAR := Lib.hid hpar
        have RAW := Lib.hid raw
        have G0 := Lib.hid g0
        clear hM hE htb hpar raw tw ro g0
        go_wp2_with fail
        refine HP.out.mono ?_
        rintro e w21 ⟨A21, n21, c21, rfl, hf21, hb21⟩
        have hr21 := hf21.rd (Nat.le_refl _)
        have h21 : n21 ≤ 8192 := by have := (tblB_iff.1 HBLK.out).2.1; have := hf21.len; omega
        have HBD := Lib.hid (tbuild_t hr21 (Nat.le_refl _) (by omega) (blt_yes HBLK.out).1 (blt_yes HBLK.out).2)
        have RAW2 := Lib.hid (RAW.out.now hb21)
        have G2 := Lib.hid (bon G0.out hb21)
        clear hf21 hb21 HP RAW G0
        go_wp2_with fail
        refine HBD.out.mono ?_
        rintro e w22 ⟨A22, n22, c22, rfl, hf22, hb22⟩
        have hr22 := hf22.rd (Nat.le_refl _)
        have RS := Lib.hid (rising_c (hr21.now hb22) (Nat.le_refl _) (by omega))
        have RAW3 := Lib.hid (RAW2.out.now hb22)
        have G3 := Lib.hid (bon G2.out hb22)
        have hris := (tblB_iff.1 HBLK.out).2.2.2
        rw [hris] at RS
        have HR22 := Lib.hid hr22
        clear hf22 hb22 HBD RAW2 G2 hr21 hr22 hris
        go_wp2_with fail
        refine RS.out.mono ?_
        rintro e w23 ⟨rfl, hb23⟩
        have HS := Lib.hid (same_t (HR22.out.now hb23) (RAW3.out.now hb23) HPAR.out)
        have G4 := Lib.hid (bon G3.out hb23)
        clear hb23 RS HR22 RAW3 G3
        go_wp2_with fail
        refine HS.out.mono ?_
        rintro e w24 ⟨rfl, rfl⟩
        go_wp2_with fail
        refine (awake8_c _).mono ?_
        rintro e w99 ⟨rfl, hb99⟩
        go_wp2_with fail
        go_ret
        exact ⟨rfl, bon G4.out hb99⟩
      case inl =>
        have HP := Lib.hid (tparse_t raw (Nat.le_refl _) (by omega) hL hE)
        have G0 := Lib.hid g0
        clear hM hE hL raw tw ro g0
        go_wp2_with fail
        refine HP.out.mono ?_
        rintro e w21 ⟨A21, n21, c21, rfl, hf21, hb21⟩
        obtain rfl : n21 = 0 := by have := hf21.len; simpa using this.symm
        have G2 := Lib.hid (bon G0.out hb21)
        clear hf21 hb21 HP G0
        go_wp2_with fail
        refine (awake8_c _).mono ?_
        rintro e w99 ⟨rfl, hb99⟩
        go_wp2_with fail
        go_ret
        exact ⟨rfl, bon G2.out hb99⟩

set_option maxRecDepth 100000 in
theorem lifted (os : Os) (started : os.Started) (H : Type) (enc : TypeId × Value → H) :
    ReturnsInHanded {} Try.checked os 3 .any (Rows.tableBackSpec.pre6 enc Try.prog Try.f3 Rows.tableBackRow.domain false) (Rows.tableBackSpec.post enc Try.prog Try.f3 false true false false) := by
  refine returnsInHanded_of_change (C := Try.checked) own started (by kernel_rfl) Try.func3
    (ChangeSpec.witness6 (enc := enc) (C := Try.checked) false ⟨#[], #[.slice none 0 0, .slice none 0 0, .slice none 0 0], []⟩ 8 (by kernel_rfl) (by kernel_rfl) (by kernel_rfl) (by kernel_rfl)) ?_
  intro W base args ds gs before hval0 hW hcnd _
  have hval : ∀ (j : Nat) t v, Try.f3.params[j]? = some t → args[j]? = some v → Value.okWide Try.prog W .any base t v := hval0
  have hW' := hW
  obtain ⟨p, q, hA0, hV, rfl, hfz, hnd⟩ := hW
  have hA : DataW.TrodAll enc Try.prog W 0 (fun _ => true) true Try.f3.params.toList args.toList ds p := hA0
  rw [Try.params3] at hA hval
  obtain ⟨v0, vs0, d0, ds0, p0, q0_, hargs, rfl, rfl, h0, r0_⟩ := trodAll_cons hA
  obtain ⟨v1, vs1, d1, ds1, p1, q1_, rfl, rfl, rfl, h1, r1_⟩ := trodAll_cons r0_
  obtain ⟨v2, vs2, d2, ds2, p2, q2_, rfl, rfl, rfl, h2, r2_⟩ := trodAll_cons r1_
  obtain ⟨rfl, rfl, rfl⟩ := trodAll_nil r2_
  obtain rfl : args = #[v0, v1, v2] := by cases args; simp_all
  obtain ⟨rfl, rfl⟩ := trodVars_none hV
  have kk0 := h0
  have lt0 : ∀ x ∈ p0, x.block < W.heap.size := by obtain ⟨m, hm⟩ := kk0; exact DataW.trod_lt m _ _ _ hm
  have kk1 := h1
  have lt1 : ∀ x ∈ p1, x.block < W.heap.size := by obtain ⟨m, hm⟩ := kk1; exact DataW.trod_lt m _ _ _ hm
  have kk2 := h2
  have lt2 : ∀ x ∈ p2, x.block < W.heap.size := by obtain ⟨m, hm⟩ := kk2; exact DataW.trod_lt m _ _ _ hm
  obtain ⟨A0, n0, c0, L0, e0, r0, o0⟩ := open_ents h0 (hval 0 _ v0 rfl rfl)
  subst e0
  obtain ⟨A1, n1, c1, L1, e1, r1, o1⟩ := open_ents h1 (hval 1 _ v1 rfl rfl)
  subst e1
  obtain ⟨A2, n2, c2, l2, e2, w2, r2⟩ := open_bytes h2 (hval 2 _ v2 rfl rfl)
  subst e2
  clear hA0 hval0
  refine (walk A0 n0 c0 L0 A1 n1 c1 L1 A2 n2 c2 l2 W r0 o0 r1 o1 w2 r2).mono fun e W' ⟨he, bel⟩ => ?_
  subst he
  exact ⟨_, rfl, _, _, _, [], _, [], hW', trodAll_mk1 (shut_bool Try.underlying4 _), (trodAll_cons_mk (Below.trod laidOut (by kernel_rfl) (of_decide_eq_true (by kernel_rfl)) kk0 bel lt0) (trodAll_cons_mk (Below.trod laidOut (by kernel_rfl) (of_decide_eq_true (by kernel_rfl)) kk1 bel lt1) (trodAll_cons_mk (Below.trod laidOut (by kernel_rfl) (of_decide_eq_true (by kernel_rfl)) kk2 bel lt2) trodAll_mk0))), rfl, bel.frame _, fun h => by cases h⟩

theorem over : Rows.tableBackRow.holds Try.pinned (OpenSpec.ofChange Rows.tableBackSpec) :=
  OpenClaim.holds_of_wide 3 Try.f3 rfl rfl rfl rfl rfl rfl rfl ⟨rfl, rfl, rfl, rfl, rfl⟩ rfl rfl rfl rfl rfl (by kernel_rfl) Try.func3 (by kernel_rfl)
    (of_decide_eq_true (by kernel_rfl)) (by unfold Func.isWrapper; first | (rw [if_pos (by decide +kernel)]; kernel_rfl) | (rw [if_neg (by decide +kernel)]; exact ⟨rfl, rfl⟩))
    (fun os started H enc _ => lifted os started H enc)

/-- The statement. -/
theorem proved : Rows.TableBackSaid := over
#print axioms proved
end Go.Proofs.Ytkdjjdkcogolmaa.tableBack
