/-
  BatchTells: which operations and batches are right, what groups are as bytes, what bytes say, and the entries, is exactly as the document defines: for every input.
-/
import Derived.Test.YtaodmenieigbmaaRows
import Derived.Test.YtaodmenieigbmaaBtA
import Derived.WalkKit
import Derived.ProofKit
import Derived.OpenShut
import Derived.ShutString
import Derived.ChangeOld
import Derived.Below
import Derived.Deep.RegionHeld3
namespace Go.Proofs.Ytaodmenieigbmaa.batchTells
open Go.ChangeShapes Go.WideShapes Go.ChangeAt Go.RowKit
open Go.ChangeMaps (open_string shut_string)
set_option linter.unusedVariables false

theorem own : ownKnob Try.prog.godebug = none := by kernel_rfl
theorem laidOut : laidOutB Try.prog = true := by kernel_rfl

theorem parseL_len (l : List UInt8) : (parseL l).length ≤ 128 := by
  unfold parseL
  cases h : parseG l with
  | none => simp
  | some L =>
    have := grpB_iff.1 (parseG_iff.1 h).1
    simp; omega

set_option maxRecDepth 100000 in
set_option maxHeartbeats 8000000 in
theorem walk (A0 : Option Addr) (n0 c0 : Nat) (L0 : List Bop) (A1 : Option Addr) (n1 c1 : Nat) (l1 : List UInt8) (a2 : Nat) (w : World) (r0 : RdO w w.heap.size A0 n0 c0 L0) (w1 : l1.length = n1) (r1 : Rd w w.heap.size A1 n1 c1 (bv l1)) (w2 : (a2 : Int) ≤ 18446744073709551615) :
    Calls Try.prog 3 #[.slice A0 n0 c0, .slice A1 n1 c1, .int .u64 (a2 : Int)] w fun e w' => e = .returned (.bool true) ∧ Below w.heap.size w w' := by
  have hl0 := r0.len
  have HF0 := Lib.hid (few_c r0 (Nat.le_refl _) 140)
  have HFN := Lib.hid (fun (h : fewB L0 140 = true) => show n0 ≤ 140 by unfold fewB at h; simp at h; omega)
  go_enter Try.func3, Try.ntmps3
  go_wp2_with fail
  refine HF0.out.mono ?_
  rintro e w2 ⟨rfl, hg⟩
  cases hf0 : fewB L0 140 with
  | false =>
    go_wp2_with fail
    refine (awake4_c _).mono ?_
    rintro e w99 ⟨rfl, hb99⟩
    go_wp2_with fail
    go_ret
    exact ⟨rfl, bon hg hb99⟩
  | true =>
    have hn0 := HFN.out hf0
    clear hf0 HF0 HFN
    by_cases h600 : 600 < n1
    · have d1 : decide ((600 : Int) < (n1 : Int)) = true := by simp; omega
      have d2 : decide (600 < n1) = true := by simpa using h600
      go_wp2_with fail
      refine (awake4_c _).mono ?_
      rintro e w99 ⟨rfl, hb99⟩
      go_wp2_with fail
      go_ret
      exact ⟨rfl, bon hg hb99⟩
    have d1 : decide ((600 : Int) < (n1 : Int)) = false := by simp; omega
    have d2 : decide (600 < n1) = false := by simpa using h600
    have hn0i : (n0 : Int) ≤ 140 := by omega
    have hn1i : (n1 : Int) ≤ 600 := by omega
    go_wp2_with fail
    go_loopw [28] (fun iv wr => ∃ k : Nat, iv = .int .i64 (k : Int) ∧ k ≤ n0 ∧ Below w.heap.size w wr) (fun iv _ => ((n0 : Int) - intOf iv).toNat)
    case atStart => exact ⟨0, rfl, Nat.zero_le _, hg⟩
    case round =>
      clear hg
      obtain ⟨k, rfl, hkn, hbr⟩ := hrel
      by_cases hlt : k < n0
      · obtain ⟨b, off, hA, hbB, hcell⟩ := r0.form (by omega)
        subst hA
        obtain ⟨x, hx⟩ : ∃ x, L0[k]? = some x := ⟨L0[k]'(by omega), List.getElem?_eq_getElem _⟩
        have hk (i : Nat) : wr.cell? ⟨b, i, none⟩ = w.cell? ⟨b, i, none⟩ := hbr.cell (by simp; omega)
        obtain ⟨x0, x1, x2⟩ := hcell k x hx
        rw [← hk] at x0 x1 x2
        have hki : (k : Int) < (n0 : Int) := by omega
        have hk0 : (0 : Int) ≤ (k : Int) := by omega
        have HO := Lib.hid (fun W => op_c W x)
        have HRO := Lib.hid (fun W => refOp_c W x)
        unfold ov at HO HRO
        generalize opB x = ob at HO HRO
        have iB := (OpAt.new wr x).drew
        have HSK := Lib.hid (show ∀ W, Below (wr.alloc (.cells #[.int .u8 (x.k : Int), .string x.s, .string x.v] 28)).drew.heap.size (wr.alloc (.cells #[.int .u8 (x.k : Int), .string x.s, .string x.v] 28)).drew W → (Below (wr.alloc (.cells #[.int .u8 (x.k : Int), .string x.s, .string x.v] 28)).drew.heap.size (wr.alloc (.cells #[.int .u8 (x.k : Int), .string x.s, .string x.v] 28)).drew W ∧ W.cell? ⟨wr.heap.size, 0, none⟩ = some (.int .u8 (x.k : Int)) ∧ W.cell? ⟨wr.heap.size, 1, none⟩ = some (.string x.s) ∧ W.cell? ⟨wr.heap.size, 2, none⟩ = some (.string x.v)) from fun W hW => ⟨hW, (iB.below hW (Nat.le_refl _)).cells⟩)
        have HBR := Lib.hid (Below.drew (blit hbr (.cells #[.int .u8 (x.k : Int), .string x.s, .string x.v] 28)))
        clear hcell hk hx r0 r1 hl0 hbr iB
        go_wp2_with fail
        generalize hwz : wr.alloc (.cells #[.int .u8 (x.k : Int), .string x.s, .string x.v] 28) = wz at *
        generalize hgz : wr.heap.size = gz at *
        clear hwz hgz x0 x1 x2
        have hst := Below.refl wz.drew.heap.size wz.drew
        cases ob
        all_goals
          go_region_held3 (fun w' => Below wz.drew.heap.size wz.drew w' ∧ w'.cell? ⟨gz, 0, none⟩ = some (.int .u8 (x.k : Int)) ∧ w'.cell? ⟨gz, 1, none⟩ = some (.string x.s) ∧ w'.cell? ⟨gz, 2, none⟩ = some (.string x.v))
            ((first | assumption | exact HSK.out _ (by assumption) | exact HSK.out _ (bon (And.left (by assumption)) (by assumption))))
            (first | (go_at_call 10; refine (HO.out _).mono ?_; rintro e u1 ⟨rfl, hbu1⟩) | (go_at_call 11; refine (HRO.out _).mono ?_; rintro e u2 ⟨rfl, hbu2⟩))
          all_goals
            have hbz := And.left (by assumption : Below wz.drew.heap.size wz.drew _ ∧ _)
            have hbq := bon HBR.out hbz
            go_wp2_with fail
            go_roundw
            case rel => exact ⟨k + 1, by simp, by omega, hbq⟩
            case measure => simp [intOf]; omega
      · have hki : ¬ (k : Int) < (n0 : Int) := by omega
        have hg := hbr
        have HPL := Lib.hid (show (parseL l1).length ≤ 128 from parseL_len l1)
        have HL0 := Lib.hid (show L0.length ≤ 140 by omega)
        have HB1 := Lib.hid (fun (W : World) (hW : Below w.heap.size w W) => bytes_c ((r0.below hW (Nat.le_refl _)).more hW.size) (Nat.le_refl _) (by omega))
        have HB2 := Lib.hid (fun (W : World) (hW : Below w.heap.size w W) => refBytes_c ((r0.below hW (Nat.le_refl _)).more hW.size) (Nat.le_refl _) (by omega))
        have HP1 := Lib.hid (fun (W : World) (hW : Below w.heap.size w W) => parse_c (r1.now hW) (Nat.le_refl _) (by omega))
        have HP2 := Lib.hid (fun (W : World) (hW : Below w.heap.size w W) => refParse_c (r1.now hW) (Nat.le_refl _) (by omega))
        have HR1 := Lib.hid (fun (W : World) (hW : Below w.heap.size w W) => Right_c ((r0.below hW (Nat.le_refl _)).more hW.size) (Nat.le_refl _) (by omega))
        have HR2 := Lib.hid (fun (W : World) (hW : Below w.heap.size w W) => refRight_c ((r0.below hW (Nat.le_refl _)).more hW.size) (Nat.le_refl _) (by omega))
        have HE1 := Lib.hid (fun (W : World) (hW : Below w.heap.size w W) => entries_c ((r0.below hW (Nat.le_refl _)).more hW.size) (Nat.le_refl _) (by omega) a2)
        have HE2 := Lib.hid (fun (W : World) (hW : Below w.heap.size w W) => refEntries_c ((r0.below hW (Nat.le_refl _)).more hW.size) (Nat.le_refl _) (by omega) a2)
        clear hbr r0 r1 hl0 hlt hkn h600 d1 d2
        go_wp2_with fail
        refine (HB1.out _ hg).mono ?_
        rintro e w4 ⟨A4, n4, c4, rfl, hf4, hb4⟩
        have hb := hf4.here
        replace hg := bon hg hb4
        clear hb4 hf4
        go_wp2_with fail
        refine (HB2.out _ hg).mono ?_
        rintro e w5 ⟨A5, n5, c5, rfl, hf5, hb5⟩
        have hc := hf5.here
        replace hb := hb.now hb5
        replace hg := bon hg hb5
        clear hb5 hf5
        go_wp2_with fail
        refine (HP1.out _ hg).mono ?_
        rintro e w6 ⟨A6, n6, c6, rfl, hf6, hb6⟩
        have hm := hf6.here
        replace hb := hb.now hb6
        replace hc := hc.now hb6
        replace hg := bon hg hb6
        clear hb6 hf6
        go_wp2_with fail
        refine (HP2.out _ hg).mono ?_
        rintro e w7 ⟨A7, n7, c7, rfl, hf7, hb7⟩
        have hn := hf7.here
        replace hb := hb.now hb7
        replace hc := hc.now hb7
        replace hm := hm.now hb7
        replace hg := bon hg hb7
        clear hb7 hf7
        go_wp2_with fail
        refine (HR1.out _ hg).mono ?_
        rintro e w8 ⟨rfl, hb8⟩
        replace hb := hb.now hb8
        replace hc := hc.now hb8
        replace hm := hm.now hb8
        replace hn := hn.now hb8
        replace hg := bon hg hb8
        clear hb8
        go_wp2_with fail
        refine (HR2.out _ hg).mono ?_
        rintro e w9 ⟨rfl, hb9⟩
        replace hb := hb.now hb9
        replace hc := hc.now hb9
        replace hm := hm.now hb9
        replace hn := hn.now hb9
        replace hg := bon hg hb9
        clear hb9
        generalize grpB L0 32 = gr
        generalize hbe : bytesE L0 = be
        generalize hpe : parseE l1 = pe
        clear hbe hpe
        have hnm := hm.len
        have hnn := hn.len
        have HS := Lib.hid (sameO_c hm hn (by have := HPL.out; omega) (by have := HPL.out; omega))
        rw [show sameOs (parseL l1) (parseL l1) = true from sameOs_iff.2 rfl] at HS
        have HSB := Lib.hid (same_t hb hc rfl)
        clear hnm hnn hb hc hm hn
        cases gr
        all_goals
          go_wp2_with fail
          refine HSB.out.mono ?_
          rintro e w10 ⟨rfl, rfl⟩
          go_wp2_with fail
          refine HS.out.mono ?_
          intro e w11 hq
          obtain ⟨rfl, hb11⟩ := hq.below
          replace hg := bon hg hb11
          clear hq hb11
          go_wp2_with fail
          refine (HE1.out _ hg).mono ?_
          rintro e w12 ⟨A12, n12, c12, rfl, hf12, hb12⟩
          have hx := hf12.here
          replace hg := bon hg hb12
          clear hb12 hf12
          go_wp2_with fail
          refine (HE2.out _ hg).mono ?_
          rintro e w13 ⟨A13, n13, c13, rfl, hf13, hb13⟩
          replace hx := hx.now hb13
          have hy := hf13.here
          replace hg := bon hg hb13
          clear hb13 hf13
          have hnx := hx.len
          have hny := hy.len
          rw [entsL_len] at hnx hny
          have HSE := Lib.hid (sameE_c hx hy (by have := HL0.out; omega) (by have := HL0.out; omega))
          rw [show sameEs (entsL L0 a2) (entsL L0 a2) = true from sameEs_iff.2 rfl] at HSE
          clear hnx hny hx hy
          go_wp2_with fail
          refine HSE.out.mono ?_
          intro e w14 hq
          obtain ⟨rfl, hb14⟩ := hq.below
          replace hg := bon hg hb14
          clear hq hb14
          go_wp2_with fail
          refine (awake4_c _).mono ?_
          rintro e w99 ⟨rfl, hb99⟩
          go_wp2_with fail
          go_ret
          exact ⟨rfl, bon hg hb99⟩

set_option maxRecDepth 100000 in
theorem lifted (os : Os) (started : os.Started) (H : Type) (enc : TypeId × Value → H) :
    ReturnsInHanded {} Try.checked os 3 .any (Rows.batchTellsSpec.pre6 enc Try.prog Try.f3 Rows.batchTellsRow.domain false) (Rows.batchTellsSpec.post enc Try.prog Try.f3 false true false false) := by
  refine returnsInHanded_of_change (C := Try.checked) own started (by kernel_rfl) Try.func3
    (ChangeSpec.witness6 (enc := enc) (C := Try.checked) false ⟨#[], #[.slice none 0 0, .slice none 0 0, .int .u64 0], []⟩ 8 (by kernel_rfl) (by kernel_rfl) (by kernel_rfl) (by kernel_rfl)) ?_
  intro W base args ds gs before hval0 hW hcnd _
  have hval : ∀ (j : Nat) t v, Try.f3.params[j]? = some t → args[j]? = some v → Value.okWide Try.prog W .any base t v := hval0
  have hW' := hW
  obtain ⟨p, q, hA0, hV, rfl, hfz, hnd⟩ := hW
  have hA : DataW.TrodAll enc Try.prog W 0 (fun _ => true) true Try.f3.params.toList args.toList ds p := hA0
  rw [Try.params3] at hA hval
  obtain ⟨v0, vs0, d0, ds0, p0, q0_, hargs, rfl, rfl, h0, r0_⟩ := trodAll_cons hA
  obtain ⟨v1, vs1, d1, ds1, p1, q1_, rfl, rfl, rfl, h1, r1_⟩ := trodAll_cons r0_
  obtain ⟨v2, vs2, d2, ds2, p2, q2_, rfl, rfl, rfl, h2, r2_⟩ := trodAll_cons r1_
  obtain ⟨rfl, rfl, rfl⟩ := trodAll_nil r2_
  obtain rfl : args = #[v0, v1, v2] := by cases args; simp_all
  obtain ⟨rfl, rfl⟩ := trodVars_none hV
  have kk0 := h0
  have lt0 : ∀ x ∈ p0, x.block < W.heap.size := by obtain ⟨m, hm⟩ := kk0; exact DataW.trod_lt m _ _ _ hm
  have kk1 := h1
  have lt1 : ∀ x ∈ p1, x.block < W.heap.size := by obtain ⟨m, hm⟩ := kk1; exact DataW.trod_lt m _ _ _ hm
  have kk2 := h2
  have lt2 : ∀ x ∈ p2, x.block < W.heap.size := by obtain ⟨m, hm⟩ := kk2; exact DataW.trod_lt m _ _ _ hm
  obtain ⟨A0, n0, c0, L0, e0, r0, o0⟩ := open_ops h0 (hval 0 _ v0 rfl rfl)
  subst e0
  obtain ⟨A1, n1, c1, l1, e1, w1, r1⟩ := open_bytes h1 (hval 1 _ v1 rfl rfl)
  subst e1
  obtain ⟨a2, e2, _, _, w2⟩ := open_int Try.underlying24 (hval 2 _ v2 rfl rfl) h2
  subst e2
  replace w2 := bounds_u64 w2
  obtain ⟨a2, rfl⟩ := Int.eq_ofNat_of_zero_le w2.1
  clear hA0 hval0
  refine (walk A0 n0 c0 L0 A1 n1 c1 l1 a2 W r0 w1 r1 w2.2).mono fun e W' ⟨he, bel⟩ => ?_
  subst he
  exact ⟨_, rfl, _, _, _, [], _, [], hW', trodAll_mk1 (shut_bool Try.underlying4 _), (trodAll_cons_mk (Below.trod laidOut (by kernel_rfl) (of_decide_eq_true (by kernel_rfl)) kk0 bel lt0) (trodAll_cons_mk (Below.trod laidOut (by kernel_rfl) (of_decide_eq_true (by kernel_rfl)) kk1 bel lt1) (trodAll_cons_mk (Below.trod laidOut (by kernel_rfl) (of_decide_eq_true (by kernel_rfl)) kk2 bel lt2) trodAll_mk0))), rfl, bel.frame _, fun h => by cases h⟩

theorem over : Rows.batchTellsRow.holds Try.pinned (OpenSpec.ofChange Rows.batchTellsSpec) :=
  OpenClaim.holds_of_wide 3 Try.f3 rfl rfl rfl rfl rfl rfl rfl ⟨rfl, rfl, rfl, rfl, rfl⟩ rfl rfl rfl rfl rfl (by kernel_rfl) Try.func3 (by kernel_rfl)
    (of_decide_eq_true (by kernel_rfl)) (by unfold Func.isWrapper; first | (rw [if_pos (by decide +kernel)]; kernel_rfl) | (rw [if_neg (by decide +kernel)]; exact ⟨rfl, rfl⟩))
    (fun os started H enc _ => lifted os started H enc)

/-- The statement. -/
theorem proved : Rows.BatchTellsSaid := over
#print axioms proved
end Go.Proofs.Ytaodmenieigbmaa.batchTells
