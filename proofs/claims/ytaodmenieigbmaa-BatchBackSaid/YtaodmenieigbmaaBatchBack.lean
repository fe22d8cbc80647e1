/-
  BatchBack: what is put is parsed, and nothing but groups are put; what is parsed is right, and put as it stood; two have the same bytes just if they are the same: for every input.
-/
import Derived.Test.YtaodmenieigbmaaRows
import Derived.Test.YtaodmenieigbmaaBtA
import Derived.WalkKit
import Derived.ProofKit
import Derived.OpenShut
import Derived.ShutString
import Derived.ChangeOld
import Derived.Below
namespace Go.Proofs.Ytaodmenieigbmaa.batchBack
open Go.ChangeShapes Go.WideShapes Go.ChangeAt Go.RowKit
open Go.ChangeMaps (open_string shut_string)
set_option linter.unusedVariables false

theorem own : ownKnob Try.prog.godebug = none := by kernel_rfl
theorem laidOut : laidOutB Try.prog = true := by kernel_rfl

theorem bytes_yes {L : List Bop} (h : grpB L 128 = true) : bytesL L = groupL L ∧ bytesE L = 0 := by unfold bytesL bytesE; rw [if_pos h, if_pos h]; exact ⟨rfl, rfl⟩
theorem group_len {L : List Bop} (h : grpB L 128 = true) : (groupL L).length ≤ 50000 := by rw [← (bytes_yes h).1]; exact bytesL_len L
theorem group_same {L M : List Bop} (hL : grpB L 128 = true) (hM : grpB M 128 = true) : (groupL L == groupL M) = sameOs L M := by
  rw [Bool.eq_iff_iff, beq_iff_eq, sameOs_iff]
  exact ⟨fun h => groupL_inj hL hM h, fun h => by rw [h]⟩
theorem bytes_tt {w : World} {n c : Nat} {A : Option Addr} {L : List Bop} (h : RdO w w.heap.size A n c L) (hn : (n : Int) ≤ 70368744000000) (hg : grpB L 128 = true) : Calls Try.prog 12 #[.slice A n c] w (RetBE w (groupL L) 0) := bytes_t h hn (bytes_yes hg).1 (bytes_yes hg).2
theorem bytes_tf {w : World} {n c : Nat} {A : Option Addr} {L : List Bop} (h : RdO w w.heap.size A n c L) (hn : (n : Int) ≤ 70368744000000) (hg : grpB L 128 = false) : Calls Try.prog 12 #[.slice A n c] w (RetBE w [] 40) := bytes_t h hn (bytesL_no hg).1 (bytesL_no hg).2
theorem all_t {w : World} {n c : Nat} {A : Option Addr} {L : List Bop} (h : RdO w w.heap.size A n c L) (hn : (n : Int) ≤ 70368744000000) {b : Bool} (hb : L.all opB = b) : Calls Try.prog 23 #[.slice A n c] w (RetVl w (.bool b)) := by subst hb; exact all_c h (Nat.le_refl _) hn
theorem grp_len {L : List Bop} (h : grpB L 128 = true) : L.length ≤ 128 := (grpB_iff.1 h).2.1

set_option maxRecDepth 100000 in
set_option maxHeartbeats 8000000 in
theorem walk (A0 : Option Addr) (n0 c0 : Nat) (L0 : List Bop) (A1 : Option Addr) (n1 c1 : Nat) (L1 : List Bop) (A2 : Option Addr) (n2 c2 : Nat) (l2 : List UInt8) (w : World) (r0 : RdO w w.heap.size A0 n0 c0 L0) (r1 : RdO w w.heap.size A1 n1 c1 L1) (w2 : l2.length = n2) (r2 : Rd w w.heap.size A2 n2 c2 (bv l2)) :
    Calls Try.prog 4 #[.slice A0 n0 c0, .slice A1 n1 c1, .slice A2 n2 c2] w fun e w' => e = .returned (.bool true) ∧ Below w.heap.size w w' := by
  have hl0 := r0.len
  have hl1 := r1.len
  have HF0 := Lib.hid (few_c r0 (Nat.le_refl _) 140)
  have HF1 := Lib.hid (fun W (hW : Below w.heap.size w W) => few_c ((r1.below hW (Nat.le_refl _)).more hW.size) (Nat.le_refl _) 140)
  have HFN := Lib.hid (fun (h : fewB L0 140 = true) => show n0 ≤ 140 by unfold fewB at h; simp at h; omega)
  have HFN1 := Lib.hid (fun (h : fewB L1 140 = true) => show n1 ≤ 140 by unfold fewB at h; simp at h; omega)
  go_enter Try.func4, Try.ntmps4
  go_wp2_with fail
  refine HF0.out.mono ?_
  rintro e w2 ⟨rfl, hg⟩
  cases hf0 : fewB L0 140 with
  | false =>
    go_wp2_with fail
    refine (awake4_c _).mono ?_
    rintro e w99 ⟨rfl, hb99⟩
    go_wp2_with fail
    go_ret
    exact ⟨rfl, bon hg hb99⟩
  | true =>
    have hn0 := HFN.out hf0
    clear hf0 HF0 HFN
    go_wp2_with fail
    refine (HF1.out _ hg).mono ?_
    rintro e w3 ⟨rfl, hb3⟩
    replace hg := bon hg hb3
    clear hb3
    cases hf1 : fewB L1 140 with
    | false =>
      go_wp2_with fail
      refine (awake4_c _).mono ?_
      rintro e w99 ⟨rfl, hb99⟩
      go_wp2_with fail
      go_ret
      exact ⟨rfl, bon hg hb99⟩
    | true =>
      have hn1 := HFN1.out hf1
      clear hf1 HF1 HFN1
      by_cases h600 : 600 < n2
      · have d1 : decide ((600 : Int) < (n2 : Int)) = true := by simp; omega
        have d2 : decide (600 < n2) = true := by simpa using h600
        go_wp2_with fail
        refine (awake4_c _).mono ?_
        rintro e w99 ⟨rfl, hb99⟩
        go_wp2_with fail
        go_ret
        exact ⟨rfl, bon hg hb99⟩
      have d1 : decide ((600 : Int) < (n2 : Int)) = false := by simp; omega
      have d2 : decide (600 < n2) = false := by simpa using h600
      have hn0i : (n0 : Int) ≤ 140 := by omega
      have hn1i : (n1 : Int) ≤ 140 := by omega
      have hn2i : (n2 : Int) ≤ 600 := by omega
      clear h600
      go_wp2_with fail
      cases hgl : grpB L0 128 with
      | false =>
        have HB1 := Lib.hid (bytes_tf ((r0.below hg (Nat.le_refl _)).more hg.size) (by omega) hgl)
        go_wp2_with fail
        refine HB1.out.mono ?_
        rintro e w4 ⟨A4, n4, c4, rfl, hf4, hb4⟩
        obtain rfl : n4 = 0 := by have := hf4.len; simpa using this.symm
        replace hg := bon hg hb4
        clear hb4 hf4 HB1
        have HB2 := Lib.hid (bytes_c ((r1.below hg (Nat.le_refl _)).more hg.size) (Nat.le_refl _) (by omega))
        have hgrp : grpB L0 128 = (decide (1 ≤ n0) && decide (n0 ≤ 128) && L0.all opB) := by unfold grpB; rw [hl0]
        rw [hgl] at hgrp
        clear hgl
        go_wp2_with fail
        refine HB2.out.mono ?_
        rintro e w5 ⟨A5, n5, c5, rfl, hf5, hb5⟩
        replace hg := bon hg hb5
        clear hb5 hf5 HB2
        generalize bytesE L1 = be
        obtain hcase : L0.all opB = false ∨ (L0.all opB = true ∧ ¬ 0 < n0) ∨ (L0.all opB = true ∧ 0 < n0 ∧ ¬ n0 ≤ 128) := by
          cases hal : L0.all opB with
          | false => exact .inl rfl
          | true =>
            rw [hal] at hgrp
            by_cases h1 : 0 < n0
            · by_cases h2 : n0 ≤ 128
              · simp at hgrp; omega
              · exact .inr (.inr ⟨rfl, h1, h2⟩)
            · exact .inr (.inl ⟨rfl, h1⟩)
        clear hgrp
        rcases hcase with hal | ⟨hal, h1⟩ | ⟨hal, h1, h2⟩
        · have HA := Lib.hid (all_t ((r0.below hg (Nat.le_refl _)).more hg.size) (by omega) (b := false) hal)
          clear hal
          go_wp2_with fail
          refine HA.out.mono ?_
          rintro e v1 ⟨rfl, hb31⟩
          replace hg := bon hg hb31
          clear hb31 HA
          go_wp2_with fail
          cases hpr : parseG l2 with
          | none =>
            have HP := Lib.hid (parse_n (r2.now hg) (by omega) hpr)
            clear hpr
            go_wp2_with fail
            refine HP.out.mono ?_
            rintro e u1 ⟨A21, n21, c21, rfl, hf21, hb21⟩
            obtain rfl : n21 = 0 := by have := hf21.len; simpa using this.symm
            replace hg := bon hg hb21
            clear hf21 hb21
            go_wp2_with fail
            refine (awake4_c _).mono ?_
            rintro e w99 ⟨rfl, hb99⟩
            go_wp2_with fail
            go_ret
            exact ⟨rfl, bon hg hb99⟩
          | some M =>
            have hM := parseG_iff.1 hpr
            have HP := Lib.hid (parse_t (r2.now hg) (by omega) hpr)
            have HM1 := Lib.hid hM.1
            have HM2 := Lib.hid hM.2
            clear hpr hM
            go_wp2_with fail
            refine HP.out.mono ?_
            rintro e u1 ⟨A21, n21, c21, rfl, hf21, hb21⟩
            have hm := hf21.here
            replace hg := bon hg hb21
            have hn21 : (n21 : Int) ≤ 128 := by have := hf21.len; have := grp_len HM1.out; omega
            clear hf21 hb21 HP
            have HB := Lib.hid (bytes_tt hm (by omega) HM1.out)
            go_wp2_with fail
            refine HB.out.mono ?_
            rintro e u2 ⟨A22, n22, c22, rfl, hf22, hb22⟩
            have hd := hf22.here
            replace hm := hm.now hb22
            replace hg := bon hg hb22
            clear hf22 hb22 HB
            have HA := Lib.hid (all_t hm (by omega) (b := true) (List.all_eq_true.2 (grpB_iff.1 HM1.out).2.2))
            go_wp2_with fail
            refine HA.out.mono ?_
            rintro e u3 ⟨rfl, hb23⟩
            replace hd := hd.now hb23
            replace hg := bon hg hb23
            clear hb23 HA hm
            have HS := Lib.hid (same_t hd (r2.now hg) HM2.out.symm)
            clear hd
            go_wp2_with fail
            refine HS.out.mono ?_
            rintro e u4 ⟨rfl, rfl⟩
            go_wp2_with fail
            refine (awake4_c _).mono ?_
            rintro e w99 ⟨rfl, hb99⟩
            go_wp2_with fail
            go_ret
            exact ⟨rfl, bon hg hb99⟩
        · have d3 : decide ((0 : Int) < (n0 : Int)) = false := by simp; omega
          have d4 : decide (0 < n0) = false := by simpa using h1
          have HA := Lib.hid (all_t ((r0.below hg (Nat.le_refl _)).more hg.size) (by omega) (b := true) hal)
          clear hal
          go_wp2_with fail
          refine HA.out.mono ?_
          rintro e v1 ⟨rfl, hb31⟩
          replace hg := bon hg hb31
          clear hb31 HA
          go_wp2_with fail
          cases hpr : parseG l2 with
          | none =>
            have HP := Lib.hid (parse_n (r2.now hg) (by omega) hpr)
            clear hpr
            go_wp2_with fail
            refine HP.out.mono ?_
            rintro e u1 ⟨A21, n21, c21, rfl, hf21, hb21⟩
            obtain rfl : n21 = 0 := by have := hf21.len; simpa using this.symm
            replace hg := bon hg hb21
            clear hf21 hb21
            go_wp2_with fail
            refine (awake4_c _).mono ?_
            rintro e w99 ⟨rfl, hb99⟩
            go_wp2_with fail
            go_ret
            exact ⟨rfl, bon hg hb99⟩
          | some M =>
            have hM := parseG_iff.1 hpr
            have HP := Lib.hid (parse_t (r2.now hg) (by omega) hpr)
            have HM1 := Lib.hid hM.1
            have HM2 := Lib.hid hM.2
            clear hpr hM
            go_wp2_with fail
            refine HP.out.mono ?_
            rintro e u1 ⟨A21, n21, c21, rfl, hf21, hb21⟩
            have hm := hf21.here
            replace hg := bon hg hb21
            have hn21 : (n21 : Int) ≤ 128 := by have := hf21.len; have := grp_len HM1.out; omega
            clear hf21 hb21 HP
            have HB := Lib.hid (bytes_tt hm (by omega) HM1.out)
            go_wp2_with fail
            refine HB.out.mono ?_
            rintro e u2 ⟨A22, n22, c22, rfl, hf22, hb22⟩
            have hd := hf22.here
            replace hm := hm.now hb22
            replace hg := bon hg hb22
            clear hf22 hb22 HB
            have HA := Lib.hid (all_t hm (by omega) (b := true) (List.all_eq_true.2 (grpB_iff.1 HM1.out).2.2))
            go_wp2_with fail
            refine HA.out.mono ?_
            rintro e u3 ⟨rfl, hb23⟩
            replace hd := hd.now hb23
            replace hg := bon hg hb23
            clear hb23 HA hm
            have HS := Lib.hid (same_t hd (r2.now hg) HM2.out.symm)
            clear hd
            go_wp2_with fail
            refine HS.out.mono ?_
            rintro e u4 ⟨rfl, rfl⟩
            go_wp2_with fail
            refine (awake4_c _).mono ?_
            rintro e w99 ⟨rfl, hb99⟩
            go_wp2_with fail
            go_ret
            exact ⟨rfl, bon hg hb99⟩
        · have d3 : decide ((0 : Int) < (n0 : Int)) = true := by simp; omega
          have d4 : decide (0 < n0) = true := by simpa using h1
          have d5 : decide ((n0 : Int) ≤ 128) = false := by simp; omega
          have d6 : decide (n0 ≤ 128) = false := by simpa using h2
          have HA := Lib.hid (all_t ((r0.below hg (Nat.le_refl _)).more hg.size) (by omega) (b := true) hal)
          clear hal
          go_wp2_with fail
          refine HA.out.mono ?_
          rintro e v1 ⟨rfl, hb31⟩
          replace hg := bon hg hb31
          clear hb31 HA
          go_wp2_with fail
          cases hpr : parseG l2 with
          | none =>
            have HP := Lib.hid (parse_n (r2.now hg) (by omega) hpr)
            clear hpr
            go_wp2_with fail
            refine HP.out.mono ?_
            rintro e u1 ⟨A21, n21, c21, rfl, hf21, hb21⟩
            obtain rfl : n21 = 0 := by have := hf21.len; simpa using this.symm
            replace hg := bon hg hb21
            clear hf21 hb21
            go_wp2_with fail
            refine (awake4_c _).mono ?_
            rintro e w99 ⟨rfl, hb99⟩
            go_wp2_with fail
            go_ret
            exact ⟨rfl, bon hg hb99⟩
          | some M =>
            have hM := parseG_iff.1 hpr
            have HP := Lib.hid (parse_t (r2.now hg) (by omega) hpr)
            have HM1 := Lib.hid hM.1
            have HM2 := Lib.hid hM.2
            clear hpr hM
            go_wp2_with fail
            refine HP.out.mono ?_
            rintro e u1 ⟨A21, n21, c21, rfl, hf21, hb21⟩
            have hm := hf21.here
            replace hg := bon hg hb21
            have hn21 : (n21 : Int) ≤ 128 := by have := hf21.len; have := grp_len HM1.out; omega
            clear hf21 hb21 HP
            have HB := Lib.hid (bytes_tt hm (by omega) HM1.out)
            go_wp2_with fail
            refine HB.out.mono ?_
            rintro e u2 ⟨A22, n22, c22, rfl, hf22, hb22⟩
            have hd := hf22.here
            replace hm := hm.now hb22
            replace hg := bon hg hb22
            clear hf22 hb22 HB
            have HA := Lib.hid (all_t hm (by omega) (b := true) (List.all_eq_true.2 (grpB_iff.1 HM1.out).2.2))
            go_wp2_with fail
            refine HA.out.mono ?_
            rintro e u3 ⟨rfl, hb23⟩
            replace hd := hd.now hb23
            replace hg := bon hg hb23
            clear hb23 HA hm
            have HS := Lib.hid (same_t hd (r2.now hg) HM2.out.symm)
            clear hd
            go_wp2_with fail
            refine HS.out.mono ?_
            rintro e u4 ⟨rfl, rfl⟩
            go_wp2_with fail
            refine (awake4_c _).mono ?_
            rintro e w99 ⟨rfl, hb99⟩
            go_wp2_with fail
            go_ret
            exact ⟨rfl, bon hg hb99⟩
      | true =>
        have HB1 := Lib.hid (bytes_tt ((r0.below hg (Nat.le_refl _)).more hg.size) (by omega) hgl)
        go_wp2_with fail
        refine HB1.out.mono ?_
        rintro e w4 ⟨A4, n4, c4, rfl, hf4, hb4⟩
        have hb := hf4.here
        replace hg := bon hg hb4
        clear hb4 hf4 HB1
        cases hgo : grpB L1 128 with
        | false =>
          have HB2 := Lib.hid (bytes_tf ((r1.below hg (Nat.le_refl _)).more hg.size) (by omega) hgo)
          clear hgo
          go_wp2_with fail
          refine HB2.out.mono ?_
          rintro e w5 ⟨A5, n5, c5, rfl, hf5, hb5⟩
          have hc := hf5.here
          replace hb := hb.now hb5
          replace hg := bon hg hb5
          clear hb5 hf5 HB2
          obtain ⟨hy1, hy2, hal⟩ := grpB_iff.1 hgl
          have h1 : 0 < n0 := by omega
          have h2 : n0 ≤ 128 := by omega
          have d3 : decide ((0 : Int) < (n0 : Int)) = true := by simp; omega
          have d4 : decide (0 < n0) = true := by simpa using h1
          have d5 : decide ((n0 : Int) ≤ 128) = true := by simp; omega
          have d6 : decide (n0 ≤ 128) = true := by simpa using h2
          have HA := Lib.hid (all_t ((r0.below hg (Nat.le_refl _)).more hg.size) (by omega) (b := true) (List.all_eq_true.2 hal))
          have HGL := Lib.hid hgl
          have hbn : (n4 : Int) ≤ 50000 := by have := hb.len; have := group_len hgl; simp at *; omega
          clear hal hy1 hy2 h1 h2 hgl
          go_wp2_with fail
          refine HA.out.mono ?_
          rintro e v1 ⟨rfl, hb31⟩
          replace hb := hb.now hb31
          replace hc := hc.now hb31
          replace hg := bon hg hb31
          clear hb31 HA
          have HP := Lib.hid (parse_t hb (by omega) (parseG_iff.2 ⟨HGL.out, rfl⟩))
          go_wp2_with fail
          refine HP.out.mono ?_
          rintro e v2 ⟨A32, n32, c32, rfl, hf32, hb32⟩
          have hm := hf32.here
          replace hb := hb.now hb32
          replace hc := hc.now hb32
          replace hg := bon hg hb32
          clear hb32 hf32 HP
          have HS := Lib.hid (sameO_c hm (r0.below hg (Nat.le_refl _)) (by have := hm.len; have := grp_len HGL.out; omega) (by omega))
          rw [show sameOs L0 L0 = true from sameOs_iff.2 rfl] at HS
          clear hm
          go_wp2_with fail
          refine HS.out.mono ?_
          intro e v3 hq
          obtain ⟨rfl, hb33⟩ := hq.below
          replace hb := hb.now hb33
          replace hc := hc.now hb33
          replace hg := bon hg hb33
          clear hq hb33 HS
          go_wp2_with fail
          clear hb hc
          cases hpr : parseG l2 with
          | none =>
            have HP := Lib.hid (parse_n (r2.now hg) (by omega) hpr)
            clear hpr
            go_wp2_with fail
            refine HP.out.mono ?_
            rintro e u1 ⟨A21, n21, c21, rfl, hf21, hb21⟩
            obtain rfl : n21 = 0 := by have := hf21.len; simpa using this.symm
            replace hg := bon hg hb21
            clear hf21 hb21
            go_wp2_with fail
            refine (awake4_c _).mono ?_
            rintro e w99 ⟨rfl, hb99⟩
            go_wp2_with fail
            go_ret
            exact ⟨rfl, bon hg hb99⟩
          | some M =>
            have hM := parseG_iff.1 hpr
            have HP := Lib.hid (parse_t (r2.now hg) (by omega) hpr)
            have HM1 := Lib.hid hM.1
            have HM2 := Lib.hid hM.2
            clear hpr hM
            go_wp2_with fail
            refine HP.out.mono ?_
            rintro e u1 ⟨A21, n21, c21, rfl, hf21, hb21⟩
            have hm := hf21.here
            replace hg := bon hg hb21
            have hn21 : (n21 : Int) ≤ 128 := by have := hf21.len; have := grp_len HM1.out; omega
            clear hf21 hb21 HP
            have HB := Lib.hid (bytes_tt hm (by omega) HM1.out)
            go_wp2_with fail
            refine HB.out.mono ?_
            rintro e u2 ⟨A22, n22, c22, rfl, hf22, hb22⟩
            have hd := hf22.here
            replace hm := hm.now hb22
            replace hg := bon hg hb22
            clear hf22 hb22 HB
            have HA := Lib.hid (all_t hm (by omega) (b := true) (List.all_eq_true.2 (grpB_iff.1 HM1.out).2.2))
            go_wp2_with fail
            refine HA.out.mono ?_
            rintro e u3 ⟨rfl, hb23⟩
            replace hd := hd.now hb23
            replace hg := bon hg hb23
            clear hb23 HA hm
            have HS := Lib.hid (same_t hd (r2.now hg) HM2.out.symm)
            clear hd
            go_wp2_with fail
            refine HS.out.mono ?_
            rintro e u4 ⟨rfl, rfl⟩
            go_wp2_with fail
            refine (awake4_c _).mono ?_
            rintro e w99 ⟨rfl, hb99⟩
            go_wp2_with fail
            go_ret
            exact ⟨rfl, bon hg hb99⟩
        | true =>
          have HB2 := Lib.hid (bytes_tt ((r1.below hg (Nat.le_refl _)).more hg.size) (by omega) hgo)
          go_wp2_with fail
          refine HB2.out.mono ?_
          rintro e w5 ⟨A5, n5, c5, rfl, hf5, hb5⟩
          have hc := hf5.here
          replace hb := hb.now hb5
          replace hg := bon hg hb5
          clear hb5 hf5 HB2
          obtain ⟨hy1, hy2, hal⟩ := grpB_iff.1 hgl
          have h1 : 0 < n0 := by omega
          have h2 : n0 ≤ 128 := by omega
          have d3 : decide ((0 : Int) < (n0 : Int)) = true := by simp; omega
          have d4 : decide (0 < n0) = true := by simpa using h1
          have d5 : decide ((n0 : Int) ≤ 128) = true := by simp; omega
          have d6 : decide (n0 ≤ 128) = true := by simpa using h2
          have HA := Lib.hid (all_t ((r0.below hg (Nat.le_refl _)).more hg.size) (by omega) (b := true) (List.all_eq_true.2 hal))
          have HGL := Lib.hid hgl
          have hbn : (n4 : Int) ≤ 50000 := by have := hb.len; have := group_len hgl; simp at *; omega
          clear hal hy1 hy2 h1 h2 hgl
          go_wp2_with fail
          refine HA.out.mono ?_
          rintro e v1 ⟨rfl, hb31⟩
          replace hb := hb.now hb31
          replace hc := hc.now hb31
          replace hg := bon hg hb31
          clear hb31 HA
          have HP := Lib.hid (parse_t hb (by omega) (parseG_iff.2 ⟨HGL.out, rfl⟩))
          go_wp2_with fail
          refine HP.out.mono ?_
          rintro e v2 ⟨A32, n32, c32, rfl, hf32, hb32⟩
          have hm := hf32.here
          replace hb := hb.now hb32
          replace hc := hc.now hb32
          replace hg := bon hg hb32
          clear hb32 hf32 HP
          have HS := Lib.hid (sameO_c hm (r0.below hg (Nat.le_refl _)) (by have := hm.len; have := grp_len HGL.out; omega) (by omega))
          rw [show sameOs L0 L0 = true from sameOs_iff.2 rfl] at HS
          clear hm
          go_wp2_with fail
          refine HS.out.mono ?_
          intro e v3 hq
          obtain ⟨rfl, hb33⟩ := hq.below
          replace hb := hb.now hb33
          replace hc := hc.now hb33
          replace hg := bon hg hb33
          clear hq hb33 HS
          have HSB := Lib.hid (same_c hb hc)
          rw [group_same HGL.out hgo] at HSB
          have HSO := Lib.hid (fun (W : World) (hW : Below w.heap.size w W) => sameO_c (r0.below hW (Nat.le_refl _)) (r1.below hW (Nat.le_refl _)) (by omega) (by omega))
          clear hgo hb hc
          generalize sameOs L0 L1 = so at HSB HSO
          go_wp2_with fail
          refine HSB.out.mono ?_
          rintro e v4 ⟨rfl, rfl⟩
          cases so
          all_goals
            go_wp2_with fail
            refine (HSO.out _ hg).mono ?_
            intro e v5 hq
            obtain ⟨rfl, hb35⟩ := hq.below
            replace hg := bon hg hb35
            clear hq hb35
            go_wp2_with fail
            cases hpr : parseG l2 with
            | none =>
              have HP := Lib.hid (parse_n (r2.now hg) (by omega) hpr)
              clear hpr
              go_wp2_with fail
              refine HP.out.mono ?_
              rintro e u1 ⟨A21, n21, c21, rfl, hf21, hb21⟩
              obtain rfl : n21 = 0 := by have := hf21.len; simpa using this.symm
              replace hg := bon hg hb21
              clear hf21 hb21
              go_wp2_with fail
              refine (awake4_c _).mono ?_
              rintro e w99 ⟨rfl, hb99⟩
              go_wp2_with fail
              go_ret
              exact ⟨rfl, bon hg hb99⟩
            | some M =>
              have hM := parseG_iff.1 hpr
              have HP := Lib.hid (parse_t (r2.now hg) (by omega) hpr)
              have HM1 := Lib.hid hM.1
              have HM2 := Lib.hid hM.2
              clear hpr hM
              go_wp2_with fail
              refine HP.out.mono ?_
              rintro e u1 ⟨A21, n21, c21, rfl, hf21, hb21⟩
              have hm := hf21.here
              replace hg := bon hg hb21
              have hn21 : (n21 : Int) ≤ 128 := by have := hf21.len; have := grp_len HM1.out; omega
              clear hf21 hb21 HP
              have HB := Lib.hid (bytes_tt hm (by omega) HM1.out)
              go_wp2_with fail
              refine HB.out.mono ?_
              rintro e u2 ⟨A22, n22, c22, rfl, hf22, hb22⟩
              have hd := hf22.here
              replace hm := hm.now hb22
              replace hg := bon hg hb22
              clear hf22 hb22 HB
              have HA := Lib.hid (all_t hm (by omega) (b := true) (List.all_eq_true.2 (grpB_iff.1 HM1.out).2.2))
              go_wp2_with fail
              refine HA.out.mono ?_
              rintro e u3 ⟨rfl, hb23⟩
              replace hd := hd.now hb23
              replace hg := bon hg hb23
              clear hb23 HA hm
              have HS := Lib.hid (same_t hd (r2.now hg) HM2.out.symm)
              clear hd
              go_wp2_with fail
              refine HS.out.mono ?_
              rintro e u4 ⟨rfl, rfl⟩
              go_wp2_with fail
              refine (awake4_c _).mono ?_
              rintro e w99 ⟨rfl, hb99⟩
              go_wp2_with fail
              go_ret
              exact ⟨rfl, bon hg hb99⟩

set_option maxRecDepth 100000 in
theorem lifted (os : Os) (started : os.Started) (H : Type) (enc : TypeId × Value → H) :
    ReturnsInHanded {} Try.checked os 4 .any (Rows.batchBackSpec.pre6 enc Try.prog Try.f4 Rows.batchBackRow.domain false) (Rows.batchBackSpec.post enc Try.prog Try.f4 false true false false) := by
  refine returnsInHanded_of_change (C := Try.checked) own started (by kernel_rfl) Try.func4
    (ChangeSpec.witness6 (enc := enc) (C := Try.checked) false ⟨#[], #[.slice none 0 0, .slice none 0 0, .slice none 0 0], []⟩ 8 (by kernel_rfl) (by kernel_rfl) (by kernel_rfl) (by kernel_rfl)) ?_
  intro W base args ds gs before hval0 hW hcnd _
  have hval : ∀ (j : Nat) t v, Try.f4.params[j]? = some t → args[j]? = some v → Value.okWide Try.prog W .any base t v := hval0
  have hW' := hW
  obtain ⟨p, q, hA0, hV, rfl, hfz, hnd⟩ := hW
  have hA : DataW.TrodAll enc Try.prog W 0 (fun _ => true) true Try.f4.params.toList args.toList ds p := hA0
  rw [Try.params4] at hA hval
  obtain ⟨v0, vs0, d0, ds0, p0, q0_, hargs, rfl, rfl, h0, r0_⟩ := trodAll_cons hA
  obtain ⟨v1, vs1, d1, ds1, p1, q1_, rfl, rfl, rfl, h1, r1_⟩ := trodAll_cons r0_
  obtain ⟨v2, vs2, d2, ds2, p2, q2_, rfl, rfl, rfl, h2, r2_⟩ := trodAll_cons r1_
  obtain ⟨rfl, rfl, rfl⟩ := trodAll_nil r2_
  obtain rfl : args = #[v0, v1, v2] := by cases args; simp_all
  obtain ⟨rfl, rfl⟩ := trodVars_none hV
  have kk0 := h0
  have lt0 : ∀ x ∈ p0, x.block < W.heap.size := by obtain ⟨m, hm⟩ := kk0; exact DataW.trod_lt m _ _ _ hm
  have kk1 := h1
  have lt1 : ∀ x ∈ p1, x.block < W.heap.size := by obtain ⟨m, hm⟩ := kk1; exact DataW.trod_lt m _ _ _ hm
  have kk2 := h2
  have lt2 : ∀ x ∈ p2, x.block < W.heap.size := by obtain ⟨m, hm⟩ := kk2; exact DataW.trod_lt m _ _ _ hm
  obtain ⟨A0, n0, c0, L0, e0, r0, o0⟩ := open_ops h0 (hval 0 _ v0 rfl rfl)
  subst e0
  obtain ⟨A1, n1, c1, L1, e1, r1, o1⟩ := open_ops h1 (hval 1 _ v1 rfl rfl)
  subst e1
  obtain ⟨A2, n2, c2, l2, e2, w2, r2⟩ := open_bytes h2 (hval 2 _ v2 rfl rfl)
  subst e2
  clear hA0 hval0
  refine (walk A0 n0 c0 L0 A1 n1 c1 L1 A2 n2 c2 l2 W r0 r1 w2 r2).mono fun e W' ⟨he, bel⟩ => ?_
  subst he
  exact ⟨_, rfl, _, _, _, [], _, [], hW', trodAll_mk1 (shut_bool Try.underlying4 _), (trodAll_cons_mk (Below.trod laidOut (by kernel_rfl) (of_decide_eq_true (by kernel_rfl)) kk0 bel lt0) (trodAll_cons_mk (Below.trod laidOut (by kernel_rfl) (of_decide_eq_true (by kernel_rfl)) kk1 bel lt1) (trodAll_cons_mk (Below.trod laidOut (by kernel_rfl) (of_decide_eq_true (by kernel_rfl)) kk2 bel lt2) trodAll_mk0))), rfl, bel.frame _, fun h => by cases h⟩

theorem over : Rows.batchBackRow.holds Try.pinned (OpenSpec.ofChange Rows.batchBackSpec) :=
  OpenClaim.holds_of_wide 4 Try.f4 rfl rfl rfl rfl rfl rfl rfl ⟨rfl, rfl, rfl, rfl, rfl⟩ rfl rfl rfl rfl rfl (by kernel_rfl) Try.func4 (by kernel_rfl)
    (of_decide_eq_true (by kernel_rfl)) (by unfold Func.isWrapper; first | (rw [if_pos (by decide +kernel)]; kernel_rfl) | (rw [if_neg (by decide +kernel)]; exact ⟨rfl, rfl⟩))
    (fun os started H enc _ => lifted os started H enc)

/-- The statement. -/
theorem proved : Rows.BatchBackSaid := over
#print axioms proved
end Go.Proofs.Ytaodmenieigbmaa.batchBack
