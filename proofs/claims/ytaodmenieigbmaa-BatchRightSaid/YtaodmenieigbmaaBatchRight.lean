/-
  BatchRight: a batch is right just if each of its ops is, by itself, and it has 1 to 32; each part of it that has some is right, too; put together with another one it is right just if there is room: for every input.
-/
import Derived.Test.YtaodmenieigbmaaRows
import Derived.Test.YtaodmenieigbmaaBtA
import Derived.WalkKit
import Derived.ProofKit
import Derived.OpenShut
import Derived.ShutString
import Derived.ChangeOld
import Derived.Below
namespace Go.Proofs.Ytaodmenieigbmaa.batchRight
open Go.ChangeShapes Go.WideShapes Go.ChangeAt Go.RowKit
open Go.ChangeMaps (open_string shut_string)
set_option linter.unusedVariables false

theorem own : ownKnob Try.prog.godebug = none := by kernel_rfl
theorem laidOut : laidOutB Try.prog = true := by kernel_rfl

theorem all_next {L : List Bop} {k : Nat} {x : Bop} (hx : L[k]? = some x) : (L.take (k + 1)).all opB = ((L.take k).all opB && opB x) := by
  rw [take_snoc_of hx, List.all_append]; simp
theorem grp_one (x : Bop) : grpB [x] 32 = opB x := by simp [grpB]
theorem grp_part {L : List Bop} {k : Nat} (h : grpB L 32 = true) (hk : k < L.length) : grpB (L.drop k) 32 = true := by
  obtain ⟨h1, h2, h3⟩ := grpB_iff.1 h
  exact grpB_iff.2 ⟨by simp; omega, by simp; omega, fun x hx => h3 x (List.mem_of_mem_drop hx)⟩
theorem grp_both {L M : List Bop} (h : grpB L 32 = true) (h' : grpB M 32 = true) : grpB (L ++ M) 32 = decide (L.length + M.length ≤ 32) := by
  obtain ⟨h1, h2, h3⟩ := grpB_iff.1 h
  obtain ⟨k1, k2, k3⟩ := grpB_iff.1 h'
  rw [Bool.eq_iff_iff, grpB_iff, decide_eq_true_iff]
  constructor
  · rintro ⟨_, a, _⟩; simpa using a
  · intro a
    refine ⟨by simp; omega, by simpa using a, fun x hx => ?_⟩
    rcases List.mem_append.1 hx with h | h
    · exact h3 x h
    · exact k3 x h
theorem grp_t {w : World} {n c : Nat} {A : Option Addr} {L : List Bop} (h : RdO w w.heap.size A n c L) (hn : (n : Int) ≤ 70368744000000) {b : Bool} (hb : grpB L 32 = b) : Calls Try.prog 16 #[.slice A n c] w (RetVl w (.bool b)) := by
  subst hb; exact Right_c h (Nat.le_refl _) hn

set_option maxRecDepth 100000 in
set_option maxHeartbeats 8000000 in
theorem walk (A0 : Option Addr) (n0 c0 : Nat) (L0 : List Bop) (A1 : Option Addr) (n1 c1 : Nat) (L1 : List Bop) (a2 : Nat) (w : World) (r0 : RdO w w.heap.size A0 n0 c0 L0) (r1 : RdO w w.heap.size A1 n1 c1 L1) (w2 : (a2 : Int) ≤ 255) :
    Calls Try.prog 7 #[.slice A0 n0 c0, .slice A1 n1 c1, .int .u8 (a2 : Int)] w fun e w' => e = .returned (.bool true) ∧ Below w.heap.size w w' := by
  have hl0 := r0.len
  have hl1 := r1.len
  have HF0 := Lib.hid (few_c r0 (Nat.le_refl _) 60)
  have HF1 := Lib.hid (fun W (hW : Below w.heap.size w W) => few_c ((r1.below hW (Nat.le_refl _)).more hW.size) (Nat.le_refl _) 60)
  have HFN := Lib.hid (fun (h : fewB L0 60 = true) => show n0 ≤ 60 by unfold fewB at h; simp at h; omega)
  have HFN1 := Lib.hid (fun (h : fewB L1 60 = true) => show n1 ≤ 60 by unfold fewB at h; simp at h; omega)
  go_enter Try.func7, Try.ntmps7
  go_wp2_with fail
  refine HF0.out.mono ?_
  rintro e w2 ⟨rfl, hb2⟩
  cases hf0 : fewB L0 60 with
  | false =>
    go_wp2_with fail
    refine (awake4_c _).mono ?_
    rintro e w99 ⟨rfl, hb99⟩
    go_wp2_with fail
    go_ret
    exact ⟨rfl, bon hb2 hb99⟩
  | true =>
    have hn0 := HFN.out hf0
    clear hf0 HF0 HFN
    go_wp2_with fail
    refine (HF1.out _ hb2).mono ?_
    rintro e w3 ⟨rfl, hb3⟩
    replace hb3 := bon hb2 hb3
    clear hb2
    cases hf1 : fewB L1 60 with
    | false =>
      go_wp2_with fail
      refine (awake4_c _).mono ?_
      rintro e w99 ⟨rfl, hb99⟩
      go_wp2_with fail
      go_ret
      exact ⟨rfl, bon hb3 hb99⟩
    | true =>
      have hn1 := HFN1.out hf1
      have hn0i : (n0 : Int) ≤ 60 := by omega
      have hn1i : (n1 : Int) ≤ 60 := by omega
      clear hf1 HF1 HFN1
      go_wp2_with fail
      go_loopw [7, 23] (fun ev iv wr => ∃ k : Nat, ev = .bool ((L0.take k).all opB) ∧ iv = .int .i64 (k : Int) ∧ k ≤ n0 ∧ Below w.heap.size w wr) (fun _ iv _ => ((n0 : Int) - intOf iv).toNat)
      case atStart => exact ⟨0, by simp, rfl, Nat.zero_le _, hb3⟩
      case round =>
        clear hb3
        obtain ⟨k, rfl, rfl, hkn, hbr⟩ := hrel
        by_cases hlt : k < n0
        · obtain ⟨b, off, hA, hbB, hcell⟩ := r0.form (by omega)
          subst hA
          obtain ⟨x, hx⟩ : ∃ x, L0[k]? = some x := ⟨L0[k]'(by omega), List.getElem?_eq_getElem _⟩
          have hk (i : Nat) : wr.cell? ⟨b, i, none⟩ = w.cell? ⟨b, i, none⟩ := hbr.cell (by simp; omega)
          obtain ⟨x0, x1, x2⟩ := hcell k x hx
          rw [← hk] at x0 x1 x2
          have hki : (k : Int) < (n0 : Int) := by omega
          have hk0 : (0 : Int) ≤ (k : Int) := by omega
          have HX := Lib.hid (all_next hx)
          have HBR := Lib.hid hbr
          have HG := Lib.hid (grp_t (FrO.one (wr.alloc (.cells #[.int .u8 (x.k : Int), .string x.s, .string x.v] 28)) x (b := 0) (g := wr.heap.size + 1) (by simp) (Nat.zero_le _)).here (by decide) (grp_one x))
          clear hcell hk hx r0 r1 hl0 hl1 hbr
          generalize hea : (L0.take k).all opB = ea at *
          cases ea with
          | false =>
            clear hea
            go_wp2_with fail
            go_roundw
            case rel => exact ⟨k + 1, by rw [HX.out]; rfl, by simp, by omega, blit HBR.out _⟩
            case measure => simp [intOf]; omega
          | true =>
            clear hea
            go_wp2_with fail
            refine HG.out.mono ?_
            rintro e w4 ⟨rfl, hb4⟩
            go_wp2_with fail
            go_roundw
            case rel => exact ⟨k + 1, by rw [HX.out]; simp, by simp, by omega, bon (blit (blit HBR.out _) _) hb4⟩
            case measure => simp [intOf]; omega
        · have hki : ¬ (k : Int) < (n0 : Int) := by omega
          obtain rfl : k = n0 := by omega
          have hall : (L0.take k).all opB = L0.all opB := by rw [List.take_of_length_le (by omega)]
          rw [hall]
          have hgrp : grpB L0 32 = (decide (1 ≤ k) && decide (k ≤ 32) && L0.all opB) := by unfold grpB; rw [hl0]
          have HRL := Lib.hid (fun (b : Bool) (hb : grpB L0 32 = b) (W : World) (hW : Below w.heap.size w W) => grp_t ((r0.below hW (Nat.le_refl _)).more hW.size) (by omega) hb)
          have HRO := Lib.hid (fun (b : Bool) (hb : grpB L1 32 = b) (W : World) (hW : Below w.heap.size w W) => grp_t ((r1.below hW (Nat.le_refl _)).more hW.size) (by omega) hb)
          have HGRP := Lib.hid hgrp
          have HNIL := Lib.hid (fun (W : World) => grp_t (w := W) (L := []) RdO.nilv (by decide) (b := false) rfl)
          clear hall hgrp
          cases hal : L0.all opB with
          | false =>
            have hgf : grpB L0 32 = false := by rw [HGRP.out, hal]; simp
            have HL1 := Lib.hid (HRL.out _ hgf)
            clear hal hgf
            go_wp2_with fail
            refine (HL1.out _ hbr).mono ?_
            rintro e w4 ⟨rfl, hb4⟩
            replace hbr := bon hbr hb4
            clear hb4
            go_wp2_with fail
            refine (HNIL.out _).mono ?_
            rintro e w5 ⟨rfl, hb5⟩
            replace hbr := bon hbr hb5
            clear hb5
            go_wp2_with fail
            refine (HL1.out _ hbr).mono ?_
            rintro e w6 ⟨rfl, hb6⟩
            replace hbr := bon hbr hb6
            clear hb6
            go_wp2_with fail
            refine (awake4_c _).mono ?_
            rintro e w99 ⟨rfl, hb99⟩
            go_wp2_with fail
            go_ret
            exact ⟨rfl, bon hbr hb99⟩
          | true =>
            by_cases h1 : 0 < k
            · by_cases h2 : k ≤ 32
              · have hgl : grpB L0 32 = true := by rw [HGRP.out, hal]; simp; omega
                have e1 : decide ((0 : Int) < (k : Int)) = true := by simp; omega
                have e2 : decide (0 < k) = true := by simpa using h1
                have e3 : decide ((k : Int) ≤ 32) = true := by simp; omega
                have e4 : decide (k ≤ 32) = true := by simpa using h2
                have HL1 := Lib.hid (HRL.out _ hgl)
                have HGL := Lib.hid hgl
                clear hal hgl
                go_wp2_with fail
                refine (HL1.out _ hbr).mono ?_
                rintro e w4 ⟨rfl, hb4⟩
                replace hbr := bon hbr hb4
                clear hb4
                go_wp2_with fail
                refine (HNIL.out _).mono ?_
                rintro e w5 ⟨rfl, hb5⟩
                replace hbr := bon hbr hb5
                clear hb5
                go_wp2_with fail
                refine (HL1.out _ hbr).mono ?_
                rintro e w6 ⟨rfl, hb6⟩
                replace hbr := bon hbr hb6
                clear hb6
                cases hgo : grpB L1 32 with
                | false =>
                  have HO1 := Lib.hid (HRO.out _ hgo)
                  clear hgo
                  go_wp2_with fail
                  refine (HO1.out _ hbr).mono ?_
                  rintro e w7 ⟨rfl, hb7⟩
                  replace hbr := bon hbr hb7
                  clear hb7
                  go_wp2_with fail
                  refine (awake4_c _).mono ?_
                  rintro e w99 ⟨rfl, hb99⟩
                  go_wp2_with fail
                  go_ret
                  exact ⟨rfl, bon hbr hb99⟩
                | true =>
                  have HO1 := Lib.hid (HRO.out _ hgo)
                  have hgl := HGL.out
                  go_wp2_with fail
                  refine (HO1.out _ hbr).mono ?_
                  rintro e w7 ⟨rfl, hb7⟩
                  replace hb7 := bon hbr hb7
                  clear hbr HO1 HL1 HGL HGRP HNIL HRO HRL e1 e2 e3 e4
                  obtain ⟨j, hk⟩ : ∃ j : Nat, j = a2 % k := ⟨_, rfl⟩
                  have hkl : j < k := by rw [hk]; exact Nat.mod_lt _ (by omega)
                  have hka : (a2 : Int) % (k : Int) = (j : Int) := by rw [hk]; simp
                  have hn1z : ((k : Int) == 0) = false := by simp; omega
                  have hn1p : (1 : Int) ≤ (k : Int) := by omega
                  have HK := Lib.hid hkl
                  obtain ⟨Ab, hbs, hbk⟩ := r0.slice_lo .i64 (k := j) (by omega)
                  have hsum : IntKind.i64.wrap ((k : Int) + (n1 : Int)) = (k : Int) + (n1 : Int) := by rw [IntKind.wrap_i64]; omega
                  have hpart := grp_part hgl (k := j) (by omega)
                  have hboth := grp_both hgl hgo
                  rw [hl0, hl1] at hboth
                  have HPART := Lib.hid hpart
                  have HBOTH := Lib.hid hboth
                  clear hk hpart hboth hgl hgo
                  go_wp2_with (first | (at_builtin; refine wpList_appO rfl (.tmp 65) (.tmp 66) rfl rfl (FrO.zero w7 (b := w7.heap.size) (g := w7.heap.size) rfl (Nat.le_refl _)) rfl ((r0.below (blit hb7 _) (Nat.le_refl _))) (by omega) (by simp) ?_; intro A8 c8 w8 hap8; have hb8 := (below_alloc w7 (.cells #[] 28)).trans hap8.below; have hf8 : FrO w8 w7.heap.size A8 k c8 L0 := (by simpa using hap8.fr)) | (at_builtin; refine wpList_appO rfl (.tmp 67) (.tmp 68) rfl rfl hf8 rfl ((r1.below (bon hb7 hb8) (Nat.le_refl _))) (by omega) hb8.size ?_; intro A9 c9 w9 hap9; have hb9 := hb8.trans hap9.below))
                  refine (grp_t hap9.fr.here (by omega) HBOTH.out).mono ?_
                  rintro e w10 ⟨rfl, hb10⟩
                  have hbx := bon (bon hb7 hb9) hb10
                  clear hb8 hap8 hf8 hap9 hb10 HBOTH hb9
                  have HBK := Lib.hid (grp_t ((hbk.below hbx (Nat.le_refl _)).more hbx.size) (by omega) HPART.out)
                  go_wp2_with fail
                  refine HBK.out.mono ?_
                  rintro e w11 ⟨rfl, hb11⟩
                  have hby := bon hbx hb11
                  clear hbx hb11 HBK hbk hbs
                  by_cases h32 : k + n1 ≤ 32
                  · have d5 : decide ((k : Int) + (n1 : Int) ≤ 32) = true := by simp; omega
                    have d6 : decide (k + n1 ≤ 32) = true := by simpa using h32
                    go_wp2_with fail
                    refine (awake4_c _).mono ?_
                    rintro e w99 ⟨rfl, hb99⟩
                    go_wp2_with fail
                    go_ret
                    exact ⟨rfl, bon hby hb99⟩
                  · have d5 : decide ((k : Int) + (n1 : Int) ≤ 32) = false := by simp; omega
                    have d6 : decide (k + n1 ≤ 32) = false := by simpa using h32
                    go_wp2_with fail
                    refine (awake4_c _).mono ?_
                    rintro e w99 ⟨rfl, hb99⟩
                    go_wp2_with fail
                    go_ret
                    exact ⟨rfl, bon hby hb99⟩
              · have hgf : grpB L0 32 = false := by rw [HGRP.out, hal]; simp; omega
                have e1 : decide ((0 : Int) < (k : Int)) = true := by simp; omega
                have e2 : decide (0 < k) = true := by simpa using h1
                have e3 : decide ((k : Int) ≤ 32) = false := by simp; omega
                have e4 : decide (k ≤ 32) = false := by simpa using h2
                have HL1 := Lib.hid (HRL.out _ hgf)
                clear hal hgf
                go_wp2_with fail
                refine (HL1.out _ hbr).mono ?_
                rintro e w4 ⟨rfl, hb4⟩
                replace hbr := bon hbr hb4
                clear hb4
                go_wp2_with fail
                refine (HNIL.out _).mono ?_
                rintro e w5 ⟨rfl, hb5⟩
                replace hbr := bon hbr hb5
                clear hb5
                go_wp2_with fail
                refine (HL1.out _ hbr).mono ?_
                rintro e w6 ⟨rfl, hb6⟩
                replace hbr := bon hbr hb6
                clear hb6
                go_wp2_with fail
                refine (awake4_c _).mono ?_
                rintro e w99 ⟨rfl, hb99⟩
                go_wp2_with fail
                go_ret
                exact ⟨rfl, bon hbr hb99⟩
            · have hgf : grpB L0 32 = false := by rw [HGRP.out, hal]; simp; omega
              have e1 : decide ((0 : Int) < (k : Int)) = false := by simp; omega
              have e2 : decide (0 < k) = false := by simpa using h1
              have HL1 := Lib.hid (HRL.out _ hgf)
              clear hal hgf
              go_wp2_with fail
              refine (HL1.out _ hbr).mono ?_
              rintro e w4 ⟨rfl, hb4⟩
              replace hbr := bon hbr hb4
              clear hb4
              go_wp2_with fail
              refine (HNIL.out _).mono ?_
              rintro e w5 ⟨rfl, hb5⟩
              replace hbr := bon hbr hb5
              clear hb5
              go_wp2_with fail
              refine (HL1.out _ hbr).mono ?_
              rintro e w6 ⟨rfl, hb6⟩
              replace hbr := bon hbr hb6
              clear hb6
              go_wp2_with fail
              refine (awake4_c _).mono ?_
              rintro e w99 ⟨rfl, hb99⟩
              go_wp2_with fail
              go_ret
              exact ⟨rfl, bon hbr hb99⟩

set_option maxRecDepth 100000 in
theorem lifted (os : Os) (started : os.Started) (H : Type) (enc : TypeId × Value → H) :
    ReturnsInHanded {} Try.checked os 7 .any (Rows.batchRightSpec.pre6 enc Try.prog Try.f7 Rows.batchRightRow.domain false) (Rows.batchRightSpec.post enc Try.prog Try.f7 false true false false) := by
  refine returnsInHanded_of_change (C := Try.checked) own started (by kernel_rfl) Try.func7
    (ChangeSpec.witness6 (enc := enc) (C := Try.checked) false ⟨#[], #[.slice none 0 0, .slice none 0 0, .int .u8 0], []⟩ 8 (by kernel_rfl) (by kernel_rfl) (by kernel_rfl) (by kernel_rfl)) ?_
  intro W base args ds gs before hval0 hW hcnd _
  have hval : ∀ (j : Nat) t v, Try.f7.params[j]? = some t → args[j]? = some v → Value.okWide Try.prog W .any base t v := hval0
  have hW' := hW
  obtain ⟨p, q, hA0, hV, rfl, hfz, hnd⟩ := hW
  have hA : DataW.TrodAll enc Try.prog W 0 (fun _ => true) true Try.f7.params.toList args.toList ds p := hA0
  rw [Try.params7] at hA hval
  obtain ⟨v0, vs0, d0, ds0, p0, q0_, hargs, rfl, rfl, h0, r0_⟩ := trodAll_cons hA
  obtain ⟨v1, vs1, d1, ds1, p1, q1_, rfl, rfl, rfl, h1, r1_⟩ := trodAll_cons r0_
  obtain ⟨v2, vs2, d2, ds2, p2, q2_, rfl, rfl, rfl, h2, r2_⟩ := trodAll_cons r1_
  obtain ⟨rfl, rfl, rfl⟩ := trodAll_nil r2_
  obtain rfl : args = #[v0, v1, v2] := by cases args; simp_all
  obtain ⟨rfl, rfl⟩ := trodVars_none hV
  have kk0 := h0
  have lt0 : ∀ x ∈ p0, x.block < W.heap.size := by obtain ⟨m, hm⟩ := kk0; exact DataW.trod_lt m _ _ _ hm
  have kk1 := h1
  have lt1 : ∀ x ∈ p1, x.block < W.heap.size := by obtain ⟨m, hm⟩ := kk1; exact DataW.trod_lt m _ _ _ hm
  have kk2 := h2
  have lt2 : ∀ x ∈ p2, x.block < W.heap.size := by obtain ⟨m, hm⟩ := kk2; exact DataW.trod_lt m _ _ _ hm
  obtain ⟨A0, n0, c0, L0, e0, r0, o0⟩ := open_ops h0 (hval 0 _ v0 rfl rfl)
  subst e0
  obtain ⟨A1, n1, c1, L1, e1, r1, o1⟩ := open_ops h1 (hval 1 _ v1 rfl rfl)
  subst e1
  obtain ⟨a2, e2, _, _, w2⟩ := open_int Try.underlying5 (hval 2 _ v2 rfl rfl) h2
  subst e2
  replace w2 := bounds_u8 w2
  obtain ⟨a2, rfl⟩ := Int.eq_ofNat_of_zero_le w2.1
  clear hA0 hval0
  refine (walk A0 n0 c0 L0 A1 n1 c1 L1 a2 W r0 r1 w2.2).mono fun e W' ⟨he, bel⟩ => ?_
  subst he
  exact ⟨_, rfl, _, _, _, [], _, [], hW', trodAll_mk1 (shut_bool Try.underlying4 _), (trodAll_cons_mk (Below.trod laidOut (by kernel_rfl) (of_decide_eq_true (by kernel_rfl)) kk0 bel lt0) (trodAll_cons_mk (Below.trod laidOut (by kernel_rfl) (of_decide_eq_true (by kernel_rfl)) kk1 bel lt1) (trodAll_cons_mk (Below.trod laidOut (by kernel_rfl) (of_decide_eq_true (by kernel_rfl)) kk2 bel lt2) trodAll_mk0))), rfl, bel.frame _, fun h => by cases h⟩

theorem over : Rows.batchRightRow.holds Try.pinned (OpenSpec.ofChange Rows.batchRightSpec) :=
  OpenClaim.holds_of_wide 7 Try.f7 rfl rfl rfl rfl rfl rfl rfl ⟨rfl, rfl, rfl, rfl, rfl⟩ rfl rfl rfl rfl rfl (by kernel_rfl) Try.func7 (by kernel_rfl)
    (of_decide_eq_true (by kernel_rfl)) (by unfold Func.isWrapper; first | (rw [if_pos (by decide +kernel)]; kernel_rfl) | (rw [if_neg (by decide +kernel)]; exact ⟨rfl, rfl⟩))
    (fun os started H enc _ => lifted os started H enc)

/-- The statement. -/
theorem proved : Rows.BatchRightSaid := over
#print axioms proved
end Go.Proofs.Ytaodmenieigbmaa.batchRight
