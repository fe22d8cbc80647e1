/-
  BatchCut: bytes of a group that are cut short are none; with a byte behind they are none, nor with a count that is another one: for every input.
-/
import Derived.Test.YtaodmenieigbmaaRows
import Derived.Test.YtaodmenieigbmaaBtA
import Derived.WalkKit
import Derived.ProofKit
import Derived.OpenShut
import Derived.ShutString
import Derived.ChangeOld
import Derived.Below
namespace Go.Proofs.Ytaodmenieigbmaa.batchCut
open Go.ChangeShapes Go.WideShapes Go.ChangeAt Go.RowKit
open Go.ChangeMaps (open_string shut_string)
set_option linter.unusedVariables false

theorem own : ownKnob Try.prog.godebug = none := by kernel_rfl
theorem laidOut : laidOutB Try.prog = true := by kernel_rfl

theorem forms_le {K L : List Bop} (hK : ∀ x ∈ K, opB x = true) (hL : ∀ x ∈ L, opB x = true) (h : formsO K = formsO L) (hle : K.length ≤ L.length) : K = L := by
  have h1 := readW_forms hK [] K.length (Nat.le_refl _)
  have h2 := readW_forms hL [] K.length hle
  rw [h, h2] at h1
  simp only [Option.some.injEq, Prod.mk.injEq, List.take_length, List.drop_length, List.append_nil] at h1
  obtain ⟨e1, e2⟩ := h1
  have hd : L.drop K.length = [] := by
    cases hd : L.drop K.length with
    | nil => rfl
    | cons x r =>
      rw [hd, formsO_cons] at e2
      have h3 := congrArg List.length e2
      have h4 := formO_pos x
      rw [List.length_append] at h3
      have h5 : (formsO (([] : List Bop))).length = 0 := rfl
      omega
  have hl : L.length ≤ K.length := by have := congrArg List.length hd; simp at this; omega
  rw [← e1, List.take_of_length_le hl]
theorem forms_inj {K L : List Bop} (hK : ∀ x ∈ K, opB x = true) (hL : ∀ x ∈ L, opB x = true) (h : formsO K = formsO L) : K = L := by
  rcases Nat.le_total K.length L.length with hle | hle
  · exact forms_le hK hL h hle
  · exact (forms_le hL hK h.symm hle).symm
theorem group_front {K L : List Bop} (hK : grpB K 128 = true) (hL : grpB L 128 = true) {t : List UInt8} (h : groupL K ++ t = groupL L) : t = [] := by
  obtain ⟨a1, a2, a3⟩ := grpB_iff.1 hK
  obtain ⟨b1, b2, b3⟩ := grpB_iff.1 hL
  have t1 := takeN_short K.length (by omega) (formsO K ++ t)
  have t2 := takeN_short L.length (by omega) (formsO L)
  unfold groupL at h
  rw [← List.append_assoc, h, t2] at t1
  simp only [Option.some.injEq, Prod.mk.injEq] at t1
  have hn : L.length = K.length := t1.1
  rw [hn, List.append_assoc] at h
  have hf := List.append_cancel_left h
  have h1 := readW_forms a3 t K.length (Nat.le_refl _)
  have h2 := readW_forms b3 [] L.length (Nat.le_refl _)
  rw [List.append_nil, ← hf, hn, h1] at h2
  simp only [Option.some.injEq, Prod.mk.injEq] at h2
  have := h2.2
  rw [List.drop_length, ← hn, List.drop_length] at this
  simpa [formsO] using this
theorem cut_none {L : List Bop} (hL : grpB L 128 = true) {j : Nat} (hj : j < (groupL L).length) : parseG ((groupL L).take j) = none := by
  cases h : parseG ((groupL L).take j) with
  | none => rfl
  | some M =>
    obtain ⟨h1, h2⟩ := parseG_iff.1 h
    have := group_front h1 hL (t := (groupL L).drop j) (by rw [← h2, List.take_append_drop])
    have := congrArg List.length this
    simp at this; omega
theorem more_none {L : List Bop} (hL : grpB L 128 = true) (c : UInt8) : parseG (groupL L ++ [c]) = none := by
  cases h : parseG (groupL L ++ [c]) with
  | none => rfl
  | some M =>
    obtain ⟨h1, h2⟩ := parseG_iff.1 h
    exact absurd (group_front hL h1 h2) (by simp)
theorem short_one {n : Nat} (h : n < 128) : shortL n = [byteOf n] := by simp only [shortL, shortF]; rw [if_pos h]
theorem other_none {L : List Bop} (hL : grpB L 128 = true) (hlt : L.length < 128) {n : Nat} (hn : n < 128) (hne : n ≠ L.length) : parseG (byteOf n :: (groupL L).drop 1) = none := by
  have hd : (groupL L).drop 1 = formsO L := by unfold groupL; rw [short_one hlt]; rfl
  rw [hd]
  cases h : parseG (byteOf n :: formsO L) with
  | none => rfl
  | some M =>
    obtain ⟨h1, h2⟩ := parseG_iff.1 h
    obtain ⟨a1, a2, a3⟩ := grpB_iff.1 h1
    obtain ⟨b1, b2, b3⟩ := grpB_iff.1 hL
    have t1 := takeN_short M.length (by omega) (formsO M)
    have t2 := takeN_short n (by omega) (formsO L)
    rw [short_one hn] at t2
    unfold groupL at h2
    rw [← h2] at t1
    rw [List.singleton_append, t1] at t2
    simp only [Option.some.injEq, Prod.mk.injEq] at t2
    have hm : M.length = n := t2.1
    rw [hm, short_one hn] at h2
    have hf : formsO L = formsO M := by simpa using h2
    have := forms_inj b3 a3 hf
    subst this
    exact absurd hm.symm hne
theorem group_two {L : List Bop} (hL : grpB L 128 = true) : 2 ≤ (groupL L).length := by
  obtain ⟨h1, h2, h3⟩ := grpB_iff.1 hL
  have := shortL_pos L.length
  unfold groupL
  match L, h1 with
  | x :: r, _ =>
    have := formO_pos x
    rw [formsO_cons]; simp at *; omega
theorem bytes_yes {L : List Bop} (h : grpB L 128 = true) : bytesL L = groupL L ∧ bytesE L = 0 := by unfold bytesL bytesE; rw [if_pos h, if_pos h]; exact ⟨rfl, rfl⟩
theorem group_len {L : List Bop} (h : grpB L 128 = true) : (groupL L).length ≤ 50000 := by rw [← (bytes_yes h).1]; exact bytesL_len L

set_option maxRecDepth 100000 in
set_option maxHeartbeats 8000000 in
theorem walk (A0 : Option Addr) (n0 c0 : Nat) (L0 : List Bop) (a1 : Nat) (a2 : Nat) (a3 : Nat) (w : World) (r0 : RdO w w.heap.size A0 n0 c0 L0) (w1 : (a1 : Int) ≤ 65535) (w2 : (a2 : Int) ≤ 255) (w3 : (a3 : Int) ≤ 255) :
    Calls Try.prog 6 #[.slice A0 n0 c0, .int .u16 (a1 : Int), .int .u8 (a2 : Int), .int .u8 (a3 : Int)] w fun e w' => e = .returned (.bool true) ∧ Below w.heap.size w w' := by
  have hl0 := r0.len
  have HF0 := Lib.hid (few_c r0 (Nat.le_refl _) 128)
  have HFN := Lib.hid (fun (h : fewB L0 128 = true) => show n0 ≤ 128 by unfold fewB at h; simp at h; omega)
  go_enter Try.func6, Try.ntmps6
  go_wp2_with fail
  refine HF0.out.mono ?_
  rintro e w2 ⟨rfl, hg⟩
  cases hf0 : fewB L0 128 with
  | false =>
    go_wp2_with fail
    refine (awake4_c _).mono ?_
    rintro e w99 ⟨rfl, hb99⟩
    go_wp2_with fail
    go_ret
    exact ⟨rfl, bon hg hb99⟩
  | true =>
    have hn0 := HFN.out hf0
    have hn0i : (n0 : Int) ≤ 128 := by omega
    clear hf0 HF0 HFN
    cases hgl : grpB L0 128 with
    | false =>
      have HB1 := Lib.hid (bytes_t ((r0.below hg (Nat.le_refl _)).more hg.size) (by omega) (bytesL_no hgl).1 (bytesL_no hgl).2)
      clear hgl
      go_wp2_with fail
      refine HB1.out.mono ?_
      rintro e w4 ⟨A4, n4, c4, rfl, hf4, hb4⟩
      replace hg := bon hg hb4
      clear hb4 hf4 HB1
      go_wp2_with fail
      refine (awake4_c _).mono ?_
      rintro e w99 ⟨rfl, hb99⟩
      go_wp2_with fail
      go_ret
      exact ⟨rfl, bon hg hb99⟩
    | true =>
      have HB1 := Lib.hid (bytes_t ((r0.below hg (Nat.le_refl _)).more hg.size) (by omega) (bytes_yes hgl).1 (bytes_yes hgl).2)
      have HGL := Lib.hid hgl
      clear hgl
      go_wp2_with fail
      refine HB1.out.mono ?_
      rintro e w4 ⟨A4, n4, c4, rfl, hf4, hb4⟩
      have hb := hf4.here
      replace hg := bon hg hb4
      clear hb4 hf4 HB1
      have hlen : (groupL L0).length = n4 := by simpa using hb.len
      have h2 := group_two HGL.out
      have h5 := group_len HGL.out
      have hcap := hb.cap
      rw [hlen] at h2 h5
      have HLEN := Lib.hid hlen
      have hn4i : (n4 : Int) ≤ 50000 := by omega
      have hn42 : (2 : Int) ≤ (n4 : Int) := by omega
      have dl : decide ((n4 : Int) < 2) = false := by simp; omega
      obtain ⟨j, hj⟩ : ∃ j : Nat, j = a1 % n4 := ⟨_, rfl⟩
      have hjl : j < n4 := by rw [hj]; exact Nat.mod_lt _ (by omega)
      have hka : (a1 : Int) % (n4 : Int) = (j : Int) := by rw [hj]; simp
      have hn1z : ((n4 : Int) == 0) = false := by simp; omega
      have hn1p : (1 : Int) ≤ (n4 : Int) := by omega
      have hs := fun W => run_slice_hi_gen (P := Try.prog) (n := n4) (A := A4) 23 5 Try.underlying23 info_u8 .i64 (k := j) (c := c4) (by omega) W
      have hfr := hb.front (k := j) (by omega)
      rw [bv_take'] at hfr
      have HP1 := Lib.hid (parse_n hfr (by omega) (cut_none HGL.out (by rw [HLEN.out]; exact hjl)))
      have HJ := Lib.hid hjl
      have HN4 := Lib.hid h5
      clear hlen h2 hj hjl hfr hcap h5
      go_wp2_with fail
      refine HP1.out.mono ?_
      rintro e w5 ⟨A5, n5, c5, rfl, hf5, hb5⟩
      replace hb := hb.now hb5
      replace hg := bon hg hb5
      clear hb5 hf5 HP1 hs
      go_wp2_with (first | (at_builtin; refine wpList_app rfl (.tmp 45) (.tmp 46) _ rfl Try.underlying23 info_u8 rfl rfl (Fr.new w5 5 #[] rfl (Nat.le_refl _) (Nat.zero_le _)) rfl (hb.lay _) (bv_one _) (by have := HN4.out; omega) (by have := HN4.out; omega) (by simp) ?_; intro A6 c6 w6 hap6; have hb6 := (below_alloc w5 (.cells #[] 5)).trans hap6.below; have hf6 : Fr w6 w5.heap.size 5 A6 n4 c6 (bv (groupL L0)) := (by simpa using hap6.fr)) | (at_builtin; refine wpList_app rfl (.tmp 47) (.tmp 49) _ rfl Try.underlying23 info_u8 rfl rfl (hf6.alloc _) rfl (Rd.litn w6 [byteOf a2] (vs := #[.int .u8 (a2 : Int)]) (k := 1) rfl (by rw [u8_byte _ (by omega)]; simp [bv]) rfl (by decide)) (bv_one _) (by have := HN4.out; omega) (by have := HN4.out; omega) (by have := hb6.size; simp; omega) ?_; intro A7 c7 w7 hap7))
      have hb7 : Below w5.heap.size w5 w7 := (hb6.alloc hb6.size _).trans hap7.below
      have hf7 : Fr w7 w5.heap.size 5 A7 (n4 + 1) c7 (bv (groupL L0 ++ [byteOf a2])) := by rw [bv_append]; exact hap7.fr
      replace hb := hb.now hb7
      replace hg := bon hg hb7
      have HP2 := Lib.hid (parse_n hf7.here (by have := HN4.out; omega) (more_none HGL.out _))
      clear hb6 hf6 hap6 hap7 hf7 hb7
      refine HP2.out.mono ?_
      rintro e w8 ⟨A8, n8, c8, rfl, hf8, hb8⟩
      replace hb := hb.now hb8
      replace hg := bon hg hb8
      clear hf8 hb8 HP2
      obtain ⟨ct, hct⟩ : ∃ ct : Nat, ct = a3 % 128 := ⟨_, rfl⟩
      have hct1 : ct < 128 := by omega
      have hct2 : (a3 : Int) % 128 = (ct : Int) := by omega
      have hct3 : (ct : Int) ≤ 127 := by omega
      clear hct
      by_cases h128 : n0 < 128
      · have e1 : decide ((n0 : Int) < 128) = true := by simp; omega
        have e2 : decide (n0 < 128) = true := by simpa using h128
        by_cases hne : ct = n0
        · have e3 : ((ct : Int) != (n0 : Int)) = false := by simp; omega
          clear hne
          go_wp2_with fail
          refine (awake4_c _).mono ?_
          rintro e w99 ⟨rfl, hb99⟩
          go_wp2_with fail
          go_ret
          exact ⟨rfl, bon hg hb99⟩
        · have e3 : ((ct : Int) != (n0 : Int)) = true := by simp; omega
          have HO := Lib.hid (other_none HGL.out (by rw [hl0]; exact h128) hct1 (by rw [hl0]; exact hne))
          obtain ⟨A9, hsl, hbk⟩ := hb.slice_lo 23 5 (P := Try.prog) Try.underlying23 info_u8 .i64 (k := 1) (by omega)
          replace hsl : ∀ W, (Instr.slice 23 (.slice A4 n4 c4) (some (.int .i64 1)) none none).run Try.prog W = .ok (.slice A9 (n4 - 1) (c4 - 1)) W := hsl
          rw [bv_drop'] at hbk
          have hlit : Value.int .u8 (ct : Int) = b8 (byteOf ct) := u8_byte _ (by omega)
          have HLIT := Lib.hid hlit
          clear hne h128 hlit
          go_wp2_with (at_builtin; refine wpList_app rfl (.tmp 68) (.tmp 70) _ rfl Try.underlying23 info_u8 rfl rfl (Fr.new w8 5 #[.int .u8 (ct : Int)] (k := 1) rfl (Nat.le_refl _) (by decide)) rfl (hbk.lay _) (bv_one _) (by have := HN4.out; omega) (by have := HN4.out; omega) (by simp) ?_; intro A10 c10 w10 hap10)
          have hb10 : Below w8.heap.size w8 w10 := (below_alloc w8 _).trans hap10.below
          have hf10 : Fr w10 w8.heap.size 5 A10 (1 + (n4 - 1)) c10 (bv (byteOf ct :: (groupL L0).drop 1)) := by have := hap10.fr; rw [HLIT.out] at this; simpa [bv] using this
          have HP3 := Lib.hid (parse_n hf10.here (by have := HN4.out; omega) HO.out)
          replace hg := bon hg hb10
          clear hap10 hf10 hb10 hbk hsl
          refine HP3.out.mono ?_
          rintro e w11 ⟨A11, n11, c11, rfl, hf11, hb11⟩
          replace hg := bon hg hb11
          clear hf11 hb11 HP3
          go_wp2_with fail
          refine (awake4_c _).mono ?_
          rintro e w99 ⟨rfl, hb99⟩
          go_wp2_with fail
          go_ret
          exact ⟨rfl, bon hg hb99⟩
      · have e1 : decide ((n0 : Int) < 128) = false := by simp; omega
        have e2 : decide (n0 < 128) = false := by simpa using h128
        clear h128
        go_wp2_with fail
        refine (awake4_c _).mono ?_
        rintro e w99 ⟨rfl, hb99⟩
        go_wp2_with fail
        go_ret
        exact ⟨rfl, bon hg hb99⟩

set_option maxRecDepth 100000 in
theorem lifted (os : Os) (started : os.Started) (H : Type) (enc : TypeId × Value → H) :
    ReturnsInHanded {} Try.checked os 6 .any (Rows.batchCutSpec.pre6 enc Try.prog Try.f6 Rows.batchCutRow.domain false) (Rows.batchCutSpec.post enc Try.prog Try.f6 false true false false) := by
  refine returnsInHanded_of_change (C := Try.checked) own started (by kernel_rfl) Try.func6
    (ChangeSpec.witness6 (enc := enc) (C := Try.checked) false ⟨#[], #[.slice none 0 0, .int .u16 0, .int .u8 0, .int .u8 0], []⟩ 8 (by kernel_rfl) (by kernel_rfl) (by kernel_rfl) (by kernel_rfl)) ?_
  intro W base args ds gs before hval0 hW hcnd _
  have hval : ∀ (j : Nat) t v, Try.f6.params[j]? = some t → args[j]? = some v → Value.okWide Try.prog W .any base t v := hval0
  have hW' := hW
  obtain ⟨p, q, hA0, hV, rfl, hfz, hnd⟩ := hW
  have hA : DataW.TrodAll enc Try.prog W 0 (fun _ => true) true Try.f6.params.toList args.toList ds p := hA0
  rw [Try.params6] at hA hval
  obtain ⟨v0, vs0, d0, ds0, p0, q0_, hargs, rfl, rfl, h0, r0_⟩ := trodAll_cons hA
  obtain ⟨v1, vs1, d1, ds1, p1, q1_, rfl, rfl, rfl, h1, r1_⟩ := trodAll_cons r0_
  obtain ⟨v2, vs2, d2, ds2, p2, q2_, rfl, rfl, rfl, h2, r2_⟩ := trodAll_cons r1_
  obtain ⟨v3, vs3, d3, ds3, p3, q3_, rfl, rfl, rfl, h3, r3_⟩ := trodAll_cons r2_
  obtain ⟨rfl, rfl, rfl⟩ := trodAll_nil r3_
  obtain rfl : args = #[v0, v1, v2, v3] := by cases args; simp_all
  obtain ⟨rfl, rfl⟩ := trodVars_none hV
  have kk0 := h0
  have lt0 : ∀ x ∈ p0, x.block < W.heap.size := by obtain ⟨m, hm⟩ := kk0; exact DataW.trod_lt m _ _ _ hm
  have kk1 := h1
  have lt1 : ∀ x ∈ p1, x.block < W.heap.size := by obtain ⟨m, hm⟩ := kk1; exact DataW.trod_lt m _ _ _ hm
  have kk2 := h2
  have lt2 : ∀ x ∈ p2, x.block < W.heap.size := by obtain ⟨m, hm⟩ := kk2; exact DataW.trod_lt m _ _ _ hm
  have kk3 := h3
  have lt3 : ∀ x ∈ p3, x.block < W.heap.size := by obtain ⟨m, hm⟩ := kk3; exact DataW.trod_lt m _ _ _ hm
  obtain ⟨A0, n0, c0, L0, e0, r0, o0⟩ := open_ops h0 (hval 0 _ v0 rfl rfl)
  subst e0
  obtain ⟨a1, e1, _, _, w1⟩ := open_int Try.underlying49 (hval 1 _ v1 rfl rfl) h1
  subst e1
  replace w1 := bounds_u16 w1
  obtain ⟨a1, rfl⟩ := Int.eq_ofNat_of_zero_le w1.1
  obtain ⟨a2, e2, _, _, w2⟩ := open_int Try.underlying5 (hval 2 _ v2 rfl rfl) h2
  subst e2
  replace w2 := bounds_u8 w2
  obtain ⟨a2, rfl⟩ := Int.eq_ofNat_of_zero_le w2.1
  obtain ⟨a3, e3, _, _, w3⟩ := open_int Try.underlying5 (hval 3 _ v3 rfl rfl) h3
  subst e3
  replace w3 := bounds_u8 w3
  obtain ⟨a3, rfl⟩ := Int.eq_ofNat_of_zero_le w3.1
  clear hA0 hval0
  refine (walk A0 n0 c0 L0 a1 a2 a3 W r0 w1.2 w2.2 w3.2).mono fun e W' ⟨he, bel⟩ => ?_
  subst he
  exact ⟨_, rfl, _, _, _, [], _, [], hW', trodAll_mk1 (shut_bool Try.underlying4 _), (trodAll_cons_mk (Below.trod laidOut (by kernel_rfl) (of_decide_eq_true (by kernel_rfl)) kk0 bel lt0) (trodAll_cons_mk (Below.trod laidOut (by kernel_rfl) (of_decide_eq_true (by kernel_rfl)) kk1 bel lt1) (trodAll_cons_mk (Below.trod laidOut (by kernel_rfl) (of_decide_eq_true (by kernel_rfl)) kk2 bel lt2) (trodAll_cons_mk (Below.trod laidOut (by kernel_rfl) (of_decide_eq_true (by kernel_rfl)) kk3 bel lt3) trodAll_mk0)))), rfl, bel.frame _, fun h => by cases h⟩

theorem over : Rows.batchCutRow.holds Try.pinned (OpenSpec.ofChange Rows.batchCutSpec) :=
  OpenClaim.holds_of_wide 6 Try.f6 rfl rfl rfl rfl rfl rfl rfl ⟨rfl, rfl, rfl, rfl, rfl⟩ rfl rfl rfl rfl rfl (by kernel_rfl) Try.func6 (by kernel_rfl)
    (of_decide_eq_true (by kernel_rfl)) (by unfold Func.isWrapper; first | (rw [if_pos (by decide +kernel)]; kernel_rfl) | (rw [if_neg (by decide +kernel)]; exact ⟨rfl, rfl⟩))
    (fun os started H enc _ => lifted os started H enc)

/-- The statement. -/
theorem proved : Rows.BatchCutSaid := over
#print axioms proved
end Go.Proofs.Ytaodmenieigbmaa.batchCut
