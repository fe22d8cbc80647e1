/-
  Entries of one user's key cost no more for it than once for each four of them. No condition.
-/
import Derived.Test.YtfbmphaabdhphaaRows
import Derived.Test.YtfbmphaabdhphaaBK
import Derived.WalkKit
import Derived.ProofKit
import Derived.OpenShut
import Derived.ShutString
import Derived.ChangeOld
import Derived.Below
namespace Go.Proofs.Ytfbmphaabdhphaa.blockShares
set_option maxRecDepth 100000
open Go.ChangeShapes Go.WideShapes Go.ChangeAt Go.RowKit
open Go.ChangeMaps (open_string shut_string)
set_option linter.unusedVariables false

theorem own : ownKnob Try.prog.godebug = none := by kernel_rfl
theorem laidOut : laidOutB Try.prog = true := by kernel_rfl

open Go.Shelf
/-- Entries of one user's key. -/
def shL (s : ByteArray) (k : Nat) : List Ent := (List.range k).map fun i => ⟨s, 100 - i, 0, noS⟩
theorem shL_succ (s : ByteArray) (k : Nat) : shL s (k + 1) = shL s k ++ [⟨s, 100 - k, 0, noS⟩] := by simp [shL, List.range_succ]
theorem shL_len (s : ByteArray) (k : Nat) : (shL s k).length = k := by simp [shL]
theorem shL_get {s : ByteArray} {k i : Nat} {x : Ent} (h : (shL s k)[i]? = some x) : i < k ∧ x = ⟨s, 100 - i, 0, noS⟩ := by
  have hi : i < k := by
    rcases Nat.lt_or_ge i (shL s k).length with h1 | h1
    · rwa [shL_len] at h1
    · rw [List.getElem?_eq_none h1] at h; cases h
  refine ⟨hi, ?_⟩
  simp only [shL, List.getElem?_map, List.getElem?_range hi, Option.map_some, Option.some.injEq] at h
  exact h.symm
theorem lastK_shL (s : ByteArray) (k : Nat) : lastK noS (shL s (k + 1)) = s := by rw [shL_succ, lastK_snoc]
theorem comL_self : ∀ l : List UInt8, comL l l = l.length
  | [] => rfl
  | x :: l => by simp [comL, comL_self l]
theorem com_self (s : ByteArray) : com s s = s.size := by unfold com; rw [comL_self, size_list]
theorem short1 {x : Nat} (h : x < 128) : (shortL x).length = 1 := by simp [shortL, shortF, h]
theorem short2 {x : Nat} (h : 128 ≤ x) (h2 : x < 16384) : (shortL x).length = 2 := by
  simp only [shortL, shortF]
  rw [if_neg (by omega), if_pos (by omega)]
  rfl
def mostN : Nat → Nat
  | 0 => 0
  | k + 1 => mostN k + 3 + (if 127 < 2 * (100 - k) then 1 else 0)
theorem mostN_le : ∀ k, mostN k ≤ 4 * k
  | 0 => Nat.le_refl _
  | k + 1 => by have := mostN_le k; simp only [mostN]; split <;> omega
theorem sh_ents {s : ByteArray} (h0 : 0 < s.size) (h1 : s.size ≤ 64) : ∀ k, k ≤ 64 → (entsL 0 noS (shL s k)).length = mostN k + ((k + 3) / 4) * s.size
  | 0, _ => by simp [shL, entsL, mostN]
  | k + 1, hk => by
    have ih := sh_ents h0 h1 k (by omega)
    rw [shL_succ, entsL_snoc, List.length_append, ih, shL_len, Nat.zero_add]
    have h2 : (shortL (2 * (100 - k) + 0)).length = 1 + (if 127 < 2 * (100 - k) then 1 else 0) := by
      split
      · exact short2 (by omega) (by omega)
      · exact short1 (by omega)
    have he : (entL (shB k (lastK noS (shL s k)) s) (⟨s, 100 - k, 0, noS⟩ : Ent)).length = 3 + (if 127 < 2 * (100 - k) then 1 else 0) + (if k % 4 = 0 then s.size else 0) := by
      unfold entL
      simp only [List.length_append, h2]
      by_cases h4 : k % 4 = 0
      · have e1 : shB k (lastK noS (shL s k)) s = 0 := by unfold shB; rw [if_pos h4]
        rw [e1, dropS_zero, textL_len, short1 (by omega), short1 (by omega), if_pos h4]
        simp; omega
      · obtain ⟨j, rfl⟩ : ∃ j, k = j + 1 := ⟨k - 1, by omega⟩
        have e1 : shB (j + 1) (lastK noS (shL s (j + 1))) s = s.size := by unfold shB; rw [if_neg h4, lastK_shL, com_self]
        rw [e1, textL_len, dropS_size, Nat.sub_self, short1 (by omega), short1 (by omega), if_neg h4]
        simp; omega
    rw [he]
    simp only [mostN]
    by_cases h4 : k % 4 = 0
    · rw [if_pos h4, show (k + 1 + 3) / 4 = (k + 3) / 4 + 1 by omega, Nat.add_mul]; omega
    · rw [if_neg h4, show (k + 1 + 3) / 4 = (k + 3) / 4 by omega]; omega
theorem sh_blk {s : ByteArray} (h0 : 0 < s.size) (h1 : s.size ≤ 64) {n : Nat} (hn : 1 ≤ n) (hn2 : n ≤ 64) : blkB (shL s n) = true := by
  refine blkB_iff.2 ⟨by rw [shL_len]; exact hn, by rw [shL_len]; exact hn2, fun x hx => ?_, (risB_iff _).2 fun i a b ha hb => ?_⟩
  · obtain ⟨i, hi⟩ := List.getElem?_of_mem hx
    obtain ⟨h2, rfl⟩ := shL_get hi
    have h3 : (⟨#[]⟩ : ByteArray).size = 0 := rfl
    unfold entB entryB rightB noS
    simp [-ByteArray.size_eq_zero_iff, h3]
    omega
  · obtain ⟨h2, rfl⟩ := shL_get ha
    obtain ⟨h3, rfl⟩ := shL_get hb
    unfold cmpE cmpV
    rw [if_neg (by rw [(cmpS_eq s s).2 rfl]; simp)]
    have h4 : cmpI (100 - (i + 1)) (100 - i) = -1 := by unfold cmpI; rw [if_pos (by omega)]
    rw [if_pos (by rw [h4]; decide), h4]
    decide
theorem sh_len {s : ByteArray} (h0 : 0 < s.size) (h1 : s.size ≤ 64) {n : Nat} (hn : 1 ≤ n) (hn2 : n ≤ 64) : bldE (shL s n) = 0 ∧ (bldL (shL s n)).length = mostN n + (n + 3) / 4 * s.size + 4 * ((n + 3) / 4) + 4 := by
  have hb := sh_blk h0 h1 hn hn2
  unfold bldE bldL
  rw [if_pos hb, if_pos hb]
  refine ⟨rfl, ?_⟩
  rw [blkL_eq]
  simp only [List.length_append, sh_ents h0 h1 n hn2, posL_len0, fourL_len, shL_len]; omega

set_option maxRecDepth 100000 in
set_option maxHeartbeats 8000000 in
theorem walk (a0 : ByteArray) (a1 : Nat) (w : World) (w0 : a0.size ≤ maxLen) (w1 : (a1 : Int) ≤ 255) :
    Calls Try.prog 7 #[.string a0, .int .u8 (a1 : Int)] w fun e w' => e = .returned (.bool true) ∧ Below w.heap.size w w' := by
  have hs0 : (a0.toList == (⟨#[]⟩ : ByteArray).toList) = decide (a0.size = 0) := by
    rw [beq_strs, Bool.eq_iff_iff, decide_eq_true_iff, decide_eq_true_iff]
    constructor
    · rintro rfl; rfl
    · intro h
      apply ba_ext
      have h2 : a0.data.toList = [] := List.eq_nil_of_length_eq_zero (by rw [size_list]; exact h)
      rw [h2]
  by_cases h64 : 64 < a0.size
  · have d1 : decide ((64 : Int) < (a0.size : Int)) = true := by simp; omega
    have d1' : decide (64 < a0.size) = true := by simpa using h64
    clear h64 hs0 w0
    go_enter Try.func7, Try.ntmps7
    go_wp2_with fail
    refine (awake7_c _).mono ?_
    rintro e w9 ⟨rfl, hb9⟩
    go_wp2_with fail
    go_ret
    exact ⟨rfl, hb9⟩
  have d1 : decide ((64 : Int) < (a0.size : Int)) = false := by simp; omega
  have d1' : decide (64 < a0.size) = false := by simpa using h64
  by_cases hz : a0.size = 0
  · have d2 : (a0.toList == (⟨#[]⟩ : ByteArray).toList) = true := by rw [hs0]; simpa using hz
    have hnil : a0 = ⟨#[]⟩ := by
      apply ba_ext
      have h2 : a0.data.toList = [] := List.eq_nil_of_length_eq_zero (by rw [size_list]; exact hz)
      rw [h2]
    subst hnil
    clear h64 hs0 w0 hz d1 d1' d2
    have d1 : decide ((64 : Int) < (((⟨#[]⟩ : ByteArray).size : Nat) : Int)) = false := by decide
    have d1' : decide (64 < (⟨#[]⟩ : ByteArray).size) = false := by decide
    have d2 : ((⟨#[]⟩ : ByteArray).toList == (⟨#[]⟩ : ByteArray).toList) = true := by simp
    go_enter Try.func7, Try.ntmps7
    go_wp2_with fail
    refine (awake7_c _).mono ?_
    rintro e w9 ⟨rfl, hb9⟩
    go_wp2_with fail
    go_ret
    exact ⟨rfl, hb9⟩
  have d2 : (a0.toList == (⟨#[]⟩ : ByteArray).toList) = false := by rw [hs0]; simpa using hz
  have d3 : a0.toList.isEmpty = false := by rw [str_emp]; simpa using hz
  obtain ⟨r, hr⟩ : ∃ r, a1 % 64 = r := ⟨_, rfl⟩
  have hri : (a1 : Int) % 64 = (r : Int) := by omega
  have hrt : Int.tmod (a1 : Int) 64 = (r : Int) := by rw [Int.tmod_eq_emod_of_nonneg (by omega)]; omega
  have hr8 : IntKind.u8.wrap (r : Int) = (r : Int) := by simp [IntKind.wrap, IntKind.bits, IntKind.signed]; omega
  have hr64 : IntKind.i64.wrap (r : Int) = (r : Int) := wrapi _ (by omega) (by omega)
  obtain ⟨n, hn⟩ : ∃ n, 1 + r = n := ⟨_, rfl⟩
  have hni : 1 + (r : Int) = (n : Int) := by omega
  have hnw : IntKind.i64.wrap (n : Int) = (n : Int) := wrapi _ (by omega) (by omega)
  have hn64 : n ≤ 64 := by omega
  have hn1 : 1 ≤ n := by omega
  have hsi : (a0.size : Int) ≤ 64 := by omega
  have HSH := Lib.hid (sh_len (s := a0) (by omega) (by omega) hn1 hn64)
  have HS64 := Lib.hid (show a0.size ≤ 64 by omega)
  have g0 : Below w.heap.size w w := Below.refl _ _
  clear h64 hz hs0 w0 w1 hr hn
  go_enter Try.func7, Try.ntmps7
  go_wp2_with fail
  go_loopw [6, 26] (fun lv iv wr => ∃ (k c : Nat) (A : Option Addr), lv = .slice A k c ∧ iv = .int .i64 (k : Int) ∧ k ≤ n ∧ FrE wr w.heap.size A k c (shL a0 k) ∧ Below w.heap.size w wr) (fun _ iv _ => ((n : Int) - intOf iv).toNat)
  case atStart => exact ⟨0, 0, none, rfl, rfl, Nat.zero_le _, FrE.nil, g0⟩
  case round =>
    clear g0
    obtain ⟨k, c, A, rfl, rfl, hkn, f1, gr⟩ := hrel
    by_cases hlt : k < n
    · have hki : (k : Int) < (n : Int) := by omega
      have e1 : IntKind.i64.wrap (100 - (k : Int)) = 100 - (k : Int) := wrapi _ (by omega) (by omega)
      have e2 : IntKind.u64.wrap (100 - (k : Int)) = 100 - (k : Int) := by rw [wrapu]; omega
      have hk64 : k ≤ 64 := by omega
      have F1 := Lib.hid f1
      have GR := Lib.hid gr
      clear f1 gr hkn
      go_wp2_with fail
      refine (key7_t _ a0 (100 - (k : Int)) 0 (100 - k) 0 (by omega) rfl).mono ?_
      rintro e w2 ⟨rfl, hb2⟩
      have f2 := (F1.out.below hb2).alloc (.cells #[.string a0, .int .u64 ((100 - k : Nat) : Int), .int .u8 ((0 : Nat) : Int), .string ⟨#[]⟩] 38)
      have g2 := blit (bon GR.out hb2) (.cells #[.string a0, .int .u64 ((100 - k : Nat) : Int), .int .u8 ((0 : Nat) : Int), .string ⟨#[]⟩] 38)
      have hsn := shL_succ a0 k
      have HSN := Lib.hid hsn
      clear hb2 hsn
      go_wp2_with (at_builtin; refine wpList_appE rfl (.tmp 29) (.tmp 36) rfl rfl f2 rfl ((FrE.one w2 (b := 0) (g := w2.heap.size) ⟨a0, 100 - k, 0, noS⟩ rfl (Nat.zero_le _)).rd (Nat.le_refl _)) (by omega) g2.size ?_; intro A' c' w3 hap)
      go_roundw
      case rel => exact ⟨k + 1, c', A', rfl, by simp, by omega, by rw [HSN.out]; exact hap.fr, g2.trans hap.below⟩
      case measure => simp [intOf]; omega
    · have hki : ¬ (k : Int) < (n : Int) := by omega
      obtain rfl : k = n := by omega
      have HB := Lib.hid (build_c (f1.rd (Nat.le_refl _)) (Nat.le_refl _) (by omega))
      have GR := Lib.hid gr
      obtain ⟨q, hq⟩ : ∃ q, (k + 3) / 4 = q := ⟨_, rfl⟩
      have t0 : IntKind.i64.wrap ((k : Int) + 3) = (k : Int) + 3 := wrapi _ (by omega) (by omega)
      have t1 : Int.tdiv ((k : Int) + 3) 4 = (q : Int) := by rw [Int.tdiv_eq_ediv_of_nonneg (by omega)]; omega
      have t1' : ((k : Int) + 3) / 4 = (q : Int) := by omega
      have t2 : IntKind.i64.wrap (q : Int) = (q : Int) := wrapi _ (by omega) (by omega)
      have hq16 : q ≤ 17 := by omega
      have HQ := Lib.hid hq
      clear f1 gr hq hki hlt hkn hri hrt hr8 hr64 hni hnw d1 d1' d2
      go_wp2_with fail
      refine HB.out.mono ?_
      rintro e w3 ⟨A3, n3, c3, rfl, hf3, hb3⟩
      have hn3 : n3 = (bldL (shL a0 k)).length := by have := hf3.len; rw [bv_length] at this; exact this.symm
      rw [HSH.out.2] at hn3
      rw [HSH.out.1]
      have G3 := Lib.hid (bon GR.out hb3)
      have HN3 := Lib.hid hn3
      have g3 : Below w3.heap.size w3 w3 := Below.refl _ _
      clear hf3 hb3 HB GR hn3
      go_wp2_with fail
      go_loopw [11, 48] (fun mv iv wr => ∃ (j : Nat), mv = .int .i64 ((mostN j : Nat) : Int) ∧ iv = .int .i64 (j : Int) ∧ j ≤ k ∧ wr = w3) (fun _ iv _ => ((k : Int) - intOf iv).toNat)
      case atStart => exact ⟨0, rfl, rfl, Nat.zero_le _, rfl⟩
      case round =>
        clear g3
        obtain ⟨j, rfl, rfl, hjk, rfl⟩ := hrel
        have hml := mostN_le j
        by_cases hlt : j < k
        · have hki : (j : Int) < (k : Int) := by omega
          have e1 : IntKind.i64.wrap (100 - (j : Int)) = 100 - (j : Int) := wrapi _ (by omega) (by omega)
          have e2 : IntKind.i64.wrap (2 * (100 - (j : Int))) = 2 * (100 - (j : Int)) := wrapi _ (by omega) (by omega)
          have hmi : ((mostN j : Nat) : Int) ≤ 1000 := by omega
          have HMS := Lib.hid (show mostN (j + 1) = mostN j + 3 + (if 127 < 2 * (100 - j) then 1 else 0) from rfl)
          generalize mostN j = M at *
          have e3 : IntKind.i64.wrap ((M : Int) + 3) = (M : Int) + 3 := wrapi _ (by omega) (by omega)
          have e4 : IntKind.i64.wrap ((M : Int) + 3 + 1) = (M : Int) + 3 + 1 := wrapi _ (by omega) (by omega)
          by_cases hb : 127 < 2 * (100 - j)
          · have d5 : decide ((127 : Int) < 2 * (100 - (j : Int))) = true := by simp; omega
            go_wp2_with fail
            go_roundw
            case rel => exact ⟨j + 1, by rw [HMS.out, if_pos hb]; simp, by simp, by omega, by first | rfl | trivial⟩
            case measure => simp [intOf]; omega
          · have d5 : decide ((127 : Int) < 2 * (100 - (j : Int))) = false := by simp; omega
            go_wp2_with fail
            go_roundw
            case rel => exact ⟨j + 1, by rw [HMS.out, if_neg hb]; simp, by simp, by omega, by first | rfl | trivial⟩
            case measure => simp [intOf]; omega
        · have hki : ¬ (j : Int) < (k : Int) := by omega
          obtain rfl : j = k := by omega
          have hn3 := HN3.out
          have hqq := HQ.out
          rw [hqq] at hn3
          have hprod : q * a0.size ≤ 17 * 64 := Nat.mul_le_mul hq16 HS64.out
          generalize mostN j = M at *
          obtain ⟨T, hT⟩ : ∃ T, q * a0.size = T := ⟨_, rfl⟩
          have m1 : (q : Int) * (a0.size : Int) = (T : Int) := by rw [← hT]; exact (Int.natCast_mul _ _).symm
          have m2 : IntKind.i64.wrap (T : Int) = (T : Int) := wrapi _ (by omega) (by omega)
          have m3 : IntKind.i64.wrap ((M : Int) + (T : Int)) = (M : Int) + (T : Int) := wrapi _ (by omega) (by omega)
          have m4 : IntKind.i64.wrap (4 * (q : Int)) = 4 * (q : Int) := wrapi _ (by omega) (by omega)
          have m5 : IntKind.i64.wrap ((M : Int) + (T : Int) + 4 * (q : Int)) = (M : Int) + (T : Int) + 4 * (q : Int) := wrapi _ (by omega) (by omega)
          have m6 : IntKind.i64.wrap ((M : Int) + (T : Int) + 4 * (q : Int) + 4) = (M : Int) + (T : Int) + 4 * (q : Int) + 4 := wrapi _ (by omega) (by omega)
          rw [hT] at hn3
          have m7 : ((n3 : Int) == (M : Int) + (T : Int) + 4 * (q : Int) + 4) = true := by simp; omega
          clear hn3 hqq hprod hT hml HN3 HQ HSH
          go_wp2_with fail
          refine (awake7_c _).mono ?_
          rintro e w9 ⟨rfl, hb9⟩
          go_wp2_with fail
          go_ret
          exact ⟨rfl, bon G3.out hb9⟩

set_option maxRecDepth 100000 in
theorem lifted (os : Os) (started : os.Started) (H : Type) (enc : TypeId × Value → H) :
    ReturnsInHanded {} Try.checked os 7 .any (Rows.blockSharesSpec.pre6 enc Try.prog Try.f7 Rows.blockSharesRow.domain false) (Rows.blockSharesSpec.post enc Try.prog Try.f7 false true false false) := by
  refine returnsInHanded_of_change (C := Try.checked) own started (by kernel_rfl) Try.func7
    (ChangeSpec.witness6 (enc := enc) (C := Try.checked) false ⟨#[], #[.string ByteArray.empty, .int .u8 0], []⟩ 8 (by kernel_rfl) (by kernel_rfl) (by kernel_rfl) (by kernel_rfl)) ?_
  intro W base args ds gs before hval0 hW hcnd _
  have hval : ∀ (j : Nat) t v, Try.f7.params[j]? = some t → args[j]? = some v → Value.okWide Try.prog W .any base t v := hval0
  have hW' := hW
  obtain ⟨p, q, hA0, hV, rfl, hfz, hnd⟩ := hW
  have hA : DataW.TrodAll enc Try.prog W 0 (fun _ => true) true Try.f7.params.toList args.toList ds p := hA0
  rw [Try.params7] at hA hval
  obtain ⟨v0, vs0, d0, ds0, p0, q0_, hargs, rfl, rfl, h0, r0_⟩ := trodAll_cons hA
  obtain ⟨v1, vs1, d1, ds1, p1, q1_, rfl, rfl, rfl, h1, r1_⟩ := trodAll_cons r0_
  obtain ⟨rfl, rfl, rfl⟩ := trodAll_nil r1_
  obtain rfl : args = #[v0, v1] := by cases args; simp_all
  obtain ⟨rfl, rfl⟩ := trodVars_none hV
  have kk0 := h0
  have lt0 : ∀ x ∈ p0, x.block < W.heap.size := by obtain ⟨m, hm⟩ := kk0; exact DataW.trod_lt m _ _ _ hm
  have kk1 := h1
  have lt1 : ∀ x ∈ p1, x.block < W.heap.size := by obtain ⟨m, hm⟩ := kk1; exact DataW.trod_lt m _ _ _ hm
  obtain ⟨a0, e0, _, _, w0⟩ := open_string Try.underlying9 (hval 0 _ v0 rfl rfl) h0
  subst e0
  obtain ⟨a1, e1, _, _, w1⟩ := open_int Try.underlying5 (hval 1 _ v1 rfl rfl) h1
  subst e1
  replace w1 := bounds_u8 w1
  obtain ⟨a1, rfl⟩ := Int.eq_ofNat_of_zero_le w1.1
  clear hA0 hval0
  refine (walk a0 a1 W w0 w1.2).mono fun e W' ⟨he, bel⟩ => ?_
  subst he
  exact ⟨_, rfl, _, _, _, [], _, [], hW', trodAll_mk1 (shut_bool Try.underlying4 _), (trodAll_cons_mk (Below.trod laidOut (by kernel_rfl) (of_decide_eq_true (by kernel_rfl)) kk0 bel lt0) (trodAll_cons_mk (Below.trod laidOut (by kernel_rfl) (of_decide_eq_true (by kernel_rfl)) kk1 bel lt1) trodAll_mk0)), rfl, bel.frame _, fun h => by cases h⟩

theorem over : Rows.blockSharesRow.holds Try.pinned (OpenSpec.ofChange Rows.blockSharesSpec) :=
  OpenClaim.holds_of_wide 7 Try.f7 rfl rfl rfl rfl rfl rfl rfl ⟨rfl, rfl, rfl, rfl, rfl⟩ rfl rfl rfl rfl rfl (by kernel_rfl) Try.func7 (by kernel_rfl)
    (of_decide_eq_true (by kernel_rfl)) (by unfold Func.isWrapper; first | (rw [if_pos (by decide +kernel)]; kernel_rfl) | (rw [if_neg (by decide +kernel)]; exact ⟨rfl, rfl⟩))
    (fun os started H enc _ => lifted os started H enc)

/-- The statement. -/
theorem proved : Rows.BlockSharesSaid := over
#print axioms proved
end Go.Proofs.Ytfbmphaabdhphaa.blockShares
