/-
  The reference: the form of a table; the contracts of right and Build.
-/
import Derived.Test.YtkdjjdkcogolmaaGreatDoorR5
namespace Go.Proofs.YtkdjjdkcogolmaaGreatDoor
set_option maxRecDepth 100000
open Go.RowKit Go.Shelf
set_option linter.unusedVariables false

theorem RdE.slice_lohi {w : World} {B n c : Nat} {A : Option Addr} {L : List Ent} (h : RdE w B A n c L) (kl kh : IntKind) {i k : Nat} (hi : i ≤ k) (hk : k ≤ n) :
    ∃ A' c', (∀ W, (Instr.slice 23 (.slice A n c) (some (.int kl (i : Int))) (some (.int kh (k : Int))) none).run Tryz.prog W = .ok (.slice A' (k - i) c') W) ∧ RdE w B A' (k - i) c' ((L.drop i).take (k - i)) := by
  refine ⟨_, _, fun W => ?_, (h.back (k := i) (by omega)).front (k := k - i) (by omega)⟩
  obtain ⟨j, hj, hz0, hz1, hz2⟩ := info_parts info_en
  have hc : k ≤ c := Nat.le_trans hk h.cap
  simp [Instr.slice, Instr.sliceBounds, run_underlying Tryz.underlying23, run_sliceBound, hc, hi, sizeOf, typeInfo, hj, hz1]
theorem chN_cut {L : List Ent} {j n : Nat} (hn : L.length = n) (hj : 16 * j ≤ n) : chN L j = (L.drop (16 * j)).take (min (16 * j + 16) n - 16 * j) := by
  unfold chN
  rcases Nat.le_total (16 * j + 16) n with h | h
  · rw [Nat.min_eq_left h, Nat.add_sub_cancel_left]
  · rw [Nat.min_eq_right h, List.take_of_length_le (by rw [List.length_drop]; omega), List.take_of_length_le (by rw [List.length_drop]; omega)]
theorem chN_last {L : List Ent} {j n E : Nat} (hn : L.length = n) (hj : 16 * j < n) (hE : min (16 * j + 16) n = E + 1) : L[E]? = some (lastE (chN L j)) := by
  have h1 : (chN L j).length = E + 1 - 16 * j := by rw [chN_cut hn (by omega), hE, List.length_take, List.length_drop]; omega
  have h2 := lastE_of (one := chN L j) (by omega)
  rw [h1, chN_cut hn (by omega), hE, List.getElem?_take, if_pos (by omega), List.getElem?_drop, show 16 * j + (E + 1 - 16 * j - 1) = E by omega] at h2
  rw [h2, chN_cut hn (by omega), hE]

set_option maxRecDepth 100000 in
set_option maxHeartbeats 2000000 in
theorem refTabRight_c {w : World} {B n c : Nat} {A : Option Addr} {L : List Ent} (h : RdE w B A n c L) (hB : B ≤ w.heap.size) (hn : (n : Int) ≤ 70368744000000) :
    Calls Tryz.prog 27 #[.slice A n c] w (RetVl w (.bool (tblB L))) := by
  have hl := h.len
  have HO := fun W (x : Ent) => refEntry_c W x.s x.q x.k x.v
  unfold en at HO
  have HO := Lib.hid HO
  have HR := Lib.hid fun W (hW : Below w.heap.size w W) => refRising_c (h.below hW hB) (Nat.le_trans hB hW.size) hn
  have HG : ∀ k, k = n → L.all entB = true → tblB L = (decide (1 ≤ k) && (decide (k ≤ 8192) && risB L)) := fun k hk ha => by subst hk; unfold tblB; rw [hl, ha]; rfl
  have HG := Lib.hid HG
  have HGN : L.all entB = false → tblB L = false := fun ha => by unfold tblB; rw [ha]; simp
  have HGN := Lib.hid HGN
  go_enter Tryz.func27, Tryz.ntmps27
  go_wp2_with fail
  go_loopw [3] (fun iv wr => ∃ k : Nat, iv = .int .i64 (k : Int) ∧ k ≤ n ∧ (∀ i a, i < k → L[i]? = some a → entB a = true) ∧ Below w.heap.size w wr) (fun iv _ => ((n : Int) - intOf iv).toNat)
  case atStart => exact ⟨0, rfl, by omega, fun i a hi => by omega, Below.refl _ _⟩
  case round =>
    obtain ⟨k, rfl, hkn, hall, hbr⟩ := hrel
    by_cases hlt : k < n
    · obtain ⟨b, off, hA, hbB, hcell⟩ := h.form (by omega)
      subst hA
      obtain ⟨x, hx⟩ : ∃ x, L[k]? = some x := ⟨L[k]'(by omega), List.getElem?_eq_getElem _⟩
      have hk (i : Nat) : wr.cell? ⟨b, i, none⟩ = w.cell? ⟨b, i, none⟩ := hbr.cell (by simp; omega)
      obtain ⟨x0, x1, x2, x3⟩ := hcell k x hx
      rw [← hk] at x0 x1 x2 x3
      have hki : (k : Int) < (n : Int) := by omega
      have hk0 : (0 : Int) ≤ (k : Int) := by omega
      have HX := Lib.hid hx
      have HALL := Lib.hid hall
      have HO2 := Lib.hid (HO.out wr x)
      have HBR := Lib.hid hbr
      clear hcell hk hx hkn hall h hl hbr HO HR
      go_wp2_with fail
      refine HO2.out.mono ?_
      rintro e w2 ⟨rfl, hb2⟩
      have hb3 : Below w.heap.size w w2 := bon HBR.out hb2
      clear hb2 HO2 x0 x1 x2 x3
      generalize hox : entryB x.s x.q x.k x.v = ox at *
      have HOX := Lib.hid hox
      clear hox
      cases ox with
      | true =>
        go_wp2_with fail
        go_roundw
        case rel =>
          refine ⟨k + 1, by simp, by omega, fun i a hi ha => ?_, hb3⟩
          rcases Nat.lt_or_ge i k with h3 | h3
          · exact HALL.out i a h3 ha
          · obtain rfl : i = k := by omega
            rw [HX.out] at ha
            cases ha
            exact HOX.out
        case measure => simp [intOf]; omega
      | false =>
        have hno : L.all entB = false := allE_no HX.out HOX.out
        have hno : tblB L = false := HGN.out hno
        have HNO := Lib.hid hno
        clear hno
        go_wp2_with fail
        go_ret
        exact RetVl.bool HNO.out.symm hb3
    · have hki : ¬ (k : Int) < (n : Int) := by omega
      have hyes : L.all entB = true := allE_yes hl (fun i a hi ha => hall i a (by omega) ha)
      have hyes := HG.out n rfl hyes
      have HY := Lib.hid hyes
      have HR2 := Lib.hid (HR.out wr hbr)
      clear hyes hall h hl HO HR hkn
      by_cases h1 : 1 ≤ n
      case neg =>
        have d1 : decide ((1 : Int) ≤ (n : Int)) = false := by simp; omega
        have d1' : decide (1 ≤ n) = false := by simpa using h1
        have HD := Lib.hid d1'
        have hno : tblB L = false := by rw [HY.out, d1']; rfl
        have HNO := Lib.hid hno
        clear hno
        go_wp2_with fail
        go_ret
        first | exact RetVl.bool HNO.out.symm hbr | exact RetVl.bool rfl hbr
      have d1 : decide ((1 : Int) ≤ (n : Int)) = true := by simp; omega
      have d1' : decide (1 ≤ n) = true := by simpa using h1
      have HD := Lib.hid d1'
      by_cases h2 : n ≤ 8192
      case neg =>
        have d2 : decide ((n : Int) ≤ 8192) = false := by simp; omega
        have d2' : decide (n ≤ 8192) = false := by simpa using h2
        have hno : tblB L = false := by rw [HY.out, d1', d2']; rfl
        have HNO := Lib.hid hno
        clear hno
        go_wp2_with fail
        go_ret
        first | exact RetVl.bool HNO.out.symm hbr | exact RetVl.bool rfl hbr
      have d2 : decide ((n : Int) ≤ 8192) = true := by simp; omega
      have d2' : decide (n ≤ 8192) = true := by simpa using h2
      have hno : tblB L = risB L := by rw [HY.out, d1', d2']; rfl
      have HNO := Lib.hid hno
      clear hno
      go_wp2_with fail
      refine HR2.out.mono ?_
      rintro e w2 ⟨rfl, hb2⟩
      have hb3 := bon hbr hb2
      clear hb2 HR2
      go_wp2_with fail
      go_ret
      exact RetVl.bool HNO.out.symm hb3
set_option maxRecDepth 100000 in
set_option maxHeartbeats 8000000 in
theorem refTBuild_c {w : World} {B n c : Nat} {A : Option Addr} {L : List Ent} (h : RdE w B A n c L) (hB : B ≤ w.heap.size) (hn : (n : Int) ≤ 70368744000000) :
    Calls Tryz.prog 10 #[.slice A n c] w (RetBE w (bltL L) (bltE L)) := by
  have HR := Lib.hid (refTabRight_c h hB hn)
  by_cases hb : tblB L = true
  case neg =>
    have e1 : bltL L = [] := if_neg hb
    have e2 : bltE L = 80 := if_neg hb
    have hb : tblB L = false := by simpa using hb
    rw [hb] at HR
    rw [e1, e2]
    clear h hb e1 e2
    go_enter Tryz.func10, Tryz.ntmps10
    go_wp2_with fail
    refine HR.out.mono ?_
    rintro e w1 ⟨rfl, hb1⟩
    go_wp2_with fail
    go_ret2
    exact ⟨none, 0, 0, rfl, Fr.nil, hb1⟩
  have e1 : bltL L = tabL L := if_pos hb
  have e2 : bltE L = 0 := if_pos hb
  rw [hb] at HR
  rw [e1, e2]
  obtain ⟨h1, h2, h3, _⟩ := tblB_iff.1 hb
  have hl := h.len
  have hn8 : n ≤ 8192 := by omega
  have hni : (n : Int) ≤ 8192 := by omega
  have hn1 : 1 ≤ n := by omega
  have HFL := Lib.hid fun k (hk : k ≤ cntL L) => (show (frL (chK L k)).length ≤ 13000000 by
    have a := (frL_len (chK_blk hb hk)).1
    have b := cnt_le hb
    rw [chK_len] at a
    omega)
  have HLL := Lib.hid fun k (hk : k ≤ cntL L) => (show (linL 0 (chK L k)).length ≤ 60000 by
    have a := linL_len 0 (chK_blk hb hk)
    have b := cnt_le hb
    rw [chK_len] at a
    omega)
  have HCH := Lib.hid fun k (hk : k < cntL L) => chN_blk hb hk
  have HCN := Lib.hid (show cntL L ≤ 512 ∧ cntL L = (n + 15) / 16 by have := cnt_le hb; unfold cntL at *; rw [hl] at *; omega)
  have HH := Lib.hid (h.more hB)
  have HL := Lib.hid hl
  have HTAB := Lib.hid (show tabL L = frL (chK L (cntL L)) ++ (sealL (shortL (cntL L) ++ linL 0 (chK L (cntL L))) ++ (fourL (frL (chK L (cntL L))).length ++ (fourL n ++ [82, 84, 76, 49]))) by
    unfold tabL idxL ftL chL
    rw [chK_len, hl])
  clear h hb e1 e2 h1 h2 h3 hl hB
  go_enter Tryz.func10, Tryz.ntmps10
  go_wp2_with fail
  refine HR.out.mono ?_
  rintro e w1 ⟨rfl, hb1⟩
  go_wp2_with fail
  go_loopw [4, 5, 6, 7] (fun ov xv mv iv wr => ∃ (j I m1 c1 m2 c2 : Nat) (A1 A2 : Option Addr), ov = .slice A1 m1 c1 ∧ xv = .slice A2 m2 c2 ∧ mv = .int .u64 (j : Int) ∧ iv = .int .i64 (I : Int) ∧ I = 16 * j ∧ j ≤ cntL L ∧ Fr wr w.heap.size 5 A1 m1 c1 (bv (frL (chK L j))) ∧ Rd wr wr.heap.size A2 m2 c2 (bv (linL 0 (chK L j))) ∧ Below w.heap.size w wr) (fun _ _ _ iv _ => ((n : Int) + 16 - intOf iv).toNat)
  case atStart => exact ⟨0, 0, 0, 0, 0, 0, none, none, rfl, rfl, rfl, rfl, rfl, Nat.zero_le _, Fr.nil, Rd.nilv, hb1⟩
  case round =>
    clear hb1 HR
    obtain ⟨j, I, m1, c1, m2, c2, A1, A2, rfl, rfl, rfl, rfl, hI, hjc, f1, f2, gr⟩ := hrel
    have hm1 : m1 ≤ 13000000 := ret_len f1 (HFL.out j hjc)
    have hm2 : m2 ≤ 60000 := by have := f2.len; have := HLL.out j hjc; rw [bv_length] at *; omega
    have hm1l : (frL (chK L j)).length = m1 := by have := f1.len; rw [bv_length] at this; exact this
    have hm1i : (m1 : Int) ≤ 13000000 := by omega
    by_cases hlt : I < n
    · have hki : (I : Int) < (n : Int) := by omega
      have hk0 : (0 : Int) ≤ (I : Int) := by omega
      have hIi : (I : Int) ≤ 8192 := by omega
      have hj2 : j < cntL L := by have := HCN.out.2; omega
      have hji : (j : Int) ≤ 512 := by have := HCN.out.1; omega
      obtain ⟨hbo, hl16, hl1⟩ := HCH.out j hj2
      obtain ⟨E, hE⟩ : ∃ E, min (16 * j + 16) n = E + 1 := ⟨min (16 * j + 16) n - 1, by omega⟩
      have hcut := chN_cut HL.out (j := j) (by omega)
      have hlast := chN_last HL.out (by omega) hE
      rw [hE, ← hI] at hcut
      have hEn : E < n := by omega
      have hIE : I ≤ E := by omega
      have hrt := lastE_right hbo
      have hbl := blkL_len hbo
      have hl3 := (bkL_len hbo).1
      obtain ⟨one, hone⟩ : ∃ one, chN L j = one := ⟨_, rfl⟩
      have hstep : frL (chK L (j + 1)) = frL (chK L j) ++ bkL one ∧ linL 0 (chK L (j + 1)) = linL 0 (chK L j) ++ (formL (lastE one).s (lastE one).q (lastE one).k ++ (shortL m1 ++ shortL (bkL one).length)) := by
        rw [chK_succ, frL_snoc, linL_snoc, hone, Nat.zero_add, hm1l]
        exact ⟨rfl, rfl⟩
      rw [hone] at hbo hl16 hl1 hcut hlast hrt hbl hl3
      obtain ⟨x, hx⟩ : ∃ x, lastE one = x := ⟨_, rfl⟩
      rw [hx] at hlast hrt hstep
      have HST := Lib.hid hstep
      have HBO := Lib.hid hbo
      have HRT := Lib.hid hrt
      have HBL := Lib.hid hbl
      have HBK := Lib.hid hl3
      have HLA := Lib.hid hlast
      have HCU := Lib.hid hcut
      have HFN := Lib.hid hm1l
      have HEE := Lib.hid hE
      have HII := Lib.hid hI
      have HFM := Lib.hid (formL_len hrt)
      have he16 : (E : Int) + 1 = if (n : Int) < (I : Int) + 16 then (n : Int) else (I : Int) + 16 := by split <;> omega
      have F1 := Lib.hid f1
      have F2 := Lib.hid f2
      have GR := Lib.hid gr
      clear hbo hl16 hl1 hcut hlast hrt hbl hl3 hstep hone hx hm1l hE f1 f2 gr hI
      go_upto_if 27 with fail
      go_cut [8] from 24 to 29 (fun ev wx => ev = .int .i64 ((E : Int) + 1) ∧ wx = wr)
      case first =>
        by_cases h16 : (n : Int) < (I : Int) + 16
        · have d1 : decide ((n : Int) < (I : Int) + 16) = true := by simpa using h16
          rw [if_pos h16] at he16
          have HQ := Lib.hid he16
          clear he16
          go_wp2_with fail
          all_goals first
            | (exfalso; omega)
            | (go_meet; exact ⟨by rw [HQ.out], rfl⟩)
        · have d1 : decide ((n : Int) < (I : Int) + 16) = false := by simpa using h16
          rw [if_neg h16] at he16
          have HQ := Lib.hid he16
          clear he16
          go_wp2_with fail
          all_goals first
            | (exfalso; omega)
            | (go_meet; exact ⟨by rw [HQ.out], rfl⟩)
      case rest =>
      obtain ⟨rfl, rfl⟩ := hcut
      clear he16
      obtain ⟨A9, c9, hs9, hr9⟩ := (HH.out.now GR.out).slice_lohi .i64 .i64 (i := I) (k := E + 1) (by omega) (by omega)
      rw [← HCU.out] at hr9
      rw [show ((E + 1 : Nat) : Int) = (E : Int) + 1 by omega] at hs9
      have HB := Lib.hid (refBuild_c hr9 (Nat.le_refl _) (by omega))
      rw [show bldL one = blkL one from if_pos HBO.out, show bldE one = 0 from if_pos HBO.out] at HB
      obtain ⟨k9, hk9⟩ : ∃ k9, E + 1 - I = k9 := ⟨_, rfl⟩
      rw [hk9] at hs9 HB
      clear hr9 hk9
      go_wp2_with fail
      refine HB.out.mono ?_
      rintro e w2 ⟨A3, n3, c3, rfl, hf3, hb3⟩
      have hn3 : n3 ≤ 24000 := ret_len hf3 (by have := HBL.out; omega)
      have HS := Lib.hid (refSeal_c (hf3.rd (Nat.le_refl _)) (Nat.le_refl _) (by omega))
      have HB3 := Lib.hid hb3
      clear hf3 hb3 HB hs9
      go_wp2_with fail
      refine HS.out.mono ?_
      rintro e w3 ⟨A4, n4, c4, rfl, hf4, hb4⟩
      have hn4l : (bkL one).length = n4 := by have := hf4.len; rw [bv_length] at this; exact this
      have hn4 : n4 ≤ 24008 := by have := HBK.out; omega
      have b3 := bon HB3.out hb4
      have g3 := bon GR.out b3
      have R4 := Lib.hid (hf4.rd (Nat.le_refl _))
      have F13 := Lib.hid (F1.out.below b3)
      obtain ⟨b, off, hA, hbB, hcell⟩ := (HH.out.now g3).form (by omega)
      subst hA
      obtain ⟨x0, x1, x2, x3⟩ := hcell E x HLA.out
      have HP3 := Lib.hid (refPut3_c (F2.out.now b3) (Nat.le_refl _) (by omega) x.s x.q x.k)
      rw [show putL (linL 0 (chK L j)) x.s x.q x.k = linL 0 (chK L j) ++ formL x.s x.q x.k from if_pos HRT.out] at HP3
      unfold ik at HP3
      have G3 := Lib.hid g3
      have B3 := Lib.hid b3
      have hE0 : (0 : Int) ≤ (E : Int) := by omega
      have hEl : (E : Int) < (n : Int) := by omega
      have hEi : (E : Int) ≤ 8192 := by omega
      have hwE : IntKind.i64.wrap (E : Int) = (E : Int) := wrapi _ (by omega) (by omega)
      have hwm : IntKind.u64.wrap (m1 : Int) = (m1 : Int) := by rw [wrapu]; omega
      have hn4i : (n4 : Int) ≤ 24008 := by omega
      have hw4 : IntKind.u64.wrap (n4 : Int) = (n4 : Int) := by rw [wrapu]; omega
      have hwj : IntKind.u64.wrap ((j : Int) + 1) = (j : Int) + 1 := by rw [wrapu]; omega
      have HN4 := Lib.hid hn4l
      have HOW := Lib.hid (show ∀ i, (Value.slice A1 m1 c1).ownBlock = some i → i < w3.heap.size from fun i hi => (F13.out.own.lt i hi).2)
      clear hf4 hb4 HS hcell hbB b3 g3 hn4l HB3 F1
      go_wp2_with fail
      refine HP3.out.mono ?_
      rintro e w4 ⟨A5, n5, c5, rfl, hf5, hb5⟩
      have hn5 : n5 ≤ 60100 := ret_len hf5 (by rw [List.length_append]; have := HLL.out j hjc; have := HFM.out; omega)
      have HP4 := Lib.hid (refPut_c (hf5.rd (Nat.le_refl _)) (by omega) (m1 : Int) (by omega) (by omega))
      rw [Int.toNat_natCast] at HP4
      have B4 := Lib.hid hb5
      clear hf5 hb5 HP3 x0 x1 x2 x3
      go_wp2_with fail
      refine HP4.out.mono ?_
      rintro e w5 ⟨A6, n6, c6, rfl, hf6, hb6⟩
      have hn6 : n6 ≤ 60200 := ret_len hf6 (by simp only [List.length_append]; have := HLL.out j hjc; have := HFM.out; have := shortL_len m1; omega)
      have HP5 := Lib.hid (refPut_c (hf6.rd (Nat.le_refl _)) (by omega) (n4 : Int) (by omega) (by omega))
      rw [Int.toNat_natCast] at HP5
      have B5 := Lib.hid (bon B4.out hb6)
      clear hf6 hb6 HP4 B4
      go_wp2_with fail
      refine HP5.out.mono ?_
      rintro e w6 ⟨A7, n7, c7, rfl, hf7, hb7⟩
      have b6 := bon B5.out hb7
      have f16 := F13.out.below b6
      have r46 := R4.out.now b6
      have G6 := Lib.hid (bon G3.out b6)
      have hown7 : ∀ i, (Value.slice A7 n7 c7).ownBlock = some i → w5.heap.size ≤ i := fun i hi => (hf7.own.lt i hi).1
      have HOW2 := Lib.hid (show ∀ i, (Value.slice A7 n7 c7).ownBlock = some i → (Value.slice A1 m1 c1).ownBlock ≠ some i from fun i h3 h1 => by have := hown7 i h3; have := HOW.out i h1; have := B5.out.size; omega)
      have F7 := Lib.hid hf7
      clear hf7 hb7 HP5 b6 hown7 HOW B5 F13 R4 B3
      go_wp2_with (at_builtin; refine wpList_app rfl (.tmp 57) (.tmp 58) _ rfl Tryz.underlying24 info_u8 rfl rfl f16 rfl r46 (bv_one _) (by omega) (by omega) G6.out.size ?_; intro A8 c8 w7 hap)
      have hf8 := hap.fr
      rw [← bv_append] at hf8
      have r7 : Rd w7 w7.heap.size A7 n7 c7 (bv (linL 0 (chK L j) ++ formL x.s x.q x.k ++ shortL m1 ++ shortL n4)) := (F7.out.grown hap.grown HOW2.out).rd (Nat.le_refl _)
      have G7 := Lib.hid (G6.out.trans hap.below)
      have F8 := Lib.hid hf8
      have R7 := Lib.hid r7
      clear hap hf8 r7 f16 r46 HOW2 F7
      go_wp2_with fail
      go_roundw
      case rel =>
        refine ⟨j + 1, I + 16, m1 + n4, c8, n7, c7, A8, A7, rfl, rfl, by simp, by simp, by have := HII.out; omega, by omega, ?_, ?_, G7.out⟩
        · rw [HST.out.1]; exact F8.out
        · rw [HST.out.2, HN4.out]
          simpa only [List.append_assoc] using R7.out
      case measure => simp [intOf]; omega
    · have hki : ¬ (I : Int) < (n : Int) := by omega
      obtain rfl : j = cntL L := by have := HCN.out.2; omega
      have HT := Lib.hid HTAB.out
      have hji : ((cntL L : Nat) : Int) ≤ 512 := by have := HCN.out.1; omega
      have hll := HLL.out _ hjc
      generalize frL (chK L (cntL L)) = FR at *
      generalize linL 0 (chK L (cntL L)) = LN at *
      generalize cntL L = q at *
      have HSH := Lib.hid (shortL_len q)
      have HLN := Lib.hid hll
      have HP := Lib.hid (refPut_c (w := wr) (B := 0) (l := []) Rd.nilv (by decide) (q : Int) (by omega) (by omega))
      rw [Int.toNat_natCast, List.nil_append] at HP
      have hwm : IntKind.u32.wrap (m1 : Int) = (m1 : Int) := wrap32 _ (by omega) (by omega)
      have hwn : IntKind.u32.wrap (n : Int) = (n : Int) := wrap32 _ (by omega) (by omega)
      have F1 := Lib.hid f1
      have F2 := Lib.hid f2
      have GR := Lib.hid gr
      have HFN := Lib.hid hm1l
      clear f1 f2 gr hm1l hll HTAB HFL HLL HCH HCN hjc hI hlt HL
      go_wp2_with fail
      refine HP.out.mono ?_
      rintro e w2 ⟨A3, n3, c3, rfl, hf3, hb3⟩
      have hn3 : n3 ≤ 10 := ret_len hf3 HSH.out
      have r2 := F2.out.now hb3
      have B3 := Lib.hid hb3
      have hs2 := hb3.size
      have hsmall : n3 + m2 ≤ 70000 := by omega
      clear hb3 HP
      go_wp2_with (at_builtin; refine wpList_app rfl (.tmp 67) (.tmp 68) _ rfl Tryz.underlying24 info_u8 rfl rfl hf3 rfl r2 (bv_one _) (by omega) (by omega) hs2 ?_; intro A4 c4 w3 hap)
      have hf4 := hap.fr
      rw [← bv_append] at hf4
      have B4 := Lib.hid (B3.out.trans hap.below)
      have HS := Lib.hid (refSeal_c (hf4.rd (Nat.le_refl _)) (Nat.le_refl _) (by omega))
      clear hap hf4 hf3 r2 hs2
      refine HS.out.mono ?_
      rintro e w4 ⟨A5, n5, c5, rfl, hf5, hb5⟩
      have hn5 : n5 ≤ 60100 := ret_len hf5 (by rw [sealL_len, List.length_append]; have := HSH.out; have := HLN.out; omega)
      have b5 := bon B4.out hb5
      have f15 := F1.out.below b5
      have r5 := hf5.rd (Nat.le_refl _)
      have G5 := Lib.hid (bon GR.out b5)
      have hs5 := G5.out.size
      clear hf5 hb5 b5 HS B4 B3 F1
      go_wp2_with (at_builtin; refine wpList_app rfl (.tmp 65) (.tmp 70) _ rfl Tryz.underlying24 info_u8 rfl rfl f15 rfl r5 (bv_one _) (by omega) (by omega) hs5 ?_; intro A6 c6 w5 hap)
      have hf6 := hap.fr
      rw [← bv_append] at hf6
      have G6 := Lib.hid (G5.out.trans hap.below)
      have HQ := Lib.hid (refPutFour_c (hf6.rd (Nat.le_refl _)) (by omega) (m1 : Int) (by omega) (by omega))
      rw [Int.toNat_natCast] at HQ
      clear hap hf6 f15 r5 hs5
      go_wp2_with fail
      refine HQ.out.mono ?_
      rintro e w6 ⟨A7, n7, c7, rfl, hf7, hb7⟩
      have hn7 : n7 ≤ 13070000 := ret_len hf7 (by have h1 := hf7.len; simp only [List.length_append, sealL_len, fourL_len]; have := HFN.out; have := HSH.out; have := HLN.out; omega)
      have HQ2 := Lib.hid (refPutFour_c (hf7.rd (Nat.le_refl _)) (by omega) (n : Int) (by omega) (by omega))
      rw [Int.toNat_natCast] at HQ2
      have G7 := Lib.hid (bon G6.out hb7)
      clear hf7 hb7 HQ
      go_wp2_with fail
      refine HQ2.out.mono ?_
      rintro e w7 ⟨A8, n8, c8, rfl, hf8, hb8⟩
      have hn8b : n8 ≤ 13070010 := ret_len hf8 (by simp only [List.length_append, sealL_len, fourL_len]; have := HFN.out; have := HSH.out; have := HLN.out; omega)
      have f8 := (hf8.mono G7.out.size).alloc (.cells #[.int .u8 82, .int .u8 84, .int .u8 76, .int .u8 49] 5)
      have r8 := Rd.litb w7 [82, 84, 76, 49] (g := w7.heap.size) (vs := #[.int .u8 82, .int .u8 84, .int .u8 76, .int .u8 49]) rfl (by rfl) rfl (by decide)
      have G8 := Lib.hid (blit (bon G7.out hb8) (.cells #[.int .u8 82, .int .u8 84, .int .u8 76, .int .u8 49] 5))
      have hs8 := G8.out.size
      clear hf8 hb8 HQ2
      go_wp2_with (at_builtin; refine wpList_app rfl (.tmp 79) (.tmp 80) _ rfl Tryz.underlying24 info_u8 rfl rfl f8 rfl r8 (bv_one _) (by omega) (by omega) hs8 ?_; intro A9 c9 w8 hap)
      have hf9 := hap.fr
      rw [← bv_append] at hf9
      have HF9 := Lib.hid hf9
      have G9 := Lib.hid (G8.out.trans hap.below)
      clear hap hf9 f8 r8 hs8
      go_wp2_with fail
      go_ret2
      refine ⟨A9, n8 + 4, c9, rfl, ?_, G9.out⟩
      rw [HT.out, HFN.out]
      simpa only [List.append_assoc] using HF9.out
end Go.Proofs.YtkdjjdkcogolmaaGreatDoor
