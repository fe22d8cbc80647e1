/-
  The reference: the contract of Build.
-/
import Derived.Test.YtfbmphaabdhphaaR1
import Derived.Test.YtfbmphaabdhphaaIter4
import Derived.Deep.Cut
import Derived.Deep.CutRange
namespace Go.Proofs.Ytfbmphaabdhphaa
set_option maxRecDepth 100000
open Go.RowKit Go.Shelf
set_option linter.unusedVariables false

theorem Rd.nowB {w w' : World} {B n c : Nat} {A : Option Addr} {l : List UInt8} (h : Rd w B A n c (bv l)) (hB : B ≤ w.heap.size) (hb : Below w.heap.size w w') : Rd w' w'.heap.size A n c (bv l) := (h.under hb hB).more (Nat.le_trans hB hb.size)
set_option maxRecDepth 100000 in
set_option maxHeartbeats 8000000 in
theorem refBuild_c {w : World} {B n c : Nat} {A : Option Addr} {L : List Ent} (h : RdE w B A n c L) (hB : B ≤ w.heap.size) (hn : (n : Int) ≤ 70368744000000) :
    Calls Try.prog 11 #[.slice A n c] w (RetBE w (bldL L) (bldE L)) := by
  have HR := Lib.hid (refBlkRight_c h hB hn)
  by_cases hb : blkB L = true
  case neg =>
    have e1 : bldL L = [] := if_neg hb
    have e2 : bldE L = 70 := if_neg hb
    have hb : blkB L = false := by simpa using hb
    rw [hb] at HR
    rw [e1, e2]
    clear h hb e1 e2
    go_enter Try.func11, Try.ntmps11
    go_wp2_with fail
    refine HR.out.mono ?_
    rintro e w1 ⟨rfl, hb1⟩
    go_wp2_with fail
    go_ret2
    exact ⟨none, 0, 0, rfl, Fr.nil, hb1⟩
  have e1 : bldL L = blkL L := if_pos hb
  have e2 : bldE L = 0 := if_pos hb
  rw [hb] at HR
  rw [e1, e2]
  obtain ⟨h1, h2, h3, _⟩ := blkB_iff.1 hb
  have hl := h.len
  have hn64 : n ≤ 64 := by omega
  have hni : (n : Int) ≤ 64 := by omega
  have HEL := Lib.hid fun k => (show (entsL 0 noS (L.take k)).length ≤ 30000 by
    have := entsL_len (L.take k) 0 noS (fun x hx => h3 x (List.mem_of_mem_take hx))
    have : (L.take k).length ≤ 64 := by rw [List.length_take]; omega
    omega)
  have HPL := Lib.hid fun k => (show (posL 0 0 noS (L.take k)).length ≤ 200 by
    rw [posL_len0]
    have : (L.take k).length ≤ 64 := by rw [List.length_take]; omega
    omega)
  have HEB := Lib.hid h3
  have HSZ := Lib.hid (show ∀ y ∈ L, y.s.size ≤ 64 from fun y hy => (entB_parts (h3 y hy)).2.1)
  have HH := Lib.hid (h.more hB)
  have HBLK := Lib.hid (show blkL L = entsL 0 noS (L.take n) ++ (posL 0 0 noS (L.take n) ++ fourL ((n + 3) / 4)) by
    rw [blkL_eq, List.take_of_length_le (by omega), hl])
  have HL := Lib.hid hl
  clear h hb e1 e2 h1 h2 h3 hl hB
  go_enter Try.func11, Try.ntmps11
  go_wp2_with fail
  refine HR.out.mono ?_
  rintro e w1 ⟨rfl, hb1⟩
  go_wp2_with fail
  go_loopw [4, 5, 6, 7] (fun ov pv mv iv wr => ∃ (k m1 c1 m2 c2 : Nat) (A1 A2 : Option Addr), ov = .slice A1 m1 c1 ∧ pv = .slice A2 m2 c2 ∧ mv = .int .u32 (((k + 3) / 4 : Nat) : Int) ∧ iv = .int .i64 (k : Int) ∧ k ≤ n ∧ Fr wr w.heap.size 5 A1 m1 c1 (bv (entsL 0 noS (L.take k))) ∧ Rd wr wr.heap.size A2 m2 c2 (bv (posL 0 0 noS (L.take k))) ∧ Below w.heap.size w wr) (fun _ _ _ iv _ => ((n : Int) - intOf iv).toNat)
  case atStart => exact ⟨0, 0, 0, 0, 0, none, none, rfl, rfl, rfl, rfl, Nat.zero_le _, Fr.nil, Rd.nilv, hb1⟩
  case round =>
    clear hb1 HR
    obtain ⟨k, m1, c1, m2, c2, A1, A2, rfl, rfl, rfl, rfl, hkn, f1, f2, gr⟩ := hrel
    have hm1 : m1 ≤ 30000 := ret_len f1 (HEL.out k)
    have hm2 : m2 ≤ 200 := by have := f2.len; have := HPL.out k; rw [bv_length] at *; omega
    have hm1l : (entsL 0 noS (L.take k)).length = m1 := by have := f1.len; rw [bv_length] at this; exact this
    by_cases hlt : k < n
    · obtain ⟨x, hx⟩ : ∃ x, L[k]? = some x := ⟨L[k]'(by have := HL.out; omega), List.getElem?_eq_getElem _⟩
      have hmem := List.mem_of_getElem? hx
      obtain ⟨p1, p2, p3, p4, p5, p6⟩ := entB_parts (HEB.out x hmem)
      have hki : (k : Int) < (n : Int) := by omega
      have hk0 : (0 : Int) ≤ (k : Int) := by omega
      have hw1 : IntKind.u32.wrap (m1 : Int) = (m1 : Int) := wrap32 _ (by omega) (by omega)
      have hw2 : IntKind.u32.wrap ((((k + 3) / 4 : Nat) : Int) + 1) = (((k + 3) / 4 : Nat) : Int) + 1 := wrap32 _ (by omega) (by omega)
      obtain ⟨ns, hns⟩ : ∃ ns, shB k (lastK noS (L.take k)) x.s = ns := ⟨_, rfl⟩
      have hnsx : ns ≤ x.s.size := by rw [← hns]; exact (shB_ok k _ x.s).2.1
      have hq1 : IntKind.u64.wrap (ns : Int) = (ns : Int) := by rw [wrapu]; omega
      have hq2 : IntKind.u64.wrap ((x.q : Int) * 2) = (x.q : Int) * 2 := by rw [wrapu]; omega
      have hq3 : IntKind.u64.wrap (x.k : Int) = (x.k : Int) := by rw [wrapu]; omega
      have hq4 : IntKind.u64.wrap ((x.q : Int) * 2 + (x.k : Int)) = (x.q : Int) * 2 + (x.k : Int) := by rw [wrapu]; omega
      have hsl := fun W => run_from hnsx W
      have hnsi : (ns : Int) ≤ 64 := by omega
      have HFULL := Lib.hid (show ∀ (hk4 : Bool), (k % 4 == 0) = hk4 → entsL 0 noS (L.take (k + 1)) = entsL 0 noS (L.take k) ++ entL ns x ∧ posL 0 0 noS (L.take (k + 1)) = (if hk4 = true then posL 0 0 noS (L.take k) ++ fourL m1 else posL 0 0 noS (L.take k)) ∧ (k + 1 + 3) / 4 = (if hk4 = true then (k + 3) / 4 + 1 else (k + 3) / 4) by
        intro hk4 he
        by_cases h4 : k % 4 = 0
        · obtain rfl : hk4 = true := by rw [← he]; simpa using h4
          have hs := step_restart hx h4
          have hn0 : ns = 0 := by rw [← hns]; exact if_pos h4
          exact ⟨by rw [hs.1, hn0], by rw [hs.2.1, hm1l]; rfl, by rw [if_pos rfl]; omega⟩
        · obtain rfl : hk4 = false := by rw [← he]; simpa using h4
          have hs := step_sharing hx h4
          have hn0 : ns = com (lastK noS (L.take k)) x.s := by rw [← hns]; exact if_neg h4
          exact ⟨by rw [hs.1, hn0], hs.2.1, by rw [if_neg (by decide)]; omega⟩)
      have HSH := Lib.hid fun W (hW : Below w.heap.size w W) => refShared_c (HH.out.now hW) hx (by omega) HSZ.out
      simp only [hns] at HSH
      have HKV : x.k = 1 ∨ x.k = 0 := by omega
      have HKV := Lib.hid HKV
      have HEN := Lib.hid (show entL ns x = shortL ns ++ (textL (dropS x.s ns) ++ (shortL (2 * x.q + x.k) ++ (if x.k = 1 then textL x.v else []))) from rfl)
      obtain ⟨bx, ox, hA, hbB, _, z0, z1, z2, z3⟩ := HH.out.cellsAt hx
      have XC := Lib.hid fun (W : World) (hW : Below w.heap.size w W) => show W.cell? ⟨bx, ox + k * 4, none⟩ = some (.string x.s) ∧ W.cell? ⟨bx, ox + k * 4 + 1, none⟩ = some (.int .u64 (x.q : Int)) ∧ W.cell? ⟨bx, ox + k * 4 + 2, none⟩ = some (.int .u8 (x.k : Int)) ∧ W.cell? ⟨bx, ox + k * 4 + 3, none⟩ = some (.string x.v) from
        ⟨(hW.cell hbB).trans z0, (hW.cell hbB).trans z1, (hW.cell hbB).trans z2, (hW.cell hbB).trans z3⟩
      have HP2 := Lib.hid fun W B A n c l (h : Rd W B A n c (bv l)) (hn : n ≤ 70368744177664) => refPut_c h hn (ns : Int) (by omega) (by omega)
      have HT2 := Lib.hid fun W B A n c l (h : Rd W B A n c (bv l)) (hn : n ≤ 70368744100000) => refPutText_c h hn (dropS x.s ns) (by rw [dropS_size]; omega)
      have HP3 := Lib.hid fun W B A n c l (h : Rd W B A n c (bv l)) (hn : n ≤ 70368744177664) => refPut_c h hn ((x.q : Int) * 2 + (x.k : Int)) (by omega) (by omega)
      have HT3 := Lib.hid fun W B A n c l (h : Rd W B A n c (bv l)) (hn : n ≤ 70368744100000) => refPutText_c h hn x.v (by omega)
      have n2 : (ns : Int).toNat = ns := Int.toNat_natCast _
      have n3 : ((x.q : Int) * 2 + (x.k : Int)).toNat = 2 * x.q + x.k := by omega
      simp only [n2] at HP2
      simp only [n3] at HP3
      have HL1 := Lib.hid (shortL_len ns)
      have HL2 := Lib.hid (show (textL (dropS x.s ns)).length ≤ 80 by have := textL_len' (dropS x.s ns); rw [dropS_size] at this; omega)
      have HL3 := Lib.hid (shortL_len (2 * x.q + x.k))
      subst hA
      generalize entsL 0 noS (L.take k) = E at *
      generalize posL 0 0 noS (L.take k) = P at *
      have F1 := Lib.hid f1
      have F2 := Lib.hid f2
      have GR := Lib.hid gr
      have HML := Lib.hid hm1l
      clear p1 p2 p3 p4 p5 p6 hmem hx hns hnsx z0 z1 z2 z3 f1 f2 gr hm1l n2 n3 hbB
      obtain ⟨E', hE'⟩ : ∃ E', entsL 0 noS (L.take (k + 1)) = E' := ⟨_, rfl⟩
      obtain ⟨P', hP'⟩ : ∃ P', posL 0 0 noS (L.take (k + 1)) = P' := ⟨_, rfl⟩
      obtain ⟨M, hM⟩ : ∃ M, (k + 3) / 4 = M := ⟨_, rfl⟩
      obtain ⟨M', hM'⟩ : ∃ M', (k + 1 + 3) / 4 = M' := ⟨_, rfl⟩
      rw [hE', hP', hM, hM'] at HFULL
      rw [hM] at hw2 ⊢
      have HE' := Lib.hid hE'
      have HP' := Lib.hid hP'
      have HM' := Lib.hid hM'
      clear hE' hP' hM hM'
      go_upto_if 21 with fail
      go_cut [5, 6] from 19 to 28 (fun pv mv wx => ∃ (A5 : Option Addr) (m5 c5 : Nat), pv = .slice A5 m5 c5 ∧ mv = .int .u32 (M' : Int) ∧ Rd wx wx.heap.size A5 m5 c5 (bv P') ∧ Below wr.heap.size wr wx)
      case first =>
        by_cases h4 : k % 4 = 0
        · have d1 : ((k : Int) % 4 == 0) = true := by simp; omega
          have d2 : (Int.tmod (k : Int) 4 == 0) = true := by rw [Int.tmod_eq_emod_of_nonneg hk0]; simp; omega
          have d3 : (k % 4 == 0) = true := by simpa using h4
          obtain ⟨_, e2, e3⟩ := HFULL.out true d3
          rw [if_pos rfl] at e2 e3
          have E2 := Lib.hid e2
          have E3 := Lib.hid e3
          have HPF := Lib.hid (refPutFour_c F2.out (by omega) (m1 : Int) (by omega) (by omega))
          rw [Int.toNat_natCast] at HPF
          clear h4 e2 e3
          go_wp2_with fail
          refine HPF.out.mono ?_
          rintro e w5 ⟨A5, m5, c5, rfl, hf5, hb5⟩
          go_wp2_with fail
          go_meet
          exact ⟨A5, m5, c5, rfl, by rw [E3.out]; simp, by rw [E2.out]; exact hf5.rd (Nat.le_refl _), hb5⟩
        · have d1 : ((k : Int) % 4 == 0) = false := by simp; omega
          have d2 : (Int.tmod (k : Int) 4 == 0) = false := by rw [Int.tmod_eq_emod_of_nonneg hk0]; simp; omega
          have d3 : (k % 4 == 0) = false := by simpa using h4
          obtain ⟨_, e2, e3⟩ := HFULL.out false d3
          rw [if_neg (by decide)] at e2 e3
          have E2 := Lib.hid e2
          have E3 := Lib.hid e3
          clear h4 e2 e3
          go_wp2_with fail
          go_meet
          exact ⟨A2, m2, c2, rfl, by rw [E3.out], by rw [E2.out]; exact F2.out, Below.refl _ _⟩
      case rest =>
      obtain ⟨A5, m5, c5, rfl, rfl, f5, b5⟩ := hcut
      have E1 := Lib.hid (HFULL.out _ rfl).1
      have f1 := F1.out.below b5
      have gr := bon GR.out b5
      generalize hwy : wc = wy at *
      clear hwy hw1 hw2 F1 F2 GR HFULL
      have y0 := EnAt.new wy x
      obtain ⟨z0, z1, z2, z3⟩ := XC.out wy gr
      have ba := below_alloc wy (.cells #[.string x.s, .int .u64 (x.q : Int), .int .u8 (x.k : Int), .string x.v] 38)
      have F1 := Lib.hid (f1.below ba)
      have F5 := Lib.hid (f5.now ba)
      have GR := Lib.hid (bon gr ba)
      clear f1 f5 gr b5 ba
      go_upto_region 12 with (fail)
      generalize hwb : wy.alloc (.cells #[.string x.s, .int .u64 (x.q : Int), .int .u8 (x.k : Int), .string x.v] 38) = wb at *
      generalize hbe : wy.heap.size = be at *
      clear hwb hbe z0 z1 z2 z3
      have Y0 := Lib.hid y0
      have HS := Lib.hid (HSH.out wb GR.out)
      clear y0
      go_wp2_with fail
      refine HS.out.mono ?_
      rintro e w6 ⟨rfl, q6, hq6⟩
      have hb6 : Below wb.heap.size wb w6 := by rw [hq6]; exact below_drewN (Below.refl _ _) q6
      have f1 := F1.out.below hb6
      have F5b := Lib.hid (F5.out.now hb6)
      have y6 := Y0.out.below hb6
      have gr := bon GR.out hb6
      have SK : ∀ W, Below w6.heap.size w6 W → (Below w6.heap.size w6 W ∧ W.cell? ⟨be, 0, none⟩ = some (.string x.s) ∧ W.cell? ⟨be, 1, none⟩ = some (.int .u64 (x.q : Int)) ∧ W.cell? ⟨be, 2, none⟩ = some (.int .u8 (x.k : Int)) ∧ W.cell? ⟨be, 3, none⟩ = some (.string x.v)) :=
        fun W hW => ⟨hW, (y6.below hW).cells⟩
      have HSK := Lib.hid SK
      have Y6 := Lib.hid y6
      have HPO := Lib.hid fun W (hW : Below w6.heap.size w6 W) => HP2.out W _ A1 m1 c1 E ((f1.below hW).rd (Nat.le_refl _)) (by omega)
      have F1b := Lib.hid f1
      have GRb := Lib.hid gr
      have hs0 : Below w6.heap.size w6 w6.drew := below_drewN (Below.refl _ _) 1
      clear hq6 hb6 f1 y6 gr SK HS F1 F5 GR Y0
      go_wp2_with fail
      go_region_held3 (fun w' => Below w6.heap.size w6 w' ∧ w'.cell? ⟨be, 0, none⟩ = some (.string x.s) ∧ w'.cell? ⟨be, 1, none⟩ = some (.int .u64 (x.q : Int)) ∧ w'.cell? ⟨be, 2, none⟩ = some (.int .u8 (x.k : Int)) ∧ w'.cell? ⟨be, 3, none⟩ = some (.string x.v))
        ((first | assumption | exact HSK.out _ (by assumption) | exact HSK.out _ hs0))
        (first
        | (go_at_call 28; refine (HPO.out _ (And.left (by assumption))).mono ?_; rintro e w7 ⟨A7, m7, c7, rfl, hf7, hb7⟩; have hm7 := (ret_len hf7 (m := 30020) (by rw [List.length_append, HML.out]; have := HL1.out; omega)); have hb8 : Below w6.heap.size w6 w7 := bon (And.left (by assumption)) hb7)
        | (go_at_call 27; refine (HT2.out _ _ A7 m7 c7 (E ++ shortL ns) (hf7.rd (Nat.le_refl _)) (by omega)).mono ?_; rintro e w9 ⟨A9, m9, c9, rfl, hf9, hb9⟩; have hb10 : Below w6.heap.size w6 w9 := bon hb8 hb9; have hf10 : Fr w9 w.heap.size 5 A9 m9 c9 (bv (E ++ shortL ns ++ textL (dropS x.s ns))) := hf9.mono (Nat.le_trans GRb.out.size hb8.size)))
      have y9 := Y6.out.below hb10
      have F9 := Lib.hid hf10
      have F5c := Lib.hid (F5b.out.now hb10)
      have G9 := Lib.hid (bon GRb.out hb10)
      have hm9 : m9 ≤ 30200 := ret_len hf10 (by rw [List.length_append, List.length_append, HML.out]; have := HL1.out; have := HL2.out; omega)
      have HPP := Lib.hid (HP3.out w9 _ A9 m9 c9 _ (hf10.rd (Nat.le_refl _)) (by omega))
      clear hf7 hb7 hf9 hb9 hf10 hb8 hb10 hs0 F1b GRb F5b Y6 HSK HPO HP2 HT2 HP3
      obtain ⟨j0, j1, j2, j3⟩ := y9.cells
      have Y9 := Lib.hid y9
      clear y9
      go_wp2_with fail
      refine HPP.out.mono ?_
      rintro e w10 ⟨A10, m10, c10, rfl, hf10, hb10⟩
      have y10 := Y9.out.below hb10
      have hm10 : m10 ≤ 30300 := ret_len hf10 (by simp only [List.length_append, HML.out]; have := HL1.out; have := HL2.out; have := HL3.out; omega)
      have HTT := Lib.hid (HT3.out w10 _ A10 m10 c10 _ (hf10.rd (Nat.le_refl _)) (by omega))
      have F10 := Lib.hid (hf10.mono G9.out.size)
      have F5d := Lib.hid (F5c.out.now hb10)
      have G10 := Lib.hid (bon G9.out hb10)
      clear hf10 hb10 HPP HT3 F9 F5c G9 Y9 j0 j1 j2 j3
      obtain ⟨j0, j1, j2, j3⟩ := y10.cells
      clear y10
      rcases HKV.out with hk1 | hk1
      · have d1 : ((x.k : Int) == 1) = true := by simp; omega
        have HK1 := Lib.hid hk1
        clear hk1 HKV
        go_wp2_with fail
        refine HTT.out.mono ?_
        rintro e w11 ⟨A11, m11, c11, rfl, hf11, hb11⟩
        have f11 : Fr w11 w.heap.size 5 A11 m11 c11 _ := hf11.mono G10.out.size
        have f5 := F5d.out.now hb11
        have g11 := bon G10.out hb11
        clear hf11 hb11
        go_wp2_with fail
        go_roundw
        case rel =>
          refine ⟨k + 1, m11, c11, m5, c5, A11, A5, rfl, rfl, by rw [HM'.out], by simp, by omega, ?_, by rw [HP'.out]; exact f5, g11⟩
          rw [HE'.out, E1.out, HEN.out, if_pos HK1.out]
          simpa only [List.append_assoc] using f11
        case measure => simp [intOf]; omega
      · have d1 : ((x.k : Int) == 1) = false := by simp; omega
        have HK1 := Lib.hid hk1
        clear hk1 HKV
        go_wp2_with fail
        go_roundw
        case rel =>
          refine ⟨k + 1, m10, c10, m5, c5, A10, A5, rfl, rfl, by rw [HM'.out], by simp, by omega, ?_, by rw [HP'.out]; exact F5d.out, G10.out⟩
          rw [HE'.out, E1.out, HEN.out, if_neg (by rw [HK1.out]; decide), List.append_nil]
          simpa only [List.append_assoc] using F10.out
        case measure => simp [intOf]; omega
    · have hki : ¬ (k : Int) < (n : Int) := by omega
      obtain rfl : k = n := by omega
      have hb := HBLK.out
      have HFI := Lib.hid hb
      have hs1 := gr.size
      have HPLK := Lib.hid (HPL.out k)
      generalize entsL 0 noS (L.take k) = E at *
      generalize posL 0 0 noS (L.take k) = P at *
      obtain ⟨q, hq⟩ : ∃ q, (k + 3) / 4 = q := ⟨_, rfl⟩
      rw [hq] at HFI ⊢
      have hqi : (q : Int) ≤ 100 := by omega
      have GR := Lib.hid gr
      have HMM := Lib.hid (show m1 + m2 ≤ 40000 by omega)
      have HM1L := Lib.hid hm1l
      have HM2L := Lib.hid (show P.length = m2 by have := f2.len; rw [bv_length] at this; exact this)
      clear hb hq hm1l gr hki HBLK HEL HPL
      go_wp2_with (at_builtin; refine wpList_app rfl (.tmp 65) (.tmp 66) _ rfl Try.underlying23 info_u8 rfl rfl f1 rfl f2 (bv_one _) (by omega) (by omega) hs1 ?_; intro A7 c7 w7 hap)
      have hf7 := hap.fr
      rw [← bv_append] at hf7
      have g7 : Below w.heap.size w w7 := GR.out.trans hap.below
      have HPF := Lib.hid (refPutFour_c (hf7.rd (Nat.le_refl _)) (by omega) (q : Int) (by omega) (by omega))
      rw [Int.toNat_natCast] at HPF
      have G7 := Lib.hid g7
      clear hap hf7 g7 f1 f2
      refine HPF.out.mono ?_
      rintro e w8 ⟨A8, m8, c8, rfl, hf8, hb8⟩
      go_wp2_with fail
      go_ret2
      refine ⟨A8, m8, c8, rfl, ?_, bon G7.out hb8⟩
      rw [HFI.out, ← List.append_assoc]
      exact hf8.mono G7.out.size
end Go.Proofs.Ytfbmphaabdhphaa
