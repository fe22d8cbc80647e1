/-
  The texts R1, R2, R3, R4, R5, in one.
-/
import Derived.Test.YtkdjjdkcogolmaaGreatDoorTD
import Derived.Test.YtkdjjdkcogolmaaGreatDoorBJ
import Derived.Deep.RegionHeld3
import Derived.Test.YtkdjjdkcogolmaaGreatDoorIter4
import Derived.Deep.Cut
import Derived.Deep.CutRange
section
/-
  The reference: how many bytes are shared; the form of a block.
-/
namespace Go.Proofs.YtkdjjdkcogolmaaGreatDoor
set_option maxRecDepth 100000
open Go.RowKit Go.Shelf
set_option linter.unusedVariables false

theorem RdE.cellsAt {w : World} {B n c : Nat} {A : Option Addr} {L : List Ent} (h : RdE w B A n c L) {i : Nat} {x : Ent} (hx : L[i]? = some x) : ∃ b off, A = some ⟨b, off, none⟩ ∧ b < B ∧ i < n ∧
    w.cell? ⟨b, off + i * 4, none⟩ = some (.string x.s) ∧ w.cell? ⟨b, off + i * 4 + 1, none⟩ = some (.int .u64 (x.q : Int)) ∧ w.cell? ⟨b, off + i * 4 + 2, none⟩ = some (.int .u8 (x.k : Int)) ∧ w.cell? ⟨b, off + i * 4 + 3, none⟩ = some (.string x.v) := by
  have hi : i < n := by
    rcases Nat.lt_or_ge i L.length with h1 | h1
    · rw [h.len] at h1; exact h1
    · rw [List.getElem?_eq_none h1] at hx; cases hx
  obtain ⟨b, off, e, hb, hc⟩ := h.form (by omega)
  exact ⟨b, off, e, hb, hi, hc i x hx⟩

set_option maxRecDepth 100000 in
set_option maxHeartbeats 4000000 in
theorem refShared_c {w : World} {B n c : Nat} {A : Option Addr} {L : List Ent} (h : RdE w B A n c L) {i : Nat} {x : Ent} (hx : L[i]? = some x) (hn : n ≤ 100) (hsz : ∀ y ∈ L, y.s.size ≤ 64) :
    Calls Tryz.prog 57 #[.slice A n c, .int .i64 (i : Int)] w (RetQ w (.int .i64 ((shB i (lastK noS (L.take i)) x.s : Nat) : Int))) := by
  obtain ⟨b, off, hA, hb, hin, x0, x1, x2, x3⟩ := h.cellsAt hx
  have hi0 : (0 : Int) ≤ (i : Int) := by omega
  have hii : (i : Int) < (n : Int) := by omega
  by_cases h4 : i % 4 = 0
  · have d1 : ((i : Int) % 4 == 0) = true := by simp; omega
    have d2 : (Int.tmod (i : Int) 4 == 0) = true := by rw [Int.tmod_eq_emod_of_nonneg hi0]; simp; omega
    have d3 : (i % 4 == 0) = true := by simpa using h4
    have e : shB i (lastK noS (L.take i)) x.s = 0 := if_pos h4
    rw [e]
    clear h4 x0 x1 x2 x3 h hx hsz
    go_enter Tryz.func57, Tryz.ntmps57
    go_wp2_with fail
    go_ret
    exact ⟨rfl, 0, rfl⟩
  · have d1 : ((i : Int) % 4 == 0) = false := by simp; omega
    have d2 : (Int.tmod (i : Int) 4 == 0) = false := by rw [Int.tmod_eq_emod_of_nonneg hi0]; simp; omega
    have d3 : (i % 4 == 0) = false := by simpa using h4
    obtain ⟨j, rfl⟩ : ∃ j, i = j + 1 := ⟨i - 1, by omega⟩
    obtain ⟨y, hy⟩ : ∃ y, L[j]? = some y := ⟨L[j]'(by have := h.len; omega), List.getElem?_eq_getElem _⟩
    obtain ⟨b', off', hA', hb', hjn, y0, y1, y2, y3⟩ := h.cellsAt hy
    rw [hA] at hA'
    injection hA' with hA'
    injection hA' with e1 e2
    subst e1; subst e2
    have hlk : lastK noS (L.take (j + 1)) = y.s := by rw [take_snocE hy, lastK_snoc]
    have e : shB (j + 1) (lastK noS (L.take (j + 1))) x.s = com y.s x.s := by rw [hlk]; exact if_neg h4
    rw [e]
    have hys := hsz y (List.mem_of_getElem? hy)
    have hxs := hsz x (List.mem_of_getElem? hx)
    have hw : IntKind.i64.wrap (((j + 1 : Nat) : Int) - 1) = (j : Int) := by rw [wrapi _ (by omega) (by omega)]; omega
    have hw' : IntKind.i64.wrap ((j : Int) + 1 - 1) = (j : Int) := by rw [wrapi _ (by omega) (by omega)]; omega
    have hj0 : (0 : Int) ≤ (j : Int) := by omega
    have hjj : (j : Int) < (n : Int) := by omega
    have hjj1 : (j : Int) + 1 < (n : Int) := by omega
    subst hA
    generalize hS : y.s = S at *
    generalize hT : x.s = T at *
    clear h4 h hx hy hsz hlk e hS hT x1 x2 x3 y1 y2 y3
    go_enter Tryz.func57, Tryz.ntmps57
    go_wp2_with fail
    go_quiet (fail)
    go_wp2_with fail
    go_loopw [7] (fun iv wr => ∃ k q : Nat, iv = .int .i64 (k : Int) ∧ k ≤ S.size ∧ k ≤ T.size ∧ (∀ i, i < k → i < S.size ∧ i < T.size ∧ S.data.toList[i]? = T.data.toList[i]?) ∧ wr = w.drewN q) (fun iv _ => ((S.size : Int) - intOf iv).toNat)
    case atStart => exact ⟨0, _, rfl, by omega, by omega, fun i hi => by omega, rfl⟩
    case round =>
      obtain ⟨k, q, rfl, hks, hkt, hall, rfl⟩ := hrel
      have hk0 : (0 : Int) ≤ (k : Int) := by omega
      have hsi : (S.size : Int) ≤ 64 := by omega
      have hti : (T.size : Int) ≤ 64 := by omega
      by_cases hlt : k < S.size
      case neg =>
        have c1 : decide ((k : Int) < (S.size : Int)) = false := by simp; omega
        have c1' : decide (k < S.size) = false := by simpa using hlt
        have hc : com S T = k := com_stop hall (fun h1 h2 => by omega)
        have HC := Lib.hid hc
        clear hall hc hlt
        go_wp2_with fail
        go_quiet (fail)
        go_wp2_with fail
        go_ret
        exact ⟨by rw [HC.out]; rfl, _, drewN_add _ _ _⟩
      have c1 : decide ((k : Int) < (S.size : Int)) = true := by simp; omega
      have c1' : decide (k < S.size) = true := by simpa using hlt
      by_cases hlt2 : k < T.size
      case neg =>
        have c2 : decide ((k : Int) < (T.size : Int)) = false := by simp; omega
        have c2' : decide (k < T.size) = false := by simpa using hlt2
        have hc : com S T = k := com_stop hall (fun h1 h2 => by omega)
        have HC := Lib.hid hc
        clear hall hc hlt hlt2
        go_wp2_with fail
        go_quiet (fail)
        go_wp2_with fail
        go_ret
        exact ⟨by rw [HC.out]; rfl, _, drewN_add _ _ _⟩
      have c2 : decide ((k : Int) < (T.size : Int)) = true := by simp; omega
      have c2' : decide (k < T.size) = true := by simpa using hlt2
      obtain ⟨u, hu⟩ : ∃ u, S.data.toList[k]? = some u := ⟨_, List.getElem?_eq_getElem (by rw [size_list]; exact hlt)⟩
      obtain ⟨v, hv⟩ : ∃ v, T.data.toList[k]? = some v := ⟨_, List.getElem?_eq_getElem (by rw [size_list]; exact hlt2)⟩
      have ix := run_ix hu
      have iy := run_ix hv
      by_cases huv : u = v
      · have e1 : ((u.toNat : Int) == (v.toNat : Int)) = true := by subst huv; simp
        have e1' : (u.toNat == v.toNat) = true := by subst huv; simp
        have HALL := Lib.hid hall
        have HU := Lib.hid hu
        have HV := Lib.hid hv
        have HUV := Lib.hid huv
        clear hall hu hv huv
        go_wp2_with fail
        go_quiet (fail)
        go_wp2_with fail
        go_roundw
        case rel =>
          refine ⟨k + 1, q + nq, by simp, by omega, by omega, fun i hi => ?_, ?_⟩
          · rcases Nat.lt_or_ge i k with h1 | h1
            · exact HALL.out i h1
            · obtain rfl : i = k := by omega
              exact ⟨hlt, hlt2, by rw [HU.out, HV.out, HUV.out]⟩
          · first | rfl | exact drewN_add _ _ _
        case measure => simp [intOf]; omega
      · have e1 : ((u.toNat : Int) == (v.toNat : Int)) = false := by
          simp; intro h; exact huv (UInt8.toNat_inj.1 (by omega))
        have e1' : (u.toNat == v.toNat) = false := by
          simp; intro h; exact huv (UInt8.toNat_inj.1 (by omega))
        have hc : com S T = k := com_stop hall (fun _ _ => by rw [hu, hv]; simpa using huv)
        have HC := Lib.hid hc
        clear hall hu hv huv hc
        go_wp2_with fail
        go_quiet (fail)
        go_wp2_with fail
        go_ret
        exact ⟨by rw [HC.out]; rfl, _, drewN_add _ _ _⟩
end Go.Proofs.YtkdjjdkcogolmaaGreatDoor
end

section
/-
  The reference: the contract of Build.
-/
namespace Go.Proofs.YtkdjjdkcogolmaaGreatDoor
set_option maxRecDepth 100000
open Go.RowKit Go.Shelf
set_option linter.unusedVariables false

theorem Rd.nowB {w w' : World} {B n c : Nat} {A : Option Addr} {l : List UInt8} (h : Rd w B A n c (bv l)) (hB : B ≤ w.heap.size) (hb : Below w.heap.size w w') : Rd w' w'.heap.size A n c (bv l) := (h.under hb hB).more (Nat.le_trans hB hb.size)
set_option maxRecDepth 100000 in
set_option maxHeartbeats 8000000 in
theorem refBuild_c {w : World} {B n c : Nat} {A : Option Addr} {L : List Ent} (h : RdE w B A n c L) (hB : B ≤ w.heap.size) (hn : (n : Int) ≤ 70368744000000) :
    Calls Tryz.prog 28 #[.slice A n c] w (RetBE w (bldL L) (bldE L)) := by
  have HR := Lib.hid (refBlkRight_c h hB hn)
  by_cases hb : blkB L = true
  case neg =>
    have e1 : bldL L = [] := if_neg hb
    have e2 : bldE L = 70 := if_neg hb
    have hb : blkB L = false := by simpa using hb
    rw [hb] at HR
    rw [e1, e2]
    clear h hb e1 e2
    go_enter Tryz.func28, Tryz.ntmps28
    go_wp2_with fail
    refine HR.out.mono ?_
    rintro e w1 ⟨rfl, hb1⟩
    go_wp2_with fail
    go_ret2
    exact ⟨none, 0, 0, rfl, Fr.nil, hb1⟩
  have e1 : bldL L = blkL L := if_pos hb
  have e2 : bldE L = 0 := if_pos hb
  rw [hb] at HR
  rw [e1, e2]
  obtain ⟨h1, h2, h3, _⟩ := blkB_iff.1 hb
  have hl := h.len
  have hn64 : n ≤ 64 := by omega
  have hni : (n : Int) ≤ 64 := by omega
  have HEL := Lib.hid fun k => (show (entsL 0 noS (L.take k)).length ≤ 30000 by
    have := entsL_len (L.take k) 0 noS (fun x hx => h3 x (List.mem_of_mem_take hx))
    have : (L.take k).length ≤ 64 := by rw [List.length_take]; omega
    omega)
  have HPL := Lib.hid fun k => (show (posL 0 0 noS (L.take k)).length ≤ 200 by
    rw [posL_len0]
    have : (L.take k).length ≤ 64 := by rw [List.length_take]; omega
    omega)
  have HEB := Lib.hid h3
  have HSZ := Lib.hid (show ∀ y ∈ L, y.s.size ≤ 64 from fun y hy => (entB_parts (h3 y hy)).2.1)
  have HH := Lib.hid (h.more hB)
  have HBLK := Lib.hid (show blkL L = entsL 0 noS (L.take n) ++ (posL 0 0 noS (L.take n) ++ fourL ((n + 3) / 4)) by
    rw [blkL_eq, List.take_of_length_le (by omega), hl])
  have HL := Lib.hid hl
  clear h hb e1 e2 h1 h2 h3 hl hB
  go_enter Tryz.func28, Tryz.ntmps28
  go_wp2_with fail
  refine HR.out.mono ?_
  rintro e w1 ⟨rfl, hb1⟩
  go_wp2_with fail
  go_loopw [4, 5, 6, 7] (fun ov pv mv iv wr => ∃ (k m1 c1 m2 c2 : Nat) (A1 A2 : Option Addr), ov = .slice A1 m1 c1 ∧ pv = .slice A2 m2 c2 ∧ mv = .int .u32 (((k + 3) / 4 : Nat) : Int) ∧ iv = .int .i64 (k : Int) ∧ k ≤ n ∧ Fr wr w.heap.size 5 A1 m1 c1 (bv (entsL 0 noS (L.take k))) ∧ Rd wr wr.heap.size A2 m2 c2 (bv (posL 0 0 noS (L.take k))) ∧ Below w.heap.size w wr) (fun _ _ _ iv _ => ((n : Int) - intOf iv).toNat)
  case atStart => exact ⟨0, 0, 0, 0, 0, none, none, rfl, rfl, rfl, rfl, Nat.zero_le _, Fr.nil, Rd.nilv, hb1⟩
  case round =>
    clear hb1 HR
    obtain ⟨k, m1, c1, m2, c2, A1, A2, rfl, rfl, rfl, rfl, hkn, f1, f2, gr⟩ := hrel
    have hm1 : m1 ≤ 30000 := ret_len f1 (HEL.out k)
    have hm2 : m2 ≤ 200 := by have := f2.len; have := HPL.out k; rw [bv_length] at *; omega
    have hm1l : (entsL 0 noS (L.take k)).length = m1 := by have := f1.len; rw [bv_length] at this; exact this
    by_cases hlt : k < n
    · obtain ⟨x, hx⟩ : ∃ x, L[k]? = some x := ⟨L[k]'(by have := HL.out; omega), List.getElem?_eq_getElem _⟩
      have hmem := List.mem_of_getElem? hx
      obtain ⟨p1, p2, p3, p4, p5, p6⟩ := entB_parts (HEB.out x hmem)
      have hki : (k : Int) < (n : Int) := by omega
      have hk0 : (0 : Int) ≤ (k : Int) := by omega
      have hw1 : IntKind.u32.wrap (m1 : Int) = (m1 : Int) := wrap32 _ (by omega) (by omega)
      have hw2 : IntKind.u32.wrap ((((k + 3) / 4 : Nat) : Int) + 1) = (((k + 3) / 4 : Nat) : Int) + 1 := wrap32 _ (by omega) (by omega)
      obtain ⟨ns, hns⟩ : ∃ ns, shB k (lastK noS (L.take k)) x.s = ns := ⟨_, rfl⟩
      have hnsx : ns ≤ x.s.size := by rw [← hns]; exact (shB_ok k _ x.s).2.1
      have hq1 : IntKind.u64.wrap (ns : Int) = (ns : Int) := by rw [wrapu]; omega
      have hq2 : IntKind.u64.wrap ((x.q : Int) * 2) = (x.q : Int) * 2 := by rw [wrapu]; omega
      have hq3 : IntKind.u64.wrap (x.k : Int) = (x.k : Int) := by rw [wrapu]; omega
      have hq4 : IntKind.u64.wrap ((x.q : Int) * 2 + (x.k : Int)) = (x.q : Int) * 2 + (x.k : Int) := by rw [wrapu]; omega
      have hsl := fun W => run_from hnsx W
      have hnsi : (ns : Int) ≤ 64 := by omega
      have HFULL := Lib.hid (show ∀ (hk4 : Bool), (k % 4 == 0) = hk4 → entsL 0 noS (L.take (k + 1)) = entsL 0 noS (L.take k) ++ entL ns x ∧ posL 0 0 noS (L.take (k + 1)) = (if hk4 = true then posL 0 0 noS (L.take k) ++ fourL m1 else posL 0 0 noS (L.take k)) ∧ (k + 1 + 3) / 4 = (if hk4 = true then (k + 3) / 4 + 1 else (k + 3) / 4) by
        intro hk4 he
        by_cases h4 : k % 4 = 0
        · obtain rfl : hk4 = true := by rw [← he]; simpa using h4
          have hs := step_restart hx h4
          have hn0 : ns = 0 := by rw [← hns]; exact if_pos h4
          exact ⟨by rw [hs.1, hn0], by rw [hs.2.1, hm1l]; rfl, by rw [if_pos rfl]; omega⟩
        · obtain rfl : hk4 = false := by rw [← he]; simpa using h4
          have hs := step_sharing hx h4
          have hn0 : ns = com (lastK noS (L.take k)) x.s := by rw [← hns]; exact if_neg h4
          exact ⟨by rw [hs.1, hn0], hs.2.1, by rw [if_neg (by decide)]; omega⟩)
      have HSH := Lib.hid fun W (hW : Below w.heap.size w W) => refShared_c (HH.out.now hW) hx (by omega) HSZ.out
      simp only [hns] at HSH
      have HKV : x.k = 1 ∨ x.k = 0 := by omega
      have HKV := Lib.hid HKV
      have HEN := Lib.hid (show entL ns x = shortL ns ++ (textL (dropS x.s ns) ++ (shortL (2 * x.q + x.k) ++ (if x.k = 1 then textL x.v else []))) from rfl)
      obtain ⟨bx, ox, hA, hbB, _, z0, z1, z2, z3⟩ := HH.out.cellsAt hx
      have XC := Lib.hid fun (W : World) (hW : Below w.heap.size w W) => show W.cell? ⟨bx, ox + k * 4, none⟩ = some (.string x.s) ∧ W.cell? ⟨bx, ox + k * 4 + 1, none⟩ = some (.int .u64 (x.q : Int)) ∧ W.cell? ⟨bx, ox + k * 4 + 2, none⟩ = some (.int .u8 (x.k : Int)) ∧ W.cell? ⟨bx, ox + k * 4 + 3, none⟩ = some (.string x.v) from
        ⟨(hW.cell hbB).trans z0, (hW.cell hbB).trans z1, (hW.cell hbB).trans z2, (hW.cell hbB).trans z3⟩
      have HP2 := Lib.hid fun W B A n c l (h : Rd W B A n c (bv l)) (hn : n ≤ 70368744177664) => refPut_c h hn (ns : Int) (by omega) (by omega)
      have HT2 := Lib.hid fun W B A n c l (h : Rd W B A n c (bv l)) (hn : n ≤ 70368744100000) => refPutText_c h hn (dropS x.s ns) (by rw [dropS_size]; omega)
      have HP3 := Lib.hid fun W B A n c l (h : Rd W B A n c (bv l)) (hn : n ≤ 70368744177664) => refPut_c h hn ((x.q : Int) * 2 + (x.k : Int)) (by omega) (by omega)
      have HT3 := Lib.hid fun W B A n c l (h : Rd W B A n c (bv l)) (hn : n ≤ 70368744100000) => refPutText_c h hn x.v (by omega)
      have n2 : (ns : Int).toNat = ns := Int.toNat_natCast _
      have n3 : ((x.q : Int) * 2 + (x.k : Int)).toNat = 2 * x.q + x.k := by omega
      simp only [n2] at HP2
      simp only [n3] at HP3
      have HL1 := Lib.hid (shortL_len ns)
      have HL2 := Lib.hid (show (textL (dropS x.s ns)).length ≤ 80 by have := textL_len' (dropS x.s ns); rw [dropS_size] at this; omega)
      have HL3 := Lib.hid (shortL_len (2 * x.q + x.k))
      subst hA
      generalize entsL 0 noS (L.take k) = E at *
      generalize posL 0 0 noS (L.take k) = P at *
      have F1 := Lib.hid f1
      have F2 := Lib.hid f2
      have GR := Lib.hid gr
      have HML := Lib.hid hm1l
      clear p1 p2 p3 p4 p5 p6 hmem hx hns hnsx z0 z1 z2 z3 f1 f2 gr hm1l n2 n3 hbB
      obtain ⟨E', hE'⟩ : ∃ E', entsL 0 noS (L.take (k + 1)) = E' := ⟨_, rfl⟩
      obtain ⟨P', hP'⟩ : ∃ P', posL 0 0 noS (L.take (k + 1)) = P' := ⟨_, rfl⟩
      obtain ⟨M, hM⟩ : ∃ M, (k + 3) / 4 = M := ⟨_, rfl⟩
      obtain ⟨M', hM'⟩ : ∃ M', (k + 1 + 3) / 4 = M' := ⟨_, rfl⟩
      rw [hE', hP', hM, hM'] at HFULL
      rw [hM] at hw2 ⊢
      have HE' := Lib.hid hE'
      have HP' := Lib.hid hP'
      have HM' := Lib.hid hM'
      clear hE' hP' hM hM'
      go_upto_if 21 with fail
      go_cut [5, 6] from 19 to 28 (fun pv mv wx => ∃ (A5 : Option Addr) (m5 c5 : Nat), pv = .slice A5 m5 c5 ∧ mv = .int .u32 (M' : Int) ∧ Rd wx wx.heap.size A5 m5 c5 (bv P') ∧ Below wr.heap.size wr wx)
      case first =>
        by_cases h4 : k % 4 = 0
        · have d1 : ((k : Int) % 4 == 0) = true := by simp; omega
          have d2 : (Int.tmod (k : Int) 4 == 0) = true := by rw [Int.tmod_eq_emod_of_nonneg hk0]; simp; omega
          have d3 : (k % 4 == 0) = true := by simpa using h4
          obtain ⟨_, e2, e3⟩ := HFULL.out true d3
          rw [if_pos rfl] at e2 e3
          have E2 := Lib.hid e2
          have E3 := Lib.hid e3
          have HPF := Lib.hid (refPutFour_c F2.out (by omega) (m1 : Int) (by omega) (by omega))
          rw [Int.toNat_natCast] at HPF
          clear h4 e2 e3
          go_wp2_with fail
          refine HPF.out.mono ?_
          rintro e w5 ⟨A5, m5, c5, rfl, hf5, hb5⟩
          go_wp2_with fail
          go_meet
          exact ⟨A5, m5, c5, rfl, by rw [E3.out]; simp, by rw [E2.out]; exact hf5.rd (Nat.le_refl _), hb5⟩
        · have d1 : ((k : Int) % 4 == 0) = false := by simp; omega
          have d2 : (Int.tmod (k : Int) 4 == 0) = false := by rw [Int.tmod_eq_emod_of_nonneg hk0]; simp; omega
          have d3 : (k % 4 == 0) = false := by simpa using h4
          obtain ⟨_, e2, e3⟩ := HFULL.out false d3
          rw [if_neg (by decide)] at e2 e3
          have E2 := Lib.hid e2
          have E3 := Lib.hid e3
          clear h4 e2 e3
          go_wp2_with fail
          go_meet
          exact ⟨A2, m2, c2, rfl, by rw [E3.out], by rw [E2.out]; exact F2.out, Below.refl _ _⟩
      case rest =>
      obtain ⟨A5, m5, c5, rfl, rfl, f5, b5⟩ := hcut
      have E1 := Lib.hid (HFULL.out _ rfl).1
      have f1 := F1.out.below b5
      have gr := bon GR.out b5
      generalize hwy : wc = wy at *
      clear hwy hw1 hw2 F1 F2 GR HFULL
      have y0 := EnAt.new wy x
      obtain ⟨z0, z1, z2, z3⟩ := XC.out wy gr
      have ba := below_alloc wy (.cells #[.string x.s, .int .u64 (x.q : Int), .int .u8 (x.k : Int), .string x.v] 40)
      have F1 := Lib.hid (f1.below ba)
      have F5 := Lib.hid (f5.now ba)
      have GR := Lib.hid (bon gr ba)
      clear f1 f5 gr b5 ba
      go_upto_region 12 with (fail)
      generalize hwb : wy.alloc (.cells #[.string x.s, .int .u64 (x.q : Int), .int .u8 (x.k : Int), .string x.v] 40) = wb at *
      generalize hbe : wy.heap.size = be at *
      clear hwb hbe z0 z1 z2 z3
      have Y0 := Lib.hid y0
      have HS := Lib.hid (HSH.out wb GR.out)
      clear y0
      go_wp2_with fail
      refine HS.out.mono ?_
      rintro e w6 ⟨rfl, q6, hq6⟩
      have hb6 : Below wb.heap.size wb w6 := by rw [hq6]; exact below_drewN (Below.refl _ _) q6
      have f1 := F1.out.below hb6
      have F5b := Lib.hid (F5.out.now hb6)
      have y6 := Y0.out.below hb6
      have gr := bon GR.out hb6
      have SK : ∀ W, Below w6.heap.size w6 W → (Below w6.heap.size w6 W ∧ W.cell? ⟨be, 0, none⟩ = some (.string x.s) ∧ W.cell? ⟨be, 1, none⟩ = some (.int .u64 (x.q : Int)) ∧ W.cell? ⟨be, 2, none⟩ = some (.int .u8 (x.k : Int)) ∧ W.cell? ⟨be, 3, none⟩ = some (.string x.v)) :=
        fun W hW => ⟨hW, (y6.below hW).cells⟩
      have HSK := Lib.hid SK
      have Y6 := Lib.hid y6
      have HPO := Lib.hid fun W (hW : Below w6.heap.size w6 W) => HP2.out W _ A1 m1 c1 E ((f1.below hW).rd (Nat.le_refl _)) (by omega)
      have F1b := Lib.hid f1
      have GRb := Lib.hid gr
      have hs0 : Below w6.heap.size w6 w6.drew := below_drewN (Below.refl _ _) 1
      clear hq6 hb6 f1 y6 gr SK HS F1 F5 GR Y0
      go_wp2_with fail
      go_region_held3 (fun w' => Below w6.heap.size w6 w' ∧ w'.cell? ⟨be, 0, none⟩ = some (.string x.s) ∧ w'.cell? ⟨be, 1, none⟩ = some (.int .u64 (x.q : Int)) ∧ w'.cell? ⟨be, 2, none⟩ = some (.int .u8 (x.k : Int)) ∧ w'.cell? ⟨be, 3, none⟩ = some (.string x.v))
        ((first | assumption | exact HSK.out _ (by assumption) | exact HSK.out _ hs0))
        (first
        | (go_at_call 31; refine (HPO.out _ (And.left (by assumption))).mono ?_; rintro e w7 ⟨A7, m7, c7, rfl, hf7, hb7⟩; have hm7 := (ret_len hf7 (m := 30020) (by rw [List.length_append, HML.out]; have := HL1.out; omega)); have hb8 : Below w6.heap.size w6 w7 := bon (And.left (by assumption)) hb7)
        | (go_at_call 58; refine (HT2.out _ _ A7 m7 c7 (E ++ shortL ns) (hf7.rd (Nat.le_refl _)) (by omega)).mono ?_; rintro e w9 ⟨A9, m9, c9, rfl, hf9, hb9⟩; have hb10 : Below w6.heap.size w6 w9 := bon hb8 hb9; have hf10 : Fr w9 w.heap.size 5 A9 m9 c9 (bv (E ++ shortL ns ++ textL (dropS x.s ns))) := hf9.mono (Nat.le_trans GRb.out.size hb8.size)))
      have y9 := Y6.out.below hb10
      have F9 := Lib.hid hf10
      have F5c := Lib.hid (F5b.out.now hb10)
      have G9 := Lib.hid (bon GRb.out hb10)
      have hm9 : m9 ≤ 30200 := ret_len hf10 (by rw [List.length_append, List.length_append, HML.out]; have := HL1.out; have := HL2.out; omega)
      have HPP := Lib.hid (HP3.out w9 _ A9 m9 c9 _ (hf10.rd (Nat.le_refl _)) (by omega))
      clear hf7 hb7 hf9 hb9 hf10 hb8 hb10 hs0 F1b GRb F5b Y6 HSK HPO HP2 HT2 HP3
      obtain ⟨j0, j1, j2, j3⟩ := y9.cells
      have Y9 := Lib.hid y9
      clear y9
      go_wp2_with fail
      refine HPP.out.mono ?_
      rintro e w10 ⟨A10, m10, c10, rfl, hf10, hb10⟩
      have y10 := Y9.out.below hb10
      have hm10 : m10 ≤ 30300 := ret_len hf10 (by simp only [List.length_append, HML.out]; have := HL1.out; have := HL2.out; have := HL3.out; omega)
      have HTT := Lib.hid (HT3.out w10 _ A10 m10 c10 _ (hf10.rd (Nat.le_refl _)) (by omega))
      have F10 := Lib.hid (hf10.mono G9.out.size)
      have F5d := Lib.hid (F5c.out.now hb10)
      have G10 := Lib.hid (bon G9.out hb10)
      clear hf10 hb10 HPP HT3 F9 F5c G9 Y9 j0 j1 j2 j3
      obtain ⟨j0, j1, j2, j3⟩ := y10.cells
      clear y10
      rcases HKV.out with hk1 | hk1
      · have d1 : ((x.k : Int) == 1) = true := by simp; omega
        have HK1 := Lib.hid hk1
        clear hk1 HKV
        go_wp2_with fail
        refine HTT.out.mono ?_
        rintro e w11 ⟨A11, m11, c11, rfl, hf11, hb11⟩
        have f11 : Fr w11 w.heap.size 5 A11 m11 c11 _ := hf11.mono G10.out.size
        have f5 := F5d.out.now hb11
        have g11 := bon G10.out hb11
        clear hf11 hb11
        go_wp2_with fail
        go_roundw
        case rel =>
          refine ⟨k + 1, m11, c11, m5, c5, A11, A5, rfl, rfl, by rw [HM'.out], by simp, by omega, ?_, by rw [HP'.out]; exact f5, g11⟩
          rw [HE'.out, E1.out, HEN.out, if_pos HK1.out]
          simpa only [List.append_assoc] using f11
        case measure => simp [intOf]; omega
      · have d1 : ((x.k : Int) == 1) = false := by simp; omega
        have HK1 := Lib.hid hk1
        clear hk1 HKV
        go_wp2_with fail
        go_roundw
        case rel =>
          refine ⟨k + 1, m10, c10, m5, c5, A10, A5, rfl, rfl, by rw [HM'.out], by simp, by omega, ?_, by rw [HP'.out]; exact F5d.out, G10.out⟩
          rw [HE'.out, E1.out, HEN.out, if_neg (by rw [HK1.out]; decide), List.append_nil]
          simpa only [List.append_assoc] using F10.out
        case measure => simp [intOf]; omega
    · have hki : ¬ (k : Int) < (n : Int) := by omega
      obtain rfl : k = n := by omega
      have hb := HBLK.out
      have HFI := Lib.hid hb
      have hs1 := gr.size
      have HPLK := Lib.hid (HPL.out k)
      generalize entsL 0 noS (L.take k) = E at *
      generalize posL 0 0 noS (L.take k) = P at *
      obtain ⟨q, hq⟩ : ∃ q, (k + 3) / 4 = q := ⟨_, rfl⟩
      rw [hq] at HFI ⊢
      have hqi : (q : Int) ≤ 100 := by omega
      have GR := Lib.hid gr
      have HMM := Lib.hid (show m1 + m2 ≤ 40000 by omega)
      have HM1L := Lib.hid hm1l
      have HM2L := Lib.hid (show P.length = m2 by have := f2.len; rw [bv_length] at this; exact this)
      clear hb hq hm1l gr hki HBLK HEL HPL
      go_wp2_with (at_builtin; refine wpList_app rfl (.tmp 65) (.tmp 66) _ rfl Tryz.underlying24 info_u8 rfl rfl f1 rfl f2 (bv_one _) (by omega) (by omega) hs1 ?_; intro A7 c7 w7 hap)
      have hf7 := hap.fr
      rw [← bv_append] at hf7
      have g7 : Below w.heap.size w w7 := GR.out.trans hap.below
      have HPF := Lib.hid (refPutFour_c (hf7.rd (Nat.le_refl _)) (by omega) (q : Int) (by omega) (by omega))
      rw [Int.toNat_natCast] at HPF
      have G7 := Lib.hid g7
      clear hap hf7 g7 f1 f2
      refine HPF.out.mono ?_
      rintro e w8 ⟨A8, m8, c8, rfl, hf8, hb8⟩
      go_wp2_with fail
      go_ret2
      refine ⟨A8, m8, c8, rfl, ?_, bon G7.out hb8⟩
      rw [HFI.out, ← List.append_assoc]
      exact hf8.mono G7.out.size
end Go.Proofs.YtkdjjdkcogolmaaGreatDoor
end

section
/-
  The reference: the contract of one.
-/
namespace Go.Proofs.YtkdjjdkcogolmaaGreatDoor
set_option maxRecDepth 100000
open Go.RowKit Go.Shelf
set_option linter.unusedVariables false

/-- The entry that bytes begin with, behind a key. -/
def oneE (p : ByteArray) (l : List UInt8) : Option (Ent × List UInt8) :=
  match takeN l with
  | none => none
  | some (v, m) => if p.size < v then none else
    match textTake (l.drop m) 64 with
    | none => none
    | some (t, r2) => match takeN r2 with
      | none => none
      | some (x, m3) => if x % 2 = 1 then (match textTake (r2.drop m3) 256 with
          | none => none
          | some (u, r4) => some (⟨takeS p v ++ ⟨t.toArray⟩, x / 2, x % 2, ⟨u.toArray⟩⟩, r4))
        else some (⟨takeS p v ++ ⟨t.toArray⟩, x / 2, x % 2, noS⟩, r2.drop m3)
structure OneR (p : ByteArray) (l : List UInt8) (x : Ent) (r : List UInt8) (ok : Bool) : Prop where
  yes : ok = true → oneE p l = some (x, r)
  no : ok = false → oneE p l = none
def OnePost (w : World) (p : ByteArray) (l : List UInt8) (e : Ending) (w' : World) : Prop :=
  ∃ (x : Ent) (A : Option Addr) (n c : Nat) (r : List UInt8) (ok : Bool), e = .returned (.tuple #[en x.s x.q x.k x.v, .slice A n c, .bool ok]) ∧ OneR p l x r ok ∧ Fr w' w.heap.size 5 A n c (bv r) ∧ Below w.heap.size w w'
theorem set4_size (w : World) (b : Nat) (u0 u1 u2 u3 : Value) : ((((w.setCell ⟨b, 0, none⟩ u0).setCell ⟨b, 1, none⟩ u1).setCell ⟨b, 2, none⟩ u2).setCell ⟨b, 3, none⟩ u3).heap.size = w.heap.size := by simp [World.setCell]
/-- A row of bytes below, while a box of four cells beyond it is written. -/
theorem Rd.set4 {w : World} {n c b : Nat} {A : Option Addr} {l : List UInt8} {B : Nat} (h : Rd w B A n c (bv l)) (hB : B ≤ b) (u0 u1 u2 u3 : Value) : Rd ((((w.setCell ⟨b, 0, none⟩ u0).setCell ⟨b, 1, none⟩ u1).setCell ⟨b, 2, none⟩ u2).setCell ⟨b, 3, none⟩ u3) B A n c (bv l) :=
  (((h.setCell hB _).setCell hB _).setCell hB _).setCell hB _
theorem Fr.set4 {w : World} {b0 n c b : Nat} {e : TypeId} {A : Option Addr} {xs : List Value} (h : Fr w b0 e A n c xs) (hb : b < b0) (u0 u1 u2 u3 : Value) : Fr ((((w.setCell ⟨b, 0, none⟩ u0).setCell ⟨b, 1, none⟩ u1).setCell ⟨b, 2, none⟩ u2).setCell ⟨b, 3, none⟩ u3) b0 e A n c xs :=
  (((h.setFar hb _).setFar hb _).setFar hb _).setFar hb _

set_option maxRecDepth 100000 in
set_option maxHeartbeats 8000000 in
theorem refOneE_c {w : World} {B n c : Nat} {A : Option Addr} {l : List UInt8} (h : Rd w B A n c (bv l)) (hB : B ≤ w.heap.size) (hn : n ≤ 1000000000) {p : ByteArray} (hp : p.size ≤ 1000000) :
    Calls Tryz.prog 65 #[.slice A n c, .string p] w (OnePost w p l) := by
  have hll : l.length = n := by simpa using h.len
  obtain ⟨b4, hb4⟩ : ∃ b4, w.heap.size = b4 := ⟨_, rfl⟩
  obtain ⟨wa, hwa⟩ : ∃ wa, w.alloc (.cells #[.string ⟨#[]⟩, .int .u64 0, .int .u8 0, .string ⟨#[]⟩] 40) = wa := ⟨_, rfl⟩
  have ea : EnAt wa b4 noE := by rw [← hwa, ← hb4]; exact EnAt.new w noE
  have ga : Below w.heap.size w wa := by rw [← hwa]; exact below_alloc w _
  have ha : Rd wa B A n c (bv l) := h.under ga hB
  have hT := refTake_c ha (Nat.le_trans hB ga.size) (by omega)
  have hpi : (p.size : Int) ≤ 1000000 := by omega
  have hpw : IntKind.u64.wrap (p.size : Int) = (p.size : Int) := by rw [wrapu]; omega
  have EA := Lib.hid ea
  have GA := Lib.hid ga
  have HLL := Lib.hid hll
  have hbl : b4 < wa.heap.size := ea.lt
  clear h ha ea ga hll
  cases h1 : takeN l with
  | none =>
    have HT := Lib.hid (hT.mono (fun _ _ hp => takePost_no h1 hp))
    have HO := Lib.hid (show oneE p l = none by unfold oneE; rw [h1])
    clear hT h1
    go_enter Tryz.func65, Tryz.ntmps65
    go_wp2_with fail
    refine HT.out.mono ?_
    rintro e w2 ⟨A2, n2, c2, rfl, hf2, hb2⟩
    have E2 := Lib.hid (EA.out.below hb2)
    have G2 := Lib.hid (bon GA.out hb2)
    clear hf2 hb2 HT EA GA hwa
    obtain ⟨f0, f1, f2, f3⟩ := E2.out.frozen
    obtain ⟨d0, d1, d2, d3⟩ := E2.out.cells
    have HFIN := Lib.hid (And.intro (E2.out.set4 (y := noE)) (below_set4 G2.out (Nat.le_of_eq hb4) (.string noE.s) (.int .u64 (noE.q : Int)) (.int .u8 (noE.k : Int)) (.string noE.v)))
    go_wp2_with fail
    exact ret_en3 rfl rfl rfl HFIN.out.1 ⟨noE, none, 0, 0, [], false, rfl, ⟨(fun h => by cases h), fun _ => HO.out⟩, Fr.nil, HFIN.out.2⟩
  | some pr =>
    obtain ⟨v, m⟩ := pr
    have HT := Lib.hid (hT.mono (fun _ _ hp => takePost_to ⟨h1, rfl⟩ hp))
    have hvl : v < 2 ^ 64 := (takeN_le h1).2.2.2.1
    have hvi : (v : Int) ≤ 18446744073709551615 := by omega
    have H1 := Lib.hid h1
    clear hT h1
    by_cases hvp : p.size < v
    · have d0 : decide ((p.size : Int) < (v : Int)) = true := by simp; omega
      have d0' : decide (p.size < v) = true := by simpa using hvp
      have HO := Lib.hid (show oneE p l = none by unfold oneE; rw [H1.out]; simp only []; rw [if_pos hvp])
      clear hvp hvl
      go_enter Tryz.func65, Tryz.ntmps65
      go_wp2_with fail
      refine HT.out.mono ?_
      rintro e w2 ⟨A2, n2, c2, rfl, hf2, hb2⟩
      have E2 := Lib.hid (EA.out.below hb2)
      have G2 := Lib.hid (bon GA.out hb2)
      clear hf2 hb2 HT EA GA hwa
      obtain ⟨f0, f1, f2, f3⟩ := E2.out.frozen
      obtain ⟨d0, d1, d2, d3⟩ := E2.out.cells
      have HFIN := Lib.hid (And.intro (E2.out.set4 (y := noE)) (below_set4 G2.out (Nat.le_of_eq hb4) (.string noE.s) (.int .u64 (noE.q : Int)) (.int .u8 (noE.k : Int)) (.string noE.v)))
      go_wp2_with fail
      exact ret_en3 rfl rfl rfl HFIN.out.1 ⟨noE, none, 0, 0, [], false, rfl, ⟨(fun h => by cases h), fun _ => HO.out⟩, Fr.nil, HFIN.out.2⟩
    have d0 : decide ((p.size : Int) < (v : Int)) = false := by simp; omega
    have d0' : decide (p.size < v) = false := by simpa using hvp
    have hvle : v ≤ p.size := by omega
    have hsl := fun W => run_upto hvle .u64 W
    go_enter Tryz.func65, Tryz.ntmps65
    go_wp2_with fail
    refine HT.out.mono ?_
    rintro e w2 ⟨A2, n2, c2, rfl, hf2, hb2⟩
    have E2 := Lib.hid (EA.out.below hb2)
    have G2 := Lib.hid (bon GA.out hb2)
    have hn2 : n2 ≤ 1000000000 := ret_len hf2 (by rw [List.length_drop, HLL.out]; omega)
    have hT2 := refTakeText_c (hf2.rd (Nat.le_refl _)) (Nat.le_refl _) (by omega) 64 (by decide) (by decide)
    have HN2 := Lib.hid (show (l.drop m).length = n2 by have := hf2.len; rw [bv_length] at this; exact this)
    clear hf2 hb2 HT EA GA hwa hvl
    cases h2 : textTake (l.drop m) 64 with
    | none =>
      have HT2 := Lib.hid (hT2.mono (fun _ _ hp => textPost_no h2 hp))
      have HO := Lib.hid (show oneE p l = none by unfold oneE; rw [H1.out]; simp only []; rw [if_neg hvp, h2])
      clear hT2 h2
      go_wp2_with fail
      refine HT2.out.mono ?_
      rintro e w3 ⟨A3, n3, c3, rfl, hf3, hb3⟩
      have E3 := Lib.hid (E2.out.below hb3)
      have G3 := Lib.hid (bon G2.out hb3)
      clear hf3 hb3 HT2 E2 G2
      obtain ⟨f0, f1, f2, f3⟩ := E3.out.frozen
      obtain ⟨d0, d1, d2, d3⟩ := E3.out.cells
      have HFIN := Lib.hid (And.intro (E3.out.set4 (y := noE)) (below_set4 G3.out (Nat.le_of_eq hb4) (.string noE.s) (.int .u64 (noE.q : Int)) (.int .u8 (noE.k : Int)) (.string noE.v)))
      go_wp2_with fail
      exact ret_en3 rfl rfl rfl HFIN.out.1 ⟨noE, none, 0, 0, [], false, rfl, ⟨(fun h => by cases h), fun _ => HO.out⟩, Fr.nil, HFIN.out.2⟩
    | some pr =>
    obtain ⟨t, r2⟩ := pr
    have HT2 := Lib.hid (hT2.mono (fun _ _ hp => textPost_to h2 hp))
    have hts : t.length ≤ 64 := by
      have := h2
      unfold textTake at this
      split at this
      · next a b hv =>
        split at this
        · simp only [Option.some.injEq, Prod.mk.injEq] at this
          rw [← this.1, List.length_take]; omega
        · cases this
      · cases this
    have hr2l := textTake_rest h2
    have H2 := Lib.hid h2
    have hts2 : (⟨t.toArray⟩ : ByteArray).size ≤ 64 := by rw [size_toArray]; exact hts
    have hadd : ∀ W : World, (Op.stringOp .add (takeS p v) ⟨t.toArray⟩).run Tryz.prog W = .ok (.string (takeS p v ++ ⟨t.toArray⟩)) W := fun W => run_string_add_sum W _ _ (by rw [takeS_size p hvle]; omega)
    clear hT2 h2 hts
    go_wp2_with fail
    refine HT2.out.mono ?_
    rintro e w3 ⟨A3, n3, c3, rfl, hf3, hb3⟩
    have E3 := Lib.hid (E2.out.below hb3)
    have G3 := Lib.hid (bon G2.out hb3)
    have hn3 : n3 ≤ 1000000000 := ret_len hf3 (by have := HN2.out; omega)
    have HN3 := Lib.hid (show r2.length = n3 by have := hf3.len; rw [bv_length] at this; exact this)
    have hT3 := refTake_c (hf3.rd (Nat.le_refl _)) (Nat.le_refl _) (by omega)
    clear hf3 hb3 HT2 E2 G2 hr2l hts2
    cases h3 : takeN r2 with
    | none =>
      have HT3 := Lib.hid (hT3.mono (fun _ _ hp => takePost_no h3 hp))
      have HO := Lib.hid (show oneE p l = none by unfold oneE; rw [H1.out]; simp only []; rw [if_neg hvp, H2.out]; simp only []; rw [h3])
      clear hT3 h3
      go_wp2_with fail
      refine HT3.out.mono ?_
      rintro e w4 ⟨A4, n4, c4, rfl, hf4, hb4'⟩
      have E4 := Lib.hid (E3.out.below hb4')
      have G4 := Lib.hid (bon G3.out hb4')
      clear hf4 hb4' HT3 E3 G3
      obtain ⟨f0, f1, f2, f3⟩ := E4.out.frozen
      obtain ⟨d0, d1, d2, d3⟩ := E4.out.cells
      have HFIN := Lib.hid (And.intro (E4.out.set4 (y := noE)) (below_set4 G4.out (Nat.le_of_eq hb4) (.string noE.s) (.int .u64 (noE.q : Int)) (.int .u8 (noE.k : Int)) (.string noE.v)))
      go_wp2_with fail
      exact ret_en3 rfl rfl rfl HFIN.out.1 ⟨noE, none, 0, 0, [], false, rfl, ⟨(fun h => by cases h), fun _ => HO.out⟩, Fr.nil, HFIN.out.2⟩
    | some pr =>
    obtain ⟨x, m3⟩ := pr
    have HT3 := Lib.hid (hT3.mono (fun _ _ hp => takePost_to ⟨h3, rfl⟩ hp))
    have hxl : x < 2 ^ 64 := (takeN_le h3).2.2.2.1
    have H3 := Lib.hid h3
    obtain ⟨X2, hX2⟩ : ∃ X2, x / 2 = X2 := ⟨_, rfl⟩
    obtain ⟨X3, hX3⟩ : ∃ X3, x % 2 = X3 := ⟨_, rfl⟩
    have q2 : (x : Int) / 2 = (X2 : Int) := by omega
    have q3 : (x : Int) % 2 = (X3 : Int) := by omega
    have hX31 : X3 ≤ 1 := by omega
    have u2 : IntKind.u64.wrap (X2 : Int) = (X2 : Int) := by rw [wrapu]; omega
    have u3 : IntKind.u64.wrap (X3 : Int) = (X3 : Int) := by rw [wrapu]; omega
    have u8 : IntKind.u8.wrap (X3 : Int) = (X3 : Int) := by simp [IntKind.wrap, IntKind.bits, IntKind.signed]; omega
    have HX2 := Lib.hid hX2
    have HX3 := Lib.hid hX3
    clear hT3 h3 hX2 hX3 hxl
    go_wp2_with fail
    refine HT3.out.mono ?_
    rintro e w4 ⟨A4, n4, c4, rfl, hf4, hb4'⟩
    have e4 := E3.out.below hb4'
    have g4 := bon G3.out hb4'
    have hn4 : n4 ≤ 1000000000 := ret_len hf4 (by rw [List.length_drop, HN3.out]; omega)
    have y0 : EnAt (w4.alloc (.cells #[.string (takeS p v ++ ⟨t.toArray⟩), .int .u64 (X2 : Int), .int .u8 (X3 : Int), .string ⟨#[]⟩] 40)) w4.heap.size ⟨takeS p v ++ ⟨t.toArray⟩, X2, X3, noS⟩ := EnAt.new w4 ⟨takeS p v ++ ⟨t.toArray⟩, X2, X3, noS⟩
    have E4 := Lib.hid (e4.below (below_alloc w4 (.cells #[.string (takeS p v ++ ⟨t.toArray⟩), .int .u64 (X2 : Int), .int .u8 (X3 : Int), .string ⟨#[]⟩] 40)))
    have G4 := Lib.hid (blit g4 (.cells #[.string (takeS p v ++ ⟨t.toArray⟩), .int .u64 (X2 : Int), .int .u8 (X3 : Int), .string ⟨#[]⟩] 40))
    have r4 : Rd (w4.alloc (.cells #[.string (takeS p v ++ ⟨t.toArray⟩), .int .u64 (X2 : Int), .int .u8 (X3 : Int), .string ⟨#[]⟩] 40)) w4.heap.size A4 n4 c4 (bv (r2.drop m3)) := (hf4.rd (Nat.le_refl _)).alloc (Nat.le_refl _) _
    have hb48 : b4 < w4.heap.size := e4.lt
    have hf4' : Fr w4 (b4 + 1) 5 A4 n4 c4 (bv (r2.drop m3)) := hf4.mono (by have := E3.out.lt; omega)
    have F4 := Lib.hid (hf4'.alloc (.cells #[.string (takeS p v ++ ⟨t.toArray⟩), .int .u64 (X2 : Int), .int .u8 (X3 : Int), .string ⟨#[]⟩] 40))
    clear hf4 hf4' hb4' HT3 E3 G3 e4 g4
    obtain ⟨k0, k1, k2, k3⟩ := y0.cells
    have Y0 := Lib.hid y0
    have R4 := Lib.hid r4
    clear y0 r4
    have hk : X3 = 1 ∨ X3 = 0 := by omega
    rcases hk with hk | hk
    · have d1 : ((X3 : Int) == 1) = true := by simp; omega
      have hT4 := refTakeText_c R4.out (below_alloc w4 _).size (by omega) 256 (by decide) (by decide)
      have HK := Lib.hid hk
      clear hk
      go_upto_region 11 with (fail)
      generalize hwz : w4.alloc (.cells #[.string (takeS p v ++ ⟨t.toArray⟩), .int .u64 (X2 : Int), .int .u8 (X3 : Int), .string ⟨#[]⟩] 40) = wz at *
      generalize hb8 : w4.heap.size = b8 at *
      have hb8z : b8 < wz.heap.size := Y0.out.lt
      clear hwz hb8
      cases h4 : textTake (r2.drop m3) 256 with
      | none =>
        have HT4 := Lib.hid (hT4.mono (fun _ _ hp => textPost_no h4 hp))
        have HO := Lib.hid (show oneE p l = none by unfold oneE; rw [H1.out]; simp only []; rw [if_neg hvp, H2.out]; simp only []; rw [H3.out]; simp only []; rw [if_pos (by rw [HX3.out]; exact HK.out), h4])
        clear hT4 h4
        go_wp2_with fail
        refine HT4.out.mono ?_
        rintro e w5 ⟨A5, n5, c5, rfl, hf5, hb5⟩
        have y5 := Y0.out.below hb5
        have e5 := E4.out.below hb5
        have g5 := bon G4.out hb5
        have hf5' : Fr w5 (b8 + 1) 5 A5 n5 c5 _ := hf5.mono hb8z
        obtain ⟨j0, j1, j2, j3⟩ := y5.frozen
        clear k0 k1 k2 k3
        obtain ⟨k0, k1, k2, k3⟩ := y5.cells
        have hne : b8 ≠ b4 := by omega
        have yz := y5.set1 ⟨#[]⟩
        have ez := e5.only (Only.set w5 b8 3 (.string ⟨#[]⟩)) (Ne.symm hne)
        have gz : Below w.heap.size w (w5.setCell ⟨b8, 3, none⟩ (.string ⟨#[]⟩)) := Below.setCell g5 (show w.heap.size ≤ (⟨b8, 3, none⟩ : Addr).block by show w.heap.size ≤ b8; omega) _
        have fz := (hf5'.setFar (show (⟨b8, 3, none⟩ : Addr).block < b8 + 1 from Nat.lt_succ_self b8) (.string ⟨#[]⟩)).mono (show b4 + 1 ≤ b8 + 1 by omega)
        clear hf5 hf5' hb5 y5 e5 g5
        have YZ := Lib.hid yz
        have EZ := Lib.hid ez
        have GZ := Lib.hid gz
        have FZ := Lib.hid fz
        clear yz ez gz fz
        go_upto_region 13 with (fail)
        generalize hwy : w5.setCell ⟨b8, 3, none⟩ (.string ⟨#[]⟩) = wy at *
        clear hwy j0 j1 j2 j3 k0 k1 k2 k3
        obtain ⟨i0, i1, i2, i3⟩ := YZ.out.cells
        obtain ⟨f0, f1, f2, f3⟩ := EZ.out.frozen
        obtain ⟨d0', d1', d2', d3'⟩ := EZ.out.cells
        have HFIN := Lib.hid (And.intro (EZ.out.set4 (y := ⟨takeS p v ++ ⟨t.toArray⟩, X2, X3, noS⟩)) (below_set4 GZ.out (Nat.le_of_eq hb4) (.string (takeS p v ++ ⟨t.toArray⟩)) (.int .u64 (X2 : Int)) (.int .u8 (X3 : Int)) (.string noS)))
        go_wp2_with fail
        exact ret_en3 rfl rfl rfl HFIN.out.1 ⟨_, A5, n5, c5, [], false, rfl, ⟨(fun h => by cases h), fun _ => HO.out⟩, ((FZ.out.set4 (Nat.lt_succ_self b4) _ _ _ _).mono (by omega)), HFIN.out.2⟩
      | some pr =>
        obtain ⟨u, r4'⟩ := pr
        have HT4 := Lib.hid (hT4.mono (fun _ _ hp => textPost_to h4 hp))
        have HO := Lib.hid (show oneE p l = some (⟨takeS p v ++ ⟨t.toArray⟩, X2, X3, ⟨u.toArray⟩⟩, r4') by unfold oneE; rw [H1.out]; simp only []; rw [if_neg hvp, H2.out]; simp only []; rw [H3.out]; simp only []; rw [if_pos (by rw [HX3.out]; exact HK.out), h4, HX2.out, HX3.out])
        clear hT4 h4
        go_wp2_with fail
        refine HT4.out.mono ?_
        rintro e w5 ⟨A5, n5, c5, rfl, hf5, hb5⟩
        have y5 := Y0.out.below hb5
        have e5 := E4.out.below hb5
        have g5 := bon G4.out hb5
        have hf5' : Fr w5 (b8 + 1) 5 A5 n5 c5 _ := hf5.mono hb8z
        obtain ⟨j0, j1, j2, j3⟩ := y5.frozen
        clear k0 k1 k2 k3
        obtain ⟨k0, k1, k2, k3⟩ := y5.cells
        have hne : b8 ≠ b4 := by omega
        have yz := y5.set1 ⟨u.toArray⟩
        have ez := e5.only (Only.set w5 b8 3 (.string ⟨u.toArray⟩)) (Ne.symm hne)
        have gz : Below w.heap.size w (w5.setCell ⟨b8, 3, none⟩ (.string ⟨u.toArray⟩)) := Below.setCell g5 (show w.heap.size ≤ (⟨b8, 3, none⟩ : Addr).block by show w.heap.size ≤ b8; omega) _
        have fz := (hf5'.setFar (show (⟨b8, 3, none⟩ : Addr).block < b8 + 1 from Nat.lt_succ_self b8) (.string ⟨u.toArray⟩)).mono (show b4 + 1 ≤ b8 + 1 by omega)
        clear hf5 hf5' hb5 y5 e5 g5
        have YZ := Lib.hid yz
        have EZ := Lib.hid ez
        have GZ := Lib.hid gz
        have FZ := Lib.hid fz
        clear yz ez gz fz
        go_upto_region 13 with (fail)
        generalize hwy : w5.setCell ⟨b8, 3, none⟩ (.string ⟨u.toArray⟩) = wy at *
        clear hwy j0 j1 j2 j3 k0 k1 k2 k3
        obtain ⟨i0, i1, i2, i3⟩ := YZ.out.cells
        obtain ⟨f0, f1, f2, f3⟩ := EZ.out.frozen
        obtain ⟨d0', d1', d2', d3'⟩ := EZ.out.cells
        have HFIN := Lib.hid (And.intro (EZ.out.set4 (y := ⟨takeS p v ++ ⟨t.toArray⟩, X2, X3, ⟨u.toArray⟩⟩)) (below_set4 GZ.out (Nat.le_of_eq hb4) (.string (takeS p v ++ ⟨t.toArray⟩)) (.int .u64 (X2 : Int)) (.int .u8 (X3 : Int)) (.string ⟨u.toArray⟩)))
        go_wp2_with fail
        exact ret_en3 rfl rfl rfl HFIN.out.1 ⟨_, A5, n5, c5, r4', true, rfl, ⟨fun _ => HO.out, (fun h => by cases h)⟩, ((FZ.out.set4 (Nat.lt_succ_self b4) _ _ _ _).mono (by omega)), HFIN.out.2⟩
    · have d1 : ((X3 : Int) == 1) = false := by simp; omega
      have HO := Lib.hid (show oneE p l = some (⟨takeS p v ++ ⟨t.toArray⟩, X2, X3, noS⟩, r2.drop m3) by unfold oneE; rw [H1.out]; simp only []; rw [if_neg hvp, H2.out]; simp only []; rw [H3.out]; simp only []; rw [if_neg (by rw [HX3.out]; omega), HX2.out, HX3.out])
      clear hk
      go_upto_region 13 with (fail)
      generalize hwz : w4.alloc (.cells #[.string (takeS p v ++ ⟨t.toArray⟩), .int .u64 (X2 : Int), .int .u8 (X3 : Int), .string ⟨#[]⟩] 40) = wz at *
      generalize hb8 : w4.heap.size = b8 at *
      clear hwz hb8 k0 k1 k2 k3
      obtain ⟨i0, i1, i2, i3⟩ := Y0.out.cells
      obtain ⟨f0, f1, f2, f3⟩ := E4.out.frozen
      obtain ⟨d0', d1', d2', d3'⟩ := E4.out.cells
      have HFIN := Lib.hid (And.intro (E4.out.set4 (y := ⟨takeS p v ++ ⟨t.toArray⟩, X2, X3, noS⟩)) (below_set4 G4.out (Nat.le_of_eq hb4) (.string (takeS p v ++ ⟨t.toArray⟩)) (.int .u64 (X2 : Int)) (.int .u8 (X3 : Int)) (.string noS)))
      go_wp2_with fail
      exact ret_en3 rfl rfl rfl HFIN.out.1 ⟨_, A4, n4, c4, _, true, rfl, ⟨fun _ => HO.out, (fun h => by cases h)⟩, ((F4.out.set4 (Nat.lt_succ_self b4) _ _ _ _).mono (by omega)), HFIN.out.2⟩
end Go.Proofs.YtkdjjdkcogolmaaGreatDoor
end

section
/-
  The reference: the contract of Parse.
-/
namespace Go.Proofs.YtkdjjdkcogolmaaGreatDoor
set_option maxRecDepth 100000
open Go.RowKit Go.Shelf
set_option linter.unusedVariables false

/-- What is behind the first m entries of a block. -/
def tailL (L : List Ent) (m : Nat) : List UInt8 := entsL m (lastK noS (L.take m)) (L.drop m) ++ (posL 0 0 noS L ++ fourL ((posL 0 0 noS L).length / 4))
theorem tailL_zero (L : List Ent) : tailL L 0 = blkL L := by simp [tailL, blkL, lastK]
theorem tailL_step {L : List Ent} {m : Nat} {x : Ent} (hx : L[m]? = some x) : tailL L m = entL (shB m (lastK noS (L.take m)) x.s) x ++ tailL L (m + 1) := by
  have hd : L.drop m = x :: L.drop (m + 1) := by
    have hm : m < L.length := by
      rcases Nat.lt_or_ge m L.length with h1 | h1
      · exact h1
      · rw [List.getElem?_eq_none h1] at hx; cases hx
    rw [List.drop_eq_getElem_cons hm]
    rw [List.getElem?_eq_getElem hm] at hx
    rw [Option.some.inj hx]
  unfold tailL
  rw [hd]
  simp only [entsL]
  rw [take_snocE hx, lastK_snoc, List.append_assoc]
theorem one_form {x : Ent} (hx : entB x = true) {n : Nat} {p : ByteArray} (h1 : n ≤ p.size) (h2 : n ≤ x.s.size) (h3 : takeS p n = takeS x.s n) (r : List UInt8) : oneE p (entL n x ++ r) = some (x, r) := by
  obtain ⟨a1, a2, a3, a4, a5, a6⟩ := entB_parts hx
  have e1 := takeN_short n (by omega) (textL (dropS x.s n) ++ (shortL (2 * x.q + x.k) ++ ((if x.k = 1 then textL x.v else []) ++ r)))
  have e2 : textTake (textL (dropS x.s n) ++ (shortL (2 * x.q + x.k) ++ ((if x.k = 1 then textL x.v else []) ++ r))) 64 = some ((dropS x.s n).data.toList, shortL (2 * x.q + x.k) ++ ((if x.k = 1 then textL x.v else []) ++ r)) := by
    rw [textTake_text _ (by rw [dropS_size]; omega), if_pos (by rw [dropS_size]; omega)]
  have e3 := takeN_short (2 * x.q + x.k) (by omega) ((if x.k = 1 then textL x.v else []) ++ r)
  unfold oneE entL
  simp only [List.append_assoc]
  rw [e1]
  simp only [List.drop_left]
  rw [if_neg (by omega), e2]
  simp only []
  rw [e3]
  simp only [List.drop_left]
  rw [show (2 * x.q + x.k) / 2 = x.q by omega, show (2 * x.q + x.k) % 2 = x.k by omega, string_eta, h3, takeS_dropS]
  rcases a6 with a6 | a6
  · rw [if_pos a6, if_pos a6, textTake_text _ (by omega), if_pos (by omega)]
  · by_cases hk : x.k = 1
    · rw [if_pos hk, if_pos hk, textTake_text _ (by omega), if_pos (by omega)]
    · rw [if_neg hk, if_neg hk, ← a6, List.nil_append]
theorem oneE_key {p : ByteArray} {l r : List UInt8} {x : Ent} (h : oneE p l = some (x, r)) : x.s.size ≤ p.size + 64 ∧ r.length ≤ l.length := by
  unfold oneE at h
  split at h
  · cases h
  · next v m h1 =>
    split at h
    · cases h
    · next hv =>
      split at h
      · cases h
      · next t r2 h2 =>
        have hr2 := textTake_rest h2
        have ht : t.length ≤ 64 := by
          unfold textTake at h2
          split at h2
          · split at h2
            · simp only [Option.some.injEq, Prod.mk.injEq] at h2
              rw [← h2.1, List.length_take]; omega
            · cases h2
          · cases h2
        have hsz : (takeS p v ++ (⟨t.toArray⟩ : ByteArray)).size ≤ p.size + 64 := by
          rw [ByteArray.size_append, takeS_size p (by omega)]
          have := size_toArray t
          omega
        rw [List.length_drop] at hr2
        split at h
        · cases h
        · next y m3 h3 =>
          split at h
          · split at h
            · cases h
            · next u r4 h4 =>
              have hr4 := textTake_rest h4
              rw [List.length_drop] at hr4
              simp only [Option.some.injEq, Prod.mk.injEq] at h
              rw [← h.1, ← h.2]
              exact ⟨hsz, by omega⟩
          · simp only [Option.some.injEq, Prod.mk.injEq] at h
            rw [← h.1, ← h.2, List.length_drop]
            exact ⟨hsz, by omega⟩
/-- Whatever block has these bytes: the first m entries of it are there, and what is behind them. -/
def ParP (b : List UInt8) (M : List Ent) (m : Nat) (a : ByteArray) (r : List UInt8) : Prop := ∀ L : List Ent, blkB L = true → blkL L = b → m < L.length ∧ M = L.take m ∧ a = lastK noS M ∧ r = tailL L m
theorem par_no {b : List UInt8} (h : ∀ L : List Ent, blkB L = true → blkL L = b → False) : prsL b = [] ∧ prsE b = 70 := by
  have hp : parseB b = none := by
    cases hp : parseB b with
    | none => rfl
    | some L => exact (h L (parse_iff.1 hp).1 (parse_iff.1 hp).2).elim
  unfold prsL prsE; rw [hp]; exact ⟨rfl, rfl⟩
theorem par_yes {b : List UInt8} {M : List Ent} (h1 : blkB M = true) (h2 : blkL M = b) : prsL b = M ∧ prsE b = 0 := by
  unfold prsL prsE; rw [parse_iff.2 ⟨h1, h2⟩]; exact ⟨rfl, rfl⟩
theorem par_one {b : List UInt8} {M : List Ent} {m : Nat} {a a' : ByteArray} {r : List UInt8} (h : ParP b M m a r) (ha : a' = if m % 4 = 0 then noS else a) {L : List Ent} (h1 : blkB L = true) (h2 : blkL L = b) :
    ∃ x, L[m]? = some x ∧ oneE a' r = some (x, tailL L (m + 1)) ∧ M ++ [x] = L.take (m + 1) ∧ x.s = lastK noS (M ++ [x]) := by
  obtain ⟨p1, p2, p3, p4⟩ := h L h1 h2
  have hx : L[m]? = some (L[m]'p1) := List.getElem?_eq_getElem p1
  refine ⟨_, hx, ?_, by rw [take_snocE hx, p2], by rw [lastK_snoc]⟩
  rw [p4, tailL_step hx]
  have hb := (blkB_iff.1 h1).2.2.1 _ (List.mem_of_getElem? hx)
  by_cases h4 : m % 4 = 0
  · rw [ha, if_pos h4]
    have hs : shB m (lastK noS (L.take m)) (L[m]'p1).s = 0 := if_pos h4
    rw [hs]
    exact one_form hb (Nat.zero_le _) (Nat.zero_le _) (by rw [takeS_zero, takeS_zero]) _
  · rw [ha, if_neg h4, p3, p2]
    obtain ⟨s1, s2, s3⟩ := shB_ok m (lastK noS (L.take m)) (L[m]'p1).s
    exact one_form hb s1 s2 s3 _
theorem beq_bytes (l1 l2 : List UInt8) : ((⟨l1.toArray⟩ : ByteArray).toList == (⟨l2.toArray⟩ : ByteArray).toList) = (l1 == l2) := by
  rw [Lib.toList_data, Lib.toList_data]

set_option maxRecDepth 100000 in
set_option maxHeartbeats 8000000 in
theorem refParse_c {w : World} {n c : Nat} {A : Option Addr} {l : List UInt8} (h : Rd w w.heap.size A n c (bv l)) (hn : n ≤ 1000000) :
    Calls Tryz.prog 39 #[.slice A n c] w (RetLE w (prsL l) (prsE l)) := by
  have hll : l.length = n := by simpa using h.len
  have HLL := Lib.hid hll
  have HH := Lib.hid h
  have P0 : ParP l [] 0 noS l := fun L h1 h2 => ⟨(blkB_iff.1 h1).1, rfl, rfl, by rw [tailL_zero, h2]⟩
  have HP0 := Lib.hid P0
  have HNO := Lib.hid (fun h => par_no (b := l) h)
  have HYES := Lib.hid (fun M h1 h2 => par_yes (b := l) (M := M) h1 h2)
  generalize prsL l = PL at *
  generalize prsE l = PE at *
  clear h hll P0
  go_enter Tryz.func39, Tryz.ntmps39
  go_wp2_with fail
  go_loopw [4, 5, 6] (fun lv rv av wr => ∃ (M : List Ent) (m c1 n2 c2 : Nat) (A1 A2 : Option Addr) (a : ByteArray) (r : List UInt8), lv = .slice A1 m c1 ∧ rv = .slice A2 n2 c2 ∧ av = .string a ∧ m ≤ 64 ∧ FrE wr w.heap.size A1 m c1 M ∧ Rd wr wr.heap.size A2 n2 c2 (bv r) ∧ Below w.heap.size w wr ∧ a.size ≤ 64 * m ∧ r.length ≤ l.length ∧ ParP l M m a r) (fun lv _ _ _ => 64 - (match lv with | .slice _ m _ => m | _ => 0))
  case atStart => exact ⟨[], 0, 0, n, c, none, A, noS, l, rfl, rfl, rfl, by omega, FrE.nil, HH.out, Below.refl _ _, by decide, Nat.le_refl _, HP0.out⟩
  case round =>
    clear HP0
    obtain ⟨M, m, c1, n2, c2, A1, A2, a, r, rfl, rfl, rfl, hm, f1, f2, gr, has, hrl, hpar⟩ := hrel
    have hml := f1.len
    have hn2 : n2 ≤ 1000000 := by have := f2.len; rw [bv_length] at this; have := HLL.out; omega
    by_cases hlt : m < 64
    · have d0 : decide ((m : Int) < 64) = true := by simp; omega
      have d0' : decide (m < 64) = true := by simpa using hlt
      have hm0 : (0 : Int) ≤ (m : Int) := by omega
      obtain ⟨a', ha'⟩ : ∃ a', (if m % 4 = 0 then noS else a) = a' := ⟨_, rfl⟩
      have has' : a'.size ≤ 64 * m := by
        rw [← ha']; split
        · exact Nat.zero_le _
        · exact has
      have HA' := Lib.hid ha'
      have HPAR := Lib.hid hpar
      have HRL := Lib.hid hrl
      have HAS := Lib.hid has'
      have F1 := Lib.hid f1
      have F2 := Lib.hid f2
      have GR := Lib.hid gr
      have HMLEN := Lib.hid hml
      clear f1 f2 gr has hrl hpar ha' has' hml
      go_upto_if 19 with fail
      go_cut [6] from 13 to 19 (fun av wx => av = .string a' ∧ wx = wr)
      case first =>
        have hA' := HA'.out
        by_cases h4 : m % 4 = 0
        · have d1 : ((m : Int) % 4 == 0) = true := by simp; omega
          have d2 : (Int.tmod (m : Int) 4 == 0) = true := by rw [Int.tmod_eq_emod_of_nonneg hm0]; simp; omega
          have d3 : (m % 4 == 0) = true := by simpa using h4
          rw [if_pos h4] at hA'
          have HAA := Lib.hid hA'
          clear h4 hA'
          go_wp2_with fail
          go_meet
          exact ⟨by rw [← HAA.out]; rfl, rfl⟩
        · have d1 : ((m : Int) % 4 == 0) = false := by simp; omega
          have d2 : (Int.tmod (m : Int) 4 == 0) = false := by rw [Int.tmod_eq_emod_of_nonneg hm0]; simp; omega
          have d3 : (m % 4 == 0) = false := by simpa using h4
          rw [if_neg h4] at hA'
          have HAA := Lib.hid hA'
          clear h4 hA'
          go_wp2_with fail
          go_meet
          exact ⟨by rw [← HAA.out], rfl⟩
      case rest =>
      obtain ⟨rfl, rfl⟩ := hcut
      have HC := Lib.hid (refOneE_c F2.out (Nat.le_refl _) (by omega) (p := a') (by have := HAS.out; omega))
      go_wp2_with fail
      refine HC.out.mono ?_
      rintro e w2 ⟨x, A3, n3, c3, r3, ok, rfl, hone, hr3, hb2⟩
      unfold en
      have f1 := F1.out.below hb2
      have g2 := bon GR.out hb2
      have hown : ∀ j, (Value.slice A1 m c1).ownBlock = some j → j < w2.heap.size := fun j hj => (f1.own.lt j hj).2
      have y0 := EnAt.new w2 x
      have ba := below_alloc w2 (.cells #[.string x.s, .int .u64 (x.q : Int), .int .u8 (x.k : Int), .string x.v] 40)
      have F3 := Lib.hid (f1.below ba)
      have hown3 : ∀ j, (Value.slice A3 n3 c3).ownBlock = some j → wc.heap.size ≤ j := fun j hj => (hr3.own.lt j hj).1
      have hown1 : ∀ j, (Value.slice A1 m c1).ownBlock = some j → j < wc.heap.size := fun j hj => (F1.out.own.lt j hj).2
      have HOW2 := Lib.hid (show ∀ j, (Value.slice A3 n3 c3).ownBlock = some j → (Value.slice A1 m c1).ownBlock ≠ some j from fun j h3 h1 => by have := hown3 j h3; have := hown1 j h1; omega)
      have R3 := Lib.hid (hr3.below ba)
      have G3 := Lib.hid (bon g2 ba)
      obtain ⟨be, hbe⟩ : ∃ be, w2.heap.size = be := ⟨_, rfl⟩
      rw [hbe] at y0 hown
      have HOWN := Lib.hid (show (Value.slice A1 m c1).ownBlock ≠ some be from fun e => absurd (hown be e) (Nat.lt_irrefl _))
      clear f1 g2 hr3 hb2 ba hown hown1 hown3 HC F1 F2 GR
      go_upto_region 8 with (fail)
      generalize hwa : w2.alloc (.cells #[.string x.s, .int .u64 (x.q : Int), .int .u8 (x.k : Int), .string x.v] 40) = wa at *
      clear hwa hbe
      cases ok with
      | false =>
        have hno := hone.no rfl
        have HN := Lib.hid (HNO.out (fun L h1 h2 => by
          obtain ⟨y, _, e2, _⟩ := par_one HPAR.out HA'.out.symm h1 h2
          rw [hno] at e2; cases e2))
        clear hone hno
        go_wp2_with fail
        go_ret2
        refine ⟨none, 0, 0, ?_, ?_, G3.out⟩
        · rw [HN.out.2]; rfl
        · rw [HN.out.1]; exact FrE.nil
      | true =>
        have hyes := hone.yes rfl
        have hkey := oneE_key hyes
        have HYS := Lib.hid hyes
        have HKY := Lib.hid hkey
        have Y0 := Lib.hid y0
        obtain ⟨x0, x1, x2, x3⟩ := y0.cells
        clear hone hyes hkey y0
        have hg : w.heap.size ≤ wa.heap.size := G3.out.size
        have f4 := F3.out.alloc (.cells #[.string x.s, .int .u64 (x.q : Int), .int .u8 (x.k : Int), .string x.v] 40)
        have hY : ∀ w5 A5 c5, AppE (wa.alloc (.cells #[.string x.s, .int .u64 (x.q : Int), .int .u8 (x.k : Int), .string x.v] 40)) w5 w.heap.size (.slice A1 m c1) A5 (m + 1) c5 (M ++ [x]) → EnAt w5 be x :=
          fun w5 A5 c5 hap => (Y0.out.below (below_alloc wa _)).app hap HOWN.out
        have HY := Lib.hid hY
        have HSZ := Lib.hid (show w.heap.size ≤ (wa.alloc (.cells #[.string x.s, .int .u64 (x.q : Int), .int .u8 (x.k : Int), .string x.v] 40)).heap.size from Nat.le_trans hg (below_alloc wa _).size)
        clear hY
        go_wp2_with (at_builtin; refine wpList_appE rfl (.tmp 29) (.tmp 31) rfl rfl f4 rfl ((FrE.one wa (b := 0) (g := wa.heap.size) x rfl (Nat.zero_le _)).rd (Nat.le_refl _)) (by omega) HSZ.out ?_; intro A5 c5 w5 hap; have HAP := Lib.hid hap; obtain ⟨j0, j1, j2, j3⟩ := (HY.out w5 A5 c5 hap).cells; clear hap)
        have hfr := HAP.out.fr
        have hb5 : Below w.heap.size w w5 := (blit G3.out (.cells #[.string x.s, .int .u64 (x.q : Int), .int .u8 (x.k : Int), .string x.v] 40)).trans HAP.out.below
        have HBD := Lib.hid (refBuild_c (hfr.rd (Nat.le_refl _)) (Nat.le_refl _) (by omega))
        have F5 := Lib.hid hfr
        have G5 := Lib.hid hb5
        have r5 : Rd w5 w5.heap.size A3 n3 c3 (bv r3) := ((R3.out.alloc _).grown HAP.out.grown HOW2.out).rd (Nat.le_refl _)
        have R5 := Lib.hid r5
        have HH5 := Lib.hid (HH.out.under hb5 (Nat.le_refl _))
        clear hfr hb5 r5 R3 F3 G3 HY HOW2 HOWN f4 HSZ x0 x1 x2 x3 hg
        refine HBD.out.mono ?_
        rintro e w6 ⟨A6, n6, c6, rfl, hf6, hb6⟩
        have F6 := Lib.hid (F5.out.below hb6)
        have R6 := Lib.hid (R5.out.now hb6)
        have G6 := Lib.hid (bon G5.out hb6)
        have cv1 := run_str (P := Tryz.prog) (hf6.rd (Nat.le_refl _)) 24 9 5 Tryz.underlying24 Tryz.underlying5 Tryz.underlying9
        have cv2 := run_str (P := Tryz.prog) (HH5.out.under hb6 G5.out.size) 24 9 5 Tryz.underlying24 Tryz.underlying5 Tryz.underlying9
        obtain ⟨E6, hE6⟩ : ∃ E6, bldE (M ++ [x]) = E6 := ⟨_, rfl⟩
        rw [hE6]
        obtain ⟨bb, hbb⟩ : ∃ bb, (bldL (M ++ [x]) == l) = bb := ⟨_, rfl⟩
        have cq := beq_bytes (bldL (M ++ [x])) l
        rw [hbb] at cq
        have HE6 := Lib.hid hE6
        have HBB := Lib.hid hbb
        have cq2 := hbb
        clear hf6 hb6 hE6 hbb HBD F5 R5 G5 HH5
        have hgo : (¬ (blkB (M ++ [x]) = true ∧ blkL (M ++ [x]) = l)) → ParP l (M ++ [x]) (m + 1) x.s r3 := fun hne L h1 h2 => by
          obtain ⟨y, e1, e2, e3, e4⟩ := par_one HPAR.out HA'.out.symm h1 h2
          rw [HYS.out] at e2
          simp only [Option.some.injEq, Prod.mk.injEq] at e2
          obtain ⟨rfl, e5⟩ := e2
          have hlt2 : m < L.length := by
            rcases Nat.lt_or_ge m L.length with h3 | h3
            · exact h3
            · rw [List.getElem?_eq_none h3] at e1; cases e1
          have hne2 : m + 1 ≠ L.length := fun h3 => hne (by rw [e3, h3, List.take_length]; exact ⟨h1, h2⟩)
          exact ⟨by omega, e3, e4, e5⟩
        have HGO := Lib.hid hgo
        clear hgo
        by_cases hb : blkB (M ++ [x]) = true
        case neg =>
          have hb' : blkB (M ++ [x]) = false := by simpa using hb
          have e70 : E6 = 70 := by rw [← HE6.out]; unfold bldE; rw [hb']; rfl
          have d1 : (E6 == 0) = false := by rw [e70]; decide
          have HP := Lib.hid (HGO.out (fun h => hb h.1))
          clear hb hb' e70
          go_wp2_with fail
          go_roundw
          case rel => exact ⟨M ++ [x], m + 1, c5, n3, c3, A5, A3, x.s, r3, rfl, rfl, rfl, by omega, F6.out, R6.out, G6.out, by have := HKY.out.1; have := HAS.out; omega, by have := HKY.out.2; have := HRL.out; omega, HP.out⟩
          case measure => simp; omega
        have e0 : E6 = 0 := by rw [← HE6.out]; unfold bldE; rw [hb]; rfl
        have eL : bldL (M ++ [x]) = blkL (M ++ [x]) := if_pos hb
        have d1 : (E6 == 0) = true := by rw [e0]; decide
        have hbb2 := HBB.out
        rw [eL] at hbb2
        cases bb with
        | false =>
          have hne : blkL (M ++ [x]) ≠ l := by simpa using hbb2
          have HP := Lib.hid (HGO.out (fun h => hne h.2))
          clear hb hne hbb2 e0 eL
          go_wp2_with fail
          go_roundw
          case rel => exact ⟨M ++ [x], m + 1, c5, n3, c3, A5, A3, x.s, r3, rfl, rfl, rfl, by omega, F6.out, R6.out, G6.out, by have := HKY.out.1; have := HAS.out; omega, by have := HKY.out.2; have := HRL.out; omega, HP.out⟩
          case measure => simp; omega
        | true =>
          have heq : blkL (M ++ [x]) = l := by simpa using hbb2
          have HY := Lib.hid (HYES.out _ hb heq)
          clear hb heq hbb2 e0 eL
          go_wp2_with fail
          go_ret2
          refine ⟨A5, m + 1, c5, ?_, ?_, G6.out⟩
          · rw [HY.out.2]; rfl
          · rw [HY.out.1]; exact F6.out
    · have d0 : decide ((m : Int) < 64) = false := by simp; omega
      have d0' : decide (m < 64) = false := by simpa using hlt
      have HN := Lib.hid (HNO.out (fun L h1 h2 => by have := (hpar L h1 h2).1; have := (blkB_iff.1 h1).2.1; omega))
      have GR := Lib.hid gr
      clear f1 f2 gr hpar hlt
      go_wp2_with fail
      go_ret2
      refine ⟨none, 0, 0, ?_, ?_, GR.out⟩
      · rw [HN.out.2]; rfl
      · rw [HN.out.1]; exact FrE.nil
end Go.Proofs.YtkdjjdkcogolmaaGreatDoor
end

section
/-
  The reference: the contract of Seek.
-/
namespace Go.Proofs.YtkdjjdkcogolmaaGreatDoor
set_option maxRecDepth 100000
open Go.RowKit Go.Shelf
set_option linter.unusedVariables false

end Go.Proofs.YtkdjjdkcogolmaaGreatDoor
end
