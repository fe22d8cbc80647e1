/-
  The reference: what is sought, and what is told of a table: the contracts of Seek and Meta.
-/
import Derived.Test.YtkdjjdkcogolmaaGreatDoorU2
import Derived.BigRegion
namespace Go.Proofs.YtkdjjdkcogolmaaGreatDoor
set_option maxRecDepth 100000
open Go.RowKit Go.Shelf
set_option linter.unusedVariables false

theorem prt_block {b : List UInt8} (h : prtE b = 0) : tblB (prtL b) = true := by
  rcases prt_cases b with ⟨h1, _⟩ | ⟨_, h2, _⟩
  · rw [h1] at h; exact absurd h (by decide)
  · exact h2
theorem prt_none {b : List UInt8} (h : prtE b ≠ 0) : prtL b = [] ∧ prtE b = 80 := by
  rcases prt_cases b with ⟨h1, h2, _⟩ | ⟨h1, _⟩
  · exact ⟨h2, h1⟩
  · exact absurd h1 h
set_option maxRecDepth 100000 in
set_option maxHeartbeats 4000000 in
theorem refTSeek_c {w : World} {n c : Nat} {A : Option Addr} {l : List UInt8} (h : Rd w w.heap.size A n c (bv l)) (hn : n ≤ 1000000) (s : ByteArray) (q k : Nat) :
    Calls Tryz.prog 17 #[.slice A n c, ik s q k] w (RetEB w (skT l s q k) (skTB l s q k) (prtE l)) := by
  obtain ⟨gk, hgk⟩ : ∃ gk, w.heap.size = gk := ⟨_, rfl⟩
  obtain ⟨w2, hw2⟩ : ∃ w2, (w.alloc (.cells #[.string s, .int .u64 (q : Int), .int .u8 (k : Int)] 26)).alloc (.cells #[.string ⟨#[]⟩, .int .u64 0, .int .u8 0, .string ⟨#[]⟩] 40) = w2 := ⟨_, rfl⟩
  have hk0 : IkAt w2 gk s q k := by rw [← hw2, ← hgk]; exact (IkAt.new w s q k).alloc _
  have he0 : EnAt w2 (gk + 1) noE := by
    rw [← hw2, ← hgk]
    have := EnAt.new (w.alloc (.cells #[.string s, .int .u64 (q : Int), .int .u8 (k : Int)] 26)) noE
    rw [show (w.alloc (.cells #[.string s, .int .u64 (q : Int), .int .u8 (k : Int)] 26)).heap.size = w.heap.size + 1 by simp] at this
    exact this
  have hb0 : Below w.heap.size w w2 := by rw [← hw2]; exact blit (below_alloc w _) _
  have HP := Lib.hid (refTParse_c (h.now hb0) hn)
  have hg1 : gk + 1 ≥ w.heap.size := by omega
  have HK0 := Lib.hid hk0
  have HE0 := Lib.hid he0
  have HB0 := Lib.hid hb0
  have HPB := Lib.hid (fun h => prt_block (b := l) h)
  have HPN := Lib.hid (fun h => prt_none (b := l) h)
  have HV := Lib.hid (show skT l s q k = (match seekE (prtL l) s q k with | some x => x | none => noE) ∧ skTB l s q k = (seekE (prtL l) s q k).isSome from ⟨rfl, rfl⟩)
  generalize skT l s q k = V at HV ⊢
  generalize skTB l s q k = VB at HV ⊢
  generalize prtL l = L at *
  generalize prtE l = E at *
  clear h hk0 he0 hb0 hn
  unfold ik
  go_enter Tryz.func17, Tryz.ntmps17
  go_wp2_with fail
  refine HP.out.mono ?_
  rintro e w3 ⟨A3, n3, c3, rfl, hf3, hb3⟩
  have HK3 := Lib.hid (HK0.out.below hb3 (Nat.le_refl _))
  have HE3 := Lib.hid (HE0.out.below hb3)
  have HG3 := Lib.hid (bon HB0.out hb3)
  have hl3 := hf3.len
  have R3 := Lib.hid (hf3.rd (Nat.le_refl _))
  clear hf3 hb3 HP HK0 HE0 HB0 hw2
  by_cases hE : E = 0
  case neg =>
    obtain ⟨rfl, hE7⟩ := HPN.out hE
    have HVN := Lib.hid HV.out
    simp only [seekE, List.find?] at HVN
    have d1 : (E != 0) = true := by simpa using hE
    have HE7 := Lib.hid hE7
    clear hE7 hE HV HPB HPN
    obtain ⟨i0, i1, i2, i3⟩ := HE3.out.cells
    obtain ⟨j0, j1, j2, j3⟩ := HE3.out.frozen
    have HFIN := Lib.hid (And.intro (HE3.out.set4 (y := noE)) (below_set4 HG3.out hg1 (.string noE.s) (.int .u64 (noE.q : Int)) (.int .u8 (noE.k : Int)) (.string noE.v)))
    go_wp2_with fail
    exact ret_en3 rfl rfl rfl HFIN.out.1 ⟨by rw [HVN.out.1, HVN.out.2]; rfl, HFIN.out.2⟩
  subst hE
  have hblk := HPB.out rfl
  obtain ⟨b1, b2, b3, b4⟩ := tblB_iff.1 hblk
  have hn3 : n3 ≤ 8192 := by omega
  have hn3i : (n3 : Int) ≤ 8192 := by omega
  have HL3 := Lib.hid hl3
  have r3 := R3.out
  have k3 := HK3.out
  have e3 := HE3.out
  have g3 := HG3.out
  clear hblk b1 b2 b3 b4 HPB HPN hl3 R3 HK3 HE3 HG3
  go_wp2_with fail
  go_loopw [9] (fun iv wr => ∃ j : Nat, iv = .int .i64 (j : Int) ∧ j ≤ n3 ∧ LoP L s q k j ∧ RdE wr wr.heap.size A3 n3 c3 L ∧ IkAt wr gk s q k ∧ EnAt wr (gk + 1) noE ∧ Below w.heap.size w wr) (fun iv _ => ((n3 : Int) - intOf iv).toNat)
  case atStart => exact ⟨0, rfl, Nat.zero_le _, fun t x ht => by omega, r3, k3, e3, g3⟩
  case round =>
    clear r3 k3 e3 g3
    obtain ⟨j, rfl, hjn, hall, r3, k3, e3, g3⟩ := hrel
    by_cases hlt : j < n3
    · obtain ⟨x, hx⟩ : ∃ x, L[j]? = some x := ⟨L[j]'(by have := HL3.out; omega), List.getElem?_eq_getElem _⟩
      have r3' := r3
      obtain ⟨b, off, hA, hbB, hcell⟩ := r3'.form (by omega)
      subst hA
      obtain ⟨x0, x1, x2, x3⟩ := hcell j x hx
      obtain ⟨k0, k1, k2⟩ := k3.cells
      have kl := k3.lt
      have hki : (j : Int) < (n3 : Int) := by omega
      have hj0 : (0 : Int) ≤ (j : Int) := by omega
      have HC := Lib.hid fun W => refCompare_c W x.s s x.q x.k q k
      unfold ik at HC
      have HSK := Lib.hid (fun (W : World) (hW : Below wr.heap.size wr W) => show Below wr.heap.size wr W ∧ W.cell? ⟨b, off + j * 4, none⟩ = some (.string x.s) ∧ W.cell? ⟨b, off + j * 4 + 1, none⟩ = some (.int .u64 (x.q : Int)) ∧ W.cell? ⟨b, off + j * 4 + 2, none⟩ = some (.int .u8 (x.k : Int)) ∧ W.cell? ⟨gk, 0, none⟩ = some (.string s) ∧ W.cell? ⟨gk, 1, none⟩ = some (.int .u64 (q : Int)) ∧ W.cell? ⟨gk, 2, none⟩ = some (.int .u8 (k : Int)) from
        ⟨hW, (hW.cell hbB).trans x0, (hW.cell hbB).trans x1, (hW.cell hbB).trans x2, (hW.cell kl).trans k0, (hW.cell kl).trans k1, (hW.cell kl).trans k2⟩)
      have HXC := Lib.hid (fun (W : World) (hW : Below wr.heap.size wr W) => show W.cell? ⟨b, off + j * 4, none⟩ = some (.string x.s) ∧ W.cell? ⟨b, off + j * 4 + 1, none⟩ = some (.int .u64 (x.q : Int)) ∧ W.cell? ⟨b, off + j * 4 + 2, none⟩ = some (.int .u8 (x.k : Int)) ∧ W.cell? ⟨b, off + j * 4 + 3, none⟩ = some (.string x.v) from
        ⟨(hW.cell hbB).trans x0, (hW.cell hbB).trans x1, (hW.cell hbB).trans x2, (hW.cell hbB).trans x3⟩)
      have hs0 : Below wr.heap.size wr wr.drew := below_drewN (Below.refl _ _) 1
      have HX := Lib.hid hx
      have HALL := Lib.hid hall
      have R3 := Lib.hid r3
      have K3 := Lib.hid k3
      have E3 := Lib.hid e3
      have G3 := Lib.hid g3
      clear r3 r3' k3 e3 g3 hcell hbB hx hall kl
      go_wp2_with fail
      go_region_held3 (fun w' => Below wr.heap.size wr w' ∧ w'.cell? ⟨b, off + j * 4, none⟩ = some (.string x.s) ∧ w'.cell? ⟨b, off + j * 4 + 1, none⟩ = some (.int .u64 (x.q : Int)) ∧ w'.cell? ⟨b, off + j * 4 + 2, none⟩ = some (.int .u8 (x.k : Int)) ∧ w'.cell? ⟨gk, 0, none⟩ = some (.string s) ∧ w'.cell? ⟨gk, 1, none⟩ = some (.int .u64 (q : Int)) ∧ w'.cell? ⟨gk, 2, none⟩ = some (.int .u8 (k : Int)))
        ((first | assumption | exact HSK.out _ (by assumption) | exact HSK.out _ hs0))
        (first
        | (go_at_call 43; refine (HC.out _).mono ?_; rintro e w2 ⟨rfl, hb2⟩; have hb3 : Below wr.heap.size wr w2 := bon (And.left (by assumption)) hb2))
      obtain ⟨cv, hcv⟩ : ∃ cv, cmpV x.s x.q x.k s q k = cv := ⟨_, rfl⟩
      rw [hcv]
      have HCV := Lib.hid hcv
      have E4 := Lib.hid (E3.out.below hb3)
      have G4 := Lib.hid (bon G3.out hb3)
      obtain ⟨z0, z1, z2, z3⟩ := HXC.out _ hb3
      have R4 := Lib.hid (R3.out.now hb3)
      have K4 := Lib.hid (K3.out.below hb3 (Nat.le_refl _))
      clear x0 x1 x2 x3 k0 k1 k2 hcv hb2 hb3 HC HSK HXC hs0 R3 K3 E3 G3
      by_cases hneg : 0 ≤ cv
      · have e1 : decide (0 ≤ cv) = true := by simpa using hneg
        have hfn : seekE L s q k = some x := find_at _ L j x (fun i y hi hy => HALL.out i y hi hy) HX.out (decide_eq_true (by rw [HCV.out]; exact hneg))
        have HVN := Lib.hid HV.out
        rw [hfn] at HVN
        obtain ⟨i0, i1, i2, i3⟩ := E4.out.cells
        obtain ⟨j0, j1, j2, j3⟩ := E4.out.frozen
        have HFIN := Lib.hid (And.intro (E4.out.set4 (y := x)) (below_set4 G4.out hg1 (.string x.s) (.int .u64 (x.q : Int)) (.int .u8 (x.k : Int)) (.string x.v)))
        clear hfn HV
        go_wp2_with fail
        exact ret_en3 rfl rfl rfl HFIN.out.1 ⟨by rw [HVN.out.1, HVN.out.2]; rfl, HFIN.out.2⟩
      · have e1 : decide (0 ≤ cv) = false := by simpa using hneg
        have e2 : cv < 0 := by omega
        clear z0 z1 z2 z3
        go_wp2_with fail
        go_roundw
        case rel =>
          refine ⟨j + 1, by simp, by omega, fun t y ht hy => ?_, R4.out, K4.out, E4.out, G4.out⟩
          rcases Nat.lt_or_ge t j with h1 | h1
          · exact HALL.out t y h1 hy
          · obtain rfl : t = j := by omega
            rw [HX.out] at hy
            cases hy
            rw [HCV.out]; exact e1
        case measure => simp [intOf]; omega
    · have hki : ¬ (j : Int) < (n3 : Int) := by omega
      obtain rfl : j = n3 := by omega
      have hfn : seekE L s q k = none := find_no _ _ (fun i x hx => hall i x (by
        have : i < L.length := by
          rcases Nat.lt_or_ge i L.length with h1 | h1
          · exact h1
          · rw [List.getElem?_eq_none h1] at hx; cases hx
        have := HL3.out; omega) hx)
      have HVN := Lib.hid HV.out
      rw [hfn] at HVN
      obtain ⟨i0, i1, i2, i3⟩ := e3.cells
      obtain ⟨j0, j1, j2, j3⟩ := e3.frozen
      have HFIN := Lib.hid (And.intro (e3.set4 (y := noE)) (below_set4 g3 hg1 (.string noE.s) (.int .u64 (noE.q : Int)) (.int .u8 (noE.k : Int)) (.string noE.v)))
      clear hfn HV r3 k3 e3 g3 hall
      go_wp2_with fail
      exact ret_en3 rfl rfl rfl HFIN.out.1 ⟨by rw [HVN.out.1, HVN.out.2]; rfl, HFIN.out.2⟩

set_option maxRecDepth 100000 in
set_option maxHeartbeats 4000000 in
theorem refTMeta_c {w : World} {B n c : Nat} {A : Option Addr} {l : List UInt8} (h : Rd w B A n c (bv l)) (hB : B ≤ w.heap.size) (hn1 : n ≤ 1000000) (num : Nat) :
    Calls Tryz.prog 19 #[.int .u64 (num : Int), .slice A n c] w (RetMt w (metM num l) (metE num l)) := by
  have hl : l.length = n := by simpa using h.len
  obtain ⟨g, hg⟩ : ∃ g, w.heap.size = g := ⟨_, rfl⟩
  have hn : n ≤ 1000000000 := by omega
  have hni : (n : Int) ≤ 1000000000 := by omega
  obtain ⟨w2, hw2⟩ : ∃ w2, w.alloc (.cells #[.int .u64 0, .int .u64 0, .string ⟨#[]⟩, .string ⟨#[]⟩] 44) = w2 := ⟨_, rfl⟩
  have hm0 : MtAt w2 g noM := by rw [← hw2, ← hg]; exact MtAt.new w noM
  have hb0 : Below w.heap.size w w2 := by rw [← hw2]; exact below_alloc w _
  have HP := Lib.hid (refTParse_c ((h.under hb0 hB).more (Nat.le_trans hB hb0.size)) hn1)
  have HM0 := Lib.hid hm0
  have HB0 := Lib.hid hb0
  have HPC := Lib.hid (prt_cases l)
  have hgw : g ≥ w.heap.size := by omega
  by_cases h0 : num = 0
  · subst h0
    have e1 : metM 0 l = noM := if_pos (.inl rfl)
    have e2 : metE 0 l = 2 := if_pos rfl
    rw [e1, e2]
    obtain ⟨i0, i1, i2, i3⟩ := hm0.cells
    obtain ⟨j0, j1, j2, j3⟩ := hm0.frozen
    have HFIN := Lib.hid (And.intro (hm0.set4 (y := noM)) (below_set4 hb0 hgw (.int .u64 (noM.num : Int)) (.int .u64 (noM.size : Int)) (.string noM.lo) (.string noM.hi)))
    clear h hl hm0 hb0 hn e1 e2 HP HPC
    go_enter Tryz.func19, Tryz.ntmps19
    go_wp2_with fail
    exact ret_mt rfl rfl rfl HFIN.out.1 ⟨rfl, HFIN.out.2⟩
  have d0 : ((num : Int) == 0) = false := by simp; omega
  have d0' : (num == 0) = false := by simpa using h0
  have e2 : metE num l = prtE l := if_neg h0
  have HV := Lib.hid (show metM num l = if num = 0 ∨ prtE l ≠ 0 then noM else ⟨num, l.length, ((prtL l)[0]?.getD noE).s, (lastE (prtL l)).s⟩ from rfl)
  rw [e2]
  generalize metM num l = V at HV ⊢
  generalize prtL l = L at *
  generalize prtE l = E at *
  have HH0 := Lib.hid h0
  have HL := Lib.hid hl
  clear h hl hm0 hb0 hn e2 h0
  go_enter Tryz.func19, Tryz.ntmps19
  go_wp2_with fail
  refine HP.out.mono ?_
  rintro e w3 ⟨A3, n3, c3, rfl, hf3, hb3⟩
  have hm3 := HM0.out.below hb3
  have hg3 := bon HB0.out hb3
  have hl3 := hf3.len
  have HM3 := Lib.hid hm3
  have HG3 := Lib.hid hg3
  have HF3 := Lib.hid hf3
  obtain ⟨i0, i1, i2, i3⟩ := hm3.cells
  obtain ⟨j0, j1, j2, j3⟩ := hm3.frozen
  clear hm3 hg3 hf3 hb3 HP HM0 HB0 hw2
  by_cases hE : E = 0
  case neg =>
    have hV : V = noM := by rw [HV.out, if_pos (.inr hE)]
    have d1 : (E != 0) = true := by simpa using hE
    have HFIN := Lib.hid (And.intro (HM3.out.set4 (y := noM)) (below_set4 HG3.out hgw (.int .u64 (noM.num : Int)) (.int .u64 (noM.size : Int)) (.string noM.lo) (.string noM.hi)))
    have HVV := Lib.hid hV
    clear hV hE HV HPC
    go_wp2_with fail
    exact ret_mt rfl rfl rfl HFIN.out.1 ⟨by rw [HVV.out]; rfl, HFIN.out.2⟩
  subst hE
  have htb : tblB L = true := by
    rcases HPC.out with h | h
    · exact absurd h.1 (by decide)
    · exact h.2.1
  obtain ⟨b1, b2, b3, b4⟩ := tblB_iff.1 htb
  obtain ⟨N, rfl⟩ : ∃ N, n3 = N + 1 := ⟨n3 - 1, by omega⟩
  obtain ⟨b, off, hA, hbB, hcell⟩ := (HF3.out.rd (Nat.le_refl _)).form (by omega)
  subst hA
  obtain ⟨x, hx⟩ : ∃ x, L[0]? = some x := ⟨_, List.getElem?_eq_getElem (by omega)⟩
  obtain ⟨y, hy⟩ : ∃ y, lastE L = y := ⟨_, rfl⟩
  have hyat : L[N]? = some y := by have := lastE_of b1; rw [hl3] at this; rw [← hy]; exact this
  obtain ⟨x0, _⟩ := hcell 0 x hx
  rw [Nat.zero_mul, Nat.add_zero] at x0
  obtain ⟨y0, _⟩ := hcell N y hyat
  have hV : V = ⟨num, n, x.s, y.s⟩ := by rw [HV.out, if_neg (by have := HH0.out; simp; omega), hx, hy, HL.out]; rfl
  have HVV := Lib.hid hV
  have hN0 : (0 : Int) ≤ (N : Int) := by omega
  have hNl : (N : Int) < (N : Int) + 1 := by omega
  have hN1 : (0 : Int) < (N : Int) + 1 := by omega
  have hni3 : (N : Int) + 1 ≤ 8192 := by omega
  have hw1 : IntKind.i64.wrap (N : Int) = (N : Int) := wrapi _ (by omega) (by omega)
  have hw4 : IntKind.u64.wrap (n : Int) = (n : Int) := by rw [wrapu]; omega
  have HFIN := Lib.hid (fun q => And.intro ((show MtAt (w3.drewN q) g noM from ⟨HM3.out.lt, HM3.out.h⟩).set4 (y := ⟨num, n, x.s, y.s⟩)) (below_set4 (below_drewN HG3.out q) hgw (.int .u64 (num : Int)) (.int .u64 (n : Int)) (.string x.s) (.string y.s)))
  clear hcell hx hy hyat hV HV HPC b1 b2 b3 b4 htb hl3
  go_wp2_with fail
  go_region
  all_goals (
    go_wp2_with fail
    exact ret_mt rfl rfl rfl (HFIN.out 1).1 ⟨by rw [HVV.out]; rfl, (HFIN.out 1).2⟩)
end Go.Proofs.YtkdjjdkcogolmaaGreatDoor
