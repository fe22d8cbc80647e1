/-
  The notes of an edit, put; whether there are any.
-/
import Derived.Test.YthgbafhfeblhaaaEd5
import Derived.Deep.RegionHeld3
namespace Go.Proofs.Ythgbafhfeblhaaa
set_option maxRecDepth 100000
open Go.RowKit Go.Shelf
set_option linter.unusedSimpArgs false
set_option linter.unusedVariables false

theorem metaL_len {x : Mt} (h : MtOk x) : (metaL x).length ≤ 170 := by
  have h1 := shortL_len x.n; have h2 := shortL_len x.z; have h3 := textL_len x.s; have h4 := textL_len x.t
  have h5 := shortL_len x.s.size; have h6 := shortL_len x.t.size
  have h7 := h.s; have h8 := h.t
  simp only [metaL, List.length_append]; omega
theorem metasL_len : ∀ {L : List Mt}, (∀ x ∈ L, MtOk x) → (metasL L).length ≤ L.length * 170
  | [], _ => by simp [metasL]
  | x :: L, h => by
    have h1 := metaL_len (h x (List.mem_cons_self ..))
    have h2 := metasL_len (L := L) (fun y hy => h y (List.mem_cons_of_mem _ hy))
    simp only [metasL, List.flatMap_cons, List.length_append, List.length_cons] at *; omega
theorem take_snoc'' {L : List Mt} {k : Nat} {x : Mt} (h : L[k]? = some x) : L.take (k + 1) = L.take k ++ [x] := by
  rw [List.take_add_one, h]; rfl
theorem metasL_next {L : List Mt} {k : Nat} {x : Mt} (h : L[k]? = some x) : metasL (L.take (k + 1)) = metasL (L.take k) ++ metaL x := by
  have := take_snoc'' h
  rw [this]; simp [metasL]

set_option maxRecDepth 100000 in
set_option maxHeartbeats 1000000 in
theorem saysNotes_c {w : World} {n c : Nat} {A : Option Addr} {e : Ed} (hn : e.L.length = n) : Calls Try.prog 45 #[edV A n c e] w (RetVl w (.bool (sayB 0 e))) := by
  have HS := Lib.hid (show sayB 0 e = decide (0 < n) by rw [← hn]; rfl)
  clear hn
  unfold edV
  go_enter Try.func45, Try.ntmps45
  go_wp2
  all_goals go_ret
  all_goals exact RetVl.bool (by rw [HS.out]) (below_alloc w _)

set_option maxRecDepth 100000 in
set_option maxHeartbeats 8000000 in
theorem putNotes_c {w : World} {B n c n1 c1 : Nat} {A A1 : Option Addr} {l : List UInt8} {e : Ed} (hl : Rd w B A1 n1 c1 (bv l)) (h : RdM w B A n c e.L) (hB : B ≤ w.heap.size) (hn1 : n1 ≤ 1000) (hn : n ≤ 64) (hx : ∀ x ∈ e.L, MtOk x) :
    Calls Try.prog 46 #[.slice A1 n1 c1, edV A n c e] w (RetB w (l ++ putL 0 e)) := by
  have hlen := h.len
  have hln := rd_n hl
  obtain ⟨L, a, b, c'⟩ := e
  simp only [] at hx h hlen
  have HE := Lib.hid (show l ++ putL 0 ⟨L, a, b, c'⟩ = l ++ shortL n ++ metasL L by unfold putL; simp only [hlen, List.append_assoc])
  unfold edV
  simp only
  obtain ⟨w1, hw1⟩ : ∃ w1, w1 = w.alloc (.cells #[.slice A n c, .int .u64 (a : Int), .int .u64 (b : Int), .int .u64 (c' : Int)] 25) := ⟨_, rfl⟩
  have hb1 : Below w.heap.size w w1 := by rw [hw1]; exact below_alloc w _
  have hg1 : B4 w1 w.heap.size 25 (.slice A n c) (.int .u64 (a : Int)) (.int .u64 (b : Int)) (.int .u64 (c' : Int)) := by rw [hw1]; exact B4.new _ _ _ _ _ _ rfl
  obtain ⟨q0, q1, q2, q3, _, _, _, _⟩ := hg1.cells
  have HP0 := Lib.hid (put_c (w := w1) (hl.under hb1 hB) (Nat.le_trans hB hb1.size) (by omega) (n : Int) (by omega) (by omega))
  rw [Int.toNat_natCast] at HP0
  have HG1 := Lib.hid hg1
  have HB1 := Lib.hid hb1
  have HLN := Lib.hid hln
  have hw64 : IntKind.u64.wrap (n : Int) = (n : Int) := by rw [wrapu]; omega
  have HX := Lib.hid hx
  have HH := Lib.hid h
  have HN := Lib.hid hlen
  have HN1 := Lib.hid hn1
  have hni : (n : Int) ≤ 64 := by omega
  have hn0 : (0 : Int) ≤ (n : Int) := by omega
  clear hl h hlen hln hg1 hb1 hx hn1
  go_enter Try.func46, Try.ntmps46
  go_upto_region 1 with (fail)
  rw [← hw1]
  clear hw1
  go_wp2_with fail
  refine HP0.out.mono ?_
  rintro e w2 ⟨A2, n2, c2, rfl, hf2, hb2⟩
  have hg2 := HG1.out.now hb2
  obtain ⟨q0', q1', q2', q3', _, _, _, _⟩ := hg2.cells
  have HB2 := Lib.hid (bon HB1.out hb2)
  have HF2 := Lib.hid (hf2.mono (b' := w.heap.size) HB1.out.size)
  clear q0 q1 q2 q3 hf2 hb2 hg2
  go_wp2_with fail
  clear q0' q1' q2' q3'
  go_loopw [0, 16] (fun ov iv wr => ∃ (k : Nat) (Ar : Option Addr) (nr cr : Nat), ov = .slice Ar nr cr ∧ iv = .int .i64 (k : Int) ∧ k ≤ n ∧ Fr wr w.heap.size 5 Ar nr cr (bv (l ++ shortL n ++ metasL (L.take k))) ∧ Below w.heap.size w wr) (fun _ iv _ => ((n : Int) - intOf iv).toNat)
  case atStart => exact ⟨0, A2, n2, c2, rfl, rfl, Nat.zero_le _, by simpa [metasL] using HF2.out, HB2.out⟩
  case round =>
    obtain ⟨k, Ar, nr, cr, rfl, rfl, hkn, hf, hbr⟩ := hrel
    by_cases hlt : k < n
    · obtain ⟨bb, off, hA, hbB, hcell⟩ := HH.out.form (by omega)
      subst hA
      obtain ⟨⟨mn, mz, ms, mt⟩, hx⟩ : ∃ x, L[k]? = some x := ⟨L[k]'(by have := HN.out; omega), List.getElem?_eq_getElem _⟩
      have hok := HX.out _ (List.mem_of_getElem? hx)
      have hk (i : Nat) : wr.cell? ⟨bb, i, none⟩ = w.cell? ⟨bb, i, none⟩ := hbr.cell (by simp; omega)
      obtain ⟨x0, x1, x2, x3⟩ := hcell k _ hx
      rw [← hk] at x0 x1 x2 x3
      have hki : (k : Int) < (n : Int) := by omega
      have hk0 : (0 : Int) ≤ (k : Int) := by omega
      obtain ⟨P, hP⟩ : ∃ P, P = l ++ shortL n ++ metasL (L.take k) := ⟨_, rfl⟩
      rw [← hP] at hf
      have hPl : P.length ≤ 20000 := by
        have h1 := metasL_len (L := L.take k) (fun y hy => HX.out y (List.mem_of_mem_take hy))
        have h2 := shortL_len n
        have := HLN.out; have := HN1.out
        rw [List.length_take] at h1
        rw [hP]; simp only [List.length_append]; omega
      obtain ⟨m1, m2, m3, m4⟩ := hok
      simp only at m1 m2 m3 m4
      obtain ⟨wb, hwb⟩ : ∃ wb, wb = wr.alloc (.cells #[.int .u64 (mn : Int), .int .u64 (mz : Int), .string ms, .string mt] 47) := ⟨_, rfl⟩
      have hbb : Below wr.heap.size wr wb := by rw [hwb]; exact below_alloc wr _
      have hg4 : B4 wb wr.heap.size 47 (.int .u64 (mn : Int)) (.int .u64 (mz : Int)) (.string ms) (.string mt) := by rw [hwb]; exact B4.new _ _ _ _ _ _ rfl
      have hbw := hbr.trans (hbb.mono hbr.size)
      have HSK := Lib.hid (show ∀ W, Below wb.heap.size wb W → (Below wb.heap.size wb W ∧ W.cell? ⟨wr.heap.size, 0, none⟩ = some (.int .u64 (mn : Int)) ∧ W.cell? ⟨wr.heap.size, 1, none⟩ = some (.int .u64 (mz : Int)) ∧ W.cell? ⟨wr.heap.size, 2, none⟩ = some (.string ms) ∧ W.cell? ⟨wr.heap.size, 3, none⟩ = some (.string mt)) from fun W hW => by
        obtain ⟨q0, q1, q2, q3, _, _, _, _⟩ := (hg4.now hW).cells
        exact ⟨hW, q0, q1, q2, q3⟩)
      have HF := Lib.hid (show Fr wb.drew w.heap.size 5 Ar nr cr (bv P) from ⟨(hf.below hbb).own⟩)
      have HBW := Lib.hid hbw
      have HPL := Lib.hid hPl
      have HPE := Lib.hid hP
      have HMX := Lib.hid (metasL_next hx)
      have HL1 := Lib.hid (shortL_len mn)
      have HL2 := Lib.hid (shortL_len mz)
      have HL3 := Lib.hid (show (textL ms).length ≤ 80 by have := textL_len ms; have := shortL_len ms.size; omega)
      have hs0 : Below wb.heap.size wb wb.drew := below_drewN (Below.refl _ _) 1
      obtain ⟨q0, q1, q2, q3, _, _, _, _⟩ := hg4.cells
      clear hcell hk hx hf hbr hP hPl hbb hg4 hbw hkn
      go_upto_region 5 with (fail)
      rw [← hwb]
      clear hwb x0 x1 x2 x3
      go_region_held3 (fun w' => Below wb.heap.size wb w' ∧ w'.cell? ⟨wr.heap.size, 0, none⟩ = some (.int .u64 (mn : Int)) ∧ w'.cell? ⟨wr.heap.size, 1, none⟩ = some (.int .u64 (mz : Int)) ∧ w'.cell? ⟨wr.heap.size, 2, none⟩ = some (.string ms) ∧ w'.cell? ⟨wr.heap.size, 3, none⟩ = some (.string mt))
        ((first | assumption | exact HSK.out _ (by assumption) | exact HSK.out _ hs0))
        (first
        | (have hq6 := HF6.out; go_at_call 56; refine (putText_c (HF6.out.rd (Nat.le_refl _)) (Nat.le_refl _) (by have := HF6.out.len; have := HPL.out; have := HL1.out; have := HL2.out; have := HL3.out; simp at *; omega) mt (by omega)).mono ?_; rintro e w7 ⟨A7, n7, c7, rfl, hf7, hb7⟩; have hb17 := Below.trans hb16 (hb7.mono hb16.size); have HF7 := Lib.hid (hf7.mono (Nat.le_trans HBW.out.size hb16.size)); clear hf7 hb7)
        | (have hq5 := HF5.out; go_at_call 56; refine (putText_c (HF5.out.rd (Nat.le_refl _)) (Nat.le_refl _) (by have := HF5.out.len; have := HPL.out; have := HL1.out; have := HL2.out; simp at *; omega) ms (by omega)).mono ?_; rintro e w6 ⟨A6, n6, c6, rfl, hf6, hb6⟩; have hb16 := Below.trans hb15 (hb6.mono hb15.size); have HF6 := Lib.hid (hf6.mono (Nat.le_trans HBW.out.size hb15.size)); clear hf6 hb6)
        | (have hq4 := HF4.out; go_at_call 55; refine (put_c (HF4.out.rd (Nat.le_refl _)) (Nat.le_refl _) (by have := HF4.out.len; have := HPL.out; have := HL1.out; simp at *; omega) (mz : Int) (by omega) (by omega)).mono ?_; rintro e w5 ⟨A5, n5, c5, rfl, hf5, hb5⟩; have hb15 := Below.trans hb14 (hb5.mono hb14.size); have HF5 := Lib.hid (hf5.mono (Nat.le_trans HBW.out.size hb14.size)); clear hf5 hb5)
        | (go_at_call 55; refine (put_c (HF.out.rd (Nat.le_refl _)) (Nat.le_refl _) (by have := HF.out.len; have := HPL.out; simp at *; omega) (mn : Int) (by omega) (by omega)).mono ?_; rintro e w4 ⟨A4, n4, c4, rfl, hf4, hb4⟩; have hb14 := Below.trans hs0 (hb4.mono hs0.size); have HF4 := Lib.hid (hf4.mono (Nat.le_trans HBW.out.size hs0.size)); clear hf4 hb4))
      have HF7b := Lib.hid (show Fr w7 w.heap.size 5 A7 n7 c7 (bv (l ++ shortL n ++ metasL (L.take (k + 1)))) by
        have := HF7.out
        rw [HMX.out, ← List.append_assoc, ← HPE.out]
        simpa only [metaL, List.append_assoc, Int.toNat_natCast] using this)
      have hbz := HBW.out.trans (hb17.mono HBW.out.size)
      clear q0 q1 q2 q3
      go_wp2_with fail
      go_roundw
      case rel => exact ⟨k + 1, A7, n7, c7, rfl, by simp, by omega, HF7b.out, hbz⟩
      case measure => simp [intOf]; omega
    · have hki : ¬ (k : Int) < (n : Int) := by omega
      obtain rfl : k = n := by omega
      have HF := Lib.hid hf
      clear hf hkn
      go_wp2_with fail
      go_ret
      exact ⟨Ar, nr, cr, rfl, by rw [HE.out]; simpa [← HN.out] using HF.out, hbr⟩
end Go.Proofs.Ythgbafhfeblhaaa
