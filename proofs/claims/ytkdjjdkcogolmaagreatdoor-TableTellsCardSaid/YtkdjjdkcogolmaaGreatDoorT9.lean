/-
  What entries are as a table, and what bytes say: the contracts of Build and Parse.
-/
import Derived.Test.YtkdjjdkcogolmaaGreatDoorT8
namespace Go.Proofs.YtkdjjdkcogolmaaGreatDoor
set_option maxRecDepth 100000
open Go.RowKit Go.Shelf
set_option linter.unusedVariables false

set_option maxRecDepth 100000 in
set_option maxHeartbeats 4000000 in
theorem tbuild_c {w : World} {B n c : Nat} {A : Option Addr} {L : List Ent} (h : RdE w B A n c L) (hB : B ≤ w.heap.size) (hn : (n : Int) ≤ 70368744000000) :
    Calls Tryz.prog 9 #[.slice A n c] w (RetBE w (bltL L) (bltE L)) := by
  have HR := Lib.hid (tabRight_c h hB hn)
  by_cases hb : tblB L = true
  case neg =>
    have e1 : bltL L = [] := if_neg hb
    have e2 : bltE L = 80 := if_neg hb
    have hb : tblB L = false := by simpa using hb
    rw [hb] at HR
    rw [e1, e2]
    clear h hb e1 e2
    go_enter Tryz.func9, Tryz.ntmps9
    go_wp2_with fail
    refine HR.out.mono ?_
    rintro e w1 ⟨rfl, hb1⟩
    go_wp2_with fail
    go_ret2
    exact ⟨none, 0, 0, rfl, Fr.nil, hb1⟩
  have e1 : bltL L = tabL L := if_pos hb
  have e2 : bltE L = 0 := if_pos hb
  have HF := Lib.hid fun W (hW : Below w.heap.size w W) => tform_c ((h.below hW hB).more (Nat.le_trans hB hW.size)) hb
  rw [hb] at HR
  rw [e1, e2]
  clear h hb e1 e2
  go_enter Tryz.func9, Tryz.ntmps9
  go_wp2_with fail
  refine HR.out.mono ?_
  rintro e w1 ⟨rfl, hb1⟩
  go_wp2_with fail
  refine (HF.out w1 hb1).mono ?_
  rintro e w2 ⟨A2, n2, c2, rfl, hf2, hb2⟩
  go_wp2_with fail
  go_ret2
  exact ⟨A2, n2, c2, rfl, hf2.mono hb1.size, bon hb1 hb2⟩

theorem flat_len : ∀ {P : List (List Ent)}, (∀ one ∈ P, blkB one = true) → P.flatten.length ≤ 64 * P.length
  | [], _ => by simp
  | one :: P, h => by
    have a := flat_len (fun x hx => h x (List.mem_cons_of_mem _ hx))
    have b := (blkB_iff.1 (h one List.mem_cons_self)).2.1
    rw [List.flatten_cons, List.length_append, List.length_cons]; omega
theorem IsRd.len {b : List UInt8} {P : List (List Ent)} {u : Nat} (h : IsRd b P u) : P.flatten.length ≤ 8 * b.length := by
  have h1 := flat_len h.all
  have h2 := (frL_len h.all).2
  rw [← h.eq, List.length_take] at h2
  omega
theorem prt_no {b : List UInt8} {P : List (List Ent)} {u : Nat} (hr : IsRd b P u) (h : ¬ (tblB P.flatten = true ∧ tabL P.flatten = b)) : prtL b = [] ∧ prtE b = 80 := by
  have hn : parseT b = none := parseT_none (fun L h1 h2 => h (by rw [rd_tab h1 h2 hr]; exact ⟨h1, h2⟩))
  unfold prtL prtE
  rw [hn]
  exact ⟨rfl, rfl⟩
theorem prt_yes {b : List UInt8} {L : List Ent} (h1 : tblB L = true) (h2 : tabL L = b) : prtL b = L ∧ prtE b = 0 := by
  have hn := parseT_iff.2 ⟨h1, h2⟩
  unfold prtL prtE
  rw [hn]
  exact ⟨rfl, rfl⟩
theorem prt_cases (b : List UInt8) : (prtE b = 80 ∧ prtL b = [] ∧ parseT b = none) ∨ (prtE b = 0 ∧ tblB (prtL b) = true ∧ tabL (prtL b) = b ∧ parseT b = some (prtL b)) := by
  cases h : parseT b with
  | none => left; unfold prtL prtE; rw [h]; exact ⟨rfl, rfl, rfl⟩
  | some L =>
    right
    obtain ⟨h1, h2⟩ := parseT_iff.1 h
    obtain ⟨h3, h4⟩ := prt_yes h1 h2
    rw [h3]
    exact ⟨h4, h1, h2, rfl⟩

set_option maxRecDepth 100000 in
set_option maxHeartbeats 4000000 in
theorem tparse_c {w : World} {B n c : Nat} {A : Option Addr} {l : List UInt8} (h : Rd w B A n c (bv l)) (hB : B ≤ w.heap.size) (hn : n ≤ 1000000000) :
    Calls Tryz.prog 14 #[.slice A n c] w (RetLE w (prtL l) (prtE l)) := by
  have hl : l.length = n := by simpa using h.len
  have HRD := Lib.hid (readT_c (h.more hB) hn)
  have HH := Lib.hid h
  have HL := Lib.hid hl
  clear h hl
  go_enter Tryz.func14, Tryz.ntmps14
  go_wp2_with fail
  refine HRD.out.mono ?_
  rintro e w1 ⟨A1, n1, c1, P, u, rfl, hrd, hf1, hb1⟩
  have hlen := hrd.len
  have hfl := hf1.len
  rw [HL.out] at hlen
  have hni : (n1 : Int) ≤ 70368744000000 := by omega
  have HR := Lib.hid (tabRight_c (hf1.rd (Nat.le_refl _)) (Nat.le_refl _) hni)
  have HF := Lib.hid hf1
  have HB := Lib.hid hb1
  have HI := Lib.hid hrd
  clear hlen hfl hf1 hb1 hrd HRD
  obtain ⟨M, hM⟩ : ∃ M, P.flatten = M := ⟨_, rfl⟩
  rw [hM] at HR HF
  by_cases hb : tblB M = true
  case neg =>
    obtain ⟨e1, e2⟩ := prt_no HI.out (fun h => hb (by rw [← hM]; exact h.1))
    have hb : tblB M = false := by simpa using hb
    rw [hb] at HR
    have HE := Lib.hid (And.intro e1 e2)
    clear hb e1 e2 hM
    go_wp2_with fail
    refine HR.out.mono ?_
    rintro e w2 ⟨rfl, hb2⟩
    go_wp2_with fail
    go_ret2
    exact ⟨none, 0, 0, by rw [HE.out.2]; rfl, by rw [HE.out.1]; exact FrE.nil, bon HB.out hb2⟩
  have HFO := Lib.hid fun W (hW : Below w1.heap.size w1 W) => tform_c (((HF.out.below hW).rd (Nat.le_refl _)).more (Nat.le_refl _)) hb
  have HBB := Lib.hid hb
  rw [hb] at HR
  clear hb
  go_wp2_with fail
  refine HR.out.mono ?_
  rintro e w2 ⟨rfl, hb2⟩
  go_wp2_with fail
  refine (HFO.out w2 hb2).mono ?_
  rintro e w3 ⟨A3, n3, c3, rfl, hf3, hb3⟩
  have hb4 := bon HB.out (bon hb2 hb3)
  have HEQ := Lib.hid (equal_c (hf3.rd (Nat.le_refl _)) (HH.out.under hb4 hB))
  have HF3 := Lib.hid (HF.out.below (bon hb2 hb3))
  have HB4 := Lib.hid hb4
  clear hf3 hb2 hb3 hb4
  go_wp2_with fail
  refine HEQ.out.mono ?_
  rintro e w4 ⟨rfl, rfl⟩
  by_cases heq : tabL M = l
  · obtain ⟨e1, e2⟩ := prt_yes HBB.out heq
    have d1 : (tabL M == l) = true := by simpa using heq
    have HE := Lib.hid (And.intro e1 e2)
    rw [d1]
    clear e1 e2 hM heq d1
    go_wp2_with fail
    go_ret2
    exact ⟨A1, n1, c1, by rw [HE.out.2]; rfl, by rw [HE.out.1]; exact HF3.out, HB4.out⟩
  · obtain ⟨e1, e2⟩ := prt_no HI.out (fun h => heq (by rw [← hM]; exact h.2))
    have d1 : (tabL M == l) = false := by simpa using heq
    have HE := Lib.hid (And.intro e1 e2)
    rw [d1]
    clear e1 e2 hM heq d1
    go_wp2_with fail
    go_ret2
    exact ⟨none, 0, 0, by rw [HE.out.2]; rfl, by rw [HE.out.1]; exact FrE.nil, HB4.out⟩
end Go.Proofs.YtkdjjdkcogolmaaGreatDoor
