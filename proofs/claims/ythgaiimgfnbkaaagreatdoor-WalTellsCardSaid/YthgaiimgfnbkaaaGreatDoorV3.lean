/-
  Contracts: the reference's Right, Bytes of a record.
-/
import Derived.Test.YthgaiimgfnbkaaaGreatDoorV2
namespace Go.Proofs.YthgaiimgfnbkaaaGreatDoor
set_option maxRecDepth 100000
open Go.RowKit Go.Shelf
set_option linter.unusedVariables false

set_option maxHeartbeats 4000000 in
theorem refRight6_c {w : World} {q n c : Nat} {A : Option Addr} {L : List Bop} (h : RdO w w.heap.size A n c L) (hq : (q : Int) ≤ 18446744073709551615) (hn : (n : Int) ≤ 70368744000000) :
    Calls Tryz.prog 24 #[.agg #[.int .u64 (q : Int), .slice A n c]] w (RetVl w (.bool (recB q L))) := by
  have hb1 := below_alloc w (.cells #[.int .u64 (q : Int), .slice A n c] 25)
  have ra := RecAt.new w q A n c
  have hl := h.len
  have h1 := h.now hb1
  have HA := Lib.hid ra
  have HB := Lib.hid hb1
  have HH := Lib.hid h1
  clear h h1 hb1
  obtain ⟨r0, r1⟩ := ra.cells
  clear ra
  cases hg : grpB L 128 with
  | false =>
    have hr : recB q L = false := by unfold recB; rw [hg]; rfl
    rw [hr]
    have e1 : bytesL L = [] := by unfold bytesL; rw [hg]; rfl
    have e2 : bytesE L = 40 := by unfold bytesE; rw [hg]; rfl
    have HC := Lib.hid (refBytes_c HH.out (Nat.le_refl _) hn)
    rw [e1, e2] at HC
    have HL := Lib.hid hl
    have e3 : ((40 : Int) == 0) = false := by decide
    clear hg hr e1 e2 hl
    go_enter Tryz.func24, Tryz.ntmps24
    go_wp2_with fail
    refine HC.out.mono ?_
    rintro e w2 ⟨A1, n1, c1, rfl, -, hb2⟩
    obtain ⟨z0, z1⟩ := (HA.out.below hb2 (Nat.le_refl _)).cells
    have hb3 := bon HB.out hb2
    clear hb2 r0 r1
    go_wp2_with fail
    go_ret
    exact ⟨rfl, hb3⟩
  | true =>
    have hn1 : (1 : Int) ≤ (n : Int) := by have := (grpB_iff.1 hg).1; omega
    have e1 : bytesE L = 0 := by unfold bytesE; rw [hg]; rfl
    have HC := Lib.hid (refBytes_c HH.out (Nat.le_refl _) hn)
    rw [e1] at HC
    have hr : recB q L = (decide (1 ≤ q) && (decide (q ≤ 72057594037927935) && decide (n - 1 ≤ 72057594037927935 - q))) := by
      rw [Bool.eq_iff_iff, recB_iff]
      simp only [Bool.and_eq_true, decide_eq_true_eq]
      constructor
      · rintro ⟨_, a, b⟩; omega
      · rintro ⟨a, b, d⟩; exact ⟨hg, a, by omega⟩
    have HR := Lib.hid hr
    clear hg hr hl e1
    have key : ∀ b : Bool, recB q L = b → Calls Tryz.prog 24 #[.agg #[.int .u64 (q : Int), .slice A n c]] w (RetVl w (.bool b)) := by
      intro b hb
      have HBB := Lib.hid hb
      clear hb
      by_cases h1 : 1 ≤ q
      · have d1 : decide ((1 : Int) ≤ (q : Int)) = true := by simp; omega
        have d1' : decide (1 ≤ q) = true := by simp; omega
        by_cases h2 : q ≤ 72057594037927935
        · have d2 : decide ((q : Int) ≤ 72057594037927935) = true := by simp; omega
          have d2' : decide (q ≤ 72057594037927935) = true := by simp; omega
          have hq1 : (1 : Int) ≤ (q : Int) := by omega
          have hq2 : (q : Int) ≤ 72057594037927935 := by omega
          have hbv : decide ((n : Int) - 1 ≤ 72057594037927935 - (q : Int)) = b := by
            rw [← HBB.out, HR.out, d1', d2', Bool.true_and, Bool.true_and, decide_eq_decide]; omega
          clear h1 h2 d1' d2'
          go_enter Tryz.func24, Tryz.ntmps24
          go_wp2_with fail
          refine HC.out.mono ?_
          rintro e w2 ⟨A1, n1, c1, rfl, -, hb2⟩
          obtain ⟨z0, z1⟩ := (HA.out.below hb2 (Nat.le_refl _)).cells
          have hb3 := bon HB.out hb2
          clear hb2 r0 r1
          go_wp2_with fail
          go_ret
          exact ⟨rfl, hb3⟩
        · have d2 : decide ((q : Int) ≤ 72057594037927935) = false := by simp; omega
          have d2' : decide (q ≤ 72057594037927935) = false := by simp; omega
          have hbf : b = false := by rw [← HBB.out, HR.out, d2', Bool.false_and, Bool.and_false]
          subst hbf
          clear h1 h2 d1' d2'
          go_enter Tryz.func24, Tryz.ntmps24
          go_wp2_with fail
          refine HC.out.mono ?_
          rintro e w2 ⟨A1, n1, c1, rfl, -, hb2⟩
          obtain ⟨z0, z1⟩ := (HA.out.below hb2 (Nat.le_refl _)).cells
          have hb3 := bon HB.out hb2
          clear hb2 r0 r1
          go_wp2_with fail
          go_ret
          exact ⟨rfl, hb3⟩
      · have d1 : decide ((1 : Int) ≤ (q : Int)) = false := by simp; omega
        have d1' : decide (1 ≤ q) = false := by simp; omega
        have hbf : b = false := by rw [← HBB.out, HR.out, d1', Bool.false_and]
        subst hbf
        clear h1 d1'
        go_enter Tryz.func24, Tryz.ntmps24
        go_wp2_with fail
        refine HC.out.mono ?_
        rintro e w2 ⟨A1, n1, c1, rfl, -, hb2⟩
        obtain ⟨z0, z1⟩ := (HA.out.below hb2 (Nat.le_refl _)).cells
        have hb3 := bon HB.out hb2
        clear hb2 r0 r1
        go_wp2_with fail
        go_ret
        exact ⟨rfl, hb3⟩
    exact key _ rfl

set_option maxHeartbeats 4000000 in
theorem refBytes6_c {w : World} {q n c : Nat} {A : Option Addr} {L : List Bop} (h : RdO w w.heap.size A n c L) (hq : (q : Int) ≤ 18446744073709551615) (hn : (n : Int) ≤ 70368744000000) :
    Calls Tryz.prog 9 #[.agg #[.int .u64 (q : Int), .slice A n c]] w (RetBE w (walL q L) (walE q L)) := by
  have hb1 := below_alloc w (.cells #[.int .u64 (q : Int), .slice A n c] 25)
  have ra := RecAt.new w q A n c
  have h1 := h.now hb1
  have HC := Lib.hid (refRight6_c h1 hq hn)
  have HA := Lib.hid ra
  have HB := Lib.hid hb1
  have HH := Lib.hid h1
  clear h h1 hb1
  obtain ⟨r0, r1⟩ := ra.cells
  clear ra
  cases hr : recB q L with
  | false =>
    rw [(walL_no hr).1, (walL_no hr).2]
    rw [hr] at HC
    clear hr HH
    go_enter Tryz.func9, Tryz.ntmps9
    go_wp2_with fail
    refine HC.out.mono ?_
    rintro e w2 ⟨rfl, hb2⟩
    have hb3 := bon HB.out hb2
    clear hb2 r0 r1 HA
    go_wp2_with fail
    go_ret2
    exact ⟨none, 0, 0, rfl, Fr.nil, hb3⟩
  | true =>
    rw [(walL_yes hr).1, (walL_yes hr).2]
    rw [hr] at HC
    have hg := (recB_iff.1 hr).1
    have e1 : bytesL L = groupL L := by unfold bytesL; rw [hg]; rfl
    have e2 : bytesE L = 0 := by unfold bytesE; rw [hg]; rfl
    have HGL := Lib.hid (groupL_len hg)
    have HIL := Lib.hid (inL_len (q := q) hg)
    have HE1 := Lib.hid e1
    have HE2 := Lib.hid e2
    clear hr hg e1 e2
    go_enter Tryz.func9, Tryz.ntmps9
    go_wp2_with fail
    refine HC.out.mono ?_
    rintro e w2 ⟨rfl, hb2⟩
    have hb3 := bon HB.out hb2
    have ra := HA.out.below hb2 (Nat.le_refl _)
    have h2 := HH.out.now hb2
    clear hb2 r0 r1 HA HH HC HB
    obtain ⟨r0, r1⟩ := ra.cells
    have HC2 := Lib.hid (refBytes_c h2 (Nat.le_refl _) hn)
    rw [HE1.out, HE2.out] at HC2
    go_wp2_with fail
    refine HC2.out.mono ?_
    rintro e w3 ⟨A1, n1, c1, rfl, hf1, hb4⟩
    have ra2 := ra.below hb4 (Nat.le_refl _)
    replace hb3 := bon hb3 hb4
    clear r0 r1 ra h2 hb4 HC2
    obtain ⟨r0, r1⟩ := ra2.cells
    have hbl : (groupL L).length = n1 := by have := hf1.len; simpa using this
    have hn1 : (n1 : Int) ≤ 50000 := by have := HGL.out; omega
    have hP := refPut_c (w := w3) (B := 0) (l := []) Rd.nilv (by omega) (q : Int) (by omega) hq
    rw [List.nil_append, Int.toNat_natCast] at hP
    have HP := Lib.hid hP
    have HF1 := Lib.hid hf1
    clear hP hf1 hbl
    go_wp2_with fail
    refine HP.out.mono ?_
    rintro e w4 ⟨A2, n2, c2, rfl, hf2, hb5⟩
    have hn2 : (n2 : Int) ≤ 10 := by have h1 := hf2.len; have h2 := shortL_len q; simp at h1; omega
    have hB := (HF1.out.below hb5).here
    have hs4 := hb5.size
    clear HP r0 r1 HF1
    go_wp2_with (at_builtin; refine wpList_app rfl (.tmp 17) (.tmp 18) _ rfl Tryz.underlying26 info_u8 rfl rfl hf2 rfl hB (bv_one _) (by omega) (by omega) hs4 ?_; intro A5 c5 w5 hap5)
    have hf5 := hap5.fr
    rw [← bv_append] at hf5
    have hb6 := hb5.trans hap5.below
    have hs5 := hb6.size
    have hs3 := hb3.size
    have hS := refSeal_c (hf5.here) (Nat.le_refl _) (by omega)
    refine hS.mono ?_
    rintro e w6 ⟨A6, n6, c6, rfl, hf6, hb7⟩
    have hb8 := bon (hb3.trans (hb6.mono hb3.size)) hb7
    clear hb6 hb7 hb5 hap5 hf5 hf2 hB
    go_wp2_with fail
    go_ret2
    exact ⟨A6, n6, c6, rfl, hf6.mono (by omega), hb8⟩
end Go.Proofs.YthgaiimgfnbkaaaGreatDoor
