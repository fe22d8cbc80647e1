/-
  NumsBack: what is put is taken, and what is behind it stays; what is taken is put as it stood; numbers, texts and four bytes. No condition.
-/
import Derived.Test.YtkdmhdciapnblaaRows
import Derived.Test.YtkdmhdciapnblaaBack
import Derived.WalkKit
import Derived.ProofKit
import Derived.OpenShut
import Derived.ShutString
import Derived.ChangeOld
import Derived.Below
namespace Go.Proofs.Ytkdmhdciapnblaa.numsBack
open Go.ChangeShapes Go.WideShapes Go.ChangeAt Go.RowKit
open Go.ChangeMaps (open_string shut_string)
set_option linter.unusedVariables false

theorem own : ownKnob Try.prog.godebug = none := by kernel_rfl
theorem laidOut : laidOutB Try.prog = true := by kernel_rfl

/-- WHAT THE WALK IS TOLD OF A SLICE OF INTEGERS THAT CAME IN: it is nil; or it leads to a row of 'cap' cells, the numbers 'zs' (the first 'len' are its elements, the rest its spare room), each fitting its kind. -/
def IsRow (k : IntKind) (w : World) (a : Option Addr) (len cap : Nat) (zs : List Int) : Prop :=
  (a = none ∧ len = 0 ∧ cap = 0 ∧ zs = []) ∨
  ∃ x, a = some x ∧ len ≤ cap ∧ cap ≤ maxLen ∧ zs.length = cap ∧ (∀ i, i < zs.length → w.cell? (x.add i) = some (.int k (zs.getD i 0))) ∧ ∀ n ∈ zs, (Lit.int k n).wf = true

/-! ### STEP 1: THE WALK -/
set_option maxRecDepth 100000 in
set_option maxHeartbeats 8000000 in
theorem walk (a0 : Int) (a1 : ByteArray) (a2 : Option Addr) (len2 cap2 : Nat) (z2 : List Int) (a3 : Option Addr) (len3 cap3 : Nat) (z3 : List Int) (w : World) (w0 : (Lit.int .u64 a0).wf = true) (w1 : a1.size ≤ maxLen) (w2 : IsRow .u8 w a2 len2 cap2 z2) (w3 : IsRow .u8 w a3 len3 cap3 z3) :
    Calls Try.prog 4 #[.int .u64 a0, .string a1, .slice a2 len2 cap2, .slice a3 len3 cap3] w fun e w' => e = .returned (.bool true) ∧ Below w.heap.size w w' := by
  obtain ⟨lb, hlb, hRb⟩ := rd_of_row w2
  obtain ⟨lc, hlc, hRc⟩ := rd_of_row w3
  have b0 := bounds_u64 w0
  have g0 : Below w.heap.size w w := Below.refl _ _
  by_cases h1 : 300 < a1.size
  · have hd1 : decide ((300 : Int) < (a1.size : Int)) = true := by simp; omega
    have hd2 : decide (300 < a1.size) = true := by simp; omega
    clear hRb hRc hlb hlc w0 w1 w2 w3 b0
    go_enter Try.func4, Try.ntmps4
    go_wp2_with fail
    refine awake_c.mono ?_
    rintro e w1 ⟨rfl, hb1⟩
    go_wp2_with fail
    go_ret
    exact ⟨rfl, hb1⟩
  have hd11 : decide ((300 : Int) < (a1.size : Int)) = false := by simp; omega
  have hd21 : decide (300 < a1.size) = false := by simp; omega
  by_cases h2 : 100 < len2
  · have hd1 : decide ((100 : Int) < (len2 : Int)) = true := by simp; omega
    have hd2 : decide (100 < len2) = true := by simp; omega
    clear hRb hRc hlb hlc w0 w1 w2 w3 b0
    go_enter Try.func4, Try.ntmps4
    go_wp2_with fail
    refine awake_c.mono ?_
    rintro e w1 ⟨rfl, hb1⟩
    go_wp2_with fail
    go_ret
    exact ⟨rfl, hb1⟩
  have hd12 : decide ((100 : Int) < (len2 : Int)) = false := by simp; omega
  have hd22 : decide (100 < len2) = false := by simp; omega
  by_cases h3 : 200 < len3
  · have hd1 : decide ((200 : Int) < (len3 : Int)) = true := by simp; omega
    have hd2 : decide (200 < len3) = true := by simp; omega
    clear hRb hRc hlb hlc w0 w1 w2 w3 b0
    go_enter Try.func4, Try.ntmps4
    go_wp2_with fail
    refine awake_c.mono ?_
    rintro e w1 ⟨rfl, hb1⟩
    go_wp2_with fail
    go_ret
    exact ⟨rfl, hb1⟩
  have hd13 : decide ((200 : Int) < (len3 : Int)) = false := by simp; omega
  have hd23 : decide (200 < len3) = false := by simp; omega
  obtain ⟨x, rfl⟩ := Int.eq_ofNat_of_zero_le b0.1
  obtain ⟨xf, hxf⟩ : ∃ xf : Nat, xf = x % 4294967296 := ⟨_, rfl⟩
  have hz : ((xf : Int) != (x : Int) % 4294967296) = false := by rw [hxf]; simp
  have HXF := Lib.hid (show xf < 4294967296 by omega)
  have HX := Lib.hid (show x < 2 ^ 64 by omega)
  have HA := Lib.hid (show a1.size < 2 ^ 64 by omega)
  have HA3 := Lib.hid (show (a1.size : Int) ≤ 300 by omega)
  have HTL := Lib.hid (show (textL a1).length ≤ 310 by rw [textL_len]; have := shortL_len a1.size; omega)
  have HP1 := Lib.hid (fun W : World => show Calls Try.prog 16 #[.slice none 0 0, .int .u64 (x : Int)] W (RetB W ([] ++ shortL x)) by
    have := put_c (w := W) (B := 0) (l := []) Rd.nilv (Nat.zero_le _) (by omega) (x : Int) (by omega) b0.2
    rwa [Int.toNat_natCast] at this)
  have HP2 := Lib.hid (fun W : World => show Calls Try.prog 18 #[.slice none 0 0, .string a1] W (RetB W ([] ++ textL a1)) by
    exact putText_c (w := W) (B := 0) (l := []) Rd.nilv (Nat.zero_le _) (by omega) a1 (by omega))
  have HP3 := Lib.hid (fun W : World => show Calls Try.prog 20 #[.slice none 0 0, .int .u32 ((x : Int) % 4294967296)] W (RetB W ([] ++ fourL xf)) by
    have := putFour_c (w := W) (B := 0) (l := []) Rd.nilv (Nat.zero_le _) (by omega) ((x : Int) % 4294967296) (by omega) (by omega)
    rwa [show ((x : Int) % 4294967296).toNat = xf by omega] at this)
  have hxi := b0.2
  have hlen2 : len2 ≤ 100 := by omega
  have hlen3 : len3 ≤ 200 := by omega
  clear w0 w1 w2 w3 b0 h1 h2 h3 hxf
  go_enter Try.func4, Try.ntmps4
  go_wp2_with fail
  refine (HP1.out _).mono ?_
  rintro e w1 ⟨A1, n1, c1, rfl, hf1, hb1⟩
  have g0z := g0.size
  have g0 := bon g0 hb1
  have hn1 : n1 ≤ 400 := by have h1 := hf1.len; have h2 := shortL_len x; simp at h1; omega
  have hbz1 := hb1.size
  go_wp2_with (at_builtin; refine wpList_app rfl (.tmp 43) (.tmp 44) _ rfl Try.underlying22 info_u8 rfl rfl hf1 rfl (hRb.now g0) (bv_one _) (by omega) (by omega) hbz1 ?_; intro A1' c1' w1' hap1)
  have hq1 := hap1.fr
  rw [← bv_append] at hq1
  have g0 : Below w.heap.size w w1' := g0.trans (hap1.below.mono g0z)
  clear hap1 hf1 g0z hbz1 
  go_wp2_with fail
  refine ((take_c (hq1.rd (Nat.le_refl _)) (Nat.le_refl _) (by omega)).mono (R' := RetNB _ .u64 x lb true) (fun _ _ hp => takePost_to (m := (shortL x).length) (by rw [List.nil_append]; exact ⟨takeN_short x HX.out lb, List.drop_left⟩) hp)).mono ?_
  rintro e w2 ⟨A2, n2, c2, rfl, hf2, hb2⟩
  have g0 := bon g0 hb2
  have r2 := hf2.rd (Nat.le_refl _)
  have g2 : Below w2.heap.size w2 w2 := Below.refl _ _
  clear hf2
  go_wp2_with fail
  refine (HP2.out _).mono ?_
  rintro e w3 ⟨A3, n3, c3, rfl, hf3, hb3⟩
  have g0z := g0.size
  have z2 := g2.size
  have g0 := bon g0 hb3
  have g2 := bon g2 hb3
  have hn3 : n3 ≤ 400 := by have h1 := hf3.len; have h2 := HTL.out; simp at h1; omega
  have hbz3 := hb3.size
  go_wp2_with (at_builtin; refine wpList_app rfl (.tmp 52) (.tmp 53) _ rfl Try.underlying22 info_u8 rfl rfl hf3 rfl (hRb.now g0) (bv_one _) (by omega) (by omega) hbz3 ?_; intro A3' c3' w3' hap3)
  have hq3 := hap3.fr
  rw [← bv_append] at hq3
  have g0 : Below w.heap.size w w3' := g0.trans (hap3.below.mono g0z)
  have g2 : Below w2.heap.size w2 w3' := g2.trans (hap3.below.mono z2)
  clear hap3 hf3 g0z hbz3 z2
  go_wp2_with fail
  refine ((takeText_c (hq3.rd (Nat.le_refl _)) (Nat.le_refl _) (by omega) 300 (by decide) (by decide)).mono (R' := RetSB _ a1.data.toList lb true) (fun _ _ hp => textPost_to (by rw [List.nil_append, textTake_text a1 HA.out lb, if_pos HA3.out]) hp)).mono ?_
  rintro e w4 ⟨A4, n4, c4, rfl, hf4, hb4⟩
  have g0 := bon g0 hb4
  have g2 := bon g2 hb4
  rw [string_eta]
  have r4 := hf4.rd (Nat.le_refl _)
  have g4 : Below w4.heap.size w4 w4 := Below.refl _ _
  clear hf4
  go_wp2_with fail
  refine (HP3.out _).mono ?_
  rintro e w5 ⟨A5, n5, c5, rfl, hf5, hb5⟩
  have g0z := g0.size
  have z2 := g2.size
  have z4 := g4.size
  have g0 := bon g0 hb5
  have g2 := bon g2 hb5
  have g4 := bon g4 hb5
  have hn5 : n5 ≤ 400 := by have h1 := hf5.len; have h2 := fourL_len xf; simp at h1; omega
  have hbz5 := hb5.size
  go_wp2_with (at_builtin; refine wpList_app rfl (.tmp 62) (.tmp 63) _ rfl Try.underlying22 info_u8 rfl rfl hf5 rfl (hRb.now g0) (bv_one _) (by omega) (by omega) hbz5 ?_; intro A5' c5' w5' hap5)
  have hq5 := hap5.fr
  rw [← bv_append] at hq5
  have g0 : Below w.heap.size w w5' := g0.trans (hap5.below.mono g0z)
  have g2 : Below w2.heap.size w2 w5' := g2.trans (hap5.below.mono z2)
  have g4 : Below w4.heap.size w4 w5' := g4.trans (hap5.below.mono z4)
  clear hap5 hf5 g0z hbz5 z2 z4
  go_wp2_with fail
  refine ((takeFour_c (hq5.rd (Nat.le_refl _)) (Nat.le_refl _) (by omega) (by rw [List.nil_append]; exact (four_take xf HXF.out lb).2.2)).mono (R' := RetNB _ .u32 xf lb true) (fun _ _ hp => by rw [List.nil_append, (four_take xf HXF.out lb).1, (four_take xf HXF.out lb).2.1] at hp; exact hp)).mono ?_
  rintro e w6 ⟨A6, n6, c6, rfl, hf6, hb6⟩
  have g0 := bon g0 hb6
  have g2 := bon g2 hb6
  have g4 := bon g4 hb6
  have r6 := hf6.rd (Nat.le_refl _)
  have g6 : Below w6.heap.size w6 w6 := Below.refl _ _
  clear hf6
  go_wp2_with fail
  refine (same_t (r2.now g2) (hRb.now g0) rfl).mono ?_
  rintro e w' ⟨rfl, rfl⟩
  go_wp2_with fail
  refine (same_t (r4.now g4) (hRb.now g0) rfl).mono ?_
  rintro e w' ⟨rfl, rfl⟩
  go_wp2_with fail
  refine (same_t (r6.now g6) (hRb.now g0) rfl).mono ?_
  rintro e w' ⟨rfl, rfl⟩
  clear r2 r4 r6 g2 g4 g6 hq1 hq3 hq5
  cases hv1 : takeN lc with
  | none =>
    go_wp2_with fail
    refine ((take_c (hRc.now g0) (Nat.le_refl _) (by omega)).mono (R' := RetNB _ .u64 0 [] false) (fun _ _ hp => takePost_no hv1 hp)).mono ?_
    rintro e w10 ⟨A10, n10, c10, rfl, hf10, hb10⟩
    have g0 := bon g0 hb10
    clear hv1 hf10
    cases hv2 : textTake lc 300 with
    | none =>
      go_wp2_with fail
      refine ((takeText_c (hRc.now g0) (Nat.le_refl _) (by omega) 300 (by decide) (by decide)).mono (R' := RetSB _ [] [] false) (fun _ _ hp => textPost_no hv2 hp)).mono ?_
      rintro e w15 ⟨A15, n15, c15, rfl, hf15, hb15⟩
      have g0 := bon g0 hb15
      clear hv2 hf15
      by_cases h4 : 4 ≤ lc.length
      · skip
        have hd4 : decide ((4 : Int) ≤ (len3 : Int)) = true := by simp; omega
        have hd4n : decide (4 ≤ len3) = true := by simp; omega
        obtain ⟨hfp, hfl⟩ := four_put h4
        have HFP := Lib.hid hfp
        clear hfp
        go_wp2_with fail
        refine (takeFour_c (hRc.now g0) (Nat.le_refl _) (by omega) h4).mono ?_
        rintro e w20 ⟨A20, n20, c20, rfl, hf20, hb20⟩
        have g0 := bon g0 hb20
        have hfi : ((leV (lc.take 4) : Nat) : Int) ≤ 4294967295 := by omega
        have HP6 := Lib.hid (fun W : World => show Calls Try.prog 20 #[.slice none 0 0, .int .u32 ((leV (lc.take 4) : Nat) : Int)] W (RetB W (fourL (leV (lc.take 4)))) by
          have := putFour_c (w := W) (B := 0) (l := []) Rd.nilv (Nat.zero_le _) (by omega) ((leV (lc.take 4) : Nat) : Int) (by omega) hfi
          rwa [List.nil_append, Int.toNat_natCast] at this)
        have hn20 : n20 ≤ 200 := by have := hf20.len; simp at this; omega
        have r20 := hf20.rd (Nat.le_refl _)
        have g20 : Below w20.heap.size w20 w20 := Below.refl _ _
        clear hf20
        clear hfi hfl h4
        go_wp2_with fail
        refine (HP6.out _).mono ?_
        rintro e w21 ⟨A21, n21, c21, rfl, hf21, hb21⟩
        have g0z := g0.size
        have z20 := g20.size
        have g0 := bon g0 hb21
        have g20 := bon g20 hb21
        have hn21 : n21 ≤ 400 := by have h1 := hf21.len; have h2 := fourL_len (leV (lc.take 4)); simp at h1; omega
        have hbz21 := hb21.size
        go_wp2_with (at_builtin; refine wpList_app_g rfl (.tmp 161) (.tmp 162) _ rfl Try.underlying22 info_u8 rfl rfl hf21 rfl (r20.now g20) (bv_one _) (by omega) (by omega) hbz21 ?_; intro A21' c21' w21' hap21)
        have hq21 := hap21.fr
        rw [← bv_append] at hq21
        have g0 : Below w.heap.size w w21' := g0.trans (hap21.below.mono g0z)
        have g20 : Below w20.heap.size w20 w21' := g20.trans (hap21.below.mono z20)
        clear hap21 hf21 g0z hbz21 z20
        go_wp2_with fail
        refine (same_t (hq21.rd (Nat.le_refl _)) (hRc.now g0) HFP.out).mono ?_
        rintro e w' ⟨rfl, rfl⟩
        go_wp2_with fail
        refine awake_c.mono ?_
        rintro e w99 ⟨rfl, hb99⟩
        go_wp2_with fail
        go_ret
        exact ⟨rfl, bon g0 hb99⟩
      · skip
        have hd4 : decide ((4 : Int) ≤ (len3 : Int)) = false := by simp; omega
        have hd4n : decide (4 ≤ len3) = false := by simp; omega
        go_wp2_with fail
        refine (takeFour_no (hRc.now g0) (by omega)).mono ?_
        rintro e w20 ⟨A20, n20, c20, rfl, hf20, hb20⟩
        have g0 := bon g0 hb20
        go_wp2_with fail
        refine awake_c.mono ?_
        rintro e w99 ⟨rfl, hb99⟩
        go_wp2_with fail
        go_ret
        exact ⟨rfl, bon g0 hb99⟩
    | some sr =>
      obtain ⟨ts, tr⟩ := sr
      obtain ⟨htp, hts⟩ := text_put hv2
      have HTP := Lib.hid htp
      clear htp
      go_wp2_with fail
      refine ((takeText_c (hRc.now g0) (Nat.le_refl _) (by omega) 300 (by decide) (by decide)).mono (R' := RetSB _ ts tr true) (fun _ _ hp => textPost_to hv2 hp)).mono ?_
      rintro e w15 ⟨A15, n15, c15, rfl, hf15, hb15⟩
      have g0 := bon g0 hb15
      have hsz : (⟨ts.toArray⟩ : ByteArray).size ≤ 200 := by show ts.toArray.size ≤ 200; rw [List.size_toArray]; omega
      have HP5 := Lib.hid (fun W : World => show Calls Try.prog 18 #[.slice none 0 0, .string ⟨ts.toArray⟩] W (RetB W (textL ⟨ts.toArray⟩)) by
        have := putText_c (w := W) (B := 0) (l := []) Rd.nilv (Nat.zero_le _) (by omega) ⟨ts.toArray⟩ (by omega)
        rwa [List.nil_append] at this)
      have HTL5 := Lib.hid (show (textL ⟨ts.toArray⟩).length ≤ 210 by rw [textL_len]; have := shortL_len (⟨ts.toArray⟩ : ByteArray).size; omega)
      have hn15 : n15 ≤ 200 := by have h1 := hf15.len; have h2 := congrArg List.length HTP.out; rw [List.length_append] at h2; simp at h1; omega
      have r15 := hf15.rd (Nat.le_refl _)
      have g15 : Below w15.heap.size w15 w15 := Below.refl _ _
      clear hf15
      clear hv2 hts hsz
      go_wp2_with fail
      refine (HP5.out _).mono ?_
      rintro e w16 ⟨A16, n16, c16, rfl, hf16, hb16⟩
      have g0z := g0.size
      have z15 := g15.size
      have g0 := bon g0 hb16
      have g15 := bon g15 hb16
      have hn16 : n16 ≤ 400 := by have h1 := hf16.len; have h2 := HTL5.out; simp at h1; omega
      have hbz16 := hb16.size
      go_wp2_with (at_builtin; refine wpList_app_g rfl (.tmp 138) (.tmp 139) _ rfl Try.underlying22 info_u8 rfl rfl hf16 rfl (r15.now g15) (bv_one _) (by omega) (by omega) hbz16 ?_; intro A16' c16' w16' hap16)
      have hq16 := hap16.fr
      rw [← bv_append] at hq16
      have g0 : Below w.heap.size w w16' := g0.trans (hap16.below.mono g0z)
      have g15 : Below w15.heap.size w15 w16' := g15.trans (hap16.below.mono z15)
      clear hap16 hf16 g0z hbz16 z15
      go_wp2_with fail
      refine (same_t (hq16.rd (Nat.le_refl _)) (hRc.now g0) HTP.out).mono ?_
      rintro e w' ⟨rfl, rfl⟩
      clear r15 g15 hq16 HP5 HTP HTL5
      by_cases h4 : 4 ≤ lc.length
      · skip
        have hd4 : decide ((4 : Int) ≤ (len3 : Int)) = true := by simp; omega
        have hd4n : decide (4 ≤ len3) = true := by simp; omega
        obtain ⟨hfp, hfl⟩ := four_put h4
        have HFP := Lib.hid hfp
        clear hfp
        go_wp2_with fail
        refine (takeFour_c (hRc.now g0) (Nat.le_refl _) (by omega) h4).mono ?_
        rintro e w20 ⟨A20, n20, c20, rfl, hf20, hb20⟩
        have g0 := bon g0 hb20
        have hfi : ((leV (lc.take 4) : Nat) : Int) ≤ 4294967295 := by omega
        have HP6 := Lib.hid (fun W : World => show Calls Try.prog 20 #[.slice none 0 0, .int .u32 ((leV (lc.take 4) : Nat) : Int)] W (RetB W (fourL (leV (lc.take 4)))) by
          have := putFour_c (w := W) (B := 0) (l := []) Rd.nilv (Nat.zero_le _) (by omega) ((leV (lc.take 4) : Nat) : Int) (by omega) hfi
          rwa [List.nil_append, Int.toNat_natCast] at this)
        have hn20 : n20 ≤ 200 := by have := hf20.len; simp at this; omega
        have r20 := hf20.rd (Nat.le_refl _)
        have g20 : Below w20.heap.size w20 w20 := Below.refl _ _
        clear hf20
        clear hfi hfl h4
        go_wp2_with fail
        refine (HP6.out _).mono ?_
        rintro e w21 ⟨A21, n21, c21, rfl, hf21, hb21⟩
        have g0z := g0.size
        have z20 := g20.size
        have g0 := bon g0 hb21
        have g20 := bon g20 hb21
        have hn21 : n21 ≤ 400 := by have h1 := hf21.len; have h2 := fourL_len (leV (lc.take 4)); simp at h1; omega
        have hbz21 := hb21.size
        go_wp2_with (at_builtin; refine wpList_app_g rfl (.tmp 161) (.tmp 162) _ rfl Try.underlying22 info_u8 rfl rfl hf21 rfl (r20.now g20) (bv_one _) (by omega) (by omega) hbz21 ?_; intro A21' c21' w21' hap21)
        have hq21 := hap21.fr
        rw [← bv_append] at hq21
        have g0 : Below w.heap.size w w21' := g0.trans (hap21.below.mono g0z)
        have g20 : Below w20.heap.size w20 w21' := g20.trans (hap21.below.mono z20)
        clear hap21 hf21 g0z hbz21 z20
        go_wp2_with fail
        refine (same_t (hq21.rd (Nat.le_refl _)) (hRc.now g0) HFP.out).mono ?_
        rintro e w' ⟨rfl, rfl⟩
        go_wp2_with fail
        refine awake_c.mono ?_
        rintro e w99 ⟨rfl, hb99⟩
        go_wp2_with fail
        go_ret
        exact ⟨rfl, bon g0 hb99⟩
      · skip
        have hd4 : decide ((4 : Int) ≤ (len3 : Int)) = false := by simp; omega
        have hd4n : decide (4 ≤ len3) = false := by simp; omega
        go_wp2_with fail
        refine (takeFour_no (hRc.now g0) (by omega)).mono ?_
        rintro e w20 ⟨A20, n20, c20, rfl, hf20, hb20⟩
        have g0 := bon g0 hb20
        go_wp2_with fail
        refine awake_c.mono ?_
        rintro e w99 ⟨rfl, hb99⟩
        go_wp2_with fail
        go_ret
        exact ⟨rfl, bon g0 hb99⟩
  | some vm =>
    obtain ⟨v, m⟩ := vm
    have htp := take_put hv1
    obtain ⟨hm1, hm2, hm3, hm4, -⟩ := takeN_le hv1
    have HTP1 := Lib.hid htp
    clear htp
    go_wp2_with fail
    refine ((take_c (hRc.now g0) (Nat.le_refl _) (by omega)).mono (R' := RetNB _ .u64 v (lc.drop m) true) (fun _ _ hp => takePost_to (m := m) ⟨hv1, rfl⟩ hp)).mono ?_
    rintro e w10 ⟨A10, n10, c10, rfl, hf10, hb10⟩
    have g0 := bon g0 hb10
    have HP4 := Lib.hid (fun W : World => show Calls Try.prog 16 #[.slice none 0 0, .int .u64 (v : Int)] W (RetB W (shortL v)) by
      have := put_c (w := W) (B := 0) (l := []) Rd.nilv (Nat.zero_le _) (by omega) (v : Int) (by omega) (by omega)
      rwa [List.nil_append, Int.toNat_natCast] at this)
    have hn10 : n10 ≤ 200 := by have := hf10.len; simp at this; omega
    have r10 := hf10.rd (Nat.le_refl _)
    have g10 : Below w10.heap.size w10 w10 := Below.refl _ _
    clear hf10
    clear hv1 hm1 hm2 hm3 hm4
    go_wp2_with fail
    refine (HP4.out _).mono ?_
    rintro e w11 ⟨A11, n11, c11, rfl, hf11, hb11⟩
    have g0z := g0.size
    have z10 := g10.size
    have g0 := bon g0 hb11
    have g10 := bon g10 hb11
    have hn11 : n11 ≤ 400 := by have h1 := hf11.len; have h2 := shortL_len v; simp at h1; omega
    have hbz11 := hb11.size
    go_wp2_with (at_builtin; refine wpList_app_g rfl (.tmp 122) (.tmp 123) _ rfl Try.underlying22 info_u8 rfl rfl hf11 rfl (r10.now g10) (bv_one _) (by omega) (by omega) hbz11 ?_; intro A11' c11' w11' hap11)
    have hq11 := hap11.fr
    rw [← bv_append] at hq11
    have g0 : Below w.heap.size w w11' := g0.trans (hap11.below.mono g0z)
    have g10 : Below w10.heap.size w10 w11' := g10.trans (hap11.below.mono z10)
    clear hap11 hf11 g0z hbz11 z10
    go_wp2_with fail
    refine (same_t (hq11.rd (Nat.le_refl _)) (hRc.now g0) HTP1.out).mono ?_
    rintro e w' ⟨rfl, rfl⟩
    clear r10 g10 hq11 HP4 HTP1
    cases hv2 : textTake lc 300 with
    | none =>
      go_wp2_with fail
      refine ((takeText_c (hRc.now g0) (Nat.le_refl _) (by omega) 300 (by decide) (by decide)).mono (R' := RetSB _ [] [] false) (fun _ _ hp => textPost_no hv2 hp)).mono ?_
      rintro e w15 ⟨A15, n15, c15, rfl, hf15, hb15⟩
      have g0 := bon g0 hb15
      clear hv2 hf15
      by_cases h4 : 4 ≤ lc.length
      · skip
        have hd4 : decide ((4 : Int) ≤ (len3 : Int)) = true := by simp; omega
        have hd4n : decide (4 ≤ len3) = true := by simp; omega
        obtain ⟨hfp, hfl⟩ := four_put h4
        have HFP := Lib.hid hfp
        clear hfp
        go_wp2_with fail
        refine (takeFour_c (hRc.now g0) (Nat.le_refl _) (by omega) h4).mono ?_
        rintro e w20 ⟨A20, n20, c20, rfl, hf20, hb20⟩
        have g0 := bon g0 hb20
        have hfi : ((leV (lc.take 4) : Nat) : Int) ≤ 4294967295 := by omega
        have HP6 := Lib.hid (fun W : World => show Calls Try.prog 20 #[.slice none 0 0, .int .u32 ((leV (lc.take 4) : Nat) : Int)] W (RetB W (fourL (leV (lc.take 4)))) by
          have := putFour_c (w := W) (B := 0) (l := []) Rd.nilv (Nat.zero_le _) (by omega) ((leV (lc.take 4) : Nat) : Int) (by omega) hfi
          rwa [List.nil_append, Int.toNat_natCast] at this)
        have hn20 : n20 ≤ 200 := by have := hf20.len; simp at this; omega
        have r20 := hf20.rd (Nat.le_refl _)
        have g20 : Below w20.heap.size w20 w20 := Below.refl _ _
        clear hf20
        clear hfi hfl h4
        go_wp2_with fail
        refine (HP6.out _).mono ?_
        rintro e w21 ⟨A21, n21, c21, rfl, hf21, hb21⟩
        have g0z := g0.size
        have z20 := g20.size
        have g0 := bon g0 hb21
        have g20 := bon g20 hb21
        have hn21 : n21 ≤ 400 := by have h1 := hf21.len; have h2 := fourL_len (leV (lc.take 4)); simp at h1; omega
        have hbz21 := hb21.size
        go_wp2_with (at_builtin; refine wpList_app_g rfl (.tmp 161) (.tmp 162) _ rfl Try.underlying22 info_u8 rfl rfl hf21 rfl (r20.now g20) (bv_one _) (by omega) (by omega) hbz21 ?_; intro A21' c21' w21' hap21)
        have hq21 := hap21.fr
        rw [← bv_append] at hq21
        have g0 : Below w.heap.size w w21' := g0.trans (hap21.below.mono g0z)
        have g20 : Below w20.heap.size w20 w21' := g20.trans (hap21.below.mono z20)
        clear hap21 hf21 g0z hbz21 z20
        go_wp2_with fail
        refine (same_t (hq21.rd (Nat.le_refl _)) (hRc.now g0) HFP.out).mono ?_
        rintro e w' ⟨rfl, rfl⟩
        go_wp2_with fail
        refine awake_c.mono ?_
        rintro e w99 ⟨rfl, hb99⟩
        go_wp2_with fail
        go_ret
        exact ⟨rfl, bon g0 hb99⟩
      · skip
        have hd4 : decide ((4 : Int) ≤ (len3 : Int)) = false := by simp; omega
        have hd4n : decide (4 ≤ len3) = false := by simp; omega
        go_wp2_with fail
        refine (takeFour_no (hRc.now g0) (by omega)).mono ?_
        rintro e w20 ⟨A20, n20, c20, rfl, hf20, hb20⟩
        have g0 := bon g0 hb20
        go_wp2_with fail
        refine awake_c.mono ?_
        rintro e w99 ⟨rfl, hb99⟩
        go_wp2_with fail
        go_ret
        exact ⟨rfl, bon g0 hb99⟩
    | some sr =>
      obtain ⟨ts, tr⟩ := sr
      obtain ⟨htp, hts⟩ := text_put hv2
      have HTP := Lib.hid htp
      clear htp
      go_wp2_with fail
      refine ((takeText_c (hRc.now g0) (Nat.le_refl _) (by omega) 300 (by decide) (by decide)).mono (R' := RetSB _ ts tr true) (fun _ _ hp => textPost_to hv2 hp)).mono ?_
      rintro e w15 ⟨A15, n15, c15, rfl, hf15, hb15⟩
      have g0 := bon g0 hb15
      have hsz : (⟨ts.toArray⟩ : ByteArray).size ≤ 200 := by show ts.toArray.size ≤ 200; rw [List.size_toArray]; omega
      have HP5 := Lib.hid (fun W : World => show Calls Try.prog 18 #[.slice none 0 0, .string ⟨ts.toArray⟩] W (RetB W (textL ⟨ts.toArray⟩)) by
        have := putText_c (w := W) (B := 0) (l := []) Rd.nilv (Nat.zero_le _) (by omega) ⟨ts.toArray⟩ (by omega)
        rwa [List.nil_append] at this)
      have HTL5 := Lib.hid (show (textL ⟨ts.toArray⟩).length ≤ 210 by rw [textL_len]; have := shortL_len (⟨ts.toArray⟩ : ByteArray).size; omega)
      have hn15 : n15 ≤ 200 := by have h1 := hf15.len; have h2 := congrArg List.length HTP.out; rw [List.length_append] at h2; simp at h1; omega
      have r15 := hf15.rd (Nat.le_refl _)
      have g15 : Below w15.heap.size w15 w15 := Below.refl _ _
      clear hf15
      clear hv2 hts hsz
      go_wp2_with fail
      refine (HP5.out _).mono ?_
      rintro e w16 ⟨A16, n16, c16, rfl, hf16, hb16⟩
      have g0z := g0.size
      have z15 := g15.size
      have g0 := bon g0 hb16
      have g15 := bon g15 hb16
      have hn16 : n16 ≤ 400 := by have h1 := hf16.len; have h2 := HTL5.out; simp at h1; omega
      have hbz16 := hb16.size
      go_wp2_with (at_builtin; refine wpList_app_g rfl (.tmp 138) (.tmp 139) _ rfl Try.underlying22 info_u8 rfl rfl hf16 rfl (r15.now g15) (bv_one _) (by omega) (by omega) hbz16 ?_; intro A16' c16' w16' hap16)
      have hq16 := hap16.fr
      rw [← bv_append] at hq16
      have g0 : Below w.heap.size w w16' := g0.trans (hap16.below.mono g0z)
      have g15 : Below w15.heap.size w15 w16' := g15.trans (hap16.below.mono z15)
      clear hap16 hf16 g0z hbz16 z15
      go_wp2_with fail
      refine (same_t (hq16.rd (Nat.le_refl _)) (hRc.now g0) HTP.out).mono ?_
      rintro e w' ⟨rfl, rfl⟩
      clear r15 g15 hq16 HP5 HTP HTL5
      by_cases h4 : 4 ≤ lc.length
      · skip
        have hd4 : decide ((4 : Int) ≤ (len3 : Int)) = true := by simp; omega
        have hd4n : decide (4 ≤ len3) = true := by simp; omega
        obtain ⟨hfp, hfl⟩ := four_put h4
        have HFP := Lib.hid hfp
        clear hfp
        go_wp2_with fail
        refine (takeFour_c (hRc.now g0) (Nat.le_refl _) (by omega) h4).mono ?_
        rintro e w20 ⟨A20, n20, c20, rfl, hf20, hb20⟩
        have g0 := bon g0 hb20
        have hfi : ((leV (lc.take 4) : Nat) : Int) ≤ 4294967295 := by omega
        have HP6 := Lib.hid (fun W : World => show Calls Try.prog 20 #[.slice none 0 0, .int .u32 ((leV (lc.take 4) : Nat) : Int)] W (RetB W (fourL (leV (lc.take 4)))) by
          have := putFour_c (w := W) (B := 0) (l := []) Rd.nilv (Nat.zero_le _) (by omega) ((leV (lc.take 4) : Nat) : Int) (by omega) hfi
          rwa [List.nil_append, Int.toNat_natCast] at this)
        have hn20 : n20 ≤ 200 := by have := hf20.len; simp at this; omega
        have r20 := hf20.rd (Nat.le_refl _)
        have g20 : Below w20.heap.size w20 w20 := Below.refl _ _
        clear hf20
        clear hfi hfl h4
        go_wp2_with fail
        refine (HP6.out _).mono ?_
        rintro e w21 ⟨A21, n21, c21, rfl, hf21, hb21⟩
        have g0z := g0.size
        have z20 := g20.size
        have g0 := bon g0 hb21
        have g20 := bon g20 hb21
        have hn21 : n21 ≤ 400 := by have h1 := hf21.len; have h2 := fourL_len (leV (lc.take 4)); simp at h1; omega
        have hbz21 := hb21.size
        go_wp2_with (at_builtin; refine wpList_app_g rfl (.tmp 161) (.tmp 162) _ rfl Try.underlying22 info_u8 rfl rfl hf21 rfl (r20.now g20) (bv_one _) (by omega) (by omega) hbz21 ?_; intro A21' c21' w21' hap21)
        have hq21 := hap21.fr
        rw [← bv_append] at hq21
        have g0 : Below w.heap.size w w21' := g0.trans (hap21.below.mono g0z)
        have g20 : Below w20.heap.size w20 w21' := g20.trans (hap21.below.mono z20)
        clear hap21 hf21 g0z hbz21 z20
        go_wp2_with fail
        refine (same_t (hq21.rd (Nat.le_refl _)) (hRc.now g0) HFP.out).mono ?_
        rintro e w' ⟨rfl, rfl⟩
        go_wp2_with fail
        refine awake_c.mono ?_
        rintro e w99 ⟨rfl, hb99⟩
        go_wp2_with fail
        go_ret
        exact ⟨rfl, bon g0 hb99⟩
      · skip
        have hd4 : decide ((4 : Int) ≤ (len3 : Int)) = false := by simp; omega
        have hd4n : decide (4 ≤ len3) = false := by simp; omega
        go_wp2_with fail
        refine (takeFour_no (hRc.now g0) (by omega)).mono ?_
        rintro e w20 ⟨A20, n20, c20, rfl, hf20, hb20⟩
        have g0 := bon g0 hb20
        go_wp2_with fail
        refine awake_c.mono ?_
        rintro e w99 ⟨rfl, hb99⟩
        go_wp2_with fail
        go_ret
        exact ⟨rfl, bon g0 hb99⟩

/-! ### THE ROW's STEP: WRITTEN OUT: LEAVE IT -/
set_option maxRecDepth 100000 in
theorem lifted (os : Os) (started : os.Started) (H : Type) (enc : TypeId × Value → H) :
    ReturnsInHanded {} Try.checked os 4 .any (Rows.numsBackSpec.pre6 enc Try.prog Try.f4 Rows.numsBackRow.domain false) (Rows.numsBackSpec.post enc Try.prog Try.f4 false true false false) := by
  refine returnsInHanded_of_change (C := Try.checked) own started (by kernel_rfl) Try.func4
    (ChangeSpec.witness6 (enc := enc) (C := Try.checked) false ⟨#[], #[.int .u64 0, .string ByteArray.empty, .slice none 0 0, .slice none 0 0], []⟩ 8 (by kernel_rfl) (by kernel_rfl) (by kernel_rfl) (by kernel_rfl)) ?_
  intro W base args ds gs before hval0 hW hcnd _
  have hval : ∀ (j : Nat) t v, Try.f4.params[j]? = some t → args[j]? = some v → Value.okWide Try.prog W .any base t v := hval0
  have hW' := hW
  obtain ⟨p, q, hA0, hV, rfl, hfz, hnd⟩ := hW
  have hA : DataW.TrodAll enc Try.prog W 0 (fun _ => true) true Try.f4.params.toList args.toList ds p := hA0
  rw [Try.params4] at hA hval
  obtain ⟨v0, vs0, d0, ds0, p0, q0, hargs, rfl, rfl, h0, r0⟩ := trodAll_cons hA
  obtain ⟨v1, vs1, d1, ds1, p1, q1, rfl, rfl, rfl, h1, r1⟩ := trodAll_cons r0
  obtain ⟨v2, vs2, d2, ds2, p2, q2, rfl, rfl, rfl, h2, r2⟩ := trodAll_cons r1
  obtain ⟨v3, vs3, d3, ds3, p3, q3, rfl, rfl, rfl, h3, r3⟩ := trodAll_cons r2
  obtain ⟨rfl, rfl, rfl⟩ := trodAll_nil r3
  obtain rfl : args = #[v0, v1, v2, v3] := by cases args; simp_all
  obtain ⟨rfl, rfl⟩ := trodVars_none hV
  obtain ⟨a0, rfl, rfl, rfl, w0⟩ := open_int Try.underlying23 (hval 0 23 v0 rfl rfl) h0
  obtain ⟨a1, rfl, rfl, rfl, w1⟩ := open_string Try.underlying9 (hval 1 9 v1 rfl rfl) h1
  obtain ⟨a2, len2, cap2, rfl⟩ := okWide_slice Try.underlying22 (hval 2 22 v2 rfl rfl)
  have k2 := h2
  have lt2 : ∀ x ∈ p2, x.block < W.heap.size := by obtain ⟨m, hm⟩ := k2; exact DataW.trod_lt m _ _ _ hm
  obtain ⟨z2, w2⟩ : ∃ zs, IsRow .u8 W a2 len2 cap2 zs := by
    obtain ⟨fuel, hf⟩ := h2
    rcases open_ints Try.underlying22 Try.underlying5 (by kernel_rfl) hf with ⟨hcs, _⟩ | ⟨x, l, c, zs, hcs, _, hl, hm, hz, _, hcell, hwz⟩
    · simp [Value.cells] at hcs
      obtain ⟨rfl, rfl, rfl⟩ := hcs
      exact ⟨[], .inl ⟨rfl, rfl, rfl, rfl⟩⟩
    · simp [Value.cells] at hcs
      obtain ⟨rfl, rfl, rfl⟩ := hcs
      exact ⟨zs, .inr ⟨_, rfl, hl, hm, by simpa using hz, hcell, hwz⟩⟩
  obtain ⟨a3, len3, cap3, rfl⟩ := okWide_slice Try.underlying22 (hval 3 22 v3 rfl rfl)
  have k3 := h3
  have lt3 : ∀ x ∈ p3, x.block < W.heap.size := by obtain ⟨m, hm⟩ := k3; exact DataW.trod_lt m _ _ _ hm
  obtain ⟨z3, w3⟩ : ∃ zs, IsRow .u8 W a3 len3 cap3 zs := by
    obtain ⟨fuel, hf⟩ := h3
    rcases open_ints Try.underlying22 Try.underlying5 (by kernel_rfl) hf with ⟨hcs, _⟩ | ⟨x, l, c, zs, hcs, _, hl, hm, hz, _, hcell, hwz⟩
    · simp [Value.cells] at hcs
      obtain ⟨rfl, rfl, rfl⟩ := hcs
      exact ⟨[], .inl ⟨rfl, rfl, rfl, rfl⟩⟩
    · simp [Value.cells] at hcs
      obtain ⟨rfl, rfl, rfl⟩ := hcs
      exact ⟨zs, .inr ⟨_, rfl, hl, hm, by simpa using hz, hcell, hwz⟩⟩
  clear hA0 hval0
  refine (walk a0 a1 a2 len2 cap2 z2 a3 len3 cap3 z3 W w0 w1 w2 w3).mono fun e W' ⟨he, bel⟩ => ?_
  subst he
  exact ⟨_, rfl, _, _, _, [], _, [], hW', trodAll_mk1 (shut_bool Try.underlying4 _), (trodAll_cons_mk (shut_int Try.underlying23 w0) (trodAll_cons_mk (shut_string Try.underlying9 w1) (trodAll_cons_mk (Below.trod laidOut (by kernel_rfl) (of_decide_eq_true (by kernel_rfl)) k2 bel lt2) (trodAll_cons_mk (Below.trod laidOut (by kernel_rfl) (of_decide_eq_true (by kernel_rfl)) k3 bel lt3) trodAll_mk0)))), rfl, bel.frame _, fun h => by cases h⟩

theorem over : Rows.numsBackRow.holds Try.pinned (OpenSpec.ofChange Rows.numsBackSpec) :=
  OpenClaim.holds_of_wide 4 Try.f4 rfl rfl rfl rfl rfl rfl rfl ⟨rfl, rfl, rfl, rfl, rfl⟩ rfl rfl rfl rfl rfl (by kernel_rfl) Try.func4 (by kernel_rfl)
    (of_decide_eq_true (by kernel_rfl)) (by unfold Func.isWrapper; first | (rw [if_pos (by decide +kernel)]; kernel_rfl) | (rw [if_neg (by decide +kernel)]; exact ⟨rfl, rfl⟩))
    (fun os started H enc _ => lifted os started H enc)

/-- ████ THE STATEMENT ████ -/
theorem proved : Rows.NumsBackSaid := over
#print axioms proved
end Go.Proofs.Ytkdmhdciapnblaa.numsBack
