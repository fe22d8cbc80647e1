/-
  NumsTexts: a text that is longer than it may be is none, one that is just as long is one, cut short it is none, and nothing is told of what is none. No condition.
-/
import Derived.Test.YtkdmhdciapnblaaRows
import Derived.Test.YtkdmhdciapnblaaTexts
import Derived.WalkKit
import Derived.ProofKit
import Derived.OpenShut
import Derived.ShutString
import Derived.Below
namespace Go.Proofs.Ytkdmhdciapnblaa.numsTexts
open Go.ChangeShapes Go.WideShapes Go.ChangeAt Go.RowKit
open Go.ChangeMaps (open_string shut_string)
set_option linter.unusedVariables false      -- a walk need not use every 'w<i>' (that an integer argument fits its kind)

theorem own : ownKnob Try.prog.godebug = none := by kernel_rfl

/-! ### STEP 1: THE WALK -/
set_option maxRecDepth 100000 in
set_option maxHeartbeats 8000000 in
theorem walk (a0 : ByteArray) (a1 : Int) (a2 : Int) (w0 : a0.size ≤ maxLen) (w1 : (Lit.int .i64 a1).wf = true) (w2 : (Lit.int .u16 a2).wf = true) (w : World) :
    Calls Try.prog 6 #[.string a0, .int .i64 a1, .int .u16 a2] w fun e w' => e = .returned (.bool true) ∧ Below w.heap.size w w' := by
  have b1 := bounds_i64 w1
  have b2 := bounds_u16 w2
  by_cases h1 : 300 < a0.size
  · have hd1 : decide ((300 : Int) < (a0.size : Int)) = true := by simp; omega
    have hd2 : decide (300 < a0.size) = true := by simp; omega
    clear w0 w1 w2 b1 b2
    go_enter Try.func6, Try.ntmps6
    go_wp2_with fail
    refine awake_c.mono ?_
    rintro e w1 ⟨rfl, hb1⟩
    go_wp2_with fail
    go_ret
    exact ⟨rfl, hb1⟩
  have hd1 : decide ((300 : Int) < (a0.size : Int)) = false := by simp; omega
  have hd2 : decide (300 < a0.size) = false := by simp; omega
  have htt := textTake_text a0 (by omega) [] a1
  rw [List.append_nil] at htt
  have HP := Lib.hid (fun W : World => show Calls Try.prog 18 #[.slice none 0 0, .string a0] W (RetB W (textL a0)) by
    have := putText_c (w := W) (B := 0) (l := []) Rd.nilv (Nat.zero_le _) (by omega) a0 (by omega)
    rwa [List.nil_append] at this)
  have HQ := Lib.hid (fun W : World => show Calls Try.prog 16 #[.slice none 0 0, .int .u64 (a0.size : Int)] W (RetB W (shortL a0.size)) by
    have := put_c (w := W) (B := 0) (l := []) Rd.nilv (Nat.zero_le _) (by omega) (a0.size : Int) (by omega) (by omega)
    rwa [List.nil_append, Int.toNat_natCast] at this)
  have HA0 := Lib.hid (show a0.size ≤ 300 by omega)
  have hai : (a0.size : Int) ≤ 300 := by omega
  clear w0 w1 w2 h1
  by_cases hmo : (a0.size : Int) ≤ a1
  · skip
    have hdm : decide ((a0.size : Int) ≤ a1) = true := by simp; omega
    have HT1 := Lib.hid (fun (W : World) (n c : Nat) (A : Option Addr) (h : Rd W W.heap.size A n c (bv (textL a0))) (hn : n ≤ 70368744177664) => ((takeText_c h (Nat.le_refl _) hn a1 b1.1 b1.2).mono (R' := RetSB _ a0.data.toList [] true) (fun _ _ hp => textPost_to (by rw [htt, if_pos hmo]) hp)))
    clear htt hmo b1
    go_enter Try.func6, Try.ntmps6
    go_wp2_with fail
    refine (HP.out _).mono ?_
    rintro e w1 ⟨A1, n1, c1, rfl, hf1, hb1⟩
    have g0 := hb1
    have r1 := hf1.rd (Nat.le_refl _)
    have g1 : Below w1.heap.size w1 w1 := Below.refl _ _
    have HN1 := Lib.hid (show n1 = (shortL a0.size).length + a0.size by rw [← textL_len, ← hf1.len]; simp)
    have HS1 := Lib.hid (show n1 ≤ 310 by have := HN1.out; have := shortL_len a0.size; omega)
    have HS0 := Lib.hid (show 0 < n1 by have := HN1.out; have := shortL_pos a0.size; omega)
    go_wp2_with fail
    refine (HT1.out _ _ _ _ r1 (by have := HS1.out; omega)).mono ?_
    rintro e w2 ⟨A2, n2, c2, rfl, hf2, hb2⟩
    have g0 := bon g0 hb2
    have g1 := bon g1 hb2
    have hn2 : n2 = 0 := by rw [← hf2.len]; rfl
    subst hn2
    rw [string_eta]
    go_wp2_with fail
    refine (HQ.out _).mono ?_
    rintro e w3 ⟨A3, n3, c3, rfl, hf3, hb3⟩
    have g0 := bon g0 hb3
    have g1 := bon g1 hb3
    have HN3 := Lib.hid (show n1 = n3 + a0.size by rw [HN1.out, ← hf3.len]; simp)
    have hn3i : (n3 : Int) ≤ 310 := by have := HN3.out; have := HS1.out; omega
    have hdn : ((n1 : Int) != (n3 : Int) + (a0.size : Int)) = false := by have := HN3.out; simp; omega
    obtain ⟨k, hk⟩ : ∃ k : Nat, k = a2.toNat % n1 := ⟨_, rfl⟩
    have hka : a2 % (n1 : Int) = (k : Int) := by rw [hk]; simp; rw [Int.max_eq_left b2.1]
    have hkl : k < n1 := by rw [hk]; exact Nat.mod_lt _ HS0.out
    have hn1p : (1 : Int) ≤ (n1 : Int) := by have := HS0.out; omega
    have hn1z : ((n1 : Int) == 0) = false := by have := HS0.out; simp; omega
    have hcap := r1.cap
    have hsl := fun W => run_slice_hi_gen (P := Try.prog) (n := n1) (A := A1) 22 5 Try.underlying22 info_u8 .i64 (k := k) (c := c1) (by omega) W
    have hfr := (r1.now g1).front (Nat.le_of_lt hkl)
    rw [bv_take] at hfr
    have HT2 := Lib.hid ((takeText_c hfr (Nat.le_refl _) (by have := HS1.out; omega) 300 (by decide) (by decide)).mono (R' := RetSB _ [] [] false) (fun _ _ hp => textPost_no (textTake_cut a0 (by have := HA0.out; omega) (by rw [textL_len, ← HN1.out]; exact hkl) _) hp))
    have b20 := b2.1
    clear hk hkl hfr hcap hf1 hf2 hf3 hb1 hb2 hb3 r1
    go_wp2_with fail
    refine HT2.out.mono ?_
    rintro e w4 ⟨A4, n4, c4, rfl, hf4, hb4⟩
    have g0 := bon g0 hb4
    have hn4 : n4 = 0 := by rw [← hf4.len]; rfl
    subst hn4
    go_wp2_with fail
    refine awake_c.mono ?_
    rintro e w9 ⟨rfl, hb9⟩
    go_wp2_with fail
    go_ret
    exact ⟨rfl, bon g0 hb9⟩
  · skip
    have hdm : decide ((a0.size : Int) ≤ a1) = false := by simp; omega
    have HT1 := Lib.hid (fun (W : World) (n c : Nat) (A : Option Addr) (h : Rd W W.heap.size A n c (bv (textL a0))) (hn : n ≤ 70368744177664) => ((takeText_c h (Nat.le_refl _) hn a1 b1.1 b1.2).mono (R' := RetSB _ [] [] false) (fun _ _ hp => textPost_no (by rw [htt, if_neg hmo]) hp)))
    clear htt hmo b1
    go_enter Try.func6, Try.ntmps6
    go_wp2_with fail
    refine (HP.out _).mono ?_
    rintro e w1 ⟨A1, n1, c1, rfl, hf1, hb1⟩
    have g0 := hb1
    have r1 := hf1.rd (Nat.le_refl _)
    have g1 : Below w1.heap.size w1 w1 := Below.refl _ _
    have HN1 := Lib.hid (show n1 = (shortL a0.size).length + a0.size by rw [← textL_len, ← hf1.len]; simp)
    have HS1 := Lib.hid (show n1 ≤ 310 by have := HN1.out; have := shortL_len a0.size; omega)
    have HS0 := Lib.hid (show 0 < n1 by have := HN1.out; have := shortL_pos a0.size; omega)
    go_wp2_with fail
    refine (HT1.out _ _ _ _ r1 (by have := HS1.out; omega)).mono ?_
    rintro e w2 ⟨A2, n2, c2, rfl, hf2, hb2⟩
    have g0 := bon g0 hb2
    have g1 := bon g1 hb2
    have hn2 : n2 = 0 := by rw [← hf2.len]; rfl
    subst hn2
    
    go_wp2_with fail
    refine (HQ.out _).mono ?_
    rintro e w3 ⟨A3, n3, c3, rfl, hf3, hb3⟩
    have g0 := bon g0 hb3
    have g1 := bon g1 hb3
    have HN3 := Lib.hid (show n1 = n3 + a0.size by rw [HN1.out, ← hf3.len]; simp)
    have hn3i : (n3 : Int) ≤ 310 := by have := HN3.out; have := HS1.out; omega
    have hdn : ((n1 : Int) != (n3 : Int) + (a0.size : Int)) = false := by have := HN3.out; simp; omega
    obtain ⟨k, hk⟩ : ∃ k : Nat, k = a2.toNat % n1 := ⟨_, rfl⟩
    have hka : a2 % (n1 : Int) = (k : Int) := by rw [hk]; simp; rw [Int.max_eq_left b2.1]
    have hkl : k < n1 := by rw [hk]; exact Nat.mod_lt _ HS0.out
    have hn1p : (1 : Int) ≤ (n1 : Int) := by have := HS0.out; omega
    have hn1z : ((n1 : Int) == 0) = false := by have := HS0.out; simp; omega
    have hcap := r1.cap
    have hsl := fun W => run_slice_hi_gen (P := Try.prog) (n := n1) (A := A1) 22 5 Try.underlying22 info_u8 .i64 (k := k) (c := c1) (by omega) W
    have hfr := (r1.now g1).front (Nat.le_of_lt hkl)
    rw [bv_take] at hfr
    have HT2 := Lib.hid ((takeText_c hfr (Nat.le_refl _) (by have := HS1.out; omega) 300 (by decide) (by decide)).mono (R' := RetSB _ [] [] false) (fun _ _ hp => textPost_no (textTake_cut a0 (by have := HA0.out; omega) (by rw [textL_len, ← HN1.out]; exact hkl) _) hp))
    have b20 := b2.1
    clear hk hkl hfr hcap hf1 hf2 hf3 hb1 hb2 hb3 r1
    go_wp2_with fail
    refine HT2.out.mono ?_
    rintro e w4 ⟨A4, n4, c4, rfl, hf4, hb4⟩
    have g0 := bon g0 hb4
    have hn4 : n4 = 0 := by rw [← hf4.len]; rfl
    subst hn4
    go_wp2_with fail
    refine awake_c.mono ?_
    rintro e w9 ⟨rfl, hb9⟩
    go_wp2_with fail
    go_ret
    exact ⟨rfl, bon g0 hb9⟩

/-! ### THE ROW's STEP: WRITTEN OUT: LEAVE IT -/
set_option maxRecDepth 100000 in
theorem lifted (os : Os) (started : os.Started) (H : Type) (enc : TypeId × Value → H) :
    ReturnsInHanded {} Try.checked os 6 .any (Rows.numsTextsSpec.pre6 enc Try.prog Try.f6 Rows.numsTextsRow.domain false) (Rows.numsTextsSpec.post enc Try.prog Try.f6 false true false false) := by
  refine returnsInHanded_of_change (C := Try.checked) own started (by kernel_rfl) Try.func6
    (ChangeSpec.witness6 (enc := enc) (C := Try.checked) false ⟨#[], #[.string ByteArray.empty, .int .i64 0, .int .u16 0], []⟩ 8 (by kernel_rfl) (by kernel_rfl) (by kernel_rfl) (by kernel_rfl)) ?_
  intro W base args ds gs before hval0 hW hcnd _
  have hval : ∀ (j : Nat) t v, Try.f6.params[j]? = some t → args[j]? = some v → Value.okWide Try.prog W .any base t v := hval0
  have hW' := hW
  obtain ⟨p, q, hA0, hV, rfl, hfz, hnd⟩ := hW
  have hA : DataW.TrodAll enc Try.prog W 0 (fun _ => true) true Try.f6.params.toList args.toList ds p := hA0
  rw [Try.params6] at hA hval
  obtain ⟨v0, vs0, d0, ds0, p0, q0, hargs, rfl, rfl, h0, r0⟩ := trodAll_cons hA
  obtain ⟨v1, vs1, d1, ds1, p1, q1, rfl, rfl, rfl, h1, r1⟩ := trodAll_cons r0
  obtain ⟨v2, vs2, d2, ds2, p2, q2, rfl, rfl, rfl, h2, r2⟩ := trodAll_cons r1
  obtain ⟨rfl, rfl, rfl⟩ := trodAll_nil r2
  obtain rfl : args = #[v0, v1, v2] := by cases args; simp_all
  obtain ⟨rfl, rfl⟩ := trodVars_none hV
  obtain ⟨a0, rfl, rfl, rfl, w0⟩ := open_string Try.underlying9 (hval 0 9 v0 rfl rfl) h0
  obtain ⟨a1, rfl, rfl, rfl, w1⟩ := open_int Try.underlying3 (hval 1 3 v1 rfl rfl) h1
  obtain ⟨a2, rfl, rfl, rfl, w2⟩ := open_int Try.underlying40 (hval 2 40 v2 rfl rfl) h2
  clear hA0 hval0
  refine (walk a0 a1 a2 w0 w1 w2 W).mono fun e W' ⟨he, bel⟩ => ?_
  subst he
  exact ⟨_, rfl, _, _, _, [], _, [], hW', trodAll_mk1 (shut_bool Try.underlying4 _), (trodAll_cons_mk (shut_string Try.underlying9 w0) (trodAll_cons_mk (shut_int Try.underlying3 w1) (trodAll_cons_mk (shut_int Try.underlying40 w2) trodAll_mk0))), rfl, bel.frame _, fun h => by cases h⟩

theorem over : Rows.numsTextsRow.holds Try.pinned (OpenSpec.ofChange Rows.numsTextsSpec) :=
  OpenClaim.holds_of_wide 6 Try.f6 rfl rfl rfl rfl rfl rfl rfl ⟨rfl, rfl, rfl, rfl, rfl⟩ rfl rfl rfl rfl rfl (by kernel_rfl) Try.func6 (by kernel_rfl)
    (of_decide_eq_true (by kernel_rfl)) (by unfold Func.isWrapper; first | (rw [if_pos (by decide +kernel)]; kernel_rfl) | (rw [if_neg (by decide +kernel)]; exact ⟨rfl, rfl⟩))
    (fun os started H enc _ => lifted os started H enc)

/-- ████ THE STATEMENT ████ -/
theorem proved : Rows.NumsTextsSaid :=
  over
#print axioms proved
end Go.Proofs.Ytkdmhdciapnblaa.numsTexts
