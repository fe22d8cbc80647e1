/-
  NumsTells: what numbers and texts are as bytes, and what bytes say, is what the reference says, for every input; nothing that was there has turned. No condition.
-/
import Derived.Test.YtkdmhdciapnblaaRows
import Derived.Test.YtkdmhdciapnblaaAwake
import Derived.WalkKit
import Derived.ProofKit
import Derived.OpenShut
import Derived.ShutString
import Derived.ChangeOld
import Derived.Below
namespace Go.Proofs.Ytkdmhdciapnblaa.numsTells
open Go.ChangeShapes Go.WideShapes Go.ChangeAt Go.RowKit
open Go.ChangeMaps (open_string shut_string)
set_option linter.unusedVariables false

theorem own : ownKnob Try.prog.godebug = none := by kernel_rfl
theorem laidOut : laidOutB Try.prog = true := by kernel_rfl

/-- WHAT THE WALK IS TOLD OF A SLICE OF INTEGERS THAT CAME IN: it is nil; or it leads to a row of 'cap' cells, the numbers 'zs' (the first 'len' are its elements, the rest its spare room), each fitting its kind. -/
def IsRow (k : IntKind) (w : World) (a : Option Addr) (len cap : Nat) (zs : List Int) : Prop :=
  (a = none ∧ len = 0 ∧ cap = 0 ∧ zs = []) ∨
  ∃ x, a = some x ∧ len ≤ cap ∧ cap ≤ maxLen ∧ zs.length = cap ∧ (∀ i, i < zs.length → w.cell? (x.add i) = some (.int k (zs.getD i 0))) ∧ ∀ n ∈ zs, (Lit.int k n).wf = true


theorem takePost_form (l : List UInt8) : ∃ v r ok, ∀ w e w', TakePost w l e w' → RetNB w .u64 v r ok e w' := by
  cases h : takeN l with
  | none => exact ⟨0, [], false, fun w e w' hp => by simpa only [TakePost, h] using hp⟩
  | some x => exact ⟨x.1, l.drop x.2, true, fun w e w' hp => by simpa only [TakePost, h] using hp⟩
theorem textPost_form (l : List UInt8) (most : Int) : ∃ s r ok, ∀ w e w', TextPost w l most e w' → RetSB w s r ok e w' := by
  cases h : textTake l most with
  | none => exact ⟨[], [], false, fun w e w' hp => by simpa only [TextPost, h] using hp⟩
  | some x => exact ⟨x.1, x.2, true, fun w e w' hp => by simpa only [TextPost, h] using hp⟩

/-! ### STEP 1: THE WALK -/
set_option maxRecDepth 100000 in
set_option maxHeartbeats 4000000 in
theorem walk (a0 : Option Addr) (len0 cap0 : Nat) (z0 : List Int) (a1 : Int) (a2 : ByteArray) (a3 : Int) (w : World) (w0 : IsRow .u8 w a0 len0 cap0 z0) (w1 : (Lit.int .u64 a1).wf = true) (w2 : a2.size ≤ maxLen) (w3 : (Lit.int .i64 a3).wf = true) :
    Calls Try.prog 3 #[.slice a0 len0 cap0, .int .u64 a1, .string a2, .int .i64 a3] w fun e w' => e = .returned (.bool true) ∧ Below w.heap.size w w' := by
  obtain ⟨l, hl, hR⟩ := rd_of_row w0
  have b1 := bounds_u64 w1
  have b3 := bounds_i64 w3
  have g0 : Below w.heap.size w w := Below.refl _ _
  have hcap := hR.cap
  have hmax := hR.max
  clear w0 w1 w3
  by_cases h1 : 200 < len0
  · have hd1 : decide ((200 : Int) < (len0 : Int)) = true := by simp; omega
    have hd2 : decide (200 < len0) = true := by simp; omega
    clear hR hl b1 b3 w2 hmax hcap
    go_enter Try.func3, Try.ntmps3
    go_wp2_with fail
    refine awake_c.mono ?_
    rintro e w1 ⟨rfl, hb1⟩
    go_wp2_with fail
    go_ret
    exact ⟨rfl, hb1⟩
  have hd1 : decide ((200 : Int) < (len0 : Int)) = false := by simp; omega
  have hd2 : decide (200 < len0) = false := by simp; omega
  by_cases h2 : 200 < a2.size
  · have hd3 : decide ((200 : Int) < (a2.size : Int)) = true := by simp; omega
    have hd4 : decide (200 < a2.size) = true := by simp; omega
    clear hR hl b1 b3 w2 hmax hcap
    go_enter Try.func3, Try.ntmps3
    go_wp2_with fail
    refine awake_c.mono ?_
    rintro e w1 ⟨rfl, hb1⟩
    go_wp2_with fail
    go_ret
    exact ⟨rfl, hb1⟩
  have hd3 : decide ((200 : Int) < (a2.size : Int)) = false := by simp; omega
  have hd4 : decide (200 < a2.size) = false := by simp; omega
  obtain ⟨v, r, ok, htk⟩ := takePost_form l
  obtain ⟨ts, tr, tok, htt⟩ := textPost_form l a3
  obtain ⟨fv, fr, fok, htf, hrf⟩ : ∃ v r ok, (∀ W (h : Rd W W.heap.size a0 len0 cap0 (bv l)), Calls Try.prog 13 #[.slice a0 len0 cap0] W (RetNB W .u32 v r ok)) ∧
      (∀ W (h : Rd W W.heap.size a0 len0 cap0 (bv l)), Calls Try.prog 14 #[.slice a0 len0 cap0] W (RetNB W .u32 v r ok)) := by
    by_cases h4 : 4 ≤ l.length
    · exact ⟨_, _, true, fun W h => takeFour_c h (Nat.le_refl _) (by omega) h4, fun W h => refTakeFour_c h (by omega) h4⟩
    · exact ⟨0, [], false, fun W h => takeFour_no h (by omega), fun W h => refTakeFour_no h (by omega)⟩
  have HTF := Lib.hid htf
  have HRF := Lib.hid hrf
  have hls : len0 ≤ 200 := by omega
  have hss : a2.size ≤ 200 := by omega
  clear htf hrf h1 h2 hl w2 hmax hcap
  go_enter Try.func3, Try.ntmps3
  go_wp2_with fail
  refine ((take_c (hR.now g0) (Nat.le_refl _) (by omega)).mono (fun _ _ hp => htk _ _ _ hp)).mono ?_
  rintro e w1 ⟨A1, n1, c1, rfl, hf1, hb1⟩
  have g0 := bon g0 hb1
  have ra := hf1.rd (Nat.le_refl _)
  have ga : Below w1.heap.size w1 w1 := Below.refl _ _
  go_wp2_with fail
  refine ((refTake_c (hR.now g0) (Nat.le_refl _) (by omega)).mono (fun _ _ hp => htk _ _ _ hp)).mono ?_
  rintro e w2 ⟨A2, n2, c2, rfl, hf2, hb2⟩
  have g0 := bon g0 hb2
  have ga := bon ga hb2
  have rd := hf2.rd (Nat.le_refl _)
  have gd : Below w2.heap.size w2 w2 := Below.refl _ _
  go_wp2_with fail
  refine ((takeText_c (hR.now g0) (Nat.le_refl _) (by omega) a3 b3.1 b3.2).mono (fun _ _ hp => htt _ _ _ hp)).mono ?_
  rintro e w3 ⟨A3, n3, c3, rfl, hf3, hb3⟩
  have g0 := bon g0 hb3
  have ga := bon ga hb3
  have gd := bon gd hb3
  have rf := hf3.rd (Nat.le_refl _)
  have gf : Below w3.heap.size w3 w3 := Below.refl _ _
  go_wp2_with fail
  refine ((refTakeText_c (hR.now g0) (Nat.le_refl _) (by omega) a3 b3.1 b3.2).mono (fun _ _ hp => htt _ _ _ hp)).mono ?_
  rintro e w4 ⟨A4, n4, c4, rfl, hf4, hb4⟩
  have g0 := bon g0 hb4
  have ga := bon ga hb4
  have gd := bon gd hb4
  have gf := bon gf hb4
  have rh := hf4.rd (Nat.le_refl _)
  have gh : Below w4.heap.size w4 w4 := Below.refl _ _
  go_wp2_with fail
  refine (HTF.out _ (hR.now g0)).mono ?_
  rintro e w5 ⟨A5, n5, c5, rfl, hf5, hb5⟩
  have g0 := bon g0 hb5
  have ga := bon ga hb5
  have gd := bon gd hb5
  have gf := bon gf hb5
  have gh := bon gh hb5
  have rj := hf5.rd (Nat.le_refl _)
  have gj : Below w5.heap.size w5 w5 := Below.refl _ _
  go_wp2_with fail
  refine (HRF.out _ (hR.now g0)).mono ?_
  rintro e w6 ⟨A6, n6, c6, rfl, hf6, hb6⟩
  have g0 := bon g0 hb6
  have ga := bon ga hb6
  have gd := bon gd hb6
  have gf := bon gf hb6
  have gh := bon gh hb6
  have gj := bon gj hb6
  have rl := hf6.rd (Nat.le_refl _)
  have gl : Below w6.heap.size w6 w6 := Below.refl _ _
  go_wp2_with fail
  refine (put_c (hR.now g0) (Nat.le_refl _) (by omega) a1 b1.1 b1.2).mono ?_
  rintro e w7 ⟨A7, n7, c7, rfl, hf7, hb7⟩
  have g0 := bon g0 hb7
  have ga := bon ga hb7
  have gd := bon gd hb7
  have gf := bon gf hb7
  have gh := bon gh hb7
  have gj := bon gj hb7
  have gl := bon gl hb7
  have rp1 := hf7.rd (Nat.le_refl _)
  have gp1 : Below w7.heap.size w7 w7 := Below.refl _ _
  go_wp2_with fail
  refine (refPut_c (hR.now g0) (by omega) a1 b1.1 b1.2).mono ?_
  rintro e w8 ⟨A8, n8, c8, rfl, hf8, hb8⟩
  have g0 := bon g0 hb8
  have ga := bon ga hb8
  have gd := bon gd hb8
  have gf := bon gf hb8
  have gh := bon gh hb8
  have gj := bon gj hb8
  have gl := bon gl hb8
  have gp1 := bon gp1 hb8
  go_wp2_with fail
  refine (same_t (rp1.now gp1) (hf8.rd (Nat.le_refl _)) rfl).mono ?_
  rintro e w' ⟨rfl, rfl⟩
  go_wp2_with fail
  refine (same_t (ra.now ga) (rd.now gd) rfl).mono ?_
  rintro e w' ⟨rfl, rfl⟩
  go_wp2_with fail
  refine (putText_c (hR.now g0) (Nat.le_refl _) (by omega) a2 (by omega)).mono ?_
  rintro e w9 ⟨A9, n9, c9, rfl, hf9, hb9⟩
  have g0 := bon g0 hb9
  have ga := bon ga hb9
  have gd := bon gd hb9
  have gf := bon gf hb9
  have gh := bon gh hb9
  have gj := bon gj hb9
  have gl := bon gl hb9
  have gp1 := bon gp1 hb9
  have rq1 := hf9.rd (Nat.le_refl _)
  have gq1 : Below w9.heap.size w9 w9 := Below.refl _ _
  go_wp2_with fail
  refine (refPutText_c (hR.now g0) (by omega) a2 (by omega)).mono ?_
  rintro e w10 ⟨A10, n10, c10, rfl, hf10, hb10⟩
  have g0 := bon g0 hb10
  have ga := bon ga hb10
  have gd := bon gd hb10
  have gf := bon gf hb10
  have gh := bon gh hb10
  have gj := bon gj hb10
  have gl := bon gl hb10
  have gp1 := bon gp1 hb10
  have gq1 := bon gq1 hb10
  go_wp2_with fail
  refine (same_t (rq1.now gq1) (hf10.rd (Nat.le_refl _)) rfl).mono ?_
  rintro e w' ⟨rfl, rfl⟩
  go_wp2_with fail
  refine (same_t (rf.now gf) (rh.now gh) rfl).mono ?_
  rintro e w' ⟨rfl, rfl⟩
  go_wp2_with fail
  refine (putFour_c (hR.now g0) (Nat.le_refl _) (by omega) _ (by omega) (by omega)).mono ?_
  rintro e w11 ⟨A11, n11, c11, rfl, hf11, hb11⟩
  have g0 := bon g0 hb11
  have ga := bon ga hb11
  have gd := bon gd hb11
  have gf := bon gf hb11
  have gh := bon gh hb11
  have gj := bon gj hb11
  have gl := bon gl hb11
  have gp1 := bon gp1 hb11
  have gq1 := bon gq1 hb11
  have rs1 := hf11.rd (Nat.le_refl _)
  have gs1 : Below w11.heap.size w11 w11 := Below.refl _ _
  go_wp2_with fail
  refine (refPutFour_c (hR.now g0) (by omega) _ (by omega) (by omega)).mono ?_
  rintro e w12 ⟨A12, n12, c12, rfl, hf12, hb12⟩
  have g0 := bon g0 hb12
  have ga := bon ga hb12
  have gd := bon gd hb12
  have gf := bon gf hb12
  have gh := bon gh hb12
  have gj := bon gj hb12
  have gl := bon gl hb12
  have gp1 := bon gp1 hb12
  have gq1 := bon gq1 hb12
  have gs1 := bon gs1 hb12
  go_wp2_with fail
  refine (same_t (rs1.now gs1) (hf12.rd (Nat.le_refl _)) rfl).mono ?_
  rintro e w' ⟨rfl, rfl⟩
  go_wp2_with fail
  refine (same_t (rj.now gj) (rl.now gl) rfl).mono ?_
  rintro e w' ⟨rfl, rfl⟩
  go_wp2_with fail
  refine awake_c.mono ?_
  rintro e w9 ⟨rfl, hb9⟩
  go_wp2_with fail
  go_ret
  exact ⟨rfl, bon g0 hb9⟩

/-! ### THE ROW's STEP: WRITTEN OUT: LEAVE IT -/
set_option maxRecDepth 100000 in
theorem lifted (os : Os) (started : os.Started) (H : Type) (enc : TypeId × Value → H) :
    ReturnsInHanded {} Try.checked os 3 .any (Rows.numsTellsSpec.pre6 enc Try.prog Try.f3 Rows.numsTellsRow.domain false) (Rows.numsTellsSpec.post enc Try.prog Try.f3 false true false false) := by
  refine returnsInHanded_of_change (C := Try.checked) own started (by kernel_rfl) Try.func3
    (ChangeSpec.witness6 (enc := enc) (C := Try.checked) false ⟨#[], #[.slice none 0 0, .int .u64 0, .string ByteArray.empty, .int .i64 0], []⟩ 8 (by kernel_rfl) (by kernel_rfl) (by kernel_rfl) (by kernel_rfl)) ?_
  intro W base args ds gs before hval0 hW hcnd _
  have hval : ∀ (j : Nat) t v, Try.f3.params[j]? = some t → args[j]? = some v → Value.okWide Try.prog W .any base t v := hval0
  have hW' := hW
  obtain ⟨p, q, hA0, hV, rfl, hfz, hnd⟩ := hW
  have hA : DataW.TrodAll enc Try.prog W 0 (fun _ => true) true Try.f3.params.toList args.toList ds p := hA0
  rw [Try.params3] at hA hval
  obtain ⟨v0, vs0, d0, ds0, p0, q0, hargs, rfl, rfl, h0, r0⟩ := trodAll_cons hA
  obtain ⟨v1, vs1, d1, ds1, p1, q1, rfl, rfl, rfl, h1, r1⟩ := trodAll_cons r0
  obtain ⟨v2, vs2, d2, ds2, p2, q2, rfl, rfl, rfl, h2, r2⟩ := trodAll_cons r1
  obtain ⟨v3, vs3, d3, ds3, p3, q3, rfl, rfl, rfl, h3, r3⟩ := trodAll_cons r2
  obtain ⟨rfl, rfl, rfl⟩ := trodAll_nil r3
  obtain rfl : args = #[v0, v1, v2, v3] := by cases args; simp_all
  obtain ⟨rfl, rfl⟩ := trodVars_none hV
  obtain ⟨a0, len0, cap0, rfl⟩ := okWide_slice Try.underlying22 (hval 0 22 v0 rfl rfl)
  have k0 := h0
  have lt0 : ∀ x ∈ p0, x.block < W.heap.size := by obtain ⟨m, hm⟩ := k0; exact DataW.trod_lt m _ _ _ hm
  obtain ⟨z0, w0⟩ : ∃ zs, IsRow .u8 W a0 len0 cap0 zs := by
    obtain ⟨fuel, hf⟩ := h0
    rcases open_ints Try.underlying22 Try.underlying5 (by kernel_rfl) hf with ⟨hcs, _⟩ | ⟨x, l, c, zs, hcs, _, hl, hm, hz, _, hcell, hwz⟩
    · simp [Value.cells] at hcs
      obtain ⟨rfl, rfl, rfl⟩ := hcs
      exact ⟨[], .inl ⟨rfl, rfl, rfl, rfl⟩⟩
    · simp [Value.cells] at hcs
      obtain ⟨rfl, rfl, rfl⟩ := hcs
      exact ⟨zs, .inr ⟨_, rfl, hl, hm, by simpa using hz, hcell, hwz⟩⟩
  obtain ⟨a1, rfl, rfl, rfl, w1⟩ := open_int Try.underlying23 (hval 1 23 v1 rfl rfl) h1
  obtain ⟨a2, rfl, rfl, rfl, w2⟩ := open_string Try.underlying9 (hval 2 9 v2 rfl rfl) h2
  obtain ⟨a3, rfl, rfl, rfl, w3⟩ := open_int Try.underlying3 (hval 3 3 v3 rfl rfl) h3
  clear hA0 hval0
  refine (walk a0 len0 cap0 z0 a1 a2 a3 W w0 w1 w2 w3).mono fun e W' ⟨he, bel⟩ => ?_
  subst he
  exact ⟨_, rfl, _, _, _, [], _, [], hW', trodAll_mk1 (shut_bool Try.underlying4 _), (trodAll_cons_mk (Below.trod laidOut (by kernel_rfl) (of_decide_eq_true (by kernel_rfl)) k0 bel lt0) (trodAll_cons_mk (shut_int Try.underlying23 w1) (trodAll_cons_mk (shut_string Try.underlying9 w2) (trodAll_cons_mk (shut_int Try.underlying3 w3) trodAll_mk0)))), rfl, bel.frame _, fun h => by cases h⟩

theorem over : Rows.numsTellsRow.holds Try.pinned (OpenSpec.ofChange Rows.numsTellsSpec) :=
  OpenClaim.holds_of_wide 3 Try.f3 rfl rfl rfl rfl rfl rfl rfl ⟨rfl, rfl, rfl, rfl, rfl⟩ rfl rfl rfl rfl rfl (by kernel_rfl) Try.func3 (by kernel_rfl)
    (of_decide_eq_true (by kernel_rfl)) (by unfold Func.isWrapper; first | (rw [if_pos (by decide +kernel)]; kernel_rfl) | (rw [if_neg (by decide +kernel)]; exact ⟨rfl, rfl⟩))
    (fun os started H enc _ => lifted os started H enc)

/-- ████ THE STATEMENT ████ -/
theorem proved : Rows.NumsTellsSaid := over
#print axioms proved
end Go.Proofs.Ytkdmhdciapnblaa.numsTells
