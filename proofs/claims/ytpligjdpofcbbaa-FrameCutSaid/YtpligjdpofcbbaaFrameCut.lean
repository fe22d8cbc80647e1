/-
  FrameCut: a front of a frame is none; no frame begins with another one; nor is one whose length is told as another one. No condition.
-/
import Derived.Test.YtpligjdpofcbbaaRows
import Derived.Test.YtpligjdpofcbbaaFrL
import Derived.WalkKit
import Derived.ProofKit
import Derived.OpenShut
import Derived.ShutString
import Derived.ChangeOld
import Derived.Below
namespace Go.Proofs.Ytpligjdpofcbbaa.frameCut
open Go.ChangeShapes Go.WideShapes Go.ChangeAt Go.RowKit
open Go.ChangeMaps (open_string shut_string)
set_option linter.unusedVariables false

theorem own : ownKnob Try.prog.godebug = none := by kernel_rfl
theorem laidOut : laidOutB Try.prog = true := by kernel_rfl

/-- WHAT THE WALK IS TOLD OF A SLICE OF INTEGERS THAT CAME IN: it is nil; or it leads to a row of 'cap' cells, the numbers 'zs' (the first 'len' are its elements, the rest its spare room), each fitting its kind. -/
def IsRow (k : IntKind) (w : World) (a : Option Addr) (len cap : Nat) (zs : List Int) : Prop :=
  (a = none ∧ len = 0 ∧ cap = 0 ∧ zs = []) ∨
  ∃ x, a = some x ∧ len ≤ cap ∧ cap ≤ maxLen ∧ zs.length = cap ∧ (∀ i, i < zs.length → w.cell? (x.add i) = some (.int k (zs.getD i 0))) ∧ ∀ n ∈ zs, (Lit.int k n).wf = true

/-! ### STEP 1: THE WALK -/
set_option maxRecDepth 100000 in
set_option maxHeartbeats 8000000 in
theorem walk (a0 : Option Addr) (len0 cap0 : Nat) (z0 : List Int) (a1 : Option Addr) (len1 cap1 : Nat) (z1 : List Int) (a2 : Int) (w : World) (w0 : IsRow .u8 w a0 len0 cap0 z0) (w1 : IsRow .u8 w a1 len1 cap1 z1) (w2 : (Lit.int .u16 a2).wf = true) :
    Calls Try.prog 5 #[.slice a0 len0 cap0, .slice a1 len1 cap1, .int .u16 a2] w fun e w' => e = .returned (.bool true) ∧ Below w.heap.size w w' := by
  have bd2 := bounds_u16' w2
  clear w2
  obtain ⟨l0, hl0, hR0⟩ := rd_of_row w0
  obtain ⟨l1, hl1, hR1⟩ := rd_of_row w1
  have hcap0 := hR0.cap
  have hmax0 := hR0.max
  have hcap1 := hR1.cap
  have hmax1 := hR1.max
  unfold maxLen at hmax0 hmax1
  have hi0 : (len0 : Int) ≤ 9223372036854775807 := by omega
  have hi1 : (len1 : Int) ≤ 9223372036854775807 := by omega
  clear w0 w1 hmax0 hmax1
  by_cases h1 : 300 < len0
  · have hd1 : decide ((300 : Int) < (len0 : Int)) = true := by simp; omega
    clear hR0 hR1 hl0 hl1 bd2
    go_enter Try.func5, Try.ntmps5
    go_wp2_with fail
    refine awake_c.mono ?_
    rintro e w1 ⟨rfl, hb1⟩
    go_wp2_with fail
    go_ret
    exact ⟨rfl, hb1⟩

  have hd1 : decide ((300 : Int) < (len0 : Int)) = false := by simp; omega
  by_cases h2 : 300 < len1
  · have hd2 : decide ((300 : Int) < (len1 : Int)) = true := by simp; omega
    clear hR0 hR1 hl0 hl1 bd2
    go_enter Try.func5, Try.ntmps5
    go_wp2_with fail
    refine awake_c.mono ?_
    rintro e w1 ⟨rfl, hb1⟩
    go_wp2_with fail
    go_ret
    exact ⟨rfl, hb1⟩

  have hd2 : decide ((300 : Int) < (len1 : Int)) = false := by simp; omega
  have HL0 := Lib.hid hl0
  have HL1 := Lib.hid hl1
  have le0 : len0 ≤ 300 := by omega
  have le1 : len1 ≤ 300 := by omega
  clear h1 h2 hl0 hl1 hi0 hi1
  have hi0 : (len0 : Int) ≤ 300 := by omega
  have hi1 : (len1 : Int) ≤ 300 := by omega
  have g0 : Below w.heap.size w w := Below.refl _ _
  obtain ⟨at_, rfl⟩ := Int.eq_ofNat_of_zero_le bd2.1
  have hat : (at_ : Int) ≤ 65535 := bd2.2
  have hb0 : l0.length ≤ 1048576 := by have := HL0.out; omega
  have hb1' : l1.length ≤ 1048576 := by have := HL1.out; omega
  have hls := sealL_len l0
  have hlt := sealL_len l1
  obtain ⟨m, hm⟩ : ∃ m, len0 + 8 = m := ⟨_, rfl⟩
  obtain ⟨m1, hm1⟩ : ∃ m1, len1 + 8 = m1 := ⟨_, rfl⟩
  have lm : m ≤ 308 := by omega
  have lm8 : 8 ≤ m := by omega
  have lm1 : m1 ≤ 308 := by omega
  obtain ⟨k, hk⟩ : ∃ k, at_ % m = k := ⟨_, rfl⟩
  have hkl : k < m := by rw [← hk]; exact Nat.mod_lt _ (by omega)
  have hkm : (at_ : Int) % (m : Int) = (k : Int) := by rw [← hk]; simp
  have hkw : ((at_ : Int)).tmod (m : Int) = (k : Int) := by rw [← hk]; rfl
  have hno : takeL ((sealL l0).take k) = none := takeL_cut hb0 (by rw [hls, HL0.out, hm]; exact hkl)
  have hbig : takeL ([255, 255, 255, 255] ++ (sealL l0).drop 4) = none := takeL_no (by
    have : lenL ([255, 255, 255, 255] ++ (sealL l0).drop 4) = 4294967295 := by
      unfold lenL
      rw [show (4 : Nat) = ([255, 255, 255, 255] : List UInt8).length from rfl, List.take_left]
      decide
    omega)
  have hsame : (sealL l0 == sealL l1) = (l0 == l1) := by
    by_cases e : l0 = l1
    · subst e; rw [beq_self_eq_true, beq_self_eq_true]
    · have : sealL l0 ≠ sealL l1 := fun h => e (sealL_inj hb0 hb1' h)
      rw [beq_eq_false_iff_ne.2 this, beq_eq_false_iff_ne.2 e]
  have hfront : ((sealL l1).take m == sealL l0) = (l0 == l1) := by
    by_cases e : l0 = l1
    · subst e
      have : (sealL l0).take m = sealL l0 := List.take_of_length_le (by rw [hls, HL0.out]; omega)
      rw [this, beq_self_eq_true, beq_self_eq_true]
    · have : (sealL l1).take m ≠ sealL l0 := fun h => e (seal_front hb0 hb1' (by rw [hls, HL0.out, hm]; exact h))
      rw [beq_eq_false_iff_ne.2 this, beq_eq_false_iff_ne.2 e]
  have HNO := Lib.hid hno
  have HBIG := Lib.hid hbig
  have HSAME := Lib.hid hsame
  have HFRONT := Lib.hid hfront
  have HLS := Lib.hid hls
  have HLT := Lib.hid hlt
  clear hno hbig hsame hfront hls hlt hk hb0 hb1' bd2
  go_enter Try.func5, Try.ntmps5
  go_wp2_with fail
  refine (seal_c hR0 (Nat.le_refl _) (by omega)).mono ?_
  rintro e w1 ⟨A1, n1, c1, rfl, hf1, hb1⟩
  have g0 := bon g0 hb1
  obtain rfl : n1 = m := by rw [hf1.len_eq HLS.out, HL0.out, hm]
  have r1 := hf1.rd (Nat.le_refl _)
  clear hf1
  go_wp2_with fail
  refine (seal_c (hR1.now g0) (Nat.le_refl _) (by omega)).mono ?_
  rintro e w2 ⟨A2, n2, c2, rfl, hf2, hb2⟩
  have g0 := bon g0 hb2
  have r1 := r1.now hb2
  obtain rfl : n2 = m1 := by rw [hf2.len_eq HLT.out, HL1.out, hm1]
  have r2 := hf2.rd (Nat.le_refl _)
  clear hf2 hb1 hb2
  have hz1 : ((n1 : Int) == 0) = false := by simp; omega
  have hq1 : (n1 : Int) ≤ 308 := by omega
  have hq2 : (n2 : Int) ≤ 308 := by omega
  have hc1 := r1.cap
  have hki : (k : Int) ≤ 308 := by omega
  have hs1 := fun W => run_slice_hi_gen (P := Try.prog) (n := n1) (A := A1) 22 5 Try.underlying22 info_u8 .i64 (k := k) (c := c1) (by omega) W
  have r1k := r1.front (k := k) (by omega)
  rw [bv_take] at r1k
  go_wp2_with fail
  refine ((takeF_c r1k (Nat.le_refl _) (by omega)).mono (fun _ _ hp => tkPost_no HNO.out hp)).mono ?_
  rintro e w3 ⟨rfl, hb3⟩
  have g0 := bon g0 hb3
  have r1 := r1.now hb3
  have r2 := r2.now hb3
  have r0 := hR0.now g0
  have ro := hR1.now g0
  obtain ⟨A9, hs9, r19⟩ := r1.slice_lo (P := Try.prog) 22 5 Try.underlying22 info_u8 .i64 (k := 4) (by omega)
  rw [bv_drop] at r19
  rw [show ((4 : Nat) : Int) = 4 from rfl] at hs9
  have hn9 : ((n1 - 4 : Nat) : Int) = (n1 : Int) - 4 := by omega
  have hc2 := r2.cap
  obtain ⟨m9, hm9⟩ : ∃ m9, n1 - 4 = m9 := ⟨_, rfl⟩
  obtain ⟨c9, hc9⟩ : ∃ c9, c1 - 4 = c9 := ⟨_, rfl⟩
  rw [hm9, hc9] at hs9 r19
  have lm9 : m9 ≤ 308 := by omega
  clear r1k hs1 hkm hkw hb3 hn9 hm9 hc9
  by_cases hle : n1 ≤ n2
  · have hdl : decide ((n1 : Int) ≤ (n2 : Int)) = true := by simp; omega
    have hs2 := fun W => run_slice_hi_gen (P := Try.prog) (n := n2) (A := A2) 22 5 Try.underlying22 info_u8 .i64 (k := n1) (c := c2) (by omega) W
    have r2k := r2.front (k := n1) hle
    rw [bv_take] at r2k
    go_wp2_with fail
    refine (same_c r2k r1).mono ?_
    rw [HFRONT.out]
    rintro e w' ⟨rfl, rfl⟩
    go_wp2_with fail
    refine (same_c r0 ro).mono ?_
    rintro e w' ⟨rfl, rfl⟩
    go_wp2_with (at_builtin; refine wpList_app rfl (.tmp 71) (.tmp 73) _ rfl Try.underlying22 info_u8 rfl rfl (Fr.new w3 5 #[.int .u8 255, .int .u8 255, .int .u8 255, .int .u8 255] rfl (Nat.le_refl _) (by decide)) rfl (r19.alloc (Nat.le_refl _) _) (bv_one _) (by omega) (by omega) (by simp) ?_; intro A4 c4 w4 hap4)
    have hf4 := hap4.fr
    rw [show [Value.int IntKind.u8 255, Value.int IntKind.u8 255, Value.int IntKind.u8 255, Value.int IntKind.u8 255] = bv [255, 255, 255, 255] from rfl, ← bv_append] at hf4
    have hb4 : Below w3.heap.size w3 w4 := ((Below.refl _ _).alloc (Nat.le_refl _) _).trans hap4.below
    have g0 := bon g0 hb4
    have r0 := r0.now hb4
    have ro := ro.now hb4
    have r1 := r1.now hb4
    have r2 := r2.now hb4
    have r4 := hf4.rd (Nat.le_refl _)
    clear hf4 hap4 hb4 r19
    refine ((takeF_c r4 (Nat.le_refl _) (by omega)).mono (fun _ _ hp => tkPost_no HBIG.out hp)).mono ?_
    rintro e w5 ⟨rfl, hb5⟩
    have g0 := bon g0 hb5
    have r0 := r0.now hb5
    have ro := ro.now hb5
    have r1 := r1.now hb5
    have r2 := r2.now hb5
    go_wp2_with fail
    refine (same_c r1 r2).mono ?_
    rw [HSAME.out]
    rintro e w' ⟨rfl, rfl⟩
    go_wp2_with fail
    refine (same_c r0 ro).mono ?_
    rintro e w' ⟨rfl, rfl⟩
    go_wp2_with fail
    refine awake_c.mono ?_
    rintro e w99 ⟨rfl, hb99⟩
    go_wp2_with fail
    go_ret
    exact ⟨rfl, bon g0 hb99⟩
  · have hdl : decide ((n1 : Int) ≤ (n2 : Int)) = false := by simp; omega
    go_wp2_with (at_builtin; refine wpList_app rfl (.tmp 71) (.tmp 73) _ rfl Try.underlying22 info_u8 rfl rfl (Fr.new w3 5 #[.int .u8 255, .int .u8 255, .int .u8 255, .int .u8 255] rfl (Nat.le_refl _) (by decide)) rfl (r19.alloc (Nat.le_refl _) _) (bv_one _) (by omega) (by omega) (by simp) ?_; intro A4 c4 w4 hap4)
    have hf4 := hap4.fr
    rw [show [Value.int IntKind.u8 255, Value.int IntKind.u8 255, Value.int IntKind.u8 255, Value.int IntKind.u8 255] = bv [255, 255, 255, 255] from rfl, ← bv_append] at hf4
    have hb4 : Below w3.heap.size w3 w4 := ((Below.refl _ _).alloc (Nat.le_refl _) _).trans hap4.below
    have g0 := bon g0 hb4
    have r0 := r0.now hb4
    have ro := ro.now hb4
    have r1 := r1.now hb4
    have r2 := r2.now hb4
    have r4 := hf4.rd (Nat.le_refl _)
    clear hf4 hap4 hb4 r19
    refine ((takeF_c r4 (Nat.le_refl _) (by omega)).mono (fun _ _ hp => tkPost_no HBIG.out hp)).mono ?_
    rintro e w5 ⟨rfl, hb5⟩
    have g0 := bon g0 hb5
    have r0 := r0.now hb5
    have ro := ro.now hb5
    have r1 := r1.now hb5
    have r2 := r2.now hb5
    go_wp2_with fail
    refine (same_c r1 r2).mono ?_
    rw [HSAME.out]
    rintro e w' ⟨rfl, rfl⟩
    go_wp2_with fail
    refine (same_c r0 ro).mono ?_
    rintro e w' ⟨rfl, rfl⟩
    go_wp2_with fail
    refine awake_c.mono ?_
    rintro e w99 ⟨rfl, hb99⟩
    go_wp2_with fail
    go_ret
    exact ⟨rfl, bon g0 hb99⟩

/-! ### THE ROW's STEP: WRITTEN OUT: LEAVE IT -/
set_option maxRecDepth 100000 in
theorem lifted (os : Os) (started : os.Started) (H : Type) (enc : TypeId × Value → H) :
    ReturnsInHanded {} Try.checked os 5 .any (Rows.frameCutSpec.pre6 enc Try.prog Try.f5 Rows.frameCutRow.domain false) (Rows.frameCutSpec.post enc Try.prog Try.f5 false true false false) := by
  refine returnsInHanded_of_change (C := Try.checked) own started (by kernel_rfl) Try.func5
    (ChangeSpec.witness6 (enc := enc) (C := Try.checked) false ⟨#[], #[.slice none 0 0, .slice none 0 0, .int .u16 0], []⟩ 8 (by kernel_rfl) (by kernel_rfl) (by kernel_rfl) (by kernel_rfl)) ?_
  intro W base args ds gs before hval0 hW hcnd _
  have hval : ∀ (j : Nat) t v, Try.f5.params[j]? = some t → args[j]? = some v → Value.okWide Try.prog W .any base t v := hval0
  have hW' := hW
  obtain ⟨p, q, hA0, hV, rfl, hfz, hnd⟩ := hW
  have hA : DataW.TrodAll enc Try.prog W 0 (fun _ => true) true Try.f5.params.toList args.toList ds p := hA0
  rw [Try.params5] at hA hval
  obtain ⟨v0, vs0, d0, ds0, p0, q0, hargs, rfl, rfl, h0, r0⟩ := trodAll_cons hA
  obtain ⟨v1, vs1, d1, ds1, p1, q1, rfl, rfl, rfl, h1, r1⟩ := trodAll_cons r0
  obtain ⟨v2, vs2, d2, ds2, p2, q2, rfl, rfl, rfl, h2, r2⟩ := trodAll_cons r1
  obtain ⟨rfl, rfl, rfl⟩ := trodAll_nil r2
  obtain rfl : args = #[v0, v1, v2] := by cases args; simp_all
  obtain ⟨rfl, rfl⟩ := trodVars_none hV
  obtain ⟨a0, len0, cap0, rfl⟩ := okWide_slice Try.underlying22 (hval 0 22 v0 rfl rfl)
  have k0 := h0
  have lt0 : ∀ x ∈ p0, x.block < W.heap.size := by obtain ⟨m, hm⟩ := k0; exact DataW.trod_lt m _ _ _ hm
  obtain ⟨z0, w0⟩ : ∃ zs, IsRow .u8 W a0 len0 cap0 zs := by
    obtain ⟨fuel, hf⟩ := h0
    rcases open_ints Try.underlying22 Try.underlying5 (by kernel_rfl) hf with ⟨hcs, _⟩ | ⟨x, l, c, zs, hcs, _, hl, hm, hz, _, hcell, hwz⟩
    · simp [Value.cells] at hcs
      obtain ⟨rfl, rfl, rfl⟩ := hcs
      exact ⟨[], .inl ⟨rfl, rfl, rfl, rfl⟩⟩
    · simp [Value.cells] at hcs
      obtain ⟨rfl, rfl, rfl⟩ := hcs
      exact ⟨zs, .inr ⟨_, rfl, hl, hm, by simpa using hz, hcell, hwz⟩⟩
  obtain ⟨a1, len1, cap1, rfl⟩ := okWide_slice Try.underlying22 (hval 1 22 v1 rfl rfl)
  have k1 := h1
  have lt1 : ∀ x ∈ p1, x.block < W.heap.size := by obtain ⟨m, hm⟩ := k1; exact DataW.trod_lt m _ _ _ hm
  obtain ⟨z1, w1⟩ : ∃ zs, IsRow .u8 W a1 len1 cap1 zs := by
    obtain ⟨fuel, hf⟩ := h1
    rcases open_ints Try.underlying22 Try.underlying5 (by kernel_rfl) hf with ⟨hcs, _⟩ | ⟨x, l, c, zs, hcs, _, hl, hm, hz, _, hcell, hwz⟩
    · simp [Value.cells] at hcs
      obtain ⟨rfl, rfl, rfl⟩ := hcs
      exact ⟨[], .inl ⟨rfl, rfl, rfl, rfl⟩⟩
    · simp [Value.cells] at hcs
      obtain ⟨rfl, rfl, rfl⟩ := hcs
      exact ⟨zs, .inr ⟨_, rfl, hl, hm, by simpa using hz, hcell, hwz⟩⟩
  obtain ⟨a2, rfl, rfl, rfl, w2⟩ := open_int Try.underlying32 (hval 2 32 v2 rfl rfl) h2
  clear hA0 hval0
  refine (walk a0 len0 cap0 z0 a1 len1 cap1 z1 a2 W w0 w1 w2).mono fun e W' ⟨he, bel⟩ => ?_
  subst he
  exact ⟨_, rfl, _, _, _, [], _, [], hW', trodAll_mk1 (shut_bool Try.underlying4 _), (trodAll_cons_mk (Below.trod laidOut (by kernel_rfl) (of_decide_eq_true (by kernel_rfl)) k0 bel lt0) (trodAll_cons_mk (Below.trod laidOut (by kernel_rfl) (of_decide_eq_true (by kernel_rfl)) k1 bel lt1) (trodAll_cons_mk (shut_int Try.underlying32 w2) trodAll_mk0))), rfl, bel.frame _, fun h => by cases h⟩

theorem over : Rows.frameCutRow.holds Try.pinned (OpenSpec.ofChange Rows.frameCutSpec) :=
  OpenClaim.holds_of_wide 5 Try.f5 rfl rfl rfl rfl rfl rfl rfl ⟨rfl, rfl, rfl, rfl, rfl⟩ rfl rfl rfl rfl rfl (by kernel_rfl) Try.func5 (by kernel_rfl)
    (of_decide_eq_true (by kernel_rfl)) (by unfold Func.isWrapper; first | (rw [if_pos (by decide +kernel)]; kernel_rfl) | (rw [if_neg (by decide +kernel)]; exact ⟨rfl, rfl⟩))
    (fun os started H enc _ => lifted os started H enc)

/-- ████ THE STATEMENT ████ -/
theorem proved : Rows.FrameCutSaid := over
#print axioms proved
end Go.Proofs.Ytpligjdpofcbbaa.frameCut
