/-
  FrameTells: sums, what is sealed, and what bytes begin with, is as the document defines. No condition.
-/
import Derived.Test.YtpligjdpofcbbaaRows
import Derived.Test.YtpligjdpofcbbaaFrL
import Derived.WalkKit
import Derived.ProofKit
import Derived.OpenShut
import Derived.ShutString
import Derived.ChangeOld
import Derived.Below
namespace Go.Proofs.Ytpligjdpofcbbaa.frameTells
open Go.ChangeShapes Go.WideShapes Go.ChangeAt Go.RowKit
open Go.ChangeMaps (open_string shut_string)
set_option linter.unusedVariables false

theorem own : ownKnob Try.prog.godebug = none := by kernel_rfl
theorem laidOut : laidOutB Try.prog = true := by kernel_rfl

/-- WHAT THE WALK IS TOLD OF A SLICE OF INTEGERS THAT CAME IN: it is nil; or it leads to a row of 'cap' cells, the numbers 'zs' (the first 'len' are its elements, the rest its spare room), each fitting its kind. -/
def IsRow (k : IntKind) (w : World) (a : Option Addr) (len cap : Nat) (zs : List Int) : Prop :=
  (a = none ∧ len = 0 ∧ cap = 0 ∧ zs = []) ∨
  ∃ x, a = some x ∧ len ≤ cap ∧ cap ≤ maxLen ∧ zs.length = cap ∧ (∀ i, i < zs.length → w.cell? (x.add i) = some (.int k (zs.getD i 0))) ∧ ∀ n ∈ zs, (Lit.int k n).wf = true

/-! ### STEP 1: THE WALK -/
set_option maxRecDepth 100000 in
set_option maxHeartbeats 8000000 in
theorem walk (a0 : Option Addr) (len0 cap0 : Nat) (z0 : List Int) (a1 : Option Addr) (len1 cap1 : Nat) (z1 : List Int) (w : World) (w0 : IsRow .u8 w a0 len0 cap0 z0) (w1 : IsRow .u8 w a1 len1 cap1 z1) :
    Calls Try.prog 3 #[.slice a0 len0 cap0, .slice a1 len1 cap1] w fun e w' => e = .returned (.bool true) ∧ Below w.heap.size w w' := by
  obtain ⟨l0, hl0, hR0⟩ := rd_of_row w0
  obtain ⟨l1, hl1, hR1⟩ := rd_of_row w1
  have hcap0 := hR0.cap
  have hmax0 := hR0.max
  have hcap1 := hR1.cap
  have hmax1 := hR1.max
  unfold maxLen at hmax0 hmax1
  have hi0 : (len0 : Int) ≤ 9223372036854775807 := by omega
  have hi1 : (len1 : Int) ≤ 9223372036854775807 := by omega
  clear w0 w1 hmax0 hmax1
  by_cases h1 : 300 < len0
  · have hd1 : decide ((300 : Int) < (len0 : Int)) = true := by simp; omega
    clear hR0 hR1 hl0 hl1
    go_enter Try.func3, Try.ntmps3
    go_wp2_with fail
    refine awake_c.mono ?_
    rintro e w1 ⟨rfl, hb1⟩
    go_wp2_with fail
    go_ret
    exact ⟨rfl, hb1⟩

  have hd1 : decide ((300 : Int) < (len0 : Int)) = false := by simp; omega
  by_cases h2 : 300 < len1
  · have hd2 : decide ((300 : Int) < (len1 : Int)) = true := by simp; omega
    clear hR0 hR1 hl0 hl1
    go_enter Try.func3, Try.ntmps3
    go_wp2_with fail
    refine awake_c.mono ?_
    rintro e w1 ⟨rfl, hb1⟩
    go_wp2_with fail
    go_ret
    exact ⟨rfl, hb1⟩

  have hd2 : decide ((300 : Int) < (len1 : Int)) = false := by simp; omega
  have HL0 := Lib.hid hl0
  have HL1 := Lib.hid hl1
  have hls := sealL_len l0
  have HLS := Lib.hid hls
  have le0 : len0 ≤ 300 := by omega
  have le1 : len1 ≤ 300 := by omega
  clear h1 h2 hl0 hl1 hls hi0 hi1
  have hi0 : (len0 : Int) ≤ 300 := by omega
  have hi1 : (len1 : Int) ≤ 300 := by omega
  have g0 : Below w.heap.size w w := Below.refl _ _
  go_enter Try.func3, Try.ntmps3
  go_wp2_with fail
  refine (refSeal_c hR0 (Nat.le_refl _) (by omega)).mono ?_
  rintro e w1 ⟨A1, n1, c1, rfl, hf1, hb1⟩
  have g0 := bon g0 hb1
  have hn1 : n1 = len0 + 8 := by rw [hf1.len_eq HLS.out, HL0.out]
  subst hn1
  have r1 := hf1.rd (Nat.le_refl _)
  clear hf1
  go_wp2_with fail
  refine (sum_c (hR0.now g0) (Nat.le_refl _)).mono ?_
  rintro e w2 ⟨rfl, hb2⟩
  have g0 := bon g0 hb2
  have r1 := r1.now hb2
  go_wp2_with fail
  refine (refSum_c (hR0.now g0)).mono ?_
  rintro e w' ⟨rfl, rfl⟩
  go_wp2_with fail
  refine (seal_c (hR0.now g0) (Nat.le_refl _) (by omega)).mono ?_
  rintro e w3 ⟨A3, n3, c3, rfl, hf3, hb3⟩
  have g0 := bon g0 hb3
  have r1 := r1.now hb3
  go_wp2_with fail
  refine (same_t (hf3.rd (Nat.le_refl _)) r1 rfl).mono ?_
  rintro e w' ⟨rfl, rfl⟩
  have r1i : ((len0 + 8 : Nat) : Int) ≤ 1000 := by omega
  clear hf3 hb1 hb2 hb3
  go_wp2_with (first
    | (at_builtin; refine wpList_app rfl (.tmp 39) (.tmp 40) _ rfl Try.underlying22 info_u8 rfl rfl (Fr.new w3 5 #[] rfl (Nat.le_refl _) (Nat.zero_le _)) rfl (r1.alloc (Nat.le_refl _) _) (bv_one _) (by omega) (by omega) (by simp) ?_; intro A4 c4 w4 hap4; have hb4 := ((Below.refl _ _).alloc (Nat.le_refl _) _).trans hap4.below; have g4 := bon g0 hb4; have hs4 := hb4.size; have hf4 : Fr w4 w3.heap.size 5 A4 (len0 + 8) c4 (bv (sealL l0)) := by have := hap4.fr; rwa [Nat.zero_add] at this)
    | (at_builtin; refine wpList_app rfl (.tmp 41) (.tmp 42) _ rfl Try.underlying22 info_u8 rfl rfl hf4 rfl (hR1.now g4) (bv_one _) (by omega) (by omega) hs4 ?_; intro A5 c5 w5 hap5))
  have hf5 := hap5.fr
  rw [← bv_append] at hf5
  have hb5 : Below w3.heap.size w3 w5 := hb4.trans hap5.below
  have r1 := r1.now hb5
  have g0 := bon g0 hb5
  have r0 := hR0.now g0
  have r5 := hf5.rd (Nat.le_refl _)
  obtain ⟨w6, hw6⟩ : ∃ w6, w5.alloc (.cells #[.slice a0 len0 cap0, .slice A1 (len0 + 8) c1, .slice A5 (len0 + 8 + len1) c5] 22) = w6 := ⟨_, rfl⟩
  have hE : ∀ k < 3, ∃ A n c l, w6.cell? ⟨w5.heap.size, k, none⟩ = some (.slice A n c) ∧ Rd w6 w6.heap.size A n c (bv l) ∧ n ≤ 1000 := by
    subst hw6
    have hb : Below w5.heap.size w5 (w5.alloc (.cells #[.slice a0 len0 cap0, .slice A1 (len0 + 8) c1, .slice A5 (len0 + 8 + len1) c5] 22)) := (Below.refl _ _).alloc (Nat.le_refl _) _
    intro k hk
    match k, hk with
    | 0, _ => exact ⟨a0, len0, cap0, l0, by simp, r0.now hb, by omega⟩
    | 1, _ => exact ⟨A1, len0 + 8, c1, sealL l0, by simp, r1.now hb, by omega⟩
    | 2, _ => exact ⟨A5, len0 + 8 + len1, c5, sealL l0 ++ l1, by simp, r5.now hb, by omega⟩
  have g6 : Below w.heap.size w w6 := by rw [← hw6]; exact blit g0 _
  obtain ⟨gl, hgl⟩ : ∃ gl, w5.heap.size = gl := ⟨_, rfl⟩
  have hg6 : gl < w6.heap.size := by rw [← hw6, ← hgl]; simp
  rw [hgl] at hE ⊢
  rw [hw6]
  have HE := Lib.hid hE
  have G6 := Lib.hid g6
  clear hap4 hf4 hap5 hf5 hb4 g4 hs4 hb5 r0 r1 r5 hw6 hgl hE g0 r1i hR0 hR1 g6
  go_loopw [46] (fun iv wr => ∃ k : Nat, iv = .int .i64 (k : Int) ∧ k ≤ 3 ∧ Below w6.heap.size w6 wr) (fun iv _ => (3 - intOf iv).toNat)
  case atStart => exact ⟨0, rfl, by omega, Below.refl _ _⟩
  case round =>
    obtain ⟨k, rfl, hk, hb⟩ := hrel
    by_cases hlt : k < 3
    · have hdk : decide ((k : Int) < 3) = true := by simp; omega
      obtain ⟨A, n, c, l, hcell, hr, hn⟩ := HE.out k hlt
      have hcell := (hb.cell (p := ⟨gl, k, none⟩) hg6).trans hcell
      have hr := hr.now hb
      have hni : (n : Int) ≤ 1000 := by omega
      obtain ⟨x, y, er, -, -, -, her, hx⟩ := tkPost_form l
      have HX := Lib.hid hx
      clear hx
      go_wp2_with fail
      refine ((takeF_c hr (Nat.le_refl _) (by omega)).mono (fun _ _ hp => HX.out _ _ _ hp)).mono ?_
      rintro e w7 ⟨A7, n7, c7, A8, n8, c8, rfl, hf7, hf8, hb7⟩
      have hb := bon hb hb7
      have hr := hr.now hb7
      have r7 := hf7.rd (Nat.le_refl _)
      have r8 := hf8.rd (Nat.le_refl _)
      go_wp2_with fail
      refine ((refTakeF_c hr (Nat.le_refl _) (by omega)).mono (fun _ _ hp => HX.out _ _ _ hp)).mono ?_
      rintro e w8 ⟨A9, n9, c9, A10, n10, c10, rfl, hf9, hf10, hb8⟩
      have hb := bon hb hb8
      have r7 := r7.now hb8
      have r8 := r8.now hb8
      have r9 := hf9.rd (Nat.le_refl _)
      have r10 := hf10.rd (Nat.le_refl _)
      clear hf7 hf8 hf9 hf10 hr hcell
      go_wp2_with fail
      refine (same_t r7 r9 rfl).mono ?_
      rintro e w' ⟨rfl, rfl⟩
      go_wp2_with fail
      refine (same_t r8 r10 rfl).mono ?_
      rintro e w' ⟨rfl, rfl⟩
      go_wp2_with fail
      go_roundw
      case rel => exact ⟨k + 1, by simp, by omega, hb⟩
      case measure => simp [intOf]; omega
    · have hdk : decide ((k : Int) < 3) = false := by simp; omega
      have gz : Below w.heap.size w wr := bon G6.out hb
      go_wp2_with fail
      refine awake_c.mono ?_
      rintro e w99 ⟨rfl, hb99⟩
      go_wp2_with fail
      go_ret
      exact ⟨rfl, bon gz hb99⟩

/-! ### THE ROW's STEP: WRITTEN OUT: LEAVE IT -/
set_option maxRecDepth 100000 in
theorem lifted (os : Os) (started : os.Started) (H : Type) (enc : TypeId × Value → H) :
    ReturnsInHanded {} Try.checked os 3 .any (Rows.frameTellsSpec.pre6 enc Try.prog Try.f3 Rows.frameTellsRow.domain false) (Rows.frameTellsSpec.post enc Try.prog Try.f3 false true false false) := by
  refine returnsInHanded_of_change (C := Try.checked) own started (by kernel_rfl) Try.func3
    (ChangeSpec.witness6 (enc := enc) (C := Try.checked) false ⟨#[], #[.slice none 0 0, .slice none 0 0], []⟩ 8 (by kernel_rfl) (by kernel_rfl) (by kernel_rfl) (by kernel_rfl)) ?_
  intro W base args ds gs before hval0 hW hcnd _
  have hval : ∀ (j : Nat) t v, Try.f3.params[j]? = some t → args[j]? = some v → Value.okWide Try.prog W .any base t v := hval0
  have hW' := hW
  obtain ⟨p, q, hA0, hV, rfl, hfz, hnd⟩ := hW
  have hA : DataW.TrodAll enc Try.prog W 0 (fun _ => true) true Try.f3.params.toList args.toList ds p := hA0
  rw [Try.params3] at hA hval
  obtain ⟨v0, vs0, d0, ds0, p0, q0, hargs, rfl, rfl, h0, r0⟩ := trodAll_cons hA
  obtain ⟨v1, vs1, d1, ds1, p1, q1, rfl, rfl, rfl, h1, r1⟩ := trodAll_cons r0
  obtain ⟨rfl, rfl, rfl⟩ := trodAll_nil r1
  obtain rfl : args = #[v0, v1] := by cases args; simp_all
  obtain ⟨rfl, rfl⟩ := trodVars_none hV
  obtain ⟨a0, len0, cap0, rfl⟩ := okWide_slice Try.underlying22 (hval 0 22 v0 rfl rfl)
  have k0 := h0
  have lt0 : ∀ x ∈ p0, x.block < W.heap.size := by obtain ⟨m, hm⟩ := k0; exact DataW.trod_lt m _ _ _ hm
  obtain ⟨z0, w0⟩ : ∃ zs, IsRow .u8 W a0 len0 cap0 zs := by
    obtain ⟨fuel, hf⟩ := h0
    rcases open_ints Try.underlying22 Try.underlying5 (by kernel_rfl) hf with ⟨hcs, _⟩ | ⟨x, l, c, zs, hcs, _, hl, hm, hz, _, hcell, hwz⟩
    · simp [Value.cells] at hcs
      obtain ⟨rfl, rfl, rfl⟩ := hcs
      exact ⟨[], .inl ⟨rfl, rfl, rfl, rfl⟩⟩
    · simp [Value.cells] at hcs
      obtain ⟨rfl, rfl, rfl⟩ := hcs
      exact ⟨zs, .inr ⟨_, rfl, hl, hm, by simpa using hz, hcell, hwz⟩⟩
  obtain ⟨a1, len1, cap1, rfl⟩ := okWide_slice Try.underlying22 (hval 1 22 v1 rfl rfl)
  have k1 := h1
  have lt1 : ∀ x ∈ p1, x.block < W.heap.size := by obtain ⟨m, hm⟩ := k1; exact DataW.trod_lt m _ _ _ hm
  obtain ⟨z1, w1⟩ : ∃ zs, IsRow .u8 W a1 len1 cap1 zs := by
    obtain ⟨fuel, hf⟩ := h1
    rcases open_ints Try.underlying22 Try.underlying5 (by kernel_rfl) hf with ⟨hcs, _⟩ | ⟨x, l, c, zs, hcs, _, hl, hm, hz, _, hcell, hwz⟩
    · simp [Value.cells] at hcs
      obtain ⟨rfl, rfl, rfl⟩ := hcs
      exact ⟨[], .inl ⟨rfl, rfl, rfl, rfl⟩⟩
    · simp [Value.cells] at hcs
      obtain ⟨rfl, rfl, rfl⟩ := hcs
      exact ⟨zs, .inr ⟨_, rfl, hl, hm, by simpa using hz, hcell, hwz⟩⟩
  clear hA0 hval0
  refine (walk a0 len0 cap0 z0 a1 len1 cap1 z1 W w0 w1).mono fun e W' ⟨he, bel⟩ => ?_
  subst he
  exact ⟨_, rfl, _, _, _, [], _, [], hW', trodAll_mk1 (shut_bool Try.underlying4 _), (trodAll_cons_mk (Below.trod laidOut (by kernel_rfl) (of_decide_eq_true (by kernel_rfl)) k0 bel lt0) (trodAll_cons_mk (Below.trod laidOut (by kernel_rfl) (of_decide_eq_true (by kernel_rfl)) k1 bel lt1) trodAll_mk0)), rfl, bel.frame _, fun h => by cases h⟩

theorem over : Rows.frameTellsRow.holds Try.pinned (OpenSpec.ofChange Rows.frameTellsSpec) :=
  OpenClaim.holds_of_wide 3 Try.f3 rfl rfl rfl rfl rfl rfl rfl ⟨rfl, rfl, rfl, rfl, rfl⟩ rfl rfl rfl rfl rfl (by kernel_rfl) Try.func3 (by kernel_rfl)
    (of_decide_eq_true (by kernel_rfl)) (by unfold Func.isWrapper; first | (rw [if_pos (by decide +kernel)]; kernel_rfl) | (rw [if_neg (by decide +kernel)]; exact ⟨rfl, rfl⟩))
    (fun os started H enc _ => lifted os started H enc)

/-- ████ THE STATEMENT ████ -/
theorem proved : Rows.FrameTellsSaid := over
#print axioms proved
end Go.Proofs.Ytpligjdpofcbbaa.frameTells
