/-
  IkeySought: of one key, those at what is sought, or behind, are just those that are not newer; lesser keys stand ahead, greater ones behind. No condition.
-/
import Derived.Test.YtobfdhnaejfehaaRows
import Derived.Test.YtobfdhnaejfehaaIk6
import Derived.Test.YtobfdhnaejfehaaIkS
import Derived.WalkKit
import Derived.ProofKit
import Derived.OpenShut
import Derived.ShutString
import Derived.ChangeOld
import Derived.Below
import Derived.Deep.RegionHeld3
namespace Go.Proofs.Ytobfdhnaejfehaa.ikeySought
open Go.ChangeShapes Go.WideShapes Go.ChangeAt Go.RowKit
open Go.ChangeMaps (open_string shut_string)
set_option linter.unusedVariables false

theorem own : ownKnob Try.prog.godebug = none := by kernel_rfl
theorem laidOut : laidOutB Try.prog = true := by kernel_rfl

theorem gt_str (s t : ByteArray) : (!(Op.bytesLess s.toList t.toList || s.toList == t.toList)) = decide (cmpS s t = 1) := by
  rw [less_str, beq_str]; rcases cmpS_three s t with h | h | h <;> simp [h]
theorem sought_pure (s t : ByteArray) (q k q' : Nat) (hk : (k : Int) ≤ 1) :
    decide (0 ≤ cmpV s q k t q' 1) = (decide (cmpS s t = 1) || (decide (cmpS s t = 0) && decide (q ≤ q'))) := by
  have hk' : k ≤ 1 := by omega
  unfold cmpV
  rcases cmpS_three s t with h | h | h
  · simp [h]
  · simp only [h]
    unfold cmpI
    by_cases h1 : q' < q
    · simp [h1]
    · by_cases h2 : q < q'
      · simp [h1, h2]; omega
      · have h3 : ¬ (1 < k) := by omega
        have h4 : q ≤ q' := by omega
        by_cases h5 : k < 1
        · simp [h1, h2, h3, h4, h5]
        · simp [h1, h2, h3, h4, h5]
  · simp [h]

set_option maxRecDepth 100000 in
set_option maxHeartbeats 8000000 in
theorem walk (s0 : ByteArray) (q0 k0 : Nat) (a1 : ByteArray) (a2 : Nat) (w : World) (w0 : s0.size ≤ maxLen) (x0 : (q0 : Int) ≤ 18446744073709551615) (y0 : (k0 : Int) ≤ 255) (w1 : a1.size ≤ maxLen) (w2 : (a2 : Int) ≤ 18446744073709551615) :
    Calls Try.prog 5 #[ik s0 q0 k0, .string a1, .int .u64 (a2 : Int)] w fun e w' => e = .returned (.bool true) ∧ Below w.heap.size w w' := by
  unfold ik
  by_cases g1 : 70 < a1.size
  · have hd1 : decide ((70 : Int) < (a1.size : Int)) = true := by simp; omega
    have hd2 : decide (70 < a1.size) = true := by simp; omega
    clear w0 x0 y0 w1 w2
    go_enter Try.func5, Try.ntmps5
    go_wp2_with fail
    refine (awake3_c _).mono ?_
    rintro e w9 ⟨rfl, hb9⟩
    go_wp2_with fail
    go_ret
    exact ⟨rfl, box_one hb9⟩
  have hd1 : decide ((70 : Int) < (a1.size : Int)) = false := by simp; omega
  have hd2 : decide (70 < a1.size) = false := by simp; omega
  by_cases g2 : 70 < s0.size
  · have hd3 : decide ((70 : Int) < (s0.size : Int)) = true := by simp; omega
    have hd4 : decide (70 < s0.size) = true := by simp; omega
    clear w0 x0 y0 w1 w2
    go_enter Try.func5, Try.ntmps5
    go_wp2_with fail
    refine (awake3_c _).mono ?_
    rintro e w9 ⟨rfl, hb9⟩
    go_wp2_with fail
    go_ret
    exact ⟨rfl, box_one hb9⟩
  have hd3 : decide ((70 : Int) < (s0.size : Int)) = false := by simp; omega
  have hd4 : decide (70 < s0.size) = false := by simp; omega
  by_cases g3 : (1 : Int) < (k0 : Int)
  · have hd5 : decide ((1 : Int) < (k0 : Int)) = true := by simp; omega
    have hd6 : decide (1 < k0) = true := by simp; omega
    clear w0 x0 y0 w1 w2
    go_enter Try.func5, Try.ntmps5
    go_wp2_with fail
    refine (awake3_c _).mono ?_
    rintro e w9 ⟨rfl, hb9⟩
    go_wp2_with fail
    go_ret
    exact ⟨rfl, box_one hb9⟩
  have hd5 : decide ((1 : Int) < (k0 : Int)) = false := by simp; omega
  have hd6 : decide (1 < k0) = false := by simp; omega
  have hpure := sought_pure s0 a1 q0 k0 a2 (by omega)
  have HS := Lib.hid (fun W => sought_c W a1 a2)
  have HC := Lib.hid (fun W => compare_c W s0 a1 q0 k0 a2 1)
  have HR := Lib.hid (fun W => right_c W a1 a2 1)
  unfold ik at HS HC HR
  have i0 := IkAt.new w s0 q0 k0
  obtain ⟨z0, z1, z2⟩ := i0.cells
  have ii : I1 w w.heap.size s0 q0 k0 _ := ⟨i0, below_alloc w _⟩
  clear w0 x0 y0 w1
  go_enter Try.func5, Try.ntmps5
  go_wp2_with fail
  go_region_held3 (fun w' => I1 w w.heap.size s0 q0 k0 w' ∧ w'.cell? ⟨w.heap.size, 0, none⟩ = some (.string s0) ∧ w'.cell? ⟨w.heap.size, 1, none⟩ = some (.int .u64 (q0 : Int)) ∧ w'.cell? ⟨w.heap.size, 2, none⟩ = some (.int .u8 (k0 : Int)))
    ((first | assumption | exact I1.all (by assumption) | exact I1.all (I1.drew (by assumption))))
    (first | (go_at_call 21; refine (HS.out _).mono ?_; rintro e wn ⟨rfl, hb⟩; have ii := I1.on (And.left (by assumption)) hb; clear hb) | (go_at_call 17; refine (HC.out _).mono ?_; rintro e wn ⟨rfl, hb⟩; have ii := I1.on (And.left (by assumption)) hb; clear hb))
  clear HC i0 z0 z1 z2
  obtain ⟨y0, y1, y2⟩ := ii.i.cells
  have t3 := cmpS_three s0 a1
  have t1 := less_str s0 a1
  have t2 := beq_str s0 a1
  rcases t3 with h | h | h
  · rw [h] at t1 t2 hpure
    simp at t1 t2
    go_wp2_with fail
    all_goals try
      refine (HS.out _).mono ?_
      rintro e w5 ⟨rfl, hb5⟩
      go_wp2_with fail
      have hrt : rightB a1 a2 1 = true := by
        simp only [str_nil] at *
        unfold rightB
        simp [-ByteArray.size_eq_zero_iff]
        omega
      rw [hrt] at HR
      refine (HR.out _).mono ?_
      rintro e w6 ⟨rfl, hb6⟩
      go_wp2_with fail
      refine (awake3_c _).mono ?_
      rintro e w9 ⟨rfl, hb9⟩
      go_wp2_with fail
      go_ret
      exact ⟨rfl, bon (bon (bon ii.g hb5) hb6) hb9⟩
    all_goals
      refine (awake3_c _).mono ?_
      rintro e w9 ⟨rfl, hb9⟩
      go_wp2_with fail
      go_ret
      exact ⟨rfl, bon ii.g hb9⟩
  · rw [h] at t1 t2 hpure
    simp at t1 t2
    go_wp2_with fail
    all_goals try
      refine (HS.out _).mono ?_
      rintro e w5 ⟨rfl, hb5⟩
      go_wp2_with fail
      have hrt : rightB a1 a2 1 = true := by
        simp only [str_nil] at *
        unfold rightB
        simp [-ByteArray.size_eq_zero_iff]
        omega
      rw [hrt] at HR
      refine (HR.out _).mono ?_
      rintro e w6 ⟨rfl, hb6⟩
      go_wp2_with fail
      refine (awake3_c _).mono ?_
      rintro e w9 ⟨rfl, hb9⟩
      go_wp2_with fail
      go_ret
      exact ⟨rfl, bon (bon (bon ii.g hb5) hb6) hb9⟩
    all_goals
      refine (awake3_c _).mono ?_
      rintro e w9 ⟨rfl, hb9⟩
      go_wp2_with fail
      go_ret
      exact ⟨rfl, bon ii.g hb9⟩
  · rw [h] at t1 t2 hpure
    simp at t1 t2
    go_wp2_with fail
    all_goals try
      refine (HS.out _).mono ?_
      rintro e w5 ⟨rfl, hb5⟩
      go_wp2_with fail
      have hrt : rightB a1 a2 1 = true := by
        simp only [str_nil] at *
        unfold rightB
        simp [-ByteArray.size_eq_zero_iff]
        omega
      rw [hrt] at HR
      refine (HR.out _).mono ?_
      rintro e w6 ⟨rfl, hb6⟩
      go_wp2_with fail
      refine (awake3_c _).mono ?_
      rintro e w9 ⟨rfl, hb9⟩
      go_wp2_with fail
      go_ret
      exact ⟨rfl, bon (bon (bon ii.g hb5) hb6) hb9⟩
    all_goals
      refine (awake3_c _).mono ?_
      rintro e w9 ⟨rfl, hb9⟩
      go_wp2_with fail
      go_ret
      exact ⟨rfl, bon ii.g hb9⟩

set_option maxRecDepth 100000 in
theorem lifted (os : Os) (started : os.Started) (H : Type) (enc : TypeId × Value → H) :
    ReturnsInHanded {} Try.checked os 5 .any (Rows.ikeySoughtSpec.pre6 enc Try.prog Try.f5 Rows.ikeySoughtRow.domain false) (Rows.ikeySoughtSpec.post enc Try.prog Try.f5 false true false false) := by
  refine returnsInHanded_of_change (C := Try.checked) own started (by kernel_rfl) Try.func5
    (ChangeSpec.witness6 (enc := enc) (C := Try.checked) false ⟨#[], #[.agg #[.string ByteArray.empty, .int .u64 0, .int .u8 0], .string ByteArray.empty, .int .u64 0], []⟩ 8 (by kernel_rfl) (by kernel_rfl) (by kernel_rfl) (by kernel_rfl)) ?_
  intro W base args ds gs before hval0 hW hcnd _
  have hval : ∀ (j : Nat) t v, Try.f5.params[j]? = some t → args[j]? = some v → Value.okWide Try.prog W .any base t v := hval0
  have hW' := hW
  obtain ⟨p, q, hA0, hV, rfl, hfz, hnd⟩ := hW
  have hA : DataW.TrodAll enc Try.prog W 0 (fun _ => true) true Try.f5.params.toList args.toList ds p := hA0
  rw [Try.params5] at hA hval
  obtain ⟨v0, vs0, d0, ds0, p0, q0_, hargs, rfl, rfl, h0, r0_⟩ := trodAll_cons hA
  obtain ⟨v1, vs1, d1, ds1, p1, q1_, rfl, rfl, rfl, h1, r1_⟩ := trodAll_cons r0_
  obtain ⟨v2, vs2, d2, ds2, p2, q2_, rfl, rfl, rfl, h2, r2_⟩ := trodAll_cons r1_
  obtain ⟨rfl, rfl, rfl⟩ := trodAll_nil r2_
  obtain rfl : args = #[v0, v1, v2] := by cases args; simp_all
  obtain ⟨rfl, rfl⟩ := trodVars_none hV
  have kk0 := h0
  have lt0 : ∀ x ∈ p0, x.block < W.heap.size := by obtain ⟨m, hm⟩ := kk0; exact DataW.trod_lt m _ _ _ hm
  have kk1 := h1
  have lt1 : ∀ x ∈ p1, x.block < W.heap.size := by obtain ⟨m, hm⟩ := kk1; exact DataW.trod_lt m _ _ _ hm
  have kk2 := h2
  have lt2 : ∀ x ∈ p2, x.block < W.heap.size := by obtain ⟨m, hm⟩ := kk2; exact DataW.trod_lt m _ _ _ hm
  obtain ⟨s0, q0, k0, e0, w0, x0, y0⟩ := open_ik (hval 0 _ v0 rfl rfl) h0
  subst e0
  obtain ⟨a1, e1, _, _, w1⟩ := open_string Try.underlying9 (hval 1 _ v1 rfl rfl) h1
  subst e1
  obtain ⟨a2, e2, _, _, w2⟩ := open_int Try.underlying22 (hval 2 _ v2 rfl rfl) h2
  subst e2
  replace w2 := bounds_u64 w2
  obtain ⟨a2, rfl⟩ := Int.eq_ofNat_of_zero_le w2.1
  clear hA0 hval0
  refine (walk s0 q0 k0 a1 a2 W w0 x0 y0 w1 w2.2).mono fun e W' ⟨he, bel⟩ => ?_
  subst he
  exact ⟨_, rfl, _, _, _, [], _, [], hW', trodAll_mk1 (shut_bool Try.underlying4 _), (trodAll_cons_mk (Below.trod laidOut (by kernel_rfl) (of_decide_eq_true (by kernel_rfl)) kk0 bel lt0) (trodAll_cons_mk (Below.trod laidOut (by kernel_rfl) (of_decide_eq_true (by kernel_rfl)) kk1 bel lt1) (trodAll_cons_mk (Below.trod laidOut (by kernel_rfl) (of_decide_eq_true (by kernel_rfl)) kk2 bel lt2) trodAll_mk0))), rfl, bel.frame _, fun h => by cases h⟩

theorem over : Rows.ikeySoughtRow.holds Try.pinned (OpenSpec.ofChange Rows.ikeySoughtSpec) :=
  OpenClaim.holds_of_wide 5 Try.f5 rfl rfl rfl rfl rfl rfl rfl ⟨rfl, rfl, rfl, rfl, rfl⟩ rfl rfl rfl rfl rfl (by kernel_rfl) Try.func5 (by kernel_rfl)
    (of_decide_eq_true (by kernel_rfl)) (by unfold Func.isWrapper; first | (rw [if_pos (by decide +kernel)]; kernel_rfl) | (rw [if_neg (by decide +kernel)]; exact ⟨rfl, rfl⟩))
    (fun os started H enc _ => lifted os started H enc)

/-- The statement. -/
theorem proved : Rows.IkeySoughtSaid := over
#print axioms proved
end Go.Proofs.Ytobfdhnaejfehaa.ikeySought
