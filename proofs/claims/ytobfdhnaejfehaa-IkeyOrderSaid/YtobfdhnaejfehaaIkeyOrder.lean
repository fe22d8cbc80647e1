/-
  IkeyOrder: of two internal keys one is ahead, or they are the same, either way; what is ahead of what is ahead is ahead; a user's key counts ahead of all else. No condition.
-/
import Derived.Test.YtobfdhnaejfehaaRows
import Derived.Test.YtobfdhnaejfehaaIk6
import Derived.Test.YtobfdhnaejfehaaIkQ
import Derived.Test.YtobfdhnaejfehaaIkP
import Derived.WalkKit
import Derived.ProofKit
import Derived.OpenShut
import Derived.ShutString
import Derived.ChangeOld
import Derived.Below
import Derived.Deep.RegionHeld3
namespace Go.Proofs.Ytobfdhnaejfehaa.ikeyOrder
open Go.ChangeShapes Go.WideShapes Go.ChangeAt Go.RowKit
open Go.ChangeMaps (open_string shut_string)
set_option linter.unusedVariables false

theorem own : ownKnob Try.prog.godebug = none := by kernel_rfl
theorem laidOut : laidOutB Try.prog = true := by kernel_rfl

theorem rde3 (w : World) (s0 : ByteArray) (q0 k0 : Nat) (s1 : ByteArray) (q1 k1 : Nat) (s2 : ByteArray) (q2 k2 : Nat) :
    RdE ((((w.alloc (.cells #[.string s0, .int .u64 (q0 : Int), .int .u8 (k0 : Int)] 24)).alloc (.cells #[.string s1, .int .u64 (q1 : Int), .int .u8 (k1 : Int)] 24)).alloc (.cells #[.string s2, .int .u64 (q2 : Int), .int .u8 (k2 : Int)] 24)).alloc (.cells #[.string s0, .int .u64 (q0 : Int), .int .u8 (k0 : Int), .string ⟨#[]⟩, .string s1, .int .u64 (q1 : Int), .int .u8 (k1 : Int), .string ⟨#[]⟩, .string s2, .int .u64 (q2 : Int), .int .u8 (k2 : Int), .string ⟨#[]⟩] 29))
      (w.heap.size + 1 + 1 + 1 + 1) (some ⟨w.heap.size + 1 + 1 + 1, 0, none⟩) 3 3 [⟨s0, q0, k0, ⟨#[]⟩⟩, ⟨s1, q1, k1, ⟨#[]⟩⟩, ⟨s2, q2, k2, ⟨#[]⟩⟩] := by
  refine ⟨rfl, Nat.le_refl _, by decide, fun e => (by cases e), fun _ => ⟨w.heap.size + 1 + 1 + 1, 0, rfl, by omega, fun i x hx => ?_⟩⟩
  generalize hW : ((w.alloc (.cells #[.string s0, .int .u64 (q0 : Int), .int .u8 (k0 : Int)] 24)).alloc (.cells #[.string s1, .int .u64 (q1 : Int), .int .u8 (k1 : Int)] 24)).alloc (.cells #[.string s2, .int .u64 (q2 : Int), .int .u8 (k2 : Int)] 24) = W
  have hs : W.heap.size = w.heap.size + 1 + 1 + 1 := by rw [← hW]; simp
  have hh := heap_alloc_new W (.cells #[.string s0, .int .u64 (q0 : Int), .int .u8 (k0 : Int), .string ⟨#[]⟩, .string s1, .int .u64 (q1 : Int), .int .u8 (k1 : Int), .string ⟨#[]⟩, .string s2, .int .u64 (q2 : Int), .int .u8 (k2 : Int), .string ⟨#[]⟩] 29)
  rw [hs] at hh
  match i, hx with
  | 0, hx => cases hx; refine ⟨?_, ?_, ?_, ?_⟩ <;> (simp only [World.cell?, hh]; rfl)
  | 1, hx => cases hx; refine ⟨?_, ?_, ?_, ?_⟩ <;> (simp only [World.cell?, hh]; rfl)
  | 2, hx => cases hx; refine ⟨?_, ?_, ?_, ?_⟩ <;> (simp only [World.cell?, hh]; rfl)

set_option maxRecDepth 100000 in
set_option maxHeartbeats 8000000 in
theorem walk (s0 : ByteArray) (q0 k0 : Nat) (s1 : ByteArray) (q1 k1 : Nat) (s2 : ByteArray) (q2 k2 : Nat) (w : World) (w0 : s0.size ≤ maxLen) (x0 : (q0 : Int) ≤ 18446744073709551615) (y0 : (k0 : Int) ≤ 255) (w1 : s1.size ≤ maxLen) (x1 : (q1 : Int) ≤ 18446744073709551615) (y1 : (k1 : Int) ≤ 255) (w2 : s2.size ≤ maxLen) (x2 : (q2 : Int) ≤ 18446744073709551615) (y2 : (k2 : Int) ≤ 255) :
    Calls Try.prog 4 #[ik s0 q0 k0, ik s1 q1 k1, ik s2 q2 k2] w fun e w' => e = .returned (.bool true) ∧ Below w.heap.size w w' := by
  have HCa := Lib.hid (fun W => compare_c W s0 s1 q0 k0 q1 k1)
  have HCb := Lib.hid (fun W => compare_c W s1 s0 q1 k1 q0 k0)
  have HCc := Lib.hid (fun W => compare_c W s1 s2 q1 k1 q2 k2)
  have HCd := Lib.hid (fun W => compare_c W s0 s2 q0 k0 q2 k2)
  have p1 := cmpV_three s0 q0 k0 s1 q1 k1
  have p2 := cmpV_swap s0 q0 k0 s1 q1 k1
  have p3 := cmpV_zero s0 q0 k0 s1 q1 k1
  have p4 := cmpV_less s0 q0 k0 s1 q1 k1
  have p5 : cmpV s0 q0 k0 s1 q1 k1 ≤ 0 → cmpV s1 q1 k1 s2 q2 k2 ≤ 0 → cmpV s0 q0 k0 s2 q2 k2 ≤ 0 := cmpV_trans
  have t1 := less_str s0 s1
  have t2 := beq_str s0 s1
  have t3 := cmpS_three s0 s1
  rw [p2] at HCb
  unfold ik at HCa HCb HCc HCd ⊢
  generalize cmpV s0 q0 k0 s1 q1 k1 = n at *
  generalize cmpV s1 q1 k1 s2 q2 k2 = m at *
  generalize cmpV s0 q0 k0 s2 q2 k2 = o at *
  clear p2
  have hf := few_c (w := ((((w.alloc (.cells #[.string s0, .int .u64 (q0 : Int), .int .u8 (k0 : Int)] 24)).alloc (.cells #[.string s1, .int .u64 (q1 : Int), .int .u8 (k1 : Int)] 24)).alloc (.cells #[.string s2, .int .u64 (q2 : Int), .int .u8 (k2 : Int)] 24)).alloc (.cells #[.string s0, .int .u64 (q0 : Int), .int .u8 (k0 : Int), .string ⟨#[]⟩, .string s1, .int .u64 (q1 : Int), .int .u8 (k1 : Int), .string ⟨#[]⟩, .string s2, .int .u64 (q2 : Int), .int .u8 (k2 : Int), .string ⟨#[]⟩] 29)))
    (B := w.heap.size + 1 + 1 + 1 + 1) (A := some ⟨w.heap.size + 1 + 1 + 1, 0, none⟩) (n := 3) (c := 3) (L := [⟨s0, q0, k0, ⟨#[]⟩⟩, ⟨s1, q1, k1, ⟨#[]⟩⟩, ⟨s2, q2, k2, ⟨#[]⟩⟩]) (rde3 w _ _ _ _ _ _ _ _ _) (by simp) 3
  have HF := Lib.hid hf
  clear hf w0 w1 w2 x0 x1 x2 y0 y1 y2
  have i0 := ((IkAt.new w s0 q0 k0).alloc (.cells #[.string s1, .int .u64 (q1 : Int), .int .u8 (k1 : Int)] 24)).alloc (.cells #[.string s2, .int .u64 (q2 : Int), .int .u8 (k2 : Int)] 24)
  have i1 := (IkAt.new (w.alloc (.cells #[.string s0, .int .u64 (q0 : Int), .int .u8 (k0 : Int)] 24)) s1 q1 k1).alloc (.cells #[.string s2, .int .u64 (q2 : Int), .int .u8 (k2 : Int)] 24)
  have i2 := IkAt.new ((w.alloc (.cells #[.string s0, .int .u64 (q0 : Int), .int .u8 (k0 : Int)] 24)).alloc (.cells #[.string s1, .int .u64 (q1 : Int), .int .u8 (k1 : Int)] 24)) s2 q2 k2
  simp only [World.size_alloc] at i1 i2
  have ii : I3 w w.heap.size s0 q0 k0 s1 q1 k1 s2 q2 k2 _ := ⟨i0, i1, i2, blit (blit (below_alloc w _) _) _⟩
  have hHH := ii.all
  obtain ⟨_, a0, a1, a2, b0, b1, b2, c0, c1, c2⟩ := hHH
  go_enter Try.func4, Try.ntmps4
  go_wp2_with fail
  refine HF.out.mono ?_
  rintro e w9 ⟨rfl, hb9⟩
  have ii := (I3.alloc ii (.cells #[.string s0, .int .u64 (q0 : Int), .int .u8 (k0 : Int), .string ⟨#[]⟩, .string s1, .int .u64 (q1 : Int), .int .u8 (k1 : Int), .string ⟨#[]⟩, .string s2, .int .u64 (q2 : Int), .int .u8 (k2 : Int), .string ⟨#[]⟩] 29)).on hb9
  clear HF i0 i1 i2 a0 a1 a2 b0 b1 b2 c0 c1 c2 hb9
  obtain ⟨_, a0, a1, a2, b0, b1, b2, c0, c1, c2⟩ := ii.all
  generalize hfew : fewB [⟨s0, q0, k0, ⟨#[]⟩⟩, ⟨s1, q1, k1, ⟨#[]⟩⟩, ⟨s2, q2, k2, ⟨#[]⟩⟩] 3 = fw
  clear hfew
  cases fw with
  | false =>
    go_wp2_with fail
    refine (awake3_c _).mono ?_
    rintro e w5 ⟨rfl, hb5⟩
    go_wp2_with fail
    go_ret
    exact ⟨rfl, bon ii.g hb5⟩
  | true =>
    go_wp2_with fail
    refine (HCa.out _).mono ?_
    rintro e w10 ⟨rfl, hb10⟩
    have ii := ii.on hb10
    clear HCa hb10 a0 a1 a2 b0 b1 b2 c0 c1 c2
    obtain ⟨_, a0, a1, a2, b0, b1, b2, c0, c1, c2⟩ := ii.all
    rcases p1 with hn | hn | hn
    · subst hn
      have hne : ¬ (s0 = s1 ∧ q0 = q1 ∧ k0 = k1) := fun h => absurd (p3.2 h) (by decide)
      have hE : ∀ W, (Op.equalIn 10000 24 (.agg #[.string s0, .int .u64 (q0 : Int), .int .u8 (k0 : Int)]) (.agg #[.string s1, .int .u64 (q1 : Int), .int .u8 (k1 : Int)])).run Try.prog W = .ok false W := fun W => by rw [run_eq_ik]; unfold sameK; rw [decide_eq_false]; exact hne
      replace p5 := p5 (by decide)
      have HNE := Lib.hid hne
      clear p3 p4 hne t3
      by_cases hk : cmpS s0 s1 = -1
      · replace t1 : Op.bytesLess s0.toList s1.toList = true := by rw [t1, hk]; rfl
        clear t2 hk
        go_wp2_with fail
        refine (HCb.out _).mono ?_
        rintro e w11 ⟨rfl, hb⟩
        replace ii := ii.on hb
        clear hb a0 a1 a2 b0 b1 b2 c0 c1 c2
        obtain ⟨_, a0, a1, a2, b0, b1, b2, c0, c1, c2⟩ := ii.all
        go_wp2_with fail
        refine (HCc.out _).mono ?_
        rintro e w12 ⟨rfl, hb⟩
        replace ii := ii.on hb
        clear hb a0 a1 a2 b0 b1 b2 c0 c1 c2
        obtain ⟨_, a0, a1, a2, b0, b1, b2, c0, c1, c2⟩ := ii.all
        by_cases hm : m ≤ 0
        · have ho := p5 hm
          have d1 : decide (m ≤ 0) = true := by simp [hm]
          have d2 : decide (0 < o) = false := by simp; omega
          go_wp2_with fail
          refine (HCd.out _).mono ?_
          rintro e w13 ⟨rfl, hb⟩
          replace ii := ii.on hb
          clear hb a0 a1 a2 b0 b1 b2 c0 c1 c2
          obtain ⟨_, a0, a1, a2, b0, b1, b2, c0, c1, c2⟩ := ii.all
          go_wp2_with fail
          refine (awake3_c _).mono ?_
          rintro e w5 ⟨rfl, hb5⟩
          go_wp2_with fail
          go_ret
          exact ⟨rfl, bon ii.g hb5⟩
        · have d1 : decide (m ≤ 0) = false := by simp [hm]
          go_wp2_with fail
          refine (awake3_c _).mono ?_
          rintro e w5 ⟨rfl, hb5⟩
          go_wp2_with fail
          go_ret
          exact ⟨rfl, bon ii.g hb5⟩
      · replace t1 : Op.bytesLess s0.toList s1.toList = false := by rw [t1]; simp [hk]
        clear t2 hk
        go_wp2_with fail
        refine (HCb.out _).mono ?_
        rintro e w11 ⟨rfl, hb⟩
        replace ii := ii.on hb
        clear hb a0 a1 a2 b0 b1 b2 c0 c1 c2
        obtain ⟨_, a0, a1, a2, b0, b1, b2, c0, c1, c2⟩ := ii.all
        go_wp2_with fail
        refine (HCc.out _).mono ?_
        rintro e w12 ⟨rfl, hb⟩
        replace ii := ii.on hb
        clear hb a0 a1 a2 b0 b1 b2 c0 c1 c2
        obtain ⟨_, a0, a1, a2, b0, b1, b2, c0, c1, c2⟩ := ii.all
        by_cases hm : m ≤ 0
        · have ho := p5 hm
          have d1 : decide (m ≤ 0) = true := by simp [hm]
          have d2 : decide (0 < o) = false := by simp; omega
          go_wp2_with fail
          refine (HCd.out _).mono ?_
          rintro e w13 ⟨rfl, hb⟩
          replace ii := ii.on hb
          clear hb a0 a1 a2 b0 b1 b2 c0 c1 c2
          obtain ⟨_, a0, a1, a2, b0, b1, b2, c0, c1, c2⟩ := ii.all
          go_wp2_with fail
          refine (awake3_c _).mono ?_
          rintro e w5 ⟨rfl, hb5⟩
          go_wp2_with fail
          go_ret
          exact ⟨rfl, bon ii.g hb5⟩
        · have d1 : decide (m ≤ 0) = false := by simp [hm]
          go_wp2_with fail
          refine (awake3_c _).mono ?_
          rintro e w5 ⟨rfl, hb5⟩
          go_wp2_with fail
          go_ret
          exact ⟨rfl, bon ii.g hb5⟩
    · subst hn
      have hne : s0 = s1 ∧ q0 = q1 ∧ k0 = k1 := p3.1 rfl
      have hE : ∀ W, (Op.equalIn 10000 24 (.agg #[.string s0, .int .u64 (q0 : Int), .int .u8 (k0 : Int)]) (.agg #[.string s1, .int .u64 (q1 : Int), .int .u8 (k1 : Int)])).run Try.prog W = .ok true W := fun W => by rw [run_eq_ik]; unfold sameK; rw [decide_eq_true]; exact hne
      replace p5 := p5 (by decide)
      have hk : ¬ cmpS s0 s1 = -1 := fun h => absurd (p4 h) (by decide)
      replace t1 : Op.bytesLess s0.toList s1.toList = false := by rw [t1]; simp [hk]
      have HNE := Lib.hid hne
      clear p3 p4 hne t2 t3 hk
      go_wp2_with fail
      refine (HCb.out _).mono ?_
      rintro e w11 ⟨rfl, hb⟩
      replace ii := ii.on hb
      clear hb a0 a1 a2 b0 b1 b2 c0 c1 c2
      obtain ⟨_, a0, a1, a2, b0, b1, b2, c0, c1, c2⟩ := ii.all
      go_wp2_with fail
      refine (HCc.out _).mono ?_
      rintro e w12 ⟨rfl, hb⟩
      replace ii := ii.on hb
      clear hb a0 a1 a2 b0 b1 b2 c0 c1 c2
      obtain ⟨_, a0, a1, a2, b0, b1, b2, c0, c1, c2⟩ := ii.all
      by_cases hm : m ≤ 0
      · have ho := p5 hm
        have d1 : decide (m ≤ 0) = true := by simp [hm]
        have d2 : decide (0 < o) = false := by simp; omega
        go_wp2_with fail
        refine (HCd.out _).mono ?_
        rintro e w13 ⟨rfl, hb⟩
        replace ii := ii.on hb
        clear hb a0 a1 a2 b0 b1 b2 c0 c1 c2
        obtain ⟨_, a0, a1, a2, b0, b1, b2, c0, c1, c2⟩ := ii.all
        go_wp2_with fail
        refine (awake3_c _).mono ?_
        rintro e w5 ⟨rfl, hb5⟩
        go_wp2_with fail
        go_ret
        exact ⟨rfl, bon ii.g hb5⟩
      · have d1 : decide (m ≤ 0) = false := by simp [hm]
        go_wp2_with fail
        refine (awake3_c _).mono ?_
        rintro e w5 ⟨rfl, hb5⟩
        go_wp2_with fail
        go_ret
        exact ⟨rfl, bon ii.g hb5⟩
    · subst hn
      have hne : ¬ (s0 = s1 ∧ q0 = q1 ∧ k0 = k1) := fun h => absurd (p3.2 h) (by decide)
      have hE : ∀ W, (Op.equalIn 10000 24 (.agg #[.string s0, .int .u64 (q0 : Int), .int .u8 (k0 : Int)]) (.agg #[.string s1, .int .u64 (q1 : Int), .int .u8 (k1 : Int)])).run Try.prog W = .ok false W := fun W => by rw [run_eq_ik]; unfold sameK; rw [decide_eq_false]; exact hne
      have hk : ¬ cmpS s0 s1 = -1 := fun h => absurd (p4 h) (by decide)
      replace t1 : Op.bytesLess s0.toList s1.toList = false := by rw [t1]; simp [hk]
      have HNE := Lib.hid hne
      clear p3 p4 p5 hne t2 t3 hk
      go_wp2_with fail
      refine (HCb.out _).mono ?_
      rintro e w11 ⟨rfl, hb⟩
      replace ii := ii.on hb
      clear hb a0 a1 a2 b0 b1 b2 c0 c1 c2
      obtain ⟨_, a0, a1, a2, b0, b1, b2, c0, c1, c2⟩ := ii.all
      go_wp2_with fail
      refine (awake3_c _).mono ?_
      rintro e w5 ⟨rfl, hb5⟩
      go_wp2_with fail
      go_ret
      exact ⟨rfl, bon ii.g hb5⟩

set_option maxRecDepth 100000 in
theorem lifted (os : Os) (started : os.Started) (H : Type) (enc : TypeId × Value → H) :
    ReturnsInHanded {} Try.checked os 4 .any (Rows.ikeyOrderSpec.pre6 enc Try.prog Try.f4 Rows.ikeyOrderRow.domain false) (Rows.ikeyOrderSpec.post enc Try.prog Try.f4 false true false false) := by
  refine returnsInHanded_of_change (C := Try.checked) own started (by kernel_rfl) Try.func4
    (ChangeSpec.witness6 (enc := enc) (C := Try.checked) false ⟨#[], #[.agg #[.string ByteArray.empty, .int .u64 0, .int .u8 0], .agg #[.string ByteArray.empty, .int .u64 0, .int .u8 0], .agg #[.string ByteArray.empty, .int .u64 0, .int .u8 0]], []⟩ 8 (by kernel_rfl) (by kernel_rfl) (by kernel_rfl) (by kernel_rfl)) ?_
  intro W base args ds gs before hval0 hW hcnd _
  have hval : ∀ (j : Nat) t v, Try.f4.params[j]? = some t → args[j]? = some v → Value.okWide Try.prog W .any base t v := hval0
  have hW' := hW
  obtain ⟨p, q, hA0, hV, rfl, hfz, hnd⟩ := hW
  have hA : DataW.TrodAll enc Try.prog W 0 (fun _ => true) true Try.f4.params.toList args.toList ds p := hA0
  rw [Try.params4] at hA hval
  obtain ⟨v0, vs0, d0, ds0, p0, q0_, hargs, rfl, rfl, h0, r0_⟩ := trodAll_cons hA
  obtain ⟨v1, vs1, d1, ds1, p1, q1_, rfl, rfl, rfl, h1, r1_⟩ := trodAll_cons r0_
  obtain ⟨v2, vs2, d2, ds2, p2, q2_, rfl, rfl, rfl, h2, r2_⟩ := trodAll_cons r1_
  obtain ⟨rfl, rfl, rfl⟩ := trodAll_nil r2_
  obtain rfl : args = #[v0, v1, v2] := by cases args; simp_all
  obtain ⟨rfl, rfl⟩ := trodVars_none hV
  have kk0 := h0
  have lt0 : ∀ x ∈ p0, x.block < W.heap.size := by obtain ⟨m, hm⟩ := kk0; exact DataW.trod_lt m _ _ _ hm
  have kk1 := h1
  have lt1 : ∀ x ∈ p1, x.block < W.heap.size := by obtain ⟨m, hm⟩ := kk1; exact DataW.trod_lt m _ _ _ hm
  have kk2 := h2
  have lt2 : ∀ x ∈ p2, x.block < W.heap.size := by obtain ⟨m, hm⟩ := kk2; exact DataW.trod_lt m _ _ _ hm
  obtain ⟨s0, q0, k0, e0, w0, x0, y0⟩ := open_ik (hval 0 _ v0 rfl rfl) h0
  subst e0
  obtain ⟨s1, q1, k1, e1, w1, x1, y1⟩ := open_ik (hval 1 _ v1 rfl rfl) h1
  subst e1
  obtain ⟨s2, q2, k2, e2, w2, x2, y2⟩ := open_ik (hval 2 _ v2 rfl rfl) h2
  subst e2
  clear hA0 hval0
  refine (walk s0 q0 k0 s1 q1 k1 s2 q2 k2 W w0 x0 y0 w1 x1 y1 w2 x2 y2).mono fun e W' ⟨he, bel⟩ => ?_
  subst he
  exact ⟨_, rfl, _, _, _, [], _, [], hW', trodAll_mk1 (shut_bool Try.underlying4 _), (trodAll_cons_mk (Below.trod laidOut (by kernel_rfl) (of_decide_eq_true (by kernel_rfl)) kk0 bel lt0) (trodAll_cons_mk (Below.trod laidOut (by kernel_rfl) (of_decide_eq_true (by kernel_rfl)) kk1 bel lt1) (trodAll_cons_mk (Below.trod laidOut (by kernel_rfl) (of_decide_eq_true (by kernel_rfl)) kk2 bel lt2) trodAll_mk0))), rfl, bel.frame _, fun h => by cases h⟩

theorem over : Rows.ikeyOrderRow.holds Try.pinned (OpenSpec.ofChange Rows.ikeyOrderSpec) :=
  OpenClaim.holds_of_wide 4 Try.f4 rfl rfl rfl rfl rfl rfl rfl ⟨rfl, rfl, rfl, rfl, rfl⟩ rfl rfl rfl rfl rfl (by kernel_rfl) Try.func4 (by kernel_rfl)
    (of_decide_eq_true (by kernel_rfl)) (by unfold Func.isWrapper; first | (rw [if_pos (by decide +kernel)]; kernel_rfl) | (rw [if_neg (by decide +kernel)]; exact ⟨rfl, rfl⟩))
    (fun os started H enc _ => lifted os started H enc)

/-- The statement. -/
theorem proved : Rows.IkeyOrderSaid := over
#print axioms proved
end Go.Proofs.Ytobfdhnaejfehaa.ikeyOrder
