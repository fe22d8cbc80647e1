/-
  IkeyRight: at each limit an internal key, or an entry, is right, and one beyond it is not. No condition.
-/
import Derived.Test.YtobfdhnaejfehaaRows
import Derived.Test.YtobfdhnaejfehaaIk6
import Derived.Test.YtobfdhnaejfehaaIkG
import Derived.WalkKit
import Derived.ProofKit
import Derived.OpenShut
import Derived.ShutString
import Derived.ChangeOld
import Derived.Below
import Derived.Lib.MinMax
import Derived.Deep.RegionHeld3
namespace Go.Proofs.Ytobfdhnaejfehaa.ikeyRight
open Go.ChangeShapes Go.WideShapes Go.ChangeAt Go.RowKit
open Go.ChangeMaps (open_string shut_string)
set_option linter.unusedVariables false

theorem own : ownKnob Try.prog.godebug = none := by kernel_rfl
theorem laidOut : laidOutB Try.prog = true := by kernel_rfl

set_option maxRecDepth 100000 in
set_option maxHeartbeats 8000000 in
theorem walk (a0 : ByteArray) (a1 : Nat) (a2 : ByteArray) (w : World) (w0 : a0.size ≤ maxLen) (w1 : (a1 : Int) ≤ 18446744073709551615) (w2 : a2.size ≤ maxLen) :
    Calls Try.prog 8 #[.string a0, .int .u64 (a1 : Int), .string a2] w fun e w' => e = .returned (.bool true) ∧ Below w.heap.size w w' := by
  by_cases g1 : 300 < a0.size
  · have hd1 : decide ((300 : Int) < (a0.size : Int)) = true := by simp; omega
    have hd2 : decide (300 < a0.size) = true := by simp; omega
    clear w0 w1 w2
    go_enter Try.func8, Try.ntmps8
    go_wp2_with fail
    refine (awake3_c _).mono ?_
    rintro e w9 ⟨rfl, hb9⟩
    go_wp2_with fail
    go_ret
    exact ⟨rfl, hb9⟩
  have hd1 : decide ((300 : Int) < (a0.size : Int)) = false := by simp; omega
  have hd2 : decide (300 < a0.size) = false := by simp; omega
  by_cases g2 : 600 < a2.size
  · have hd3 : decide ((600 : Int) < (a2.size : Int)) = true := by simp; omega
    have hd4 : decide (600 < a2.size) = true := by simp; omega
    clear w0 w1 w2
    go_enter Try.func8, Try.ntmps8
    go_wp2_with fail
    refine (awake3_c _).mono ?_
    rintro e w9 ⟨rfl, hb9⟩
    go_wp2_with fail
    go_ret
    exact ⟨rfl, hb9⟩
  have hd3 : decide ((600 : Int) < (a2.size : Int)) = false := by simp; omega
  have hd4 : decide (600 < a2.size) = false := by simp; omega
  have hn0 : (a0.size : Int) ≤ 300 := by omega
  have hn2 : (a2.size : Int) ≤ 600 := by omega
  clear w0 w2
  go_enter Try.func8, Try.ntmps8
  go_wp2_with fail
  go_region
  have hks : ((a0 ++ (⟨#[120]⟩ : ByteArray)).extract 0 (min ((a0.size : Int) + 1) 64).toNat).size = min (a0.size + 1) 64 := by
    rw [ByteArray.size_extract, ByteArray.size_append]
    have : (⟨#[120]⟩ : ByteArray).size = 1 := rfl
    omega
  have hvs : (a2.extract 0 (min (a2.size : Int) 256).toNat).size = min a2.size 256 := by
    rw [ByteArray.size_extract]
    omega
  generalize (a0 ++ (⟨#[120]⟩ : ByteArray)).extract 0 (min ((a0.size : Int) + 1) 64).toNat = ky at hks ⊢
  generalize a2.extract 0 (min (a2.size : Int) 256).toNat = vl at hvs ⊢
  have hk1 : (1 : Int) ≤ (ky.size : Int) := by omega
  have hk2 : (ky.size : Int) ≤ 64 := by omega
  have hv2 : (vl.size : Int) ≤ 256 := by omega
  obtain ⟨qm, hqm⟩ : ∃ qm : Nat, min (a1 : Int) 72057594037927935 = (qm : Int) := ⟨(min (a1 : Int) 72057594037927935).toNat, by omega⟩
  have hq2 : (qm : Int) ≤ 72057594037927935 := by omega
  obtain ⟨ql, hql⟩ : ∃ ql : Nat, max (a1 : Int) 72057594037927936 = (ql : Int) := ⟨(max (a1 : Int) 72057594037927936).toNat, by omega⟩
  have hq3 : (72057594037927936 : Int) ≤ (ql : Int) := by omega
  generalize hw3 : w.drew = w3
  have hb3 : Below w.heap.size w w3 := by rw [← hw3]; exact Below.drew (Below.refl _ _)
  clear hks hvs hw3
  have HO := Lib.hid one_c
  unfold ik at HO
  go_wp2_with fail
  refine (HO.out _ ky qm 1).mono ?_
  rintro e w4 ⟨rfl, hb4⟩
  have hb := bon hb3 hb4
  clear hb3 hb4
  have i7 := IkAt.new w4 ky qm 1
  obtain ⟨z0, z1, z2⟩ := i7.cells
  have ii : I1 w w4.heap.size ky qm 1 (w4.alloc (.cells #[.string ky, .int .u64 (qm : Int), .int .u8 1] 24)) := ⟨i7, blit hb _⟩
  clear i7
  go_wp2_with fail
  refine' (fun (key : ∀ (W : World) (b7 b8 b9 b10 : Nat), Bx w ky qm 1 W b7 b8 b9 b10 → (_ : World → Nat → Nat → Nat → Nat → Prop) W b7 b8 b9 b10) => ?main) ?kp
  case main =>
    go_region_held3 (fun w' => I1 w w4.heap.size ky qm 1 w' ∧ w'.cell? ⟨w4.heap.size, 0, none⟩ = some (.string ky) ∧ w'.cell? ⟨w4.heap.size, 1, none⟩ = some (.int .u64 (qm : Int)) ∧ w'.cell? ⟨w4.heap.size, 2, none⟩ = some (.int .u8 1))
      ((first | assumption | exact I1.all (by assumption) | exact I1.all (I1.drew (by assumption)) | exact I1.all (I1.alloc (And.left (by assumption)) _) | exact I1.all (I1.drew (I1.alloc (I1.alloc (I1.alloc ii _) _) _))))
      (fail)
    all_goals
      have e0 := (((ii.i.alloc (.cells #[.string ky, .int .u64 (qm : Int), .int .u8 1] 24)).alloc (.cells #[.string ky, .int .u64 (qm : Int), .int .u8 1] 24)).alloc (.cells #[.string ky, .int .u64 (qm : Int), .int .u8 1] 24)).drew1
      have e1 := (((IkAt.new (w4.alloc (.cells #[.string ky, .int .u64 (qm : Int), .int .u8 1] 24)) ky qm 1).alloc (.cells #[.string ky, .int .u64 (qm : Int), .int .u8 1] 24)).alloc (.cells #[.string ky, .int .u64 (qm : Int), .int .u8 1] 24)).drew1
      have e2 := ((IkAt.new ((w4.alloc (.cells #[.string ky, .int .u64 (qm : Int), .int .u8 1] 24)).alloc (.cells #[.string ky, .int .u64 (qm : Int), .int .u8 1] 24)) ky qm 1).alloc (.cells #[.string ky, .int .u64 (qm : Int), .int .u8 1] 24)).drew1
      have e3 := (IkAt.new (((w4.alloc (.cells #[.string ky, .int .u64 (qm : Int), .int .u8 1] 24)).alloc (.cells #[.string ky, .int .u64 (qm : Int), .int .u8 1] 24)).alloc (.cells #[.string ky, .int .u64 (qm : Int), .int .u8 1] 24)) ky qm 1).drew1
      have hgW := (blit (blit (blit ii.g (.cells #[.string ky, .int .u64 (qm : Int), .int .u8 1] 24)) (.cells #[.string ky, .int .u64 (qm : Int), .int .u8 1] 24)) (.cells #[.string ky, .int .u64 (qm : Int), .int .u8 1] 24)).drew
      have hlo := hb.size
      simp only [World.size_alloc] at e1 e2 e3
      rw [show ((1 : Nat) : Int) = 1 from rfl] at e1 e2 e3
      generalize ((((w4.alloc (.cells #[.string ky, .int .u64 (qm : Int), .int .u8 1] 24)).alloc (.cells #[.string ky, .int .u64 (qm : Int), .int .u8 1] 24)).alloc (.cells #[.string ky, .int .u64 (qm : Int), .int .u8 1] 24)).alloc (.cells #[.string ky, .int .u64 (qm : Int), .int .u8 1] 24)).drew = W at e0 e1 e2 e3 hgW ⊢
      generalize h3 : w4.heap.size + 1 + 1 + 1 = n3 at e3 ⊢
      generalize h2 : w4.heap.size + 1 + 1 = n2 at e2 ⊢
      generalize h1 : w4.heap.size + 1 = n1 at e1 ⊢
      generalize h0 : w4.heap.size = n0 at e0 ⊢
      first
        | exact key W n0 n1 n2 n3 ⟨e0, e1, e2, e3, by omega, by omega, hgW⟩
        | exact key W n0 n1 n3 n2 ⟨e0, e1, e3, e2, by omega, by omega, hgW⟩
        | exact key W n0 n2 n1 n3 ⟨e0, e2, e1, e3, by omega, by omega, hgW⟩
        | exact key W n0 n2 n3 n1 ⟨e0, e2, e3, e1, by omega, by omega, hgW⟩
        | exact key W n0 n3 n1 n2 ⟨e0, e3, e1, e2, by omega, by omega, hgW⟩
        | exact key W n0 n3 n2 n1 ⟨e0, e3, e2, e1, by omega, by omega, hgW⟩
  case kp =>
  clear ii z0 z1 z2 hb w3 HO
  intro W b7 b8 b9 b10 hB
  obtain ⟨m, hm⟩ : ∃ m : Nat, (65 : Int) - (ky.size : Int) = (m : Int) := ⟨65 - ky.size, by omega⟩
  have hm1 : (m : Int) ≤ 1000 := by omega
  have hmk := run_zeros m hm1 W (g := W.heap.size) rfl
  have hcv := run_zstr m hm1 W (g := W.heap.size) rfl

  have hlk := zeros_size ky m
  have hls : ((ky ++ (⟨(zeros m).toArray⟩ : ByteArray)).size : Int) = 65 := by rw [hlk]; omega
  have hbig : ¬ ((ky.size + (⟨(zeros m).toArray⟩ : ByteArray).size : Nat) : Int) > IntKind.i64.max := by
    have : (⟨(zeros m).toArray⟩ : ByteArray).size = m := by show (zeros m).toArray.size = m; simp [zeros]
    rw [this]; simp [IntKind.max, IntKind.bits, IntKind.signed]; omega
  generalize hlkq : ky ++ (⟨(zeros m).toArray⟩ : ByteArray) = lk at hls
  have hw65 : IntKind.i64.wrap (65 - (ky.size : Int)) = 65 - (ky.size : Int) := wrapi _ (by omega) (by omega)
  have c8 := (hB.i8.alloc (.cells (bv (zeros m)).toArray 5))
  obtain ⟨f0, f1, f2⟩ := c8.cells
  obtain ⟨f0z, f1z, f2z⟩ := c8.frozen
  obtain ⟨n78, n79, n710, n89, n810, n910⟩ := hB.ne
  obtain ⟨l7, l8, l9, l10⟩ := hB.lo
  have c9 := (hB.i9.alloc (.cells (bv (zeros m)).toArray 5)).other (p := ⟨b8, 0, none⟩) (Ne.symm n89) (.string lk)
  obtain ⟨h0, h1, h2⟩ := c9.cells
  obtain ⟨h0z, h1z, h2z⟩ := c9.frozen
  have c10 := ((hB.i10.alloc (.cells (bv (zeros m)).toArray 5)).other (p := ⟨b8, 0, none⟩) (Ne.symm n810) (.string lk)).other (p := ⟨b9, 1, none⟩) (Ne.symm n910) (.int .u64 (ql : Int))
  obtain ⟨j0, j1, j2⟩ := c10.cells
  obtain ⟨j0z, j1z, j2z⟩ := c10.frozen
  have d7 := (((hB.i7.alloc (.cells (bv (zeros m)).toArray 5)).other (p := ⟨b8, 0, none⟩) n78 (.string lk)).other (p := ⟨b9, 1, none⟩) n79 (.int .u64 (ql : Int))).other (p := ⟨b10, 2, none⟩) n710 (.int .u8 2)
  have d8 := ((c8.set0 lk).other (p := ⟨b9, 1, none⟩) n89 (.int .u64 (ql : Int))).other (p := ⟨b10, 2, none⟩) n810 (.int .u8 2)
  have d9 := (c9.set1 ql).other (p := ⟨b10, 2, none⟩) n910 (.int .u8 2)
  have d10 := c10.set2 2
  have hgW := ((((blit hB.g (.cells (bv (zeros m)).toArray 5)).setCell (p := ⟨b8, 0, none⟩) l8 (.string lk)).setCell (p := ⟨b9, 1, none⟩) l9 (.int .u64 (ql : Int))).setCell (p := ⟨b10, 2, none⟩) l10 (.int .u8 2))
  have D7 := Lib.hid d7
  have D8 := Lib.hid d8
  have D9 := Lib.hid d9
  have D10 := Lib.hid d10
  have HG := Lib.hid hgW
  have r7 : rightB ky qm 1 = true := by unfold rightB; simp [-ByteArray.size_eq_zero_iff]; omega
  have r8 : rightB lk qm 1 = false := by
    cases h : rightB lk qm 1 with
    | false => rfl
    | true => have := (right_parts h).2.1; omega
  have r9 : rightB ky ql 1 = false := by
    cases h : rightB ky ql 1 with
    | false => rfl
    | true => have := (right_parts h).2.2.1; omega
  have r10 : rightB ky qm 2 = false := by
    cases h : rightB ky qm 2 with
    | false => rfl
    | true => have := (right_parts h).2.2.2; omega
  have r0 : rightB ⟨#[]⟩ qm 1 = false := by
    cases h : rightB ⟨#[]⟩ qm 1 with
    | false => rfl
    | true => exact absurd (right_parts h).1 (by decide)
  have R7 := Lib.hid (fun W => (show Calls Try.prog 13 #[ik ky qm 1] W (RetVl W (.bool true)) from r7 ▸ right_c W ky qm 1))
  have R8 := Lib.hid (fun W => (show Calls Try.prog 13 #[ik lk qm 1] W (RetVl W (.bool false)) from r8 ▸ right_c W lk qm 1))
  have R9 := Lib.hid (fun W => (show Calls Try.prog 13 #[ik ky ql 1] W (RetVl W (.bool false)) from r9 ▸ right_c W ky ql 1))
  have R10 := Lib.hid (fun W => (show Calls Try.prog 13 #[ik ky qm 2] W (RetVl W (.bool false)) from r10 ▸ right_c W ky qm 2))
  have R0 := Lib.hid (fun W => (show Calls Try.prog 13 #[ik ⟨#[]⟩ qm 1] W (RetVl W (.bool false)) from r0 ▸ right_c W ⟨#[]⟩ qm 1))
  have HO := Lib.hid one_c
  unfold ik at R7 R8 R9 R10 R0 HO
  have HLS := Lib.hid hls
  have HLQ := hlkq
  clear hlk d7 d8 d9 d10 hgW r7 r8 r9 r10 r0 c8 c9 c10 hB hls
  obtain ⟨x0, x1, x2⟩ := D7.out.cells
  go_wp2_with fail
  case isTrue =>
    have hz : (zeros m).length = m := by simp [zeros]
    omega
  refine (R7.out _).mono ?_
  rintro e u1 ⟨rfl, hb⟩
  replace D7 := Lib.hid (D7.out.below hb (Nat.le_refl _))
  replace D8 := Lib.hid (D8.out.below hb (Nat.le_refl _))
  replace D9 := Lib.hid (D9.out.below hb (Nat.le_refl _))
  replace D10 := Lib.hid (D10.out.below hb (Nat.le_refl _))
  replace HG := Lib.hid (bon HG.out hb)
  clear hb x0 x1 x2
  obtain ⟨x0, x1, x2⟩ := D8.out.cells
  go_wp2_with fail
  refine (R8.out _).mono ?_
  rintro e u2 ⟨rfl, hb⟩
  replace D7 := Lib.hid (D7.out.below hb (Nat.le_refl _))
  replace D8 := Lib.hid (D8.out.below hb (Nat.le_refl _))
  replace D9 := Lib.hid (D9.out.below hb (Nat.le_refl _))
  replace D10 := Lib.hid (D10.out.below hb (Nat.le_refl _))
  replace HG := Lib.hid (bon HG.out hb)
  clear hb x0 x1 x2
  obtain ⟨x0, x1, x2⟩ := D9.out.cells
  go_wp2_with fail
  refine (R9.out _).mono ?_
  rintro e u3 ⟨rfl, hb⟩
  replace D7 := Lib.hid (D7.out.below hb (Nat.le_refl _))
  replace D8 := Lib.hid (D8.out.below hb (Nat.le_refl _))
  replace D9 := Lib.hid (D9.out.below hb (Nat.le_refl _))
  replace D10 := Lib.hid (D10.out.below hb (Nat.le_refl _))
  replace HG := Lib.hid (bon HG.out hb)
  clear hb x0 x1 x2
  obtain ⟨x0, x1, x2⟩ := D10.out.cells
  go_wp2_with fail
  refine (R10.out _).mono ?_
  rintro e u4 ⟨rfl, hb⟩
  replace D7 := Lib.hid (D7.out.below hb (Nat.le_refl _))
  replace D8 := Lib.hid (D8.out.below hb (Nat.le_refl _))
  replace D9 := Lib.hid (D9.out.below hb (Nat.le_refl _))
  replace D10 := Lib.hid (D10.out.below hb (Nat.le_refl _))
  replace HG := Lib.hid (bon HG.out hb)
  clear hb x0 x1 x2
  obtain ⟨x0, x1, x2⟩ := D7.out.cells
  go_wp2_with fail
  refine (HO.out _ ⟨#[]⟩ qm 1).mono ?_
  rintro e u5 ⟨rfl, hb⟩
  replace D7 := Lib.hid (D7.out.below hb (Nat.le_refl _))
  replace D8 := Lib.hid (D8.out.below hb (Nat.le_refl _))
  replace HG := Lib.hid (bon HG.out hb)
  clear hb x0 x1 x2 D9 D10
  go_wp2_with fail
  refine (R0.out _).mono ?_
  rintro e u6 ⟨rfl, hb⟩
  replace D7 := Lib.hid (D7.out.below hb (Nat.le_refl _))
  replace D8 := Lib.hid (D8.out.below hb (Nat.le_refl _))
  replace HG := Lib.hid (bon HG.out hb)
  clear hb
  obtain ⟨x0, x1, x2⟩ := D7.out.cells
  have d11 := IkAt.new u6 ky qm 0
  rw [show ((0 : Nat) : Int) = 0 from rfl] at d11
  have d7 := D7.out.alloc (.cells #[.string ky, .int .u64 (qm : Int), .int .u8 0] 24)
  have d8 := D8.out.alloc (.cells #[.string ky, .int .u64 (qm : Int), .int .u8 0] 24)
  have hg := blit HG.out (.cells #[.string ky, .int .u64 (qm : Int), .int .u8 0] 24)
  go_wp2_with fail
  have tk : Rk w b7 b8 u6.heap.size ky qm lk _ := ⟨d7, d8, d11, hg⟩
  obtain ⟨m2, hm2⟩ : ∃ m2 : Nat, (257 : Int) - (vl.size : Int) = (m2 : Int) := ⟨257 - vl.size, by omega⟩
  have hm21 : (m2 : Int) ≤ 1000 := by omega
  have hls2 : (vl ++ (⟨(zeros m2).toArray⟩ : ByteArray)).size = vl.size + m2 := zeros_size vl m2
  have hw257 : IntKind.i64.wrap (m2 : Int) = (m2 : Int) := wrapi _ (by omega) (by omega)
  have hbig2 : ¬ 9223372036854775807 < vl.size + (zeros m2).length := by have : (zeros m2).length = m2 := (by simp [zeros]); omega
  generalize hv2q : vl ++ (⟨(zeros m2).toArray⟩ : ByteArray) = lv at hls2
  have q1 : entryB ky qm 1 vl = true := by unfold entryB rightB; simp [-ByteArray.size_eq_zero_iff]; omega
  have q2 : entryB ky qm 1 lv = false := by
    cases h : entryB ky qm 1 lv with
    | false => rfl
    | true =>
      unfold entryB at h
      simp only [Bool.and_eq_true, decide_eq_true_eq] at h
      have := h.1.2
      omega
  have hz0 : (⟨#[]⟩ : ByteArray).size = 0 := rfl
  have q3 : entryB ky qm 0 ⟨#[]⟩ = true := by unfold entryB rightB; rw [hz0]; simp; omega
  have q5 : entryB lk qm 1 ⟨#[]⟩ = false := by
    cases h : entryB lk qm 1 ⟨#[]⟩ with
    | false => rfl
    | true =>
      unfold entryB at h
      simp only [Bool.and_eq_true] at h
      have := (right_parts h.1.1).2.1
      have := HLS.out
      omega
  have q4 : entryB ky qm 0 vl = decide (vl.size = 0) := by
    unfold entryB rightB
    rw [Bool.eq_iff_iff]
    simp [-ByteArray.size_eq_zero_iff]
    omega
  have Q1 := Lib.hid (fun W => entry_t (w := W) q1)
  have Q2 := Lib.hid (fun W => entry_t (w := W) q2)
  have Q3 := Lib.hid (fun W => entry_t (w := W) q3)
  have Q4 := Lib.hid (fun W => entry_t (w := W) q4)
  have Q5 := Lib.hid (fun W => entry_t (w := W) q5)
  unfold en at Q1 Q2 Q3 Q4 Q5
  have hemp := str_emp vl
  have hnil := str_nil vl
  clear D7 D8 HG d7 d8 d11 hg x0 x1 x2 R7 R8 R9 R10 R0 HO q1 q2 q3 q4 q5 hmk hcv
  by_cases hz : vl.size = 0
  case pos =>
    simp only [hz, decide_true] at Q4
    have e1 : vl.toList = [] := hnil.2 hz
    have e2 : vl.toList.isEmpty = true := by rw [hemp]; simp [hz]
    clear hz hemp hnil
    refine wp_region_noPanic ?_
    replace tk := Rk.drew tk
    refine wp_region_held_drew (S := (fun w' => Rk w b7 b8 u6.heap.size ky qm lk w' ∧ (w'.cell? ⟨b7, 0, none⟩ = some (.string ky) ∧ w'.cell? ⟨b7, 1, none⟩ = some (.int .u64 (qm : Int)) ∧ w'.cell? ⟨b7, 2, none⟩ = some (.int .u8 1)) ∧ (w'.cell? ⟨b8, 0, none⟩ = some (.string lk) ∧ w'.cell? ⟨b8, 1, none⟩ = some (.int .u64 (qm : Int)) ∧ w'.cell? ⟨b8, 2, none⟩ = some (.int .u8 1)) ∧ (w'.cell? ⟨u6.heap.size, 0, none⟩ = some (.string ky) ∧ w'.cell? ⟨u6.heap.size, 1, none⟩ = some (.int .u64 (qm : Int)) ∧ w'.cell? ⟨u6.heap.size, 2, none⟩ = some (.int .u8 0)))) (by kernel_rfl) (Rk.all tk) (fun hHeld => ?_)
    refine wpAnyH_take (i := 0) (oi := { dst := some 75, op := Op.load 24 (Operand.tmp 7), type := 24, pos := "outright.go:103", after := #[], guard := none }) (v := ?v1) rfl (by kernel_rfl) (by kernel_rfl) (by kernel_rfl) (fun _ _ _ h => h) (Or.inl ⟨by rfl, ?hy1⟩) (by assumption) ?rest1
    case hy1 => (intro w hSw; (try dsimp only at hSw); go_simp; try with_reducible rfl)
    try simp only [Act.put, List.setIfInBounds_toArray, List.set_cons_zero, List.set_cons_succ]
    refine wpAnyH_take (i := 1) (oi := { dst := some 76, op := Op.move (Operand.tmp 2), type := 9, pos := "outright.go:103", after := #[], guard := none }) (v := ?v2) rfl (by kernel_rfl) (by kernel_rfl) (by kernel_rfl) (fun _ _ _ h => h) (Or.inl ⟨by rfl, ?hy2⟩) (by assumption) ?rest2
    case hy2 => (intro w hSw; (try dsimp only at hSw); go_simp; try with_reducible rfl)
    try simp only [Act.put, List.setIfInBounds_toArray, List.set_cons_zero, List.set_cons_succ]
    refine wpAnyH_take (i := 2) (oi := { dst := some 77, op := Op.build 29 #[(0, Operand.tmp 75), (1, Operand.tmp 76)], type := 29, pos := "outright.go:103", after := #[{ on := 0, ground := Ground.data }, { on := 1, ground := Ground.data }], guard := none }) (v := ?v3) rfl (by kernel_rfl) (by kernel_rfl) (by kernel_rfl) (fun _ _ _ h => h) (Or.inl ⟨by rfl, ?hy3⟩) (by assumption) ?rest3
    case hy3 => (intro w hSw; (try dsimp only at hSw); go_simp; try with_reducible rfl)
    try simp only [Act.put, List.setIfInBounds_toArray, List.set_cons_zero, List.set_cons_succ]
    refine wpAnyH_ready (rs := [3]) (by kernel_rfl) (by simp) ?_
    refine AllReadyH.cons (o := { dst := some 78, op := Op.call { callee := Callee.value (Operand.func 15), args := #[Operand.tmp 77], argTypes := #[29] }, type := 4, pos := "outright.go:103", after := #[{ on := 2, ground := Ground.data }], guard := none }) rfl (fun K hK => ?_) AllReadyH.nil
    go_simp
    refine (Q1.out _).mono ?_
    rintro e v3 ⟨rfl, hb⟩
    replace tk := tk.on hb
    clear hb
    go_wp2_with fail
    clear hHeld
    refine hK.out _ _ (Rk.all tk) (fun hHeld => ?_)
    clear hK K
    try simp only [Act.put, List.setIfInBounds_toArray, List.set_cons_zero, List.set_cons_succ]
    refine wpAnyH_take (i := 4) (oi := { dst := some 79, op := Op.move (Operand.tmp 78), type := 4, pos := "outright.go:103", after := #[{ on := 3, ground := Ground.data }, { on := 3, ground := Ground.chain }], guard := none }) (v := ?v4) rfl (by kernel_rfl) (by kernel_rfl) (by kernel_rfl) (fun _ _ _ h => h) (Or.inl ⟨by rfl, ?hy4⟩) (by assumption) ?rest4
    case hy4 => (intro w hSw; (try dsimp only at hSw); go_simp; try with_reducible rfl)
    try simp only [Act.put, List.setIfInBounds_toArray, List.set_cons_zero, List.set_cons_succ]
    refine wpAnyH_take (i := 5) (oi := { dst := some 80, op := Op.load 24 (Operand.tmp 7), type := 24, pos := "outright.go:103", after := #[{ on := 4, ground := Ground.guard }], guard := some (4, true) }) (v := ?v5) rfl (by kernel_rfl) (by kernel_rfl) (by kernel_rfl) (fun _ _ _ h => h) (Or.inl ⟨by rfl, ?hy5⟩) (by assumption) ?rest5
    case hy5 => (intro w hSw; (try dsimp only at hSw); go_simp; try with_reducible rfl)
    try simp only [Act.put, List.setIfInBounds_toArray, List.set_cons_zero, List.set_cons_succ]
    refine wpAnyH_take (i := 6) (oi := { dst := some 81, op := Op.move (Operand.tmp 2), type := 9, pos := "outright.go:103", after := #[{ on := 4, ground := Ground.guard }], guard := some (4, true) }) (v := ?v6) rfl (by kernel_rfl) (by kernel_rfl) (by kernel_rfl) (fun _ _ _ h => h) (Or.inl ⟨by rfl, ?hy6⟩) (by assumption) ?rest6
    case hy6 => (intro w hSw; (try dsimp only at hSw); go_simp; try with_reducible rfl)
    try simp only [Act.put, List.setIfInBounds_toArray, List.set_cons_zero, List.set_cons_succ]
    refine wpAnyH_take (i := 7) (oi := { dst := some 82, op := Op.move (Operand.tmp 2), type := 9, pos := "outright.go:103", after := #[{ on := 4, ground := Ground.guard }], guard := some (4, true) }) (v := ?v7) rfl (by kernel_rfl) (by kernel_rfl) (by kernel_rfl) (fun _ _ _ h => h) (Or.inl ⟨by rfl, ?hy7⟩) (by assumption) ?rest7
    case hy7 => (intro w hSw; (try dsimp only at hSw); go_simp; try with_reducible rfl)
    try simp only [Act.put, List.setIfInBounds_toArray, List.set_cons_zero, List.set_cons_succ]
    refine wpAnyH_take (i := 8) (oi := { dst := some 83, op := Op.call { callee := Callee.builtin Builtin.len, args := #[Operand.tmp 82], argTypes := #[9] }, type := 3, pos := "outright.go:103", after := #[{ on := 7, ground := Ground.data }, { on := 4, ground := Ground.guard }], guard := some (4, true) }) (v := ?v8) rfl (by kernel_rfl) (by kernel_rfl) (by kernel_rfl) (fun _ _ _ h => h) (Or.inl ⟨by rfl, ?hy8⟩) (by assumption) ?rest8
    case hy8 => (intro w hSw; (try dsimp only at hSw); go_simp; try with_reducible rfl)
    try simp only [Act.put, List.setIfInBounds_toArray, List.set_cons_zero, List.set_cons_succ]
    refine wpAnyH_take (i := 9) (oi := { dst := some 84, op := Op.binOp BinOp.sub 3 (Operand.const (Value.int IntKind.i64 257)) (Operand.tmp 83) 3, type := 3, pos := "outright.go:103", after := #[{ on := 8, ground := Ground.data }, { on := 4, ground := Ground.guard }], guard := some (4, true) }) (v := ?v9) rfl (by kernel_rfl) (by kernel_rfl) (by kernel_rfl) (fun _ _ _ h => h) (Or.inl ⟨by rfl, ?hy9⟩) (by assumption) ?rest9
    case hy9 => (intro w hSw; (try dsimp only at hSw); go_simp; try with_reducible rfl)
    try simp only [Act.put, List.setIfInBounds_toArray, List.set_cons_zero, List.set_cons_succ]
    have hmk := run_zeros m2 hm21 v3 (g := v3.heap.size) rfl
    have hcv := run_zstr m2 hm21 v3 (g := v3.heap.size) rfl
    refine wpAnyH_ready (rs := [10]) (by kernel_rfl) (by simp) ?_
    refine AllReadyH.cons (o := { dst := some 85, op := Op.makeSlice 26 (Operand.tmp 84) (Operand.tmp 84), type := 26, pos := "outright.go:103", after := #[{ on := 9, ground := Ground.data }, { on := 9, ground := Ground.data }, { on := 4, ground := Ground.guard }], guard := some (4, true) }) rfl (fun K hK => ?_) AllReadyH.nil
    go_simp
    clear hHeld
    refine hK.out _ _ (Rk.all (Rk.alloc tk _)) (fun hHeld => ?_)
    clear hK K
    try simp only [Act.put, List.setIfInBounds_toArray, List.set_cons_zero, List.set_cons_succ]
    replace tk := hHeld.1
    refine wpAnyH_ready (rs := [11]) (by kernel_rfl) (by simp) ?_
    refine AllReadyH.cons (o := { dst := some 86, op := Op.convert 26 9 (Operand.tmp 85), type := 9, pos := "outright.go:103", after := #[{ on := 10, ground := Ground.data }, { on := 4, ground := Ground.guard }], guard := some (4, true) }) rfl (fun K hK => ?_) AllReadyH.nil
    go_simp
    refine hK.out _ _ hHeld (fun hHeld' => ?_)
    clear hK K
    try simp only [Act.put, List.setIfInBounds_toArray, List.set_cons_zero, List.set_cons_succ]
    refine wpAnyH_take (i := 12) (oi := { dst := some 87, op := Op.binOp BinOp.add 9 (Operand.tmp 81) (Operand.tmp 86) 9, type := 9, pos := "outright.go:103", after := #[{ on := 6, ground := Ground.data }, { on := 11, ground := Ground.data }, { on := 4, ground := Ground.guard }], guard := some (4, true) }) (v := ?v10) rfl (by kernel_rfl) (by kernel_rfl) (by kernel_rfl) (fun _ _ _ h => h) (Or.inl ⟨by rfl, ?hy10⟩) (by assumption) ?rest10
    case hy10 => (intro w hSw; (try dsimp only at hSw); go_simp; try with_reducible rfl)
    try simp only [Act.put, List.setIfInBounds_toArray, List.set_cons_zero, List.set_cons_succ]
    refine wpAnyH_take (i := 13) (oi := { dst := some 88, op := Op.build 29 #[(0, Operand.tmp 80), (1, Operand.tmp 87)], type := 29, pos := "outright.go:103", after := #[{ on := 5, ground := Ground.data }, { on := 12, ground := Ground.data }, { on := 4, ground := Ground.guard }], guard := some (4, true) }) (v := ?v11) rfl (by kernel_rfl) (by kernel_rfl) (by kernel_rfl) (fun _ _ _ h => h) (Or.inl ⟨by rfl, ?hy11⟩) (by assumption) ?rest11
    case hy11 => (intro w hSw; (try dsimp only at hSw); go_simp; try with_reducible rfl)
    try simp only [Act.put, List.setIfInBounds_toArray, List.set_cons_zero, List.set_cons_succ]
    refine wpAnyH_ready (rs := [14]) (by kernel_rfl) (by simp) ?_
    refine AllReadyH.cons (o := { dst := some 89, op := Op.call { callee := Callee.value (Operand.func 15), args := #[Operand.tmp 88], argTypes := #[29] }, type := 4, pos := "outright.go:103", after := #[{ on := 13, ground := Ground.data }, { on := 4, ground := Ground.chain }, { on := 4, ground := Ground.guard }], guard := some (4, true) }) rfl (fun K hK => ?_) AllReadyH.nil
    go_simp
    refine (Q2.out _).mono ?_
    rintro e v14 ⟨rfl, hb⟩
    replace tk := tk.on hb
    clear hb
    go_wp2_with fail
    clear hHeld
    refine hK.out _ _ (Rk.all tk) (fun hHeld => ?_)
    clear hK K
    try simp only [Act.put, List.setIfInBounds_toArray, List.set_cons_zero, List.set_cons_succ]
    refine wpAnyH_take (i := 15) (oi := { dst := some 90, op := Op.unOp UnOp.not 4 (Operand.tmp 89), type := 4, pos := "outright.go:103", after := #[{ on := 14, ground := Ground.data }, { on := 4, ground := Ground.guard }], guard := some (4, true) }) (v := ?v12) rfl (by kernel_rfl) (by kernel_rfl) (by kernel_rfl) (fun _ _ _ h => h) (Or.inl ⟨by rfl, ?hy12⟩) (by assumption) ?rest12
    case hy12 => (intro w hSw; (try dsimp only at hSw); go_simp; try with_reducible rfl)
    try simp only [Act.put, List.setIfInBounds_toArray, List.set_cons_zero, List.set_cons_succ]
    refine wpAnyH_take (i := 16) (oi := { dst := some 91, op := Op.pick (Operand.tmp 79) (Operand.tmp 90) (Operand.const (Value.bool false)), type := 4, pos := "outright.go:103", after := #[{ on := 4, ground := Ground.data }, { on := 15, ground := Ground.data }], guard := none }) (v := ?v13) rfl (by kernel_rfl) (by kernel_rfl) (by kernel_rfl) (fun _ _ _ h => h) (Or.inl ⟨by rfl, ?hy13⟩) (by assumption) ?rest13
    case hy13 => (intro w hSw; (try dsimp only at hSw); go_simp; try with_reducible rfl)
    try simp only [Act.put, List.setIfInBounds_toArray, List.set_cons_zero, List.set_cons_succ]
    refine wpAnyH_take (i := 17) (oi := { dst := some 92, op := Op.move (Operand.tmp 91), type := 4, pos := "outright.go:103", after := #[{ on := 16, ground := Ground.data }, { on := 14, ground := Ground.chain }], guard := none }) (v := ?v14) rfl (by kernel_rfl) (by kernel_rfl) (by kernel_rfl) (fun _ _ _ h => h) (Or.inl ⟨by rfl, ?hy14⟩) (by assumption) ?rest14
    case hy14 => (intro w hSw; (try dsimp only at hSw); go_simp; try with_reducible rfl)
    try simp only [Act.put, List.setIfInBounds_toArray, List.set_cons_zero, List.set_cons_succ]
    refine wpAnyH_take (i := 18) (oi := { dst := some 93, op := Op.load 24 (Operand.tmp 11), type := 24, pos := "outright.go:103", after := #[{ on := 17, ground := Ground.guard }], guard := some (17, true) }) (v := ?v15) rfl (by kernel_rfl) (by kernel_rfl) (by kernel_rfl) (fun _ _ _ h => h) (Or.inl ⟨by rfl, ?hy15⟩) (by assumption) ?rest15
    case hy15 => (intro w hSw; (try dsimp only at hSw); go_simp; try with_reducible rfl)
    try simp only [Act.put, List.setIfInBounds_toArray, List.set_cons_zero, List.set_cons_succ]
    refine wpAnyH_take (i := 19) (oi := { dst := some 94, op := Op.build 29 #[(0, Operand.tmp 93)], type := 29, pos := "outright.go:103", after := #[{ on := 18, ground := Ground.data }, { on := 17, ground := Ground.guard }], guard := some (17, true) }) (v := ?v16) rfl (by kernel_rfl) (by kernel_rfl) (by kernel_rfl) (fun _ _ _ h => h) (Or.inl ⟨by rfl, ?hy16⟩) (by assumption) ?rest16
    case hy16 => (intro w hSw; (try dsimp only at hSw); go_simp; try with_reducible rfl)
    try simp only [Act.put, List.setIfInBounds_toArray, List.set_cons_zero, List.set_cons_succ]
    refine wpAnyH_ready (rs := [20]) (by kernel_rfl) (by simp) ?_
    refine AllReadyH.cons (o := { dst := some 95, op := Op.call { callee := Callee.value (Operand.func 15), args := #[Operand.tmp 94], argTypes := #[29] }, type := 4, pos := "outright.go:103", after := #[{ on := 19, ground := Ground.data }, { on := 17, ground := Ground.chain }, { on := 17, ground := Ground.guard }], guard := some (17, true) }) rfl (fun K hK => ?_) AllReadyH.nil
    go_simp
    refine (Q3.out _).mono ?_
    rintro e v20 ⟨rfl, hb⟩
    replace tk := tk.on hb
    clear hb
    go_wp2_with fail
    clear hHeld
    refine hK.out _ _ (Rk.all tk) (fun hHeld => ?_)
    clear hK K
    try simp only [Act.put, List.setIfInBounds_toArray, List.set_cons_zero, List.set_cons_succ]
    refine wpAnyH_take (i := 21) (oi := { dst := some 96, op := Op.pick (Operand.tmp 92) (Operand.tmp 95) (Operand.const (Value.bool false)), type := 4, pos := "outright.go:103", after := #[{ on := 17, ground := Ground.data }, { on := 20, ground := Ground.data }], guard := none }) (v := ?v17) rfl (by kernel_rfl) (by kernel_rfl) (by kernel_rfl) (fun _ _ _ h => h) (Or.inl ⟨by rfl, ?hy17⟩) (by assumption) ?rest17
    case hy17 => (intro w hSw; (try dsimp only at hSw); go_simp; try with_reducible rfl)
    try simp only [Act.put, List.setIfInBounds_toArray, List.set_cons_zero, List.set_cons_succ]
    refine wpAnyH_take (i := 22) (oi := { dst := some 97, op := Op.move (Operand.tmp 96), type := 4, pos := "outright.go:103", after := #[{ on := 21, ground := Ground.data }, { on := 20, ground := Ground.chain }], guard := none }) (v := ?v18) rfl (by kernel_rfl) (by kernel_rfl) (by kernel_rfl) (fun _ _ _ h => h) (Or.inl ⟨by rfl, ?hy18⟩) (by assumption) ?rest18
    case hy18 => (intro w hSw; (try dsimp only at hSw); go_simp; try with_reducible rfl)
    try simp only [Act.put, List.setIfInBounds_toArray, List.set_cons_zero, List.set_cons_succ]
    refine wpAnyH_take (i := 23) (oi := { dst := some 98, op := Op.load 24 (Operand.tmp 11), type := 24, pos := "outright.go:103", after := #[{ on := 22, ground := Ground.guard }], guard := some (22, true) }) (v := ?v19) rfl (by kernel_rfl) (by kernel_rfl) (by kernel_rfl) (fun _ _ _ h => h) (Or.inl ⟨by rfl, ?hy19⟩) (by assumption) ?rest19
    case hy19 => (intro w hSw; (try dsimp only at hSw); go_simp; try with_reducible rfl)
    try simp only [Act.put, List.setIfInBounds_toArray, List.set_cons_zero, List.set_cons_succ]
    refine wpAnyH_take (i := 24) (oi := { dst := some 99, op := Op.move (Operand.tmp 2), type := 9, pos := "outright.go:103", after := #[{ on := 22, ground := Ground.guard }], guard := some (22, true) }) (v := ?v20) rfl (by kernel_rfl) (by kernel_rfl) (by kernel_rfl) (fun _ _ _ h => h) (Or.inl ⟨by rfl, ?hy20⟩) (by assumption) ?rest20
    case hy20 => (intro w hSw; (try dsimp only at hSw); go_simp; try with_reducible rfl)
    try simp only [Act.put, List.setIfInBounds_toArray, List.set_cons_zero, List.set_cons_succ]
    refine wpAnyH_take (i := 25) (oi := { dst := some 100, op := Op.build 29 #[(0, Operand.tmp 98), (1, Operand.tmp 99)], type := 29, pos := "outright.go:103", after := #[{ on := 23, ground := Ground.data }, { on := 24, ground := Ground.data }, { on := 22, ground := Ground.guard }], guard := some (22, true) }) (v := ?v21) rfl (by kernel_rfl) (by kernel_rfl) (by kernel_rfl) (fun _ _ _ h => h) (Or.inl ⟨by rfl, ?hy21⟩) (by assumption) ?rest21
    case hy21 => (intro w hSw; (try dsimp only at hSw); go_simp; try with_reducible rfl)
    try simp only [Act.put, List.setIfInBounds_toArray, List.set_cons_zero, List.set_cons_succ]
    refine wpAnyH_take (i := 27) (oi := { dst := some 102, op := Op.move (Operand.tmp 2), type := 9, pos := "outright.go:103", after := #[{ on := 22, ground := Ground.guard }], guard := some (22, true) }) (v := ?v22) rfl (by kernel_rfl) (by kernel_rfl) (by kernel_rfl) (fun _ _ _ h => h) (Or.inl ⟨by rfl, ?hy22⟩) (by assumption) ?rest22
    case hy22 => (intro w hSw; (try dsimp only at hSw); go_simp; try with_reducible rfl)
    try simp only [Act.put, List.setIfInBounds_toArray, List.set_cons_zero, List.set_cons_succ]
    refine wpAnyH_take (i := 28) (oi := { dst := some 103, op := Op.binOp BinOp.eql 9 (Operand.tmp 102) (Operand.const (Value.string { data := #[] })) 9, type := 4, pos := "outright.go:103", after := #[{ on := 27, ground := Ground.data }, { on := 22, ground := Ground.guard }], guard := some (22, true) }) (v := ?v23) rfl (by kernel_rfl) (by kernel_rfl) (by kernel_rfl) (fun _ _ _ h => h) (Or.inl ⟨by rfl, ?hy23⟩) (by assumption) ?rest23
    case hy23 => (intro w hSw; (try dsimp only at hSw); go_simp; try with_reducible rfl)
    try simp only [Act.put, List.setIfInBounds_toArray, List.set_cons_zero, List.set_cons_succ]
    refine wpAnyH_ready (rs := [26]) (by kernel_rfl) (by simp) ?_
    refine AllReadyH.cons (o := { dst := some 101, op := Op.call { callee := Callee.value (Operand.func 15), args := #[Operand.tmp 100], argTypes := #[29] }, type := 4, pos := "outright.go:103", after := #[{ on := 25, ground := Ground.data }, { on := 22, ground := Ground.chain }, { on := 22, ground := Ground.guard }], guard := some (22, true) }) rfl (fun K hK => ?_) AllReadyH.nil
    go_simp
    refine (Q4.out _).mono ?_
    rintro e v26 ⟨rfl, hb⟩
    replace tk := tk.on hb
    clear hb
    go_wp2_with fail
    clear hHeld
    refine hK.out _ _ (Rk.all tk) (fun hHeld => ?_)
    clear hK K
    try simp only [Act.put, List.setIfInBounds_toArray, List.set_cons_zero, List.set_cons_succ]
    refine wpAnyH_take (i := 29) (oi := { dst := some 104, op := Op.binOp BinOp.eql 4 (Operand.tmp 101) (Operand.tmp 103) 4, type := 4, pos := "outright.go:103", after := #[{ on := 26, ground := Ground.data }, { on := 28, ground := Ground.data }, { on := 22, ground := Ground.guard }], guard := some (22, true) }) (v := ?v24) rfl (by kernel_rfl) (by kernel_rfl) (by kernel_rfl) (fun _ _ _ h => h) (Or.inl ⟨by rfl, ?hy24⟩) (by assumption) ?rest24
    case hy24 => (intro w hSw; (try dsimp only at hSw); go_simp; try with_reducible rfl)
    try simp only [Act.put, List.setIfInBounds_toArray, List.set_cons_zero, List.set_cons_succ]
    refine wpAnyH_take (i := 30) (oi := { dst := some 105, op := Op.pick (Operand.tmp 97) (Operand.tmp 104) (Operand.const (Value.bool false)), type := 4, pos := "outright.go:103", after := #[{ on := 22, ground := Ground.data }, { on := 29, ground := Ground.data }], guard := none }) (v := ?v25) rfl (by kernel_rfl) (by kernel_rfl) (by kernel_rfl) (fun _ _ _ h => h) (Or.inl ⟨by rfl, ?hy25⟩) (by assumption) ?rest25
    case hy25 => (intro w hSw; (try dsimp only at hSw); go_simp; try with_reducible rfl)
    try simp only [Act.put, List.setIfInBounds_toArray, List.set_cons_zero, List.set_cons_succ]
    refine wpAnyH_take (i := 31) (oi := { dst := some 106, op := Op.move (Operand.tmp 105), type := 4, pos := "outright.go:103", after := #[{ on := 30, ground := Ground.data }, { on := 26, ground := Ground.chain }], guard := none }) (v := ?v26) rfl (by kernel_rfl) (by kernel_rfl) (by kernel_rfl) (fun _ _ _ h => h) (Or.inl ⟨by rfl, ?hy26⟩) (by assumption) ?rest26
    case hy26 => (intro w hSw; (try dsimp only at hSw); go_simp; try with_reducible rfl)
    try simp only [Act.put, List.setIfInBounds_toArray, List.set_cons_zero, List.set_cons_succ]
    refine wpAnyH_take (i := 32) (oi := { dst := some 107, op := Op.load 24 (Operand.tmp 8), type := 24, pos := "outright.go:103", after := #[{ on := 31, ground := Ground.guard }], guard := some (31, true) }) (v := ?v27) rfl (by kernel_rfl) (by kernel_rfl) (by kernel_rfl) (fun _ _ _ h => h) (Or.inl ⟨by rfl, ?hy27⟩) (by assumption) ?rest27
    case hy27 => (intro w hSw; (try dsimp only at hSw); go_simp; try with_reducible rfl)
    try simp only [Act.put, List.setIfInBounds_toArray, List.set_cons_zero, List.set_cons_succ]
    refine wpAnyH_take (i := 33) (oi := { dst := some 108, op := Op.build 29 #[(0, Operand.tmp 107)], type := 29, pos := "outright.go:103", after := #[{ on := 32, ground := Ground.data }, { on := 31, ground := Ground.guard }], guard := some (31, true) }) (v := ?v28) rfl (by kernel_rfl) (by kernel_rfl) (by kernel_rfl) (fun _ _ _ h => h) (Or.inl ⟨by rfl, ?hy28⟩) (by assumption) ?rest28
    case hy28 => (intro w hSw; (try dsimp only at hSw); go_simp; try with_reducible rfl)
    try simp only [Act.put, List.setIfInBounds_toArray, List.set_cons_zero, List.set_cons_succ]
    refine wpAnyH_ready (rs := [34]) (by kernel_rfl) (by simp) ?_
    refine AllReadyH.cons (o := { dst := some 109, op := Op.call { callee := Callee.value (Operand.func 15), args := #[Operand.tmp 108], argTypes := #[29] }, type := 4, pos := "outright.go:103", after := #[{ on := 33, ground := Ground.data }, { on := 31, ground := Ground.chain }, { on := 31, ground := Ground.guard }], guard := some (31, true) }) rfl (fun K hK => ?_) AllReadyH.nil
    go_simp
    refine (Q5.out _).mono ?_
    rintro e v34 ⟨rfl, hb⟩
    replace tk := tk.on hb
    clear hb
    go_wp2_with fail
    clear hHeld
    refine hK.out _ _ (Rk.all tk) (fun hHeld => ?_)
    clear hK K
    try simp only [Act.put, List.setIfInBounds_toArray, List.set_cons_zero, List.set_cons_succ]
    refine wpAnyH_take (i := 35) (oi := { dst := some 110, op := Op.unOp UnOp.not 4 (Operand.tmp 109), type := 4, pos := "outright.go:103", after := #[{ on := 34, ground := Ground.data }, { on := 31, ground := Ground.guard }], guard := some (31, true) }) (v := ?v29) rfl (by kernel_rfl) (by kernel_rfl) (by kernel_rfl) (fun _ _ _ h => h) (Or.inl ⟨by rfl, ?hy29⟩) (by assumption) ?rest29
    case hy29 => (intro w hSw; (try dsimp only at hSw); go_simp; try with_reducible rfl)
    try simp only [Act.put, List.setIfInBounds_toArray, List.set_cons_zero, List.set_cons_succ]
    refine wpAnyH_take (i := 36) (oi := { dst := some 111, op := Op.pick (Operand.tmp 106) (Operand.tmp 110) (Operand.const (Value.bool false)), type := 4, pos := "outright.go:103", after := #[{ on := 31, ground := Ground.data }, { on := 35, ground := Ground.data }], guard := none }) (v := ?v30) rfl (by kernel_rfl) (by kernel_rfl) (by kernel_rfl) (fun _ _ _ h => h) (Or.inl ⟨by rfl, ?hy30⟩) (by assumption) ?rest30
    case hy30 => (intro w hSw; (try dsimp only at hSw); go_simp; try with_reducible rfl)
    try simp only [Act.put, List.setIfInBounds_toArray, List.set_cons_zero, List.set_cons_succ]
    refine wpAnyH_take (i := 37) (oi := { dst := some 112, op := Op.move (Operand.tmp 111), type := 4, pos := "outright.go:103", after := #[{ on := 36, ground := Ground.data }, { on := 34, ground := Ground.chain }], guard := none }) (v := ?v31) rfl (by kernel_rfl) (by kernel_rfl) (by kernel_rfl) (fun _ _ _ h => h) (Or.inl ⟨by rfl, ?hy31⟩) (by assumption) ?rest31
    case hy31 => (intro w hSw; (try dsimp only at hSw); go_simp; try with_reducible rfl)
    try simp only [Act.put, List.setIfInBounds_toArray, List.set_cons_zero, List.set_cons_succ]
    refine wpAnyH_ready (rs := [38]) (by kernel_rfl) (by simp) ?_
    refine AllReadyH.cons (o := { dst := some 113, op := Op.call { callee := Callee.value (Operand.func 10), args := #[], argTypes := #[] }, type := 4, pos := "outright.go:103", after := #[{ on := 37, ground := Ground.chain }, { on := 37, ground := Ground.guard }], guard := some (37, true) }) rfl (fun K hK => ?_) AllReadyH.nil
    go_simp
    refine (awake3_c _).mono ?_
    rintro e v38 ⟨rfl, hb⟩
    replace tk := tk.on hb
    clear hb
    go_wp2_with fail
    clear hHeld
    refine hK.out _ _ (Rk.all tk) (fun hHeld => ?_)
    clear hK K
    try simp only [Act.put, List.setIfInBounds_toArray, List.set_cons_zero, List.set_cons_succ]
    refine wpAnyH_take (i := 39) (oi := { dst := some 114, op := Op.pick (Operand.tmp 112) (Operand.tmp 113) (Operand.const (Value.bool false)), type := 4, pos := "outright.go:103", after := #[{ on := 37, ground := Ground.data }, { on := 38, ground := Ground.data }], guard := none }) (v := ?v32) rfl (by kernel_rfl) (by kernel_rfl) (by kernel_rfl) (fun _ _ _ h => h) (Or.inl ⟨by rfl, ?hy32⟩) (by assumption) ?rest32
    case hy32 => (intro w hSw; (try dsimp only at hSw); go_simp; try with_reducible rfl)
    try simp only [Act.put, List.setIfInBounds_toArray, List.set_cons_zero, List.set_cons_succ]
    refine wpAnyH_take (i := 40) (oi := { dst := some 6, op := Op.assign (Operand.tmp 114), type := 4, pos := "outright.go:103", after := #[{ on := 39, ground := Ground.data }, { on := 38, ground := Ground.chain }, { on := 0, ground := Ground.phase }, { on := 1, ground := Ground.phase }, { on := 2, ground := Ground.phase }, { on := 3, ground := Ground.phase }, { on := 4, ground := Ground.phase }, { on := 5, ground := Ground.phase }, { on := 6, ground := Ground.phase }, { on := 7, ground := Ground.phase }, { on := 8, ground := Ground.phase }, { on := 9, ground := Ground.phase }, { on := 10, ground := Ground.phase }, { on := 11, ground := Ground.phase }, { on := 12, ground := Ground.phase }, { on := 13, ground := Ground.phase }, { on := 14, ground := Ground.phase }, { on := 15, ground := Ground.phase }, { on := 16, ground := Ground.phase }, { on := 17, ground := Ground.phase }, { on := 18, ground := Ground.phase }, { on := 19, ground := Ground.phase }, { on := 20, ground := Ground.phase }, { on := 21, ground := Ground.phase }, { on := 22, ground := Ground.phase }, { on := 23, ground := Ground.phase }, { on := 24, ground := Ground.phase }, { on := 25, ground := Ground.phase }, { on := 26, ground := Ground.phase }, { on := 27, ground := Ground.phase }, { on := 28, ground := Ground.phase }, { on := 29, ground := Ground.phase }, { on := 30, ground := Ground.phase }, { on := 31, ground := Ground.phase }, { on := 32, ground := Ground.phase }, { on := 33, ground := Ground.phase }, { on := 34, ground := Ground.phase }, { on := 35, ground := Ground.phase }, { on := 36, ground := Ground.phase }, { on := 37, ground := Ground.phase }, { on := 38, ground := Ground.phase }, { on := 39, ground := Ground.phase }], guard := none }) (v := ?v33) rfl (by kernel_rfl) (by kernel_rfl) (by kernel_rfl) (fun _ _ _ h => h) (Or.inl ⟨by rfl, ?hy33⟩) (by assumption) ?rest33
    case hy33 => (intro w hSw; (try dsimp only at hSw); go_simp; try with_reducible rfl)
    try simp only [Act.put, List.setIfInBounds_toArray, List.set_cons_zero, List.set_cons_succ]
    refine wpAnyH_done (by kernel_rfl) ?_ _
    refine NoPanic.normal ?_
    go_wp2_with fail
    go_ret
    exact ⟨rfl, tk.g⟩
  case neg =>
    simp only [hz, decide_false] at Q4
    have e1 : ¬ vl.toList = [] := fun h => hz (hnil.1 h)
    have e2 : vl.toList.isEmpty = false := by rw [hemp]; simp [hz]
    clear hz hemp hnil
    refine wp_region_noPanic ?_
    replace tk := Rk.drew tk
    refine wp_region_held_drew (S := (fun w' => Rk w b7 b8 u6.heap.size ky qm lk w' ∧ (w'.cell? ⟨b7, 0, none⟩ = some (.string ky) ∧ w'.cell? ⟨b7, 1, none⟩ = some (.int .u64 (qm : Int)) ∧ w'.cell? ⟨b7, 2, none⟩ = some (.int .u8 1)) ∧ (w'.cell? ⟨b8, 0, none⟩ = some (.string lk) ∧ w'.cell? ⟨b8, 1, none⟩ = some (.int .u64 (qm : Int)) ∧ w'.cell? ⟨b8, 2, none⟩ = some (.int .u8 1)) ∧ (w'.cell? ⟨u6.heap.size, 0, none⟩ = some (.string ky) ∧ w'.cell? ⟨u6.heap.size, 1, none⟩ = some (.int .u64 (qm : Int)) ∧ w'.cell? ⟨u6.heap.size, 2, none⟩ = some (.int .u8 0)))) (by kernel_rfl) (Rk.all tk) (fun hHeld => ?_)
    refine wpAnyH_take (i := 0) (oi := { dst := some 75, op := Op.load 24 (Operand.tmp 7), type := 24, pos := "outright.go:103", after := #[], guard := none }) (v := ?v34) rfl (by kernel_rfl) (by kernel_rfl) (by kernel_rfl) (fun _ _ _ h => h) (Or.inl ⟨by rfl, ?hy34⟩) (by assumption) ?rest34
    case hy34 => (intro w hSw; (try dsimp only at hSw); go_simp; try with_reducible rfl)
    try simp only [Act.put, List.setIfInBounds_toArray, List.set_cons_zero, List.set_cons_succ]
    refine wpAnyH_take (i := 1) (oi := { dst := some 76, op := Op.move (Operand.tmp 2), type := 9, pos := "outright.go:103", after := #[], guard := none }) (v := ?v35) rfl (by kernel_rfl) (by kernel_rfl) (by kernel_rfl) (fun _ _ _ h => h) (Or.inl ⟨by rfl, ?hy35⟩) (by assumption) ?rest35
    case hy35 => (intro w hSw; (try dsimp only at hSw); go_simp; try with_reducible rfl)
    try simp only [Act.put, List.setIfInBounds_toArray, List.set_cons_zero, List.set_cons_succ]
    refine wpAnyH_take (i := 2) (oi := { dst := some 77, op := Op.build 29 #[(0, Operand.tmp 75), (1, Operand.tmp 76)], type := 29, pos := "outright.go:103", after := #[{ on := 0, ground := Ground.data }, { on := 1, ground := Ground.data }], guard := none }) (v := ?v36) rfl (by kernel_rfl) (by kernel_rfl) (by kernel_rfl) (fun _ _ _ h => h) (Or.inl ⟨by rfl, ?hy36⟩) (by assumption) ?rest36
    case hy36 => (intro w hSw; (try dsimp only at hSw); go_simp; try with_reducible rfl)
    try simp only [Act.put, List.setIfInBounds_toArray, List.set_cons_zero, List.set_cons_succ]
    refine wpAnyH_ready (rs := [3]) (by kernel_rfl) (by simp) ?_
    refine AllReadyH.cons (o := { dst := some 78, op := Op.call { callee := Callee.value (Operand.func 15), args := #[Operand.tmp 77], argTypes := #[29] }, type := 4, pos := "outright.go:103", after := #[{ on := 2, ground := Ground.data }], guard := none }) rfl (fun K hK => ?_) AllReadyH.nil
    go_simp
    refine (Q1.out _).mono ?_
    rintro e v3 ⟨rfl, hb⟩
    replace tk := tk.on hb
    clear hb
    go_wp2_with fail
    clear hHeld
    refine hK.out _ _ (Rk.all tk) (fun hHeld => ?_)
    clear hK K
    try simp only [Act.put, List.setIfInBounds_toArray, List.set_cons_zero, List.set_cons_succ]
    refine wpAnyH_take (i := 4) (oi := { dst := some 79, op := Op.move (Operand.tmp 78), type := 4, pos := "outright.go:103", after := #[{ on := 3, ground := Ground.data }, { on := 3, ground := Ground.chain }], guard := none }) (v := ?v37) rfl (by kernel_rfl) (by kernel_rfl) (by kernel_rfl) (fun _ _ _ h => h) (Or.inl ⟨by rfl, ?hy37⟩) (by assumption) ?rest37
    case hy37 => (intro w hSw; (try dsimp only at hSw); go_simp; try with_reducible rfl)
    try simp only [Act.put, List.setIfInBounds_toArray, List.set_cons_zero, List.set_cons_succ]
    refine wpAnyH_take (i := 5) (oi := { dst := some 80, op := Op.load 24 (Operand.tmp 7), type := 24, pos := "outright.go:103", after := #[{ on := 4, ground := Ground.guard }], guard := some (4, true) }) (v := ?v38) rfl (by kernel_rfl) (by kernel_rfl) (by kernel_rfl) (fun _ _ _ h => h) (Or.inl ⟨by rfl, ?hy38⟩) (by assumption) ?rest38
    case hy38 => (intro w hSw; (try dsimp only at hSw); go_simp; try with_reducible rfl)
    try simp only [Act.put, List.setIfInBounds_toArray, List.set_cons_zero, List.set_cons_succ]
    refine wpAnyH_take (i := 6) (oi := { dst := some 81, op := Op.move (Operand.tmp 2), type := 9, pos := "outright.go:103", after := #[{ on := 4, ground := Ground.guard }], guard := some (4, true) }) (v := ?v39) rfl (by kernel_rfl) (by kernel_rfl) (by kernel_rfl) (fun _ _ _ h => h) (Or.inl ⟨by rfl, ?hy39⟩) (by assumption) ?rest39
    case hy39 => (intro w hSw; (try dsimp only at hSw); go_simp; try with_reducible rfl)
    try simp only [Act.put, List.setIfInBounds_toArray, List.set_cons_zero, List.set_cons_succ]
    refine wpAnyH_take (i := 7) (oi := { dst := some 82, op := Op.move (Operand.tmp 2), type := 9, pos := "outright.go:103", after := #[{ on := 4, ground := Ground.guard }], guard := some (4, true) }) (v := ?v40) rfl (by kernel_rfl) (by kernel_rfl) (by kernel_rfl) (fun _ _ _ h => h) (Or.inl ⟨by rfl, ?hy40⟩) (by assumption) ?rest40
    case hy40 => (intro w hSw; (try dsimp only at hSw); go_simp; try with_reducible rfl)
    try simp only [Act.put, List.setIfInBounds_toArray, List.set_cons_zero, List.set_cons_succ]
    refine wpAnyH_take (i := 8) (oi := { dst := some 83, op := Op.call { callee := Callee.builtin Builtin.len, args := #[Operand.tmp 82], argTypes := #[9] }, type := 3, pos := "outright.go:103", after := #[{ on := 7, ground := Ground.data }, { on := 4, ground := Ground.guard }], guard := some (4, true) }) (v := ?v41) rfl (by kernel_rfl) (by kernel_rfl) (by kernel_rfl) (fun _ _ _ h => h) (Or.inl ⟨by rfl, ?hy41⟩) (by assumption) ?rest41
    case hy41 => (intro w hSw; (try dsimp only at hSw); go_simp; try with_reducible rfl)
    try simp only [Act.put, List.setIfInBounds_toArray, List.set_cons_zero, List.set_cons_succ]
    refine wpAnyH_take (i := 9) (oi := { dst := some 84, op := Op.binOp BinOp.sub 3 (Operand.const (Value.int IntKind.i64 257)) (Operand.tmp 83) 3, type := 3, pos := "outright.go:103", after := #[{ on := 8, ground := Ground.data }, { on := 4, ground := Ground.guard }], guard := some (4, true) }) (v := ?v42) rfl (by kernel_rfl) (by kernel_rfl) (by kernel_rfl) (fun _ _ _ h => h) (Or.inl ⟨by rfl, ?hy42⟩) (by assumption) ?rest42
    case hy42 => (intro w hSw; (try dsimp only at hSw); go_simp; try with_reducible rfl)
    try simp only [Act.put, List.setIfInBounds_toArray, List.set_cons_zero, List.set_cons_succ]
    have hmk := run_zeros m2 hm21 v3 (g := v3.heap.size) rfl
    have hcv := run_zstr m2 hm21 v3 (g := v3.heap.size) rfl
    refine wpAnyH_ready (rs := [10]) (by kernel_rfl) (by simp) ?_
    refine AllReadyH.cons (o := { dst := some 85, op := Op.makeSlice 26 (Operand.tmp 84) (Operand.tmp 84), type := 26, pos := "outright.go:103", after := #[{ on := 9, ground := Ground.data }, { on := 9, ground := Ground.data }, { on := 4, ground := Ground.guard }], guard := some (4, true) }) rfl (fun K hK => ?_) AllReadyH.nil
    go_simp
    clear hHeld
    refine hK.out _ _ (Rk.all (Rk.alloc tk _)) (fun hHeld => ?_)
    clear hK K
    try simp only [Act.put, List.setIfInBounds_toArray, List.set_cons_zero, List.set_cons_succ]
    replace tk := hHeld.1
    refine wpAnyH_ready (rs := [11]) (by kernel_rfl) (by simp) ?_
    refine AllReadyH.cons (o := { dst := some 86, op := Op.convert 26 9 (Operand.tmp 85), type := 9, pos := "outright.go:103", after := #[{ on := 10, ground := Ground.data }, { on := 4, ground := Ground.guard }], guard := some (4, true) }) rfl (fun K hK => ?_) AllReadyH.nil
    go_simp
    refine hK.out _ _ hHeld (fun hHeld' => ?_)
    clear hK K
    try simp only [Act.put, List.setIfInBounds_toArray, List.set_cons_zero, List.set_cons_succ]
    refine wpAnyH_take (i := 12) (oi := { dst := some 87, op := Op.binOp BinOp.add 9 (Operand.tmp 81) (Operand.tmp 86) 9, type := 9, pos := "outright.go:103", after := #[{ on := 6, ground := Ground.data }, { on := 11, ground := Ground.data }, { on := 4, ground := Ground.guard }], guard := some (4, true) }) (v := ?v43) rfl (by kernel_rfl) (by kernel_rfl) (by kernel_rfl) (fun _ _ _ h => h) (Or.inl ⟨by rfl, ?hy43⟩) (by assumption) ?rest43
    case hy43 => (intro w hSw; (try dsimp only at hSw); go_simp; try with_reducible rfl)
    try simp only [Act.put, List.setIfInBounds_toArray, List.set_cons_zero, List.set_cons_succ]
    refine wpAnyH_take (i := 13) (oi := { dst := some 88, op := Op.build 29 #[(0, Operand.tmp 80), (1, Operand.tmp 87)], type := 29, pos := "outright.go:103", after := #[{ on := 5, ground := Ground.data }, { on := 12, ground := Ground.data }, { on := 4, ground := Ground.guard }], guard := some (4, true) }) (v := ?v44) rfl (by kernel_rfl) (by kernel_rfl) (by kernel_rfl) (fun _ _ _ h => h) (Or.inl ⟨by rfl, ?hy44⟩) (by assumption) ?rest44
    case hy44 => (intro w hSw; (try dsimp only at hSw); go_simp; try with_reducible rfl)
    try simp only [Act.put, List.setIfInBounds_toArray, List.set_cons_zero, List.set_cons_succ]
    refine wpAnyH_ready (rs := [14]) (by kernel_rfl) (by simp) ?_
    refine AllReadyH.cons (o := { dst := some 89, op := Op.call { callee := Callee.value (Operand.func 15), args := #[Operand.tmp 88], argTypes := #[29] }, type := 4, pos := "outright.go:103", after := #[{ on := 13, ground := Ground.data }, { on := 4, ground := Ground.chain }, { on := 4, ground := Ground.guard }], guard := some (4, true) }) rfl (fun K hK => ?_) AllReadyH.nil
    go_simp
    refine (Q2.out _).mono ?_
    rintro e v14 ⟨rfl, hb⟩
    replace tk := tk.on hb
    clear hb
    go_wp2_with fail
    clear hHeld
    refine hK.out _ _ (Rk.all tk) (fun hHeld => ?_)
    clear hK K
    try simp only [Act.put, List.setIfInBounds_toArray, List.set_cons_zero, List.set_cons_succ]
    refine wpAnyH_take (i := 15) (oi := { dst := some 90, op := Op.unOp UnOp.not 4 (Operand.tmp 89), type := 4, pos := "outright.go:103", after := #[{ on := 14, ground := Ground.data }, { on := 4, ground := Ground.guard }], guard := some (4, true) }) (v := ?v45) rfl (by kernel_rfl) (by kernel_rfl) (by kernel_rfl) (fun _ _ _ h => h) (Or.inl ⟨by rfl, ?hy45⟩) (by assumption) ?rest45
    case hy45 => (intro w hSw; (try dsimp only at hSw); go_simp; try with_reducible rfl)
    try simp only [Act.put, List.setIfInBounds_toArray, List.set_cons_zero, List.set_cons_succ]
    refine wpAnyH_take (i := 16) (oi := { dst := some 91, op := Op.pick (Operand.tmp 79) (Operand.tmp 90) (Operand.const (Value.bool false)), type := 4, pos := "outright.go:103", after := #[{ on := 4, ground := Ground.data }, { on := 15, ground := Ground.data }], guard := none }) (v := ?v46) rfl (by kernel_rfl) (by kernel_rfl) (by kernel_rfl) (fun _ _ _ h => h) (Or.inl ⟨by rfl, ?hy46⟩) (by assumption) ?rest46
    case hy46 => (intro w hSw; (try dsimp only at hSw); go_simp; try with_reducible rfl)
    try simp only [Act.put, List.setIfInBounds_toArray, List.set_cons_zero, List.set_cons_succ]
    refine wpAnyH_take (i := 17) (oi := { dst := some 92, op := Op.move (Operand.tmp 91), type := 4, pos := "outright.go:103", after := #[{ on := 16, ground := Ground.data }, { on := 14, ground := Ground.chain }], guard := none }) (v := ?v47) rfl (by kernel_rfl) (by kernel_rfl) (by kernel_rfl) (fun _ _ _ h => h) (Or.inl ⟨by rfl, ?hy47⟩) (by assumption) ?rest47
    case hy47 => (intro w hSw; (try dsimp only at hSw); go_simp; try with_reducible rfl)
    try simp only [Act.put, List.setIfInBounds_toArray, List.set_cons_zero, List.set_cons_succ]
    refine wpAnyH_take (i := 18) (oi := { dst := some 93, op := Op.load 24 (Operand.tmp 11), type := 24, pos := "outright.go:103", after := #[{ on := 17, ground := Ground.guard }], guard := some (17, true) }) (v := ?v48) rfl (by kernel_rfl) (by kernel_rfl) (by kernel_rfl) (fun _ _ _ h => h) (Or.inl ⟨by rfl, ?hy48⟩) (by assumption) ?rest48
    case hy48 => (intro w hSw; (try dsimp only at hSw); go_simp; try with_reducible rfl)
    try simp only [Act.put, List.setIfInBounds_toArray, List.set_cons_zero, List.set_cons_succ]
    refine wpAnyH_take (i := 19) (oi := { dst := some 94, op := Op.build 29 #[(0, Operand.tmp 93)], type := 29, pos := "outright.go:103", after := #[{ on := 18, ground := Ground.data }, { on := 17, ground := Ground.guard }], guard := some (17, true) }) (v := ?v49) rfl (by kernel_rfl) (by kernel_rfl) (by kernel_rfl) (fun _ _ _ h => h) (Or.inl ⟨by rfl, ?hy49⟩) (by assumption) ?rest49
    case hy49 => (intro w hSw; (try dsimp only at hSw); go_simp; try with_reducible rfl)
    try simp only [Act.put, List.setIfInBounds_toArray, List.set_cons_zero, List.set_cons_succ]
    refine wpAnyH_ready (rs := [20]) (by kernel_rfl) (by simp) ?_
    refine AllReadyH.cons (o := { dst := some 95, op := Op.call { callee := Callee.value (Operand.func 15), args := #[Operand.tmp 94], argTypes := #[29] }, type := 4, pos := "outright.go:103", after := #[{ on := 19, ground := Ground.data }, { on := 17, ground := Ground.chain }, { on := 17, ground := Ground.guard }], guard := some (17, true) }) rfl (fun K hK => ?_) AllReadyH.nil
    go_simp
    refine (Q3.out _).mono ?_
    rintro e v20 ⟨rfl, hb⟩
    replace tk := tk.on hb
    clear hb
    go_wp2_with fail
    clear hHeld
    refine hK.out _ _ (Rk.all tk) (fun hHeld => ?_)
    clear hK K
    try simp only [Act.put, List.setIfInBounds_toArray, List.set_cons_zero, List.set_cons_succ]
    refine wpAnyH_take (i := 21) (oi := { dst := some 96, op := Op.pick (Operand.tmp 92) (Operand.tmp 95) (Operand.const (Value.bool false)), type := 4, pos := "outright.go:103", after := #[{ on := 17, ground := Ground.data }, { on := 20, ground := Ground.data }], guard := none }) (v := ?v50) rfl (by kernel_rfl) (by kernel_rfl) (by kernel_rfl) (fun _ _ _ h => h) (Or.inl ⟨by rfl, ?hy50⟩) (by assumption) ?rest50
    case hy50 => (intro w hSw; (try dsimp only at hSw); go_simp; try with_reducible rfl)
    try simp only [Act.put, List.setIfInBounds_toArray, List.set_cons_zero, List.set_cons_succ]
    refine wpAnyH_take (i := 22) (oi := { dst := some 97, op := Op.move (Operand.tmp 96), type := 4, pos := "outright.go:103", after := #[{ on := 21, ground := Ground.data }, { on := 20, ground := Ground.chain }], guard := none }) (v := ?v51) rfl (by kernel_rfl) (by kernel_rfl) (by kernel_rfl) (fun _ _ _ h => h) (Or.inl ⟨by rfl, ?hy51⟩) (by assumption) ?rest51
    case hy51 => (intro w hSw; (try dsimp only at hSw); go_simp; try with_reducible rfl)
    try simp only [Act.put, List.setIfInBounds_toArray, List.set_cons_zero, List.set_cons_succ]
    refine wpAnyH_take (i := 23) (oi := { dst := some 98, op := Op.load 24 (Operand.tmp 11), type := 24, pos := "outright.go:103", after := #[{ on := 22, ground := Ground.guard }], guard := some (22, true) }) (v := ?v52) rfl (by kernel_rfl) (by kernel_rfl) (by kernel_rfl) (fun _ _ _ h => h) (Or.inl ⟨by rfl, ?hy52⟩) (by assumption) ?rest52
    case hy52 => (intro w hSw; (try dsimp only at hSw); go_simp; try with_reducible rfl)
    try simp only [Act.put, List.setIfInBounds_toArray, List.set_cons_zero, List.set_cons_succ]
    refine wpAnyH_take (i := 24) (oi := { dst := some 99, op := Op.move (Operand.tmp 2), type := 9, pos := "outright.go:103", after := #[{ on := 22, ground := Ground.guard }], guard := some (22, true) }) (v := ?v53) rfl (by kernel_rfl) (by kernel_rfl) (by kernel_rfl) (fun _ _ _ h => h) (Or.inl ⟨by rfl, ?hy53⟩) (by assumption) ?rest53
    case hy53 => (intro w hSw; (try dsimp only at hSw); go_simp; try with_reducible rfl)
    try simp only [Act.put, List.setIfInBounds_toArray, List.set_cons_zero, List.set_cons_succ]
    refine wpAnyH_take (i := 25) (oi := { dst := some 100, op := Op.build 29 #[(0, Operand.tmp 98), (1, Operand.tmp 99)], type := 29, pos := "outright.go:103", after := #[{ on := 23, ground := Ground.data }, { on := 24, ground := Ground.data }, { on := 22, ground := Ground.guard }], guard := some (22, true) }) (v := ?v54) rfl (by kernel_rfl) (by kernel_rfl) (by kernel_rfl) (fun _ _ _ h => h) (Or.inl ⟨by rfl, ?hy54⟩) (by assumption) ?rest54
    case hy54 => (intro w hSw; (try dsimp only at hSw); go_simp; try with_reducible rfl)
    try simp only [Act.put, List.setIfInBounds_toArray, List.set_cons_zero, List.set_cons_succ]
    refine wpAnyH_take (i := 27) (oi := { dst := some 102, op := Op.move (Operand.tmp 2), type := 9, pos := "outright.go:103", after := #[{ on := 22, ground := Ground.guard }], guard := some (22, true) }) (v := ?v55) rfl (by kernel_rfl) (by kernel_rfl) (by kernel_rfl) (fun _ _ _ h => h) (Or.inl ⟨by rfl, ?hy55⟩) (by assumption) ?rest55
    case hy55 => (intro w hSw; (try dsimp only at hSw); go_simp; try with_reducible rfl)
    try simp only [Act.put, List.setIfInBounds_toArray, List.set_cons_zero, List.set_cons_succ]
    refine wpAnyH_take (i := 28) (oi := { dst := some 103, op := Op.binOp BinOp.eql 9 (Operand.tmp 102) (Operand.const (Value.string { data := #[] })) 9, type := 4, pos := "outright.go:103", after := #[{ on := 27, ground := Ground.data }, { on := 22, ground := Ground.guard }], guard := some (22, true) }) (v := ?v56) rfl (by kernel_rfl) (by kernel_rfl) (by kernel_rfl) (fun _ _ _ h => h) (Or.inl ⟨by rfl, ?hy56⟩) (by assumption) ?rest56
    case hy56 => (intro w hSw; (try dsimp only at hSw); go_simp; try with_reducible rfl)
    try simp only [Act.put, List.setIfInBounds_toArray, List.set_cons_zero, List.set_cons_succ]
    refine wpAnyH_ready (rs := [26]) (by kernel_rfl) (by simp) ?_
    refine AllReadyH.cons (o := { dst := some 101, op := Op.call { callee := Callee.value (Operand.func 15), args := #[Operand.tmp 100], argTypes := #[29] }, type := 4, pos := "outright.go:103", after := #[{ on := 25, ground := Ground.data }, { on := 22, ground := Ground.chain }, { on := 22, ground := Ground.guard }], guard := some (22, true) }) rfl (fun K hK => ?_) AllReadyH.nil
    go_simp
    refine (Q4.out _).mono ?_
    rintro e v26 ⟨rfl, hb⟩
    replace tk := tk.on hb
    clear hb
    go_wp2_with fail
    clear hHeld
    refine hK.out _ _ (Rk.all tk) (fun hHeld => ?_)
    clear hK K
    try simp only [Act.put, List.setIfInBounds_toArray, List.set_cons_zero, List.set_cons_succ]
    refine wpAnyH_take (i := 29) (oi := { dst := some 104, op := Op.binOp BinOp.eql 4 (Operand.tmp 101) (Operand.tmp 103) 4, type := 4, pos := "outright.go:103", after := #[{ on := 26, ground := Ground.data }, { on := 28, ground := Ground.data }, { on := 22, ground := Ground.guard }], guard := some (22, true) }) (v := ?v57) rfl (by kernel_rfl) (by kernel_rfl) (by kernel_rfl) (fun _ _ _ h => h) (Or.inl ⟨by rfl, ?hy57⟩) (by assumption) ?rest57
    case hy57 => (intro w hSw; (try dsimp only at hSw); go_simp; try with_reducible rfl)
    try simp only [Act.put, List.setIfInBounds_toArray, List.set_cons_zero, List.set_cons_succ]
    refine wpAnyH_take (i := 30) (oi := { dst := some 105, op := Op.pick (Operand.tmp 97) (Operand.tmp 104) (Operand.const (Value.bool false)), type := 4, pos := "outright.go:103", after := #[{ on := 22, ground := Ground.data }, { on := 29, ground := Ground.data }], guard := none }) (v := ?v58) rfl (by kernel_rfl) (by kernel_rfl) (by kernel_rfl) (fun _ _ _ h => h) (Or.inl ⟨by rfl, ?hy58⟩) (by assumption) ?rest58
    case hy58 => (intro w hSw; (try dsimp only at hSw); go_simp; try with_reducible rfl)
    try simp only [Act.put, List.setIfInBounds_toArray, List.set_cons_zero, List.set_cons_succ]
    refine wpAnyH_take (i := 31) (oi := { dst := some 106, op := Op.move (Operand.tmp 105), type := 4, pos := "outright.go:103", after := #[{ on := 30, ground := Ground.data }, { on := 26, ground := Ground.chain }], guard := none }) (v := ?v59) rfl (by kernel_rfl) (by kernel_rfl) (by kernel_rfl) (fun _ _ _ h => h) (Or.inl ⟨by rfl, ?hy59⟩) (by assumption) ?rest59
    case hy59 => (intro w hSw; (try dsimp only at hSw); go_simp; try with_reducible rfl)
    try simp only [Act.put, List.setIfInBounds_toArray, List.set_cons_zero, List.set_cons_succ]
    refine wpAnyH_take (i := 32) (oi := { dst := some 107, op := Op.load 24 (Operand.tmp 8), type := 24, pos := "outright.go:103", after := #[{ on := 31, ground := Ground.guard }], guard := some (31, true) }) (v := ?v60) rfl (by kernel_rfl) (by kernel_rfl) (by kernel_rfl) (fun _ _ _ h => h) (Or.inl ⟨by rfl, ?hy60⟩) (by assumption) ?rest60
    case hy60 => (intro w hSw; (try dsimp only at hSw); go_simp; try with_reducible rfl)
    try simp only [Act.put, List.setIfInBounds_toArray, List.set_cons_zero, List.set_cons_succ]
    refine wpAnyH_take (i := 33) (oi := { dst := some 108, op := Op.build 29 #[(0, Operand.tmp 107)], type := 29, pos := "outright.go:103", after := #[{ on := 32, ground := Ground.data }, { on := 31, ground := Ground.guard }], guard := some (31, true) }) (v := ?v61) rfl (by kernel_rfl) (by kernel_rfl) (by kernel_rfl) (fun _ _ _ h => h) (Or.inl ⟨by rfl, ?hy61⟩) (by assumption) ?rest61
    case hy61 => (intro w hSw; (try dsimp only at hSw); go_simp; try with_reducible rfl)
    try simp only [Act.put, List.setIfInBounds_toArray, List.set_cons_zero, List.set_cons_succ]
    refine wpAnyH_ready (rs := [34]) (by kernel_rfl) (by simp) ?_
    refine AllReadyH.cons (o := { dst := some 109, op := Op.call { callee := Callee.value (Operand.func 15), args := #[Operand.tmp 108], argTypes := #[29] }, type := 4, pos := "outright.go:103", after := #[{ on := 33, ground := Ground.data }, { on := 31, ground := Ground.chain }, { on := 31, ground := Ground.guard }], guard := some (31, true) }) rfl (fun K hK => ?_) AllReadyH.nil
    go_simp
    refine (Q5.out _).mono ?_
    rintro e v34 ⟨rfl, hb⟩
    replace tk := tk.on hb
    clear hb
    go_wp2_with fail
    clear hHeld
    refine hK.out _ _ (Rk.all tk) (fun hHeld => ?_)
    clear hK K
    try simp only [Act.put, List.setIfInBounds_toArray, List.set_cons_zero, List.set_cons_succ]
    refine wpAnyH_take (i := 35) (oi := { dst := some 110, op := Op.unOp UnOp.not 4 (Operand.tmp 109), type := 4, pos := "outright.go:103", after := #[{ on := 34, ground := Ground.data }, { on := 31, ground := Ground.guard }], guard := some (31, true) }) (v := ?v62) rfl (by kernel_rfl) (by kernel_rfl) (by kernel_rfl) (fun _ _ _ h => h) (Or.inl ⟨by rfl, ?hy62⟩) (by assumption) ?rest62
    case hy62 => (intro w hSw; (try dsimp only at hSw); go_simp; try with_reducible rfl)
    try simp only [Act.put, List.setIfInBounds_toArray, List.set_cons_zero, List.set_cons_succ]
    refine wpAnyH_take (i := 36) (oi := { dst := some 111, op := Op.pick (Operand.tmp 106) (Operand.tmp 110) (Operand.const (Value.bool false)), type := 4, pos := "outright.go:103", after := #[{ on := 31, ground := Ground.data }, { on := 35, ground := Ground.data }], guard := none }) (v := ?v63) rfl (by kernel_rfl) (by kernel_rfl) (by kernel_rfl) (fun _ _ _ h => h) (Or.inl ⟨by rfl, ?hy63⟩) (by assumption) ?rest63
    case hy63 => (intro w hSw; (try dsimp only at hSw); go_simp; try with_reducible rfl)
    try simp only [Act.put, List.setIfInBounds_toArray, List.set_cons_zero, List.set_cons_succ]
    refine wpAnyH_take (i := 37) (oi := { dst := some 112, op := Op.move (Operand.tmp 111), type := 4, pos := "outright.go:103", after := #[{ on := 36, ground := Ground.data }, { on := 34, ground := Ground.chain }], guard := none }) (v := ?v64) rfl (by kernel_rfl) (by kernel_rfl) (by kernel_rfl) (fun _ _ _ h => h) (Or.inl ⟨by rfl, ?hy64⟩) (by assumption) ?rest64
    case hy64 => (intro w hSw; (try dsimp only at hSw); go_simp; try with_reducible rfl)
    try simp only [Act.put, List.setIfInBounds_toArray, List.set_cons_zero, List.set_cons_succ]
    refine wpAnyH_ready (rs := [38]) (by kernel_rfl) (by simp) ?_
    refine AllReadyH.cons (o := { dst := some 113, op := Op.call { callee := Callee.value (Operand.func 10), args := #[], argTypes := #[] }, type := 4, pos := "outright.go:103", after := #[{ on := 37, ground := Ground.chain }, { on := 37, ground := Ground.guard }], guard := some (37, true) }) rfl (fun K hK => ?_) AllReadyH.nil
    go_simp
    refine (awake3_c _).mono ?_
    rintro e v38 ⟨rfl, hb⟩
    replace tk := tk.on hb
    clear hb
    go_wp2_with fail
    clear hHeld
    refine hK.out _ _ (Rk.all tk) (fun hHeld => ?_)
    clear hK K
    try simp only [Act.put, List.setIfInBounds_toArray, List.set_cons_zero, List.set_cons_succ]
    refine wpAnyH_take (i := 39) (oi := { dst := some 114, op := Op.pick (Operand.tmp 112) (Operand.tmp 113) (Operand.const (Value.bool false)), type := 4, pos := "outright.go:103", after := #[{ on := 37, ground := Ground.data }, { on := 38, ground := Ground.data }], guard := none }) (v := ?v65) rfl (by kernel_rfl) (by kernel_rfl) (by kernel_rfl) (fun _ _ _ h => h) (Or.inl ⟨by rfl, ?hy65⟩) (by assumption) ?rest65
    case hy65 => (intro w hSw; (try dsimp only at hSw); go_simp; try with_reducible rfl)
    try simp only [Act.put, List.setIfInBounds_toArray, List.set_cons_zero, List.set_cons_succ]
    refine wpAnyH_take (i := 40) (oi := { dst := some 6, op := Op.assign (Operand.tmp 114), type := 4, pos := "outright.go:103", after := #[{ on := 39, ground := Ground.data }, { on := 38, ground := Ground.chain }, { on := 0, ground := Ground.phase }, { on := 1, ground := Ground.phase }, { on := 2, ground := Ground.phase }, { on := 3, ground := Ground.phase }, { on := 4, ground := Ground.phase }, { on := 5, ground := Ground.phase }, { on := 6, ground := Ground.phase }, { on := 7, ground := Ground.phase }, { on := 8, ground := Ground.phase }, { on := 9, ground := Ground.phase }, { on := 10, ground := Ground.phase }, { on := 11, ground := Ground.phase }, { on := 12, ground := Ground.phase }, { on := 13, ground := Ground.phase }, { on := 14, ground := Ground.phase }, { on := 15, ground := Ground.phase }, { on := 16, ground := Ground.phase }, { on := 17, ground := Ground.phase }, { on := 18, ground := Ground.phase }, { on := 19, ground := Ground.phase }, { on := 20, ground := Ground.phase }, { on := 21, ground := Ground.phase }, { on := 22, ground := Ground.phase }, { on := 23, ground := Ground.phase }, { on := 24, ground := Ground.phase }, { on := 25, ground := Ground.phase }, { on := 26, ground := Ground.phase }, { on := 27, ground := Ground.phase }, { on := 28, ground := Ground.phase }, { on := 29, ground := Ground.phase }, { on := 30, ground := Ground.phase }, { on := 31, ground := Ground.phase }, { on := 32, ground := Ground.phase }, { on := 33, ground := Ground.phase }, { on := 34, ground := Ground.phase }, { on := 35, ground := Ground.phase }, { on := 36, ground := Ground.phase }, { on := 37, ground := Ground.phase }, { on := 38, ground := Ground.phase }, { on := 39, ground := Ground.phase }], guard := none }) (v := ?v66) rfl (by kernel_rfl) (by kernel_rfl) (by kernel_rfl) (fun _ _ _ h => h) (Or.inl ⟨by rfl, ?hy66⟩) (by assumption) ?rest66
    case hy66 => (intro w hSw; (try dsimp only at hSw); go_simp; try with_reducible rfl)
    try simp only [Act.put, List.setIfInBounds_toArray, List.set_cons_zero, List.set_cons_succ]
    refine wpAnyH_done (by kernel_rfl) ?_ _
    refine NoPanic.normal ?_
    go_wp2_with fail
    go_ret
    exact ⟨rfl, tk.g⟩

set_option maxRecDepth 100000 in
theorem lifted (os : Os) (started : os.Started) (H : Type) (enc : TypeId × Value → H) :
    ReturnsInHanded {} Try.checked os 8 .any (Rows.ikeyRightSpec.pre6 enc Try.prog Try.f8 Rows.ikeyRightRow.domain false) (Rows.ikeyRightSpec.post enc Try.prog Try.f8 false true false false) := by
  refine returnsInHanded_of_change (C := Try.checked) own started (by kernel_rfl) Try.func8
    (ChangeSpec.witness6 (enc := enc) (C := Try.checked) false ⟨#[], #[.string ByteArray.empty, .int .u64 0, .string ByteArray.empty], []⟩ 8 (by kernel_rfl) (by kernel_rfl) (by kernel_rfl) (by kernel_rfl)) ?_
  intro W base args ds gs before hval0 hW hcnd _
  have hval : ∀ (j : Nat) t v, Try.f8.params[j]? = some t → args[j]? = some v → Value.okWide Try.prog W .any base t v := hval0
  have hW' := hW
  obtain ⟨p, q, hA0, hV, rfl, hfz, hnd⟩ := hW
  have hA : DataW.TrodAll enc Try.prog W 0 (fun _ => true) true Try.f8.params.toList args.toList ds p := hA0
  rw [Try.params8] at hA hval
  obtain ⟨v0, vs0, d0, ds0, p0, q0_, hargs, rfl, rfl, h0, r0_⟩ := trodAll_cons hA
  obtain ⟨v1, vs1, d1, ds1, p1, q1_, rfl, rfl, rfl, h1, r1_⟩ := trodAll_cons r0_
  obtain ⟨v2, vs2, d2, ds2, p2, q2_, rfl, rfl, rfl, h2, r2_⟩ := trodAll_cons r1_
  obtain ⟨rfl, rfl, rfl⟩ := trodAll_nil r2_
  obtain rfl : args = #[v0, v1, v2] := by cases args; simp_all
  obtain ⟨rfl, rfl⟩ := trodVars_none hV
  have kk0 := h0
  have lt0 : ∀ x ∈ p0, x.block < W.heap.size := by obtain ⟨m, hm⟩ := kk0; exact DataW.trod_lt m _ _ _ hm
  have kk1 := h1
  have lt1 : ∀ x ∈ p1, x.block < W.heap.size := by obtain ⟨m, hm⟩ := kk1; exact DataW.trod_lt m _ _ _ hm
  have kk2 := h2
  have lt2 : ∀ x ∈ p2, x.block < W.heap.size := by obtain ⟨m, hm⟩ := kk2; exact DataW.trod_lt m _ _ _ hm
  obtain ⟨a0, e0, _, _, w0⟩ := open_string Try.underlying9 (hval 0 _ v0 rfl rfl) h0
  subst e0
  obtain ⟨a1, e1, _, _, w1⟩ := open_int Try.underlying22 (hval 1 _ v1 rfl rfl) h1
  subst e1
  replace w1 := bounds_u64 w1
  obtain ⟨a1, rfl⟩ := Int.eq_ofNat_of_zero_le w1.1
  obtain ⟨a2, e2, _, _, w2⟩ := open_string Try.underlying9 (hval 2 _ v2 rfl rfl) h2
  subst e2
  clear hA0 hval0
  refine (walk a0 a1 a2 W w0 w1.2 w2).mono fun e W' ⟨he, bel⟩ => ?_
  subst he
  exact ⟨_, rfl, _, _, _, [], _, [], hW', trodAll_mk1 (shut_bool Try.underlying4 _), (trodAll_cons_mk (Below.trod laidOut (by kernel_rfl) (of_decide_eq_true (by kernel_rfl)) kk0 bel lt0) (trodAll_cons_mk (Below.trod laidOut (by kernel_rfl) (of_decide_eq_true (by kernel_rfl)) kk1 bel lt1) (trodAll_cons_mk (Below.trod laidOut (by kernel_rfl) (of_decide_eq_true (by kernel_rfl)) kk2 bel lt2) trodAll_mk0))), rfl, bel.frame _, fun h => by cases h⟩

theorem over : Rows.ikeyRightRow.holds Try.pinned (OpenSpec.ofChange Rows.ikeyRightSpec) :=
  OpenClaim.holds_of_wide 8 Try.f8 rfl rfl rfl rfl rfl rfl rfl ⟨rfl, rfl, rfl, rfl, rfl⟩ rfl rfl rfl rfl rfl (by kernel_rfl) Try.func8 (by kernel_rfl)
    (of_decide_eq_true (by kernel_rfl)) (by unfold Func.isWrapper; first | (rw [if_pos (by decide +kernel)]; kernel_rfl) | (rw [if_neg (by decide +kernel)]; exact ⟨rfl, rfl⟩))
    (fun os started H enc _ => lifted os started H enc)

/-- The statement. -/
theorem proved : Rows.IkeyRightSaid := over
#print axioms proved
end Go.Proofs.Ytobfdhnaejfehaa.ikeyRight
