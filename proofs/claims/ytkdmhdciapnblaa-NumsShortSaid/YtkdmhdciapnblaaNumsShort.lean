/-
  NumsShort: a number has as many bytes as its bits need, greater ones as many or more, no form begins with another one, and cut short it says nothing. No condition.
-/
import Derived.Test.YtkdmhdciapnblaaRows
import Derived.Test.YtkdmhdciapnblaaAwake
import Derived.Test.YtkdmhdciapnblaaShort3
import Derived.WalkKit
import Derived.ProofKit
import Derived.OpenShut
import Derived.ShutString
import Derived.Below
namespace Go.Proofs.Ytkdmhdciapnblaa.numsShort
open Go.ChangeShapes Go.WideShapes Go.ChangeAt Go.RowKit
open Go.ChangeMaps (open_string shut_string)
set_option linter.unusedVariables false      -- a walk need not use every 'w<i>' (that an integer argument fits its kind)

theorem own : ownKnob Try.prog.godebug = none := by kernel_rfl

/-! ### STEP 1: THE WALK -/
set_option maxRecDepth 100000 in
set_option maxHeartbeats 8000000 in
theorem walk (a0 : Int) (a1 : Int) (w0 : (Lit.int .u64 a0).wf = true) (w1 : (Lit.int .u64 a1).wf = true) (w : World) :
    Calls Try.prog 5 #[.int .u64 a0, .int .u64 a1] w fun e w' => e = .returned (.bool true) ∧ Below w.heap.size w w' := by
  have b0 := bounds_u64 w0
  have b1 := bounds_u64 w1
  obtain ⟨x, rfl⟩ := Int.eq_ofNat_of_zero_le b0.1
  obtain ⟨y, rfl⟩ := Int.eq_ofNat_of_zero_le b1.1
  have hx : x < 2 ^ 64 := by omega
  have hy : y < 2 ^ 64 := by omega
  have hms : 1 + moreL 8 (x / 128) = (shortL x).length := moreL_start x
  have hx9 : x / 128 < 128 ^ (8 + 1) := by omega
  have g0 : Below w.heap.size w w := Below.refl _ _
  have hxi : (x : Int) ≤ 18446744073709551615 := b0.2
  have P1 : ∀ W, Calls Try.prog 16 #[.slice none 0 0, .int .u64 (x : Int)] W (RetB W (shortL x)) := fun W => by
    have := put_c (w := W) (B := 0) (l := []) Rd.nilv (Nat.zero_le _) (by omega) (x : Int) (by omega) hxi
    rwa [List.nil_append, Int.toNat_natCast] at this
  have P2 : ∀ W, Calls Try.prog 16 #[.slice none 0 0, .int .u64 (y : Int)] W (RetB W (shortL y)) := fun W => by
    have := put_c (w := W) (B := 0) (l := []) Rd.nilv (Nat.zero_le _) (by omega) (y : Int) (by omega) b1.2
    rwa [List.nil_append, Int.toNat_natCast] at this
  have HP1 := Lib.hid P1
  have HP2 := Lib.hid P2
  have HX := Lib.hid hx
  have HY := Lib.hid hy
  have HM := Lib.hid hms
  have HX9 := Lib.hid hx9
  clear w0 w1 b0 b1 hx hy hms hx9 P1 P2
  go_enter Try.func5, Try.ntmps5
  go_wp2_with fail
  refine (HP1.out _).mono ?_
  rintro e w1 ⟨A1, n1, c1, rfl, hf1, hb1⟩
  have g0 := bon g0 hb1
  have r1 := hf1.rd (Nat.le_refl _)
  go_wp2_with fail
  refine (HP2.out _).mono ?_
  rintro e w2 ⟨A2, n2, c2, rfl, hf2, hb2⟩
  have g0 := bon g0 hb2
  have ra := r1.now hb2
  have rb := hf2.rd (Nat.le_refl _)
  have HN1 := Lib.hid (show (shortL x).length = n1 by have := hf1.len; simpa using this)
  have HN2 := Lib.hid (show (shortL y).length = n2 by have := hf2.len; simpa using this)
  have HS := Lib.hid (show n1 ≤ 10 by have := HN1.out; have := shortL_len x; omega)
  have HS2 := Lib.hid (show n2 ≤ 10 by have := HN2.out; have := shortL_len y; omega)
  clear hf1 hf2 r1 hb1 hb2
  go_wp2_with fail
  go_loop [7, 8] (fun nv zv => ∃ m z f : Nat, nv = .int .i64 (m : Int) ∧ zv = .int .u64 (z : Int) ∧ m + moreL f z = n1 ∧ z < 128 ^ (f + 1) ∧ (z : Int) ≤ 18446744073709551615) (fun _ zv => (intOf zv).toNat)
  case atStart => exact ⟨1, x / 128, 8, rfl, by simp, by rw [HM.out, HN1.out], HX9.out, by omega⟩
  case round =>
    obtain ⟨m, z, f, rfl, rfl, hmz, hzf, hz64⟩ := hrel
    have HMZ := Lib.hid hmz
    have HZF := Lib.hid hzf
    have hm10 : (m : Int) ≤ 10 := by have := HS.out; omega
    clear hmz hzf
    by_cases hz : 0 < z
    · have hd1 : decide ((0 : Int) < (z : Int)) = true := by simp; omega
      have hd2 : decide (0 < z) = true := by simp; omega
      obtain ⟨hst1, hst2⟩ := moreL_step (by omega) HZF.out
      have HST1 := Lib.hid hst1
      have HST2 := Lib.hid hst2
      clear hst1 hst2
      go_wp2_with fail
      go_round
      case rel => exact ⟨m + 1, z / 128, f - 1, by simp, by simp, by have := HST1.out; have := HMZ.out; omega, HST2.out, by omega⟩
      case measure => simp [intOf]; omega
    · obtain rfl : z = 0 := by omega
      obtain rfl : m = n1 := by have := HMZ.out; simpa [moreL] using this
      have HRA := Lib.hid ra
      clear hm10 HMZ HZF hz64 hz
      rcases Nat.lt_trichotomy x y with hxy | hxy | hxy
      · have hmn : m ≤ n2 := by have := shortL_mono (Nat.le_of_lt hxy); rw [HN1.out, HN2.out] at this; exact this
        have q1 : decide ((x : Int) ≤ (y : Int)) = true := by simp; omega
        have q1n : decide (x ≤ y) = true := by simp; omega
        have q2 : decide ((n2 : Int) < (m : Int)) = false := by simp; omega
        have q2n : decide (n2 < m) = false := by simp; omega
        have q3 : ((x : Int) != (y : Int)) = true := by simp; omega
        have q4 : decide ((m : Int) ≤ (n2 : Int)) = true := by simp; omega
        have q4n : decide (m ≤ n2) = true := by simp; omega
        have hsl := fun W => run_slice_hi_gen (P := Try.prog) (n := n2) (A := A2) 22 5 Try.underlying22 info_u8 .i64 (k := m) (c := c2) (by have := rb.cap; omega) W
        have hfb := rb.front hmn
        rw [bv_take] at hfb
        have hne : ((shortL y).take m == shortL x) = false := by
          have := shortL_apart HX.out HY.out (show x ≠ y by omega)
          rw [HN1.out] at this
          simpa using this
        have HS0 := Lib.hid ((same_c hfb HRA.out).mono (R' := fun e w' => e = .returned (.bool false) ∧ w2 = w') (fun e w' ⟨h, hw⟩ => ⟨by rw [h, hne], hw⟩))
        clear hfb hne hxy hmn
        go_wp2_with fail
        refine HS0.out.mono ?_
        rintro e w' ⟨rfl, rfl⟩
        clear hsl HS0
        go_wp2_with fail
        go_loopw [63] (fun iv wr => ∃ k : Nat, iv = .int .i64 (k : Int) ∧ k ≤ m ∧ Below w.heap.size w wr ∧ Below w2.heap.size w2 wr) (fun iv _ => (m - intOf iv).toNat)
        case atStart => exact ⟨0, rfl, Nat.zero_le _, g0, Below.refl _ _⟩
        case round =>
          obtain ⟨k, rfl, hk, gr, gr2⟩ := hrel
          have hra := ra.under gr2 (Nat.le_refl _)
          have hcap := hra.cap
          by_cases hlt : k < m
          · have hd1 : decide ((k : Int) < (m : Int)) = true := by simp; omega
            have hd2 : decide (k < m) = true := by simp; omega
            obtain ⟨cc, hcc⟩ : ∃ cc, (shortL x)[k]? = some cc := ⟨_, List.getElem?_eq_getElem (by rw [HN1.out]; exact hlt)⟩
            have hcut := shortL_cut HX.out (i := k) (by rw [HN1.out]; exact hlt)
            have hat := shortL_at HX.out hcc
            rw [HN1.out] at hat
            have hfr := hra.front (Nat.le_of_lt hlt)
            rw [bv_take] at hfr
            have ht := (take_c hfr gr2.size (by have := HS.out; omega)).mono (R' := RetNB wr .u64 0 [] false) (fun _ _ hp => takePost_no hcut hp)
            have hsl := fun W => run_slice_hi_gen (P := Try.prog) (n := m) (A := A1) 22 5 Try.underlying22 info_u8 .i64 (k := k) (c := c1) (by omega) W
            have HT := Lib.hid ht
            have HC := Lib.hid hcc
            have HA := Lib.hid hat
            clear ht hcut hfr hcc hat
            go_wp2_with fail
            refine HT.out.mono ?_
            rintro e w4 ⟨A4, n4, c4, rfl, hf4, hb4⟩
            have hn4 : n4 = 0 := by rw [← hf4.len]; rfl
            subst hn4
            have gq := bon gr hb4
            have gq2 : Below w2.heap.size w2 w4 := gr2.trans (hb4.mono gr2.size)
            have hra4 := ra.under gq2 (Nat.le_refl _)
            obtain ⟨b, off, rfl, _, hcell⟩ := hra4.form (by omega)
            have hcell := hcell k (b8 cc) (by simp [bv, HC.out])
            unfold b8 at hcell
            have hcb : cc.toNat < 256 := cc.toNat_lt
            have hn1i : (m : Int) ≤ 10 := by have := HS.out; omega
            by_cases hhi : k < m - 1
            · have h127 : decide ((127 : Int) < (cc.toNat : Int)) = true := by have := HA.out; simp; omega
              have hki : decide ((k : Int) < (m : Int) - 1) = true := by simp; omega
              go_wp2_with fail
              go_roundw
              case rel => exact ⟨k + 1, by simp, by omega, gq, gq2⟩
              case measure => simp [intOf]; omega
            · have h127 : decide ((127 : Int) < (cc.toNat : Int)) = false := by have := HA.out; simp; omega
              have hki : decide ((k : Int) < (m : Int) - 1) = false := by simp; omega
              go_wp2_with fail
              go_roundw
              case rel => exact ⟨k + 1, by simp, by omega, gq, gq2⟩
              case measure => simp [intOf]; omega
          · have hd1 : decide ((k : Int) < (m : Int)) = false := by simp; omega
            have hd2 : decide (k < m) = false := by simp; omega
            go_wp2_with fail
            refine awake_c.mono ?_
            rintro e w9 ⟨rfl, hb9⟩
            go_wp2_with fail
            go_ret
            exact ⟨rfl, bon gr hb9⟩

      · have hmn : n2 = m := by rw [← HN1.out, ← HN2.out, hxy]
        have q1 : decide ((x : Int) ≤ (y : Int)) = true := by simp; omega
        have q1n : decide (x ≤ y) = true := by simp; omega
        have q2 : decide ((n2 : Int) < (m : Int)) = false := by simp; omega
        have q2n : decide (n2 < m) = false := by simp; omega
        have q3 : ((x : Int) != (y : Int)) = false := by simp; omega
        have q4 : decide ((m : Int) ≤ (n2 : Int)) = true := by simp; omega
        have q4n : decide (m ≤ n2) = true := by simp; omega
        clear hxy hmn
        go_wp2_with fail
        go_loopw [63] (fun iv wr => ∃ k : Nat, iv = .int .i64 (k : Int) ∧ k ≤ m ∧ Below w.heap.size w wr ∧ Below w2.heap.size w2 wr) (fun iv _ => (m - intOf iv).toNat)
        case atStart => exact ⟨0, rfl, Nat.zero_le _, g0, Below.refl _ _⟩
        case round =>
          obtain ⟨k, rfl, hk, gr, gr2⟩ := hrel
          have hra := ra.under gr2 (Nat.le_refl _)
          have hcap := hra.cap
          by_cases hlt : k < m
          · have hd1 : decide ((k : Int) < (m : Int)) = true := by simp; omega
            have hd2 : decide (k < m) = true := by simp; omega
            obtain ⟨cc, hcc⟩ : ∃ cc, (shortL x)[k]? = some cc := ⟨_, List.getElem?_eq_getElem (by rw [HN1.out]; exact hlt)⟩
            have hcut := shortL_cut HX.out (i := k) (by rw [HN1.out]; exact hlt)
            have hat := shortL_at HX.out hcc
            rw [HN1.out] at hat
            have hfr := hra.front (Nat.le_of_lt hlt)
            rw [bv_take] at hfr
            have ht := (take_c hfr gr2.size (by have := HS.out; omega)).mono (R' := RetNB wr .u64 0 [] false) (fun _ _ hp => takePost_no hcut hp)
            have hsl := fun W => run_slice_hi_gen (P := Try.prog) (n := m) (A := A1) 22 5 Try.underlying22 info_u8 .i64 (k := k) (c := c1) (by omega) W
            have HT := Lib.hid ht
            have HC := Lib.hid hcc
            have HA := Lib.hid hat
            clear ht hcut hfr hcc hat
            go_wp2_with fail
            refine HT.out.mono ?_
            rintro e w4 ⟨A4, n4, c4, rfl, hf4, hb4⟩
            have hn4 : n4 = 0 := by rw [← hf4.len]; rfl
            subst hn4
            have gq := bon gr hb4
            have gq2 : Below w2.heap.size w2 w4 := gr2.trans (hb4.mono gr2.size)
            have hra4 := ra.under gq2 (Nat.le_refl _)
            obtain ⟨b, off, rfl, _, hcell⟩ := hra4.form (by omega)
            have hcell := hcell k (b8 cc) (by simp [bv, HC.out])
            unfold b8 at hcell
            have hcb : cc.toNat < 256 := cc.toNat_lt
            have hn1i : (m : Int) ≤ 10 := by have := HS.out; omega
            by_cases hhi : k < m - 1
            · have h127 : decide ((127 : Int) < (cc.toNat : Int)) = true := by have := HA.out; simp; omega
              have hki : decide ((k : Int) < (m : Int) - 1) = true := by simp; omega
              go_wp2_with fail
              go_roundw
              case rel => exact ⟨k + 1, by simp, by omega, gq, gq2⟩
              case measure => simp [intOf]; omega
            · have h127 : decide ((127 : Int) < (cc.toNat : Int)) = false := by have := HA.out; simp; omega
              have hki : decide ((k : Int) < (m : Int) - 1) = false := by simp; omega
              go_wp2_with fail
              go_roundw
              case rel => exact ⟨k + 1, by simp, by omega, gq, gq2⟩
              case measure => simp [intOf]; omega
          · have hd1 : decide ((k : Int) < (m : Int)) = false := by simp; omega
            have hd2 : decide (k < m) = false := by simp; omega
            go_wp2_with fail
            refine awake_c.mono ?_
            rintro e w9 ⟨rfl, hb9⟩
            go_wp2_with fail
            go_ret
            exact ⟨rfl, bon gr hb9⟩

      · by_cases hmn : m ≤ n2
        · have q1 : decide ((x : Int) ≤ (y : Int)) = false := by simp; omega
          have q1n : decide (x ≤ y) = false := by simp; omega
          have q2 : decide ((n2 : Int) < (m : Int)) = false := by simp; omega
          have q2n : decide (n2 < m) = false := by simp; omega
          have q3 : ((x : Int) != (y : Int)) = true := by simp; omega
          have q4 : decide ((m : Int) ≤ (n2 : Int)) = true := by simp; omega
          have q4n : decide (m ≤ n2) = true := by simp; omega
          have hsl := fun W => run_slice_hi_gen (P := Try.prog) (n := n2) (A := A2) 22 5 Try.underlying22 info_u8 .i64 (k := m) (c := c2) (by have := rb.cap; omega) W
          have hfb := rb.front hmn
          rw [bv_take] at hfb
          have hne : ((shortL y).take m == shortL x) = false := by
            have := shortL_apart HX.out HY.out (show x ≠ y by omega)
            rw [HN1.out] at this
            simpa using this
          have HS0 := Lib.hid ((same_c hfb HRA.out).mono (R' := fun e w' => e = .returned (.bool false) ∧ w2 = w') (fun e w' ⟨h, hw⟩ => ⟨by rw [h, hne], hw⟩))
          clear hfb hne hxy hmn
          go_wp2_with fail
          refine HS0.out.mono ?_
          rintro e w' ⟨rfl, rfl⟩
          clear hsl HS0
          go_wp2_with fail
          go_loopw [63] (fun iv wr => ∃ k : Nat, iv = .int .i64 (k : Int) ∧ k ≤ m ∧ Below w.heap.size w wr ∧ Below w2.heap.size w2 wr) (fun iv _ => (m - intOf iv).toNat)
          case atStart => exact ⟨0, rfl, Nat.zero_le _, g0, Below.refl _ _⟩
          case round =>
            obtain ⟨k, rfl, hk, gr, gr2⟩ := hrel
            have hra := ra.under gr2 (Nat.le_refl _)
            have hcap := hra.cap
            by_cases hlt : k < m
            · have hd1 : decide ((k : Int) < (m : Int)) = true := by simp; omega
              have hd2 : decide (k < m) = true := by simp; omega
              obtain ⟨cc, hcc⟩ : ∃ cc, (shortL x)[k]? = some cc := ⟨_, List.getElem?_eq_getElem (by rw [HN1.out]; exact hlt)⟩
              have hcut := shortL_cut HX.out (i := k) (by rw [HN1.out]; exact hlt)
              have hat := shortL_at HX.out hcc
              rw [HN1.out] at hat
              have hfr := hra.front (Nat.le_of_lt hlt)
              rw [bv_take] at hfr
              have ht := (take_c hfr gr2.size (by have := HS.out; omega)).mono (R' := RetNB wr .u64 0 [] false) (fun _ _ hp => takePost_no hcut hp)
              have hsl := fun W => run_slice_hi_gen (P := Try.prog) (n := m) (A := A1) 22 5 Try.underlying22 info_u8 .i64 (k := k) (c := c1) (by omega) W
              have HT := Lib.hid ht
              have HC := Lib.hid hcc
              have HA := Lib.hid hat
              clear ht hcut hfr hcc hat
              go_wp2_with fail
              refine HT.out.mono ?_
              rintro e w4 ⟨A4, n4, c4, rfl, hf4, hb4⟩
              have hn4 : n4 = 0 := by rw [← hf4.len]; rfl
              subst hn4
              have gq := bon gr hb4
              have gq2 : Below w2.heap.size w2 w4 := gr2.trans (hb4.mono gr2.size)
              have hra4 := ra.under gq2 (Nat.le_refl _)
              obtain ⟨b, off, rfl, _, hcell⟩ := hra4.form (by omega)
              have hcell := hcell k (b8 cc) (by simp [bv, HC.out])
              unfold b8 at hcell
              have hcb : cc.toNat < 256 := cc.toNat_lt
              have hn1i : (m : Int) ≤ 10 := by have := HS.out; omega
              by_cases hhi : k < m - 1
              · have h127 : decide ((127 : Int) < (cc.toNat : Int)) = true := by have := HA.out; simp; omega
                have hki : decide ((k : Int) < (m : Int) - 1) = true := by simp; omega
                go_wp2_with fail
                go_roundw
                case rel => exact ⟨k + 1, by simp, by omega, gq, gq2⟩
                case measure => simp [intOf]; omega
              · have h127 : decide ((127 : Int) < (cc.toNat : Int)) = false := by have := HA.out; simp; omega
                have hki : decide ((k : Int) < (m : Int) - 1) = false := by simp; omega
                go_wp2_with fail
                go_roundw
                case rel => exact ⟨k + 1, by simp, by omega, gq, gq2⟩
                case measure => simp [intOf]; omega
            · have hd1 : decide ((k : Int) < (m : Int)) = false := by simp; omega
              have hd2 : decide (k < m) = false := by simp; omega
              go_wp2_with fail
              refine awake_c.mono ?_
              rintro e w9 ⟨rfl, hb9⟩
              go_wp2_with fail
              go_ret
              exact ⟨rfl, bon gr hb9⟩

        · have q1 : decide ((x : Int) ≤ (y : Int)) = false := by simp; omega
          have q1n : decide (x ≤ y) = false := by simp; omega
          have q2 : decide ((n2 : Int) < (m : Int)) = true := by simp; omega
          have q2n : decide (n2 < m) = true := by simp; omega
          have q3 : ((x : Int) != (y : Int)) = true := by simp; omega
          have q4 : decide ((m : Int) ≤ (n2 : Int)) = false := by simp; omega
          have q4n : decide (m ≤ n2) = false := by simp; omega
          clear hxy hmn
          go_wp2_with fail
          go_loopw [63] (fun iv wr => ∃ k : Nat, iv = .int .i64 (k : Int) ∧ k ≤ m ∧ Below w.heap.size w wr ∧ Below w2.heap.size w2 wr) (fun iv _ => (m - intOf iv).toNat)
          case atStart => exact ⟨0, rfl, Nat.zero_le _, g0, Below.refl _ _⟩
          case round =>
            obtain ⟨k, rfl, hk, gr, gr2⟩ := hrel
            have hra := ra.under gr2 (Nat.le_refl _)
            have hcap := hra.cap
            by_cases hlt : k < m
            · have hd1 : decide ((k : Int) < (m : Int)) = true := by simp; omega
              have hd2 : decide (k < m) = true := by simp; omega
              obtain ⟨cc, hcc⟩ : ∃ cc, (shortL x)[k]? = some cc := ⟨_, List.getElem?_eq_getElem (by rw [HN1.out]; exact hlt)⟩
              have hcut := shortL_cut HX.out (i := k) (by rw [HN1.out]; exact hlt)
              have hat := shortL_at HX.out hcc
              rw [HN1.out] at hat
              have hfr := hra.front (Nat.le_of_lt hlt)
              rw [bv_take] at hfr
              have ht := (take_c hfr gr2.size (by have := HS.out; omega)).mono (R' := RetNB wr .u64 0 [] false) (fun _ _ hp => takePost_no hcut hp)
              have hsl := fun W => run_slice_hi_gen (P := Try.prog) (n := m) (A := A1) 22 5 Try.underlying22 info_u8 .i64 (k := k) (c := c1) (by omega) W
              have HT := Lib.hid ht
              have HC := Lib.hid hcc
              have HA := Lib.hid hat
              clear ht hcut hfr hcc hat
              go_wp2_with fail
              refine HT.out.mono ?_
              rintro e w4 ⟨A4, n4, c4, rfl, hf4, hb4⟩
              have hn4 : n4 = 0 := by rw [← hf4.len]; rfl
              subst hn4
              have gq := bon gr hb4
              have gq2 : Below w2.heap.size w2 w4 := gr2.trans (hb4.mono gr2.size)
              have hra4 := ra.under gq2 (Nat.le_refl _)
              obtain ⟨b, off, rfl, _, hcell⟩ := hra4.form (by omega)
              have hcell := hcell k (b8 cc) (by simp [bv, HC.out])
              unfold b8 at hcell
              have hcb : cc.toNat < 256 := cc.toNat_lt
              have hn1i : (m : Int) ≤ 10 := by have := HS.out; omega
              by_cases hhi : k < m - 1
              · have h127 : decide ((127 : Int) < (cc.toNat : Int)) = true := by have := HA.out; simp; omega
                have hki : decide ((k : Int) < (m : Int) - 1) = true := by simp; omega
                go_wp2_with fail
                go_roundw
                case rel => exact ⟨k + 1, by simp, by omega, gq, gq2⟩
                case measure => simp [intOf]; omega
              · have h127 : decide ((127 : Int) < (cc.toNat : Int)) = false := by have := HA.out; simp; omega
                have hki : decide ((k : Int) < (m : Int) - 1) = false := by simp; omega
                go_wp2_with fail
                go_roundw
                case rel => exact ⟨k + 1, by simp, by omega, gq, gq2⟩
                case measure => simp [intOf]; omega
            · have hd1 : decide ((k : Int) < (m : Int)) = false := by simp; omega
              have hd2 : decide (k < m) = false := by simp; omega
              go_wp2_with fail
              refine awake_c.mono ?_
              rintro e w9 ⟨rfl, hb9⟩
              go_wp2_with fail
              go_ret
              exact ⟨rfl, bon gr hb9⟩


/-! ### THE ROW's STEP: WRITTEN OUT: LEAVE IT -/
set_option maxRecDepth 100000 in
theorem lifted (os : Os) (started : os.Started) (H : Type) (enc : TypeId × Value → H) :
    ReturnsInHanded {} Try.checked os 5 .any (Rows.numsShortSpec.pre6 enc Try.prog Try.f5 Rows.numsShortRow.domain false) (Rows.numsShortSpec.post enc Try.prog Try.f5 false true false false) := by
  refine returnsInHanded_of_change (C := Try.checked) own started (by kernel_rfl) Try.func5
    (ChangeSpec.witness6 (enc := enc) (C := Try.checked) false ⟨#[], #[.int .u64 0, .int .u64 0], []⟩ 8 (by kernel_rfl) (by kernel_rfl) (by kernel_rfl) (by kernel_rfl)) ?_
  intro W base args ds gs before hval0 hW hcnd _
  have hval : ∀ (j : Nat) t v, Try.f5.params[j]? = some t → args[j]? = some v → Value.okWide Try.prog W .any base t v := hval0
  have hW' := hW
  obtain ⟨p, q, hA0, hV, rfl, hfz, hnd⟩ := hW
  have hA : DataW.TrodAll enc Try.prog W 0 (fun _ => true) true Try.f5.params.toList args.toList ds p := hA0
  rw [Try.params5] at hA hval
  obtain ⟨v0, vs0, d0, ds0, p0, q0, hargs, rfl, rfl, h0, r0⟩ := trodAll_cons hA
  obtain ⟨v1, vs1, d1, ds1, p1, q1, rfl, rfl, rfl, h1, r1⟩ := trodAll_cons r0
  obtain ⟨rfl, rfl, rfl⟩ := trodAll_nil r1
  obtain rfl : args = #[v0, v1] := by cases args; simp_all
  obtain ⟨rfl, rfl⟩ := trodVars_none hV
  obtain ⟨a0, rfl, rfl, rfl, w0⟩ := open_int Try.underlying23 (hval 0 23 v0 rfl rfl) h0
  obtain ⟨a1, rfl, rfl, rfl, w1⟩ := open_int Try.underlying23 (hval 1 23 v1 rfl rfl) h1
  clear hA0 hval0
  refine (walk a0 a1 w0 w1 W).mono fun e W' ⟨he, bel⟩ => ?_
  subst he
  exact ⟨_, rfl, _, _, _, [], _, [], hW', trodAll_mk1 (shut_bool Try.underlying4 _), (trodAll_cons_mk (shut_int Try.underlying23 w0) (trodAll_cons_mk (shut_int Try.underlying23 w1) trodAll_mk0)), rfl, bel.frame _, fun h => by cases h⟩

theorem over : Rows.numsShortRow.holds Try.pinned (OpenSpec.ofChange Rows.numsShortSpec) :=
  OpenClaim.holds_of_wide 5 Try.f5 rfl rfl rfl rfl rfl rfl rfl ⟨rfl, rfl, rfl, rfl, rfl⟩ rfl rfl rfl rfl rfl (by kernel_rfl) Try.func5 (by kernel_rfl)
    (of_decide_eq_true (by kernel_rfl)) (by unfold Func.isWrapper; first | (rw [if_pos (by decide +kernel)]; kernel_rfl) | (rw [if_neg (by decide +kernel)]; exact ⟨rfl, rfl⟩))
    (fun os started H enc _ => lifted os started H enc)

/-- ████ THE STATEMENT ████ -/
theorem proved : Rows.NumsShortSaid :=
  over
#print axioms proved
end Go.Proofs.Ytkdmhdciapnblaa.numsShort
