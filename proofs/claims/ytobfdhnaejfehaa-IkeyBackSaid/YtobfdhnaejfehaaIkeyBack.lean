/-
  IkeyBack: what is put is taken, if it is right, and what is behind it stays; what is taken is right, and put as it stood; what is not right puts nothing. No condition.
-/
import Derived.Test.YtobfdhnaejfehaaRows
import Derived.Test.YtobfdhnaejfehaaIk6
import Derived.Test.YtobfdhnaejfehaaIkQ
import Derived.Test.YtobfdhnaejfehaaIkL
import Derived.WalkKit
import Derived.ProofKit
import Derived.OpenShut
import Derived.ShutString
import Derived.ChangeOld
import Derived.Below
namespace Go.Proofs.Ytobfdhnaejfehaa.ikeyBack
open Go.ChangeShapes Go.WideShapes Go.ChangeAt Go.RowKit
open Go.ChangeMaps (open_string shut_string)
set_option linter.unusedVariables false

theorem own : ownKnob Try.prog.godebug = none := by kernel_rfl
theorem laidOut : laidOutB Try.prog = true := by kernel_rfl

set_option maxRecDepth 100000 in
set_option maxHeartbeats 8000000 in
theorem walk (s0 : ByteArray) (q0 k0 : Nat) (A1 : Option Addr) (n1 c1 : Nat) (l1 : List UInt8) (A2 : Option Addr) (n2 c2 : Nat) (l2 : List UInt8) (w : World) (w0 : s0.size ≤ maxLen) (x0 : (q0 : Int) ≤ 18446744073709551615) (y0 : (k0 : Int) ≤ 255) (w1 : l1.length = n1) (r1 : Rd w w.heap.size A1 n1 c1 (bv l1)) (w2 : l2.length = n2) (r2 : Rd w w.heap.size A2 n2 c2 (bv l2)) :
    Calls Try.prog 6 #[ik s0 q0 k0, .slice A1 n1 c1, .slice A2 n2 c2] w fun e w' => e = .returned (.bool true) ∧ Below w.heap.size w w' := by
  have HP := Lib.hid (fun (W : World) (B n c : Nat) (A : Option Addr) (l : List UInt8) (h : Rd W B A n c (bv l)) (hB : B ≤ W.heap.size) (hn : n ≤ 70368744000000) => put3_c h hB hn s0 q0 k0)
  have HR := Lib.hid (fun W => right_c W s0 q0 k0)
  unfold ik at HP HR ⊢
  by_cases g1 : 70 < s0.size
  · have hd1 : decide ((70 : Int) < (s0.size : Int)) = true := by simp; omega
    have hd2 : decide (70 < s0.size) = true := by simp; omega
    clear HP HR w0 x0 y0 w1 w2 r1 r2
    go_enter Try.func6, Try.ntmps6
    go_wp2_with fail
    refine (awake3_c _).mono ?_
    rintro e w9 ⟨rfl, hb9⟩
    go_wp2_with fail
    go_ret
    exact ⟨rfl, box_one hb9⟩
  have hd1 : decide ((70 : Int) < (s0.size : Int)) = false := by simp; omega
  have hd2 : decide (70 < s0.size) = false := by simp; omega
  by_cases g2 : 100 < n1
  · have hd3 : decide ((100 : Int) < (n1 : Int)) = true := by simp; omega
    have hd4 : decide (100 < n1) = true := by simp; omega
    clear HP HR w0 x0 y0 w1 w2 r1 r2
    go_enter Try.func6, Try.ntmps6
    go_wp2_with fail
    refine (awake3_c _).mono ?_
    rintro e w9 ⟨rfl, hb9⟩
    go_wp2_with fail
    go_ret
    exact ⟨rfl, box_one hb9⟩
  have hd3 : decide ((100 : Int) < (n1 : Int)) = false := by simp; omega
  have hd4 : decide (100 < n1) = false := by simp; omega
  by_cases g3 : 200 < n2
  · have hd5 : decide ((200 : Int) < (n2 : Int)) = true := by simp; omega
    have hd6 : decide (200 < n2) = true := by simp; omega
    clear HP HR w0 x0 y0 w1 w2 r1 r2
    go_enter Try.func6, Try.ntmps6
    go_wp2_with fail
    refine (awake3_c _).mono ?_
    rintro e w9 ⟨rfl, hb9⟩
    go_wp2_with fail
    go_ret
    exact ⟨rfl, box_one hb9⟩
  have hd5 : decide ((200 : Int) < (n2 : Int)) = false := by simp; omega
  have hd6 : decide (200 < n2) = false := by simp; omega
  have i0 := IkAt.new w s0 q0 k0
  have hbx := below_alloc w (.cells #[.string s0, .int .u64 (q0 : Int), .int .u8 (k0 : Int)] 24)
  obtain ⟨a0, a1, a2⟩ := i0.cells
  clear w0 x0 y0 g1
  go_enter Try.func6, Try.ntmps6
  go_wp2_with fail
  refine (HP.out _ 0 0 0 none [] Rd.nilv (Nat.zero_le _) (by decide)).mono ?_
  rintro e w3 ⟨Ab, nb, cb, rfl, hfb, hb3⟩
  replace i0 := i0.below hb3 (Nat.le_refl _)
  replace hbx := bon hbx hb3
  clear a0 a1 a2 hb3
  obtain ⟨a0, a1, a2⟩ := i0.cells
  go_wp2_with fail
  refine (HR.out _).mono ?_
  rintro e w4 ⟨rfl, hb4⟩
  replace i0 := i0.below hb4 (Nat.le_refl _)
  replace hfb := hfb.below hb4
  replace hbx := bon hbx hb4
  clear a0 a1 a2 hb4
  obtain ⟨a0, a1, a2⟩ := i0.cells
  by_cases hr : rightB s0 q0 k0 = true
  case neg =>
    have hr : rightB s0 q0 k0 = false := by simpa using hr
    have hp : ∀ l, putL l s0 q0 k0 = l := fun l => if_neg (by rw [hr]; decide)
    rw [hr]
    rw [hp] at hfb
    have hnb : nb = 0 := by rw [← hfb.len]; rfl
    subst hnb
    have hq := HP.out w4 w.heap.size n1 c1 A1 l1 (r1.under hbx (Nat.le_refl _)) hbx.size (by omega)
    rw [hp] at hq
    have HQ := Lib.hid hq
    clear hq hp
    go_wp2_with fail
    refine HQ.out.mono ?_
    rintro e w5 ⟨A5, n5, c5, rfl, hf5, hb5⟩
    replace hbx := bon hbx hb5
    clear a0 a1 a2 hb5
    go_wp2_with fail
    refine (same_t (hf5.rd (Nat.le_refl _)) (r1.under hbx (Nat.le_refl _)) rfl).mono ?_
    rintro e w6 ⟨rfl, rfl⟩
    clear hf5 hfb
    go_wp2_with fail
    refine wp_loop_rounds 1 ?_
    rw [rounds_succ]
    have r2n := (r2.under hbx (Nat.le_refl _))
    go_wp2_with fail
    refine (take3_c (r2n.more hbx.size) (Nat.le_refl _) (by omega)).mono ?_
    intro e w7 hp
    obtain ⟨sy, qy, ky, ry, oky, Ay, ny, cy, hky, rfl, hfy, hby⟩ := hp.form
    clear hp
    replace hbx := bon hbx hby
    have iy := IkAt.new w7 sy qy ky
    replace hbx := blit hbx (.cells #[.string sy, .int .u64 (qy : Int), .int .u8 (ky : Int)] 24)
    replace hfy := hfy.alloc (.cells #[.string sy, .int .u64 (qy : Int), .int .u8 (ky : Int)] 24)
    clear hby
    by_cases hok : oky = true
    case neg =>
      have hok : oky = false := by simpa using hok
      subst hok
      obtain ⟨_, rfl, rfl, rfl, rfl⟩ := hky.no rfl
      have hny : ny = 0 := by rw [← hfy.len]; rfl
      subst hny
      have hE : ∀ W, (Op.equalIn 10000 24 (.agg #[.string ⟨#[]⟩, .int .u64 0, .int .u8 0]) (.agg #[.string ⟨#[]⟩, .int .u64 0, .int .u8 0])).run Try.prog W = .ok true W := fun W => run_eq_ik W ⟨#[]⟩ 0 0 ⟨#[]⟩ 0 0
      go_wp2_with fail
      refine (awake3_c _).mono ?_
      rintro e w9 ⟨rfl, hb9⟩
      go_wp2_with fail
      go_ret
      exact ⟨rfl, bon hbx hb9⟩
    subst hok
    obtain ⟨hry, hfo, hle⟩ := keyTake_back (hky.yes rfl)
    have hfl := formL_len hry
    have HRY := Lib.hid (fun W => right_c W sy qy ky)
    have HPY := Lib.hid (fun (W : World) (B n c : Nat) (A : Option Addr) (l : List UInt8) (h : Rd W B A n c (bv l)) (hB : B ≤ W.heap.size) (hn : n ≤ 70368744000000) => put3_c h hB hn sy qy ky)
    unfold ik at HRY HPY
    rw [hry] at HRY
    obtain ⟨b0, b1, b2⟩ := iy.cells
    have HNY := Lib.hid (show ny ≤ 200 by have := hfy.len; simp at this; omega)
    have HPP := Lib.hid (show putL [] sy qy ky = formL sy qy ky from if_pos hry)
    have HFL := Lib.hid hfl
    have HFO := Lib.hid hfo
    clear hky hle hfl hfo
    go_wp2_with fail
    refine (HRY.out _).mono ?_
    rintro e w8 ⟨rfl, hb8⟩
    replace iy := iy.below hb8 (Nat.le_refl _)
    replace hbx := bon hbx hb8
    replace hfy := hfy.below hb8
    have hs8 := hbx.size
    clear b0 b1 b2 hb8
    obtain ⟨b0, b1, b2⟩ := iy.cells
    go_wp2_with fail
    refine (HPY.out _ 0 0 0 none [] Rd.nilv (Nat.zero_le _) (by decide)).mono ?_
    rw [HPP.out]
    rintro e w10 ⟨Ap, np, cp, rfl, hfp, hbp⟩
    replace hbx := bon hbx hbp
    replace hfy := hfy.below hbp
    have r2m := (r2.under hbx (Nat.le_refl _))
    have HNP := Lib.hid (show np ≤ 90 by have := hfp.len; have := HFL.out; simp at *; omega)
    clear b0 b1 b2 iy r2n
    go_wp2_with (at_builtin; refine wpList_app_g rfl (.tmp 114) (.tmp 115) _ rfl Try.underlying26 info_u8 rfl rfl hfp rfl (hfy.rd (Nat.le_refl _)) (bv_one _) (by have := HNP.out; have := HNY.out; omega) (by have := HNP.out; have := HNY.out; omega) hbp.size ?_; intro A' c' w' hap)
    refine (same_t (by simpa only [bv_append] using hap.fr.rd (Nat.le_refl _)) (r2m.under hap.below hs8) HFO.out).mono ?_
    rintro e w9 ⟨rfl, rfl⟩
    go_wp2_with fail
    refine (awake3_c _).mono ?_
    rintro e w11 ⟨rfl, hb11⟩
    go_wp2_with fail
    go_ret
    exact ⟨rfl, bon (hbx.trans (hap.below.mono hs8)) hb11⟩
  have hp : ∀ l, putL l s0 q0 k0 = l ++ formL s0 q0 k0 := fun l => if_pos hr
  rw [hr]
  rw [hp, List.nil_append] at hfb
  have hfl := formL_len hr
  have hnb : (formL s0 q0 k0).length = nb := by simpa using hfb.len
  have HNB := Lib.hid hnb
  have HFL := Lib.hid hfl
  have HR0 := Lib.hid hr
  have hE : ∀ W, (Op.equalIn 10000 24 (.agg #[.string s0, .int .u64 (q0 : Int), .int .u8 (k0 : Int)]) (.agg #[.string s0, .int .u64 (q0 : Int), .int .u8 (k0 : Int)])).run Try.prog W = .ok true W := fun W => by rw [run_eq_ik]; simp [sameK]
  have hn90 : nb ≤ 90 := by omega
  have HN90 := Lib.hid hn90
  have hrb := (hfb.rd (Nat.le_refl _)).alloc (Nat.le_refl _) (.cells #[] 5)
  have hrl := (r1.under hbx (Nat.le_refl _)).alloc hbx.size (.cells #[] 5)
  have hsz := hbx.size
  clear HP hp hr hfl hnb
  go_wp2_with (at_builtin; first | (refine wpList_app rfl (.tmp 52) (.tmp 53) _ rfl Try.underlying26 info_u8 rfl rfl (Fr.new w4 5 #[] rfl (Nat.le_refl _) (Nat.zero_le _)) rfl hrb (bv_one _) (by omega) (by omega) (by simp) ?_; intro A5 c5 w5 hap; have hf5 : Fr w5 w4.heap.size 5 A5 nb c5 (bv (formL s0 q0 k0)) := (by simpa using hap.fr)) | (refine wpList_app rfl (.tmp 54) (.tmp 55) _ rfl Try.underlying26 info_u8 rfl rfl hf5 rfl (hrl.under hap.below hsz) (bv_one _) (by have := HN90.out; omega) (by have := HN90.out; omega) (by have := hap.below.size; simp at this; omega) ?_; intro A6 c6 w6 hap2))
  have hrd6 : Rd w6 w6.heap.size A6 (nb + n1) c6 (bv (formL s0 q0 k0 ++ l1)) := by rw [bv_append]; exact hap2.fr.rd (Nat.le_refl _)
  have b46 : Below w4.heap.size w4 w6 := ((below_alloc w4 _).trans hap.below).trans hap2.below
  replace hbx := bon hbx b46
  replace i0 := i0.below b46 (Nat.le_refl _)
  replace hfb := hfb.below b46
  have hnn : nb + n1 ≤ 70368744000000 := by omega
  clear a0 a1 a2 hap hap2 hf5 hrb hrl b46 hsz
  refine (take3_c hrd6 (Nat.le_refl _) hnn).mono ?_
  intro e w7 hp
  obtain ⟨sz, qz, kz, rz, okz, Az, nz, cz, hkz, rfl, hfz, hbz⟩ := hp.form
  clear hp hrd6 hnn
  have hok : okz = true := by
    cases okz with
    | true => rfl
    | false => have := (hkz.no rfl).1; rw [keyTake_form HR0.out] at this; cases this
  subst hok
  have hkq := hkz.yes rfl
  rw [keyTake_form HR0.out] at hkq
  simp only [Option.some.injEq, Prod.mk.injEq] at hkq
  obtain ⟨rfl, rfl, rfl, rfl⟩ := hkq
  replace hbx := bon hbx hbz
  replace i0 := (i0.below hbz (Nat.le_refl _)).alloc (.cells #[.string s0, .int .u64 (q0 : Int), .int .u8 (k0 : Int)] 24)
  replace hfb := (hfb.below hbz).alloc (.cells #[.string s0, .int .u64 (q0 : Int), .int .u8 (k0 : Int)] 24)
  have iy := IkAt.new w7 s0 q0 k0
  replace hbx := blit hbx (.cells #[.string s0, .int .u64 (q0 : Int), .int .u8 (k0 : Int)] 24)
  replace hfz := hfz.alloc (.cells #[.string s0, .int .u64 (q0 : Int), .int .u8 (k0 : Int)] 24)
  obtain ⟨a0, a1, a2⟩ := i0.cells
  obtain ⟨b0, b1, b2⟩ := iy.cells
  have r1n := r1.under hbx (Nat.le_refl _)
  clear hbz hkz
  go_wp2_with fail
  refine (same_t (hfz.rd (Nat.le_refl _)) r1n rfl).mono ?_
  rintro e w8 ⟨rfl, rfl⟩
  clear a0 a1 a2 b0 b1 b2 i0 iy hE r1n hfz
  go_wp2_with fail
  have hcb := (hfb.rd (Nat.le_refl _)).cap
  go_loopw [77] (fun iv wr => ∃ k : Nat, iv = .int .i64 (k : Int) ∧ k ≤ nb ∧ Below (w7.alloc (.cells #[.string s0, .int .u64 (q0 : Int), .int .u8 (k0 : Int)] 24)).heap.size (w7.alloc (.cells #[.string s0, .int .u64 (q0 : Int), .int .u8 (k0 : Int)] 24)) wr) (fun iv _ => ((nb : Int) - intOf iv).toNat)
  case atStart => exact ⟨0, rfl, by omega, Below.refl _ _⟩
  case round =>
    obtain ⟨k, rfl, hkn, hbr⟩ := hrel
    by_cases hlt : k < nb
    · have hfr := ((hfb.rd (Nat.le_refl _)).under hbr (Nat.le_refl _)).front (Nat.le_of_lt hlt)
      rw [bv_take] at hfr
      have hct := keyTake_cut HR0.out (i := k) (by rw [HNB.out]; exact hlt)
      have hki : (k : Int) < (nb : Int) := by omega
      have hk0 : (0 : Int) ≤ (k : Int) := by omega
      have hcap : k ≤ cb := by omega
      have hsl := fun W => run_slice_hi_gen (P := Try.prog) (n := nb) (A := Ab) 26 5 Try.underlying26 info_u8 .i64 (k := k) (c := cb) hcap W
      have HTK := Lib.hid (take3_c (hfr.more hbr.size) (Nat.le_refl _) (by omega))
      have HCT := Lib.hid hct
      clear hfr hct
      go_wp2_with fail
      refine HTK.out.mono ?_
      intro e w10 hp
      obtain ⟨sz, qz, kz, rz, okz, Az2, nz2, cz2, hkz, rfl, hfz2, hbz2⟩ := hp.form
      have hok : okz = false := by
        cases okz with
        | false => rfl
        | true => have := hkz.yes rfl; rw [HCT.out] at this; cases this
      subst hok
      have hnx := (hbr.trans (hbz2.mono hbr.size)).alloc (Nat.le_trans hbr.size hbz2.size) (.cells #[.string sz, .int .u64 (qz : Int), .int .u8 (kz : Int)] 24)
      clear hp hkz hfz2 hbz2
      go_wp2_with fail
      go_roundw
      case rel => exact ⟨k + 1, by simp, by omega, hnx⟩
      case measure => simp [intOf]; omega
    · have hki : ¬ (k : Int) < (nb : Int) := by omega
      replace hbx := bon hbx hbr
      clear hfb hbr
      have r2n := (r2.under hbx (Nat.le_refl _))
      go_wp2_with fail
      refine (take3_c (r2n.more hbx.size) (Nat.le_refl _) (by omega)).mono ?_
      intro e w7 hp
      obtain ⟨sy, qy, ky, ry, oky, Ay, ny, cy, hky, rfl, hfy, hby⟩ := hp.form
      clear hp
      replace hbx := bon hbx hby
      have iy := IkAt.new w7 sy qy ky
      replace hbx := blit hbx (.cells #[.string sy, .int .u64 (qy : Int), .int .u8 (ky : Int)] 24)
      replace hfy := hfy.alloc (.cells #[.string sy, .int .u64 (qy : Int), .int .u8 (ky : Int)] 24)
      clear hby
      by_cases hok : oky = true
      case neg =>
        have hok : oky = false := by simpa using hok
        subst hok
        obtain ⟨_, rfl, rfl, rfl, rfl⟩ := hky.no rfl
        have hny : ny = 0 := by rw [← hfy.len]; rfl
        subst hny
        have hE : ∀ W, (Op.equalIn 10000 24 (.agg #[.string ⟨#[]⟩, .int .u64 0, .int .u8 0]) (.agg #[.string ⟨#[]⟩, .int .u64 0, .int .u8 0])).run Try.prog W = .ok true W := fun W => run_eq_ik W ⟨#[]⟩ 0 0 ⟨#[]⟩ 0 0
        go_wp2_with fail
        refine (awake3_c _).mono ?_
        rintro e w9 ⟨rfl, hb9⟩
        go_wp2_with fail
        go_ret
        exact ⟨rfl, bon hbx hb9⟩
      subst hok
      obtain ⟨hry, hfo, hle⟩ := keyTake_back (hky.yes rfl)
      have hfl := formL_len hry
      have HRY := Lib.hid (fun W => right_c W sy qy ky)
      have HPY := Lib.hid (fun (W : World) (B n c : Nat) (A : Option Addr) (l : List UInt8) (h : Rd W B A n c (bv l)) (hB : B ≤ W.heap.size) (hn : n ≤ 70368744000000) => put3_c h hB hn sy qy ky)
      unfold ik at HRY HPY
      rw [hry] at HRY
      obtain ⟨b0, b1, b2⟩ := iy.cells
      have HNY := Lib.hid (show ny ≤ 200 by have := hfy.len; simp at this; omega)
      have HPP := Lib.hid (show putL [] sy qy ky = formL sy qy ky from if_pos hry)
      have HFL := Lib.hid hfl
      have HFO := Lib.hid hfo
      clear hky hle hfl hfo
      go_wp2_with fail
      refine (HRY.out _).mono ?_
      rintro e w8 ⟨rfl, hb8⟩
      replace iy := iy.below hb8 (Nat.le_refl _)
      replace hbx := bon hbx hb8
      replace hfy := hfy.below hb8
      have hs8 := hbx.size
      clear b0 b1 b2 hb8
      obtain ⟨b0, b1, b2⟩ := iy.cells
      go_wp2_with fail
      refine (HPY.out _ 0 0 0 none [] Rd.nilv (Nat.zero_le _) (by decide)).mono ?_
      rw [HPP.out]
      rintro e w10 ⟨Ap, np, cp, rfl, hfp, hbp⟩
      replace hbx := bon hbx hbp
      replace hfy := hfy.below hbp
      have r2m := (r2.under hbx (Nat.le_refl _))
      have HNP := Lib.hid (show np ≤ 90 by have := hfp.len; have := HFL.out; simp at *; omega)
      clear b0 b1 b2 iy r2n
      go_wp2_with (at_builtin; refine wpList_app_g rfl (.tmp 114) (.tmp 115) _ rfl Try.underlying26 info_u8 rfl rfl hfp rfl (hfy.rd (Nat.le_refl _)) (bv_one _) (by have := HNP.out; have := HNY.out; omega) (by have := HNP.out; have := HNY.out; omega) hbp.size ?_; intro A' c' w' hap)
      refine (same_t (by simpa only [bv_append] using hap.fr.rd (Nat.le_refl _)) (r2m.under hap.below hs8) HFO.out).mono ?_
      rintro e w9 ⟨rfl, rfl⟩
      go_wp2_with fail
      refine (awake3_c _).mono ?_
      rintro e w11 ⟨rfl, hb11⟩
      go_wp2_with fail
      go_ret
      exact ⟨rfl, bon (hbx.trans (hap.below.mono hs8)) hb11⟩

set_option maxRecDepth 100000 in
theorem lifted (os : Os) (started : os.Started) (H : Type) (enc : TypeId × Value → H) :
    ReturnsInHanded {} Try.checked os 6 .any (Rows.ikeyBackSpec.pre6 enc Try.prog Try.f6 Rows.ikeyBackRow.domain false) (Rows.ikeyBackSpec.post enc Try.prog Try.f6 false true false false) := by
  refine returnsInHanded_of_change (C := Try.checked) own started (by kernel_rfl) Try.func6
    (ChangeSpec.witness6 (enc := enc) (C := Try.checked) false ⟨#[], #[.agg #[.string ByteArray.empty, .int .u64 0, .int .u8 0], .slice none 0 0, .slice none 0 0], []⟩ 8 (by kernel_rfl) (by kernel_rfl) (by kernel_rfl) (by kernel_rfl)) ?_
  intro W base args ds gs before hval0 hW hcnd _
  have hval : ∀ (j : Nat) t v, Try.f6.params[j]? = some t → args[j]? = some v → Value.okWide Try.prog W .any base t v := hval0
  have hW' := hW
  obtain ⟨p, q, hA0, hV, rfl, hfz, hnd⟩ := hW
  have hA : DataW.TrodAll enc Try.prog W 0 (fun _ => true) true Try.f6.params.toList args.toList ds p := hA0
  rw [Try.params6] at hA hval
  obtain ⟨v0, vs0, d0, ds0, p0, q0_, hargs, rfl, rfl, h0, r0_⟩ := trodAll_cons hA
  obtain ⟨v1, vs1, d1, ds1, p1, q1_, rfl, rfl, rfl, h1, r1_⟩ := trodAll_cons r0_
  obtain ⟨v2, vs2, d2, ds2, p2, q2_, rfl, rfl, rfl, h2, r2_⟩ := trodAll_cons r1_
  obtain ⟨rfl, rfl, rfl⟩ := trodAll_nil r2_
  obtain rfl : args = #[v0, v1, v2] := by cases args; simp_all
  obtain ⟨rfl, rfl⟩ := trodVars_none hV
  have kk0 := h0
  have lt0 : ∀ x ∈ p0, x.block < W.heap.size := by obtain ⟨m, hm⟩ := kk0; exact DataW.trod_lt m _ _ _ hm
  have kk1 := h1
  have lt1 : ∀ x ∈ p1, x.block < W.heap.size := by obtain ⟨m, hm⟩ := kk1; exact DataW.trod_lt m _ _ _ hm
  have kk2 := h2
  have lt2 : ∀ x ∈ p2, x.block < W.heap.size := by obtain ⟨m, hm⟩ := kk2; exact DataW.trod_lt m _ _ _ hm
  obtain ⟨s0, q0, k0, e0, w0, x0, y0⟩ := open_ik (hval 0 _ v0 rfl rfl) h0
  subst e0
  obtain ⟨A1, n1, c1, l1, e1, w1, r1⟩ := open_bytes h1 (hval 1 _ v1 rfl rfl)
  subst e1
  obtain ⟨A2, n2, c2, l2, e2, w2, r2⟩ := open_bytes h2 (hval 2 _ v2 rfl rfl)
  subst e2
  clear hA0 hval0
  refine (walk s0 q0 k0 A1 n1 c1 l1 A2 n2 c2 l2 W w0 x0 y0 w1 r1 w2 r2).mono fun e W' ⟨he, bel⟩ => ?_
  subst he
  exact ⟨_, rfl, _, _, _, [], _, [], hW', trodAll_mk1 (shut_bool Try.underlying4 _), (trodAll_cons_mk (Below.trod laidOut (by kernel_rfl) (of_decide_eq_true (by kernel_rfl)) kk0 bel lt0) (trodAll_cons_mk (Below.trod laidOut (by kernel_rfl) (of_decide_eq_true (by kernel_rfl)) kk1 bel lt1) (trodAll_cons_mk (Below.trod laidOut (by kernel_rfl) (of_decide_eq_true (by kernel_rfl)) kk2 bel lt2) trodAll_mk0))), rfl, bel.frame _, fun h => by cases h⟩

theorem over : Rows.ikeyBackRow.holds Try.pinned (OpenSpec.ofChange Rows.ikeyBackSpec) :=
  OpenClaim.holds_of_wide 6 Try.f6 rfl rfl rfl rfl rfl rfl rfl ⟨rfl, rfl, rfl, rfl, rfl⟩ rfl rfl rfl rfl rfl (by kernel_rfl) Try.func6 (by kernel_rfl)
    (of_decide_eq_true (by kernel_rfl)) (by unfold Func.isWrapper; first | (rw [if_pos (by decide +kernel)]; kernel_rfl) | (rw [if_neg (by decide +kernel)]; exact ⟨rfl, rfl⟩))
    (fun os started H enc _ => lifted os started H enc)

/-- The statement. -/
theorem proved : Rows.IkeyBackSaid := over
#print axioms proved
end Go.Proofs.Ytobfdhnaejfehaa.ikeyBack
