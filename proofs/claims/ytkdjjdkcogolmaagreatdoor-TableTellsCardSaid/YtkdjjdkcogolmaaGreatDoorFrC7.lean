/-
  The texts FrC6, FrC7, in one.
-/
import Derived.Test.YtkdjjdkcogolmaaGreatDoorFrC5
import Derived.Deep.RegionWith
section
/-
  Contract: the program's Take; Seal of too much; what is taken, as mathematics.
-/
namespace Go.Proofs.YtkdjjdkcogolmaaGreatDoor
set_option maxRecDepth 100000
open Go.RowKit

/-- The number of bytes that a frame tells. -/
def lenL (l : List UInt8) : Nat := leV (l.take 4)
/-- What is within the frame that bytes begin with, and the rest. -/
def takeL (l : List UInt8) : Option (List UInt8 × List UInt8) :=
  if 4 ≤ l.length ∧ lenL l ≤ 1048576 ∧ lenL l + 8 ≤ l.length ∧ leV ((l.drop (lenL l + 4)).take 4) = (sumL (l.take (lenL l + 4))).toNat then some ((l.drop 4).take (lenL l), l.drop (lenL l + 8)) else none

def RetTk (w : World) (x y : List UInt8) (e : Ending) (w' : World) : Prop :=
  ∃ A1 n1 c1 A2 n2 c2, e = .returned (.tuple #[.slice A1 n1 c1, .slice A2 n2 c2, .int .i64 0]) ∧ Fr w' w.heap.size 5 A1 n1 c1 (bv x) ∧ Fr w' w.heap.size 5 A2 n2 c2 (bv y) ∧ Below w.heap.size w w'
def RetNo (w : World) (e : Ending) (w' : World) : Prop := e = .returned (.tuple #[.slice none 0 0, .slice none 0 0, .int .i64 50]) ∧ Below w.heap.size w w'
def TkPost (w : World) (l : List UInt8) (e : Ending) (w' : World) : Prop :=
  match takeL l with
  | some (x, y) => RetTk w x y e w'
  | none => RetNo w e w'
theorem TkPost.some {w : World} {l x y : List UInt8} {e : Ending} {w' : World} (h : takeL l = some (x, y)) (hp : RetTk w x y e w') : TkPost w l e w' := by
  simp only [TkPost, h]; exact hp
theorem TkPost.none {w : World} {l : List UInt8} {e : Ending} {w' : World} (h : takeL l = none) (hp : RetNo w e w') : TkPost w l e w' := by
  simp only [TkPost, h]; exact hp
theorem lenL_lt (l : List UInt8) : lenL l ≤ 4294967295 := by
  have := leV_lt (l.take 4)
  have h2 : 256 ^ (l.take 4).length ≤ 256 ^ 4 := Nat.pow_le_pow_right (by decide) (by simp; omega)
  unfold lenL
  omega
theorem leV4_lt (l : List UInt8) (k : Nat) : leV ((l.drop k).take 4) ≤ 4294967295 := lenL_lt (l.drop k)
theorem takeL_no {l : List UInt8} (h : ¬ (4 ≤ l.length ∧ lenL l ≤ 1048576 ∧ lenL l + 8 ≤ l.length ∧ leV ((l.drop (lenL l + 4)).take 4) = (sumL (l.take (lenL l + 4))).toNat)) : takeL l = none := if_neg h

set_option maxRecDepth 100000 in
set_option maxHeartbeats 1000000 in
theorem takeF_c {w : World} {B n c : Nat} {A : Option Addr} {l : List UInt8} (h : Rd w B A n c (bv l)) (hB : B ≤ w.heap.size) (hn : n ≤ 70368744177664) :
    Calls Tryz.prog 83 #[.slice A n c] w (TkPost w l) := by
  have hl : l.length = n := by simpa using h.len
  have h0 := fourAt_c h hB 0 (by omega)
  have hcap := h.cap
  have hni : (n : Int) ≤ 70368744177664 := by omega
  have H := Lib.hid h
  have HB := Lib.hid hB
  have HL := Lib.hid hl
  by_cases h4 : 4 ≤ l.length
  · have h0' := h0.mono (R' := fun e w' => e = .returned (.tuple #[.int .u32 (lenL l : Int), .bool true]) ∧ Below w.heap.size w w') (fun e w' hp => by
      obtain ⟨hb, ⟨_, he⟩ | ⟨h1, _⟩⟩ := hp
      · exact ⟨he, hb⟩
      · omega)
    obtain ⟨N, hN⟩ : ∃ N, lenL l = N := ⟨_, rfl⟩
    have hNl : N ≤ 4294967295 := by rw [← hN]; exact lenL_lt l
    have hNi : (N : Int) ≤ 4294967295 := by omega
    rw [hN] at h0'
    have H0 := Lib.hid h0'
    have HN := Lib.hid hN
    have H4 := Lib.hid h4
    clear h0 h0' h hl hB h4 hN
    by_cases hbig : 1048576 < N
    · have hd : decide ((1048576 : Int) < (N : Int)) = true := by simp; omega
      have hno : takeL l = none := takeL_no (by rw [HN.out]; omega)
      have HNO := Lib.hid hno
      clear hno hbig
      go_enter Tryz.func83, Tryz.ntmps83
      go_wp2_with fail
      refine H0.out.mono ?_
      rintro e w1 ⟨rfl, hb1⟩
      go_wp2
      go_ret3
      exact TkPost.none HNO.out ⟨rfl, hb1⟩
    · have hd : decide ((1048576 : Int) < (N : Int)) = false := by simp; omega
      have hNs : N ≤ 1048576 := by omega
      have hNsi : (N : Int) ≤ 1048576 := by omega
      have h1 : ∀ w1, Below w.heap.size w w1 → Calls Tryz.prog 109 #[.slice A n c, .int .i64 (4 + (N : Int))] w1 (RetAt w1 l (N + 4)) := fun w1 hb => by
        have := fourAt_c (H.out.under hb HB.out) (Nat.le_trans HB.out hb.size) (N + 4) (by omega)
        rwa [show ((N + 4 : Nat) : Int) = 4 + (N : Int) by omega] at this
      by_cases h8 : N + 8 ≤ l.length
      · obtain ⟨S, hS⟩ : ∃ S, leV ((l.drop (N + 4)).take 4) = S := ⟨_, rfl⟩
        have hSl : S ≤ 4294967295 := by rw [← hS]; exact leV4_lt l _
        have h1' : ∀ w1, Below w.heap.size w w1 → Calls Tryz.prog 109 #[.slice A n c, .int .i64 (4 + (N : Int))] w1 fun e w' => e = .returned (.tuple #[.int .u32 (S : Int), .bool true]) ∧ Below w1.heap.size w1 w' := fun w1 hb =>
          (h1 w1 hb).mono (fun e w' hp => by
            obtain ⟨hb, ⟨_, he⟩ | ⟨h1, _⟩⟩ := hp
            · rw [hS] at he; exact ⟨he, hb⟩
            · omega)
        have hsl := fun W => run_slice_hi_gen (P := Tryz.prog) (n := n) (A := A) 24 5 Tryz.underlying24 info_u8 .i64 (k := 4 + N) (c := c) (by have := HL.out; omega) W
        rw [show ((4 + N : Nat) : Int) = 4 + (N : Int) by omega] at hsl
        have hfr := H.out.front (k := 4 + N) (by have := HL.out; omega)
        rw [bv_take, Nat.add_comm 4 N] at hfr
        have h2 : ∀ w2, Below w.heap.size w w2 → Calls Tryz.prog 79 #[.slice A (4 + N) c] w2 (RetU w2 (sumL (l.take (N + 4)))) := fun w2 hb => by
          rw [Nat.add_comm 4 N]
          exact sum_c (hfr.under hb HB.out) (Nat.le_trans HB.out hb.size)
        have HS := Lib.hid hS
        have H1 := Lib.hid h1'
        have H2 := Lib.hid h2
        obtain ⟨T, hT⟩ : ∃ T, sumL (l.take (N + 4)) = T := ⟨_, rfl⟩
        rw [hT] at H2
        have HT := Lib.hid hT
        have H8 := Lib.hid h8
        have hTl := T.isLt
        clear h1 h1' h2 hS hfr hT h8 hbig
        by_cases hst : S = T.toNat
        · have hd2 : ((S : Int) != (T.toNat : Int)) = false := by simp; omega
          obtain ⟨A1, c1, hs1, hr1⟩ := H.out.slice_lohi (P := Tryz.prog) 24 5 Tryz.underlying24 info_u8 .i64 .i64 (i := 4) (k := 4 + N) (by omega) (by have := HL.out; have := H8.out; omega)
          obtain ⟨A2, hs2, hr2⟩ := H.out.slice_lo (P := Tryz.prog) 24 5 Tryz.underlying24 info_u8 .i64 (k := 4 + N + 4) (by have := HL.out; have := H8.out; omega)
          obtain ⟨m, hm⟩ : ∃ m, n - (4 + N + 4) = m := ⟨_, rfl⟩
          obtain ⟨c2, hc2⟩ : ∃ c2, c - (4 + N + 4) = c2 := ⟨_, rfl⟩
          rw [bv_drop, bv_take, show 4 + N - 4 = N by omega] at hr1
          rw [show 4 + N - 4 = N by omega, show ((4 + N : Nat) : Int) = 4 + (N : Int) by omega, show ((4 : Nat) : Int) = 4 from rfl] at hs1
          rw [bv_drop, hm, hc2, show 4 + N + 4 = N + 8 by omega] at hr2
          rw [hm, hc2, show ((4 + N + 4 : Nat) : Int) = 4 + (N : Int) + 4 by omega] at hs2
          have hC1 : ∀ W, Below w.heap.size w W → Calls Tryz.prog 99 #[.slice A1 N c1] W (RetB W ((l.drop 4).take N)) := fun W hb => clone_c (hr1.under hb HB.out) (Nat.le_trans HB.out hb.size) (by omega)
          have hC2 : ∀ W, Below w.heap.size w W → Calls Tryz.prog 99 #[.slice A2 m c2] W (RetB W (l.drop (N + 8))) := fun W hb => clone_c (hr2.under hb HB.out) (Nat.le_trans HB.out hb.size) (by omega)
          have hyes : takeL l = some ((l.drop 4).take N, l.drop (N + 8)) := by
            unfold takeL
            rw [HN.out, if_pos]
            refine ⟨H4.out, hNs, H8.out, ?_⟩
            rw [HT.out, HS.out]; exact hst
          have HC1 := Lib.hid hC1
          have HC2 := Lib.hid hC2
          have HY := Lib.hid hyes
          clear hyes hC1 hC2 hr1 hr2 hst hm hc2
          go_enter Tryz.func83, Tryz.ntmps83
          go_wp2_with fail
          refine H0.out.mono ?_
          rintro e w1 ⟨rfl, hb1⟩
          go_wp2_with fail
          refine (H1.out _ hb1).mono ?_
          rintro e w2 ⟨rfl, hb2⟩
          have hb2 := bon hb1 hb2
          go_wp2_with fail
          refine (H2.out _ hb2).mono ?_
          rintro e w3 ⟨rfl, hb3⟩
          have hb3 := bon hb2 hb3
          have hd3 := below_drewN hb3 1
          rw [show w3.drewN 1 = w3.drew from rfl] at hd3
          go_wp2_with fail
          have hw : IntKind.i64.wrap (4 + (N : Int) + 4) = 4 + (N : Int) + 4 := by simp only [IntKind.wrap, IntKind.bits, IntKind.signed]; simp; omega
          go_region_with (first
            | (go_at_call_of 99 A1; refine (HC1.out _ hd3).mono ?_; rintro e w4 ⟨A3, n3, c3, rfl, hf3, hb4⟩; have hb4' := bon hd3 hb4)
            | (go_at_call_of 99 A2; refine (HC2.out _ hb4').mono ?_; rintro e w5 ⟨A4, n4, c4, rfl, hf4, hb5⟩))
          all_goals go_wp2
          all_goals go_ret3
          all_goals exact TkPost.some HY.out ⟨_, _, _, _, _, _, rfl, (hf3.below hb5).mono hd3.size, hf4.mono hb4'.size, bon hb4' hb5⟩
        · have hd2 : ((S : Int) != (T.toNat : Int)) = true := by simp; omega
          have hno : takeL l = none := takeL_no (by rw [HN.out, HS.out, HT.out]; omega)
          have HNO := Lib.hid hno
          clear hno hst
          go_enter Tryz.func83, Tryz.ntmps83
          go_wp2_with fail
          refine H0.out.mono ?_
          rintro e w1 ⟨rfl, hb1⟩
          go_wp2_with fail
          refine (H1.out _ hb1).mono ?_
          rintro e w2 ⟨rfl, hb2⟩
          have hb2 := bon hb1 hb2
          go_wp2_with fail
          refine (H2.out _ hb2).mono ?_
          rintro e w3 ⟨rfl, hb3⟩
          have hb3 := bon hb2 hb3
          go_wp2
          go_ret3
          exact TkPost.none HNO.out ⟨rfl, hb3⟩
      · have h1' : ∀ w1, Below w.heap.size w w1 → Calls Tryz.prog 109 #[.slice A n c, .int .i64 (4 + (N : Int))] w1 fun e w' => e = .returned (.tuple #[.int .u32 0, .bool false]) ∧ Below w1.heap.size w1 w' := fun w1 hb =>
          (h1 w1 hb).mono (fun e w' hp => by
            obtain ⟨hb, ⟨h1, he⟩ | ⟨_, he⟩⟩ := hp
            · omega
            · exact ⟨he, hb⟩)
        have hno : takeL l = none := takeL_no (by rw [HN.out]; omega)
        have HNO := Lib.hid hno
        have H1 := Lib.hid h1'
        clear hno h1 h1' h8 hbig
        go_enter Tryz.func83, Tryz.ntmps83
        go_wp2_with fail
        refine H0.out.mono ?_
        rintro e w1 ⟨rfl, hb1⟩
        go_wp2_with fail
        refine (H1.out _ hb1).mono ?_
        rintro e w2 ⟨rfl, hb2⟩
        have hb2 := bon hb1 hb2
        go_wp2
        go_ret3
        exact TkPost.none HNO.out ⟨rfl, hb2⟩
  · have h0' := h0.mono (R' := fun e w' => e = .returned (.tuple #[.int .u32 0, .bool false]) ∧ Below w.heap.size w w') (fun e w' hp => by
      obtain ⟨hb, ⟨h1, he⟩ | ⟨_, he⟩⟩ := hp
      · omega
      · exact ⟨he, hb⟩)
    have H0 := Lib.hid h0'
    have hno : takeL l = none := takeL_no (by omega)
    have HNO := Lib.hid hno
    clear h0 h0' h hl hB h4 hno
    go_enter Tryz.func83, Tryz.ntmps83
    go_wp2_with fail
    refine H0.out.mono ?_
    rintro e w1 ⟨rfl, hb1⟩
    go_wp2
    go_ret3
    exact TkPost.none HNO.out ⟨rfl, hb1⟩

set_option maxRecDepth 100000 in
set_option maxHeartbeats 1000000 in
theorem seal_no {w : World} {n c : Nat} {A : Option Addr} (hn : (1048576 : Int) < (n : Int)) : Calls Tryz.prog 52 #[.slice A n c] w fun e w' => e = .returned (.slice none 0 0) ∧ w = w' := by
  have hd : decide ((1048576 : Int) < (n : Int)) = true := by simp; omega
  go_enter Tryz.func52, Tryz.ntmps52
  go_wp2
  go_ret
  exact ⟨rfl, rfl⟩
end Go.Proofs.YtkdjjdkcogolmaaGreatDoor
end

section
/-
  Contracts: the reference's Seal and Take.
-/
namespace Go.Proofs.YtkdjjdkcogolmaaGreatDoor
set_option maxRecDepth 100000
open Go.RowKit

set_option maxRecDepth 100000 in
set_option maxHeartbeats 1000000 in
theorem refSeal_c {w : World} {B n c : Nat} {A : Option Addr} {l : List UInt8} (h : Rd w B A n c (bv l)) (hB : B ≤ w.heap.size) (hn : n ≤ 1048576) :
    Calls Tryz.prog 29 #[.slice A n c] w (RetB w (sealL l)) := by
  have hl : l.length = n := by simpa using h.len
  have hd : decide ((1048576 : Int) < (n : Int)) = false := by simp; omega
  have hni : (n : Int) ≤ 1048576 := by omega
  have hp := refPutFour_c (w := w) (B := 0) (l := []) Rd.nilv (by omega) (n : Int) (by omega) (by omega)
  rw [List.nil_append, Int.toNat_natCast] at hp
  have H := Lib.hid h
  have HB := Lib.hid hB
  have HL := Lib.hid hl
  have HP := Lib.hid hp
  have HN := Lib.hid hn
  clear h hB hl hp hn
  go_enter Tryz.func29, Tryz.ntmps29
  go_wp2_with fail
  refine HP.out.mono ?_
  rintro e w1 ⟨A1, n1, c1, rfl, hf1, hb1⟩
  have hn1 : n1 = 4 := by rw [← hf1.len]; rfl
  subst hn1
  have hbs := hb1.size
  have hr1 := H.out.under hb1 HB.out
  go_wp2_with (at_builtin; refine wpList_app rfl (.tmp 10) (.tmp 11) _ rfl Tryz.underlying24 info_u8 rfl rfl hf1 rfl hr1 (bv_one _) (by have := HN.out; omega) (by have := HN.out; omega) hbs ?_; intro A2 c2 w2 hap)
  have hf2 := hap.fr
  rw [← bv_append] at hf2
  have hb2 := hb1.trans hap.below
  have hn2 : 4 + n ≤ 70368744177664 := by have := HN.out; omega
  have hhd : fourL n ++ l = headL l := by unfold headL; rw [HL.out]
  rw [hhd] at hf2
  have HF2 := Lib.hid hf2
  have HN2 := Lib.hid hn2
  have HB2 := Lib.hid hb2
  clear hap hn2 hb2 hf2 hr1 hb1 hf1 hbs hhd
  refine (refSum_c (HF2.out.rd (Nat.le_refl _))).mono ?_
  rintro e w3 ⟨rfl, rfl⟩
  have hp2 := refPutFour_c (w := w2) (HF2.out.rd (Nat.le_refl _)) HN2.out ((sumL (headL l)).toNat : Int) (by omega) (by have := (sumL (headL l)).isLt; omega)
  rw [Int.toNat_natCast] at hp2
  have HP2 := Lib.hid hp2
  clear hp2
  go_wp2_with fail
  refine HP2.out.mono ?_
  rintro e w4 ⟨A4, n4, c4, rfl, hf4, hb4⟩
  go_wp2
  go_ret
  exact ⟨A4, n4, c4, rfl, hf4.mono HB2.out.size, HB2.out.trans (hb4.mono HB2.out.size)⟩

set_option maxRecDepth 100000 in
set_option maxHeartbeats 1000000 in
theorem refTakeF_c {w : World} {B n c : Nat} {A : Option Addr} {l : List UInt8} (h : Rd w B A n c (bv l)) (hB : B ≤ w.heap.size) (hn : n ≤ 70368744177664) :
    Calls Tryz.prog 38 #[.slice A n c] w (TkPost w l) := by
  have hl : l.length = n := by simpa using h.len
  have hcap := h.cap
  have hni : (n : Int) ≤ 70368744177664 := by omega
  by_cases h4 : 4 ≤ l.length
  · have h0 := refTakeFour_c h hn h4
    obtain ⟨N, hN⟩ : ∃ N, lenL l = N := ⟨_, rfl⟩
    have hNl : N ≤ 4294967295 := by rw [← hN]; exact lenL_lt l
    have hNi : (N : Int) ≤ 4294967295 := by omega
    rw [show leV (l.take 4) = N from hN] at h0
    have H := Lib.hid h
    have HB := Lib.hid hB
    have HL := Lib.hid hl
    have H0 := Lib.hid h0
    have HN := Lib.hid hN
    have H4 := Lib.hid h4
    clear h0 h hl hB h4 hN
    by_cases hbig : 1048576 < N
    · have hd : decide ((1048576 : Int) < (N : Int)) = true := by simp; omega
      have hno : takeL l = none := takeL_no (by rw [HN.out]; omega)
      have HNO := Lib.hid hno
      clear hno hbig
      go_enter Tryz.func38, Tryz.ntmps38
      go_wp2_with fail
      refine H0.out.mono ?_
      rintro e w1 ⟨A1, n1, c1, rfl, hf1, hb1⟩
      go_wp2
      go_ret3
      exact TkPost.none HNO.out ⟨rfl, hb1⟩
    · have hd : decide ((1048576 : Int) < (N : Int)) = false := by simp; omega
      have hNs : N ≤ 1048576 := by omega
      have hNsi : (N : Int) ≤ 1048576 := by omega
      by_cases h8 : N + 8 ≤ l.length
      · obtain ⟨S, hS⟩ : ∃ S, leV ((l.drop (N + 4)).take 4) = S := ⟨_, rfl⟩
        have hSl : S ≤ 4294967295 := by rw [← hS]; exact leV4_lt l _
        obtain ⟨T, hT⟩ : ∃ T, sumL (l.take (N + 4)) = T := ⟨_, rfl⟩
        have HS := Lib.hid hS
        have HT := Lib.hid hT
        have H8 := Lib.hid h8
        have hTl := T.isLt
        have hsl := fun W => run_slice_hi_gen (P := Tryz.prog) (n := n) (A := A) 24 5 Tryz.underlying24 info_u8 .i64 (k := 4 + N) (c := c) (by have := HL.out; omega) W
        rw [show ((4 + N : Nat) : Int) = 4 + (N : Int) by omega] at hsl
        have hfr := H.out.front (k := 4 + N) (by have := HL.out; omega)
        rw [bv_take, Nat.add_comm 4 N] at hfr
        rw [Nat.add_comm 4 N] at hsl
        have hq : ∀ W, Below w.heap.size w W → Calls Tryz.prog 59 #[.slice A (N + 4) c] W fun e w' => e = .returned (.int .u32 (T.toNat : Int)) ∧ W = w' := fun W hb => by
          rw [← HT.out]; exact refSum_c (hfr.under hb HB.out)
        have HQ := Lib.hid hq
        clear hS hT h8 hbig hfr hq
        have main : ∀ b : Bool, ((S : Int) != (T.toNat : Int)) = b → (b = true → RetNo w = TkPost w l) → (b = false → RetTk w ((l.drop 4).take N) (l.drop (N + 8)) = TkPost w l) → Calls Tryz.prog 38 #[.slice A n c] w (TkPost w l) := by
          intro b hb kt kf
          have KT := Lib.hid kt
          have KF := Lib.hid kf
          clear kt kf
          go_enter Tryz.func38, Tryz.ntmps38
          go_wp2_with fail
          refine H0.out.mono ?_
          rintro e w1 ⟨A1, n1, c1, rfl, hf1, hb1⟩
          have hn1 : n1 + 4 = n := by
            have := hf1.len
            have h2 := HL.out
            have h3 := H4.out
            simp at this
            omega
          have hr1 := hf1.rd (Nat.le_refl _)
          have hc1 := hr1.cap
          have hdl : decide ((n1 : Int) < (N : Int) + 4) = false := by have := H8.out; have := HL.out; simp; omega
          have hdl2 : decide (n1 < N + 4) = false := by have := H8.out; have := HL.out; simp; omega
          have hNn : N ≤ n1 := by have := H8.out; have := HL.out; omega
          have hs1 := fun W => run_slice_hi_gen (P := Tryz.prog) (n := n1) (A := A1) 24 5 Tryz.underlying24 info_u8 .u32 (k := N) (c := c1) (by omega) W
          have hrf := hr1.front hNn
          rw [bv_take] at hrf
          obtain ⟨A2, hs2, hr2⟩ := hr1.slice_lo (P := Tryz.prog) 24 5 Tryz.underlying24 info_u8 .u32 (k := N) hNn
          rw [bv_drop, List.drop_drop, Nat.add_comm 4 N] at hr2
          obtain ⟨n2, hn2⟩ : ∃ n2, n1 - N = n2 := ⟨_, rfl⟩
          obtain ⟨c2, hc2⟩ : ∃ c2, c1 - N = c2 := ⟨_, rfl⟩
          rw [hn2, hc2] at hr2 hs2
          have h2 := refTakeFour_c hr2 (by omega) (by have := H8.out; simp; omega)
          rw [List.drop_drop, HS.out, show N + 4 + 4 = N + 8 by omega] at h2
          have H2 := Lib.hid h2
          have HRF := Lib.hid hrf
          have HNN := Lib.hid hNn
          have hn1i : (n1 : Int) ≤ 70368744177664 := by omega
          clear h2 hr2 hr1 hrf hn2 hc2 hf1
          go_wp2_with fail
          refine H2.out.mono ?_
          rintro e w2 ⟨A3, n3, c3, rfl, hf3, hb3⟩
          have hb3' := bon hb1 hb3
          have HB3 := Lib.hid hb3
          have HF3 := Lib.hid hf3
          clear hb3 hf3
          go_wp2_with fail
          refine (HQ.out _ hb3').mono ?_
          rintro e w' ⟨rfl, rfl⟩
          cases b with
          | true =>
            go_wp2
            go_ret3
            rw [← KT.out trivial]
            exact ⟨rfl, hb3'⟩
          | false =>
            have hr4 := (HRF.out.below HB3.out)
            go_wp2_with (at_builtin; refine wpList_app rfl (.tmp 52) (.tmp 53) _ rfl Tryz.underlying24 info_u8 rfl rfl Fr.nil rfl hr4 (bv_one _) (by omega) (by omega) (Nat.le_refl _) ?_; intro A5 c5 w5 hap)
            have hf5 := hap.fr
            rw [List.nil_append, Nat.zero_add] at hf5
            go_ret3
            rw [← KF.out trivial]
            exact ⟨_, _, _, _, _, _, rfl, hf5.mono hb3'.size, (HF3.out.mono hb1.size).below hap.below, bon hb3' hap.below⟩
        by_cases hst : S = T.toNat
        · have hyes : takeL l = some ((l.drop 4).take N, l.drop (N + 8)) := by
            unfold takeL
            rw [HN.out, if_pos]
            refine ⟨H4.out, hNs, H8.out, ?_⟩
            rw [HT.out, HS.out]; exact hst
          exact main false (by simp; omega) (fun h => by cases h) (fun _ => by funext e w'; simp only [TkPost, hyes])
        · have hno : takeL l = none := takeL_no (by rw [HN.out, HS.out, HT.out]; omega)
          exact main true (by simp; omega) (fun _ => by funext e w'; simp only [TkPost, hno]) (fun h => by cases h)
      · have hno : takeL l = none := takeL_no (by rw [HN.out]; omega)
        have HNO := Lib.hid hno
        have H8 := Lib.hid h8
        clear hno h8 hbig
        go_enter Tryz.func38, Tryz.ntmps38
        go_wp2_with fail
        refine H0.out.mono ?_
        rintro e w1 ⟨A1, n1, c1, rfl, hf1, hb1⟩
        have hn1 : n1 + 4 = n := by
          have := hf1.len
          have h2 := HL.out
          have h3 := H4.out
          simp at this
          omega
        have hdl : decide ((n1 : Int) < (N : Int) + 4) = true := by have := H8.out; have := HL.out; simp; omega
        have hdl2 : decide (n1 < N + 4) = true := by have := H8.out; have := HL.out; simp; omega
        have hn1i : (n1 : Int) ≤ 70368744177664 := by omega
        go_wp2
        go_ret3
        exact TkPost.none HNO.out ⟨rfl, hb1⟩
  · have h0 := refTakeFour_no h (by omega)
    have hno : takeL l = none := takeL_no (by omega)
    have HNO := Lib.hid hno
    have H0 := Lib.hid h0
    clear h0 h hl hB h4 hno
    go_enter Tryz.func38, Tryz.ntmps38
    go_wp2_with fail
    refine H0.out.mono ?_
    rintro e w1 ⟨A1, n1, c1, rfl, hf1, hb1⟩
    go_wp2
    go_ret3
    exact TkPost.none HNO.out ⟨rfl, hb1⟩
end Go.Proofs.YtkdjjdkcogolmaaGreatDoor
end
