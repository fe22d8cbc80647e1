/-
  Contracts: the program's fourAt and Seal; frames as mathematics.
-/
import Derived.Test.YtpligjdpofcbbaaFrC4
namespace Go.Proofs.Ytpligjdpofcbbaa
open Go.RowKit

theorem run_slice_lohi {P : Program} {n c : Nat} {A : Option Addr} (t e : TypeId) {z : Value} {by_ : Nat} (ht : P.underlying t = some (.slice e)) (hinf : (P.info? e).map (fun i => (i.zero, i.size, i.bytes)) = some (some z, 1, by_))
    (kl kh : IntKind) {i k : Nat} (hi : i ≤ k) (hk : k ≤ c) (W : World) :
    (Instr.slice t (.slice A n c) (some (.int kl (i : Int))) (some (.int kh (k : Int))) none).run P W = .ok (.slice (if c = i then A else A.map (·.add i)) (k - i) (c - i)) W := by
  obtain ⟨j, hj, hz0, hz1, hz2⟩ := info_parts hinf
  simp [Instr.slice, Instr.sliceBounds, run_underlying ht, run_sliceBound, hk, hi, sizeOf, typeInfo, hj, hz1]
/-- A part of a slice ('b[i:k]'). -/
theorem Rd.part {w : World} {B n c : Nat} {A : Option Addr} {xs : List Value} (h : Rd w B A n c xs) {i k : Nat} (hi : i ≤ k) (hk : k ≤ n) : Rd w B (if c = i then A else A.map (·.add i)) (k - i) (c - i) ((xs.drop i).take (k - i)) :=
  (h.back (k := i) (by omega)).front (by omega)

theorem Rd.slice_lohi {P : Program} {w : World} {B n c : Nat} {A : Option Addr} {xs : List Value} (h : Rd w B A n c xs) (t e : TypeId) {z : Value} {by_ : Nat} (ht : P.underlying t = some (.slice e)) (hinf : (P.info? e).map (fun i => (i.zero, i.size, i.bytes)) = some (some z, 1, by_))
    (kl kh : IntKind) {i k : Nat} (hi : i ≤ k) (hk : k ≤ n) :
    ∃ A' c', (∀ W, (Instr.slice t (.slice A n c) (some (.int kl (i : Int))) (some (.int kh (k : Int))) none).run P W = .ok (.slice A' (k - i) c') W) ∧ Rd w B A' (k - i) c' ((xs.drop i).take (k - i)) :=
  ⟨_, _, fun W => run_slice_lohi t e ht hinf kl kh hi (Nat.le_trans hk h.cap) W, h.part hi hk⟩

/-- The number at a place of bytes, and whether there is one. -/
def RetAt (w : World) (l : List UInt8) (at_ : Nat) (e : Ending) (w' : World) : Prop :=
  Below w.heap.size w w' ∧ ((at_ + 4 ≤ l.length ∧ e = .returned (.tuple #[.int .u32 (leV ((l.drop at_).take 4) : Int), .bool true])) ∨ (l.length < at_ + 4 ∧ e = .returned (.tuple #[.int .u32 0, .bool false])))

set_option maxRecDepth 100000 in
set_option maxHeartbeats 1000000 in
theorem fourAt_c {w : World} {B n c : Nat} {A : Option Addr} {l : List UInt8} (h : Rd w B A n c (bv l)) (hB : B ≤ w.heap.size) (at_ : Nat) (ha : at_ ≤ 4294967300) :
    Calls Try.prog 20 #[.slice A n c, .int .i64 (at_ : Int)] w (RetAt w l at_) := by
  have hl : l.length = n := by simpa using h.len
  have hmax := h.max
  have hcap := h.cap
  unfold maxLen at hmax
  have hni : (n : Int) ≤ 9223372036854775807 := by omega
  have hai : (at_ : Int) ≤ 4294967300 := by omega
  by_cases h4 : at_ + 4 ≤ n
  · obtain ⟨A1, c1, hs, hp⟩ := h.slice_lohi (P := Try.prog) 22 5 Try.underlying22 info_u8 .i64 .i64 (i := at_) (k := at_ + 4) (by omega) h4
    rw [bv_drop, bv_take, show at_ + 4 - at_ = 4 by omega] at hp
    rw [show at_ + 4 - at_ = 4 by omega, show ((at_ + 4 : Nat) : Int) = (at_ : Int) + 4 by omega] at hs
    have ht := takeFour_c hp hB (by decide) (by simp; omega)
    rw [List.take_take, Nat.min_self] at ht
    have hd : decide ((n : Int) < (at_ : Int) + 4) = false := by simp; omega
    have hfin : at_ + 4 ≤ l.length := by omega
    unfold RetAt
    generalize leV ((l.drop at_).take 4) = x at *
    have HT := Lib.hid ht
    have HF := Lib.hid hfin
    clear ht hp h hl hmax hfin h4 ha
    go_enter Try.func20, Try.ntmps20
    go_wp2_with fail
    refine HT.out.mono ?_
    rintro e w1 ⟨A1, n1, c1, rfl, hf1, hb1⟩
    go_wp2
    go_ret2
    exact ⟨hb1, .inl ⟨HF.out, rfl⟩⟩
  · have hd : decide ((n : Int) < (at_ : Int) + 4) = true := by simp; omega
    have hfin : l.length < at_ + 4 := by omega
    have HF := Lib.hid hfin
    clear h hl hmax hfin h4 ha
    go_enter Try.func20, Try.ntmps20
    go_wp2
    go_ret2
    exact ⟨Below.refl _ _, .inr ⟨HF.out, rfl⟩⟩

/-- A frame's first bytes: the length, and what is within. -/
def headL (b : List UInt8) : List UInt8 := fourL b.length ++ b
/-- A frame. -/
def sealL (b : List UInt8) : List UInt8 := headL b ++ fourL (sumL (headL b)).toNat

set_option maxRecDepth 100000 in
set_option maxHeartbeats 1000000 in
theorem seal_c {w : World} {B n c : Nat} {A : Option Addr} {l : List UInt8} (h : Rd w B A n c (bv l)) (hB : B ≤ w.heap.size) (hn : n ≤ 1048576) :
    Calls Try.prog 14 #[.slice A n c] w (RetB w (sealL l)) := by
  have hl : l.length = n := by simpa using h.len
  have hd : decide ((1048576 : Int) < (n : Int)) = false := by simp; omega
  have hni : (n : Int) ≤ 1048576 := by omega
  have hp := putFour_c (w := w) (B := 0) (l := []) Rd.nilv (Nat.zero_le _) (by omega) (n : Int) (by omega) (by omega)
  rw [List.nil_append, Int.toNat_natCast] at hp
  have H := Lib.hid h
  have HB := Lib.hid hB
  have HL := Lib.hid hl
  have HP := Lib.hid hp
  have HN := Lib.hid hn
  clear h hB hl hp hn
  go_enter Try.func14, Try.ntmps14
  go_wp2_with fail
  refine HP.out.mono ?_
  rintro e w1 ⟨A1, n1, c1, rfl, hf1, hb1⟩
  have hn1 : n1 = 4 := by rw [← hf1.len]; rfl
  subst hn1
  have hbs := hb1.size
  have hr1 := H.out.under hb1 HB.out
  go_wp2_with (at_builtin; refine wpList_app rfl (.tmp 10) (.tmp 11) _ rfl Try.underlying22 info_u8 rfl rfl hf1 rfl hr1 (bv_one _) (by have := HN.out; omega) (by have := HN.out; omega) hbs ?_; intro A2 c2 w2 hap)
  have hf2 := hap.fr
  rw [← bv_append] at hf2
  have hb2 := hb1.trans hap.below
  have hn2 : 4 + n ≤ 70368744177664 := by have := HN.out; omega
  have hhd : fourL n ++ l = headL l := by unfold headL; rw [HL.out]
  rw [hhd] at hf2
  have HF2 := Lib.hid hf2
  have HN2 := Lib.hid hn2
  have HB2 := Lib.hid hb2
  clear hap hn2 hb2 hf2 hr1 hb1 hf1 hbs hhd
  refine (sum_c (HF2.out.rd (Nat.le_refl _)) (Nat.le_refl _)).mono ?_
  rintro e w3 ⟨rfl, hb3⟩
  have hp2 := putFour_c (w := w3) ((HF2.out.rd (Nat.le_refl _)).under hb3 (Nat.le_refl _)) hb3.size HN2.out ((sumL (headL l)).toNat : Int) (by omega) (by have := (sumL (headL l)).isLt; omega)
  rw [Int.toNat_natCast] at hp2
  have HP2 := Lib.hid hp2
  have hb3' := HB2.out.trans (hb3.mono HB2.out.size)
  have HB3 := Lib.hid hb3'
  clear hp2 hb3 hb3'
  go_wp2_with fail
  refine HP2.out.mono ?_
  rintro e w4 ⟨A4, n4, c4, rfl, hf4, hb4⟩
  go_wp2
  go_ret
  exact ⟨A4, n4, c4, rfl, hf4.mono HB3.out.size, HB3.out.trans (hb4.mono HB3.out.size)⟩
end Go.Proofs.Ytpligjdpofcbbaa
