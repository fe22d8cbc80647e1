/-
  Contract: the reference's Sum, bit by bit.
-/
import Derived.Test.YtpligjdpofcbbaaFrC3
namespace Go.Proofs.Ytpligjdpofcbbaa
open Go.RowKit

/-- The reference's step within a byte. -/
structure BitAt (s : BitVec 32) (k : Nat) (r c : Nat) : Prop where
  lt : r < 4294967296
  clt : c < 2 ^ (8 - k)
  eq : shN (8 - k) (BitVec.ofNat 32 (r ^^^ c)) = s

theorem bit_next {s : BitVec 32} {k r c : Nat} (h : BitAt s k r c) (hk : k < 8) : BitAt s (k + 1) (if r % 2 = c % 2 then r / 2 else r / 2 ^^^ 3945912366) (c / 2) := by
  have h1 := h.lt
  have h2 := h.clt
  have h3 := h.eq
  have hp : (2 : Nat) ^ (8 - k) = 2 * 2 ^ (8 - (k + 1)) := by rw [show 8 - k = (8 - (k + 1)) + 1 by omega, Nat.pow_succ]; omega
  have hp8 : (2 : Nat) ^ (8 - k) ≤ 2 ^ 8 := Nat.pow_le_pow_right (by decide) (by omega)
  have hx : r ^^^ c < 2 ^ 32 := Nat.xor_lt_two_pow h1 (by omega)
  have hs : sh (BitVec.ofNat 32 (r ^^^ c)) = BitVec.ofNat 32 ((if r % 2 = c % 2 then r / 2 else r / 2 ^^^ 3945912366) ^^^ (c / 2)) := by
    apply BitVec.eq_of_toNat_eq
    have e2 : (r ^^^ c) / 2 = r / 2 ^^^ c / 2 := by
      have := Nat.shiftRight_xor_distrib (a := r) (b := c) (i := 1)
      simp only [Nat.shiftRight_eq_div_pow, Nat.pow_one] at this
      exact this
    have e1 : ((r ^^^ c) % 2 = 1) = ¬ (r % 2 = c % 2) := by
      have ha : r % 2 = 0 ∨ r % 2 = 1 := by omega
      have hb : c % 2 = 0 ∨ c % 2 = 1 := by omega
      rcases ha with ha | ha <;> rcases hb with hb | hb <;> simp [ha, hb]
    have hP : (3945912366 : Nat) < 2 ^ 32 := by decide
    rw [sh_toNat, BitVec.toNat_ofNat, BitVec.toNat_ofNat, Nat.mod_eq_of_lt hx, e2]
    by_cases h0 : r % 2 = c % 2
    · rw [if_neg (by rw [e1]; exact fun h => h h0), if_pos h0, Nat.mod_eq_of_lt]
      exact Nat.xor_lt_two_pow (by omega) (by omega)
    · rw [if_pos (by rw [e1]; exact h0), if_neg h0, Nat.mod_eq_of_lt]
      · ac_rfl
      · exact Nat.xor_lt_two_pow (Nat.xor_lt_two_pow (by omega) hP) (by omega)
  refine ⟨?_, ?_, ?_⟩
  · split
    · omega
    · exact Nat.xor_lt_two_pow (n := 32) (by omega) (by decide)
  · omega
  · rw [← hs, ← h3, show 8 - k = (8 - (k + 1)) + 1 by omega]
    rfl
theorem bit_first (r : BitVec 32) (c : UInt8) : BitAt (bstep r c) 0 r.toNat c.toNat := by
  have hr := r.isLt
  have hc := c.toNat_lt
  refine ⟨by omega, by omega, ?_⟩
  unfold bstep bx
  congr 1
  apply BitVec.eq_of_toNat_eq
  have : r.toNat ^^^ c.toNat < 2 ^ 32 := Nat.xor_lt_two_pow (by omega) (by omega)
  rw [BitVec.toNat_xor, BitVec.toNat_ofNat, BitVec.toNat_ofNat, Nat.mod_eq_of_lt this, Nat.mod_eq_of_lt (show c.toNat < 2 ^ 32 by omega)]
theorem bit_last {s : BitVec 32} {r c : Nat} (h : BitAt s 8 r c) : r = s.toNat := by
  have h1 := h.lt
  have h2 := h.clt
  have h3 := h.eq
  obtain rfl : c = 0 := by simpa using h2
  rw [← h3]
  simp [shN]
  omega

set_option maxRecDepth 100000 in
set_option maxHeartbeats 1000000 in
theorem refSum_c {w : World} {B n c : Nat} {A : Option Addr} {l : List UInt8} (h : Rd w B A n c (bv l)) :
    Calls Try.prog 12 #[.slice A n c] w fun e w' => e = .returned (.int .u32 ((sumL l).toNat : Int)) ∧ w = w' := by
  have hl : l.length = n := by simpa using h.len
  have hmax := h.max
  have hcap := h.cap
  unfold maxLen at hmax
  have hni : (n : Int) ≤ 9223372036854775807 := by omega
  have H := Lib.hid h
  have HL := Lib.hid hl
  clear h hl hmax
  go_enter Try.func12, Try.ntmps12
  go_wp2
  go_loop [3, 4] (fun r i => ∃ k : Nat, k ≤ n ∧ i = .int .i64 (k : Int) ∧ r = .int .u32 ((reg (BitVec.allOnes 32) (l.take k)).toNat : Int)) (fun _ i => (n - intOf i).toNat)
  case atStart => exact ⟨0, by omega, rfl, rfl⟩
  case round =>
    obtain ⟨k, hk, rfl, rfl⟩ := hrel
    by_cases hlt : k < n
    · have hd : decide ((k : Int) < (n : Int)) = true := by simp; omega
      have hd2 : decide (k < n) = true := by simp; omega
      obtain ⟨cc, hcc⟩ : ∃ cc, l[k]? = some cc := ⟨_, List.getElem?_eq_getElem (by rw [HL.out]; exact hlt)⟩
      obtain ⟨b, off, rfl, _, hcell⟩ := H.out.form (by omega)
      have hcell := hcell k (b8 cc) (by simp [bv, hcc])
      unfold b8 at hcell
      have hcb : cc.toNat < 256 := cc.toNat_lt
      obtain ⟨r, hr⟩ : ∃ r, reg (BitVec.allOnes 32) (l.take k) = r := ⟨_, rfl⟩
      have hnx : reg (BitVec.allOnes 32) (l.take (k + 1)) = bstep r cc := by rw [take_succ hcc, reg_snoc, hr]
      have hf := bit_first r cc
      have HN := Lib.hid hnx
      have HF := Lib.hid hf
      rw [hr]
      have hrl := r.isLt
      clear hnx hr hcc hf
      go_wp2
      go_loop [3, 5, 6] (fun rr cv j => ∃ (q a b : Nat), q ≤ 8 ∧ j = .int .i64 (q : Int) ∧ rr = .int .u32 (a : Int) ∧ cv = .int .u32 (b : Int) ∧ BitAt (bstep r cc) q a b) (fun _ _ j => (8 - intOf j).toNat)
      case atStart => exact ⟨0, _, _, by omega, rfl, rfl, rfl, HF.out⟩
      case round =>
        obtain ⟨q, a, b, hq, rfl, rfl, rfl, hb⟩ := hrel
        by_cases hq8 : q < 8
        · have hdq : decide ((q : Int) < 8) = true := by simp; omega
          have hnb := bit_next hb hq8
          have hal := hb.lt
          have hbl : b < 256 := by
            have h2 := hb.clt
            have hp8 : (2 : Nat) ^ (8 - q) ≤ 2 ^ 8 := Nat.pow_le_pow_right (by decide) (by omega)
            omega
          clear hb
          by_cases h0 : a % 2 = b % 2
          · have hdc : ((a : Int) % 2 != (b : Int) % 2) = false := by simp; omega
            rw [if_pos h0] at hnb
            clear h0
            go_wp2
            go_round
            case rel => exact ⟨q + 1, _, _, by omega, by simp, by simp, by simp, hnb⟩
            case measure => simp [intOf]; omega
          · have hdc : ((a : Int) % 2 != (b : Int) % 2) = true := by simp; omega
            rw [if_neg h0] at hnb
            have hx : bits .xor .u32 ((a : Int) / 2) 3945912366 = ((a / 2 ^^^ 3945912366 : Nat) : Int) := by
              rw [← u32_xor_nat _ _ (by omega) (by omega)]; rfl
            clear h0
            go_wp2
            go_round
            case rel => exact ⟨q + 1, _, _, by omega, by simp, rfl, by simp, hnb⟩
            case measure => simp [intOf]; omega
        · obtain rfl : q = 8 := by omega
          have hdq : decide (((8 : Nat) : Int) < 8) = false := by decide
          have hl := bit_last hb
          subst hl
          clear hb
          go_wp2
          go_round
          case rel => exact ⟨k + 1, by omega, by simp, by rw [HN.out]⟩
          case measure => simp [intOf]; omega
    · obtain rfl : k = n := by omega
      have hd : decide ((k : Int) < (k : Int)) = false := by simp
      have hd2 : decide (k < k) = false := by simp
      have hfin : reg (BitVec.allOnes 32) (l.take k) = sumL l := by rw [← HL.out, List.take_length]; rfl
      rw [hfin]
      clear hfin
      go_wp2
      go_ret
      exact ⟨rfl, rfl⟩
end Go.Proofs.Ytpligjdpofcbbaa
