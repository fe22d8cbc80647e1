/-
  Plain mathematics of frames in which some bits are turned, all within 32; a byte that is written over in a row of one's own.
-/
import Derived.Test.YtkdjjdkcogolmaaFrL
namespace Go.Proofs.Ytkdjjdkcogolmaa
set_option maxRecDepth 100000
open Go.RowKit

theorem xor_add {k x : Nat} (y : Nat) (h : x < 2 ^ k) : 2 ^ k * y + x = 2 ^ k * y ^^^ x := by
  rw [Nat.two_pow_add_eq_or_of_lt h]
  apply Nat.eq_of_testBit_eq
  intro i
  rw [Nat.testBit_or, Nat.testBit_xor, Nat.testBit_two_pow_mul]
  by_cases hi : k ≤ i
  · have : x.testBit i = false := Nat.testBit_lt_two_pow (Nat.lt_of_lt_of_le h (Nat.pow_le_pow_right (by decide) hi))
    simp [this]
  · simp [hi]

/-- Some bits have been turned: the bits of q, from the bit at0 behind the first four bytes on. -/
structure Bent (s : List UInt8) (at0 k : Nat) (l : List UInt8) (q : Nat) : Prop where
  len : l.length = s.length
  head : l.take 4 = s.take 4
  lt : q < 2 ^ k
  rg : reg (BitVec.allOnes 32) l = shN (8 * (s.length - 4) - at0) (BitVec.ofNat 32 q)

theorem Bent.start {s : List UInt8} (at0 : Nat) (h : reg (BitVec.allOnes 32) s = 0#32) : Bent s at0 0 s 0 := ⟨rfl, rfl, by decide, by rw [h]; exact (shN_zero _).symm⟩
theorem Bent.pass {s l : List UInt8} {at0 k q : Nat} (h : Bent s at0 k l q) : Bent s at0 (k + 1) l q := ⟨h.len, h.head, by have := h.lt; rw [Nat.pow_succ]; omega, h.rg⟩
theorem Bent.turn {s l : List UInt8} {at0 k q : Nat} (h : Bent s at0 k l q) (hk : k < 32) (hs : 8 ≤ s.length) (ha : at0 + k < 8 * (s.length - 4)) {c : UInt8} (hc : l[4 + (at0 + k) / 8]? = some c) :
    Bent s at0 (k + 1) (l.set (4 + (at0 + k) / 8) (c ^^^ byteOf (2 ^ ((at0 + k) % 8)))) (q + 2 ^ k) := by
  have hj : (at0 + k) % 8 < 8 := Nat.mod_lt _ (by decide)
  have hl := h.len
  have hlt := h.lt
  have hp : (2 : Nat) ^ ((at0 + k) % 8) < 256 := Nat.lt_of_le_of_lt (Nat.pow_le_pow_right (by decide) (show (at0 + k) % 8 ≤ 7 by omega)) (by decide)
  have hk32 : (2 : Nat) ^ k ≤ 2 ^ 31 := Nat.pow_le_pow_right (by decide) (by omega)
  refine ⟨by simpa using hl, ?_, by rw [Nat.pow_succ]; omega, ?_⟩
  · rw [List.take_set_of_le (by omega)]; exact h.head
  · rw [reg_set hc, h.rg]
    have e1 : bx (byteOf (2 ^ ((at0 + k) % 8))) = BitVec.ofNat 32 (2 ^ ((at0 + k) % 8)) := by unfold bx; rw [byteOf_toNat hp]
    have e2 : shN (8 * (l.length - (4 + (at0 + k) / 8))) (BitVec.ofNat 32 (2 ^ ((at0 + k) % 8))) = shN (8 * (s.length - 4) - at0 - k) 1#32 := by
      have : 8 * (l.length - (4 + (at0 + k) / 8)) = (at0 + k) % 8 + (8 * (s.length - 4) - at0 - k) := by omega
      rw [this, ← shN_add, shN_bit _ (by omega)]
    have e3 : shN (8 * (s.length - 4) - at0 - k) 1#32 = shN (8 * (s.length - 4) - at0) (BitVec.ofNat 32 (2 ^ k)) := by
      have : 8 * (s.length - 4) - at0 = k + (8 * (s.length - 4) - at0 - k) := by omega
      conv => rhs; rw [this]
      rw [← shN_add, shN_bit k hk]
    rw [e1, e2, e3, ← shN_xor]
    congr 1
    apply BitVec.eq_of_toNat_eq
    have hx := xor_add (k := k) 1 hlt
    rw [Nat.mul_one] at hx
    rw [BitVec.toNat_xor, BitVec.toNat_ofNat, BitVec.toNat_ofNat, BitVec.toNat_ofNat, Nat.mod_eq_of_lt (show q < 2 ^ 32 by omega), Nat.mod_eq_of_lt (show 2 ^ k < 2 ^ 32 by omega), Nat.mod_eq_of_lt (show q + 2 ^ k < 2 ^ 32 by omega), Nat.add_comm, hx, Nat.xor_comm]
/-- What is turned is none; what is not is taken. -/
theorem Bent.take {b l : List UInt8} {at0 q : Nat} (hb : b.length ≤ 1048576) (h : Bent (sealL b) at0 32 l q) : (q ≠ 0 → takeL l = none) ∧ (q = 0 → ∃ z, takeL l = some z) := by
  have hlt := h.lt
  have hN : lenL l = b.length := by
    unfold lenL
    rw [h.head]
    have := lenL_seal hb []
    rw [List.append_nil] at this
    exact this
  have hl : l.length = b.length + 8 := by rw [h.len, sealL_len]
  rw [takeL_reg hN hb hl, h.rg]
  constructor
  · intro hq
    rw [if_neg]
    intro h0
    have h1 := congrArg BitVec.toNat (shN_inj _ h0)
    rw [BitVec.toNat_ofNat, Nat.mod_eq_of_lt hlt] at h1
    exact hq (by simpa using h1)
  · rintro rfl
    exact ⟨_, by rw [if_pos (shN_zero _)]⟩

/-- A byte that is written over in a row of one's own. -/
theorem Fr.put {w : World} {b n c g : Nat} {l : List UInt8} (h : Fr w b 5 (some ⟨g, 0, none⟩) n c (bv l)) (i : Nat) (d : UInt8) : Fr (w.setCell ⟨g, i, none⟩ (b8 d)) b 5 (some ⟨g, 0, none⟩) n c (bv (l.set i d)) := by
  refine ⟨?_⟩
  have := (h.own.stored i (b8 d)).1
  rwa [show (bv l).set i (b8 d) = bv (l.set i d) by unfold bv; rw [List.map_set]] at this
theorem Fr.cellAt {w : World} {b n c g : Nat} {e : TypeId} {l : List UInt8} (h : Fr w b e (some ⟨g, 0, none⟩) n c (bv l)) {i : Nat} {d : UInt8} (hd : l[i]? = some d) : w.cell? ⟨g, i, none⟩ = some (.int .u8 (d.toNat : Int)) := by
  have h1 := h.own.cells (g := g) rfl i (b8 d) (by simp [bv, hd])
  rwa [show (⟨g, 0, none⟩ : Addr).add i = ⟨g, i, none⟩ by unfold Addr.add; split <;> simp_all] at h1
end Go.Proofs.Ytkdjjdkcogolmaa
