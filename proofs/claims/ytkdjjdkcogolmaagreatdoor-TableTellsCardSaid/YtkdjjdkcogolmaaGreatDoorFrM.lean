/-
  The texts Fr1, FrH, FrM, in one.
-/
import Derived.Test.YtkdjjdkcogolmaaGreatDoorHelp
import Derived.Test.YtkdjjdkcogolmaaGreatDoorIter4
import Derived.Test.YtkdjjdkcogolmaaGreatDoorBack
import Derived.IntWalk
import Derived.Deep.QuietTactic
import Derived.BigQuiet
import Derived.LoopN
import Derived.Deep.RegionWith
import Derived.Lib.MinMax
import Derived.Laws.BitsAllLaws
section
/-
  What frame's texts lean on, where the seat has ikey's and nums' own texts: these.
-/
namespace Go.Proofs.YtkdjjdkcogolmaaGreatDoor
set_option maxRecDepth 100000
end Go.Proofs.YtkdjjdkcogolmaaGreatDoor
end

section
/-
  Words for walks through examples: batch's own.
-/
namespace Go.Proofs.YtkdjjdkcogolmaaGreatDoor
set_option maxRecDepth 100000
end Go.Proofs.YtkdjjdkcogolmaaGreatDoor
end

section
/-
  Plain mathematics of the check sum: a register of 32 bits, shifted bit by bit. No program is named here.
-/
namespace Go.Proofs.YtkdjjdkcogolmaaGreatDoor
set_option maxRecDepth 100000

/-- What the register is combined with. -/
def PL : BitVec 32 := 3945912366#32
/-- One bit that is 0. -/
def sh (r : BitVec 32) : BitVec 32 := (r >>> 1) ^^^ (if r.getLsbD 0 then PL else 0#32)
def shN : Nat → BitVec 32 → BitVec 32
  | 0, r => r
  | k + 1, r => shN k (sh r)

theorem sh_xor (a b : BitVec 32) : sh (a ^^^ b) = sh a ^^^ sh b := by
  unfold sh
  rw [BitVec.ushiftRight_xor_distrib, BitVec.getLsbD_xor]
  have key : ∀ x y p q : BitVec 32, x ^^^ y ^^^ (p ^^^ q) = x ^^^ p ^^^ (y ^^^ q) := fun x y p q => by ac_rfl
  cases a.getLsbD 0 <;> cases b.getLsbD 0 <;> simp
  · rw [BitVec.xor_assoc]
  · rw [BitVec.xor_assoc, BitVec.xor_assoc, BitVec.xor_comm PL]
  · have := key (a >>> 1) (b >>> 1) PL PL
    rw [BitVec.xor_self, BitVec.xor_zero] at this
    exact this
theorem sh_zero : sh 0#32 = 0#32 := by decide
theorem sh_inj {a : BitVec 32} (h : sh a = 0#32) : a = 0#32 := by
  unfold sh at h
  cases h0 : a.getLsbD 0 with
  | true =>
    rw [h0] at h
    have := congrArg (fun v => v.getLsbD 31) h
    simp [PL] at this
  | false =>
    rw [h0] at h
    simp at h
    apply BitVec.eq_of_getLsbD_eq
    intro i hi
    cases i with
    | zero => rw [h0]; rfl
    | succ i =>
      have := congrArg (fun v => v.getLsbD i) h
      simp [BitVec.getLsbD_ushiftRight] at this
      rw [Nat.add_comm] at this
      simp [this]
theorem shN_xor : ∀ (k : Nat) (a b : BitVec 32), shN k (a ^^^ b) = shN k a ^^^ shN k b
  | 0, _, _ => rfl
  | k + 1, a, b => by simp only [shN, sh_xor, shN_xor k]
theorem shN_zero : ∀ k, shN k 0#32 = 0#32
  | 0 => rfl
  | k + 1 => by simp only [shN, sh_zero, shN_zero k]
theorem shN_inj : ∀ (k : Nat) {a : BitVec 32}, shN k a = 0#32 → a = 0#32
  | 0, _, h => h
  | k + 1, _, h => sh_inj (shN_inj k h)
theorem shN_add : ∀ (i j : Nat) (a : BitVec 32), shN i (shN j a) = shN (j + i) a
  | i, 0, a => by simp [shN]
  | i, j + 1, a => by rw [show j + 1 + i = (j + i) + 1 by omega]; simp only [shN]; exact shN_add i j (sh a)
theorem shN_eq {k : Nat} {a b : BitVec 32} (h : shN k a = shN k b) : a = b := by
  have h1 : shN k (a ^^^ b) = 0#32 := by rw [shN_xor, h, BitVec.xor_self]
  have h2 := shN_inj k h1
  have h3 : a ^^^ b ^^^ b = 0#32 ^^^ b := by rw [h2]
  rwa [BitVec.xor_assoc, BitVec.xor_self, BitVec.xor_zero, BitVec.zero_xor] at h3
/-- A bit goes down to the lowest place. -/
theorem shN_bit : ∀ i < 32, shN i (BitVec.ofNat 32 (2 ^ i)) = 1#32 := by decide
theorem sh_two (y : Nat) (h : 2 * y < 4294967296) : sh (BitVec.ofNat 32 (2 * y)) = BitVec.ofNat 32 y := by
  have h0 : (BitVec.ofNat 32 (2 * y)).getLsbD 0 = false := by
    rw [BitVec.getLsbD_ofNat, Nat.testBit_zero]; simp
  unfold sh
  rw [h0]
  apply BitVec.eq_of_toNat_eq
  simp [Nat.shiftRight_eq_div_pow]
  omega
theorem shN_two : ∀ (k y : Nat), 2 ^ k * y < 4294967296 → shN k (BitVec.ofNat 32 (2 ^ k * y)) = BitVec.ofNat 32 y
  | 0, y, _ => by simp [shN]
  | k + 1, y, h => by
    have e : 2 ^ (k + 1) * y = 2 * (2 ^ k * y) := by rw [Nat.pow_succ]; ac_rfl
    rw [e] at h ⊢
    simp only [shN]
    rw [sh_two _ h]
    exact shN_two k y (by omega)
/-- A number is its lowest byte and what is above. -/
theorem split8 (x : Nat) (h : x < 4294967296) : BitVec.ofNat 32 x = BitVec.ofNat 32 (x % 256) ^^^ BitVec.ofNat 32 (2 ^ 8 * (x / 256)) := by
  have hx : x = 2 ^ 8 * (x / 256) + x % 256 := by omega
  have hor : 2 ^ 8 * (x / 256) + x % 256 = 2 ^ 8 * (x / 256) ||| x % 256 := Nat.two_pow_add_eq_or_of_lt (Nat.mod_lt _ (by decide)) _
  have hxor : 2 ^ 8 * (x / 256) ||| x % 256 = 2 ^ 8 * (x / 256) ^^^ x % 256 := by
    apply Nat.eq_of_testBit_eq
    intro i
    rw [Nat.testBit_or, Nat.testBit_xor, show x % 256 = x % 2 ^ 8 from rfl, Nat.testBit_mod_two_pow, Nat.testBit_two_pow_mul]
    by_cases hi : i < 8
    · simp [hi, show ¬ 8 ≤ i by omega]
    · simp [hi]
  apply BitVec.eq_of_toNat_eq
  rw [BitVec.toNat_xor, BitVec.toNat_ofNat, BitVec.toNat_ofNat, BitVec.toNat_ofNat, Nat.mod_eq_of_lt h, Nat.mod_eq_of_lt (show x % 256 < 2 ^ 32 by omega), Nat.mod_eq_of_lt (show 2 ^ 8 * (x / 256) < 2 ^ 32 by omega), Nat.xor_comm, ← hxor, ← hor]
  exact hx
theorem shN8 (x : Nat) (h : x < 4294967296) : shN 8 (BitVec.ofNat 32 x) = shN 8 (BitVec.ofNat 32 (x % 256)) ^^^ BitVec.ofNat 32 (x / 256) := by
  conv => lhs; rw [split8 x h]
  rw [shN_xor, shN_two 8 (x / 256) (by omega)]

/-- A byte as a register. -/
def bx (c : UInt8) : BitVec 32 := BitVec.ofNat 32 c.toNat
theorem bx_xor (c d : UInt8) : bx (c ^^^ d) = bx c ^^^ bx d := by
  unfold bx
  apply BitVec.eq_of_toNat_eq
  have hc := c.toNat_lt
  have hd := d.toNat_lt
  have : (c ^^^ d).toNat < 256 := (c ^^^ d).toNat_lt
  rw [BitVec.toNat_xor, BitVec.toNat_ofNat, BitVec.toNat_ofNat, BitVec.toNat_ofNat, Nat.mod_eq_of_lt (by omega), Nat.mod_eq_of_lt (by omega), Nat.mod_eq_of_lt (by omega), UInt8.toNat_xor]
/-- The register behind one byte. -/
def bstep (r : BitVec 32) (c : UInt8) : BitVec 32 := shN 8 (r ^^^ bx c)
/-- The register behind bytes. -/
def reg (r : BitVec 32) (l : List UInt8) : BitVec 32 := l.foldl bstep r
/-- The check sum. -/
def sumL (l : List UInt8) : BitVec 32 := reg (BitVec.allOnes 32) l
/-- What a byte contributes. -/
def tabB (c : Nat) : BitVec 32 := shN 8 (BitVec.ofNat 32 c)

theorem reg_nil (r : BitVec 32) : reg r [] = r := rfl
theorem reg_cons (r : BitVec 32) (c : UInt8) (l : List UInt8) : reg r (c :: l) = reg (bstep r c) l := rfl
theorem reg_append (r : BitVec 32) (a b : List UInt8) : reg r (a ++ b) = reg (reg r a) b := List.foldl_append
theorem reg_snoc (r : BitVec 32) (a : List UInt8) (c : UInt8) : reg r (a ++ [c]) = bstep (reg r a) c := by rw [reg_append]; rfl
theorem reg_xor : ∀ (l : List UInt8) (r q : BitVec 32), reg (r ^^^ q) l = reg r l ^^^ shN (8 * l.length) q
  | [], r, q => rfl
  | c :: l, r, q => by
    have e : bstep (r ^^^ q) c = bstep r c ^^^ shN 8 q := by
      unfold bstep
      rw [← shN_xor]
      congr 1
      ac_rfl
    rw [reg_cons, reg_cons, e, reg_xor l, shN_add]
    congr 2
    simp; omega
/-- The program's step: a byte at a time. -/
theorem bstep_tab (r : BitVec 32) (c : UInt8) : bstep r c = BitVec.ofNat 32 (r.toNat / 256) ^^^ tabB (r.toNat % 256 ^^^ c.toNat) := by
  have hr := r.isLt
  have hc := c.toNat_lt
  have e : r = BitVec.ofNat 32 r.toNat := by simp
  have e1 : BitVec.ofNat 32 (r.toNat % 256 ^^^ c.toNat) = BitVec.ofNat 32 (r.toNat % 256) ^^^ bx c := by
    unfold bx
    apply BitVec.eq_of_toNat_eq
    have : r.toNat % 256 ^^^ c.toNat < 2 ^ 8 := Nat.xor_lt_two_pow (by omega) (by omega)
    rw [BitVec.toNat_xor, BitVec.toNat_ofNat, BitVec.toNat_ofNat, BitVec.toNat_ofNat, Nat.mod_eq_of_lt (show r.toNat % 256 ^^^ c.toNat < 2 ^ 32 by omega), Nat.mod_eq_of_lt (show r.toNat % 256 < 2 ^ 32 by omega), Nat.mod_eq_of_lt (show c.toNat < 2 ^ 32 by omega)]
  unfold bstep tabB
  rw [e1, shN_xor, shN_xor]
  conv => lhs; rw [e]
  rw [shN8 r.toNat (by omega)]
  ac_rfl

/-- Bytes of a number, put into the register. -/
theorem reg_le : ∀ (k x : Nat) (r : BitVec 32), k ≤ 4 → x < 256 ^ k → reg r (leL k x) = shN (8 * k) (r ^^^ BitVec.ofNat 32 x)
  | 0, x, r, _, h => by
    obtain rfl : x = 0 := by simpa using h
    simp [leL, reg, shN]
  | k + 1, x, r, hk, h => by
    have hp : 256 ^ (k + 1) ≤ 256 ^ 4 := Nat.pow_le_pow_right (by decide) hk
    have hx : x < 4294967296 := by omega
    have hq : x / 256 < 256 ^ k := by rw [Nat.div_lt_iff_lt_mul (by omega)]; rw [Nat.pow_succ] at h; exact h
    simp only [leL]
    rw [reg_cons, reg_le k (x / 256) _ (by omega) hq, show 8 * (k + 1) = 8 + 8 * k by omega, ← shN_add (8 * k) 8]
    congr 1
    unfold bstep bx
    rw [byteOf_toNat (by omega), shN_xor, shN_xor, shN8 x hx, BitVec.xor_assoc]
theorem reg_four (r s : BitVec 32) : reg r (fourL s.toNat) = shN 32 (r ^^^ s) := by
  have := reg_le 4 s.toNat r (by omega) (by have := s.isLt; omega)
  simpa [fourL] using this
theorem reg_sum {l : List UInt8} {s : BitVec 32} : reg (BitVec.allOnes 32) (l ++ fourL s.toNat) = 0#32 ↔ sumL l = s := by
  rw [reg_append, reg_four]
  constructor
  · intro h
    have h2 := shN_inj 32 h
    have h3 : sumL l ^^^ s ^^^ s = 0#32 ^^^ s := by unfold sumL; rw [h2]
    rwa [BitVec.xor_assoc, BitVec.xor_self, BitVec.xor_zero, BitVec.zero_xor] at h3
  · intro h
    unfold sumL at h
    rw [h, BitVec.xor_self, shN_zero]
/-- A byte that is turned. -/
theorem reg_turn (a b : List UInt8) (c d : UInt8) (r : BitVec 32) : reg r (a ++ (c ^^^ d) :: b) = reg r (a ++ c :: b) ^^^ shN (8 * (b.length + 1)) (bx d) := by
  have e : ∀ q : BitVec 32, bstep q (c ^^^ d) = bstep q c ^^^ shN 8 (bx d) := fun q => by
    unfold bstep
    rw [bx_xor, ← shN_xor]
    congr 1
    ac_rfl
  rw [reg_append, reg_append, reg_cons, reg_cons, e, reg_xor, shN_add]
  congr 2
  omega
theorem reg_set {l : List UInt8} {i : Nat} {c : UInt8} (hc : l[i]? = some c) (d : UInt8) (r : BitVec 32) : reg r (l.set i (c ^^^ d)) = reg r l ^^^ shN (8 * (l.length - i)) (bx d) := by
  obtain ⟨hi, rfl⟩ := List.getElem?_eq_some_iff.1 hc
  have e : l = l.take i ++ l[i] :: l.drop (i + 1) := by
    rw [← List.drop_eq_getElem_cons hi, List.take_append_drop]
  rw [List.set_eq_take_append_cons_drop, if_pos hi, reg_turn]
  rw [← e, List.length_drop]
  congr 2
  omega
/-- Bytes that are added, bit by bit. -/
theorem reg_xor3 : ∀ (a b c : List UInt8) (r q s : BitVec 32), a.length = b.length → b.length = c.length →
    reg (r ^^^ q ^^^ s) ((List.zip a (List.zip b c)).map fun p => p.1 ^^^ p.2.1 ^^^ p.2.2) = reg r a ^^^ reg q b ^^^ reg s c
  | [], [], [], r, q, s, _, _ => rfl
  | x :: a, y :: b, z :: c, r, q, s, h1, h2 => by
    have e : bstep (r ^^^ q ^^^ s) (x ^^^ y ^^^ z) = bstep r x ^^^ bstep q y ^^^ bstep s z := by
      unfold bstep
      rw [bx_xor, bx_xor, ← shN_xor, ← shN_xor]
      congr 1
      ac_rfl
    simp only [List.zip_cons_cons, List.map_cons, reg_cons, e]
    exact reg_xor3 a b c _ _ _ (by simpa using h1) (by simpa using h2)
theorem sum_xor3 (a b c : List UInt8) (h1 : a.length = b.length) (h2 : b.length = c.length) :
    sumL ((List.zip a (List.zip b c)).map fun p => p.1 ^^^ p.2.1 ^^^ p.2.2) = sumL a ^^^ sumL b ^^^ sumL c := by
  have := reg_xor3 a b c (BitVec.allOnes 32) (BitVec.allOnes 32) (BitVec.allOnes 32) h1 h2
  rw [BitVec.xor_self, BitVec.zero_xor] at this
  exact this
theorem sum_last (l : List UInt8) (x y : UInt8) : sumL (l ++ [x]) = sumL (l ++ [y]) ↔ x = y := by
  constructor
  · intro h
    unfold sumL at h
    rw [reg_snoc, reg_snoc] at h
    have h2 := shN_eq h
    have h3 : reg (BitVec.allOnes 32) l ^^^ (reg (BitVec.allOnes 32) l ^^^ bx x) = reg (BitVec.allOnes 32) l ^^^ (reg (BitVec.allOnes 32) l ^^^ bx y) := by rw [h2]
    rw [← BitVec.xor_assoc, ← BitVec.xor_assoc, BitVec.xor_self, BitVec.zero_xor, BitVec.zero_xor] at h3
    have h4 := congrArg BitVec.toNat h3
    have hx := x.toNat_lt
    have hy := y.toNat_lt
    simp [bx] at h4
    apply UInt8.toNat_inj.1
    omega
  · rintro rfl; rfl
/-- The table: of each byte, of its lowest bit and the rest. -/
theorem tab_xor (a b : Nat) (ha : a < 256) (hb : b < 256) : tabB (a ^^^ b) = tabB a ^^^ tabB b := by
  unfold tabB
  rw [← shN_xor]
  congr 1
  apply BitVec.eq_of_toNat_eq
  have : a ^^^ b < 2 ^ 8 := Nat.xor_lt_two_pow (by omega) (by omega)
  rw [BitVec.toNat_xor, BitVec.toNat_ofNat, BitVec.toNat_ofNat, BitVec.toNat_ofNat, Nat.mod_eq_of_lt (by omega), Nat.mod_eq_of_lt (by omega), Nat.mod_eq_of_lt (by omega)]
theorem sh_toNat (r : BitVec 32) : (sh r).toNat = if r.toNat % 2 = 1 then r.toNat / 2 ^^^ 3945912366 else r.toNat / 2 := by
  unfold sh
  have h0 : r.getLsbD 0 = decide (r.toNat % 2 = 1) := by simp [BitVec.getLsbD, Nat.testBit_zero]
  rw [h0, BitVec.toNat_xor, BitVec.toNat_ushiftRight, Nat.shiftRight_eq_div_pow]
  by_cases h : r.toNat % 2 = 1
  · simp [h, PL]
  · simp [h]
end Go.Proofs.YtkdjjdkcogolmaaGreatDoor
end
