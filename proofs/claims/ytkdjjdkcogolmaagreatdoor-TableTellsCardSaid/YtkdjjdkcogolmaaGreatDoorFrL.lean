/-
  The texts FrP, FrA, FrL, in one.
-/
import Derived.Test.YtkdjjdkcogolmaaGreatDoorFrC7
section
/-
  Plain mathematics of frames: what is sealed is taken; what is cut short, or turned, is none.
-/
namespace Go.Proofs.YtkdjjdkcogolmaaGreatDoor
set_option maxRecDepth 100000
open Go.RowKit

theorem headL_len (b : List UInt8) : (headL b).length = b.length + 4 := by unfold headL; rw [List.length_append, fourL_len]; omega
theorem sealL_len (b : List UInt8) : (sealL b).length = b.length + 8 := by unfold sealL; rw [List.length_append, fourL_len, headL_len]
theorem lenL_four (x : Nat) (h : x < 4294967296) (r : List UInt8) : lenL (fourL x ++ r) = x := (four_take x h r).1
theorem sealL_eq (b : List UInt8) : sealL b = fourL b.length ++ (b ++ fourL (sumL (headL b)).toNat) := by unfold sealL headL; rw [List.append_assoc]
theorem lenL_seal {b : List UInt8} (hb : b.length ≤ 1048576) (y : List UInt8) : lenL (sealL b ++ y) = b.length := by
  rw [sealL_eq, List.append_assoc]
  exact lenL_four _ (by omega) _
/-- Of bytes whose first four tell how many there are, and that have these and four more: just if the sum is right. -/
theorem takeL_of {l : List UInt8} {N : Nat} (hN : lenL l = N) (hs : N ≤ 1048576) (h8 : N + 8 ≤ l.length) :
    takeL l = if leV ((l.drop (N + 4)).take 4) = (sumL (l.take (N + 4))).toNat then some ((l.drop 4).take N, l.drop (N + 8)) else none := by
  unfold takeL
  rw [hN]
  by_cases h : leV ((l.drop (N + 4)).take 4) = (sumL (l.take (N + 4))).toNat
  · rw [if_pos h, if_pos ⟨by omega, hs, h8, h⟩]
  · rw [if_neg h, if_neg (fun h2 => h h2.2.2.2)]
theorem takeL_seal {b : List UInt8} (hb : b.length ≤ 1048576) (y : List UInt8) : takeL (sealL b ++ y) = some (b, y) := by
  have hh := headL_len b
  have e1 : (sealL b ++ y).drop (b.length + 4) = fourL (sumL (headL b)).toNat ++ y := by
    unfold sealL
    rw [List.append_assoc, ← hh, List.drop_left]
  have e2 : (sealL b ++ y).take (b.length + 4) = headL b := by
    unfold sealL
    rw [List.append_assoc, ← hh, List.take_left]
  have e3 : (sealL b ++ y).drop 4 = b ++ (fourL (sumL (headL b)).toNat ++ y) := by
    rw [sealL_eq, List.append_assoc, show (4 : Nat) = (fourL b.length).length from rfl, List.drop_left, List.append_assoc]
  have e4 : (sealL b ++ y).drop (b.length + 8) = y := by
    rw [← sealL_len, List.drop_left]
  rw [takeL_of (lenL_seal hb y) hb (by rw [List.length_append, sealL_len]; omega), e1, e2, e3, e4, if_pos, List.take_left]
  exact (four_take _ (by have := (sumL (headL b)).isLt; omega) y).1
theorem takeL_seal' {b : List UInt8} (hb : b.length ≤ 1048576) : takeL (sealL b) = some (b, []) := by
  have := takeL_seal hb []
  rwa [List.append_nil] at this
theorem sealL_inj {b o : List UInt8} (hb : b.length ≤ 1048576) (ho : o.length ≤ 1048576) (h : sealL b = sealL o) : b = o := by
  have h1 := takeL_seal' hb
  rw [h, takeL_seal' ho] at h1
  simpa using h1.symm
/-- A front of a frame is none. -/
theorem takeL_cut {b : List UInt8} (hb : b.length ≤ 1048576) {k : Nat} (hk : k < (sealL b).length) : takeL ((sealL b).take k) = none := by
  rw [sealL_len] at hk
  have hl : ((sealL b).take k).length = k := by rw [List.length_take, sealL_len]; omega
  refine takeL_no ?_
  rintro ⟨h1, h2, h3, -⟩
  rw [hl] at h1 h3
  have : lenL ((sealL b).take k) = b.length := by
    unfold lenL
    rw [List.take_take, Nat.min_eq_left h1]
    have := lenL_seal hb []
    rw [List.append_nil] at this
    exact this
  omega
/-- No frame begins with another one. -/
theorem seal_front {b o : List UInt8} (hb : b.length ≤ 1048576) (ho : o.length ≤ 1048576) (h : (sealL o).take (sealL b).length = sealL b) : b = o := by
  have h1 := takeL_seal hb ((sealL o).drop (sealL b).length)
  have e : sealL b ++ (sealL o).drop (sealL b).length = sealL o := by
    conv => lhs; lhs; rw [← h]
    exact List.take_append_drop _ _
  rw [e, takeL_seal' ho] at h1
  have := Option.some.inj h1
  simp only [Prod.mk.injEq] at this
  exact this.1.symm
/-- By the register: a whole frame leaves it at 0. -/
theorem takeL_reg {l : List UInt8} {N : Nat} (hN : lenL l = N) (hs : N ≤ 1048576) (h8 : l.length = N + 8) :
    takeL l = if reg (BitVec.allOnes 32) l = 0#32 then some ((l.drop 4).take N, []) else none := by
  rw [takeL_of hN hs (by omega)]
  have hd : (l.drop (N + 4)).length = 4 := by rw [List.length_drop]; omega
  have ht : (l.drop (N + 4)).take 4 = l.drop (N + 4) := List.take_of_length_le (by omega)
  have hlt := leV_lt (l.drop (N + 4))
  rw [hd] at hlt
  have hlt' : leV (l.drop (N + 4)) < 2 ^ 32 := hlt
  have hb : fourL (BitVec.ofNat 32 (leV (l.drop (N + 4)))).toNat = l.drop (N + 4) := by
    have := leL_leV (l.drop (N + 4))
    rw [hd] at this
    rw [BitVec.toNat_ofNat, Nat.mod_eq_of_lt hlt']
    exact this
  have e : l = l.take (N + 4) ++ fourL (BitVec.ofNat 32 (leV (l.drop (N + 4)))).toNat := by rw [hb, List.take_append_drop]
  have hn : l.drop (N + 8) = [] := List.drop_of_length_le (by omega)
  rw [ht, hn]
  have key : (leV (l.drop (N + 4)) = (sumL (l.take (N + 4))).toNat) ↔ reg (BitVec.allOnes 32) l = 0#32 := by
    conv => rhs; rw [e]
    rw [reg_sum]
    constructor
    · intro h
      rw [h]
      simp
    · intro h
      rw [h, BitVec.toNat_ofNat, Nat.mod_eq_of_lt hlt']
  by_cases h : leV (l.drop (N + 4)) = (sumL (l.take (N + 4))).toNat
  · rw [if_pos h, if_pos (key.1 h)]
  · rw [if_neg h, if_neg (fun h2 => h (key.2 h2))]
theorem reg_seal {b : List UInt8} : reg (BitVec.allOnes 32) (sealL b) = 0#32 := by unfold sealL; exact reg_sum.2 rfl
end Go.Proofs.YtkdjjdkcogolmaaGreatDoor
end

section
/-
  What Take answers, where it is known whether it takes.
-/
namespace Go.Proofs.YtkdjjdkcogolmaaGreatDoor
set_option maxRecDepth 100000
open Go.RowKit

theorem tkPost_to {w : World} {l x y : List UInt8} (h : takeL l = some (x, y)) {e : Ending} {w' : World} (hp : TkPost w l e w') : RetTk w x y e w' := by simpa only [TkPost, h] using hp
theorem tkPost_no {w : World} {l : List UInt8} (h : takeL l = none) {e : Ending} {w' : World} (hp : TkPost w l e w') : RetNo w e w' := by simpa only [TkPost, h] using hp
theorem Fr.len_eq {w : World} {b n c : Nat} {e : TypeId} {A : Option Addr} {l : List UInt8} {k : Nat} (h : Fr w b e A n c (bv l)) (hl : l.length = k) : n = k := by
  rw [← h.len, bv_length, hl]
end Go.Proofs.YtkdjjdkcogolmaaGreatDoor
end

section
/-
  Bounds of integers that come in.
-/
namespace Go.Proofs.YtkdjjdkcogolmaaGreatDoor
set_option maxRecDepth 100000
open Go.RowKit

theorem bounds_u16' {x : Int} (h : (Lit.int .u16 x).wf = true) : 0 ≤ x ∧ x ≤ 65535 := by
  simpa [Lit.wf, IntKind.min, IntKind.max, IntKind.bits, IntKind.signed] using h
end Go.Proofs.YtkdjjdkcogolmaaGreatDoor
end
