/-
  Contract: the program's shifted: the register after one bit that is 0.
-/
import Derived.Test.YthgaiimgfnbkaaaGreatDoorFrM
import Derived.Test.YthgaiimgfnbkaaaGreatDoorFrH
namespace Go.Proofs.YthgaiimgfnbkaaaGreatDoor
set_option maxRecDepth 100000
open Go.RowKit

/-- A register as a value. -/
def rv (r : BitVec 32) : Value := .int .u32 (r.toNat : Int)

theorem sh_val (r : BitVec 32) : ((sh r).toNat : Int) = if (r.toNat : Int) % 2 = 1 then bits .xor .u32 ((r.toNat : Int) / 2) 3945912366 else (r.toNat : Int) / 2 := by
  have hr := r.isLt
  rw [sh_toNat]
  by_cases h : r.toNat % 2 = 1
  · rw [if_pos h, if_pos (by omega)]
    have := u32_xor_nat (r.toNat / 2) 3945912366 (by omega) (by omega)
    rw [← this]
    rfl
  · rw [if_neg h, if_neg (by omega)]
    rfl

set_option maxRecDepth 100000 in
theorem shifted_c {w : World} (r : BitVec 32) : Calls Tryz.prog 85 #[.int .u32 (r.toNat : Int)] w fun e w' => e = .returned (.int .u32 ((sh r).toNat : Int)) ∧ w = w' := by
  have hr := r.isLt
  have hv := sh_val r
  by_cases h : (r.toNat : Int) % 2 = 1
  · have hd : ((r.toNat : Int) % 2 == 1) = true := by simpa using h
    rw [if_pos h] at hv
    clear hr
    go_enter Tryz.func85, Tryz.ntmps85
    go_wp2
    go_ret
    exact ⟨by rw [hv]; rfl, rfl⟩
  · have hd : ((r.toNat : Int) % 2 == 1) = false := by simpa using h
    rw [if_neg h] at hv
    clear hr
    go_enter Tryz.func85, Tryz.ntmps85
    go_wp2
    go_ret
    exact ⟨by rw [hv]; rfl, rfl⟩
end Go.Proofs.YthgaiimgfnbkaaaGreatDoor
