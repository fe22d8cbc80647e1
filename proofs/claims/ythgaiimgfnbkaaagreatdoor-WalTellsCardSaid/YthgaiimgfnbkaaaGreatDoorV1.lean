/-
  Contracts: the reference's Digits, Named, Name.
-/
import Derived.Test.YthgaiimgfnbkaaaGreatDoorWO
namespace Go.Proofs.YthgaiimgfnbkaaaGreatDoor
set_option maxRecDepth 100000
open Go.RowKit Go.Shelf
set_option linter.unusedVariables false

theorem decD_lo {m : Nat} (h : m < 10) : Lib.decDigits m = [byteOf (48 + m)] := by
  rw [Lib.decDigits, dif_pos h]
  congr 1
theorem decD_hi {m : Nat} (h : ¬ m < 10) : Lib.decDigits m = Lib.decDigits (m / 10) ++ [byteOf (48 + m % 10)] := by
  rw [Lib.decDigits, dif_neg h]
  congr 1

set_option maxHeartbeats 4000000 in
theorem refDigits_c (w : World) (n : Nat) (hn : (n : Int) ≤ 18446744073709551615) :
    Calls Tryz.prog 53 #[.int .u64 (n : Int)] w (RetVl w (.string ⟨(Lib.decDigits n).toArray⟩)) := by
  have HD := Lib.hid (digits_len (u := n) (by omega))
  have g0 : Below w.heap.size w w := Below.refl _ _
  go_enter Tryz.func53, Tryz.ntmps53
  go_wp2_with fail
  go_loopw [0, 3] (fun nv sv wr => ∃ (m : Nat) (s : List UInt8), nv = .int .u64 (m : Int) ∧ sv = .string ⟨s.toArray⟩ ∧ Lib.decDigits n = Lib.decDigits m ++ s ∧ (m : Int) ≤ 18446744073709551615 ∧ Below w.heap.size w wr) (fun nv _ _ => (intOf nv).toNat)
  case atStart => exact ⟨n, [], rfl, rfl, by simp, hn, g0⟩
  case round =>
    clear g0
    obtain ⟨m, s, rfl, rfl, hs, hm, gr⟩ := hrel
    obtain ⟨x, hx⟩ : ∃ x, 48 + m % 10 = x := ⟨_, rfl⟩
    have hx1 : (48 : Int) + (m : Int) % 10 = (x : Int) := by omega
    have hxb : x < 256 := by omega
    have hxi : (x : Int) ≤ 255 := by omega
    have hxm : (x : Int) % 256 = (x : Int) := by omega
    have hsl : s.length ≤ 20 := by have h1 := HD.out.1; rw [hs, List.length_append] at h1; omega
    have hstr := run_str (P := Tryz.prog) (Rd.litb wr [byteOf x] (vs := #[.int .u8 (x : Int)]) (k := 1) (g := wr.heap.size) rfl (by rw [u8_byte _ hxb]; simp [bv]) rfl (by decide)) 26 9 5 Tryz.underlying26 Tryz.underlying5 Tryz.underlying9
    have hcat : ∀ W : World, (Op.stringOp .add ⟨[byteOf x].toArray⟩ ⟨s.toArray⟩).run Tryz.prog W = .ok (.string ⟨(byteOf x :: s).toArray⟩) W := fun W =>
      run_cat6 (by rw [ba_size s, ba_size [byteOf x]]; simp; omega) (ba_app [byteOf x] s)
    have hb1 := below_alloc wr (.cells #[.int .u8 (x : Int)] 5)
    have gr1 := bon gr hb1
    clear hb1 gr
    have hxmod : x = 48 + m % 10 := hx.symm
    clear hx
    by_cases h10 : m < 10
    · have hq : (m : Int) / 10 = 0 := by omega
      have hd : Lib.decDigits n = byteOf x :: s := by rw [hs, decD_lo h10, hxmod, Nat.mod_eq_of_lt h10]; rfl
      have HDD := Lib.hid hd
      clear hd hs hxmod hsl h10
      go_wp2_with fail
      go_ret
      rw [HDD.out]
      exact ⟨rfl, gr1⟩
    · obtain ⟨y, hy⟩ : ∃ y, m / 10 = y := ⟨_, rfl⟩
      have hq : (m : Int) / 10 = (y : Int) := by omega
      have hyi : (y : Int) ≤ 18446744073709551615 := by omega
      have hy1 : ((y : Int) == 0) = false := by simp; omega
      have hy2 : (y == 0) = false := by simp; omega
      have hym : y < m := by omega
      have hd : Lib.decDigits n = Lib.decDigits y ++ byteOf x :: s := by rw [hs, decD_hi h10, hxmod, hy, List.append_assoc]; rfl
      have HDD := Lib.hid hd
      clear hd hs hxmod hsl hy
      go_wp2_with fail
      go_roundw
      case rel => exact ⟨y, byteOf x :: s, rfl, rfl, HDD.out, hyi, gr1⟩
      case measure => simp [intOf]; omega
end Go.Proofs.YthgaiimgfnbkaaaGreatDoor
