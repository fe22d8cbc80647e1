/-
  Contracts: the program's Take, TakeText, TakeFour.
-/
import Derived.Test.YtaodmenieigbmaaDev1
namespace Go.Proofs.Ytaodmenieigbmaa
open Go.RowKit

theorem bv_drop (l : List UInt8) (k : Nat) : (bv l).drop k = bv (l.drop k) := by simp [bv]
theorem bv_take (l : List UInt8) (k : Nat) : (bv l).take k = bv (l.take k) := by simp [bv]

set_option maxRecDepth 100000 in
set_option maxHeartbeats 1000000 in
theorem take_c {w : World} {B n c : Nat} {A : Option Addr} {l : List UInt8} (h : Rd w B A n c (bv l)) (hBw : B ≤ w.heap.size) (hn : n ≤ 70368744177664) :
    Calls Try.prog 33 #[.slice A n c] w (TakePost w l) := by
  have hsh := shortAt_c h hn
  have hl : l.length = n := by simpa using h.len
  cases hv : takeN l with
  | none =>
    have HT := Lib.hid (hsh.mono (R' := fun e w' => e = .returned (.tuple #[.int .u64 0, .int .i64 0]) ∧ w = w') (fun e w' hp => by
      rcases hp with ⟨v, m, h1, _⟩ | h2
      · rw [hv] at h1; cases h1
      · exact h2.2))
    have HV := Lib.hid hv
    clear hsh hl hv h hn
    go_enter Try.func33, Try.ntmps33
    go_wp2_with fail
    refine HT.out.mono ?_
    rintro e w1 ⟨rfl, rfl⟩
    go_wp2_with fail
    go_ret3
    exact TakePost.none HV.out ⟨none, 0, 0, rfl, Fr.nil, Below.refl _ _⟩
  | some r =>
    obtain ⟨v, m⟩ := r
    have HT := Lib.hid (hsh.mono (R' := fun e w' => e = .returned (.tuple #[.int .u64 (v : Int), .int .i64 (m : Int)]) ∧ w = w') (fun e w' hp => by
      rcases hp with ⟨v', m', h1, h2⟩ | h2
      · rw [hv] at h1; cases h1; exact h2
      · rw [hv] at h2; cases h2.1))
    obtain ⟨hle1, hle2, _⟩ := takeN_le hv
    obtain ⟨A1, hsl, hr⟩ := h.slice_lo 23 5 (P := Try.prog) Try.underlying23 info_u8 .i64 (k := m) (by omega)
    rw [bv_drop] at hr
    have hcl := clone_c hr hBw (by omega)
    have hm0 : ((m : Int) == 0) = false := by simp; omega
    have HV := Lib.hid hv
    have HC := Lib.hid hcl
    clear hsh hl hv h hn hle1 hle2 hcl hr
    go_enter Try.func33, Try.ntmps33
    go_wp2_with fail
    refine HT.out.mono ?_
    rintro e w1 ⟨rfl, rfl⟩
    go_wp2_with fail
    refine HC.out.mono ?_
    rintro e w1 ⟨A2, n2, c2, rfl, hf, hb⟩
    go_wp2_with fail
    go_ret3
    exact TakePost.some HV.out ⟨A2, n2, c2, rfl, hf, hb⟩

theorem u32_or_add (a b i : Nat) (ha : a < 2 ^ i) (hb : a + b * 2 ^ i < 4294967296) : bits .or .u32 (a : Int) ((b * 2 ^ i : Nat) : Int) = ((a + b * 2 ^ i : Nat) : Int) := by
  have h1 : 0 ≤ b * 2 ^ i := Nat.zero_le _
  rw [u32_or_nat _ _ (by omega) (by omega)]
  congr 1
  rw [Nat.or_comm, Nat.mul_comm b, ← Nat.two_pow_add_eq_or_of_lt ha]
  omega

theorem four_or (x0 x1 x2 x3 : UInt8) : bits .or .u32 (bits .or .u32 (bits .or .u32 (bits .or .u32 0 (x0.toNat : Int)) ((x1.toNat : Int) * 256)) ((x2.toNat : Int) * 65536)) ((x3.toNat : Int) * 16777216) = ((leV [x0, x1, x2, x3] : Nat) : Int) := by
  have b0 : x0.toNat < 256 := x0.toNat_lt
  have b1 : x1.toNat < 256 := x1.toNat_lt
  have b2 : x2.toNat < 256 := x2.toNat_lt
  have b3 : x3.toNat < 256 := x3.toNat_lt
  have e0 : bits .or .u32 0 (x0.toNat : Int) = (x0.toNat : Int) := by
    have := u32_or_nat 0 x0.toNat (by omega) (by omega)
    simpa using this
  have e1 := u32_or_add x0.toNat x1.toNat 8 (by omega) (by omega)
  have e2 := u32_or_add (x0.toNat + x1.toNat * 2 ^ 8) x2.toNat 16 (by omega) (by omega)
  have e3 := u32_or_add (x0.toNat + x1.toNat * 2 ^ 8 + x2.toNat * 2 ^ 16) x3.toNat 24 (by omega) (by omega)
  rw [e0, show (x1.toNat : Int) * 256 = ((x1.toNat * 2 ^ 8 : Nat) : Int) by omega, e1, show (x2.toNat : Int) * 65536 = ((x2.toNat * 2 ^ 16 : Nat) : Int) by omega, e2,
    show (x3.toNat : Int) * 16777216 = ((x3.toNat * 2 ^ 24 : Nat) : Int) by omega, e3]
  simp only [leV]
  omega

end Go.Proofs.Ytaodmenieigbmaa
