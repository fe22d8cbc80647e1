/-
  Contracts: the program's Take, TakeText, TakeFour.
-/
import Derived.Test.YtkdmhdciapnblaaDev1
namespace Go.Proofs.Ytkdmhdciapnblaa
open Go.RowKit

theorem bv_drop (l : List UInt8) (k : Nat) : (bv l).drop k = bv (l.drop k) := by simp [bv]
theorem bv_take (l : List UInt8) (k : Nat) : (bv l).take k = bv (l.take k) := by simp [bv]

set_option maxRecDepth 100000 in
set_option maxHeartbeats 1000000 in
theorem take_c {w : World} {B n c : Nat} {A : Option Addr} {l : List UInt8} (h : Rd w B A n c (bv l)) (hBw : B ≤ w.heap.size) (hn : n ≤ 70368744177664) :
    Calls Try.prog 9 #[.slice A n c] w (TakePost w l) := by
  have hsh := shortAt_c h hn
  have hl : l.length = n := by simpa using h.len
  cases hv : takeN l with
  | none =>
    have HT := Lib.hid (hsh.mono (R' := fun e w' => e = .returned (.tuple #[.int .u64 0, .int .i64 0]) ∧ w = w') (fun e w' hp => by
      rcases hp with ⟨v, m, h1, _⟩ | h2
      · rw [hv] at h1; cases h1
      · exact h2.2))
    have HV := Lib.hid hv
    clear hsh hl hv h hn
    go_enter Try.func9, Try.ntmps9
    go_wp2_with fail
    refine HT.out.mono ?_
    rintro e w1 ⟨rfl, rfl⟩
    go_wp2_with fail
    go_ret3
    exact TakePost.none HV.out ⟨none, 0, 0, rfl, Fr.nil, Below.refl _ _⟩
  | some r =>
    obtain ⟨v, m⟩ := r
    have HT := Lib.hid (hsh.mono (R' := fun e w' => e = .returned (.tuple #[.int .u64 (v : Int), .int .i64 (m : Int)]) ∧ w = w') (fun e w' hp => by
      rcases hp with ⟨v', m', h1, h2⟩ | h2
      · rw [hv] at h1; cases h1; exact h2
      · rw [hv] at h2; cases h2.1))
    obtain ⟨hle1, hle2, _⟩ := takeN_le hv
    obtain ⟨A1, hsl, hr⟩ := h.slice_lo 22 5 (P := Try.prog) Try.underlying22 info_u8 .i64 (k := m) (by omega)
    rw [bv_drop] at hr
    have hcl := clone_c hr hBw (by omega)
    have hm0 : ((m : Int) == 0) = false := by simp; omega
    have HV := Lib.hid hv
    have HC := Lib.hid hcl
    clear hsh hl hv h hn hle1 hle2 hcl hr
    go_enter Try.func9, Try.ntmps9
    go_wp2_with fail
    refine HT.out.mono ?_
    rintro e w1 ⟨rfl, rfl⟩
    go_wp2_with fail
    refine HC.out.mono ?_
    rintro e w1 ⟨A2, n2, c2, rfl, hf, hb⟩
    go_wp2_with fail
    go_ret3
    exact TakePost.some HV.out ⟨A2, n2, c2, rfl, hf, hb⟩

set_option maxRecDepth 100000 in
set_option maxHeartbeats 1000000 in
theorem takeFour_no {w : World} {B n c : Nat} {A : Option Addr} {l : List UInt8} (h : Rd w B A n c (bv l)) (h4 : l.length < 4) :
    Calls Try.prog 13 #[.slice A n c] w (RetNB w .u32 0 [] false) := by
  have hl : l.length = n := by simpa using h.len
  have h4n : n < 4 := by omega
  have hd : decide ((n : Int) < 4) = true := by simp; omega
  clear hl h h4
  go_enter Try.func13, Try.ntmps13
  go_wp2
  go_ret3
  exact ⟨none, 0, 0, rfl, Fr.nil, Below.refl _ _⟩

theorem u32_or_add (a b i : Nat) (ha : a < 2 ^ i) (hb : a + b * 2 ^ i < 4294967296) : bits .or .u32 (a : Int) ((b * 2 ^ i : Nat) : Int) = ((a + b * 2 ^ i : Nat) : Int) := by
  have h1 : 0 ≤ b * 2 ^ i := Nat.zero_le _
  rw [u32_or_nat _ _ (by omega) (by omega)]
  congr 1
  rw [Nat.or_comm, Nat.mul_comm b, ← Nat.two_pow_add_eq_or_of_lt ha]
  omega

theorem four_or (x0 x1 x2 x3 : UInt8) : bits .or .u32 (bits .or .u32 (bits .or .u32 (bits .or .u32 0 (x0.toNat : Int)) ((x1.toNat : Int) * 256)) ((x2.toNat : Int) * 65536)) ((x3.toNat : Int) * 16777216) = ((leV [x0, x1, x2, x3] : Nat) : Int) := by
  have b0 : x0.toNat < 256 := x0.toNat_lt
  have b1 : x1.toNat < 256 := x1.toNat_lt
  have b2 : x2.toNat < 256 := x2.toNat_lt
  have b3 : x3.toNat < 256 := x3.toNat_lt
  have e0 : bits .or .u32 0 (x0.toNat : Int) = (x0.toNat : Int) := by
    have := u32_or_nat 0 x0.toNat (by omega) (by omega)
    simpa using this
  have e1 := u32_or_add x0.toNat x1.toNat 8 (by omega) (by omega)
  have e2 := u32_or_add (x0.toNat + x1.toNat * 2 ^ 8) x2.toNat 16 (by omega) (by omega)
  have e3 := u32_or_add (x0.toNat + x1.toNat * 2 ^ 8 + x2.toNat * 2 ^ 16) x3.toNat 24 (by omega) (by omega)
  rw [e0, show (x1.toNat : Int) * 256 = ((x1.toNat * 2 ^ 8 : Nat) : Int) by omega, e1, show (x2.toNat : Int) * 65536 = ((x2.toNat * 2 ^ 16 : Nat) : Int) by omega, e2,
    show (x3.toNat : Int) * 16777216 = ((x3.toNat * 2 ^ 24 : Nat) : Int) by omega, e3]
  simp only [leV]
  omega

set_option maxRecDepth 100000 in
set_option maxHeartbeats 1000000 in
theorem takeFour_c {w : World} {B n c : Nat} {A : Option Addr} {l : List UInt8} (h : Rd w B A n c (bv l)) (hBw : B ≤ w.heap.size) (hn : n ≤ 70368744177664) (h4 : 4 ≤ l.length) :
    Calls Try.prog 13 #[.slice A n c] w (RetNB w .u32 (leV (l.take 4)) (l.drop 4) true) := by
  have hl : l.length = n := by simpa using h.len
  have hcap := h.cap
  obtain ⟨A1, hsl, hr⟩ := h.slice_lo 22 5 (P := Try.prog) Try.underlying22 info_u8 .i64 (k := 4) (by omega)
  have hsf := fun W => run_slice_hi_gen (P := Try.prog) (n := n) (A := A) 22 5 Try.underlying22 info_u8 .i64 (k := 4) (c := c) (by omega) W
  rw [bv_drop] at hr
  rw [show ((4 : Nat) : Int) = 4 from rfl] at hsl hsf
  have hcl := clone_c hr hBw (by omega)
  obtain ⟨x0, x1, x2, x3, r, rfl⟩ := four_form h4
  obtain ⟨b, off, rfl, c0, c1, c2, c3⟩ := h.four
  have hd : decide ((n : Int) < 4) = false := by simp; omega
  have HC := Lib.hid hcl
  have h4n : 4 ≤ n := by omega
  have b0 : x0.toNat < 256 := x0.toNat_lt
  have b1 : x1.toNat < 256 := x1.toNat_lt
  have b2 : x2.toNat < 256 := x2.toNat_lt
  have b3 : x3.toNat < 256 := x3.toNat_lt
  clear hl h hn h4 hr hcl
  go_enter Try.func13, Try.ntmps13
  go_wp2_with fail
  refine wp_loop_rounds 5 ?_
  rw [rounds_succ]; go_wp2_with fail
  rw [rounds_succ]; go_wp2_with fail
  rw [rounds_succ]; go_wp2_with fail
  rw [rounds_succ]; go_wp2_with fail
  rw [rounds_succ]; go_wp2_with fail
  refine HC.out.mono ?_
  rintro e w1 ⟨A2, n2, c2, rfl, hf, hb⟩
  go_wp2_with fail
  go_ret3
  exact ⟨A2, n2, c2, tup3 (four_or x0 x1 x2 x3), hf, hb⟩
end Go.Proofs.Ytkdmhdciapnblaa
