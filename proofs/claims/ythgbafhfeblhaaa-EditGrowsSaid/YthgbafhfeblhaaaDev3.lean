/-
  The texts Dev1, Dev2, Dev3, in one.
-/
import Derived.Test.YthgbafhfeblhaaaRefs3
import Derived.Lib.MinMax
import Derived.Laws.BitsAllLaws
section
/-
  Contracts: the program's shortAt.
-/
namespace Go.Proofs.Ythgbafhfeblhaaa
set_option maxRecDepth 100000
open Go.RowKit

structure ShRel (l : List UInt8) (N k acc : Nat) : Prop where
  kN : k ≤ N
  lt : acc < 128 ^ k
  lt64 : acc < 2 ^ 64
  eq : takeN l = tk (10 - k) k acc (l.drop k)

def ShPost (w : World) (l : List UInt8) (e : Ending) (w' : World) : Prop :=
  (∃ v m : Nat, takeN l = some (v, m) ∧ e = .returned (.tuple #[.int .u64 (v : Int), .int .i64 (m : Int)]) ∧ w = w') ∨
  (takeN l = none ∧ e = .returned (.tuple #[.int .u64 0, .int .i64 0]) ∧ w = w')

theorem pow7 (k : Nat) : (2 : Nat) ^ (7 * k) = 128 ^ k := by rw [Nat.pow_mul]

/-- One part: shifted, and back: it is itself just if it does not pass 2^64. -/
theorem part_back (p k : Nat) (hk : k ≤ 9) :
    (IntKind.u64.wrap ((p : Int) * 2 ^ (7 * k)) / 2 ^ (7 * k) != (p : Int)) = decide (2 ^ 64 ≤ p * 128 ^ k) := by
  have hdvd : ∃ q, (18446744073709551616 : Nat) = 128 ^ k * q := ⟨2 ^ (64 - 7 * k), by rw [← pow7, ← Nat.pow_add, show 7 * k + (64 - 7 * k) = 64 by omega]⟩
  have e : ((p : Int) * 2 ^ (7 * k)) = ((p * 128 ^ k : Nat) : Int) := by rw [← pow7]; simp
  have e2 : ((2 : Int) ^ (7 * k)) = ((128 ^ k : Nat) : Int) := by rw [← pow7]; simp
  rw [e, e2, wrapu]
  have hM : 0 < 128 ^ k := Nat.pow_pos (by decide)
  have hc : (((p * 128 ^ k : Nat) : Int) % 18446744073709551616 / ((128 ^ k : Nat) : Int)) = ((p * 128 ^ k % 18446744073709551616 / 128 ^ k : Nat) : Int) := by simp
  rw [hc]
  by_cases h : 2 ^ 64 ≤ p * 128 ^ k
  · rw [decide_eq_true h, bne_iff_ne]
    intro e3
    have e3 : p * 128 ^ k % 18446744073709551616 / 128 ^ k = p := by omega
    have h1 : p * 128 ^ k % 18446744073709551616 < 18446744073709551616 := Nat.mod_lt _ (by decide)
    have h2 : p * 128 ^ k ≤ p * 128 ^ k % 18446744073709551616 := by
      conv => lhs; rw [← e3]
      exact Nat.div_mul_le_self _ _
    omega
  · rw [decide_eq_false h, Nat.mod_eq_of_lt (by omega), Nat.mul_div_cancel _ hM]
    simp

theorem part_sum (acc p k : Nat) (hk : k ≤ 9) (ha : acc < 128 ^ k) (h : ¬ 2 ^ 64 ≤ p * 128 ^ k) : acc + p * 128 ^ k < 2 ^ 64 := by
  obtain ⟨q, hq⟩ : ∃ q, (2 ^ 64 : Nat) = 128 ^ k * q := ⟨2 ^ (64 - 7 * k), by rw [← pow7, ← Nat.pow_add, show 7 * k + (64 - 7 * k) = 64 by omega]⟩
  rw [hq] at h ⊢
  have hlt : p < q := by
    rcases Nat.lt_or_ge p q with h1 | h1
    · exact h1
    · exact absurd (by rw [Nat.mul_comm p]; exact Nat.mul_le_mul_left _ h1) h
  have : 128 ^ k * (p + 1) ≤ 128 ^ k * q := Nat.mul_le_mul_left _ hlt
  rw [Nat.mul_add, Nat.mul_one, Nat.mul_comm _ p] at this
  omega

theorem part_or (acc p k : Nat) (hk : k ≤ 9) (ha : acc < 128 ^ k) (h : ¬ 2 ^ 64 ≤ p * 128 ^ k) :
    bits .or .u64 (acc : Int) (IntKind.u64.wrap ((p : Int) * 2 ^ (7 * k))) = ((acc + p * 128 ^ k : Nat) : Int) := by
  have hs := part_sum acc p k hk ha h
  have e : ((p : Int) * 2 ^ (7 * k)) = ((p * 128 ^ k : Nat) : Int) := by rw [← pow7]; simp
  rw [e, wrapu, Int.emod_eq_of_lt (by omega) (by omega), u64_or_nat _ _ (by omega) (by omega)]
  congr 1
  rw [← pow7] at ha ⊢
  rw [Nat.or_comm, Nat.mul_comm p, ← Nat.two_pow_add_eq_or_of_lt ha]
  omega

theorem tk_step {l : List UInt8} {k acc : Nat} {cc : UInt8} (hk : k < 10) (hcc : l[k]? = some cc) : tk (10 - k) k acc (l.drop k) =
    if 2 ^ 64 ≤ acc + cc.toNat % 128 * 128 ^ k then none
    else if cc.toNat = 0 ∧ 0 < k then none
    else if cc.toNat < 128 then some (acc + cc.toNat % 128 * 128 ^ k, k + 1)
    else tk (10 - (k + 1)) (k + 1) (acc + cc.toNat % 128 * 128 ^ k) (l.drop (k + 1)) := by
  have hkl : k < l.length := by
    rcases Nat.lt_or_ge k l.length with h | h
    · exact h
    · rw [List.getElem?_eq_none h] at hcc; cases hcc
  have hd : l.drop k = cc :: l.drop (k + 1) := by
    rw [List.drop_eq_getElem_cons hkl]
    congr 1
    rw [List.getElem?_eq_getElem hkl] at hcc
    exact Option.some.inj hcc
  rw [hd, show 10 - k = (10 - (k + 1)) + 1 by omega]
  rfl

set_option maxRecDepth 100000 in
set_option maxHeartbeats 1000000 in
theorem shortAt_c {w : World} {B n c : Nat} {A : Option Addr} {l : List UInt8} (h : Rd w B A n c (bv l)) (hn : n ≤ 70368744177664) :
    Calls Try.prog 68 #[.slice A n c] w (ShPost w l) := by
  have hl : l.length = n := by simpa using h.len
  have hcap := h.cap
  obtain ⟨N, hN1, hN2, hN3⟩ : ∃ N : Nat, N ≤ n ∧ N ≤ 10 ∧ (n ≤ N ∨ 10 ≤ N) := ⟨min 10 n, by omega, by omega, by omega⟩
  have hs := fun W => run_slice_hi_gen (P := Try.prog) (n := n) (A := A) 26 5 Try.underlying26 info_u8 .i64 (k := N) (c := c) (by omega) W
  have hmin : min (10 : Int) (n : Int) = (N : Int) := by omega
  have H := Lib.hid h
  have HL := Lib.hid hl
  have HN := Lib.hid hn
  have hr0 : ShRel l N 0 0 := ⟨by omega, by decide, by decide, by simp [takeN]⟩
  clear h hl hn
  go_enter Try.func68, Try.ntmps68
  go_wp2_with fail
  go_loop [4, 15] (fun x i => ∃ k acc : Nat, x = .int .u64 (acc : Int) ∧ i = .int .i64 (k : Int) ∧ ShRel l N k acc) (fun _ i => (10 - intOf i).toNat)
  case atStart => exact ⟨0, 0, rfl, rfl, hr0⟩
  case round =>
    clear hr0
    obtain ⟨k, acc, rfl, rfl, hr⟩ := hrel
    have hkN := hr.kN
    by_cases hlt : k < N
    · have hd1 : decide ((k : Int) < (N : Int)) = true := by simp; omega
      have hd3 : decide (k < N) = true := by simp; omega
      obtain ⟨cc, hcc⟩ : ∃ cc, l[k]? = some cc := ⟨_, List.getElem?_eq_getElem (by rw [HL.out]; omega)⟩
      obtain ⟨b, off, rfl, _, hcell⟩ := H.out.form (by omega)
      have hcell := hcell k (b8 cc) (by simp [bv, hcc])
      unfold b8 at hcell
      have hcb : cc.toNat < 256 := cc.toNat_lt
      have hk10 : k < 10 := by omega
      have hst := hr.eq.trans (tk_step hk10 hcc)
      have hov := part_back (cc.toNat % 128) k (by omega)
      have hcast : ((cc.toNat % 128 : Nat) : Int) = (cc.toNat : Int) % 128 := by simp
      rw [hcast] at hov
      by_cases ho : 2 ^ 64 ≤ cc.toNat % 128 * 128 ^ k
      · rw [decide_eq_true ho] at hov
        have hres : takeN l = none := by rw [hst, if_pos (Nat.le_trans ho (Nat.le_add_left _ _))]
        have HRES := Lib.hid hres
        clear hst hcc hcast hres ho
        go_wp2_with fail
        go_ret2
        exact .inr ⟨HRES.out, rfl, rfl⟩
      · rw [decide_eq_false ho] at hov
        have hsum := part_sum acc (cc.toNat % 128) k (by omega) hr.lt ho
        have hor := part_or acc (cc.toNat % 128) k (by omega) hr.lt ho
        rw [hcast] at hor
        rw [if_neg (by omega)] at hst
        have HOR := Lib.hid hor
        have HSUM := Lib.hid hsum
        clear hor hcc hcast hsum
        by_cases hz : cc.toNat = 0 ∧ 0 < k
        · have hres : takeN l = none := by rw [hst, if_pos hz]
          have HRES := Lib.hid hres
          have hz1 : ((cc.toNat : Int) == 0) = true := by simp; omega
          have hz2 : decide ((0 : Int) < (k : Int)) = true := by simp; omega
          have hz3 : decide (0 < k) = true := by simp; omega
          clear hst hres ho hz
          go_wp2_with fail
          go_ret2
          exact .inr ⟨HRES.out, rfl, rfl⟩
        · rw [if_neg hz] at hst
          by_cases h8 : cc.toNat < 128
          · rw [if_pos h8] at hst
            have hres : takeN l = some (acc + cc.toNat % 128 * 128 ^ k, k + 1) := hst
            have HRES := Lib.hid hres
            have he8 : decide ((cc.toNat : Int) < 128) = true := by simp; omega
            clear hst hres ho
            by_cases hk0 : 0 < k
            · have hz1 : ((cc.toNat : Int) == 0) = false := by simp; omega
              clear hz
              go_wp2_with fail
              go_ret2
              refine .inl ⟨_, _, HRES.out, ?_, rfl⟩
              rw [← HOR.out]
              rfl
            · have hz2 : decide ((0 : Int) < (k : Int)) = false := by simp; omega
              have hz3 : decide (0 < k) = false := by simp; omega
              clear hz
              by_cases hc0 : cc.toNat = 0
              · have hz1 : ((cc.toNat : Int) == 0) = true := by simp; omega
                clear hc0
                go_wp2_with fail
                go_ret2
                refine .inl ⟨_, _, HRES.out, ?_, rfl⟩
                rw [← HOR.out]
                rfl
              · have hz1 : ((cc.toNat : Int) == 0) = false := by simp; omega
                clear hc0
                go_wp2_with fail
                go_ret2
                refine .inl ⟨_, _, HRES.out, ?_, rfl⟩
                rw [← HOR.out]
                rfl
          · rw [if_neg h8] at hst
            have hnx : ShRel l N (k + 1) (acc + cc.toNat % 128 * 128 ^ k) := by
              refine ⟨by omega, ?_, HSUM.out, hst⟩
              have h1 := hr.lt
              have h2 : cc.toNat % 128 * 128 ^ k ≤ 127 * 128 ^ k := Nat.mul_le_mul_right _ (by omega)
              rw [Nat.pow_succ]
              omega
            have hz1 : ((cc.toNat : Int) == 0) = false := by simp; omega
            have he8 : decide ((cc.toNat : Int) < 128) = false := by simp; omega
            clear hst ho hz
            go_wp2_with fail
            go_round
            case rel => exact ⟨k + 1, _, by rw [HOR.out], by simp, hnx⟩
            case measure => simp [intOf]; omega
    · have hres : takeN l = none := by
        have h1 := hr.eq
        have h2 := HL.out
        rcases Nat.lt_or_ge k 10 with h3 | h3
        · rw [List.drop_eq_nil_of_le (by omega), show 10 - k = (10 - (k + 1)) + 1 by omega] at h1
          rw [h1]; rfl
        · rw [show 10 - k = 0 by omega] at h1
          rw [h1]; rfl
      have HRES := Lib.hid hres
      have hd1 : decide ((k : Int) < (N : Int)) = false := by simp; omega
      have hd3 : decide (k < N) = false := by simp; omega
      clear hres
      go_wp2_with fail
      go_ret2
      exact .inr ⟨HRES.out, rfl, rfl⟩
end Go.Proofs.Ythgbafhfeblhaaa
end

section
/-
  Contracts: the program's Take, TakeText, TakeFour.
-/
namespace Go.Proofs.Ythgbafhfeblhaaa
set_option maxRecDepth 100000
open Go.RowKit

theorem bv_drop (l : List UInt8) (k : Nat) : (bv l).drop k = bv (l.drop k) := by simp [bv]
theorem bv_take (l : List UInt8) (k : Nat) : (bv l).take k = bv (l.take k) := by simp [bv]

set_option maxRecDepth 100000 in
set_option maxHeartbeats 1000000 in
theorem take_c {w : World} {B n c : Nat} {A : Option Addr} {l : List UInt8} (h : Rd w B A n c (bv l)) (hBw : B ≤ w.heap.size) (hn : n ≤ 70368744177664) :
    Calls Try.prog 65 #[.slice A n c] w (TakePost w l) := by
  have hsh := shortAt_c h hn
  have hl : l.length = n := by simpa using h.len
  cases hv : takeN l with
  | none =>
    have HT := Lib.hid (hsh.mono (R' := fun e w' => e = .returned (.tuple #[.int .u64 0, .int .i64 0]) ∧ w = w') (fun e w' hp => by
      rcases hp with ⟨v, m, h1, _⟩ | h2
      · rw [hv] at h1; cases h1
      · exact h2.2))
    have HV := Lib.hid hv
    clear hsh hl hv h hn
    go_enter Try.func65, Try.ntmps65
    go_wp2_with fail
    refine HT.out.mono ?_
    rintro e w1 ⟨rfl, rfl⟩
    go_wp2_with fail
    go_ret3
    exact TakePost.none HV.out ⟨none, 0, 0, rfl, Fr.nil, Below.refl _ _⟩
  | some r =>
    obtain ⟨v, m⟩ := r
    have HT := Lib.hid (hsh.mono (R' := fun e w' => e = .returned (.tuple #[.int .u64 (v : Int), .int .i64 (m : Int)]) ∧ w = w') (fun e w' hp => by
      rcases hp with ⟨v', m', h1, h2⟩ | h2
      · rw [hv] at h1; cases h1; exact h2
      · rw [hv] at h2; cases h2.1))
    obtain ⟨hle1, hle2, _⟩ := takeN_le hv
    obtain ⟨A1, hsl, hr⟩ := h.slice_lo 26 5 (P := Try.prog) Try.underlying26 info_u8 .i64 (k := m) (by omega)
    rw [bv_drop] at hr
    have hcl := clone_c hr hBw (by omega)
    have hm0 : ((m : Int) == 0) = false := by simp; omega
    have HV := Lib.hid hv
    have HC := Lib.hid hcl
    clear hsh hl hv h hn hle1 hle2 hcl hr
    go_enter Try.func65, Try.ntmps65
    go_wp2_with fail
    refine HT.out.mono ?_
    rintro e w1 ⟨rfl, rfl⟩
    go_wp2_with fail
    refine HC.out.mono ?_
    rintro e w1 ⟨A2, n2, c2, rfl, hf, hb⟩
    go_wp2_with fail
    go_ret3
    exact TakePost.some HV.out ⟨A2, n2, c2, rfl, hf, hb⟩

theorem u32_or_add (a b i : Nat) (ha : a < 2 ^ i) (hb : a + b * 2 ^ i < 4294967296) : bits .or .u32 (a : Int) ((b * 2 ^ i : Nat) : Int) = ((a + b * 2 ^ i : Nat) : Int) := by
  have h1 : 0 ≤ b * 2 ^ i := Nat.zero_le _
  rw [u32_or_nat _ _ (by omega) (by omega)]
  congr 1
  rw [Nat.or_comm, Nat.mul_comm b, ← Nat.two_pow_add_eq_or_of_lt ha]
  omega

theorem four_or (x0 x1 x2 x3 : UInt8) : bits .or .u32 (bits .or .u32 (bits .or .u32 (bits .or .u32 0 (x0.toNat : Int)) ((x1.toNat : Int) * 256)) ((x2.toNat : Int) * 65536)) ((x3.toNat : Int) * 16777216) = ((leV [x0, x1, x2, x3] : Nat) : Int) := by
  have b0 : x0.toNat < 256 := x0.toNat_lt
  have b1 : x1.toNat < 256 := x1.toNat_lt
  have b2 : x2.toNat < 256 := x2.toNat_lt
  have b3 : x3.toNat < 256 := x3.toNat_lt
  have e0 : bits .or .u32 0 (x0.toNat : Int) = (x0.toNat : Int) := by
    have := u32_or_nat 0 x0.toNat (by omega) (by omega)
    simpa using this
  have e1 := u32_or_add x0.toNat x1.toNat 8 (by omega) (by omega)
  have e2 := u32_or_add (x0.toNat + x1.toNat * 2 ^ 8) x2.toNat 16 (by omega) (by omega)
  have e3 := u32_or_add (x0.toNat + x1.toNat * 2 ^ 8 + x2.toNat * 2 ^ 16) x3.toNat 24 (by omega) (by omega)
  rw [e0, show (x1.toNat : Int) * 256 = ((x1.toNat * 2 ^ 8 : Nat) : Int) by omega, e1, show (x2.toNat : Int) * 65536 = ((x2.toNat * 2 ^ 16 : Nat) : Int) by omega, e2,
    show (x3.toNat : Int) * 16777216 = ((x3.toNat * 2 ^ 24 : Nat) : Int) by omega, e3]
  simp only [leV]
  omega

end Go.Proofs.Ythgbafhfeblhaaa
end

section
/-
  Contracts: the program's TakeText.
-/
namespace Go.Proofs.Ythgbafhfeblhaaa
set_option maxRecDepth 100000
open Go.RowKit

set_option maxRecDepth 100000 in
set_option maxHeartbeats 2000000 in
theorem takeText_c {w : World} {B n c : Nat} {A : Option Addr} {l : List UInt8} (h : Rd w B A n c (bv l)) (hBw : B ≤ w.heap.size) (hn : n ≤ 70368744177664) (most : Int) (hm0 : -9223372036854775808 ≤ most) (hm1 : most ≤ 9223372036854775807) :
    Calls Try.prog 72 #[.slice A n c, .int .i64 most] w (TextPost w l most) := by
  have hsh := shortAt_c h hn
  have hl : l.length = n := by simpa using h.len
  cases hv : takeN l with
  | none =>
    have hres : textTake l most = none := by simp [textTake, hv]
    have HT := Lib.hid (hsh.mono (R' := fun e w' => e = .returned (.tuple #[.int .u64 0, .int .i64 0]) ∧ w = w') (fun e w' hp => by
      rcases hp with ⟨v, m, h1, _⟩ | h2
      · rw [hv] at h1; cases h1
      · exact h2.2))
    obtain ⟨A1, hsl, hr⟩ := h.slice_lo 26 5 (P := Try.prog) Try.underlying26 info_u8 .i64 (k := 0) (by omega)
    rw [show ((0 : Nat) : Int) = 0 from rfl] at hsl
    have HR := Lib.hid hres
    clear hsh hl hv h hn hm0 hm1 hr hres
    go_enter Try.func72, Try.ntmps72
    go_wp2_with fail
    refine HT.out.mono ?_
    rintro e w1 ⟨rfl, rfl⟩
    go_wp2_with fail
    go_ret3
    exact TextPost.none HR.out ⟨none, 0, 0, rfl, Fr.nil, Below.refl _ _⟩
  | some r =>
    obtain ⟨v, m⟩ := r
    have hres : textTake l most = if 0 ≤ most ∧ (v : Int) ≤ most ∧ v ≤ (l.drop m).length then some ((l.drop m).take v, (l.drop m).drop v) else none := by simp [textTake, hv]
    have HT := Lib.hid (hsh.mono (R' := fun e w' => e = .returned (.tuple #[.int .u64 (v : Int), .int .i64 (m : Int)]) ∧ w = w') (fun e w' hp => by
      rcases hp with ⟨v', m', h1, h2⟩ | h2
      · rw [hv] at h1; cases h1; exact h2
      · rw [hv] at h2; cases h2.1))
    obtain ⟨hle1, hle2, _⟩ := takeN_le hv
    obtain ⟨A1, hsl, hr⟩ := h.slice_lo 26 5 (P := Try.prog) Try.underlying26 info_u8 .i64 (k := m) (by omega)
    rw [bv_drop] at hr
    have hcap := h.cap
    obtain ⟨n2, hn2⟩ : ∃ n2, n - m = n2 := ⟨_, rfl⟩
    obtain ⟨c2, hc2⟩ : ∃ c2, c - m = c2 := ⟨_, rfl⟩
    have hlen2 : (l.drop m).length = n2 := by simp; omega
    rw [hn2, hc2] at hsl hr
    rw [hlen2] at hres
    have hm00 : ((m : Int) == 0) = false := by simp; omega
    have hn2s : n2 ≤ 70368744177664 := by omega
    have HR := Lib.hid hres
    have hc2n : n2 ≤ c2 := by omega
    clear hsh hl hv hres h hn hle1 hle2 hn2 hc2 hcap hlen2
    generalize l.drop m = t at *
    by_cases h0 : most < 0
    · have hfin : textTake l most = none := by rw [HR.out, if_neg (by omega)]
      have HF := Lib.hid hfin
      clear hfin hr hn2s
      have hd : decide (most < 0) = true := by simp; omega
      go_enter Try.func72, Try.ntmps72
      go_wp2_with fail
      refine HT.out.mono ?_
      rintro e w1 ⟨rfl, rfl⟩
      go_wp2_with fail
      go_ret3
      exact TextPost.none HF.out ⟨none, 0, 0, rfl, Fr.nil, Below.refl _ _⟩
    · obtain ⟨M, hM⟩ : ∃ M : Nat, min most (n2 : Int) = (M : Int) := ⟨(min most (n2 : Int)).toNat, by omega⟩
      have hd : decide (most < 0) = false := by simp; omega
      by_cases h1 : M < v
      · have hfin : textTake l most = none := by rw [HR.out, if_neg (by omega)]
        have HF := Lib.hid hfin
        have hd1 : decide ((M : Int) < (v : Int)) = true := by simp; omega
        have hd2 : decide (M < v) = true := by simp; omega
        have hMb : (M : Int) ≤ 9223372036854775807 := by omega
        clear hfin hr hn2s
        go_enter Try.func72, Try.ntmps72
        go_wp2_with fail
        refine HT.out.mono ?_
        rintro e w1 ⟨rfl, rfl⟩
        go_wp2_with fail
        go_ret3
        exact TextPost.none HF.out ⟨none, 0, 0, rfl, Fr.nil, Below.refl _ _⟩
      · have hfin : textTake l most = some (t.take v, t.drop v) := by rw [HR.out, if_pos (by omega)]
        have HF := Lib.hid hfin
        have hd1 : decide ((M : Int) < (v : Int)) = false := by simp; omega
        have hd2 : decide (M < v) = false := by simp; omega
        have hMb : (M : Int) ≤ 9223372036854775807 := by omega
        have hvn : v ≤ n2 := by omega
        obtain ⟨A3, hsl3, hr3⟩ := hr.slice_lo 26 5 (P := Try.prog) Try.underlying26 info_u8 .u64 (k := v) hvn
        rw [bv_drop] at hr3
        have hsf := fun W => run_slice_hi_gen (P := Try.prog) (n := n2) (A := A1) 26 5 Try.underlying26 info_u8 .u64 (k := v) (c := c2) (by omega) W
        have hfr := hr.front hvn
        rw [bv_take] at hfr
        have r1 : ∀ W, Below w.heap.size w W → (convert 26 9 (.slice A1 v c2)).run Try.prog W = .ok (.string ⟨(t.take v).toArray⟩) W := fun W hb => run_str (P := Try.prog) (hfr.under hb hBw) 26 9 5 Try.underlying26 Try.underlying5 Try.underlying9
        have r0 := r1 _ (below_drewN (Below.refl _ _) 1)
        rw [show w.drewN 1 = w.drew from rfl] at r0
        have R1 := Lib.hid r1
        have hcl := clone_c (w := w.drew) hr3.drew hBw (by omega)
        have HC := Lib.hid hcl
        clear hfin hr hn2s r1 hcl hr3 hfr hc2n
        go_enter Try.func72, Try.ntmps72
        go_wp2_with fail
        refine HT.out.mono ?_
        rintro e w1 ⟨rfl, rfl⟩
        go_wp2_with fail
        go_region_with (go_at_call 69; refine HC.out.mono ?_; rintro e w2 ⟨A2, n3, c3, rfl, hf2, hb2⟩; have r2 := R1.out w2 ((below_drewN (Below.refl _ _) 1).trans hb2))
        all_goals go_wp2
        all_goals go_ret3
        all_goals exact TextPost.some HF.out ⟨_, _, _, rfl, hf2, (below_drewN (Below.refl _ _) 1).trans hb2⟩
end Go.Proofs.Ythgbafhfeblhaaa
end
