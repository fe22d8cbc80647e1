/-
  The texts FrC3, FrC4, FrC5, in one.
-/
import Derived.Test.YtkdjjdkcogolmaaGreatDoorFrC2
section
/-
  Contract: the program's Sum.
-/
namespace Go.Proofs.YtkdjjdkcogolmaaGreatDoor
set_option maxRecDepth 100000
open Go.RowKit

/-- A number, and nothing that was there has turned. -/
def RetU (w : World) (x : BitVec 32) (e : Ending) (w' : World) : Prop := e = .returned (.int .u32 (x.toNat : Int)) ∧ Below w.heap.size w w'

theorem bstep_val (r : BitVec 32) (c : UInt8) : bits .xor .u32 ((r.toNat : Int) / 256) ((tabB (r.toNat % 256 ^^^ c.toNat)).toNat : Int) = ((bstep r c).toNat : Int) := by
  have hr := r.isLt
  have := u32_xor_nat (r.toNat / 256) (tabB (r.toNat % 256 ^^^ c.toNat)).toNat (by omega) (tabB _).isLt
  rw [bstep_tab, BitVec.toNat_xor, BitVec.toNat_ofNat, Nat.mod_eq_of_lt (show r.toNat / 256 < 2 ^ 32 by omega), ← this]
  rfl
theorem take_succ {l : List UInt8} {k : Nat} {c : UInt8} (hc : l[k]? = some c) : l.take (k + 1) = l.take k ++ [c] := by
  rw [List.take_add_one, hc]; rfl

set_option maxRecDepth 100000 in
set_option maxHeartbeats 1000000 in
theorem sum_c {w : World} {B n c : Nat} {A : Option Addr} {l : List UInt8} (h : Rd w B A n c (bv l)) (hB : B ≤ w.heap.size) :
    Calls Tryz.prog 79 #[.slice A n c] w (RetU w (sumL l)) := by
  obtain ⟨Z, hZ1, hZ2, hZ⟩ := zero_tab
  have hl : l.length = n := by simpa using h.len
  have hmax := h.max
  have hcap := h.cap
  unfold maxLen at hmax
  have hni : (n : Int) ≤ 9223372036854775807 := by omega
  have H := Lib.hid h
  have HL := Lib.hid hl
  have HB := Lib.hid hB
  clear h hl hB hZ2 hmax
  go_enter Tryz.func79, Tryz.ntmps79
  go_wp2_with fail
  refine contributions_c.mono ?_
  rintro e w1 ⟨v, rfl, ⟨cs, rfl, hc1, hc2⟩, hb1⟩
  have hin : (Tryz.prog.info? 120).map (·.size) = some cs.size := by rw [hc1]; kernel_rfl
  have hone : (cs.all fun x => x.oneCell') = true := by
    rw [Array.all_eq_true]
    intro i hi
    have := hc2 i (by omega)
    rw [Array.getElem?_eq_getElem hi] at this
    rw [Option.some.inj this]
    rfl
  have HI := Lib.hid hin
  have HC2 := Lib.hid hc2
  have HB1 := Lib.hid hb1
  clear hin hc2 hb1
  go_wp2_with (refine wpList_store_row rfl 120 _ _ rfl w1.heap.size cs rfl rfl 120 Z (heap_alloc_new _ _) HI.out (by rw [hZ1, hc1]) hone ?_)
  obtain ⟨g, hg⟩ : ∃ g, w1.heap.size = g := ⟨_, rfl⟩
  obtain ⟨w2, hw2⟩ : ∃ w2, (w1.alloc (.cells Z 120)).setRow w1.heap.size cs = w2 := ⟨_, rfl⟩
  have hb2 : Below w.heap.size w w2 := by
    rw [← hw2]
    exact below_setRow (HB1.out.alloc HB1.out.size _) HB1.out.size cs
  have hh2 : w2.heap[g]? = some (.cells cs 120) := by
    rw [← hw2, ← hg]
    exact setRow_heap _ _ _ _ _ _ (heap_alloc_new _ _)
  have ht : ∀ i < 256, w2.cell? ⟨g, i, none⟩ = some (.int .u32 ((tabB i).toNat : Int)) := fun i hi => by
    rw [cell_of_row _ _ _ _ _ _ hh2]; exact HC2.out i hi
  have hr2 := H.out.under hb2 HB.out
  rw [hw2, hg]
  have HT := Lib.hid ht
  have H2 := Lib.hid hr2
  have HB2 := Lib.hid hb2
  clear hw2 hb2 hh2 ht hr2 hone HI HC2 HB1 H hZ hZ1 hc1 hg
  go_loop [4, 10] (fun r i => ∃ k : Nat, k ≤ n ∧ i = .int .i64 (k : Int) ∧ r = .int .u32 ((reg (BitVec.allOnes 32) (l.take k)).toNat : Int)) (fun _ i => (n - intOf i).toNat)
  case atStart => exact ⟨0, by omega, rfl, rfl⟩
  case round =>
    obtain ⟨k, hk, rfl, rfl⟩ := hrel
    by_cases hlt : k < n
    · have hd : decide ((k : Int) < (n : Int)) = true := by simp; omega
      have hd2 : decide (k < n) = true := by simp; omega
      obtain ⟨cc, hcc⟩ : ∃ cc, l[k]? = some cc := ⟨_, List.getElem?_eq_getElem (by rw [HL.out]; exact hlt)⟩
      obtain ⟨b, off, rfl, _, hcell⟩ := H2.out.form (by omega)
      have hcell := hcell k (b8 cc) (by simp [bv, hcc])
      unfold b8 at hcell
      obtain ⟨r, hr⟩ : ∃ r, reg (BitVec.allOnes 32) (l.take k) = r := ⟨_, rfl⟩
      have hnx : reg (BitVec.allOnes 32) (l.take (k + 1)) = bstep r cc := by rw [take_succ hcc, reg_snoc, hr]
      have hcb : cc.toNat < 256 := cc.toNat_lt
      have hx8 : bits .xor .u8 ((r.toNat : Int) % 256) (cc.toNat : Int) = ((r.toNat % 256 ^^^ cc.toNat : Nat) : Int) := by
        rw [← u8_xor_nat _ _ (by omega) hcb]; rfl
      have hxl : r.toNat % 256 ^^^ cc.toNat < 256 := Nat.xor_lt_two_pow (n := 8) (by omega) (by omega)
      have hst := bstep_val r cc
      have htc := HT.out _ hxl
      generalize r.toNat % 256 ^^^ cc.toNat = ix at *
      have hxi : (ix : Int) < 256 := by omega
      have HN := Lib.hid hnx
      rw [hr]
      clear hnx hr hcc
      go_wp2
      go_round
      case rel => exact ⟨k + 1, by omega, by simp, by rw [HN.out]⟩
      case measure => simp [intOf]; omega
    · obtain rfl : k = n := by omega
      have hd : decide ((k : Int) < (k : Int)) = false := by simp
      have hd2 : decide (k < k) = false := by simp
      have hfin : reg (BitVec.allOnes 32) (l.take k) = sumL l := by rw [← HL.out, List.take_length]; rfl
      rw [hfin]
      clear hfin
      go_wp2
      go_ret
      exact ⟨rfl, HB2.out⟩
end Go.Proofs.YtkdjjdkcogolmaaGreatDoor
end

section
/-
  Contract: the reference's Sum, bit by bit.
-/
namespace Go.Proofs.YtkdjjdkcogolmaaGreatDoor
set_option maxRecDepth 100000
open Go.RowKit

/-- The reference's step within a byte. -/
structure BitAt (s : BitVec 32) (k : Nat) (r c : Nat) : Prop where
  lt : r < 4294967296
  clt : c < 2 ^ (8 - k)
  eq : shN (8 - k) (BitVec.ofNat 32 (r ^^^ c)) = s

theorem bit_next {s : BitVec 32} {k r c : Nat} (h : BitAt s k r c) (hk : k < 8) : BitAt s (k + 1) (if r % 2 = c % 2 then r / 2 else r / 2 ^^^ 3945912366) (c / 2) := by
  have h1 := h.lt
  have h2 := h.clt
  have h3 := h.eq
  have hp : (2 : Nat) ^ (8 - k) = 2 * 2 ^ (8 - (k + 1)) := by rw [show 8 - k = (8 - (k + 1)) + 1 by omega, Nat.pow_succ]; omega
  have hp8 : (2 : Nat) ^ (8 - k) ≤ 2 ^ 8 := Nat.pow_le_pow_right (by decide) (by omega)
  have hx : r ^^^ c < 2 ^ 32 := Nat.xor_lt_two_pow h1 (by omega)
  have hs : sh (BitVec.ofNat 32 (r ^^^ c)) = BitVec.ofNat 32 ((if r % 2 = c % 2 then r / 2 else r / 2 ^^^ 3945912366) ^^^ (c / 2)) := by
    apply BitVec.eq_of_toNat_eq
    have e2 : (r ^^^ c) / 2 = r / 2 ^^^ c / 2 := by
      have := Nat.shiftRight_xor_distrib (a := r) (b := c) (i := 1)
      simp only [Nat.shiftRight_eq_div_pow, Nat.pow_one] at this
      exact this
    have e1 : ((r ^^^ c) % 2 = 1) = ¬ (r % 2 = c % 2) := by
      have ha : r % 2 = 0 ∨ r % 2 = 1 := by omega
      have hb : c % 2 = 0 ∨ c % 2 = 1 := by omega
      rcases ha with ha | ha <;> rcases hb with hb | hb <;> simp [ha, hb]
    have hP : (3945912366 : Nat) < 2 ^ 32 := by decide
    rw [sh_toNat, BitVec.toNat_ofNat, BitVec.toNat_ofNat, Nat.mod_eq_of_lt hx, e2]
    by_cases h0 : r % 2 = c % 2
    · rw [if_neg (by rw [e1]; exact fun h => h h0), if_pos h0, Nat.mod_eq_of_lt]
      exact Nat.xor_lt_two_pow (by omega) (by omega)
    · rw [if_pos (by rw [e1]; exact h0), if_neg h0, Nat.mod_eq_of_lt]
      · ac_rfl
      · exact Nat.xor_lt_two_pow (Nat.xor_lt_two_pow (by omega) hP) (by omega)
  refine ⟨?_, ?_, ?_⟩
  · split
    · omega
    · exact Nat.xor_lt_two_pow (n := 32) (by omega) (by decide)
  · omega
  · rw [← hs, ← h3, show 8 - k = (8 - (k + 1)) + 1 by omega]
    rfl
theorem bit_first (r : BitVec 32) (c : UInt8) : BitAt (bstep r c) 0 r.toNat c.toNat := by
  have hr := r.isLt
  have hc := c.toNat_lt
  refine ⟨by omega, by omega, ?_⟩
  unfold bstep bx
  congr 1
  apply BitVec.eq_of_toNat_eq
  have : r.toNat ^^^ c.toNat < 2 ^ 32 := Nat.xor_lt_two_pow (by omega) (by omega)
  rw [BitVec.toNat_xor, BitVec.toNat_ofNat, BitVec.toNat_ofNat, Nat.mod_eq_of_lt this, Nat.mod_eq_of_lt (show c.toNat < 2 ^ 32 by omega)]
theorem bit_last {s : BitVec 32} {r c : Nat} (h : BitAt s 8 r c) : r = s.toNat := by
  have h1 := h.lt
  have h2 := h.clt
  have h3 := h.eq
  obtain rfl : c = 0 := by simpa using h2
  rw [← h3]
  simp [shN]
  omega

set_option maxRecDepth 100000 in
set_option maxHeartbeats 1000000 in
theorem refSum_c {w : World} {B n c : Nat} {A : Option Addr} {l : List UInt8} (h : Rd w B A n c (bv l)) :
    Calls Tryz.prog 59 #[.slice A n c] w fun e w' => e = .returned (.int .u32 ((sumL l).toNat : Int)) ∧ w = w' := by
  have hl : l.length = n := by simpa using h.len
  have hmax := h.max
  have hcap := h.cap
  unfold maxLen at hmax
  have hni : (n : Int) ≤ 9223372036854775807 := by omega
  have H := Lib.hid h
  have HL := Lib.hid hl
  clear h hl hmax
  go_enter Tryz.func59, Tryz.ntmps59
  go_wp2
  go_loop [3, 4] (fun r i => ∃ k : Nat, k ≤ n ∧ i = .int .i64 (k : Int) ∧ r = .int .u32 ((reg (BitVec.allOnes 32) (l.take k)).toNat : Int)) (fun _ i => (n - intOf i).toNat)
  case atStart => exact ⟨0, by omega, rfl, rfl⟩
  case round =>
    obtain ⟨k, hk, rfl, rfl⟩ := hrel
    by_cases hlt : k < n
    · have hd : decide ((k : Int) < (n : Int)) = true := by simp; omega
      have hd2 : decide (k < n) = true := by simp; omega
      obtain ⟨cc, hcc⟩ : ∃ cc, l[k]? = some cc := ⟨_, List.getElem?_eq_getElem (by rw [HL.out]; exact hlt)⟩
      obtain ⟨b, off, rfl, _, hcell⟩ := H.out.form (by omega)
      have hcell := hcell k (b8 cc) (by simp [bv, hcc])
      unfold b8 at hcell
      have hcb : cc.toNat < 256 := cc.toNat_lt
      obtain ⟨r, hr⟩ : ∃ r, reg (BitVec.allOnes 32) (l.take k) = r := ⟨_, rfl⟩
      have hnx : reg (BitVec.allOnes 32) (l.take (k + 1)) = bstep r cc := by rw [take_succ hcc, reg_snoc, hr]
      have hf := bit_first r cc
      have HN := Lib.hid hnx
      have HF := Lib.hid hf
      rw [hr]
      have hrl := r.isLt
      clear hnx hr hcc hf
      go_wp2
      go_loop [3, 5, 6] (fun rr cv j => ∃ (q a b : Nat), q ≤ 8 ∧ j = .int .i64 (q : Int) ∧ rr = .int .u32 (a : Int) ∧ cv = .int .u32 (b : Int) ∧ BitAt (bstep r cc) q a b) (fun _ _ j => (8 - intOf j).toNat)
      case atStart => exact ⟨0, _, _, by omega, rfl, rfl, rfl, HF.out⟩
      case round =>
        obtain ⟨q, a, b, hq, rfl, rfl, rfl, hb⟩ := hrel
        by_cases hq8 : q < 8
        · have hdq : decide ((q : Int) < 8) = true := by simp; omega
          have hnb := bit_next hb hq8
          have hal := hb.lt
          have hbl : b < 256 := by
            have h2 := hb.clt
            have hp8 : (2 : Nat) ^ (8 - q) ≤ 2 ^ 8 := Nat.pow_le_pow_right (by decide) (by omega)
            omega
          clear hb
          by_cases h0 : a % 2 = b % 2
          · have hdc : ((a : Int) % 2 != (b : Int) % 2) = false := by simp; omega
            rw [if_pos h0] at hnb
            clear h0
            go_wp2
            go_round
            case rel => exact ⟨q + 1, _, _, by omega, by simp, by simp, by simp, hnb⟩
            case measure => simp [intOf]; omega
          · have hdc : ((a : Int) % 2 != (b : Int) % 2) = true := by simp; omega
            rw [if_neg h0] at hnb
            have hx : bits .xor .u32 ((a : Int) / 2) 3945912366 = ((a / 2 ^^^ 3945912366 : Nat) : Int) := by
              rw [← u32_xor_nat _ _ (by omega) (by omega)]; rfl
            clear h0
            go_wp2
            go_round
            case rel => exact ⟨q + 1, _, _, by omega, by simp, rfl, by simp, hnb⟩
            case measure => simp [intOf]; omega
        · obtain rfl : q = 8 := by omega
          have hdq : decide (((8 : Nat) : Int) < 8) = false := by decide
          have hl := bit_last hb
          subst hl
          clear hb
          go_wp2
          go_round
          case rel => exact ⟨k + 1, by omega, by simp, by rw [HN.out]⟩
          case measure => simp [intOf]; omega
    · obtain rfl : k = n := by omega
      have hd : decide ((k : Int) < (k : Int)) = false := by simp
      have hd2 : decide (k < k) = false := by simp
      have hfin : reg (BitVec.allOnes 32) (l.take k) = sumL l := by rw [← HL.out, List.take_length]; rfl
      rw [hfin]
      clear hfin
      go_wp2
      go_ret
      exact ⟨rfl, rfl⟩
end Go.Proofs.YtkdjjdkcogolmaaGreatDoor
end

section
/-
  Contracts: the program's fourAt and Seal; frames as mathematics.
-/
namespace Go.Proofs.YtkdjjdkcogolmaaGreatDoor
set_option maxRecDepth 100000
open Go.RowKit

theorem run_slice_lohi {P : Program} {n c : Nat} {A : Option Addr} (t e : TypeId) {z : Value} {by_ : Nat} (ht : P.underlying t = some (.slice e)) (hinf : (P.info? e).map (fun i => (i.zero, i.size, i.bytes)) = some (some z, 1, by_))
    (kl kh : IntKind) {i k : Nat} (hi : i ≤ k) (hk : k ≤ c) (W : World) :
    (Instr.slice t (.slice A n c) (some (.int kl (i : Int))) (some (.int kh (k : Int))) none).run P W = .ok (.slice (if c = i then A else A.map (·.add i)) (k - i) (c - i)) W := by
  obtain ⟨j, hj, hz0, hz1, hz2⟩ := info_parts hinf
  simp [Instr.slice, Instr.sliceBounds, run_underlying ht, run_sliceBound, hk, hi, sizeOf, typeInfo, hj, hz1]
/-- A part of a slice ('b[i:k]'). -/
theorem Rd.part {w : World} {B n c : Nat} {A : Option Addr} {xs : List Value} (h : Rd w B A n c xs) {i k : Nat} (hi : i ≤ k) (hk : k ≤ n) : Rd w B (if c = i then A else A.map (·.add i)) (k - i) (c - i) ((xs.drop i).take (k - i)) :=
  (h.back (k := i) (by omega)).front (by omega)

theorem Rd.slice_lohi {P : Program} {w : World} {B n c : Nat} {A : Option Addr} {xs : List Value} (h : Rd w B A n c xs) (t e : TypeId) {z : Value} {by_ : Nat} (ht : P.underlying t = some (.slice e)) (hinf : (P.info? e).map (fun i => (i.zero, i.size, i.bytes)) = some (some z, 1, by_))
    (kl kh : IntKind) {i k : Nat} (hi : i ≤ k) (hk : k ≤ n) :
    ∃ A' c', (∀ W, (Instr.slice t (.slice A n c) (some (.int kl (i : Int))) (some (.int kh (k : Int))) none).run P W = .ok (.slice A' (k - i) c') W) ∧ Rd w B A' (k - i) c' ((xs.drop i).take (k - i)) :=
  ⟨_, _, fun W => run_slice_lohi t e ht hinf kl kh hi (Nat.le_trans hk h.cap) W, h.part hi hk⟩

/-- The number at a place of bytes, and whether there is one. -/
def RetAt (w : World) (l : List UInt8) (at_ : Nat) (e : Ending) (w' : World) : Prop :=
  Below w.heap.size w w' ∧ ((at_ + 4 ≤ l.length ∧ e = .returned (.tuple #[.int .u32 (leV ((l.drop at_).take 4) : Int), .bool true])) ∨ (l.length < at_ + 4 ∧ e = .returned (.tuple #[.int .u32 0, .bool false])))

set_option maxRecDepth 100000 in
set_option maxHeartbeats 1000000 in
theorem fourAt_c {w : World} {B n c : Nat} {A : Option Addr} {l : List UInt8} (h : Rd w B A n c (bv l)) (hB : B ≤ w.heap.size) (at_ : Nat) (ha : at_ ≤ 4294967300) :
    Calls Tryz.prog 109 #[.slice A n c, .int .i64 (at_ : Int)] w (RetAt w l at_) := by
  have hl : l.length = n := by simpa using h.len
  have hmax := h.max
  have hcap := h.cap
  unfold maxLen at hmax
  have hni : (n : Int) ≤ 9223372036854775807 := by omega
  have hai : (at_ : Int) ≤ 4294967300 := by omega
  by_cases h4 : at_ + 4 ≤ n
  · obtain ⟨A1, c1, hs, hp⟩ := h.slice_lohi (P := Tryz.prog) 24 5 Tryz.underlying24 info_u8 .i64 .i64 (i := at_) (k := at_ + 4) (by omega) h4
    rw [bv_drop, bv_take, show at_ + 4 - at_ = 4 by omega] at hp
    rw [show at_ + 4 - at_ = 4 by omega, show ((at_ + 4 : Nat) : Int) = (at_ : Int) + 4 by omega] at hs
    have ht := takeFour_c hp hB (by decide) (by simp; omega)
    rw [List.take_take, Nat.min_self] at ht
    have hd : decide ((n : Int) < (at_ : Int) + 4) = false := by simp; omega
    have hfin : at_ + 4 ≤ l.length := by omega
    unfold RetAt
    generalize leV ((l.drop at_).take 4) = x at *
    have HT := Lib.hid ht
    have HF := Lib.hid hfin
    clear ht hp h hl hmax hfin h4 ha
    go_enter Tryz.func109, Tryz.ntmps109
    go_wp2_with fail
    refine HT.out.mono ?_
    rintro e w1 ⟨A1, n1, c1, rfl, hf1, hb1⟩
    go_wp2
    go_ret2
    exact ⟨hb1, .inl ⟨HF.out, rfl⟩⟩
  · have hd : decide ((n : Int) < (at_ : Int) + 4) = true := by simp; omega
    have hfin : l.length < at_ + 4 := by omega
    have HF := Lib.hid hfin
    clear h hl hmax hfin h4 ha
    go_enter Tryz.func109, Tryz.ntmps109
    go_wp2
    go_ret2
    exact ⟨Below.refl _ _, .inr ⟨HF.out, rfl⟩⟩

/-- A frame's first bytes: the length, and what is within. -/
def headL (b : List UInt8) : List UInt8 := fourL b.length ++ b
/-- A frame. -/
def sealL (b : List UInt8) : List UInt8 := headL b ++ fourL (sumL (headL b)).toNat

set_option maxRecDepth 100000 in
set_option maxHeartbeats 1000000 in
theorem seal_c {w : World} {B n c : Nat} {A : Option Addr} {l : List UInt8} (h : Rd w B A n c (bv l)) (hB : B ≤ w.heap.size) (hn : n ≤ 1048576) :
    Calls Tryz.prog 52 #[.slice A n c] w (RetB w (sealL l)) := by
  have hl : l.length = n := by simpa using h.len
  have hd : decide ((1048576 : Int) < (n : Int)) = false := by simp; omega
  have hni : (n : Int) ≤ 1048576 := by omega
  have hp := putFour_c (w := w) (B := 0) (l := []) Rd.nilv (Nat.zero_le _) (by omega) (n : Int) (by omega) (by omega)
  rw [List.nil_append, Int.toNat_natCast] at hp
  have H := Lib.hid h
  have HB := Lib.hid hB
  have HL := Lib.hid hl
  have HP := Lib.hid hp
  have HN := Lib.hid hn
  clear h hB hl hp hn
  go_enter Tryz.func52, Tryz.ntmps52
  go_wp2_with fail
  refine HP.out.mono ?_
  rintro e w1 ⟨A1, n1, c1, rfl, hf1, hb1⟩
  have hn1 : n1 = 4 := by rw [← hf1.len]; rfl
  subst hn1
  have hbs := hb1.size
  have hr1 := H.out.under hb1 HB.out
  go_wp2_with (at_builtin; refine wpList_app rfl (.tmp 10) (.tmp 11) _ rfl Tryz.underlying24 info_u8 rfl rfl hf1 rfl hr1 (bv_one _) (by have := HN.out; omega) (by have := HN.out; omega) hbs ?_; intro A2 c2 w2 hap)
  have hf2 := hap.fr
  rw [← bv_append] at hf2
  have hb2 := hb1.trans hap.below
  have hn2 : 4 + n ≤ 70368744177664 := by have := HN.out; omega
  have hhd : fourL n ++ l = headL l := by unfold headL; rw [HL.out]
  rw [hhd] at hf2
  have HF2 := Lib.hid hf2
  have HN2 := Lib.hid hn2
  have HB2 := Lib.hid hb2
  clear hap hn2 hb2 hf2 hr1 hb1 hf1 hbs hhd
  refine (sum_c (HF2.out.rd (Nat.le_refl _)) (Nat.le_refl _)).mono ?_
  rintro e w3 ⟨rfl, hb3⟩
  have hp2 := putFour_c (w := w3) ((HF2.out.rd (Nat.le_refl _)).under hb3 (Nat.le_refl _)) hb3.size HN2.out ((sumL (headL l)).toNat : Int) (by omega) (by have := (sumL (headL l)).isLt; omega)
  rw [Int.toNat_natCast] at hp2
  have HP2 := Lib.hid hp2
  have hb3' := HB2.out.trans (hb3.mono HB2.out.size)
  have HB3 := Lib.hid hb3'
  clear hp2 hb3 hb3'
  go_wp2_with fail
  refine HP2.out.mono ?_
  rintro e w4 ⟨A4, n4, c4, rfl, hf4, hb4⟩
  go_wp2
  go_ret
  exact ⟨A4, n4, c4, rfl, hf4.mono HB3.out.size, HB3.out.trans (hb4.mono HB3.out.size)⟩
end Go.Proofs.YtkdjjdkcogolmaaGreatDoor
end
