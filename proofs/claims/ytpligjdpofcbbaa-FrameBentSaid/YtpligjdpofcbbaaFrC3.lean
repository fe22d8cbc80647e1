/-
  Contract: the program's Sum.
-/
import Derived.Test.YtpligjdpofcbbaaFrC2
namespace Go.Proofs.Ytpligjdpofcbbaa
open Go.RowKit

/-- A number, and nothing that was there has turned. -/
def RetU (w : World) (x : BitVec 32) (e : Ending) (w' : World) : Prop := e = .returned (.int .u32 (x.toNat : Int)) ∧ Below w.heap.size w w'

theorem bstep_val (r : BitVec 32) (c : UInt8) : bits .xor .u32 ((r.toNat : Int) / 256) ((tabB (r.toNat % 256 ^^^ c.toNat)).toNat : Int) = ((bstep r c).toNat : Int) := by
  have hr := r.isLt
  have := u32_xor_nat (r.toNat / 256) (tabB (r.toNat % 256 ^^^ c.toNat)).toNat (by omega) (tabB _).isLt
  rw [bstep_tab, BitVec.toNat_xor, BitVec.toNat_ofNat, Nat.mod_eq_of_lt (show r.toNat / 256 < 2 ^ 32 by omega), ← this]
  rfl
theorem take_succ {l : List UInt8} {k : Nat} {c : UInt8} (hc : l[k]? = some c) : l.take (k + 1) = l.take k ++ [c] := by
  rw [List.take_add_one, hc]; rfl

set_option maxRecDepth 100000 in
set_option maxHeartbeats 1000000 in
theorem sum_c {w : World} {B n c : Nat} {A : Option Addr} {l : List UInt8} (h : Rd w B A n c (bv l)) (hB : B ≤ w.heap.size) :
    Calls Try.prog 11 #[.slice A n c] w (RetU w (sumL l)) := by
  obtain ⟨Z, hZ1, hZ2, hZ⟩ := zero_tab
  have hl : l.length = n := by simpa using h.len
  have hmax := h.max
  have hcap := h.cap
  unfold maxLen at hmax
  have hni : (n : Int) ≤ 9223372036854775807 := by omega
  have H := Lib.hid h
  have HL := Lib.hid hl
  have HB := Lib.hid hB
  clear h hl hB hZ2 hmax
  go_enter Try.func11, Try.ntmps11
  go_wp2_with fail
  refine contributions_c.mono ?_
  rintro e w1 ⟨v, rfl, ⟨cs, rfl, hc1, hc2⟩, hb1⟩
  have hin : (Try.prog.info? 38).map (·.size) = some cs.size := by rw [hc1]; kernel_rfl
  have hone : (cs.all fun x => x.oneCell') = true := by
    rw [Array.all_eq_true]
    intro i hi
    have := hc2 i (by omega)
    rw [Array.getElem?_eq_getElem hi] at this
    rw [Option.some.inj this]
    rfl
  have HI := Lib.hid hin
  have HC2 := Lib.hid hc2
  have HB1 := Lib.hid hb1
  clear hin hc2 hb1
  go_wp2_with (refine wpList_store_row rfl 38 _ _ rfl w1.heap.size cs rfl rfl 38 Z (heap_alloc_new _ _) HI.out (by rw [hZ1, hc1]) hone ?_)
  obtain ⟨g, hg⟩ : ∃ g, w1.heap.size = g := ⟨_, rfl⟩
  obtain ⟨w2, hw2⟩ : ∃ w2, (w1.alloc (.cells Z 38)).setRow w1.heap.size cs = w2 := ⟨_, rfl⟩
  have hb2 : Below w.heap.size w w2 := by
    rw [← hw2]
    exact below_setRow (HB1.out.alloc HB1.out.size _) HB1.out.size cs
  have hh2 : w2.heap[g]? = some (.cells cs 38) := by
    rw [← hw2, ← hg]
    exact setRow_heap _ _ _ _ _ _ (heap_alloc_new _ _)
  have ht : ∀ i < 256, w2.cell? ⟨g, i, none⟩ = some (.int .u32 ((tabB i).toNat : Int)) := fun i hi => by
    rw [cell_of_row _ _ _ _ _ _ hh2]; exact HC2.out i hi
  have hr2 := H.out.under hb2 HB.out
  rw [hw2, hg]
  have HT := Lib.hid ht
  have H2 := Lib.hid hr2
  have HB2 := Lib.hid hb2
  clear hw2 hb2 hh2 ht hr2 hone HI HC2 HB1 H hZ hZ1 hc1 hg
  go_loop [4, 10] (fun r i => ∃ k : Nat, k ≤ n ∧ i = .int .i64 (k : Int) ∧ r = .int .u32 ((reg (BitVec.allOnes 32) (l.take k)).toNat : Int)) (fun _ i => (n - intOf i).toNat)
  case atStart => exact ⟨0, by omega, rfl, rfl⟩
  case round =>
    obtain ⟨k, hk, rfl, rfl⟩ := hrel
    by_cases hlt : k < n
    · have hd : decide ((k : Int) < (n : Int)) = true := by simp; omega
      have hd2 : decide (k < n) = true := by simp; omega
      obtain ⟨cc, hcc⟩ : ∃ cc, l[k]? = some cc := ⟨_, List.getElem?_eq_getElem (by rw [HL.out]; exact hlt)⟩
      obtain ⟨b, off, rfl, _, hcell⟩ := H2.out.form (by omega)
      have hcell := hcell k (b8 cc) (by simp [bv, hcc])
      unfold b8 at hcell
      obtain ⟨r, hr⟩ : ∃ r, reg (BitVec.allOnes 32) (l.take k) = r := ⟨_, rfl⟩
      have hnx : reg (BitVec.allOnes 32) (l.take (k + 1)) = bstep r cc := by rw [take_succ hcc, reg_snoc, hr]
      have hcb : cc.toNat < 256 := cc.toNat_lt
      have hx8 : bits .xor .u8 ((r.toNat : Int) % 256) (cc.toNat : Int) = ((r.toNat % 256 ^^^ cc.toNat : Nat) : Int) := by
        rw [← u8_xor_nat _ _ (by omega) hcb]; rfl
      have hxl : r.toNat % 256 ^^^ cc.toNat < 256 := Nat.xor_lt_two_pow (n := 8) (by omega) (by omega)
      have hst := bstep_val r cc
      have htc := HT.out _ hxl
      generalize r.toNat % 256 ^^^ cc.toNat = ix at *
      have hxi : (ix : Int) < 256 := by omega
      have HN := Lib.hid hnx
      rw [hr]
      clear hnx hr hcc
      go_wp2
      go_round
      case rel => exact ⟨k + 1, by omega, by simp, by rw [HN.out]⟩
      case measure => simp [intOf]; omega
    · obtain rfl : k = n := by omega
      have hd : decide ((k : Int) < (k : Int)) = false := by simp
      have hd2 : decide (k < k) = false := by simp
      have hfin : reg (BitVec.allOnes 32) (l.take k) = sumL l := by rw [← HL.out, List.take_length]; rfl
      rw [hfin]
      clear hfin
      go_wp2
      go_ret
      exact ⟨rfl, HB2.out⟩
end Go.Proofs.Ytpligjdpofcbbaa
