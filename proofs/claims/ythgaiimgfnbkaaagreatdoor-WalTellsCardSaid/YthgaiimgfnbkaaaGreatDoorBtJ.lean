/-
  What bytes begin with an operation's form, the reference's: the contract of one.
-/
import Derived.Test.YthgaiimgfnbkaaaGreatDoorBtK
namespace Go.Proofs.YthgaiimgfnbkaaaGreatDoor
set_option maxRecDepth 100000
open Go.RowKit Go.Shelf

section
variable {w : World} {b : Nat} {x : Bop}
theorem OpAt.set1 (h : OpAt w b x) (s : ByteArray) : OpAt (w.setCell ⟨b, 1, none⟩ (.string s)) b ⟨x.k, s, x.v⟩ := by
  refine ⟨by have := h.lt; simpa [World.setCell] using this, ?_⟩
  simp only [World.setCell, Array.getElem?_modify, if_pos, h.h]
  rfl
theorem OpAt.set2 (h : OpAt w b x) (v : ByteArray) : OpAt (w.setCell ⟨b, 2, none⟩ (.string v)) b ⟨x.k, x.s, v⟩ := by
  refine ⟨by have := h.lt; simpa [World.setCell] using this, ?_⟩
  simp only [World.setCell, Array.getElem?_modify, if_pos, h.h]
  rfl
theorem OpAt.other (h : OpAt w b x) {p : Addr} (hp : p.block ≠ b) (v : Value) : OpAt (w.setCell p v) b x := by
  refine ⟨by have := h.lt; simpa [World.setCell] using this, ?_⟩
  simp only [World.setCell, Array.getElem?_modify]
  rw [if_neg hp]
  exact h.h
theorem Fr.set {B : Nat} {e : TypeId} {A : Option Addr} {n c : Nat} {xs : List Value} (h : Fr w B e A n c xs) {p : Addr} (hb : p.block < B) (u : Value) : Fr (w.setCell p u) B e A n c xs := ⟨ownsRow_setCell_below h.own hb _⟩
theorem Fr.op3 {B : Nat} {e : TypeId} {A : Option Addr} {n c : Nat} {xs : List Value} (h : Fr w B e A n c xs) {b : Nat} (hb : b < B) (u v y : Value) :
    Fr (((w.setCell ⟨b, 0, none⟩ u).setCell ⟨b, 1, none⟩ v).setCell ⟨b, 2, none⟩ y) B e A n c xs := ((h.set (p := ⟨b, 0, none⟩) hb u).set (p := ⟨b, 1, none⟩) hb v).set (p := ⟨b, 2, none⟩) hb y
end
structure OneR (l : List UInt8) (x : Bop) (r : List UInt8) (ok : Bool) : Prop where
  yes : ok = true → takeR l = some (x, r)
  no : ok = false → takeR l = none
  le : r.length ≤ l.length
def OnePost (w : World) (l : List UInt8) (e : Ending) (w' : World) : Prop :=
  ∃ x r ok A n c, e = .returned (.tuple #[ov x, .slice A n c, .bool ok]) ∧ OneR l x r ok ∧ Fr w' w.heap.size 5 A n c (bv r) ∧ Below w.heap.size w w'
theorem one_put {c : UInt8} {t s r v r2 : List UInt8} (hc : c.toNat = 1) (h1 : textTake t 64 = some (s, r)) (h2 : textTake r 256 = some (v, r2)) (hle : r2.length ≤ (c :: t).length) : OneR (c :: t) ⟨c.toNat, ⟨s.toArray⟩, ⟨v.toArray⟩⟩ r2 true := by
  rw [hc]
  exact ⟨fun _ => by simp only [takeR, h1, hc, h2]; simp, fun e => (by cases e), hle⟩
theorem one_put_no {c : UInt8} {t s r : List UInt8} {x : Bop} (hc : c.toNat = 1) (h1 : textTake t 64 = some (s, r)) (h2 : textTake r 256 = none) : OneR (c :: t) x [] false :=
  ⟨fun e => (by cases e), fun _ => by simp only [takeR, h1, hc, h2]; simp, Nat.zero_le _⟩
theorem one_del {c : UInt8} {t s r : List UInt8} (hc : c.toNat = 0) (h1 : textTake t 64 = some (s, r)) (hle : r.length ≤ (c :: t).length) : OneR (c :: t) ⟨c.toNat, ⟨s.toArray⟩, ⟨#[]⟩⟩ r true := by
  rw [hc]
  exact ⟨fun _ => by simp only [takeR, h1, hc]; simp, fun e => (by cases e), hle⟩
theorem one_no {c : UInt8} {t : List UInt8} {x : Bop} (h1 : textTake t 64 = none) : OneR (c :: t) x [] false :=
  ⟨fun e => (by cases e), fun _ => by simp only [takeR, h1]; split <;> rfl, Nat.zero_le _⟩
theorem one_big {c : UInt8} {t : List UInt8} {x : Bop} (h : 1 < c.toNat) : OneR (c :: t) x [] false :=
  ⟨fun e => (by cases e), fun _ => by simp only [takeR]; rw [if_pos h], Nat.zero_le _⟩
theorem one_nil {x : Bop} : OneR [] x [] false := ⟨fun e => (by cases e), fun _ => rfl, Nat.le_refl _⟩
theorem textTake_le {l s r : List UInt8} {most : Int} (h : textTake l most = some (s, r)) : r.length ≤ l.length := by
  have := congrArg List.length (text_put h).1
  simp at this; omega
theorem TextR.le {l s r : List UInt8} {most : Int} {ok : Bool} (h : TextR l most s r ok) : r.length ≤ l.length := by
  cases ok with
  | false => obtain ⟨_, _, rfl⟩ := h.no rfl; simp
  | true => exact textTake_le (h.yes rfl)

set_option maxRecDepth 100000 in
set_option maxHeartbeats 4000000 in
theorem one_c {w : World} {B n c : Nat} {A : Option Addr} {l : List UInt8} (h : Rd w B A n c (bv l)) (hB : B ≤ w.heap.size) (hn : n ≤ 70368744000000) :
    Calls Tryz.prog 74 #[.slice A n c] w (OnePost w l) := by
  have hl : l.length = n := by simpa using h.len
  have hcap := h.cap
  cases l with
  | nil =>
    obtain rfl : n = 0 := by simpa using hl.symm
    clear hl hn hcap h
    go_enter Tryz.func74, Tryz.ntmps74
    go_wp2_with fail
    exact ret_op3 rfl rfl rfl (OpAt.new w ⟨0, ⟨#[]⟩, ⟨#[]⟩⟩) ⟨⟨0, ⟨#[]⟩, ⟨#[]⟩⟩, [], false, none, 0, 0, rfl, one_nil, Fr.nil, below_alloc w _⟩
  | cons cc t =>
    have hn1 : 0 < n := by simp at hl; omega
    obtain ⟨b, off, rfl, hbB, hcell⟩ := h.form hn1
    have hc0 := hcell 0 (b8 cc) rfl
    unfold b8 at hc0
    have hcc : (w.alloc (.cells #[.int .u8 0, .string ⟨#[]⟩, .string ⟨#[]⟩] 43)).cell? ⟨b, off, none⟩ = some (.int .u8 (cc.toNat : Int)) := (World.cell?_alloc_lt w _ _ (by simp; omega)).trans hc0
    have d0 : ((n : Int) == 0) = false := by simp; omega
    have hni : (0 : Int) < (n : Int) := by omega
    have hcb : (cc.toNat : Int) ≤ 255 := by have := cc.toNat_lt; omega
    by_cases hbig : 1 < cc.toNat
    · have d1 : decide ((1 : Int) < (cc.toNat : Int)) = true := by simp; omega
      have HB1 := Lib.hid hbig
      clear h hcell hc0 hl hn hcap hbig
      go_enter Tryz.func74, Tryz.ntmps74
      go_wp2_with fail
      exact ret_op3 rfl rfl rfl (OpAt.new w ⟨0, ⟨#[]⟩, ⟨#[]⟩⟩) ⟨⟨0, ⟨#[]⟩, ⟨#[]⟩⟩, [], false, none, 0, 0, rfl, one_big HB1.out, Fr.nil, below_alloc w _⟩
    have d1 : decide ((1 : Int) < (cc.toNat : Int)) = false := by simp; omega
    obtain ⟨A2, hsl, hr2⟩ := h.slice_lo 26 5 (P := Tryz.prog) Tryz.underlying26 info_u8 .i64 (k := 1) (by omega)
    replace hsl : ∀ W, (Instr.slice 26 (.slice (some ⟨b, off, none⟩) n c) (some (.int .i64 1)) none none).run Tryz.prog W = .ok (.slice A2 (n - 1) (c - 1)) W := hsl
    rw [bv_drop', List.drop_succ_cons, List.drop_zero] at hr2
    have HT := Lib.hid (refTakeText_c ((hr2.alloc hB (.cells #[.int .u8 0, .string ⟨#[]⟩, .string ⟨#[]⟩] 43)).alloc (by simp; omega) (.cells #[.int .u8 (cc.toNat : Int), .string ⟨#[]⟩, .string ⟨#[]⟩] 43)) (by simp; omega) (by omega) 64 (by decide) (by decide))
    have HBw := Lib.hid hB
    have HL := Lib.hid hl
    have HN := Lib.hid hn
    have HS := Lib.hid hbig
    clear h hr2 hcell hc0 hl hn hcap hB hbB hbig
    go_enter Tryz.func74, Tryz.ntmps74
    go_wp2_with fail
    refine HT.out.mono ?_
    intro e w1 hp
    obtain ⟨s, r, ok, ht, A1, n1, c1, rfl, hf1, hb1⟩ := hp.form
    clear hp
    have i0 := ((OpAt.new w ⟨0, ⟨#[]⟩, ⟨#[]⟩⟩).alloc (.cells #[.int .u8 (cc.toNat : Int), .string ⟨#[]⟩, .string ⟨#[]⟩] 43)).below hb1 (Nat.le_refl _)
    have i1 := (OpAt.newg (w.alloc (.cells #[.int .u8 0, .string ⟨#[]⟩, .string ⟨#[]⟩] 43)) ⟨cc.toNat, ⟨#[]⟩, ⟨#[]⟩⟩ (g := w.heap.size + 1) (by simp)).below hb1 (Nat.le_refl _)
    have hbw : Below w.heap.size w w1 := (blit (below_alloc w _) _).trans (hb1.mono (by simp; omega))
    simp only [World.size_alloc] at hf1
    obtain ⟨a0, a1, a2⟩ := i1.cells
    obtain ⟨g0, g1, g2⟩ := i1.frozen
    obtain ⟨b0, b1, b2⟩ := i0.cells
    obtain ⟨k0, k1, k2⟩ := i0.frozen
    have HI0 := Lib.hid (i0.other (p := ⟨w.heap.size + 1, 1, none⟩) (by simp) (.string ⟨s.toArray⟩))
    have HI1 := Lib.hid (i1.set1 ⟨s.toArray⟩)
    have HF1 := Lib.hid (hf1.set (p := ⟨w.heap.size + 1, 1, none⟩) (by simp) (.string ⟨s.toArray⟩))
    have HBW := Lib.hid (hbw.setCell (p := ⟨w.heap.size + 1, 1, none⟩) (by simp) (.string ⟨s.toArray⟩))
    have hr1 := hf1.len
    have HLE := Lib.hid (show r.length ≤ t.length from ht.le)
    have HN1 := Lib.hid (show n1 ≤ 70368744000000 by have := HLE.out; have := HL.out; have := HN.out; simp at *; omega)
    clear hb1 hcc hsl HT i0 i1 hbw hf1 hr1
    cases ok with
    | false =>
      obtain ⟨hno, rfl, rfl⟩ := ht.no rfl
      have HNO := Lib.hid hno
      clear hno
      go_wp2_with fail
      exact ret_op3 rfl rfl rfl (HI0.out.store ⟨cc.toNat, ⟨#[]⟩, ⟨#[]⟩⟩) ⟨_, _, _, _, _, _, rfl, one_no HNO.out, (HF1.out.op3 (by omega) _ _ _).mono (by omega), below_op3 HBW.out (Nat.le_refl _) _ _ _⟩
    | true =>
      have hyes := ht.yes rfl
      by_cases hk : cc.toNat = 1
      · have dk : ((cc.toNat : Int) == 1) = true := by simp; omega
        have HK := Lib.hid hk
        have HY := Lib.hid hyes
        have HT2 := Lib.hid (refTakeText_c (HF1.out.rd (Nat.le_refl _)) (Nat.le_refl _) (by have := HN1.out; omega) 256 (by decide) (by decide))
        clear hk hyes ht
        go_wp2_with fail
        refine HT2.out.mono ?_
        clear a0 a1 a2 g0 g1 g2 b0 b1 b2 k0 k1 k2
        intro e w2 hp
        obtain ⟨v, r2, ok2, ht2, A3, n3, c3, rfl, hf2, hb2⟩ := hp.form
        clear hp HT2
        have i0 := HI0.out.below hb2 (Nat.le_refl _)
        have i1 := HI1.out.below hb2 (Nat.le_refl _)
        obtain ⟨a0, a1, a2⟩ := i1.cells
        obtain ⟨g0, g1, g2⟩ := i1.frozen
        obtain ⟨b0, b1, b2⟩ := i0.cells
        obtain ⟨k0, k1, k2⟩ := i0.frozen
        have hbw := HBW.out.trans (hb2.mono HBW.out.size)
        have HLT := Lib.hid (show w.heap.size + 1 < (w1.setCell ⟨w.heap.size + 1, 1, none⟩ (.string ⟨s.toArray⟩)).heap.size from HI1.out.lt)
        have HJ0 := Lib.hid (i0.other (p := ⟨w.heap.size + 1, 2, none⟩) (by simp) (.string ⟨v.toArray⟩))
        have HJ1 := Lib.hid (i1.set2 ⟨v.toArray⟩)
        have HF2 := Lib.hid (hf2.set (p := ⟨w.heap.size + 1, 2, none⟩) HLT.out (.string ⟨v.toArray⟩))
        have HBX := Lib.hid (hbw.setCell (p := ⟨w.heap.size + 1, 2, none⟩) (by simp) (.string ⟨v.toArray⟩))
        have HLE2 := Lib.hid (show r2.length ≤ (cc :: t).length by have := ht2.le; have := HLE.out; simp; omega)
        clear i0 i1 hbw hf2 hb2
        cases ok2 with
        | false =>
          obtain ⟨hno, rfl, rfl⟩ := ht2.no rfl
          have HNO := Lib.hid hno
          clear hno ht2
          go_wp2_with fail
          exact ret_op3 rfl rfl rfl (HJ0.out.store ⟨cc.toNat, ⟨s.toArray⟩, ⟨#[]⟩⟩) ⟨_, _, _, _, _, _, rfl, one_put_no HK.out HY.out HNO.out, (HF2.out.op3 (by have := HLT.out; omega) _ _ _).mono (by have := HLT.out; omega), below_op3 HBX.out (Nat.le_refl _) _ _ _⟩
        | true =>
          have hyes := ht2.yes rfl
          have HY2 := Lib.hid hyes
          clear hyes ht2
          go_wp2_with fail
          exact ret_op3 rfl rfl rfl (HJ0.out.store ⟨cc.toNat, ⟨s.toArray⟩, ⟨v.toArray⟩⟩) ⟨_, _, _, _, _, _, rfl, one_put HK.out HY.out HY2.out HLE2.out, (HF2.out.op3 (by have := HLT.out; omega) _ _ _).mono (by have := HLT.out; omega), below_op3 HBX.out (Nat.le_refl _) _ _ _⟩
      · have dk : ((cc.toNat : Int) == 1) = false := by simp; omega
        have HX := Lib.hid (one_del (c := cc) (t := t) (by have := HS.out; omega) hyes (by have := HLE.out; simp; omega))
        clear hk hyes ht
        go_wp2_with fail
        exact ret_op3 rfl rfl rfl (HI0.out.store ⟨cc.toNat, ⟨s.toArray⟩, ⟨#[]⟩⟩) ⟨_, _, _, _, _, _, rfl, HX.out, (HF1.out.op3 (by omega) _ _ _).mono (by omega), below_op3 HBW.out (Nat.le_refl _) _ _ _⟩
end Go.Proofs.YthgaiimgfnbkaaaGreatDoor
