/-
  What is read: the contract of entry.
-/
import Derived.Test.YtfbmphaabdhphaaBA
namespace Go.Proofs.Ytfbmphaabdhphaa
set_option maxRecDepth 100000
open Go.RowKit Go.Shelf
set_option linter.unusedVariables false

def noE : Ent := ⟨noS, 0, 0, noS⟩
theorem entR_yes {p : ByteArray} {l l1 l2 l3 l4 t v : List UInt8} {sh x : Nat} (e1 : numR l = (sh, l1)) (e2 : txtR 64 l1 = (t, l2)) (e3 : numR l2 = (x, l3)) (e4 : txtR 256 l3 = (v, l4)) (h : x % 2 = 1) :
    entR p l = (⟨takeS p (min sh p.size) ++ ⟨t.toArray⟩, x / 2, x % 2, ⟨v.toArray⟩⟩, l4) := by
  unfold entR; simp only [e1, e2, e3, e4]; rw [if_pos h]
theorem entR_no {p : ByteArray} {l l1 l2 l3 t : List UInt8} {sh x : Nat} (e1 : numR l = (sh, l1)) (e2 : txtR 64 l1 = (t, l2)) (e3 : numR l2 = (x, l3)) (h : ¬ x % 2 = 1) :
    entR p l = (⟨takeS p (min sh p.size) ++ ⟨t.toArray⟩, x / 2, x % 2, noS⟩, l3) := by
  unfold entR; simp only [e1, e2, e3]; rw [if_neg h]
theorem RrAt.far {w w' : World} {g b n c : Nat} {A : Option Addr} {l : List UInt8} (h : RrAt w g A n c l) (ho : Only b w w') (hb : g < b) (hbs : b < w.heap.size) : RrAt w' g A n c l :=
  ⟨by have := h.lt; have := ho.size; omega, by rw [ho.block g h.lt (by omega)]; exact h.h, h.rd.below (ho.below (Nat.le_of_lt hb) (Nat.le_of_lt hbs))⟩
theorem Only.new {g b o : Nat} {w w' : World} (h : Only g w w') (hb : w.heap.size ≤ b) (u : Value) : Only g w (w'.setCell ⟨b, o, none⟩ u) :=
  ⟨h.os, h.tape, h.output, by simpa [World.setCell] using h.size, fun i hi hn => by simp only [World.setCell]; rw [Array.getElem?_modify, if_neg (by omega)]; exact h.block i hi hn⟩
theorem setCell_size (w : World) (p : Addr) (u : Value) : (w.setCell p u).heap.size = w.heap.size := by simp [World.setCell]
/-- The result's box is written, whole. -/
theorem RrPost.done {w w' : World} {g n c b : Nat} {A : Option Addr} {l : List UInt8} {x y : Ent} (hr : RrAt w' g A n c l) (ho : Only g w w') (hf : EnAt w' b x) (hb : w.heap.size = b) (hg : g < b) :
    EnAt ((((w'.setCell ⟨b, 0, none⟩ (.string y.s)).setCell ⟨b, 1, none⟩ (.int .u64 (y.q : Int))).setCell ⟨b, 2, none⟩ (.int .u8 (y.k : Int))).setCell ⟨b, 3, none⟩ (.string y.v)) b y ∧
    ∃ A n c, RrAt ((((w'.setCell ⟨b, 0, none⟩ (.string y.s)).setCell ⟨b, 1, none⟩ (.int .u64 (y.q : Int))).setCell ⟨b, 2, none⟩ (.int .u8 (y.k : Int))).setCell ⟨b, 3, none⟩ (.string y.v)) g A n c l ∧
      Only g w ((((w'.setCell ⟨b, 0, none⟩ (.string y.s)).setCell ⟨b, 1, none⟩ (.int .u64 (y.q : Int))).setCell ⟨b, 2, none⟩ (.int .u8 (y.k : Int))).setCell ⟨b, 3, none⟩ (.string y.v)) := by
  have hlt := hf.lt
  refine ⟨hf.set4, A, n, c, ?_, (((ho.new (by omega) _).new (by omega) _).new (by omega) _).new (by omega) _⟩
  exact (((hr.far (Only.set _ _ _ _) hg hlt).far (Only.set _ _ _ _) hg (by rw [setCell_size]; exact hlt)).far (Only.set _ _ _ _) hg (by rw [setCell_size, setCell_size]; exact hlt)).far (Only.set _ _ _ _) hg (by rw [setCell_size, setCell_size, setCell_size]; exact hlt)
set_option maxRecDepth 100000 in
set_option maxHeartbeats 4000000 in
theorem rentry_c {w : World} {g n c : Nat} {A : Option Addr} {l : List UInt8} (h : RrAt w g A n c l) (hn : n ≤ 1000000000) {p : ByteArray} (hp : p.size ≤ 1000000) :
    Calls Try.prog 44 #[.pointer (some ⟨g, 0, none⟩), .string p] w (RrPost w g (en (entR p l).1.s (entR p l).1.q (entR p l).1.k (entR p l).1.v) (entR p l).2) := by
  have hlt := h.lt
  have hll := h.len
  obtain ⟨sh, l1, e1⟩ : ∃ sh l1, numR l = (sh, l1) := ⟨_, _, rfl⟩
  obtain ⟨t, l2, e2⟩ : ∃ t l2, txtR 64 l1 = (t, l2) := ⟨_, _, rfl⟩
  obtain ⟨x, l3, e3⟩ : ∃ x l3, numR l2 = (x, l3) := ⟨_, _, rfl⟩
  obtain ⟨v, l4, e4⟩ : ∃ v l4, txtR 256 l3 = (v, l4) := ⟨_, _, rfl⟩
  have a1 := numR_le l
  have a2 := txtR_le 64 l1
  have a3 := numR_le l2
  have a4 := txtR_le 256 l3
  have EY := Lib.hid (entR_yes (p := p) e1 e2 e3 e4)
  have EN := Lib.hid (entR_no (p := p) e1 e2 e3)
  have C1 := fun W A n c (hh : RrAt W g A n c l) hn => number_c hh hn
  have C2 := fun W A n c (hh : RrAt W g A n c l1) hn => text_c hh hn (most := 64) (by omega)
  have C3 := fun W A n c (hh : RrAt W g A n c l2) hn => number_c hh hn
  have C4 := fun W A n c (hh : RrAt W g A n c l3) hn => text_c hh hn (most := 256) (by omega)
  rw [e1] at a1 C1
  rw [e2] at a2 C2
  rw [e3] at a3 C3
  rw [e4] at a4 C4
  dsimp only at a1 a2 a3 a4 C1 C2 C3 C4
  have C2 : ∀ W A n c (hh : RrAt W g A n c l1) (hn : n ≤ 1000000000), Calls Try.prog 59 #[.pointer (some ⟨g, 0, none⟩), .int .i64 64] W (RrPost W g (.string ⟨t.toArray⟩) l2) := C2
  have C4 : ∀ W A n c (hh : RrAt W g A n c l3) (hn : n ≤ 1000000000), Calls Try.prog 59 #[.pointer (some ⟨g, 0, none⟩), .int .i64 256] W (RrPost W g (.string ⟨v.toArray⟩) l4) := C4
  have L1 : l1.length ≤ 1000000000 := by omega
  have L2 : l2.length ≤ 1000000000 := by omega
  have L3 : l3.length ≤ 1000000000 := by omega
  have hts : (⟨t.toArray⟩ : ByteArray).size ≤ 64 := by rw [size_toArray]; omega
  have hsh : (sh : Int) ≤ 18446744073709551615 := by omega
  have hxl : (x : Int) ≤ 18446744073709551615 := by omega
  have hpi : (p.size : Int) ≤ 1000000 := by omega
  obtain ⟨m, hm⟩ : ∃ m, min sh p.size = m := ⟨_, rfl⟩
  have hmp : m ≤ p.size := by omega
  have hmin : ∀ (W : World) (ts : Array TypeId) (ty : TypeId), (Builtin.min_ ts ty #[.int .u64 (sh : Int), .int .u64 (p.size : Int)]).run Try.prog W = .ok (.int .u64 (m : Int)) W := fun W ts ty => by
    rw [Lib.run_min_ints]; congr 2; omega
  have hsl := fun W => run_upto hmp .u64 W
  have hadd : ∀ W : World, (Op.stringOp .add (takeS p m) ⟨t.toArray⟩).run Try.prog W = .ok (.string (takeS p m ++ ⟨t.toArray⟩)) W := fun W => run_string_add_sum W _ _ (by rw [takeS_size p hmp]; omega)
  have hpw : IntKind.u64.wrap (p.size : Int) = (p.size : Int) := by rw [wrapu]; omega
  obtain ⟨X2, hX2⟩ : ∃ X2, x / 2 = X2 := ⟨_, rfl⟩
  obtain ⟨X3, hX3⟩ : ∃ X3, x % 2 = X3 := ⟨_, rfl⟩
  have q2 : (x : Int) / 2 = (X2 : Int) := by omega
  have q3 : (x : Int) % 2 = (X3 : Int) := by omega
  have hX31 : X3 ≤ 1 := by omega
  have w2 : IntKind.u64.wrap (X2 : Int) = (X2 : Int) := by rw [wrapu]; omega
  have w3 : IntKind.u64.wrap (X3 : Int) = (X3 : Int) := by rw [wrapu]; omega
  have w8 : IntKind.u8.wrap (X3 : Int) = (X3 : Int) := by simp [IntKind.wrap, IntKind.bits, IntKind.signed]; omega
  rw [hm, hX2, hX3] at EY EN
  have hz0 : RrAt (w.alloc (.cells #[.string ⟨#[]⟩, .int .u64 0, .int .u8 0, .string ⟨#[]⟩] 38)) g A n c l := h.below (below_alloc w _)
  have hb0 : EnAt (w.alloc (.cells #[.string ⟨#[]⟩, .int .u64 0, .int .u8 0, .string ⟨#[]⟩] 38)) w.heap.size noE := EnAt.new w noE
  have ho0 : Only g w (w.alloc (.cells #[.string ⟨#[]⟩, .int .u64 0, .int .u8 0, .string ⟨#[]⟩] 38)) := Only.of (below_alloc w _)
  obtain ⟨b4, hb4⟩ : ∃ b4, w.heap.size = b4 := ⟨_, rfl⟩
  have hne4 : b4 ≠ g := by omega
  have K1 := Lib.hid (C1 _ _ _ _ hz0 hn)
  have K2 := Lib.hid C2
  have K3 := Lib.hid C3
  have K4 := Lib.hid C4
  have HB0 := Lib.hid hb0
  have HO0 := Lib.hid ho0
  generalize entR p l = R at EY EN ⊢
  clear C1 C2 C3 C4 e1 e2 e3 e4 a1 a2 a3 a4 hz0 hb0 ho0 h hll hn hts hm hmp hX2 hX3
  rw [hb4] at HB0
  go_enter Try.func44, Try.ntmps44
  go_wp2_with fail
  refine K1.out.mono ?_
  rintro e w1 ⟨rfl, A1, n1, c1, r1, o1⟩
  have hn1 := r1.small L1
  have f1 := HB0.out.only o1 hne4
  have p1 := HO0.out.trans o1
  have R1 := Lib.hid r1
  have F1 := Lib.hid f1
  have P1 := Lib.hid p1
  clear r1 o1 f1 p1 K1 HB0 HO0
  go_wp2_with fail
  go_region_law (first
    | (go_simp; go_at_call 59; refine (K2.out _ _ _ _ (R1.out.below (below_drewN (Below.refl _ _) 1)) hn1).mono ?_; rintro e w2 ⟨rfl, A2, n2, c2, r2, o2⟩; have hn2 := r2.small L2; have R2 := Lib.hid r2; have F2 := Lib.hid ((F1.out.below (below_drewN (Below.refl _ _) 1)).only o2 hne4); have P2 := Lib.hid ((P1.out.trans (Only.of (below_drewN (Below.refl _ _) 1))).trans o2); clear r2 o2))
  all_goals (
    go_wp2_with fail
    refine (K3.out _ _ _ _ R2.out hn2).mono ?_
    rintro e w3 ⟨rfl, A3, n3, c3, r3, o3⟩
    have hn3 := r3.small L3
    have hg3 := r3.lt
    have f3 := F2.out.only o3 hne4
    have p3 := P2.out.trans o3
    have hf4 := f3.lt
    have r8 : RrAt (w3.alloc (.cells #[.string (takeS p m ++ ⟨t.toArray⟩), .int .u64 (X2 : Int), .int .u8 (X3 : Int), .string ⟨#[]⟩] 38)) g A3 n3 c3 l3 := r3.below (below_alloc w3 _)
    have f8 : EnAt (w3.alloc (.cells #[.string (takeS p m ++ ⟨t.toArray⟩), .int .u64 (X2 : Int), .int .u8 (X3 : Int), .string ⟨#[]⟩] 38)) b4 noE := f3.below (below_alloc w3 _)
    have p8 := p3.trans (Only.of (below_alloc w3 (.cells #[.string (takeS p m ++ ⟨t.toArray⟩), .int .u64 (X2 : Int), .int .u8 (X3 : Int), .string ⟨#[]⟩] 38)))
    have y8 : EnAt (w3.alloc (.cells #[.string (takeS p m ++ ⟨t.toArray⟩), .int .u64 (X2 : Int), .int .u8 (X3 : Int), .string ⟨#[]⟩] 38)) w3.heap.size ⟨takeS p m ++ ⟨t.toArray⟩, X2, X3, noS⟩ := EnAt.new w3 ⟨takeS p m ++ ⟨t.toArray⟩, X2, X3, noS⟩
    have hne8 : w3.heap.size ≠ g := by omega
    have hne48 : b4 ≠ w3.heap.size := by omega
    clear r3 o3 f3 p3
    have hgb : g < b4 := by omega
    have hk : X3 = 1 ∨ X3 = 0 := by omega
    have HN3 := Lib.hid hn3
    rcases hk with hk | hk
    · have d1 : ((X3 : Int) == 1) = true := by simp; omega
      have HEY := Lib.hid (EY.out hk)
      have HR8 := Lib.hid r8
      have HF8 := Lib.hid f8
      have HP8 := Lib.hid p8
      have HY8 := Lib.hid y8
      obtain ⟨k0, k1, k2, k3⟩ := y8.cells
      clear r8 f8 p8 y8 hk
      go_wp2_with fail
      refine (K4.out _ _ _ _ HR8.out HN3.out).mono ?_
      rintro e w4 ⟨rfl, A4, n4, c4, r4, o4⟩
      have f9 := HF8.out.only o4 hne4
      have y9 := HY8.out.only o4 hne8
      have p9 := HP8.out.trans o4
      have y10 := y9.set1 ⟨v.toArray⟩
      have f10 := f9.only (Only.set w4 w3.heap.size 3 (.string ⟨v.toArray⟩)) hne48
      have r10 := r4.far (Only.set w4 w3.heap.size 3 (.string ⟨v.toArray⟩)) hg3 y9.lt
      have p10 := p9.new (b := w3.heap.size) (o := 3) (by omega) (.string ⟨v.toArray⟩)
      obtain ⟨j0, j1, j2, j3⟩ := y9.frozen
      clear k0 k1 k2 k3
      obtain ⟨k0, k1, k2, k3⟩ := y9.cells
      have Y10 := Lib.hid y10
      have F10 := Lib.hid f10
      have HFIN := Lib.hid (RrPost.done (y := ⟨takeS p m ++ ⟨t.toArray⟩, X2, X3, ⟨v.toArray⟩⟩) r10 p10 f10 hb4 hgb)
      clear r4 o4 f9 y9 p9 y10 f10 r10 p10
      go_upto_region 7 with (fail)
      generalize hwz : w4.setCell ⟨w3.heap.size, 3, none⟩ (.string ⟨v.toArray⟩) = wz at *
      clear hwz j0 j1 j2 j3 k0 k1 k2 k3
      obtain ⟨i0, i1, i2, i3⟩ := Y10.out.cells
      obtain ⟨h0, h1, h2, h3⟩ := F10.out.frozen
      obtain ⟨m0, m1, m2, m3⟩ := F10.out.cells
      go_wp2_with fail
      rw [HEY.out]
      exact ret_en rfl rfl rfl HFIN.out.1 ⟨rfl, HFIN.out.2⟩
    · have d1 : ((X3 : Int) == 1) = false := by simp; omega
      have HEN := Lib.hid (EN.out (by omega))
      obtain ⟨k0, k1, k2, k3⟩ := y8.cells
      have HFIN := Lib.hid (RrPost.done (y := ⟨takeS p m ++ ⟨t.toArray⟩, X2, X3, noS⟩) r8 p8 f8 hb4 hgb)
      have Y8 := Lib.hid y8
      have F8 := Lib.hid f8
      clear r8 p8 f8 y8 hk
      go_upto_region 7 with (fail)
      generalize hwz : w3.alloc (.cells #[.string (takeS p m ++ ⟨t.toArray⟩), .int .u64 (X2 : Int), .int .u8 (X3 : Int), .string ⟨#[]⟩] 38) = wz at *
      clear hwz k0 k1 k2 k3
      obtain ⟨i0, i1, i2, i3⟩ := Y8.out.cells
      obtain ⟨h0, h1, h2, h3⟩ := F8.out.frozen
      obtain ⟨m0, m1, m2, m3⟩ := F8.out.cells
      go_wp2_with fail
      rw [HEN.out]
      exact ret_en rfl rfl rfl HFIN.out.1 ⟨rfl, HFIN.out.2⟩)
end Go.Proofs.Ytfbmphaabdhphaa
