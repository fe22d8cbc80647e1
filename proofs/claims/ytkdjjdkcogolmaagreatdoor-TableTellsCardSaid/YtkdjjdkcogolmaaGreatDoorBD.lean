/-
  The texts BC, BD, in one.
-/
import Derived.Test.YtkdjjdkcogolmaaGreatDoorBA
section
/-
  What is read: the contract of entry.
-/
namespace Go.Proofs.YtkdjjdkcogolmaaGreatDoor
set_option maxRecDepth 100000
open Go.RowKit Go.Shelf
set_option linter.unusedVariables false

def noE : Ent := ⟨noS, 0, 0, noS⟩
theorem entR_yes {p : ByteArray} {l l1 l2 l3 l4 t v : List UInt8} {sh x : Nat} (e1 : numR l = (sh, l1)) (e2 : txtR 64 l1 = (t, l2)) (e3 : numR l2 = (x, l3)) (e4 : txtR 256 l3 = (v, l4)) (h : x % 2 = 1) :
    entR p l = (⟨takeS p (min sh p.size) ++ ⟨t.toArray⟩, x / 2, x % 2, ⟨v.toArray⟩⟩, l4) := by
  unfold entR; simp only [e1, e2, e3, e4]; rw [if_pos h]
theorem entR_no {p : ByteArray} {l l1 l2 l3 t : List UInt8} {sh x : Nat} (e1 : numR l = (sh, l1)) (e2 : txtR 64 l1 = (t, l2)) (e3 : numR l2 = (x, l3)) (h : ¬ x % 2 = 1) :
    entR p l = (⟨takeS p (min sh p.size) ++ ⟨t.toArray⟩, x / 2, x % 2, noS⟩, l3) := by
  unfold entR; simp only [e1, e2, e3]; rw [if_neg h]
theorem RrAt.far {w w' : World} {g b n c : Nat} {A : Option Addr} {l : List UInt8} (h : RrAt w g A n c l) (ho : Only b w w') (hb : g < b) (hbs : b < w.heap.size) : RrAt w' g A n c l :=
  ⟨by have := h.lt; have := ho.size; omega, by rw [ho.block g h.lt (by omega)]; exact h.h, h.rd.below (ho.below (Nat.le_of_lt hb) (Nat.le_of_lt hbs))⟩
theorem Only.new {g b o : Nat} {w w' : World} (h : Only g w w') (hb : w.heap.size ≤ b) (u : Value) : Only g w (w'.setCell ⟨b, o, none⟩ u) :=
  ⟨h.os, h.tape, h.output, by simpa [World.setCell] using h.size, fun i hi hn => by simp only [World.setCell]; rw [Array.getElem?_modify, if_neg (by omega)]; exact h.block i hi hn⟩
theorem setCell_size (w : World) (p : Addr) (u : Value) : (w.setCell p u).heap.size = w.heap.size := by simp [World.setCell]
/-- The result's box is written, whole. -/
theorem RrPost.done {w w' : World} {g n c b : Nat} {A : Option Addr} {l : List UInt8} {x y : Ent} (hr : RrAt w' g A n c l) (ho : Only g w w') (hf : EnAt w' b x) (hb : w.heap.size = b) (hg : g < b) :
    EnAt ((((w'.setCell ⟨b, 0, none⟩ (.string y.s)).setCell ⟨b, 1, none⟩ (.int .u64 (y.q : Int))).setCell ⟨b, 2, none⟩ (.int .u8 (y.k : Int))).setCell ⟨b, 3, none⟩ (.string y.v)) b y ∧
    ∃ A n c, RrAt ((((w'.setCell ⟨b, 0, none⟩ (.string y.s)).setCell ⟨b, 1, none⟩ (.int .u64 (y.q : Int))).setCell ⟨b, 2, none⟩ (.int .u8 (y.k : Int))).setCell ⟨b, 3, none⟩ (.string y.v)) g A n c l ∧
      Only g w ((((w'.setCell ⟨b, 0, none⟩ (.string y.s)).setCell ⟨b, 1, none⟩ (.int .u64 (y.q : Int))).setCell ⟨b, 2, none⟩ (.int .u8 (y.k : Int))).setCell ⟨b, 3, none⟩ (.string y.v)) := by
  have hlt := hf.lt
  refine ⟨hf.set4, A, n, c, ?_, (((ho.new (by omega) _).new (by omega) _).new (by omega) _).new (by omega) _⟩
  exact (((hr.far (Only.set _ _ _ _) hg hlt).far (Only.set _ _ _ _) hg (by rw [setCell_size]; exact hlt)).far (Only.set _ _ _ _) hg (by rw [setCell_size, setCell_size]; exact hlt)).far (Only.set _ _ _ _) hg (by rw [setCell_size, setCell_size, setCell_size]; exact hlt)
set_option maxRecDepth 100000 in
set_option maxHeartbeats 4000000 in
theorem rentry_c {w : World} {g n c : Nat} {A : Option Addr} {l : List UInt8} (h : RrAt w g A n c l) (hn : n ≤ 1000000000) {p : ByteArray} (hp : p.size ≤ 1000000) :
    Calls Tryz.prog 128 #[.pointer (some ⟨g, 0, none⟩), .string p] w (RrPost w g (en (entR p l).1.s (entR p l).1.q (entR p l).1.k (entR p l).1.v) (entR p l).2) := by
  have hlt := h.lt
  have hll := h.len
  obtain ⟨sh, l1, e1⟩ : ∃ sh l1, numR l = (sh, l1) := ⟨_, _, rfl⟩
  obtain ⟨t, l2, e2⟩ : ∃ t l2, txtR 64 l1 = (t, l2) := ⟨_, _, rfl⟩
  obtain ⟨x, l3, e3⟩ : ∃ x l3, numR l2 = (x, l3) := ⟨_, _, rfl⟩
  obtain ⟨v, l4, e4⟩ : ∃ v l4, txtR 256 l3 = (v, l4) := ⟨_, _, rfl⟩
  have a1 := numR_le l
  have a2 := txtR_le 64 l1
  have a3 := numR_le l2
  have a4 := txtR_le 256 l3
  have EY := Lib.hid (entR_yes (p := p) e1 e2 e3 e4)
  have EN := Lib.hid (entR_no (p := p) e1 e2 e3)
  have C1 := fun W A n c (hh : RrAt W g A n c l) hn => number_c hh hn
  have C2 := fun W A n c (hh : RrAt W g A n c l1) hn => text_c hh hn (most := 64) (by omega)
  have C3 := fun W A n c (hh : RrAt W g A n c l2) hn => number_c hh hn
  have C4 := fun W A n c (hh : RrAt W g A n c l3) hn => text_c hh hn (most := 256) (by omega)
  rw [e1] at a1 C1
  rw [e2] at a2 C2
  rw [e3] at a3 C3
  rw [e4] at a4 C4
  dsimp only at a1 a2 a3 a4 C1 C2 C3 C4
  have C2 : ∀ W A n c (hh : RrAt W g A n c l1) (hn : n ≤ 1000000000), Calls Tryz.prog 138 #[.pointer (some ⟨g, 0, none⟩), .int .i64 64] W (RrPost W g (.string ⟨t.toArray⟩) l2) := C2
  have C4 : ∀ W A n c (hh : RrAt W g A n c l3) (hn : n ≤ 1000000000), Calls Tryz.prog 138 #[.pointer (some ⟨g, 0, none⟩), .int .i64 256] W (RrPost W g (.string ⟨v.toArray⟩) l4) := C4
  have L1 : l1.length ≤ 1000000000 := by omega
  have L2 : l2.length ≤ 1000000000 := by omega
  have L3 : l3.length ≤ 1000000000 := by omega
  have hts : (⟨t.toArray⟩ : ByteArray).size ≤ 64 := by rw [size_toArray]; omega
  have hsh : (sh : Int) ≤ 18446744073709551615 := by omega
  have hxl : (x : Int) ≤ 18446744073709551615 := by omega
  have hpi : (p.size : Int) ≤ 1000000 := by omega
  obtain ⟨m, hm⟩ : ∃ m, min sh p.size = m := ⟨_, rfl⟩
  have hmp : m ≤ p.size := by omega
  have hmin : ∀ (W : World) (ts : Array TypeId) (ty : TypeId), (Builtin.min_ ts ty #[.int .u64 (sh : Int), .int .u64 (p.size : Int)]).run Tryz.prog W = .ok (.int .u64 (m : Int)) W := fun W ts ty => by
    rw [Lib.run_min_ints]; congr 2; omega
  have hsl := fun W => run_upto hmp .u64 W
  have hadd : ∀ W : World, (Op.stringOp .add (takeS p m) ⟨t.toArray⟩).run Tryz.prog W = .ok (.string (takeS p m ++ ⟨t.toArray⟩)) W := fun W => run_string_add_sum W _ _ (by rw [takeS_size p hmp]; omega)
  have hpw : IntKind.u64.wrap (p.size : Int) = (p.size : Int) := by rw [wrapu]; omega
  obtain ⟨X2, hX2⟩ : ∃ X2, x / 2 = X2 := ⟨_, rfl⟩
  obtain ⟨X3, hX3⟩ : ∃ X3, x % 2 = X3 := ⟨_, rfl⟩
  have q2 : (x : Int) / 2 = (X2 : Int) := by omega
  have q3 : (x : Int) % 2 = (X3 : Int) := by omega
  have hX31 : X3 ≤ 1 := by omega
  have w2 : IntKind.u64.wrap (X2 : Int) = (X2 : Int) := by rw [wrapu]; omega
  have w3 : IntKind.u64.wrap (X3 : Int) = (X3 : Int) := by rw [wrapu]; omega
  have w8 : IntKind.u8.wrap (X3 : Int) = (X3 : Int) := by simp [IntKind.wrap, IntKind.bits, IntKind.signed]; omega
  rw [hm, hX2, hX3] at EY EN
  have hz0 : RrAt (w.alloc (.cells #[.string ⟨#[]⟩, .int .u64 0, .int .u8 0, .string ⟨#[]⟩] 40)) g A n c l := h.below (below_alloc w _)
  have hb0 : EnAt (w.alloc (.cells #[.string ⟨#[]⟩, .int .u64 0, .int .u8 0, .string ⟨#[]⟩] 40)) w.heap.size noE := EnAt.new w noE
  have ho0 : Only g w (w.alloc (.cells #[.string ⟨#[]⟩, .int .u64 0, .int .u8 0, .string ⟨#[]⟩] 40)) := Only.of (below_alloc w _)
  obtain ⟨b4, hb4⟩ : ∃ b4, w.heap.size = b4 := ⟨_, rfl⟩
  have hne4 : b4 ≠ g := by omega
  have K1 := Lib.hid (C1 _ _ _ _ hz0 hn)
  have K2 := Lib.hid C2
  have K3 := Lib.hid C3
  have K4 := Lib.hid C4
  have HB0 := Lib.hid hb0
  have HO0 := Lib.hid ho0
  generalize entR p l = R at EY EN ⊢
  clear C1 C2 C3 C4 e1 e2 e3 e4 a1 a2 a3 a4 hz0 hb0 ho0 h hll hn hts hm hmp hX2 hX3
  rw [hb4] at HB0
  go_enter Tryz.func128, Tryz.ntmps128
  go_wp2_with fail
  refine K1.out.mono ?_
  rintro e w1 ⟨rfl, A1, n1, c1, r1, o1⟩
  have hn1 := r1.small L1
  have f1 := HB0.out.only o1 hne4
  have p1 := HO0.out.trans o1
  have R1 := Lib.hid r1
  have F1 := Lib.hid f1
  have P1 := Lib.hid p1
  clear r1 o1 f1 p1 K1 HB0 HO0
  go_wp2_with fail
  go_region_law (first
    | (go_simp; go_at_call 138; refine (K2.out _ _ _ _ (R1.out.below (below_drewN (Below.refl _ _) 1)) hn1).mono ?_; rintro e w2 ⟨rfl, A2, n2, c2, r2, o2⟩; have hn2 := r2.small L2; have R2 := Lib.hid r2; have F2 := Lib.hid ((F1.out.below (below_drewN (Below.refl _ _) 1)).only o2 hne4); have P2 := Lib.hid ((P1.out.trans (Only.of (below_drewN (Below.refl _ _) 1))).trans o2); clear r2 o2))
  all_goals (
    go_wp2_with fail
    refine (K3.out _ _ _ _ R2.out hn2).mono ?_
    rintro e w3 ⟨rfl, A3, n3, c3, r3, o3⟩
    have hn3 := r3.small L3
    have hg3 := r3.lt
    have f3 := F2.out.only o3 hne4
    have p3 := P2.out.trans o3
    have hf4 := f3.lt
    have r8 : RrAt (w3.alloc (.cells #[.string (takeS p m ++ ⟨t.toArray⟩), .int .u64 (X2 : Int), .int .u8 (X3 : Int), .string ⟨#[]⟩] 40)) g A3 n3 c3 l3 := r3.below (below_alloc w3 _)
    have f8 : EnAt (w3.alloc (.cells #[.string (takeS p m ++ ⟨t.toArray⟩), .int .u64 (X2 : Int), .int .u8 (X3 : Int), .string ⟨#[]⟩] 40)) b4 noE := f3.below (below_alloc w3 _)
    have p8 := p3.trans (Only.of (below_alloc w3 (.cells #[.string (takeS p m ++ ⟨t.toArray⟩), .int .u64 (X2 : Int), .int .u8 (X3 : Int), .string ⟨#[]⟩] 40)))
    have y8 : EnAt (w3.alloc (.cells #[.string (takeS p m ++ ⟨t.toArray⟩), .int .u64 (X2 : Int), .int .u8 (X3 : Int), .string ⟨#[]⟩] 40)) w3.heap.size ⟨takeS p m ++ ⟨t.toArray⟩, X2, X3, noS⟩ := EnAt.new w3 ⟨takeS p m ++ ⟨t.toArray⟩, X2, X3, noS⟩
    have hne8 : w3.heap.size ≠ g := by omega
    have hne48 : b4 ≠ w3.heap.size := by omega
    clear r3 o3 f3 p3
    have hgb : g < b4 := by omega
    have hk : X3 = 1 ∨ X3 = 0 := by omega
    have HN3 := Lib.hid hn3
    rcases hk with hk | hk
    · have d1 : ((X3 : Int) == 1) = true := by simp; omega
      have HEY := Lib.hid (EY.out hk)
      have HR8 := Lib.hid r8
      have HF8 := Lib.hid f8
      have HP8 := Lib.hid p8
      have HY8 := Lib.hid y8
      obtain ⟨k0, k1, k2, k3⟩ := y8.cells
      clear r8 f8 p8 y8 hk
      go_wp2_with fail
      refine (K4.out _ _ _ _ HR8.out HN3.out).mono ?_
      rintro e w4 ⟨rfl, A4, n4, c4, r4, o4⟩
      have f9 := HF8.out.only o4 hne4
      have y9 := HY8.out.only o4 hne8
      have p9 := HP8.out.trans o4
      have y10 := y9.set1 ⟨v.toArray⟩
      have f10 := f9.only (Only.set w4 w3.heap.size 3 (.string ⟨v.toArray⟩)) hne48
      have r10 := r4.far (Only.set w4 w3.heap.size 3 (.string ⟨v.toArray⟩)) hg3 y9.lt
      have p10 := p9.new (b := w3.heap.size) (o := 3) (by omega) (.string ⟨v.toArray⟩)
      obtain ⟨j0, j1, j2, j3⟩ := y9.frozen
      clear k0 k1 k2 k3
      obtain ⟨k0, k1, k2, k3⟩ := y9.cells
      have Y10 := Lib.hid y10
      have F10 := Lib.hid f10
      have HFIN := Lib.hid (RrPost.done (y := ⟨takeS p m ++ ⟨t.toArray⟩, X2, X3, ⟨v.toArray⟩⟩) r10 p10 f10 hb4 hgb)
      clear r4 o4 f9 y9 p9 y10 f10 r10 p10
      go_upto_region 7 with (fail)
      generalize hwz : w4.setCell ⟨w3.heap.size, 3, none⟩ (.string ⟨v.toArray⟩) = wz at *
      clear hwz j0 j1 j2 j3 k0 k1 k2 k3
      obtain ⟨i0, i1, i2, i3⟩ := Y10.out.cells
      obtain ⟨h0, h1, h2, h3⟩ := F10.out.frozen
      obtain ⟨m0, m1, m2, m3⟩ := F10.out.cells
      go_wp2_with fail
      rw [HEY.out]
      exact ret_en rfl rfl rfl HFIN.out.1 ⟨rfl, HFIN.out.2⟩
    · have d1 : ((X3 : Int) == 1) = false := by simp; omega
      have HEN := Lib.hid (EN.out (by omega))
      obtain ⟨k0, k1, k2, k3⟩ := y8.cells
      have HFIN := Lib.hid (RrPost.done (y := ⟨takeS p m ++ ⟨t.toArray⟩, X2, X3, noS⟩) r8 p8 f8 hb4 hgb)
      have Y8 := Lib.hid y8
      have F8 := Lib.hid f8
      clear r8 p8 f8 y8 hk
      go_upto_region 7 with (fail)
      generalize hwz : w3.alloc (.cells #[.string (takeS p m ++ ⟨t.toArray⟩), .int .u64 (X2 : Int), .int .u8 (X3 : Int), .string ⟨#[]⟩] 40) = wz at *
      clear hwz k0 k1 k2 k3
      obtain ⟨i0, i1, i2, i3⟩ := Y8.out.cells
      obtain ⟨h0, h1, h2, h3⟩ := F8.out.frozen
      obtain ⟨m0, m1, m2, m3⟩ := F8.out.cells
      go_wp2_with fail
      rw [HEN.out]
      exact ret_en rfl rfl rfl HFIN.out.1 ⟨rfl, HFIN.out.2⟩)
end Go.Proofs.YtkdjjdkcogolmaaGreatDoor
end

section
/-
  What is read: the contract of read.
-/
namespace Go.Proofs.YtkdjjdkcogolmaaGreatDoor
set_option maxRecDepth 100000
open Go.RowKit Go.Shelf
set_option linter.unusedVariables false

theorem FrE.drew {w : World} {b n c : Nat} {A : Option Addr} {L : List Ent} (h : FrE w b A n c L) : FrE w.drew b A n c L := ⟨h.own⟩
theorem FrE.only {w w' : World} {b n c g : Nat} {A : Option Addr} {L : List Ent} (h : FrE w b A n c L) (ho : Only g w w') (hb : g < b) : FrE w' b A n c L := by
  obtain ⟨h1, h2⟩ := h.own
  refine ⟨h1, ?_⟩
  rcases h2 with h2 | ⟨k, cap, cur, e, hk, hh, r⟩
  · exact .inl h2
  · exact .inr ⟨k, cap, cur, e, hk, (ho.block k (Array.getElem?_eq_some_iff.1 hh).1 (by omega)).trans hh, r⟩
theorem RrAt.under {w w' : World} {g n c B : Nat} {A : Option Addr} {l : List UInt8} (h : RrAt w g A n c l) (hb : Below B w w') (hB : g < B) : RrAt w' g A n c l :=
  ⟨by have := h.lt; have := hb.size; omega, by rw [hb.block g hB]; exact h.h, h.rd.under hb (Nat.le_of_lt hB)⟩
theorem entR_key (p : ByteArray) (l : List UInt8) : (entR p l).1.s.size ≤ p.size + 64 := by
  have h2 := (txtR_le 64 (numR l).2).1
  unfold entR
  dsimp only
  have h3 := takeS_size p (k := min (numR l).1 p.size) (Nat.min_le_right _ _)
  have h4 := size_toArray (txtR 64 (numR l).2).1
  split <;> (rw [ByteArray.size_append, h3, h4]; omega)
theorem entR_rest (p : ByteArray) (l : List UInt8) : (entR p l).2.length ≤ l.length := by
  have h1 := (numR_le l).2
  have h2 := (txtR_le 64 (numR l).2).2
  have h3 := (numR_le (txtR 64 (numR l).2).2).2
  have h4 := (txtR_le 256 (numR (txtR 64 (numR l).2).2).2).2
  unfold entR
  dsimp only
  split <;> (dsimp only; omega)
theorem readR_step {f : Nat} {p : ByteArray} {l : List UInt8} (h : l ≠ []) : readR (f + 1) p l = (entR p l).1 :: readR f (entR p l).1.s (entR p l).2 := by
  simp only [readR]; rw [if_neg h]
theorem readR_nil (f : Nat) (p : ByteArray) : readR f p [] = [] := by cases f <;> simp [readR]
theorem EnAt.app {W w5 : World} {be b n c n' c' : Nat} {A A' : Option Addr} {L : List Ent} {x : Ent} (y : EnAt W be x) (hap : AppE W w5 b (.slice A n c) A' n' c' L) (hown : (Value.slice A n c).ownBlock ≠ some be) : EnAt w5 be x :=
  ⟨by have := hap.grown.size; have := y.lt; omega, (hap.grown.block be y.lt (fun e => hown e.symm)).trans y.h⟩
def RetEn (w : World) (L : List Ent) (e : Ending) (w' : World) : Prop :=
  ∃ A n c, e = .returned (.slice A n c) ∧ FrE w' w.heap.size A n c L ∧ Below w.heap.size w w'
set_option maxRecDepth 100000 in
set_option maxHeartbeats 4000000 in
theorem read_c {w : World} {n c : Nat} {A : Option Addr} {l : List UInt8} (h : Rd w w.heap.size A n c (bv l)) (hn : n ≤ 1000000000) :
    Calls Tryz.prog 110 #[.slice A n c] w (RetEn w (readR 64 noS l)) := by
  have hll : l.length = n := by simpa using h.len
  obtain ⟨g, hg⟩ : ∃ g, w.heap.size = g := ⟨_, rfl⟩
  have h0 : RrAt (w.alloc (.cells #[.slice A n c] 148)) g A n c l := by
    subst hg
    exact ⟨by simp, heap_alloc_new w _, h.alloc (Nat.le_refl _) _⟩
  have b0 : Below g w (w.alloc (.cells #[.slice A n c] 148)) := by subst hg; exact below_alloc w _
  have hln : l.length ≤ 1000000000 := by omega
  have H0 := Lib.hid h0
  have B0 := Lib.hid b0
  have HLN := Lib.hid hln
  obtain ⟨F, hF⟩ : ∃ F, readR 64 noS l = F := ⟨_, rfl⟩
  have HF := Lib.hid hF
  have HG := Lib.hid hg
  rw [hF]
  clear h h0 b0 hll hn hF hln
  go_enter Tryz.func110, Tryz.ntmps110
  go_wp2_with fail
  go_loopw [3, 5] (fun lv kv wr => ∃ (M : List Ent) (s : ByteArray) (A1 : Option Addr) (m c1 : Nat) (l1 : List UInt8) (A2 : Option Addr) (n2 c2 : Nat), lv = .slice A1 m c1 ∧ kv = .string s ∧ FrE wr (g + 1) A1 m c1 M ∧ RrAt wr g A2 n2 c2 l1 ∧ Below g w wr ∧ s.size ≤ 64 * m ∧ m ≤ 64 ∧ F = M ++ readR (64 - m) s l1 ∧ l1.length ≤ 1000000000) (fun lv _ _ => 64 - (match lv with | .slice _ m _ => m | _ => 0))
  case atStart => exact ⟨[], noS, none, 0, 0, l, A, n, c, rfl, rfl, FrE.nil, H0.out, B0.out, by decide, by omega, HF.out.symm, HLN.out⟩
  case round =>
    clear H0 B0
    obtain ⟨M, s, A1, m, c1, l1, A2, n2, c2, rfl, rfl, f1, r1, gr, hs, hm, hFm, hl1⟩ := hrel
    have hl2 := r1.len
    have x0 := r1.cell
    by_cases h1 : 0 < n2
    · have d1 : decide ((0 : Int) < (n2 : Int)) = true := by simp; omega
      have d1' : decide (0 < n2) = true := by simp; omega
      by_cases h2 : m < 64
      · have d2 : decide ((m : Int) < 64) = true := by simp; omega
        have d2' : decide (m < 64) = true := by simp; omega
        have hne : l1 ≠ [] := fun e => by rw [e] at hl2; simp at hl2; omega
        have HC := Lib.hid (rentry_c r1 (by omega) (p := s) (by omega))
        have hk1 := entR_key s l1
        have hk2 := entR_rest s l1
        have hF2 : F = M ++ (entR s l1).1 :: readR (64 - (m + 1)) (entR s l1).1.s (entR s l1).2 := by
          rw [hFm, show 64 - m = (64 - (m + 1)) + 1 by omega, readR_step hne]
        have hgw : g ≤ wr.heap.size := Nat.le_of_lt r1.lt
        obtain ⟨R, hR⟩ : ∃ R, entR s l1 = R := ⟨_, rfl⟩
        rw [hR] at HC hk1 hk2 hF2
        have hm2 : (entR s l1).1.s.size ≤ 64 * (m + 1) := by rw [hR]; omega
        rw [hR] at hm2
        obtain ⟨x, l3⟩ := R
        dsimp only at HC hk1 hk2 hF2 hm2
        have hl3 : l3.length ≤ 1000000000 := by omega
        have HF2 := Lib.hid hF2
        have F1 := Lib.hid f1
        have GR := Lib.hid gr
        have HM2 := Lib.hid hm2
        have HL3 := Lib.hid hl3
        unfold en at HC
        clear f1 gr hs hm hFm hl1 hl2 hne hk1 hk2 hF2 hR hm2 hl3 r1
        go_wp2_with fail
        refine HC.out.mono ?_
        rintro e w2 ⟨rfl, A3, n3, c3, r3, o3⟩
        have f3 := F1.out.only o3 (Nat.lt_succ_self g)
        have g3 := GR.out.trans (o3.below (Nat.le_refl _) hgw)
        have hown : ∀ k, (Value.slice A1 m c1).ownBlock = some k → k < w2.heap.size := fun k hk => (f3.own.lt k hk).2
        have y0 : EnAt (w2.alloc (.cells #[.string x.s, .int .u64 (x.q : Int), .int .u8 (x.k : Int), .string x.v] 40)) w2.heap.size x := EnAt.new w2 x
        have f4 : FrE (w2.alloc (.cells #[.string x.s, .int .u64 (x.q : Int), .int .u8 (x.k : Int), .string x.v] 40)) (g + 1) A1 m c1 M := f3.alloc _
        have r4 : RrAt (w2.alloc (.cells #[.string x.s, .int .u64 (x.q : Int), .int .u8 (x.k : Int), .string x.v] 40)) g A3 n3 c3 l3 := r3.below (below_alloc w2 _)
        have g4 : Below g w (w2.alloc (.cells #[.string x.s, .int .u64 (x.q : Int), .int .u8 (x.k : Int), .string x.v] 40)) := g3.trans ((below_alloc w2 _).mono (Nat.le_of_lt r3.lt))
        obtain ⟨be, hbe⟩ : ∃ be, w2.heap.size = be := ⟨_, rfl⟩
        rw [hbe] at y0 hown
        clear r3 o3 f3 g3 x0
        go_upto_region 5 with (fail)
        generalize hwa : w2.alloc (.cells #[.string x.s, .int .u64 (x.q : Int), .int .u8 (x.k : Int), .string x.v] 40) = wa at *
        clear hwa hbe
        obtain ⟨i0, i1, i2, i3⟩ := y0.drew.cells
        have Y0 := Lib.hid y0
        have F4 := Lib.hid f4
        have R4 := Lib.hid r4
        have G4 := Lib.hid g4
        have HOWN := Lib.hid (show (Value.slice A1 m c1).ownBlock ≠ some be from fun e => absurd (hown be e) (Nat.lt_irrefl _))
        have y1 : EnAt (wa.alloc (.cells #[.string x.s, .int .u64 (x.q : Int), .int .u8 (x.k : Int), .string x.v] 40)) be x := y0.below (below_alloc wa _)
        obtain ⟨v0, v1, v2, v3⟩ := y1.cells
        have Y1 := Lib.hid (show EnAt (wa.drew.alloc (.cells #[.string x.s, .int .u64 (x.q : Int), .int .u8 (x.k : Int), .string x.v] 40)) be x from y0.drew.below (below_alloc wa.drew _))
        have HSZ := Lib.hid (show wa.heap.size ≤ (wa.drew.alloc (.cells #[.string x.s, .int .u64 (x.q : Int), .int .u8 (x.k : Int), .string x.v] 40)).heap.size from (below_alloc wa.drew _).size)
        have hgl : g + 1 ≤ wa.heap.size := r4.lt
        have hm1 : m + 1 ≤ 65 := by omega
        clear y0 f4 r4 g4 hown y1
        go_region_law (first
          | (refine step_appE rfl (.tmp 20) (.tmp 22) rfl (F4.out.drew.alloc _) (by rfl) ((FrE.one wa.drew (b := 0) (g := wa.heap.size) x rfl (Nat.zero_le _)).rd (Nat.le_refl _)) (by rfl) (by omega) (Nat.le_trans hgl HSZ.out) ?_; intro A5 c5 w5 hap; have HAP := Lib.hid hap; have y5 : EnAt w5 be x := Y1.out.app hap HOWN.out; obtain ⟨j0, j1, j2, j3⟩ := y5.cells; clear hap))
        all_goals (
          (try go_simp)
          (try go_wp2_with fail)
          go_roundw
          case rel =>
            have hb5 : Below (g + 1) wa w5 := ((((below_drewN (Below.refl _ _) 1) : Below (g + 1) wa wa.drew)).alloc hgl _).trans HAP.out.below
            refine ⟨M ++ [x], x.s, A5, m + 1, c5, l3, A3, n3, c3, rfl, rfl, HAP.out.fr, R4.out.under hb5 (Nat.lt_succ_self g), G4.out.trans (hb5.mono (Nat.le_succ g)), HM2.out, by omega, ?_, HL3.out⟩
            rw [HF2.out, List.append_assoc]; rfl
          case measure => simp; omega)
      · have d2 : decide ((m : Int) < 64) = false := by simp; omega
        have d2' : decide (m < 64) = false := by simp; omega
        obtain rfl : m = 64 := by omega
        have HFIN := Lib.hid (show F = M by rw [hFm]; simp [readR])
        have F1 := Lib.hid f1
        have GR := Lib.hid gr
        clear f1 gr hs hm hFm hl1 hl2 r1
        go_wp2_with fail
        go_ret
        refine ⟨A1, _, c1, rfl, ?_, by rw [HG.out]; exact GR.out⟩
        rw [HFIN.out, HG.out]
        exact F1.out.mono (Nat.le_succ g)
    · have d1 : decide ((0 : Int) < (n2 : Int)) = false := by simp; omega
      have d1' : decide (0 < n2) = false := by simp; omega
      have hl0 : l1 = [] := List.eq_nil_of_length_eq_zero (by omega)
      have HFIN := Lib.hid (show F = M by rw [hFm, hl0, readR_nil, List.append_nil])
      have F1 := Lib.hid f1
      have GR := Lib.hid gr
      clear f1 gr hs hm hFm hl1 hl2 hl0 r1
      go_wp2_with fail
      go_ret
      refine ⟨A1, m, c1, rfl, ?_, by rw [HG.out]; exact GR.out⟩
      rw [HFIN.out, HG.out]
      exact F1.out.mono (Nat.le_succ g)
end Go.Proofs.YtkdjjdkcogolmaaGreatDoor
end
