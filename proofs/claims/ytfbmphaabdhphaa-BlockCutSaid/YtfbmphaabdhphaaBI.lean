/-
  The chapter's examples: the contract of awake.
-/
import Derived.Test.YtfbmphaabdhphaaBH
import Derived.BigQuiet
namespace Go.Proofs.Ytfbmphaabdhphaa
set_option maxRecDepth 100000
open Go.RowKit Go.Shelf
set_option linter.unusedVariables false

theorem key7_t (w : World) (s : ByteArray) (q k : Int) (q' k' : Nat) (hq : q = (q' : Int)) (hk : k = (k' : Int)) : Calls Try.prog 21 #[.string s, .int .u64 q, .int .u8 k] w (RetVl w (.agg #[.string s, .int .u64 (q' : Int), .int .u8 (k' : Int)])) := by
  rw [hq, hk]; exact key7_c w s q' k'
theorem RdE.now {w w' : World} {n c : Nat} {A : Option Addr} {L : List Ent} (h : RdE w w.heap.size A n c L) (hb : Below w.heap.size w w') : RdE w' w'.heap.size A n c L := (h.below hb (Nat.le_refl _)).more hb.size
theorem Fr.len_eq {w : World} {b n c : Nat} {e : TypeId} {A : Option Addr} {l : List UInt8} {k : Nat} (h : Fr w b e A n c (bv l)) (hl : l.length = k) : n = k := by
  have := h.len; rw [bv_length] at this; omega
theorem run_same_en {x y : Ent} (h : x = y) (W : World) : (Op.equalIn 10000 38 (en x.s x.q x.k x.v) (en y.s y.q y.k y.v)).run Try.prog W = .ok true W := by
  rw [run_eq_en, sameE_iff.2 h]

set_option maxRecDepth 100000 in
set_option maxHeartbeats 8000000 in
theorem awake7_c (w : World) : Calls Try.prog 9 #[] w (RetVl w (.bool true)) := by
  obtain ⟨X, hX⟩ : ∃ X, exA = X := ⟨_, rfl⟩
  obtain ⟨Y, hY⟩ : ∃ Y, exC = Y := ⟨_, rfl⟩
  obtain ⟨Z, hZ⟩ : ∃ Z, noE = Z := ⟨_, rfl⟩
  obtain ⟨XX, hXX⟩ : ∃ XX, exA = XX := ⟨_, rfl⟩
  obtain ⟨YY, hYY⟩ : ∃ YY, exC = YY := ⟨_, rfl⟩
  have s1 := ex_s1
  have s2 := ex_s2
  have s3 := ex_s3
  rw [hX] at s1
  rw [hY] at s2
  rw [hZ] at s3
  have S1 := Lib.hid s1
  have S2 := Lib.hid s2
  have S3 := Lib.hid s3
  have E1 := fun W => run_same_en (x := X) (y := XX) (hX.symm.trans hXX) W
  have E2 := fun W => run_same_en (x := Y) (y := YY) (hY.symm.trans hYY) W
  have E3 : ∀ W, (Op.equalIn 10000 38 (en Z.s Z.q Z.k Z.v) (.agg #[.string ⟨#[]⟩, .int .u64 0, .int .u8 0, .string ⟨#[]⟩])).run Try.prog W = .ok true W := fun W => run_same_en (x := Z) (y := noE) hZ.symm W
  unfold en at E1 E2 E3
  have HLL := Lib.hid (show exL = [XX, YY] by rw [← hXX, ← hYY]; rfl)
  have HXX := Lib.hid hXX
  have HYY := Lib.hid hYY
  clear s1 s2 s3 hX hY hZ hXX hYY
  have g0 : Below w.heap.size w w := Below.refl _ _
  go_enter Try.func9, Try.ntmps9
  go_wp2_with fail
  refine (key7_t _ ⟨#[97]⟩ 5 1 5 1 rfl rfl).mono ?_
  rintro e w1 ⟨rfl, hb1⟩
  replace g0 := bon g0 hb1
  clear hb1
  go_wp2_with fail
  refine (key7_t _ ⟨#[97, 98]⟩ 4 0 4 0 rfl rfl).mono ?_
  rintro e w2 ⟨rfl, hb2⟩
  replace g0 := bon g0 hb2
  clear hb2
  have hl : RdE (w2.alloc (.cells #[.string ⟨#[97]⟩, .int .u64 5, .int .u8 1, .string ⟨#[120]⟩, .string ⟨#[97, 98]⟩, .int .u64 4, .int .u8 0, .string ⟨#[]⟩] 38)) (w2.alloc (.cells #[.string ⟨#[97]⟩, .int .u64 5, .int .u8 1, .string ⟨#[120]⟩, .string ⟨#[97, 98]⟩, .int .u64 4, .int .u8 0, .string ⟨#[]⟩] 38)).heap.size (some ⟨w2.heap.size, 0, none⟩) 2 2 [XX, YY] := by
    rw [← HLL.out]
    exact (FrE.new w2 (b := 0) (L := exL) (by rfl) rfl (Nat.zero_le _) (by decide)).rd (Nat.le_refl _)
  replace g0 := blit g0 (.cells #[.string ⟨#[97]⟩, .int .u64 5, .int .u8 1, .string ⟨#[120]⟩, .string ⟨#[97, 98]⟩, .int .u64 4, .int .u8 0, .string ⟨#[]⟩] 38)
  go_upto_region 2 with (fail)
  generalize hw3 : w2.alloc (.cells #[.string ⟨#[97]⟩, .int .u64 5, .int .u8 1, .string ⟨#[120]⟩, .string ⟨#[97, 98]⟩, .int .u64 4, .int .u8 0, .string ⟨#[]⟩] 38) = w3 at *
  generalize hg3 : w2.heap.size = gl at *
  clear hw3 hg3
  have hb : Rd (w3.alloc (.cells #[.int .u8 0, .int .u8 1, .int .u8 97, .int .u8 11, .int .u8 1, .int .u8 120, .int .u8 1, .int .u8 1, .int .u8 98, .int .u8 8, .int .u8 0, .int .u8 0, .int .u8 0, .int .u8 0, .int .u8 1, .int .u8 0, .int .u8 0, .int .u8 0] 5)) (w3.heap.size + 1) (some ⟨w3.heap.size, 0, none⟩) 18 18 (bv exB) := Rd.litb w3 exB rfl rfl rfl (by decide)
  replace hb : Rd (w3.alloc (.cells #[.int .u8 0, .int .u8 1, .int .u8 97, .int .u8 11, .int .u8 1, .int .u8 120, .int .u8 1, .int .u8 1, .int .u8 98, .int .u8 8, .int .u8 0, .int .u8 0, .int .u8 0, .int .u8 0, .int .u8 1, .int .u8 0, .int .u8 0, .int .u8 0] 5)) (w3.alloc (.cells #[.int .u8 0, .int .u8 1, .int .u8 97, .int .u8 11, .int .u8 1, .int .u8 120, .int .u8 1, .int .u8 1, .int .u8 98, .int .u8 8, .int .u8 0, .int .u8 0, .int .u8 0, .int .u8 0, .int .u8 1, .int .u8 0, .int .u8 0, .int .u8 0] 5)).heap.size (some ⟨w3.heap.size, 0, none⟩) 18 18 (bv exB) := hb.more (by simp)
  replace hl := hl.now (below_alloc w3 (.cells #[.int .u8 0, .int .u8 1, .int .u8 97, .int .u8 11, .int .u8 1, .int .u8 120, .int .u8 1, .int .u8 1, .int .u8 98, .int .u8 8, .int .u8 0, .int .u8 0, .int .u8 0, .int .u8 0, .int .u8 1, .int .u8 0, .int .u8 0, .int .u8 0] 5))
  replace g0 := blit g0 (.cells #[.int .u8 0, .int .u8 1, .int .u8 97, .int .u8 11, .int .u8 1, .int .u8 120, .int .u8 1, .int .u8 1, .int .u8 98, .int .u8 8, .int .u8 0, .int .u8 0, .int .u8 0, .int .u8 0, .int .u8 1, .int .u8 0, .int .u8 0, .int .u8 0] 5)
  go_upto_region 3 with (fail)
  generalize hw4 : w3.alloc (.cells #[.int .u8 0, .int .u8 1, .int .u8 97, .int .u8 11, .int .u8 1, .int .u8 120, .int .u8 1, .int .u8 1, .int .u8 98, .int .u8 8, .int .u8 0, .int .u8 0, .int .u8 0, .int .u8 0, .int .u8 1, .int .u8 0, .int .u8 0, .int .u8 0] 5) = w4 at *
  generalize hg4 : w3.heap.size = gb at *
  clear hw4 hg4
  go_wp2_with fail
  refine (build_t hl (Nat.le_refl _) (by decide) (HLL.out ▸ ex_bld.1) (HLL.out ▸ ex_bld.2)).mono ?_
  rintro e w5 ⟨A5, n5, c5, rfl, hf5, hb5⟩
  obtain rfl : n5 = 18 := hf5.len_eq rfl
  have hr5 := hf5.rd (Nat.le_refl _)
  clear hf5
  replace hl := hl.now hb5
  replace hb := hb.now hb5
  replace g0 := bon g0 hb5
  clear hb5
  go_wp2_with fail
  refine (parse_t hb (Nat.le_refl _) (by decide) ex_prs.1 ex_prs.2).mono ?_
  rw [HLL.out]
  rintro e w6 ⟨A6, n6, c6, rfl, hf6, hb6⟩
  obtain rfl : n6 = 2 := hf6.len.symm
  have hr6 := hf6.rd (Nat.le_refl _)
  clear hf6
  replace hl := hl.now hb6
  replace hb := hb.now hb6
  replace hr5 := hr5.now hb6
  replace g0 := bon g0 hb6
  clear hb6
  go_wp2_with fail
  refine (key7_t _ ⟨#[97]⟩ 6 1 6 1 rfl rfl).mono ?_
  rintro e w7 ⟨rfl, hb7⟩
  replace hl := hl.now hb7
  replace hb := hb.now hb7
  replace hr5 := hr5.now hb7
  replace hr6 := hr6.now hb7
  replace g0 := bon g0 hb7
  clear hb7
  go_wp2_with fail
  refine (seek_t hb (Nat.le_refl _) (by decide) ⟨#[97]⟩ 6 1 S1.out.1 S1.out.2 ex_prs.2).mono ?_
  rintro e w8 ⟨rfl, hb8⟩
  unfold en
  replace hl := hl.now hb8
  replace hb := hb.now hb8
  replace hr5 := hr5.now hb8
  replace hr6 := hr6.now hb8
  replace g0 := bon g0 hb8
  clear hb8
  have bX := EnAt.new w8 X
  replace hl := hl.now (below_alloc w8 (.cells #[.string X.s, .int .u64 (X.q : Int), .int .u8 (X.k : Int), .string X.v] 38))
  replace hb := hb.now (below_alloc w8 (.cells #[.string X.s, .int .u64 (X.q : Int), .int .u8 (X.k : Int), .string X.v] 38))
  replace hr5 := hr5.now (below_alloc w8 (.cells #[.string X.s, .int .u64 (X.q : Int), .int .u8 (X.k : Int), .string X.v] 38))
  replace hr6 := hr6.now (below_alloc w8 (.cells #[.string X.s, .int .u64 (X.q : Int), .int .u8 (X.k : Int), .string X.v] 38))
  replace g0 := blit g0 (.cells #[.string X.s, .int .u64 (X.q : Int), .int .u8 (X.k : Int), .string X.v] 38)
  go_upto_region 6 with (fail)
  generalize hw9 : w8.alloc (.cells #[.string X.s, .int .u64 (X.q : Int), .int .u8 (X.k : Int), .string X.v] 38) = w9 at *
  generalize hg9 : w8.heap.size = gX at *
  clear hw9 hg9
  go_wp2_with fail
  refine (key7_t _ ⟨#[97]⟩ 4 1 4 1 rfl rfl).mono ?_
  rintro e w10 ⟨rfl, hb10⟩
  replace hl := hl.now hb10
  replace hb := hb.now hb10
  replace hr5 := hr5.now hb10
  replace hr6 := hr6.now hb10
  replace bX := bX.below hb10
  replace g0 := bon g0 hb10
  clear hb10
  go_wp2_with fail
  refine (seek_t hb (Nat.le_refl _) (by decide) ⟨#[97]⟩ 4 1 S2.out.1 S2.out.2 ex_prs.2).mono ?_
  rintro e w11 ⟨rfl, hb11⟩
  unfold en
  replace hl := hl.now hb11
  replace hb := hb.now hb11
  replace hr5 := hr5.now hb11
  replace hr6 := hr6.now hb11
  replace bX := bX.below hb11
  replace g0 := bon g0 hb11
  clear hb11
  have bY := EnAt.new w11 Y
  replace hl := hl.now (below_alloc w11 (.cells #[.string Y.s, .int .u64 (Y.q : Int), .int .u8 (Y.k : Int), .string Y.v] 38))
  replace hb := hb.now (below_alloc w11 (.cells #[.string Y.s, .int .u64 (Y.q : Int), .int .u8 (Y.k : Int), .string Y.v] 38))
  replace hr5 := hr5.now (below_alloc w11 (.cells #[.string Y.s, .int .u64 (Y.q : Int), .int .u8 (Y.k : Int), .string Y.v] 38))
  replace hr6 := hr6.now (below_alloc w11 (.cells #[.string Y.s, .int .u64 (Y.q : Int), .int .u8 (Y.k : Int), .string Y.v] 38))
  replace bX := bX.below (below_alloc w11 (.cells #[.string Y.s, .int .u64 (Y.q : Int), .int .u8 (Y.k : Int), .string Y.v] 38))
  replace g0 := blit g0 (.cells #[.string Y.s, .int .u64 (Y.q : Int), .int .u8 (Y.k : Int), .string Y.v] 38)
  go_upto_region 7 with (fail)
  generalize hw12 : w11.alloc (.cells #[.string Y.s, .int .u64 (Y.q : Int), .int .u8 (Y.k : Int), .string Y.v] 38) = w12 at *
  generalize hg12 : w11.heap.size = gY at *
  clear hw12 hg12
  go_wp2_with fail
  refine (key7_t _ ⟨#[97, 98]⟩ 3 1 3 1 rfl rfl).mono ?_
  rintro e w13 ⟨rfl, hb13⟩
  replace hl := hl.now hb13
  replace hb := hb.now hb13
  replace hr5 := hr5.now hb13
  replace hr6 := hr6.now hb13
  replace bX := bX.below hb13
  replace bY := bY.below hb13
  replace g0 := bon g0 hb13
  clear hb13
  go_wp2_with fail
  refine (seek_t hb (Nat.le_refl _) (by decide) ⟨#[97, 98]⟩ 3 1 S3.out.1 S3.out.2 ex_prs.2).mono ?_
  rintro e w14 ⟨rfl, hb14⟩
  unfold en
  replace hl := hl.now hb14
  replace hb := hb.now hb14
  replace hr5 := hr5.now hb14
  replace hr6 := hr6.now hb14
  replace bX := bX.below hb14
  replace bY := bY.below hb14
  replace g0 := bon g0 hb14
  clear hb14
  have bZ := EnAt.new w14 Z
  replace hl := hl.now (below_alloc w14 (.cells #[.string Z.s, .int .u64 (Z.q : Int), .int .u8 (Z.k : Int), .string Z.v] 38))
  replace hb := hb.now (below_alloc w14 (.cells #[.string Z.s, .int .u64 (Z.q : Int), .int .u8 (Z.k : Int), .string Z.v] 38))
  replace hr5 := hr5.now (below_alloc w14 (.cells #[.string Z.s, .int .u64 (Z.q : Int), .int .u8 (Z.k : Int), .string Z.v] 38))
  replace hr6 := hr6.now (below_alloc w14 (.cells #[.string Z.s, .int .u64 (Z.q : Int), .int .u8 (Z.k : Int), .string Z.v] 38))
  replace bX := bX.below (below_alloc w14 (.cells #[.string Z.s, .int .u64 (Z.q : Int), .int .u8 (Z.k : Int), .string Z.v] 38))
  replace bY := bY.below (below_alloc w14 (.cells #[.string Z.s, .int .u64 (Z.q : Int), .int .u8 (Z.k : Int), .string Z.v] 38))
  replace g0 := blit g0 (.cells #[.string Z.s, .int .u64 (Z.q : Int), .int .u8 (Z.k : Int), .string Z.v] 38)
  go_upto_region 8 with (fail)
  generalize hw15 : w14.alloc (.cells #[.string Z.s, .int .u64 (Z.q : Int), .int .u8 (Z.k : Int), .string Z.v] 38) = w15 at *
  generalize hg15 : w14.heap.size = gZ at *
  clear hw15 hg15
  go_wp2_with fail
  refine (build_t (RdE.nilv (B := 0)) (Nat.zero_le _) (by decide) ex_nilL ex_nil).mono ?_
  rintro e w16 ⟨A16, n16, c16, rfl, hf16, hb16⟩
  clear hf16
  replace hl := hl.now hb16
  replace hb := hb.now hb16
  replace hr5 := hr5.now hb16
  replace hr6 := hr6.now hb16
  replace bX := bX.below hb16
  replace bY := bY.below hb16
  replace bZ := bZ.below hb16
  replace g0 := bon g0 hb16
  clear hb16
  have hd : Rd (w16.alloc (.cells #[.int .u8 0, .int .u8 1, .int .u8 97, .int .u8 11, .int .u8 1, .int .u8 120, .int .u8 0, .int .u8 2, .int .u8 97, .int .u8 98, .int .u8 8, .int .u8 0, .int .u8 0, .int .u8 0, .int .u8 0, .int .u8 1, .int .u8 0, .int .u8 0, .int .u8 0] 5)) (w16.heap.size + 1) (some ⟨w16.heap.size, 0, none⟩) 19 19 (bv exD) := Rd.litb w16 exD rfl rfl rfl (by decide)
  replace hl := hl.now (below_alloc w16 (.cells #[.int .u8 0, .int .u8 1, .int .u8 97, .int .u8 11, .int .u8 1, .int .u8 120, .int .u8 0, .int .u8 2, .int .u8 97, .int .u8 98, .int .u8 8, .int .u8 0, .int .u8 0, .int .u8 0, .int .u8 0, .int .u8 1, .int .u8 0, .int .u8 0, .int .u8 0] 5))
  replace hb := hb.now (below_alloc w16 (.cells #[.int .u8 0, .int .u8 1, .int .u8 97, .int .u8 11, .int .u8 1, .int .u8 120, .int .u8 0, .int .u8 2, .int .u8 97, .int .u8 98, .int .u8 8, .int .u8 0, .int .u8 0, .int .u8 0, .int .u8 0, .int .u8 1, .int .u8 0, .int .u8 0, .int .u8 0] 5))
  replace hr5 := hr5.now (below_alloc w16 (.cells #[.int .u8 0, .int .u8 1, .int .u8 97, .int .u8 11, .int .u8 1, .int .u8 120, .int .u8 0, .int .u8 2, .int .u8 97, .int .u8 98, .int .u8 8, .int .u8 0, .int .u8 0, .int .u8 0, .int .u8 0, .int .u8 1, .int .u8 0, .int .u8 0, .int .u8 0] 5))
  replace hr6 := hr6.now (below_alloc w16 (.cells #[.int .u8 0, .int .u8 1, .int .u8 97, .int .u8 11, .int .u8 1, .int .u8 120, .int .u8 0, .int .u8 2, .int .u8 97, .int .u8 98, .int .u8 8, .int .u8 0, .int .u8 0, .int .u8 0, .int .u8 0, .int .u8 1, .int .u8 0, .int .u8 0, .int .u8 0] 5))
  replace bX := bX.below (below_alloc w16 (.cells #[.int .u8 0, .int .u8 1, .int .u8 97, .int .u8 11, .int .u8 1, .int .u8 120, .int .u8 0, .int .u8 2, .int .u8 97, .int .u8 98, .int .u8 8, .int .u8 0, .int .u8 0, .int .u8 0, .int .u8 0, .int .u8 1, .int .u8 0, .int .u8 0, .int .u8 0] 5))
  replace bY := bY.below (below_alloc w16 (.cells #[.int .u8 0, .int .u8 1, .int .u8 97, .int .u8 11, .int .u8 1, .int .u8 120, .int .u8 0, .int .u8 2, .int .u8 97, .int .u8 98, .int .u8 8, .int .u8 0, .int .u8 0, .int .u8 0, .int .u8 0, .int .u8 1, .int .u8 0, .int .u8 0, .int .u8 0] 5))
  replace bZ := bZ.below (below_alloc w16 (.cells #[.int .u8 0, .int .u8 1, .int .u8 97, .int .u8 11, .int .u8 1, .int .u8 120, .int .u8 0, .int .u8 2, .int .u8 97, .int .u8 98, .int .u8 8, .int .u8 0, .int .u8 0, .int .u8 0, .int .u8 0, .int .u8 1, .int .u8 0, .int .u8 0, .int .u8 0] 5))
  replace g0 := blit g0 (.cells #[.int .u8 0, .int .u8 1, .int .u8 97, .int .u8 11, .int .u8 1, .int .u8 120, .int .u8 0, .int .u8 2, .int .u8 97, .int .u8 98, .int .u8 8, .int .u8 0, .int .u8 0, .int .u8 0, .int .u8 0, .int .u8 1, .int .u8 0, .int .u8 0, .int .u8 0] 5)
  go_wp2_with fail
  refine (parse_t hd (by simp) (by decide) rfl ex_none).mono ?_
  rintro e w17 ⟨A17, n17, c17, rfl, hf17, hb17⟩
  clear hf17 hd
  replace hl := hl.now hb17
  replace hb := hb.now hb17
  replace hr5 := hr5.now hb17
  replace hr6 := hr6.now hb17
  replace bX := bX.below hb17
  replace bY := bY.below hb17
  replace bZ := bZ.below hb17
  replace g0 := bon g0 hb17
  clear hb17
  obtain ⟨b, off, hA, hbB, hcell⟩ := hl.form (by decide)
  cases hA
  obtain ⟨x0, x1, x2, x3⟩ := hcell 0 XX rfl
  obtain ⟨y0, y1, y2, y3⟩ := hcell 1 YY rfl
  obtain ⟨i0, i1, i2, i3⟩ := bX.cells
  obtain ⟨j0, j1, j2, j3⟩ := bY.cells
  obtain ⟨k0, k1, k2, k3⟩ := bZ.cells
  have HQ1 := Lib.hid fun q => same_c (hr5.drewN q) (hb.drewN q)
  have HQ2 := Lib.hid fun q => sameE_c (hr6.keep (w' := w17.drewN q) (fun _ _ => rfl)) (hl.keep (w' := w17.drewN q) (fun _ _ => rfl)) (by decide) (by decide)
  have es1 : (exB == exB) = true := by decide
  have es2 : sameEs [XX, YY] [XX, YY] = true := sameEs_iff.2 rfl
  rw [es1] at HQ1
  rw [es2] at HQ2
  have G0 := Lib.hid g0
  clear hl hb hr5 hr6 bX bY bZ hcell hbB g0
  go_wp2_with fail
  go_big_quiet (first | (go_at_call 14; exact Calls.quiet_of_same ((HQ1.out _).mono fun _ _ h => ⟨h.1, h.2.symm⟩)) | (go_at_call 15; exact Calls.quiet_of (HQ2.out _)))
  go_wp2_with fail
  go_ret
  exact ⟨rfl, bon G0.out (below_drewN (Below.refl _ _) _)⟩
end Go.Proofs.Ytfbmphaabdhphaa
