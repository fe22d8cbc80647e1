/-
  The chapter's examples: the contract of awake.
-/
import Derived.Test.YthgaiimgfnbkaaaGreatDoorW9
import Derived.Lib.MinMax
namespace Go.Proofs.YthgaiimgfnbkaaaGreatDoor
set_option maxRecDepth 100000
open Go.RowKit Go.Shelf
set_option linter.unusedVariables false

theorem awake_start (w : World) : ∃ W0, ((((w.alloc (.cells #[.int .u8 1, .string ⟨#[97]⟩, .string ⟨#[120]⟩] 43)).alloc (.cells #[.int .u64 1, .slice (some ⟨w.heap.size, 0, none⟩) 1 1] 25)).alloc (.cells #[.int .u8 0, .string ⟨#[98]⟩, .string ⟨#[]⟩] 43)).alloc (.cells #[.int .u64 2, .slice (some ⟨w.heap.size + 1 + 1, 0, none⟩) 1 1] 25)).alloc (.cells #[.int .u64 3, .slice (some ⟨w.heap.size + 1 + 1, 0, none⟩) 1 1] 25) = W0 ∧ RdO W0 W0.heap.size (some ⟨w.heap.size, 0, none⟩) 1 1 [exA] ∧ RdO W0 W0.heap.size (some ⟨w.heap.size + 1 + 1, 0, none⟩) 1 1 [exC] ∧
    RecAt W0 (w.heap.size + 1) 1 (some ⟨w.heap.size, 0, none⟩) 1 1 ∧ RecAt W0 (w.heap.size + 1 + 1 + 1) 2 (some ⟨w.heap.size + 1 + 1, 0, none⟩) 1 1 ∧ RecAt W0 (w.heap.size + 1 + 1 + 1 + 1) 3 (some ⟨w.heap.size + 1 + 1, 0, none⟩) 1 1 ∧ Below w.heap.size w W0 := by
  refine ⟨_, rfl, ?_, ?_, ?_, ?_, ?_, ?_⟩
  · have h : RdO (w.alloc (.cells #[.int .u8 1, .string ⟨#[97]⟩, .string ⟨#[120]⟩] 43)) (w.alloc (.cells #[.int .u8 1, .string ⟨#[97]⟩, .string ⟨#[120]⟩] 43)).heap.size (some ⟨w.heap.size, 0, none⟩) 1 1 [exA] := (FrO.one w (b := 0) exA rfl (Nat.zero_le _)).here
    exact (((h.lay _).lay _).lay _).lay _
  · have h : RdO (((w.alloc (.cells #[.int .u8 1, .string ⟨#[97]⟩, .string ⟨#[120]⟩] 43)).alloc (.cells #[.int .u64 1, .slice (some ⟨w.heap.size, 0, none⟩) 1 1] 25)).alloc (.cells #[.int .u8 0, .string ⟨#[98]⟩, .string ⟨#[]⟩] 43)) (((w.alloc (.cells #[.int .u8 1, .string ⟨#[97]⟩, .string ⟨#[120]⟩] 43)).alloc (.cells #[.int .u64 1, .slice (some ⟨w.heap.size, 0, none⟩) 1 1] 25)).alloc (.cells #[.int .u8 0, .string ⟨#[98]⟩, .string ⟨#[]⟩] 43)).heap.size (some ⟨w.heap.size + 1 + 1, 0, none⟩) 1 1 [exC] := (FrO.one ((w.alloc (.cells #[.int .u8 1, .string ⟨#[97]⟩, .string ⟨#[120]⟩] 43)).alloc (.cells #[.int .u64 1, .slice (some ⟨w.heap.size, 0, none⟩) 1 1] 25)) (b := 0) exC (by simp) (Nat.zero_le _)).here
    exact (h.lay _).lay _
  · have h := RecAt.new (w.alloc (.cells #[.int .u8 1, .string ⟨#[97]⟩, .string ⟨#[120]⟩] 43)) 1 (some ⟨w.heap.size, 0, none⟩) 1 1
    rw [World.size_alloc] at h
    exact ((h.alloc _).alloc _).alloc _
  · have h := RecAt.new (((w.alloc (.cells #[.int .u8 1, .string ⟨#[97]⟩, .string ⟨#[120]⟩] 43)).alloc (.cells #[.int .u64 1, .slice (some ⟨w.heap.size, 0, none⟩) 1 1] 25)).alloc (.cells #[.int .u8 0, .string ⟨#[98]⟩, .string ⟨#[]⟩] 43)) 2 (some ⟨w.heap.size + 1 + 1, 0, none⟩) 1 1
    rw [World.size_alloc, World.size_alloc, World.size_alloc] at h
    exact h.alloc _
  · have h := RecAt.new ((((w.alloc (.cells #[.int .u8 1, .string ⟨#[97]⟩, .string ⟨#[120]⟩] 43)).alloc (.cells #[.int .u64 1, .slice (some ⟨w.heap.size, 0, none⟩) 1 1] 25)).alloc (.cells #[.int .u8 0, .string ⟨#[98]⟩, .string ⟨#[]⟩] 43)).alloc (.cells #[.int .u64 2, .slice (some ⟨w.heap.size + 1 + 1, 0, none⟩) 1 1] 25)) 3 (some ⟨w.heap.size + 1 + 1, 0, none⟩) 1 1
    rw [World.size_alloc, World.size_alloc, World.size_alloc, World.size_alloc] at h
    exact h
  · exact blit (blit (blit (blit (below_alloc w _) _) _) _) _

set_option maxHeartbeats 8000000 in
theorem awake6_c {w : World} (hv : Vars w) : Calls Tryz.prog 5 #[] w (RetVl w (.bool true)) := by
  obtain ⟨W0, hW0, hA, hC, r1, r2, r3, g0⟩ := awake_start w
  replace hv := hv.now g0
  have HW0 := Lib.hid hW0
  clear hW0
  go_enter Tryz.func5, Tryz.ntmps5
  go_wp2_with fail
  rw [HW0.out]
  clear HW0
  refine (walBytes_t (q := 1) hA (by decide) (by decide) (walL_yes ex_r1).1 (walL_yes ex_r1).2).mono ?_
  rintro e w1 ⟨A1, n1, c1, rfl, hf1, hb1⟩
  obtain rfl : n1 = 15 := hf1.len_eq ex_l1
  have h1 := hf1.here
  clear hf1
  replace hv := hv.now hb1
  replace hA := hA.now hb1
  replace hC := hC.now hb1
  replace r1 := r1.below hb1 (Nat.le_refl _)
  replace r2 := r2.below hb1 (Nat.le_refl _)
  replace r3 := r3.below hb1 (Nat.le_refl _)
  replace g0 := bon g0 hb1
  clear hb1
  obtain ⟨r2a, r2b⟩ := r2.cells
  go_wp2_with fail
  clear r2a r2b
  refine (walBytes_t (q := 2) hC (by decide) (by decide) (walL_yes ex_r2).1 (walL_yes ex_r2).2).mono ?_
  rintro e w2 ⟨A2, n2, c2, rfl, hf2, hb2⟩
  obtain rfl : n2 = 13 := hf2.len_eq ex_l2
  have h2 := hf2.here
  clear hf2
  replace hv := hv.now hb2
  replace hA := hA.now hb2
  replace hC := hC.now hb2
  replace r1 := r1.below hb2 (Nat.le_refl _)
  replace r2 := r2.below hb2 (Nat.le_refl _)
  replace r3 := r3.below hb2 (Nat.le_refl _)
  replace g0 := bon g0 hb2
  replace h1 := h1.now hb2
  clear hb2
  obtain ⟨r3a, r3b⟩ := r3.cells
  go_wp2_with fail
  clear r3a r3b
  refine (walBytes_t (q := 3) hC (by decide) (by decide) (walL_yes ex_r3).1 (walL_yes ex_r3).2).mono ?_
  rintro e w3 ⟨A3, n3, c3, rfl, hf3, hb3⟩
  obtain rfl : n3 = 13 := hf3.len_eq ex_l3
  have h3 := hf3.here
  clear hf3
  replace hv := hv.now hb3
  replace hA := hA.now hb3
  replace hC := hC.now hb3
  replace r1 := r1.below hb3 (Nat.le_refl _)
  replace r2 := r2.below hb3 (Nat.le_refl _)
  replace r3 := r3.below hb3 (Nat.le_refl _)
  replace g0 := bon g0 hb3
  replace h1 := h1.now hb3
  replace h2 := h2.now hb3
  clear hb3
  have hc4 := below_alloc w3 (.cells #[] 5)
  have hx4 := h1.now hc4
  have hy4 := h2.under hc4 (Nat.le_refl _)
  go_wp2_with (first | (at_builtin; refine wpList_app rfl (.tmp 50) (.tmp 51) _ rfl Tryz.underlying26 info_u8 rfl rfl (Fr.new w3 5 #[] rfl (Nat.le_refl _) (Nat.zero_le _)) rfl hx4 (bv_one _) (by decide) (by decide) (by simp) ?_; intro A4 c4 w4 hap4; have hsz4 : w3.heap.size ≤ w4.heap.size := (by have := hap4.below.size; simp at this; omega); have hz4 := hy4.under hap4.below (Nat.le_refl _)) | (at_builtin; refine wpList_app rfl (.tmp 52) (.tmp 53) _ rfl Tryz.underlying26 info_u8 rfl rfl hap4.fr rfl hz4 (bv_one _) (by decide) (by decide) hsz4 ?_; intro A5 c5 w5 hap5))
  have hb5 : Below w3.heap.size w3 w5 := (hc4.trans hap4.below).trans hap5.below
  have h5 : Rd w5 w5.heap.size A5 28 c5 (bv (recL 1 [exA] ++ recL 2 [exC])) := by have := hap5.fr.here; rw [List.nil_append, ← bv_append] at this; exact this
  clear hap4 hap5 hc4 hx4 hy4 hz4 hsz4
  replace hv := hv.now hb5
  replace hA := hA.now hb5
  replace hC := hC.now hb5
  replace r1 := r1.below hb5 (Nat.le_refl _)
  replace r2 := r2.below hb5 (Nat.le_refl _)
  replace r3 := r3.below hb5 (Nat.le_refl _)
  replace g0 := bon g0 hb5
  replace h1 := h1.now hb5
  replace h2 := h2.now hb5
  replace h3 := h3.now hb5
  clear hb5
  refine (read_t h5 (by decide) ex_both (b := false) (by rw [List.length_append, ex_l1, ex_l2]; decide)).mono ?_
  rintro e w6 ⟨A6, n6, c6, R6, rfl, hR6, hr6, hs6, hb6⟩
  obtain rfl : n6 = 2 := by rw [← hr6.len, ← recsOf_len, hR6]; rfl
  replace hv := hv.now hb6
  replace hA := hA.now hb6
  replace hC := hC.now hb6
  replace r1 := r1.below hb6 (Nat.le_refl _)
  replace r2 := r2.below hb6 (Nat.le_refl _)
  replace r3 := r3.below hb6 (Nat.le_refl _)
  replace g0 := bon g0 hb6
  replace h1 := h1.now hb6
  replace h2 := h2.now hb6
  replace h3 := h3.now hb6
  replace h5 := h5.now hb6
  clear hb6
  have hcut := fun W => run_slice_hi_gen (P := Tryz.prog) (n := 28) (A := A5) 26 5 Tryz.underlying26 info_u8 .i64 (k := 27) (c := c5) (by have := h5.cap; omega) W
  replace hcut : ∀ W, (Instr.slice 26 (.slice A5 28 c5) none (some (.int .i64 27)) none).run Tryz.prog W = .ok (.slice A5 27 c5) W := hcut
  have h5c := h5.front (k := 27) (by decide)
  rw [bv_take'] at h5c
  have hmx : max (27 : Int) 0 = 27 := by decide
  go_wp2_with fail
  clear hcut hmx
  refine (read_t h5c (by decide) ex_cut (b := true) (by rw [List.length_take, List.length_append, ex_l1, ex_l2]; decide)).mono ?_
  rintro e w7 ⟨A7, n7, c7, R7, rfl, hR7, hr7, hs7, hb7⟩
  obtain rfl : n7 = 1 := by rw [← hr7.len, ← recsOf_len, hR7]; rfl
  replace hv := hv.now hb7
  replace hA := hA.now hb7
  replace hC := hC.now hb7
  replace r1 := r1.below hb7 (Nat.le_refl _)
  replace r2 := r2.below hb7 (Nat.le_refl _)
  replace r3 := r3.below hb7 (Nat.le_refl _)
  replace g0 := bon g0 hb7
  replace h1 := h1.now hb7
  replace h2 := h2.now hb7
  replace h3 := h3.now hb7
  replace h5 := h5.now hb7
  replace hr6 := hr6.now hb7
  clear hb7
  clear h5c
  have hc8 := below_alloc w7 (.cells #[] 5)
  have hx8 := h1.now hc8
  have hy8 := h3.under hc8 (Nat.le_refl _)
  go_wp2_with (first | (at_builtin; refine wpList_app rfl (.tmp 73) (.tmp 74) _ rfl Tryz.underlying26 info_u8 rfl rfl (Fr.new w7 5 #[] rfl (Nat.le_refl _) (Nat.zero_le _)) rfl hx8 (bv_one _) (by decide) (by decide) (by simp) ?_; intro A8 c8 w8 hap8; have hsz8 : w7.heap.size ≤ w8.heap.size := (by have := hap8.below.size; simp at this; omega); have hz8 := hy8.under hap8.below (Nat.le_refl _)) | (at_builtin; refine wpList_app rfl (.tmp 75) (.tmp 76) _ rfl Tryz.underlying26 info_u8 rfl rfl hap8.fr rfl hz8 (bv_one _) (by decide) (by decide) hsz8 ?_; intro A9 c9 w9 hap9))
  have hb9 : Below w7.heap.size w7 w9 := (hc8.trans hap8.below).trans hap9.below
  have h9 : Rd w9 w9.heap.size A9 28 c9 (bv (recL 1 [exA] ++ recL 3 [exC])) := by have := hap9.fr.here; rw [List.nil_append, ← bv_append] at this; exact this
  clear hap8 hap9 hc8 hx8 hy8 hz8 hsz8
  replace hv := hv.now hb9
  replace hA := hA.now hb9
  replace hC := hC.now hb9
  replace r1 := r1.below hb9 (Nat.le_refl _)
  replace r2 := r2.below hb9 (Nat.le_refl _)
  replace r3 := r3.below hb9 (Nat.le_refl _)
  replace g0 := bon g0 hb9
  replace h1 := h1.now hb9
  replace h2 := h2.now hb9
  replace h3 := h3.now hb9
  replace h5 := h5.now hb9
  replace hr6 := hr6.now hb9
  replace hr7 := hr7.now hb9
  clear hb9
  refine (read_t h9 (by decide) ex_jump (b := true) (by rw [List.length_append, ex_l1, ex_l3]; decide)).mono ?_
  rintro e w10 ⟨A10, n10, c10, R10, rfl, hR10, hr10, hs10, hb10⟩
  obtain rfl : n10 = 1 := by rw [← hr10.len, ← recsOf_len, hR10]; rfl
  replace hv := hv.now hb10
  replace hA := hA.now hb10
  replace hC := hC.now hb10
  replace r1 := r1.below hb10 (Nat.le_refl _)
  replace r2 := r2.below hb10 (Nat.le_refl _)
  replace r3 := r3.below hb10 (Nat.le_refl _)
  replace g0 := bon g0 hb10
  replace h1 := h1.now hb10
  replace h2 := h2.now hb10
  replace h3 := h3.now hb10
  replace h5 := h5.now hb10
  replace hr6 := hr6.now hb10
  replace hr7 := hr7.now hb10
  replace h9 := h9.now hb10
  clear hb10
  go_wp2_with fail
  clear h9 h2 h3 r3
  refine (read_t (Rd.nilv (B := w10.heap.size)) (by decide) ex_none (b := false) (rfl)).mono ?_
  rintro e w11 ⟨A11, n11, c11, R11, rfl, hR11, hr11, hs11, hb11⟩
  obtain rfl : n11 = 0 := by rw [← hr11.len, ← recsOf_len, hR11]; rfl
  replace hv := hv.now hb11
  replace hA := hA.now hb11
  replace hC := hC.now hb11
  replace r1 := r1.below hb11 (Nat.le_refl _)
  replace r2 := r2.below hb11 (Nat.le_refl _)
  replace g0 := bon g0 hb11
  replace h1 := h1.now hb11
  replace h5 := h5.now hb11
  replace hr6 := hr6.now hb11
  replace hr7 := hr7.now hb11
  replace hr10 := hr10.now hb11
  clear hb11
  go_wp2_with fail
  refine (number_t hv ⟨#[108, 111, 103, 46, 48, 55]⟩ (by decide) ex_07).mono ?_
  rintro e w12 ⟨rfl, hb12⟩
  replace hv := hv.now hb12
  replace hA := hA.now hb12
  replace hC := hC.now hb12
  replace r1 := r1.below hb12 (Nat.le_refl _)
  replace r2 := r2.below hb12 (Nat.le_refl _)
  replace g0 := bon g0 hb12
  replace h1 := h1.now hb12
  replace h5 := h5.now hb12
  replace hr6 := hr6.now hb12
  replace hr7 := hr7.now hb12
  replace hr10 := hr10.now hb12
  replace hr11 := hr11.now hb12
  clear hb12
  go_wp2_with fail
  refine (number_t hv ⟨#[108, 111, 103, 46, 48]⟩ (by decide) ex_00).mono ?_
  rintro e w13 ⟨rfl, hb13⟩
  replace hv := hv.now hb13
  replace hA := hA.now hb13
  replace hC := hC.now hb13
  replace r1 := r1.below hb13 (Nat.le_refl _)
  replace r2 := r2.below hb13 (Nat.le_refl _)
  replace g0 := bon g0 hb13
  replace h1 := h1.now hb13
  replace h5 := h5.now hb13
  replace hr6 := hr6.now hb13
  replace hr7 := hr7.now hb13
  replace hr10 := hr10.now hb13
  replace hr11 := hr11.now hb13
  clear hb13
  obtain ⟨r1a, r1b⟩ := r1.cells
  obtain ⟨r2a, r2b⟩ := r2.cells
  go_wp2_with fail
  have hlit14 : Recs (w13.alloc (.cells #[.int .u64 1, .slice (some ⟨w.heap.size, 0, none⟩) 1 1, .int .u64 2, .slice (some ⟨w.heap.size + 1 + 1, 0, none⟩) 1 1] 25)) (some ⟨w13.heap.size, 0, none⟩) 2 2 [⟨1, some ⟨w.heap.size, 0, none⟩, 1, 1, [exA]⟩, ⟨2, some ⟨w.heap.size + 1 + 1, 0, none⟩, 1, 1, [exC]⟩] := ⟨(FrW.new w13 (b := 0) (L := [⟨1, some ⟨w.heap.size, 0, none⟩, 1, 1, [exA]⟩, ⟨2, some ⟨w.heap.size + 1 + 1, 0, none⟩, 1, 1, [exC]⟩]) rfl rfl (Nat.zero_le _) (by show 2 ≤ maxLen; decide)).here, fun x hx => (by simp at hx; rcases hx with rfl | rfl <;> first | exact hA.lay _ | exact hC.lay _)⟩
  refine (sameW_t (hr6.lay _) hlit14 hs6 (fun x hx => by simp at hx; rcases hx with rfl | rfl <;> (show ((1 : Nat) : Int) ≤ 70368744000000; decide)) (by decide) (sameRs_iff.2 (hR6.trans rfl))).mono ?_
  rintro e w14 ⟨rfl, hb140⟩
  have hb14 := bon (below_alloc w13 (.cells #[.int .u64 1, .slice (some ⟨w.heap.size, 0, none⟩) 1 1, .int .u64 2, .slice (some ⟨w.heap.size + 1 + 1, 0, none⟩) 1 1] 25)) hb140
  clear hlit14 hb140
  clear r1a r1b
  clear r2a r2b
  replace hv := hv.now hb14
  replace hA := hA.now hb14
  replace hC := hC.now hb14
  replace r1 := r1.below hb14 (Nat.le_refl _)
  replace r2 := r2.below hb14 (Nat.le_refl _)
  replace g0 := bon g0 hb14
  replace h1 := h1.now hb14
  replace h5 := h5.now hb14
  replace hr6 := hr6.now hb14
  replace hr7 := hr7.now hb14
  replace hr10 := hr10.now hb14
  replace hr11 := hr11.now hb14
  clear hb14
  obtain ⟨r1a, r1b⟩ := r1.cells
  go_wp2_with fail
  have hlit15 : Recs (w14.alloc (.cells #[.int .u64 1, .slice (some ⟨w.heap.size, 0, none⟩) 1 1] 25)) (some ⟨w14.heap.size, 0, none⟩) 1 1 [⟨1, some ⟨w.heap.size, 0, none⟩, 1, 1, [exA]⟩] := ⟨(FrW.new w14 (b := 0) (L := [⟨1, some ⟨w.heap.size, 0, none⟩, 1, 1, [exA]⟩]) rfl rfl (Nat.zero_le _) (by show 1 ≤ maxLen; decide)).here, fun x hx => (by simp at hx; subst hx; exact hA.lay _)⟩
  refine (sameW_t (hr7.lay _) hlit15 hs7 (fun x hx => by simp at hx; subst hx; show ((1 : Nat) : Int) ≤ 70368744000000; decide) (by decide) (sameRs_iff.2 (hR7.trans rfl))).mono ?_
  rintro e w15 ⟨rfl, hb150⟩
  have hb15 := bon (below_alloc w14 (.cells #[.int .u64 1, .slice (some ⟨w.heap.size, 0, none⟩) 1 1] 25)) hb150
  clear hlit15 hb150
  clear r1a r1b
  replace hv := hv.now hb15
  replace hA := hA.now hb15
  replace hC := hC.now hb15
  replace r1 := r1.below hb15 (Nat.le_refl _)
  replace r2 := r2.below hb15 (Nat.le_refl _)
  replace g0 := bon g0 hb15
  replace h1 := h1.now hb15
  replace h5 := h5.now hb15
  replace hr6 := hr6.now hb15
  replace hr7 := hr7.now hb15
  replace hr10 := hr10.now hb15
  replace hr11 := hr11.now hb15
  clear hb15
  obtain ⟨r1a, r1b⟩ := r1.cells
  go_wp2_with fail
  have hlit16 : Recs (w15.alloc (.cells #[.int .u64 1, .slice (some ⟨w.heap.size, 0, none⟩) 1 1] 25)) (some ⟨w15.heap.size, 0, none⟩) 1 1 [⟨1, some ⟨w.heap.size, 0, none⟩, 1, 1, [exA]⟩] := ⟨(FrW.new w15 (b := 0) (L := [⟨1, some ⟨w.heap.size, 0, none⟩, 1, 1, [exA]⟩]) rfl rfl (Nat.zero_le _) (by show 1 ≤ maxLen; decide)).here, fun x hx => (by simp at hx; subst hx; exact hA.lay _)⟩
  refine (sameW_t (hr10.lay _) hlit16 hs10 (fun x hx => by simp at hx; subst hx; show ((1 : Nat) : Int) ≤ 70368744000000; decide) (by decide) (sameRs_iff.2 (hR10.trans rfl))).mono ?_
  rintro e w16 ⟨rfl, hb160⟩
  have hb16 := bon (below_alloc w15 (.cells #[.int .u64 1, .slice (some ⟨w.heap.size, 0, none⟩) 1 1] 25)) hb160
  clear hlit16 hb160
  clear r1a r1b
  replace hv := hv.now hb16
  replace hA := hA.now hb16
  replace hC := hC.now hb16
  replace r1 := r1.below hb16 (Nat.le_refl _)
  replace r2 := r2.below hb16 (Nat.le_refl _)
  replace g0 := bon g0 hb16
  replace h1 := h1.now hb16
  replace h5 := h5.now hb16
  replace hr6 := hr6.now hb16
  replace hr7 := hr7.now hb16
  replace hr10 := hr10.now hb16
  replace hr11 := hr11.now hb16
  clear hb16
  go_wp2_with fail
  refine (name_c hv 7 (by decide)).mono ?_
  rw [ex_7]
  rintro e w17 ⟨rfl, hb17⟩
  replace g0 := bon g0 hb17
  go_wp2_with fail
  go_ret
  exact RetVl.of rfl g0
end Go.Proofs.YthgaiimgfnbkaaaGreatDoor
