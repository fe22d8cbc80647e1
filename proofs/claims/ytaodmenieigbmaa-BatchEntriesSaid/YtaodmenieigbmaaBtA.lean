/-
  The chapter's examples: the contract of awake.
-/
import Derived.Test.YtaodmenieigbmaaBtA1
import Derived.Deep.Cut
namespace Go.Proofs.Ytaodmenieigbmaa
open Go.RowKit Go.Shelf

set_option maxRecDepth 100000 in
set_option maxHeartbeats 2000000 in
theorem awake4_c (w : World) : Calls Try.prog 9 #[] w (RetVl w (.bool true)) := by
  have g0 : Below w.heap.size w w := Below.refl _ _
  replace g0 := blit g0 (.cells #[.int .u8 1, .string ⟨#[97]⟩, .string ⟨#[120]⟩, .int .u8 0, .string ⟨#[98]⟩, .string ⟨#[]⟩] 28)
  have hl : RdO (w.alloc (.cells #[.int .u8 1, .string ⟨#[97]⟩, .string ⟨#[120]⟩, .int .u8 0, .string ⟨#[98]⟩, .string ⟨#[]⟩] 28)) (w.alloc (.cells #[.int .u8 1, .string ⟨#[97]⟩, .string ⟨#[120]⟩, .int .u8 0, .string ⟨#[98]⟩, .string ⟨#[]⟩] 28)).heap.size (some ⟨w.heap.size, 0, none⟩) 2 2 [exA, exB] := (FrO.new w (b := 0) (k := 2) (L := [exA, exB]) rfl rfl (Nat.zero_le _) (by decide)).here
  replace g0 := blit g0 (.cells #[.int .u8 2, .int .u8 1, .int .u8 1, .int .u8 97, .int .u8 1, .int .u8 120, .int .u8 0, .int .u8 1, .int .u8 98] 5)
  replace hl := hl.lay (.cells #[.int .u8 2, .int .u8 1, .int .u8 1, .int .u8 97, .int .u8 1, .int .u8 120, .int .u8 0, .int .u8 1, .int .u8 98] 5)
  have hw := Rd.litn (w.alloc (.cells #[.int .u8 1, .string ⟨#[97]⟩, .string ⟨#[120]⟩, .int .u8 0, .string ⟨#[98]⟩, .string ⟨#[]⟩] 28)) [2, 1, 1, 97, 1, 120, 0, 1, 98] (vs := #[.int .u8 2, .int .u8 1, .int .u8 1, .int .u8 97, .int .u8 1, .int .u8 120, .int .u8 0, .int .u8 1, .int .u8 98]) (k := 9) (g := w.heap.size + 1) (by simp) rfl rfl (by decide)
  obtain ⟨i0, hi, hz0, hz1, hz2⟩ := info_parts info_op
  go_enter Try.func9, Try.ntmps9
  go_wp2_with fail
  refine (bytes_t hl (by decide) ex_bytes ex_bytesE).mono ?_
  rintro e w1 ⟨A1, n1, c1, rfl, hf1, hb1⟩
  have hb := hf1.here
  replace hl := hl.now hb1
  replace hw := hw.now hb1
  replace g0 := bon g0 hb1
  clear hb1 hf1
  go_wp2_with fail
  refine (parse_t hw (by decide) ex_parse).mono ?_
  rintro e w2 ⟨A2, n2, c2, rfl, hf2, hb2⟩
  have hm := hf2.here
  replace hl := hl.now hb2
  replace hw := hw.now hb2
  replace hb := hb.now hb2
  replace g0 := bon g0 hb2
  clear hb2 hf2
  go_wp2_with (first | (at_builtin; refine wpList_app rfl (.tmp 35) (.tmp 36) _ rfl Try.underlying23 info_u8 rfl rfl (Fr.new w2 5 #[] rfl (Nat.le_refl _) (Nat.zero_le _)) rfl (hw.lay _) (bv_one _) (by decide) (by decide) (by simp) ?_; intro A3 c3 w3 hap3) | (at_builtin; refine wpList_app rfl (.tmp 37) (.tmp 38) _ rfl Try.underlying23 info_u8 rfl rfl (hap3.fr.alloc _) rfl (Rd.litn w3 [0] (vs := #[.int .u8 0]) (k := 1) rfl rfl rfl (by decide)) (bv_one _) (by decide) (by decide) (by have := hap3.below.size; simp at *; omega) ?_; intro A4 c4 w4 hap4))
  have hb4 : Below w2.heap.size w2 w4 := ((((below_alloc w2 _).trans hap3.below).alloc (by have := hap3.below.size; simp at *; omega) _).trans hap4.below)
  have hf4 : Fr w4 w2.heap.size 5 A4 10 c4 (bv [2, 1, 1, 97, 1, 120, 0, 1, 98, 0]) := hap4.fr
  replace hl := hl.now hb4
  replace hw := hw.now hb4
  replace hb := hb.now hb4
  replace hm := hm.now hb4
  replace g0 := bon g0 hb4
  clear hb4 hap3 hap4
  refine (parse_n hf4.here (by decide) ex_p1).mono ?_
  rintro e w5 ⟨A5, n5, c5, rfl, hf5, hb5⟩
  replace hl := hl.now hb5
  replace hw := hw.now hb5
  replace hb := hb.now hb5
  replace hm := hm.now hb5
  replace g0 := bon g0 hb5
  clear hb5 hf5 hf4
  go_wp2_with fail
  refine (parse_n (Rd.litn w5 [0] (vs := #[.int .u8 0]) (k := 1) rfl rfl rfl (by decide)) (by decide) ex_p2).mono ?_
  rintro e w6 ⟨A6, n6, c6, rfl, hf6, hb6⟩
  replace hb6 := bon (below_alloc w5 _) hb6
  replace hl := hl.now hb6
  replace hw := hw.now hb6
  replace hb := hb.now hb6
  replace hm := hm.now hb6
  replace g0 := bon g0 hb6
  clear hb6 hf6
  go_wp2_with fail
  refine (parse_n (Rd.litn w6 [1, 2, 1, 97] (vs := #[.int .u8 1, .int .u8 2, .int .u8 1, .int .u8 97]) (k := 4) rfl rfl rfl (by decide)) (by decide) ex_p3).mono ?_
  rintro e w7 ⟨A7, n7, c7, rfl, hf7, hb7⟩
  replace hb7 := bon (below_alloc w6 _) hb7
  replace hl := hl.now hb7
  replace hw := hw.now hb7
  replace hb := hb.now hb7
  replace hm := hm.now hb7
  replace g0 := bon g0 hb7
  clear hb7 hf7
  go_wp2_with fail
  refine (bytes_t (L := []) RdO.nilv (by decide) (bytesL_no rfl).1 (bytesL_no rfl).2).mono ?_
  rintro e w8 ⟨A8, n8, c8, rfl, hf8, hb8⟩
  replace hl := hl.now hb8
  replace hw := hw.now hb8
  replace hb := hb.now hb8
  replace hm := hm.now hb8
  replace g0 := bon g0 hb8
  clear hb8 hf8
  go_upto_region 9 with (fail)
  refine wp_region_lit ?_
  refine wpList_make_full _ rfl _ _ 22 rfl w8.heap.size 28 i0 _ 3 Try.underlying22 hi hz0 hz1 .i64 .i64 _ _ 129 rfl rfl rfl rfl (by rw [hz2]; decide) (by decide) (Nat.le_refl _) ?_
  intro w9 hown9 hg9
  have hb9 : Below w8.heap.size w8 w9 := (Below.refl _ w8).grown hg9 (Nat.le_refl _) (fun k e => by cases e)
  have hm9 : MkO w9 w8.heap.size w8.heap.size 129 (List.replicate 0 exA) := ⟨_, by rw [show ovs (List.replicate 0 exA) = [] from rfl, List.nil_append]; exact hown9⟩
  clear hown9 hg9 hi hz0 hz1 hz2
  obtain ⟨bl, offl, hAl, hbl, hcl⟩ := hl.form (by decide)
  cases hAl
  obtain ⟨x0, x1, x2⟩ := hcl 0 exA rfl
  have HX := Lib.hid (show ∀ W, Below w8.heap.size w8 W → (W.cell? ⟨w.heap.size, 0, none⟩ = some (.int .u8 1) ∧ W.cell? ⟨w.heap.size, 1, none⟩ = some (.string ⟨#[97]⟩) ∧ W.cell? ⟨w.heap.size, 2, none⟩ = some (.string ⟨#[120]⟩)) from fun W hW => ⟨(hW.cell hbl).trans x0, (hW.cell hbl).trans x1, (hW.cell hbl).trans x2⟩)
  clear hcl x0 x1 x2 hbl
  go_wp2_with fail
  go_loopw [60] (fun iv wr => ∃ k : Nat, iv = .int .i64 (k : Int) ∧ k ≤ 129 ∧ MkO wr w8.heap.size w8.heap.size 129 (List.replicate k exA) ∧ Below w8.heap.size w8 wr) (fun iv _ => ((129 : Int) - intOf iv).toNat)
  case atStart => exact ⟨0, rfl, Nat.zero_le _, hm9, hb9⟩
  case round =>
    clear hm9 hb9
    obtain ⟨k, rfl, hk, hmk, hbr⟩ := hrel
    by_cases hlt : k < 129
    · have hki : (k : Int) < 129 := by omega
      have hk0 : (0 : Int) ≤ (k : Int) := by omega
      obtain ⟨x0, x1, x2⟩ := HX.out wr hbr
      obtain ⟨z0, z1, z2, ⟨a0, a1, a2⟩, q0, q1, q2⟩ := hmk.cells hlt
      have HST := Lib.hid (hmk.store (by simp) hlt exA)
      have HBR := Lib.hid hbr
      clear hmk hbr hl hw hb hm g0
      go_wp2_with fail
      go_roundw
      case rel =>
        refine ⟨k + 1, by simp, by omega, ?_, below_op3x HBR.out (Nat.le_refl _) _ _ _ _ _ _⟩
        rw [← rep_next]; exact HST.out
      case measure => simp [intOf]; omega
    · have hki : ¬ (k : Int) < 129 := by omega
      obtain rfl : k = 129 := by omega
      have hfm := hmk.done (by simp)
      replace hl := hl.now hbr
      replace hw := hw.now hbr
      replace hb := hb.now hbr
      replace hm := hm.now hbr
      replace g0 := bon g0 hbr
      clear hbr hmk HX
      go_wp2_with fail
      refine (bytes_t hfm.here (by decide) (bytesL_no ex_many).1 (bytesL_no ex_many).2).mono ?_
      rintro e w10 ⟨A10, n10, c10, rfl, hf10, hb10⟩
      replace hl := hl.now hb10
      replace hw := hw.now hb10
      replace hb := hb.now hb10
      replace hm := hm.now hb10
      replace g0 := bon g0 hb10
      clear hb10 hf10 hfm
      go_wp2_with fail
      refine (entries_c hl (Nat.le_refl _) (by decide) 7).mono ?_
      rintro e w11 ⟨A11, n11, c11, rfl, hf11, hb11⟩
      have hx := hf11.here
      replace hl := hl.now hb11
      replace hw := hw.now hb11
      replace hb := hb.now hb11
      replace hm := hm.now hb11
      replace g0 := bon g0 hb11
      clear hb11 hf11
      go_wp2_with fail
      refine (same_t hb hw rfl).mono ?_
      rintro e w12 ⟨rfl, rfl⟩
      go_wp2_with fail
      have hs1 : sameOs [exA, exB] [exA, exB] = true := sameOs_iff.2 rfl
      have HS1 := Lib.hid (sameO_c hm hl (by have := hm.len; simp at this; omega) (by decide))
      rw [hs1] at HS1
      refine HS1.out.mono ?_
      clear hs1 HS1
      intro e w13 hq
      obtain ⟨rfl, hb13⟩ := hq.below
      replace hx := hx.now hb13
      replace g0 := bon g0 hb13
      clear hb13 hq hl hw hb hm
      go_wp2_with fail
      have hne := hx.len
      rw [entsL_len] at hne
      have hle : RdE (w13.alloc (.cells #[.string ⟨#[97]⟩, .int .u64 7, .int .u8 1, .string ⟨#[120]⟩, .string ⟨#[98]⟩, .int .u64 8, .int .u8 0, .string ⟨#[]⟩] 46)) (w13.alloc (.cells #[.string ⟨#[97]⟩, .int .u64 7, .int .u8 1, .string ⟨#[120]⟩, .string ⟨#[98]⟩, .int .u64 8, .int .u8 0, .string ⟨#[]⟩] 46)).heap.size (some ⟨w13.heap.size, 0, none⟩) 2 2 (entsL [exA, exB] 7) := (FrE.new w13 (b := 0) (k := 2) (L := entsL [exA, exB] 7) rfl rfl (Nat.zero_le _) (by decide)).here
      have hs2 : sameEs (entsL [exA, exB] 7) (entsL [exA, exB] 7) = true := sameEs_iff.2 rfl
      have HS2 := Lib.hid (sameE_c (hx.lay (.cells #[.string ⟨#[97]⟩, .int .u64 7, .int .u8 1, .string ⟨#[120]⟩, .string ⟨#[98]⟩, .int .u64 8, .int .u8 0, .string ⟨#[]⟩] 46)) hle (by simp at hne; omega) (by decide))
      rw [hs2] at HS2
      clear hne
      refine HS2.out.mono ?_
      clear hs2 HS2
      intro e w14 hq
      obtain ⟨rfl, hb14⟩ := hq.below
      replace g0 := bon (blit g0 (.cells #[.string ⟨#[97]⟩, .int .u64 7, .int .u8 1, .string ⟨#[120]⟩, .string ⟨#[98]⟩, .int .u64 8, .int .u8 0, .string ⟨#[]⟩] 46)) hb14
      clear hq hb14
      go_wp2_with fail
      go_ret
      exact RetVl.bool rfl g0
end Go.Proofs.Ytaodmenieigbmaa
