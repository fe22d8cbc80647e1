/-
  Contract: awake: the chapter's examples hold.
-/
import Derived.Test.YtpligjdpofcbbaaFrP
namespace Go.Proofs.Ytpligjdpofcbbaa
open Go.RowKit

theorem tkPost_to {w : World} {l x y : List UInt8} (h : takeL l = some (x, y)) {e : Ending} {w' : World} (hp : TkPost w l e w') : RetTk w x y e w' := by simpa only [TkPost, h] using hp
theorem tkPost_no {w : World} {l : List UInt8} (h : takeL l = none) {e : Ending} {w' : World} (hp : TkPost w l e w') : RetNo w e w' := by simpa only [TkPost, h] using hp
theorem sum_nil : (sumL []).toNat = 4294967295 := by decide
theorem sum_255 : (sumL [255]).toNat = 16777215 := by decide
theorem sum_0 : (sumL [0]).toNat = 3232617357 := by decide
theorem Fr.len_eq {w : World} {b n c : Nat} {e : TypeId} {A : Option Addr} {l : List UInt8} {k : Nat} (h : Fr w b e A n c (bv l)) (hl : l.length = k) : n = k := by
  rw [← h.len, bv_length, hl]

set_option maxRecDepth 100000 in
set_option maxHeartbeats 4000000 in
theorem awake_c {w : World} : Calls Try.prog 9 #[] w (RetT w) := by
  have g0 : Below w.heap.size w w := Below.refl _ _
  go_enter Try.func9, Try.ntmps9
  go_wp2_with fail
  refine (seal_c (B := 0) (l := []) Rd.nilv (Nat.zero_le _) (by omega)).mono ?_
  rintro e w1 ⟨A1, n1, c1, rfl, hf1, hb1⟩
  have g0 := bon g0 hb1
  obtain rfl : n1 = 8 := hf1.len_eq (sealL_len _)
  have r1 := hf1.rd (Nat.le_refl _)
  go_wp2_with (first
    | (at_builtin; refine wpList_app rfl (.tmp 11) (.tmp 12) _ rfl Try.underlying22 info_u8 rfl rfl (Fr.new w1 5 #[] rfl (Nat.le_refl _) (Nat.zero_le _)) rfl (r1.alloc (Nat.le_refl _) _) (bv_one _) (by omega) (by omega) (by simp) ?_; intro A2 c2 w2 hap2; have hf2 : Fr w2 w1.heap.size 5 A2 8 c2 (bv (sealL [])) := hap2.fr; have hs2 : w1.heap.size ≤ w2.heap.size := by have := hap2.below.size; simp at this; omega)
    | (at_builtin; go_loud (refine wpList_app rfl (.tmp 13) (.tmp 14) _ rfl Try.underlying22 info_u8 rfl rfl (hf2.alloc (.cells #[.int .u8 5] 5)) rfl (Rd.litb w2 [5] (g := w2.heap.size) rfl rfl rfl (by decide)) (bv_one _) (by omega) (by omega) (by simp; omega) ?_; intro A3 c3 w3 hap3)))
  have hf3 := hap3.fr
  rw [← bv_append] at hf3
  have ha0 : Below w1.heap.size w1 w2 := ((Below.refl _ _).alloc (Nat.le_refl _) _).trans hap2.below
  have ha : Below w1.heap.size w1 w3 := (ha0.alloc ha0.size _).trans hap3.below
  have g0 := bon g0 ha
  have r1 := r1.now ha
  have hf1 := hf1.below ha
  clear hap2 hap3 ha0 hf2 hs2
  refine ((takeF_c (hf3.rd (Nat.le_refl _)) (Nat.le_refl _) (by omega)).mono (fun _ _ hp => tkPost_to (takeL_seal (b := []) (by decide) [5]) hp)).mono ?_
  rintro e w4 ⟨A4, n4, c4, A5, n5, c5, rfl, hf4, hf5, hb4⟩
  have g0 := bon g0 hb4
  obtain rfl : n4 = 0 := hf4.len_eq rfl
  obtain rfl : n5 = 1 := hf5.len_eq rfl
  have r5 := hf5.rd (Nat.le_refl _)
  clear r1 hf1 hf3 ha hf4 hf5
  go_wp2_with fail
  refine (seal_c (Rd.litb w4 [7] (g := w4.heap.size) rfl rfl rfl (by decide)) (by simp) (by decide)).mono ?_
  rintro e w5 ⟨A6, n6, c6, rfl, hf6, hb5⟩
  have g0 := bon (blit g0 _) hb5
  have r5 := r5.now (bon (blit (Below.refl _ _) _) hb5)
  obtain rfl : n6 = 9 := hf6.len_eq (sealL_len _)
  have r6 := hf6.rd (Nat.le_refl _)
  clear hf6
  go_wp2_with fail
  refine ((takeF_c (Rd.litb w5 [0, 0, 0, 0, 1, 2, 3] (g := w5.heap.size) rfl rfl rfl (by decide)) (by simp) (by decide)).mono (fun _ _ hp => tkPost_no (by decide) hp)).mono ?_
  rintro e w6 ⟨rfl, hb6⟩
  have g0 := bon (blit g0 _) hb6
  have r5 := r5.now (bon (blit (Below.refl _ _) _) hb6)
  have r6 := r6.now (bon (blit (Below.refl _ _) _) hb6)
  go_wp2_with fail
  refine (sum_c (B := 0) (l := []) Rd.nilv (Nat.zero_le _)).mono ?_
  rintro e w7 ⟨rfl, hb7⟩
  rw [sum_nil]
  have g0 := bon g0 hb7
  have r5 := r5.now hb7
  have r6 := r6.now hb7
  go_wp2_with fail
  refine (sum_c (Rd.litb w7 [255] (g := w7.heap.size) rfl rfl rfl (by decide)) (by simp)).mono ?_
  rintro e w8 ⟨rfl, hb8⟩
  rw [sum_255]
  have g0 := bon (blit g0 _) hb8
  have r5 := r5.now (bon (blit (Below.refl _ _) _) hb8)
  have r6 := r6.now (bon (blit (Below.refl _ _) _) hb8)
  go_wp2_with fail
  refine (sum_c (Rd.litb w8 [0] (g := w8.heap.size) rfl rfl rfl (by decide)) (by simp)).mono ?_
  rintro e w9 ⟨rfl, hb9⟩
  rw [sum_0]
  have g0 := bon (blit g0 _) hb9
  have r5 := r5.now (bon (blit (Below.refl _ _) _) hb9)
  have r6 := r6.now (bon (blit (Below.refl _ _) _) hb9)
  have hc6 := r6.cap
  have hs6 := fun W => run_slice_hi_gen (P := Try.prog) (n := 9) (A := A6) 22 5 Try.underlying22 info_u8 .i64 (k := 5) (c := c6) (by omega) W
  have r66 := r6.front (k := 5) (by omega)
  rw [bv_take] at r66
  go_wp2_with fail
  refine (same_t (r5.alloc (Nat.le_refl _) _) (Rd.litb w9 [5] (g := w9.heap.size) rfl rfl rfl (by decide)) rfl).mono ?_
  rintro e w' ⟨rfl, rfl⟩
  go_wp2_with fail
  refine (same_t ((r66.alloc (Nat.le_refl _) _).alloc (by simp) _) (Rd.litb (w9.alloc _) [1, 0, 0, 0, 7] (g := w9.heap.size + 1) (by simp) rfl rfl (by decide)) (by decide)).mono ?_
  rintro e w' ⟨rfl, rfl⟩
  go_wp2_with fail
  go_ret
  exact ⟨rfl, blit (blit g0 _) _⟩
end Go.Proofs.Ytpligjdpofcbbaa
