/-
  The form of an internal key: the contracts of Put, the program's and the reference's.
-/
import Derived.Test.YtkdjjdkcogolmaaIk3
import Derived.Test.YtkdjjdkcogolmaaBack
import Derived.Deep.RegionHeld3
namespace Go.Proofs.Ytkdjjdkcogolmaa
set_option maxRecDepth 100000
open Go.RowKit Go.Shelf

/-- The form. -/
def formL (s : ByteArray) (q k : Nat) : List UInt8 := textL s ++ shortL (2 * q + k)
def putL (l : List UInt8) (s : ByteArray) (q k : Nat) : List UInt8 := if rightB s q k then l ++ formL s q k else l

theorem textL_le (s : ByteArray) : (textL s).length ≤ 10 + s.size := by
  have := shortL_len s.size
  unfold textL; rw [List.length_append, size_list]; omega

set_option maxRecDepth 100000 in
set_option maxHeartbeats 2000000 in
theorem put3_c {w : World} {B n c : Nat} {A : Option Addr} {l : List UInt8} (h : Rd w B A n c (bv l)) (hB : B ≤ w.heap.size) (hn : n ≤ 70368744000000) (s : ByteArray) (q k : Nat) :
    Calls Try.prog 39 #[.slice A n c, ik s q k] w (RetB w (putL l s q k)) := by
  have HR := Lib.hid (fun W => right_c W s q k)
  unfold ik at HR ⊢
  go_enter Try.func39, Try.ntmps39
  have i0 := IkAt.new w s q k
  go_wp2_with fail
  refine (HR.out _).mono ?_
  rintro e w1 ⟨rfl, hb⟩
  have i0 := i0.below hb (Nat.le_refl _)
  have h1 := (h.alloc hB (.cells #[.string s, .int .u64 (q : Int), .int .u8 (k : Int)] 43)).under hb (by simp; omega)
  have hb2 := (below_alloc w _).trans (hb.mono (by simp))
  clear hb h
  obtain ⟨a0, a1, a2⟩ := i0.cells
  by_cases hr : rightB s q k = true
  · rw [hr]
    have hp : putL l s q k = l ++ formL s q k := if_pos hr
    obtain ⟨hs, hq0, hk0⟩ : s.size ≤ 64 ∧ (q : Int) ≤ 72057594037927935 ∧ k ≤ 1 := by
      unfold rightB at hr
      simp at hr
      omega
    have hk : (k : Int) ≤ 1 := by omega
    have hw1 : IntKind.u64.wrap (2 * (q : Int)) = 2 * (q : Int) := by rw [wrapu]; omega
    have hw2 : IntKind.u64.wrap (2 * (q : Int) + (k : Int)) = 2 * (q : Int) + (k : Int) := by rw [wrapu]; omega
    have hw3 : IntKind.u64.wrap (k : Int) = (k : Int) := by rw [wrapu]; omega
    have HP := Lib.hid (putText_c h1.drew (w := w1.drew) (Nat.le_trans hB hb2.size) (by omega) s (by omega))
    have hl : l.length = n := by simpa using h1.len
    have HL := Lib.hid hl
    have HS := Lib.hid hs
    have HN := Lib.hid hn
    have HQ := fun (w : World) (B n c : Nat) (A : Option Addr) (l : List UInt8) (h : Rd w B A n c (bv l)) (hB : B ≤ w.heap.size) (hn : n ≤ 70368744177664) => put_c h hB hn (2 * (q : Int) + (k : Int)) (by omega) (by omega)
    have HQ := Lib.hid HQ
    have HI := Lib.hid (fun B w' (hb : Below B w1.drew w') (hB : w1.drew.heap.size ≤ B) => IkAt.below (w := w1.drew) ⟨i0.lt, i0.h⟩ hb hB)
    clear h1 hl i0
    go_wp2_with fail
    go_region_held3 (fun w' => w'.cell? ⟨w.heap.size, 0, none⟩ = some (.string s) ∧ w'.cell? ⟨w.heap.size, 1, none⟩ = some (.int .u64 (q : Int)) ∧ w'.cell? ⟨w.heap.size, 2, none⟩ = some (.int .u8 (k : Int))) (go_keep)
      (first | (go_at_call 28; refine (HQ.out _ _ _ _ _ _ (hf2.rd (Nat.le_refl _)) (Nat.le_refl _) hn2).mono ?_; rintro e w3 ⟨A3, n3, c3, rfl, hf3, hb4⟩; obtain ⟨f0, f1, f2⟩ := (i2.below hb4 (Nat.le_refl _)).cells; clear d0 d1 d2) | (go_at_call 56; refine HP.out.mono ?_; rintro e w2 ⟨A2, n2, c2, rfl, hf2, hb3⟩; have i2 := HI.out _ w2 hb3 (Nat.le_refl _); obtain ⟨d0, d1, d2⟩ := i2.cells; clear a0 a1 a2; have hn2 : n2 ≤ 70368744177664 := (by have := hf2.len; have := HL.out; have := textL_le s; have := HS.out; have := HN.out; simp at *; omega)))
    go_wp2
    go_ret
    rw [hp]
    refine ⟨A3, n3, c3, rfl, ?_, ?_⟩
    · have e : l ++ formL s q k = l ++ textL s ++ shortL (2 * (q : Int) + (k : Int)).toNat := by
        unfold formL
        rw [List.append_assoc, show (2 * (q : Int) + (k : Int)).toNat = 2 * q + k by omega]
      rw [e]
      exact hf3.mono (by have := hb3.size; have := hb2.size; simp at *; omega)
    · exact hb2.trans ((below_drewN (Below.refl _ _) 1).trans (hb3.mono hb2.size) |>.trans (hb4.mono (by have := hb3.size; have := hb2.size; simp at *; omega)))
  · have hr : rightB s q k = false := by simpa using hr
    rw [hr]
    have hp : putL l s q k = l := if_neg (by rw [hr]; decide)
    have HC := Lib.hid (clone_c h1 (Nat.le_trans hB hb2.size) (by omega))
    clear h1
    go_wp2_with fail
    refine HC.out.mono ?_
    rintro e w2 ⟨A2, n2, c2, rfl, hf, hb3⟩
    go_wp2
    go_ret
    rw [hp]
    exact ⟨A2, n2, c2, rfl, hf.mono hb2.size, hb2.trans (hb3.mono hb2.size)⟩

end Go.Proofs.Ytkdjjdkcogolmaa
