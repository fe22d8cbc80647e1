/-
  Contracts: awake: the chapter's examples hold.
-/
import Derived.Test.YtkdmhdciapnblaaIter4
namespace Go.Proofs.Ytkdmhdciapnblaa
open Go.RowKit

/-- Nothing that was there has turned; the answer is true. -/
def RetT (w : World) (e : Ending) (w' : World) : Prop := e = .returned (.bool true) ∧ Below w.heap.size w w'

theorem below_on {a W W' : World} (h : Below a.heap.size a W) (hb : Below W.heap.size W W') : Below a.heap.size a W' := h.trans (hb.mono h.size)
theorem blit {a W : World} (h : Below a.heap.size a W) (o : Obj) : Below a.heap.size a (W.alloc o) := h.alloc h.size o
theorem bon {a W W' : World} (h : Below a.heap.size a W) (hb : Below W.heap.size W W') : Below a.heap.size a W' := below_on h hb
theorem Rd.now {w w' : World} {n c : Nat} {A : Option Addr} {xs : List Value} (h : Rd w w.heap.size A n c xs) (hb : Below w.heap.size w w') : Rd w' w'.heap.size A n c xs := (h.below hb).more hb.size
theorem Rd.litb (w : World) (l : List UInt8) {vs : Array Value} {k g : Nat} (hg : w.heap.size = g) (hv : vs = (bv l).toArray) (hk : l.length = k) (hm : k ≤ maxLen) : Rd (w.alloc (.cells vs 5)) (g + 1) (some ⟨g, 0, none⟩) k k (bv l) := by
  subst hv
  subst hg
  exact Rd.lit w 5 (bv l) (by simpa using hk) hm (Nat.lt_succ_self _)
theorem same_t {w : World} {B1 B2 n1 c1 n2 c2 : Nat} {A1 A2 : Option Addr} {l1 l2 : List UInt8} (h1 : Rd w B1 A1 n1 c1 (bv l1)) (h2 : Rd w B2 A2 n2 c2 (bv l2)) (he : l1 = l2) :
    Calls Try.prog 15 #[.slice A1 n1 c1, .slice A2 n2 c2] w fun e w' => e = .returned (.bool true) ∧ w = w' :=
  (same_c h1 h2).mono fun e w' ⟨h, hw⟩ => ⟨by rw [h, he]; simp, hw⟩
theorem takePost_to {w : World} {l r : List UInt8} {v m : Nat} (h : takeN l = some (v, m) ∧ l.drop m = r) {e : Ending} {w' : World} (hp : TakePost w l e w') : RetNB w .u64 v r true e w' := by
  rw [← h.2]; simpa only [TakePost, h.1] using hp
theorem takePost_no {w : World} {l : List UInt8} (h : takeN l = none) {e : Ending} {w' : World} (hp : TakePost w l e w') : RetNB w .u64 0 [] false e w' := by simpa only [TakePost, h] using hp
theorem textPost_to {w : World} {l s r : List UInt8} {most : Int} (h : textTake l most = some (s, r)) {e : Ending} {w' : World} (hp : TextPost w l most e w') : RetSB w s r true e w' := by simpa only [TextPost, h] using hp
theorem textPost_no {w : World} {l : List UInt8} {most : Int} (h : textTake l most = none) {e : Ending} {w' : World} (hp : TextPost w l most e w') : RetSB w [] [] false e w' := by simpa only [TextPost, h] using hp

set_option maxRecDepth 100000 in
set_option maxHeartbeats 4000000 in
theorem awake_c {w : World} : Calls Try.prog 8 #[] w (RetT w) := by
  have g0 : Below w.heap.size w w := Below.refl _ _
  go_enter Try.func8, Try.ntmps8
  go_wp2_with fail
  refine ((take_c (Rd.litb w [172, 2, 9] (g := w.heap.size) (by simp) rfl rfl (by decide)) (by simp) (by decide)).mono (R' := RetNB _ .u64 300 [9] true) (fun _ _ hp => takePost_to (m := 2) (by decide) hp)).mono ?_
  rintro e w1 ⟨A1, n1, c1, rfl, hf1, hb1⟩
  have g0 := bon (blit g0 _) hb1
  have ra := hf1.rd (Nat.le_refl _)
  have ga : Below w1.heap.size w1 w1 := Below.refl _ _
  go_wp2_with fail
  refine ((take_c (Rd.litb w1 [128] (g := w1.heap.size) (by simp) rfl rfl (by decide)) (by simp) (by decide)).mono (R' := RetNB _ .u64 0 [] false) (fun _ _ hp => takePost_no (by decide) hp)).mono ?_
  rintro e w2 ⟨A2, n2, c2, rfl, hf2, hb2⟩
  have g0 := bon (blit g0 _) hb2
  have ga := bon (blit ga _) hb2
  go_wp2_with fail
  refine ((take_c (Rd.litb w2 [128, 0] (g := w2.heap.size) (by simp) rfl rfl (by decide)) (by simp) (by decide)).mono (R' := RetNB _ .u64 0 [] false) (fun _ _ hp => takePost_no (by decide) hp)).mono ?_
  rintro e w3 ⟨A3, n3, c3, rfl, hf3, hb3⟩
  have g0 := bon (blit g0 _) hb3
  have ga := bon (blit ga _) hb3
  go_wp2_with fail
  refine ((take_c (Rd.litb w3 [255, 255, 255, 255, 255, 255, 255, 255, 255, 255, 1] (g := w3.heap.size) (by simp) rfl rfl (by decide)) (by simp) (by decide)).mono (R' := RetNB _ .u64 0 [] false) (fun _ _ hp => takePost_no (by decide) hp)).mono ?_
  rintro e w4 ⟨A4, n4, c4, rfl, hf4, hb4⟩
  have g0 := bon (blit g0 _) hb4
  have ga := bon (blit ga _) hb4
  go_wp2_with fail
  refine ((takeText_c (Rd.litb w4 [2, 97, 98, 7] (g := w4.heap.size) (by simp) rfl rfl (by decide)) (by simp) (by decide) 2 (by decide) (by decide)).mono (R' := RetSB _ [97, 98] [7] true) (fun _ _ hp => textPost_to (by decide) hp)).mono ?_
  rintro e w5 ⟨A5, n5, c5, rfl, hf5, hb5⟩
  have g0 := bon (blit g0 _) hb5
  have ga := bon (blit ga _) hb5
  have rt := hf5.rd (Nat.le_refl _)
  have gt : Below w5.heap.size w5 w5 := Below.refl _ _
  go_wp2_with fail
  refine ((takeText_c (Rd.litb w5 [2, 97, 98, 7] (g := w5.heap.size) (by simp) rfl rfl (by decide)) (by simp) (by decide) 1 (by decide) (by decide)).mono (R' := RetSB _ [] [] false) (fun _ _ hp => textPost_no (by decide) hp)).mono ?_
  rintro e w6 ⟨A6, n6, c6, rfl, hf6, hb6⟩
  have g0 := bon (blit g0 _) hb6
  have ga := bon (blit ga _) hb6
  have gt := bon (blit gt _) hb6
  go_wp2_with fail
  refine (put_c (B := 0) (l := []) Rd.nilv (Nat.zero_le _) (by omega) 0 (by omega) (by omega)).mono ?_
  rintro e w7 ⟨A7, n7, c7, rfl, hf7, hb7⟩
  have g0 := bon g0 hb7
  have ga := bon ga hb7
  have gt := bon gt hb7
  go_wp2_with fail
  refine (same_t ((hf7.alloc _).rd (Nat.le_refl _)) (Rd.litb w7 [0] (g := w7.heap.size) (by simp) rfl rfl (by decide)) (by decide)).mono ?_
  rintro e w' ⟨rfl, rfl⟩
  go_wp2_with fail
  refine (put_c (B := 0) (l := []) Rd.nilv (Nat.zero_le _) (by omega) 127 (by omega) (by omega)).mono ?_
  rintro e w8 ⟨A8, n8, c8, rfl, hf8, hb8⟩
  have g0 := bon (blit g0 _) hb8
  have ga := bon (blit ga _) hb8
  have gt := bon (blit gt _) hb8
  go_wp2_with fail
  refine (same_t ((hf8.alloc _).rd (Nat.le_refl _)) (Rd.litb w8 [127] (g := w8.heap.size) (by simp) rfl rfl (by decide)) (by decide)).mono ?_
  rintro e w' ⟨rfl, rfl⟩
  go_wp2_with fail
  refine (put_c (B := 0) (l := []) Rd.nilv (Nat.zero_le _) (by omega) 128 (by omega) (by omega)).mono ?_
  rintro e w9 ⟨A9, n9, c9, rfl, hf9, hb9⟩
  have g0 := bon (blit g0 _) hb9
  have ga := bon (blit ga _) hb9
  have gt := bon (blit gt _) hb9
  go_wp2_with fail
  refine (same_t ((hf9.alloc _).rd (Nat.le_refl _)) (Rd.litb w9 [128, 1] (g := w9.heap.size) (by simp) rfl rfl (by decide)) (by decide)).mono ?_
  rintro e w' ⟨rfl, rfl⟩
  go_wp2_with fail
  refine (put_c (B := 0) (l := []) Rd.nilv (Nat.zero_le _) (by omega) 300 (by omega) (by omega)).mono ?_
  rintro e w10 ⟨A10, n10, c10, rfl, hf10, hb10⟩
  have g0 := bon (blit g0 _) hb10
  have ga := bon (blit ga _) hb10
  have gt := bon (blit gt _) hb10
  go_wp2_with fail
  refine (same_t ((hf10.alloc _).rd (Nat.le_refl _)) (Rd.litb w10 [172, 2] (g := w10.heap.size) (by simp) rfl rfl (by decide)) (by decide)).mono ?_
  rintro e w' ⟨rfl, rfl⟩
  go_wp2_with fail
  refine (same_t (ra.now (blit (blit ga _) _)) (Rd.litb (w10.alloc _) [9] (g := w10.heap.size + 1) (by simp) rfl rfl (by decide)) (by decide)).mono ?_
  rintro e w' ⟨rfl, rfl⟩
  go_wp2_with fail
  refine (putText_c (B := 0) (l := []) Rd.nilv (Nat.zero_le _) (by omega) ⟨#[97, 98]⟩ (by decide)).mono ?_
  rintro e w11 ⟨A11, n11, c11, rfl, hf11, hb11⟩
  have g0 := bon (blit (blit g0 _) _) hb11
  have ga := bon (blit (blit ga _) _) hb11
  have gt := bon (blit (blit gt _) _) hb11
  go_wp2_with fail
  refine (same_t ((hf11.alloc _).rd (Nat.le_refl _)) (Rd.litb w11 [2, 97, 98] (g := w11.heap.size) (by simp) rfl rfl (by decide)) (by decide)).mono ?_
  rintro e w' ⟨rfl, rfl⟩
  go_wp2_with fail
  refine (same_t (rt.now (blit (blit gt _) _)) (Rd.litb (w11.alloc _) [7] (g := w11.heap.size + 1) (by simp) rfl rfl (by decide)) (by decide)).mono ?_
  rintro e w' ⟨rfl, rfl⟩
  go_wp2_with fail
  refine (putFour_c (B := 0) (l := []) Rd.nilv (Nat.zero_le _) (by omega) 258 (by omega) (by omega)).mono ?_
  rintro e w12 ⟨A12, n12, c12, rfl, hf12, hb12⟩
  have g0 := bon (blit (blit g0 _) _) hb12
  have ga := bon (blit (blit ga _) _) hb12
  have gt := bon (blit (blit gt _) _) hb12
  go_wp2_with fail
  refine (same_t ((hf12.alloc _).rd (Nat.le_refl _)) (Rd.litb w12 [2, 1, 0, 0] (g := w12.heap.size) (by simp) rfl rfl (by decide)) (by decide)).mono ?_
  rintro e w' ⟨rfl, rfl⟩
  go_wp2_with fail
  go_ret
  exact ⟨rfl, (blit g0 _)⟩
end Go.Proofs.Ytkdmhdciapnblaa
