/-
  Contract: the reference's one: the record that bytes begin with.
-/
import Derived.Test.YthgaiimgfnbkaaaGreatDoorV3
namespace Go.Proofs.YthgaiimgfnbkaaaGreatDoor
set_option maxRecDepth 100000
open Go.RowKit Go.Shelf
set_option linter.unusedVariables false

theorem oneR_none {l : List UInt8} (h : takeL l = none) : oneL l = none := by unfold oneL; rw [h]
theorem oneR_no {l x y : List UInt8} (h : takeL l = some (x, y)) (hi : readIn x = none) : oneL l = none := by unfold oneL; rw [h]; simp only [hi]
theorem oneR_yes {l x y : List UInt8} {r : Wr} (h : takeL l = some (x, y)) (hi : readIn x = some r) : oneL l = some (r, x.length + 8) := by unfold oneL; rw [h]; simp only [hi]
theorem refParse_n {w : World} {n c : Nat} {A : Option Addr} {l : List UInt8} (h : Rd w w.heap.size A n c (bv l)) (hn : n ≤ 70368744000000) (hp : parseG l = none) : Calls Tryz.prog 51 #[.slice A n c] w (RetOE w [] 40) := by
  have h1 := refParse_c h (Nat.le_refl _) hn
  have e1 : parseL l = [] := by unfold parseL; rw [hp]; rfl
  have e2 : parseE l = 40 := by unfold parseE; rw [hp]; rfl
  rwa [e1, e2] at h1
theorem refParse_y {w : World} {n c : Nat} {A : Option Addr} {l : List UInt8} {L : List Bop} (h : Rd w w.heap.size A n c (bv l)) (hn : n ≤ 70368744000000) (hp : parseG l = some L) : Calls Tryz.prog 51 #[.slice A n c] w (RetOE w L 0) := by
  have h1 := refParse_c h (Nat.le_refl _) hn
  have e1 : parseL l = L := by unfold parseL; rw [hp]; rfl
  have e2 : parseE l = 0 := by unfold parseE; rw [hp]; rfl
  rwa [e1, e2] at h1

set_option maxHeartbeats 8000000 in
theorem refOne_c {w : World} {n c : Nat} {A : Option Addr} {l : List UInt8} (h : Rd w w.heap.size A n c (bv l)) (hn : n ≤ 70368744000000) :
    Calls Tryz.prog 29 #[.slice A n c] w (RecPost w l) := by
  have hz1 := RecAt.new w 0 none 0 0
  have hd := h.lay (.cells #[.int .u64 0, .slice none 0 0] 25)
  have hT := refTakeF_c hd (Nat.le_refl _) (by omega)
  have hll : l.length = n := by simpa using h.len
  have hw1 := below_alloc w (.cells #[.int .u64 0, .slice none 0 0] 25)
  have hni : (n : Int) ≤ 70368744000000 := by omega
  have HLL := Lib.hid hll
  clear hd h hll
  cases ht : takeL l with
  | none =>
    have HT := Lib.hid (hT.mono (fun _ _ hp => tkPost_no ht hp))
    have HO := Lib.hid (oneR_none ht)
    clear hT ht
    go_enter Tryz.func29, Tryz.ntmps29
    go_wp2_with fail
    refine HT.out.mono ?_
    rintro e w2 ⟨rfl, hb2⟩
    have hz2 := hz1.below hb2 (Nat.le_refl _)
    have hw2 := bon hw1 hb2
    obtain ⟨a0, a1⟩ := hz2.cells
    obtain ⟨g0, g1⟩ := hz2.frozen
    clear hb2
    go_wp2_with fail
    exact ret_rec2 rfl rfl rfl (hz2.store 0 none 0 0) ⟨⟨0, none, 0, 0, []⟩, 0, rfl, ⟨fun _ => HO.out, fun h => absurd h (by decide)⟩, below_rec2 hw2 (Nat.le_refl _) _ _⟩
  | some p =>
    obtain ⟨x, y⟩ := p
    have HT := Lib.hid (hT.mono (fun _ _ hp => tkPost_to ht hp))
    have HX := Lib.hid ht
    clear hT ht
    go_enter Tryz.func29, Tryz.ntmps29
    go_wp2_with fail
    refine HT.out.mono ?_
    rintro e w2 ⟨A5, n5, c5, A6, n6, c6, rfl, hf5, hf6, hb2⟩
    have hz2 := hz1.below hb2 (Nat.le_refl _)
    have hw2 := bon hw1 hb2
    have hx5 : x.length = n5 := by simpa using hf5.len
    have hy6 : y.length = n6 := by simpa using hf6.len
    have hx1 := (takeL_put HX.out).2
    have hsum : x.length + 8 + n6 = n := by
      have h1 := congrArg List.length (takeL_put HX.out).1
      rw [List.length_append, sealL_len, HLL.out] at h1
      omega
    have hT2 := refTake_c hf5.here (Nat.le_refl _) (by omega)
    clear hb2 hz1 hw1 hf5 hf6 hy6
    cases htn : takeN x with
    | none =>
      have HT2 := Lib.hid (hT2.mono (fun _ _ hp => takePost_no htn hp))
      have HO := Lib.hid (oneR_no HX.out (in_none htn))
      clear hT2 htn
      go_wp2_with fail
      refine HT2.out.mono ?_
      rintro e w3 ⟨A7, n7, c7, rfl, hf7, hb3⟩
      have hz3 := hz2.below hb3 (Nat.le_refl _)
      have hw3 := bon hw2 hb3
      obtain rfl : n7 = 0 := by have := hf7.len; simpa using this.symm
      have HP := Lib.hid (refParse_n (l := []) hf7.here (by omega) parseG_nil)
      clear hb3 hz2 hw2 hf7
      go_wp2_with fail
      refine HP.out.mono ?_
      rintro e w4 ⟨A8, n8, c8, rfl, hf8, hb4⟩
      have hz4 := (hz3.below hb4 (Nat.le_refl _)).alloc (.cells #[.int .u64 0, .slice A8 n8 c8] 25)
      have hw4 := blit (bon hw3 hb4) (.cells #[.int .u64 0, .slice A8 n8 c8] 25)
      have HZ := Lib.hid hz4
      have HW := Lib.hid hw4
      clear hb4 hz3 hw3 hf8 hz4 hw4 hsum hx5 hx1
      go_upto_region 8 with (fail)
      generalize hwz : w4.alloc (.cells #[.int .u64 0, .slice A8 n8 c8] 25) = wz at *
      clear hwz
      obtain ⟨a0, a1⟩ := HZ.out.cells
      obtain ⟨g0, g1⟩ := HZ.out.frozen
      go_wp2_with fail
      exact ret_rec2 rfl rfl rfl (HZ.out.store 0 none 0 0) ⟨⟨0, none, 0, 0, []⟩, 0, rfl, ⟨fun _ => HO.out, fun h => absurd h (by decide)⟩, below_rec2 HW.out (Nat.le_refl _) _ _⟩
    | some p =>
      obtain ⟨v, m⟩ := p
      have HT2 := Lib.hid (hT2.mono (fun _ _ hp => takePost_to ⟨htn, rfl⟩ hp))
      have hle := takeN_le htn
      have hvi : (v : Int) ≤ 18446744073709551615 := by omega
      have HTN := Lib.hid htn
      clear hT2 htn
      go_wp2_with fail
      refine HT2.out.mono ?_
      rintro e w3 ⟨A7, n7, c7, rfl, hf7, hb3⟩
      have hz3 := hz2.below hb3 (Nat.le_refl _)
      have hw3 := bon hw2 hb3
      have hn7 : n7 ≤ n5 := by have := hf7.len; simp at this; omega
      clear hb3 hz2 hw2
      cases hp : parseG (x.drop m) with
      | none =>
        have HP := Lib.hid (refParse_n hf7.here (by omega) hp)
        have HO := Lib.hid (oneR_no HX.out (in_no HTN.out hp))
        clear hf7 hp hle
        go_wp2_with fail
        refine HP.out.mono ?_
        rintro e w4 ⟨A8, n8, c8, rfl, hf8, hb4⟩
        have hz4 := (hz3.below hb4 (Nat.le_refl _)).alloc (.cells #[.int .u64 (v : Int), .slice A8 n8 c8] 25)
        have hw4 := blit (bon hw3 hb4) (.cells #[.int .u64 (v : Int), .slice A8 n8 c8] 25)
        have HZ := Lib.hid hz4
        have HW := Lib.hid hw4
        have e40 : ((40 : Int) != 0) = true := by decide
        clear hb4 hz3 hw3 hf8 hz4 hw4 hsum hx5 hx1 hn7
        go_upto_region 8 with (fail)
        generalize hwz : w4.alloc (.cells #[.int .u64 (v : Int), .slice A8 n8 c8] 25) = wz at *
        clear hwz
        obtain ⟨a0, a1⟩ := HZ.out.cells
        obtain ⟨g0, g1⟩ := HZ.out.frozen
        go_wp2_with fail
        exact ret_rec2 rfl rfl rfl (HZ.out.store 0 none 0 0) ⟨⟨0, none, 0, 0, []⟩, 0, rfl, ⟨fun _ => HO.out, fun h => absurd h (by decide)⟩, below_rec2 HW.out (Nat.le_refl _) _ _⟩
      | some L =>
        have HP := Lib.hid (refParse_y hf7.here (by omega) hp)
        have hgL := (parseG_iff.1 hp).1
        have hL : L.length ≤ 128 := (grpB_iff.1 hgL).2.1
        have HPG := Lib.hid hp
        have HGL := Lib.hid hgL
        clear hf7 hp hle hgL
        go_wp2_with fail
        refine HP.out.mono ?_
        rintro e w4 ⟨A8, n8, c8, rfl, hf8, hb4⟩
        have hl8 := hf8.len
        have hz4 := (hz3.below hb4 (Nat.le_refl _)).alloc (.cells #[.int .u64 (v : Int), .slice A8 n8 c8] 25)
        have hr4 := RecAt.new w4 v A8 n8 c8
        have hf4 := hf8.alloc (.cells #[.int .u64 (v : Int), .slice A8 n8 c8] 25)
        have hw4 := blit (bon hw3 hb4) (.cells #[.int .u64 (v : Int), .slice A8 n8 c8] 25)
        have hw3s := hw3.size
        have hlt3 := hz3.lt
        have hs := refRight6_c hf4.here hvi (by omega)
        have hlt := (hz3.below hb4 (Nat.le_refl _)).lt
        have hne : w.heap.size ≠ w4.heap.size := by omega
        have hsq2 : recB v L = seqB v L.length := by unfold recB; rw [HGL.out, Bool.true_and]
        clear hb4 hz3 hw3 hf8 hlt
        cases hsq : recB v L with
        | false =>
          rw [hsq] at hs
          have HS := Lib.hid hs
          have HO := Lib.hid (oneR_no HX.out (in_un HTN.out HPG.out (by rw [← hsq2]; exact hsq)))
          clear hs hsq hl8 hsq2 hsum hx5 hx1 hn7
          go_wp2_with fail
          refine HS.out.mono ?_
          rintro e w5 ⟨rfl, hb5⟩
          have hz5 := hz4.below hb5 (Nat.le_refl _)
          have hw5 := bon hw4 hb5
          obtain ⟨a0, a1⟩ := hz5.cells
          obtain ⟨g0, g1⟩ := hz5.frozen
          clear hb5 hz4 hw4 hr4 hf4
          go_wp2_with fail
          exact ret_rec2 rfl rfl rfl (hz5.store 0 none 0 0) ⟨⟨0, none, 0, 0, []⟩, 0, rfl, ⟨fun _ => HO.out, fun h => absurd h (by decide)⟩, below_rec2 hw5 (Nat.le_refl _) _ _⟩
        | true =>
          rw [hsq] at hs
          have HS := Lib.hid hs
          have HO := Lib.hid (oneR_yes HX.out (in_yes HTN.out HPG.out (by rw [← hsq2]; exact hsq)))
          obtain ⟨k, hk⟩ : ∃ k, x.length + 8 = k := ⟨_, rfl⟩
          have hkk : (n : Int) - (n6 : Int) = (k : Int) := by omega
          have hk0 : 0 < k := by omega
          have HKX := Lib.hid hk
          clear hs hsq hl8 hsq2 hsum hx5 hx1 hn7 hk
          go_wp2_with fail
          refine HS.out.mono ?_
          rintro e w5 ⟨rfl, hb5⟩
          have hz5 := hz4.below hb5 (Nat.le_refl _)
          have hr5 := hr4.below hb5 (Nat.le_refl _)
          have hf5 := (hf4.below hb5).mono (show w.heap.size + 1 ≤ w3.heap.size by omega)
          have hw5 := bon hw4 hb5
          obtain ⟨a0, a1⟩ := hz5.cells
          obtain ⟨g0, g1⟩ := hz5.frozen
          obtain ⟨e0, e1⟩ := hr5.cells
          clear hb5 hz4 hw4 hr4 hf4
          go_wp2_with fail
          have hfin : OneAt ((w5.setCell ⟨w.heap.size, 0, none⟩ (.int .u64 (v : Int))).setCell ⟨w.heap.size, 1, none⟩ (.slice A8 n8 c8)) w.heap.size l ⟨v, A8, n8, c8, L⟩ k :=
            ⟨fun h => absurd hk0 (by omega), fun _ => ⟨by rw [← HKX.out]; exact HO.out, (hf5.rec2 (by omega) _ _).mono (by omega)⟩⟩
          exact ret_rec2 rfl rfl rfl (hz5.store v A8 n8 c8) ⟨⟨v, A8, n8, c8, L⟩, k, rfl, hfin, below_rec2 hw5 (Nat.le_refl _) _ _⟩
end Go.Proofs.YthgaiimgfnbkaaaGreatDoor
