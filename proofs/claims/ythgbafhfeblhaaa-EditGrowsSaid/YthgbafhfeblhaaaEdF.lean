/-
  What becomes of a version: the contracts of follows, Apply, Whole.
-/
import Derived.Test.YthgbafhfeblhaaaEdE
namespace Go.Proofs.Ythgbafhfeblhaaa
set_option maxRecDepth 100000
open Go.RowKit Go.Shelf
set_option linter.unusedSimpArgs false
set_option linter.unusedVariables false

theorem lastN_get {L : List Mt} {k : Nat} {x : Mt} (hl : L.length = k + 1) (h : L[k]? = some x) : lastN L = x.n := by
  unfold lastN
  rw [List.getLast?_eq_getElem?, hl, Nat.add_sub_cancel, h]
theorem headN_get {L : List Mt} {x : Mt} (h : L[0]? = some x) : headN L = x.n := by
  unfold headN
  rw [List.head?_eq_getElem?, h]

set_option maxRecDepth 100000 in
set_option maxHeartbeats 4000000 in
theorem follows_c {w : World} {B n1 c1 n2 c2 : Nat} {A1 A2 : Option Addr} {v e : Ed} (h1 : RdM w B A1 n1 c1 v.L) (h2 : RdM w B A2 n2 c2 e.L) (hB : B ≤ w.heap.size) (hn : (n1 : Int) ≤ 70368744000000) :
    Calls Try.prog 31 #[edV A1 n1 c1 v, edV A2 n2 c2 e] w (RetVl w (.bool (follB v e))) := by
  have hl1 := h1.len
  have hl2 := h2.len
  have ht := Two.new w 28 25 A1 A2 n1 c1 n2 c2 v e
  obtain ⟨w2, hw2⟩ : ∃ w2, w2 = ((w.alloc (.cells #[.slice A1 n1 c1, .int .u64 (v.a : Int), .int .u64 (v.b : Int), .int .u64 (v.c : Int)] 28)).alloc (.cells #[.slice A2 n2 c2, .int .u64 (e.a : Int), .int .u64 (e.b : Int), .int .u64 (e.c : Int)] 25)) := ⟨_, rfl⟩
  rw [← hw2] at ht
  obtain ⟨q0, q1, q2, q3, _, _, _, _⟩ := ht.b1.cells
  obtain ⟨r0, r1, r2, r3, _, _, _, _⟩ := ht.b2.cells
  have HT := Lib.hid ht.below
  have HFB := Lib.hid (show follB v e = (!lowB v e && !fallB v.a e.a && !fallB v.b e.b && !fallB v.c e.c) from rfl)
  have HLB := Lib.hid (show lowB v e = (decide (0 < n1) && decide (0 < n2) && decide (headN e.L ≤ lastN v.L)) by rw [← hl1, ← hl2]; rfl)
  have k1 := h1.below ht.below hB
  have k2 := h2.below ht.below hB
  have HL1 := Lib.hid hl1
  have HL2 := Lib.hid hl2
  have HFA := Lib.hid (fun W => falls_c W v.a e.a)
  have HFBB := Lib.hid (fun W => falls_c W v.b e.b)
  have HFC := Lib.hid (fun W => falls_c W v.c e.c)
  clear ht h1 h2 hl1 hl2
  unfold edV
  go_enter Try.func31, Try.ntmps31
  go_upto_region 1 with (fail)
  rw [← hw2]
  clear hw2
  by_cases h0 : 0 < n1
  · have d0 : decide ((0 : Int) < (n1 : Int)) = true := by simp; omega
    have d0n : decide (0 < n1) = true := by simp; omega
    by_cases h00 : 0 < n2
    · have d1 : decide ((0 : Int) < (n2 : Int)) = true := by simp; omega
      have d1n : decide (0 < n2) = true := by simp; omega
      obtain ⟨j, hj⟩ : ∃ j, n1 = j + 1 := ⟨n1 - 1, by omega⟩
      obtain ⟨b1, o1, hA1, hb1, hc1⟩ := k1.form (by omega)
      obtain ⟨b2, o2, hA2, hb2, hc2⟩ := k2.form (by omega)
      subst hA1
      subst hA2
      obtain ⟨x, hx⟩ : ∃ x, v.L[j]? = some x := ⟨v.L[j]'(by have := HL1.out; omega), List.getElem?_eq_getElem _⟩
      obtain ⟨y, hy⟩ : ∃ y, e.L[0]? = some y := ⟨e.L[0]'(by have := HL2.out; omega), List.getElem?_eq_getElem _⟩
      obtain ⟨x0, _, _, _⟩ := hc1 j x hx
      obtain ⟨y0, _, _, _⟩ := hc2 0 y hy
      rw [Nat.zero_mul, Nat.add_zero] at y0
      have hw : IntKind.i64.wrap ((n1 : Int) - 1) = (j : Int) := by rw [wrapi _ (by omega) (by omega)]; omega
      have hji : (0 : Int) ≤ (j : Int) := by omega
      have hjn : (j : Int) < (n1 : Int) := by omega
      have hn2 : (0 : Int) < (n2 : Int) := by omega
      have HX := Lib.hid (lastN_get (x := x) (by rw [HL1.out, hj]) hx)
      have HY := Lib.hid (headN_get hy)
      clear hx hy hc1 hc2 k1 k2 hj
      by_cases hlow : y.n ≤ x.n
      · have d2 : decide ((y.n : Int) ≤ (x.n : Int)) = true := by simp; omega
        have d2n : decide (y.n ≤ x.n) = true := by simp; omega
        have HLOW := Lib.hid (show lowB v e = true by rw [HLB.out, HX.out, HY.out]; simp [h0, h00, hlow])
        clear h0 h00 hlow
        go_upto_region 2 with (fail)
        go_quiet (fail)
        go_wp2_with fail
        go_ret
        exact RetVl.bool (by rw [HFB.out, HLOW.out]; rfl) (below_drewN HT.out _)
      · have d2 : decide ((y.n : Int) ≤ (x.n : Int)) = false := by simp; omega
        have d2n : decide (y.n ≤ x.n) = false := by simp; omega
        have HLOW := Lib.hid (show lowB v e = false by rw [HLB.out, HX.out, HY.out]; simp [hlow])
        clear h0 h00 hlow
        go_upto_region 2 with (fail)
        go_quiet (fail)
        go_wp2_with fail
        refine (HFA.out _).mono ?_
        rintro e' w3 ⟨rfl, rfl⟩
        cases ha : fallB v.a e.a with
        | true =>
          have HA := Lib.hid ha
          clear ha
          go_wp2_with fail
          go_ret
          exact RetVl.bool (by rw [HFB.out, HLOW.out, HA.out]; rfl) (below_drewN HT.out _)
        | false =>
          have HA := Lib.hid ha
          clear ha
          go_wp2_with fail
          refine (HFBB.out _).mono ?_
          rintro e' w3 ⟨rfl, rfl⟩
          cases hb : fallB v.b e.b with
          | true =>
            have HB := Lib.hid hb
            clear hb
            go_wp2_with fail
            go_ret
            exact RetVl.bool (by rw [HFB.out, HLOW.out, HA.out, HB.out]; rfl) (below_drewN HT.out _)
          | false =>
            have HB := Lib.hid hb
            clear hb
            go_wp2_with fail
            refine (HFC.out _).mono ?_
            rintro e' w3 ⟨rfl, rfl⟩
            cases hc : fallB v.c e.c with
            | true =>
              have HC := Lib.hid hc
              clear hc
              go_wp2_with fail
              go_ret
              exact RetVl.bool (by rw [HFB.out, HLOW.out, HA.out, HB.out, HC.out]; rfl) (below_drewN HT.out _)
            | false =>
              have HC := Lib.hid hc
              clear hc
              go_wp2_with fail
              go_ret
              exact RetVl.bool (by rw [HFB.out, HLOW.out, HA.out, HB.out, HC.out]; rfl) (below_drewN HT.out _)
    · have d1 : decide ((0 : Int) < (n2 : Int)) = false := by simp; omega
      have d1n : decide (0 < n2) = false := by simp; omega
      have HLOW := Lib.hid (show lowB v e = false by rw [HLB.out]; simp [h00])
      clear h0 h00 k1 k2
      go_upto_region 2 with (fail)
      go_quiet (fail)
      go_wp2_with fail
      refine (HFA.out _).mono ?_
      rintro e' w3 ⟨rfl, rfl⟩
      cases ha : fallB v.a e.a with
      | true =>
        have HA := Lib.hid ha
        clear ha
        go_wp2_with fail
        go_ret
        exact RetVl.bool (by rw [HFB.out, HLOW.out, HA.out]; rfl) (below_drewN HT.out _)
      | false =>
        have HA := Lib.hid ha
        clear ha
        go_wp2_with fail
        refine (HFBB.out _).mono ?_
        rintro e' w3 ⟨rfl, rfl⟩
        cases hb : fallB v.b e.b with
        | true =>
          have HB := Lib.hid hb
          clear hb
          go_wp2_with fail
          go_ret
          exact RetVl.bool (by rw [HFB.out, HLOW.out, HA.out, HB.out]; rfl) (below_drewN HT.out _)
        | false =>
          have HB := Lib.hid hb
          clear hb
          go_wp2_with fail
          refine (HFC.out _).mono ?_
          rintro e' w3 ⟨rfl, rfl⟩
          cases hc : fallB v.c e.c with
          | true =>
            have HC := Lib.hid hc
            clear hc
            go_wp2_with fail
            go_ret
            exact RetVl.bool (by rw [HFB.out, HLOW.out, HA.out, HB.out, HC.out]; rfl) (below_drewN HT.out _)
          | false =>
            have HC := Lib.hid hc
            clear hc
            go_wp2_with fail
            go_ret
            exact RetVl.bool (by rw [HFB.out, HLOW.out, HA.out, HB.out, HC.out]; rfl) (below_drewN HT.out _)
  · have d0 : decide ((0 : Int) < (n1 : Int)) = false := by simp; omega
    have d0n : decide (0 < n1) = false := by simp; omega
    have HLOW := Lib.hid (show lowB v e = false by rw [HLB.out]; simp [h0])
    clear h0 k1 k2
    go_upto_region 2 with (fail)
    go_quiet (fail)
    go_wp2_with fail
    refine (HFA.out _).mono ?_
    rintro e' w3 ⟨rfl, rfl⟩
    cases ha : fallB v.a e.a with
    | true =>
      have HA := Lib.hid ha
      clear ha
      go_wp2_with fail
      go_ret
      exact RetVl.bool (by rw [HFB.out, HLOW.out, HA.out]; rfl) (below_drewN HT.out _)
    | false =>
      have HA := Lib.hid ha
      clear ha
      go_wp2_with fail
      refine (HFBB.out _).mono ?_
      rintro e' w3 ⟨rfl, rfl⟩
      cases hb : fallB v.b e.b with
      | true =>
        have HB := Lib.hid hb
        clear hb
        go_wp2_with fail
        go_ret
        exact RetVl.bool (by rw [HFB.out, HLOW.out, HA.out, HB.out]; rfl) (below_drewN HT.out _)
      | false =>
        have HB := Lib.hid hb
        clear hb
        go_wp2_with fail
        refine (HFC.out _).mono ?_
        rintro e' w3 ⟨rfl, rfl⟩
        cases hc : fallB v.c e.c with
        | true =>
          have HC := Lib.hid hc
          clear hc
          go_wp2_with fail
          go_ret
          exact RetVl.bool (by rw [HFB.out, HLOW.out, HA.out, HB.out, HC.out]; rfl) (below_drewN HT.out _)
        | false =>
          have HC := Lib.hid hc
          clear hc
          go_wp2_with fail
          go_ret
          exact RetVl.bool (by rw [HFB.out, HLOW.out, HA.out, HB.out, HC.out]; rfl) (below_drewN HT.out _)
end Go.Proofs.Ythgbafhfeblhaaa
