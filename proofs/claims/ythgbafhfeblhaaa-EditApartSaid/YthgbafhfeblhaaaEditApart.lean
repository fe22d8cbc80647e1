/-
  What is told is nobody else: written over, versions and edits ahead are as they were: for every two edits.
-/
import Derived.Test.YthgbafhfeblhaaaRows
import Derived.Test.YthgbafhfeblhaaaEdO
import Derived.WalkKit
import Derived.ProofKit
import Derived.OpenShut
import Derived.ShutString
import Derived.ChangeOld
import Derived.Below
namespace Go.Proofs.Ythgbafhfeblhaaa.editApart
set_option maxRecDepth 100000
open Go.ChangeShapes Go.WideShapes Go.ChangeAt Go.RowKit
open Go.ChangeMaps (open_string shut_string)
set_option linter.unusedVariables false

theorem own : ownKnob Try.prog.godebug = none := by kernel_rfl
theorem laidOut : laidOutB Try.prog = true := by kernel_rfl

open Go.Shelf
set_option linter.unusedSimpArgs false
theorem few_len {e : Ed} (h : fewE e = true) : e.L.length ≤ 70 := by simp [fewE] at h; omega
theorem few_two {x y : Ev} : fewD [x, y] = (fewE x.e && fewE y.e) := by simp [fewD]

theorem apply_nil {e : Ed} (h : rightE e = true) : applyE Ed.nil e = e ∧ okB Ed.nil e = true := by
  have hf : follB Ed.nil e = true := by
    simp [follB, lowB, fallB, Ed.nil]
  have hk : okB Ed.nil e = true := by unfold okB; rw [h, hf]; rfl
  refine ⟨?_, hk⟩
  unfold applyE
  rw [if_pos hk]
  obtain ⟨L, a, b, c⟩ := e
  simp [addE, Ed.nil]
theorem apply_nil_no {e : Ed} (h : rightE e = false) : applyE Ed.nil e = Ed.nil ∧ okB Ed.nil e = false := by
  have hk : okB Ed.nil e = false := by unfold okB; rw [h]; rfl
  exact ⟨by unfold applyE; rw [hk]; rfl, hk⟩
theorem okB_right (e : Ed) : okB Ed.nil e = rightE e := by
  cases h : rightE e with
  | true => exact (apply_nil h).2
  | false => exact (apply_nil_no h).2
theorem nil_L {e : Ed} : (applyE Ed.nil e).L = if rightE e = true then e.L else [] := by
  cases h : rightE e with
  | true => rw [(apply_nil h).1, if_pos rfl]
  | false => rw [(apply_nil_no h).1, if_neg (by decide)]; rfl
/-- A row of notes whose numbers may be written over. -/
structure RowN (W : World) (lo hi : Nat) (A : Option Addr) (n : Nat) : Prop where
  form : 0 < n → ∃ g, A = some ⟨g, 0, none⟩ ∧ lo ≤ g ∧ g < hi ∧ ∀ i, i < n → (∃ z : Nat, W.cell? ⟨g, i * 4, none⟩ = some (.int .u64 (z : Int))) ∧ W.frozen? ⟨g, i * 4, none⟩ = false
theorem RowN.of {w : World} {b n c : Nat} {A : Option Addr} {L : List Mt} (h : FrM w b A n c L) : RowN w b w.heap.size A n := by
  refine ⟨fun hn => ?_⟩
  rcases h.own.2 with ⟨e, h0⟩ | ⟨g, cap, cur, e, hg, hh, hnc, hm, hs, ht⟩
  · omega
  · injection e with e1 e2 e3
    subst e1
    refine ⟨g, rfl, hg, (Array.getElem?_eq_some_iff.1 hh).1, fun i hi => ⟨?_, by simp [World.frozen?, hh]⟩⟩
    have hx : L[i]? = some (L[i]'(by have := h.len; omega)) := List.getElem?_eq_getElem _
    have hc := h.own.cells (g := g) rfl (i * 4 + 0) _ ((mvs_get L i _ 0 hx (by omega)).trans rfl)
    have hadd : (⟨g, 0, none⟩ : Addr).add (i * 4 + 0) = ⟨g, i * 4, none⟩ := by unfold Addr.add; split <;> simp_all
    rw [hadd] at hc
    exact ⟨_, hc⟩
theorem RowN.set {W : World} {lo hi n : Nat} {A : Option Addr} (h : RowN W lo hi A n) {g k : Nat} (hA : A = some ⟨g, 0, none⟩) (z : Nat) : RowN (W.setCell ⟨g, k * 4, none⟩ (.int .u64 (z : Int))) lo hi A n := by
  refine ⟨fun hn => ?_⟩
  obtain ⟨g', e, h1, h2, h3⟩ := h.form hn
  rw [hA] at e
  cases e
  refine ⟨g, hA, h1, h2, fun i hi => ?_⟩
  obtain ⟨⟨z', hz⟩, hf⟩ := h3 i hi
  by_cases hik : i = k
  · subst hik
    exact ⟨⟨z, World.cell?_setCell_same _ _ _ hz⟩, by rw [World.frozen?_setCell]; exact hf⟩
  · refine ⟨⟨z', ?_⟩, by rw [World.frozen?_setCell]; exact hf⟩
    rw [World.cell?_setCell_other _ _ _ _ (by intro e; injection e with _ e2 _; omega)]
    exact hz
theorem RowN.keep {W W' : World} {lo hi n : Nat} {A : Option Addr} (h : RowN W lo hi A n) (hk : ∀ k, lo ≤ k → k < hi → W'.heap[k]? = W.heap[k]?) : RowN W' lo hi A n := by
  refine ⟨fun hn => ?_⟩
  obtain ⟨g, e, h1, h2, h3⟩ := h.form hn
  refine ⟨g, e, h1, h2, fun i hi => ?_⟩
  obtain ⟨⟨z, hz⟩, hf⟩ := h3 i hi
  exact ⟨⟨z, by rw [World.cell?_of_block (w := W) (w' := W') (hk g h1 h2)]; exact hz⟩, by rw [World.frozen?_of_block (w := W) (w' := W') (hk g h1 h2)]; exact hf⟩
theorem fr_move {w W : World} {b n c : Nat} {e : TypeId} {A : Option Addr} {xs : List Value} (h : Fr w b e A n c xs) (hk : ∀ g, b ≤ g → g < w.heap.size → W.heap[g]? = w.heap[g]?) : Fr W b e A n c xs := by
  obtain ⟨h1, h2⟩ := h.own
  refine ⟨h1, ?_⟩
  rcases h2 with h2 | ⟨g, cap, cur, e, hg, hh, r⟩
  · exact .inl h2
  · exact .inr ⟨g, cap, cur, e, hg, (hk g hg (Array.getElem?_eq_some_iff.1 hh).1).trans hh, r⟩
theorem frm_move {w W : World} {b n c : Nat} {A : Option Addr} {L : List Mt} (h : FrM w b A n c L) (hk : ∀ g, b ≤ g → g < w.heap.size → W.heap[g]? = w.heap[g]?) : FrM W b A n c L := by
  obtain ⟨h1, h2⟩ := h.own
  refine ⟨h1, ?_⟩
  rcases h2 with h2 | ⟨g, cap, cur, e, hg, hh, r⟩
  · exact .inl h2
  · exact .inr ⟨g, cap, cur, e, hg, (hk g hg (Array.getElem?_eq_some_iff.1 hh).1).trans hh, r⟩
/-- What the loops that write over keep: all but the row of the one, and that of the other. -/
structure ApK (w5 w9 w11 w12 : World) (t7 t11 : Nat) (W : World) : Prop where
  lo : Below w5.heap.size w5 W
  sz : w12.heap.size ≤ W.heap.size
  blk : ∀ k, k < w12.heap.size → (k < w5.heap.size ∨ t7 ≤ k) → (k < w9.heap.size ∨ t11 ≤ k) → W.heap[k]? = w12.heap[k]?
theorem ApK.set {w5 w9 w11 w12 W : World} {t7 t11 : Nat} (h : ApK w5 w9 w11 w12 t7 t11 W) {p : Addr} (h5 : w5.heap.size ≤ p.block) (hp : p.block < t7 ∨ (w9.heap.size ≤ p.block ∧ p.block < t11)) (u : Value) (h79 : w5.heap.size ≤ w9.heap.size) : ApK w5 w9 w11 w12 t7 t11 (W.setCell p u) :=
  ⟨h.lo.setCell h5 u, by simp [World.setCell]; exact h.sz, fun k hk h1 h2 => by
    simp only [World.setCell]
    rw [Array.getElem?_modify, if_neg (by omega)]
    exact h.blk k hk h1 h2⟩

set_option maxRecDepth 100000 in
set_option maxHeartbeats 8000000 in
theorem walk (y0 : Ev) (y1 : Ev) (w : World) (o0 : EdIn y0.e) (r0 : RdM w w.heap.size y0.A y0.n y0.c y0.e.L) (o1 : EdIn y1.e) (r1 : RdM w w.heap.size y1.A y1.n y1.c y1.e.L) :
    Calls Try.prog 7 #[edV y0.A y0.n y0.c y0.e, edV y1.A y1.n y1.c y1.e] w fun e w' => e = .returned (.bool true) ∧ Below w.heap.size w w' := by
  obtain ⟨A0, n0, c0, e0⟩ := y0
  obtain ⟨A1, n1, c1, e1⟩ := y1
  simp only at o0 r0 o1 r1 ⊢
  have ht := Two.new w 25 25 A0 A1 n0 c0 n1 c1 e0 e1
  obtain ⟨w2, hw2⟩ : ∃ w2, w2 = ((w.alloc (.cells #[.slice A0 n0 c0, .int .u64 (e0.a : Int), .int .u64 (e0.b : Int), .int .u64 (e0.c : Int)] 25)).alloc (.cells #[.slice A1 n1 c1, .int .u64 (e1.a : Int), .int .u64 (e1.b : Int), .int .u64 (e1.c : Int)] 25)) := ⟨_, rfl⟩
  rw [← hw2] at ht
  have HT := Lib.hid ht
  have HR0 := Lib.hid (fun W (hW : Below w2.heap.size w2 W) => r0.below (ht.below.trans (hW.mono ht.below.size)) (Nat.le_refl _))
  have HR1 := Lib.hid (fun W (hW : Below w2.heap.size w2 W) => r1.below (ht.below.trans (hW.mono ht.below.size)) (Nat.le_refl _))
  have HL0 := Lib.hid r0.len
  have HL1 := Lib.hid r1.len
  obtain ⟨q0, q1, q2, q3, _, _, _, _⟩ := ht.b1.cells
  obtain ⟨p0, p1, p2, p3, _, _, _, _⟩ := ht.b2.cells
  obtain ⟨wr, hwr⟩ : ∃ wr, wr = w2.alloc (.cells #[.slice A0 n0 c0, .int .u64 (e0.a : Int), .int .u64 (e0.b : Int), .int .u64 (e0.c : Int), .slice A1 n1 c1, .int .u64 (e1.a : Int), .int .u64 (e1.b : Int), .int .u64 (e1.c : Int)] 25) := ⟨_, rfl⟩
  have HFW := Lib.hid (show RdD wr (w2.heap.size + 1) (some ⟨w2.heap.size, 0, none⟩) 2 2 [⟨A0, n0, c0, e0⟩, ⟨A1, n1, c1, e1⟩] by
    rw [hwr]
    refine RdD.lit w2 rfl rfl rfl (by decide) (fun x hx => ?_)
    simp only [List.mem_cons, List.not_mem_nil, or_false] at hx
    rcases hx with rfl | rfl
    · exact (HR0.out w2 (Below.refl _ _)).more ht.below.size
    · exact (HR1.out w2 (Below.refl _ _)).more ht.below.size)
  have HBR := Lib.hid (show Below w2.heap.size w2 wr by rw [hwr]; exact below_alloc _ _)
  have HFEW := Lib.hid (few_c HFW.out (by rw [hwr]; simp))
  rw [few_two] at HFEW
  simp only at HFEW
  have O0 := Lib.hid o0
  have O1 := Lib.hid o1
  clear ht r0 r1 o0 o1
  unfold edV
  go_enter Try.func7, Try.ntmps7
  go_upto_region 1 with (fail)
  rw [← hw2]
  clear hw2
  go_wp2_with (rw [← hwr])
  clear hwr
  refine HFEW.out.mono ?_
  rintro e w3 ⟨rfl, hb3⟩
  have HX := Lib.hid (bon HBR.out hb3)
  clear hb3 q0 q1 q2 q3 p0 p1 p2 p3
  cases hf0 : fewE e0 with
  | false =>
    simp only [Bool.false_and]
    clear hf0
    go_wp2_with fail
    refine (awake9_c _).mono ?_
    rintro e w99 ⟨rfl, hb99⟩
    go_wp2_with fail
    go_ret
    exact ⟨rfl, bon (bon HT.out.below HX.out) hb99⟩
  | true =>
    cases hf1 : fewE e1 with
    | false =>
      simp only [Bool.and_false]
      clear hf1
      go_wp2_with fail
      refine (awake9_c _).mono ?_
      rintro e w99 ⟨rfl, hb99⟩
      go_wp2_with fail
      go_ret
      exact ⟨rfl, bon (bon HT.out.below HX.out) hb99⟩
    | true =>
      simp only [Bool.and_true]
      have hn0 : n0 ≤ 70 := by have := few_len hf0; have := HL0.out; omega
      have hn1 : n1 ≤ 70 := by have := few_len hf1; have := HL1.out; omega
      have HNN := Lib.hid (show n0 ≤ 70 ∧ n1 ≤ 70 from ⟨hn0, hn1⟩)
      clear hf0 hf1 hn0 hn1
      have HAP0 := Lib.hid (fun W (hW : Below w2.heap.size w2 W) => apply_c (w := W) (v := Ed.nil) (e := e0) (A1 := none) (n1 := 0) (c1 := 0) RdM.nilv (HR0.out W hW) (Nat.le_trans HT.out.below.size hW.size) (by decide) (by have := HNN.out; omega))
      have HBY := Lib.hid (fun W (hW : Below w2.heap.size w2 W) => bytes_c (e := e0) (HR0.out W hW) (Nat.le_trans HT.out.below.size hW.size) (by have := HNN.out; omega) O0.out)
      unfold edV at HBY
      unfold edV Ed.nil at HAP0
      obtain ⟨q0, q1, q2, q3, _, _, _, _⟩ := (HT.out.now HX.out).b1.cells
      go_wp2_with fail
      refine (HAP0.out _ HX.out).mono ?_
      rintro e w4 ⟨A4, n4, c4, rfl, hf4, hb4⟩
      have HVL := Lib.hid (nil_L (e := e0))
      have HER := Lib.hid (okB_right e0)
      unfold Ed.nil at HVL HER
      rw [HER.out]
      obtain ⟨v, hv⟩ : ∃ v, v = applyE ⟨[], 0, 0, 0⟩ e0 := ⟨_, rfl⟩
      (try unfold Ed.nil at hf4)
      rw [← hv] at hf4 HVL
      rw [← hv]
      clear hv
      obtain ⟨w5, hw5⟩ : ∃ w5, w5 = w4.alloc (.cells #[.slice A4 n4 c4, .int .u64 (v.a : Int), .int .u64 (v.b : Int), .int .u64 (v.c : Int)] 28) := ⟨_, rfl⟩
      have HX5 := Lib.hid (show Below w2.heap.size w2 w5 by rw [hw5]; exact blit (bon HX.out hb4) _)
      have HV5 := Lib.hid (show B4 w5 w4.heap.size 28 (.slice A4 n4 c4) (.int .u64 (v.a : Int)) (.int .u64 (v.b : Int)) (.int .u64 (v.c : Int)) by rw [hw5]; exact B4.new _ _ _ _ _ _ rfl)
      have HF5 := Lib.hid (show RdM w5 w5.heap.size A4 n4 c4 v.L by rw [hw5]; exact (hf4.alloc _).rd (Nat.le_refl _))
      have HL4 := Lib.hid hf4.len
      have hn4 : n4 ≤ 70 := by
        have h1 := hf4.len
        rw [HVL.out] at h1
        have h2 := HL0.out; have h3 := HNN.out
        split at h1
        · omega
        · simp at h1; omega
      have HN4 := Lib.hid hn4
      have HAP1 := Lib.hid (apply_c (w := w5) (v := v) (e := e1) HF5.out ((HR1.out w5 HX5.out).more (Nat.le_trans HT.out.below.size HX5.out.size)) (Nat.le_refl _) (by omega) (by have := HNN.out; omega))
      obtain ⟨p0, p1, p2, p3, _, _, _, _⟩ := (HT.out.now HX5.out).b2.cells
      obtain ⟨v0, v1, v2, v3, _, _, _, _⟩ := HV5.out.cells
      clear hf4 hb4 q0 q1 q2 q3 hn4
      unfold edV at HAP1
      unfold edV
      go_upto_region 4 with (fail)
      rw [← hw5]
      clear hw5
      go_wp2_with fail
      refine HAP1.out.mono ?_
      rintro e w6 ⟨A7, n7, c7, rfl, hf7, hb7⟩
      obtain ⟨okv, hokv⟩ : ∃ okv, okv = okB v e1 := ⟨_, rfl⟩
      obtain ⟨u, hu⟩ : ∃ u, u = applyE v e1 := ⟨_, rfl⟩
      rw [← hokv]
      rw [← hu] at hf7
      rw [← hu]
      clear hokv hu
      obtain ⟨w7, hw7⟩ : ∃ w7, w7 = w6.alloc (.cells #[.slice A7 n7 c7, .int .u64 (u.a : Int), .int .u64 (u.b : Int), .int .u64 (u.c : Int)] 28) := ⟨_, rfl⟩
      have HB7 := Lib.hid (show Below w5.heap.size w5 w7 by rw [hw7]; exact blit hb7 _)
      have HU7 := Lib.hid (show B4 w7 w6.heap.size 28 (.slice A7 n7 c7) (.int .u64 (u.a : Int)) (.int .u64 (u.b : Int)) (.int .u64 (u.c : Int)) by rw [hw7]; exact B4.new _ _ _ _ _ _ rfl)
      have HRN7 := Lib.hid (show RowN w7 w5.heap.size w6.heap.size A7 n7 by rw [hw7]; exact (RowN.of hf7).keep (fun k _ h2 => heap_alloc_old w6 _ h2))
      have HS7 := Lib.hid (show w6.heap.size < w7.heap.size by rw [hw7]; simp)
      have H56 := Lib.hid (show w5.heap.size ≤ w6.heap.size from hb7.size)
      have HX7 := Lib.hid (bon HX5.out HB7.out)
      have HBYA := Lib.hid (HBY.out w7 HX7.out)
      have hm7 : (n7 : Int) ≤ 9223372036854775807 := by have h1 := (hf7.rd (Nat.le_refl _)).cap; have h2 := (hf7.rd (Nat.le_refl _)).max; unfold maxLen at h2; omega
      clear hf7 hb7 p0 p1 p2 p3 v0 v1 v2 v3
      obtain ⟨q0, q1, q2, q3, _, _, _, _⟩ := (HT.out.now HX7.out).b1.cells
      unfold edV
      go_upto_region 5 with (fail)
      rw [← hw7]
      clear hw7
      go_wp2_with fail
      refine HBYA.out.mono ?_
      rintro e w9 ⟨A9, n9, c9, rfl, hf9, hb9⟩
      have HB9 := Lib.hid hb9
      have HF9 := Lib.hid hf9
      have HX9 := Lib.hid (bon HX7.out hb9)
      have HWH := Lib.hid (whole_c (w := w9) (v := v) ((HF5.out.below HB7.out (Nat.le_refl _)).below hb9 HB7.out.size) (Nat.le_trans HB7.out.size hb9.size) (by have := HN4.out; omega))
      obtain ⟨v0, v1, v2, v3, _, _, _, _⟩ := ((HV5.out.now HB7.out).now hb9).cells
      clear hf9 hb9 q0 q1 q2 q3
      unfold edV at HWH
      go_wp2_with fail
      refine HWH.out.mono ?_
      rintro e w10 ⟨A11, n11, c11, rfl, hf11, hb11⟩
      obtain ⟨w11, hw11⟩ : ∃ w11, w11 = w10.alloc (.cells #[.slice A11 n11 c11, .int .u64 (v.a : Int), .int .u64 (v.b : Int), .int .u64 (v.c : Int)] 25) := ⟨_, rfl⟩
      have HB11 := Lib.hid (show Below w9.heap.size w9 w11 by rw [hw11]; exact blit hb11 _)
      have HU11 := Lib.hid (show B4 w11 w10.heap.size 25 (.slice A11 n11 c11) (.int .u64 (v.a : Int)) (.int .u64 (v.b : Int)) (.int .u64 (v.c : Int)) by rw [hw11]; exact B4.new _ _ _ _ _ _ rfl)
      have HRN11 := Lib.hid (show RowN w11 w9.heap.size w10.heap.size A11 n11 by rw [hw11]; exact (RowN.of hf11).keep (fun k _ h2 => heap_alloc_old w10 _ h2))
      have HS11 := Lib.hid (show w10.heap.size < w11.heap.size ∧ w9.heap.size ≤ w10.heap.size by rw [hw11]; exact ⟨by simp, hb11.size⟩)
      have hm11 : (n11 : Int) ≤ 9223372036854775807 := by have h1 := (hf11.rd (Nat.le_refl _)).cap; have h2 := (hf11.rd (Nat.le_refl _)).max; unfold maxLen at h2; omega
      clear hf11 hb11 v0 v1 v2 v3
      have HB59 := Lib.hid (bon HB7.out HB9.out)
      have HB511 := Lib.hid (bon HB59.out HB11.out)
      obtain ⟨v0, v1, v2, v3, _, _, _, _⟩ := ((HV5.out.now HB511.out).alloc (.cells #[] 47)).cells
      have hz12 := FrM.zero w11 (b := w11.heap.size) (g := w11.heap.size) rfl (Nat.le_refl _)
      have hr12 := (HF5.out.below HB511.out (Nat.le_refl _)).below (below_alloc w11 (.cells #[] 47)) HB511.out.size
      have hn12 : 0 + n4 ≤ 2932031007402 := by have := HN4.out; omega
      unfold edV
      go_upto_region 7 with (fail)
      rw [← hw11]
      clear hw11
      go_wp2_with (at_builtin; refine wpList_appM rfl (.tmp 43) (.tmp 45) rfl rfl hz12 rfl hr12 hn12 (by simp) ?_; intro A12 c12 w12 hap; obtain ⟨u0, u1, u2, u3, _, _, _, _⟩ := (((HU7.out.now HB9.out).now HB11.out).now ((below_alloc w11 _).trans hap.below)).cells)
      rw [Nat.zero_add, List.nil_append] at hap
      have HB12 := Lib.hid (show Below w11.heap.size w11 w12 from (below_alloc w11 _).trans hap.below)
      have HF12 := Lib.hid hap.fr
      have H59 := Lib.hid (show w5.heap.size ≤ w9.heap.size from HB59.out.size)
      have HSZ := Lib.hid (show w6.heap.size < w7.heap.size ∧ w7.heap.size ≤ w9.heap.size ∧ w9.heap.size ≤ w10.heap.size ∧ w10.heap.size < w11.heap.size ∧ w11.heap.size ≤ w12.heap.size ∧ w5.heap.size ≤ w6.heap.size from ⟨HS7.out, HB9.out.size, HS11.out.2, HS11.out.1, HB12.out.size, H56.out⟩)
      obtain ⟨t7, ht7⟩ : ∃ t7, t7 = w6.heap.size := ⟨_, rfl⟩
      obtain ⟨t11, ht11⟩ : ∃ t11, t11 = w10.heap.size := ⟨_, rfl⟩
      rw [← ht7] at HU7 HRN7 HSZ ⊢
      rw [← ht11] at HU11 HRN11 HSZ ⊢
      have HU7b := Lib.hid (((HU7.out.now HB9.out).now HB11.out).now HB12.out)
      have HU11b := Lib.hid (HU11.out.now HB12.out)
      have HAPK := Lib.hid (show ApK w5 w9 w11 w12 t7 t11 w12 from ⟨bon HB511.out HB12.out, Nat.le_refl _, fun k _ _ _ => rfl⟩)
      have HRN7b := Lib.hid (HRN7.out.keep (W' := w12) (fun k h1 h2 => by
        have := HSZ.out
        rw [HB12.out.block k (by omega), HB11.out.block k (by omega), HB9.out.block k (by omega)]))
      have HRN11b := Lib.hid (HRN11.out.keep (W' := w12) (fun k h1 h2 => by
        have := HSZ.out
        rw [HB12.out.block k (by omega)]))
      clear hap hz12 hr12 hn12 v0 v1 v2 v3 ht7 ht11
      clear u0 u1 u2 u3
      go_loopw [50] (fun iv wx => ∃ k : Nat, iv = .int .i64 (k : Int) ∧ k ≤ n7 ∧ ApK w5 w9 w11 w12 t7 t11 wx ∧ RowN wx w5.heap.size t7 A7 n7 ∧ RowN wx w9.heap.size t11 A11 n11) (fun iv _ => ((n7 : Int) - intOf iv).toNat)
      case atStart => exact ⟨0, rfl, by omega, HAPK.out, HRN7b.out, HRN11b.out⟩
      case round =>
        obtain ⟨k, rfl, hkn, hap, hrow, hrow2⟩ := hrel
        obtain ⟨u0, u1, u2, u3, _, _, _, _⟩ := (show B4 wr t7 28 (.slice A7 n7 c7) (.int .u64 (u.a : Int)) (.int .u64 (u.b : Int)) (.int .u64 (u.c : Int)) from ⟨by have := HSZ.out; rw [hap.blk t7 (by omega) (.inr (Nat.le_refl _)) (.inl (by omega))]; exact HU7b.out.h⟩).cells
        by_cases hlt : k < n7
        · obtain ⟨g, hA, hg1, hg2, hcl⟩ := hrow.form (by omega)
          obtain ⟨⟨z, hz⟩, hfz⟩ := hcl k hlt
          have hki : (k : Int) < (n7 : Int) := by omega
          have hk0 : (0 : Int) ≤ (k : Int) := by omega
          obtain ⟨z', hz'⟩ : ∃ z' : Nat, IntKind.u64.wrap ((z : Int) + 1) = (z' : Int) := ⟨((z : Int) + 1).toNat % 18446744073709551616, by rw [wrapu]; omega⟩
          have HAP := Lib.hid (hap.set (p := ⟨g, k * 4, none⟩) (by (try simp only); omega) (.inl hg2) (.int .u64 (z' : Int)) H59.out)
          have HROW := Lib.hid (hrow.set hA z' (k := k))
          have HROW2 := Lib.hid (hrow2.keep (W' := wr.setCell ⟨g, k * 4, none⟩ (.int .u64 (z' : Int))) (fun q h1 h2 => by
            have := HSZ.out
            simp only [World.setCell]
            rw [Array.getElem?_modify, if_neg (by (try simp only); omega)]))
          clear hap hrow hrow2 hcl
          subst hA
          go_wp2_with fail
          go_roundw
          case rel => exact ⟨k + 1, by simp, by omega, HAP.out, HROW.out, HROW2.out⟩
          case measure => simp [intOf]; omega
        · have hki : ¬ (k : Int) < (n7 : Int) := by omega
          obtain rfl : k = n7 := by omega
          have HAPK2 := Lib.hid hap
          have HRN11c := Lib.hid hrow2
          obtain ⟨s0, s1, s2, s3, _, _, _, _⟩ := (show B4 wr t11 25 (.slice A11 n11 c11) (.int .u64 (v.a : Int)) (.int .u64 (v.b : Int)) (.int .u64 (v.c : Int)) from ⟨by have := HSZ.out; rw [hap.blk t11 (by omega) (.inr (by omega)) (.inr (Nat.le_refl _))]; exact HU11b.out.h⟩).cells
          clear hap hrow hrow2 hkn hlt
          go_wp2_with fail
          clear s0 s1 s2 s3 u0 u1 u2 u3
          generalize hw13 : wr = w13 at *
          go_loopw [66] (fun iv wx => ∃ k : Nat, iv = .int .i64 (k : Int) ∧ k ≤ n11 ∧ ApK w5 w9 w11 w12 t7 t11 wx ∧ RowN wx w9.heap.size t11 A11 n11) (fun iv _ => ((n11 : Int) - intOf iv).toNat)
          case atStart => exact ⟨0, rfl, by omega, HAPK2.out, HRN11c.out⟩
          case round =>
            obtain ⟨k, rfl, hkn, hap, hrow⟩ := hrel
            obtain ⟨u0, u1, u2, u3, _, _, _, _⟩ := (show B4 wr t11 25 (.slice A11 n11 c11) (.int .u64 (v.a : Int)) (.int .u64 (v.b : Int)) (.int .u64 (v.c : Int)) from ⟨by have := HSZ.out; rw [hap.blk t11 (by omega) (.inr (by omega)) (.inr (Nat.le_refl _))]; exact HU11b.out.h⟩).cells
            by_cases hlt : k < n11
            · obtain ⟨g, hA, hg1, hg2, hcl⟩ := hrow.form (by omega)
              obtain ⟨⟨z, hz⟩, hfz⟩ := hcl k hlt
              have hki : (k : Int) < (n11 : Int) := by omega
              have hk0 : (0 : Int) ≤ (k : Int) := by omega
              obtain ⟨z', hz'⟩ : ∃ z' : Nat, IntKind.u64.wrap ((z : Int) + 1) = (z' : Int) := ⟨((z : Int) + 1).toNat % 18446744073709551616, by rw [wrapu]; omega⟩
              have HAP := Lib.hid (hap.set (p := ⟨g, k * 4, none⟩) (by have := H59.out; (try simp only); omega) (.inr ⟨hg1, hg2⟩) (.int .u64 (z' : Int)) H59.out)
              have HROW := Lib.hid (hrow.set hA z' (k := k))
              clear hap hrow hcl
              subst hA
              go_wp2_with fail
              go_roundw
              case rel => exact ⟨k + 1, by simp, by omega, HAP.out, HROW.out⟩
              case measure => simp [intOf]; omega
            · have hki : ¬ (k : Int) < (n11 : Int) := by omega
              obtain rfl : k = n11 := by omega
              have HAPK3 := Lib.hid hap
              clear hap hrow hkn hlt u0 u1 u2 u3
              go_wp2_with fail
              generalize hw14 : wr = w14 at *
              have HKV := Lib.hid (HF5.out.below HAPK3.out.lo (Nat.le_refl _))
              have HKW := Lib.hid ((frm_move HF12.out (W := w14) (fun k h1 h2 => by have := HSZ.out; exact HAPK3.out.blk k h2 (.inr (by omega)) (.inr (by omega)))).rd (Nat.le_refl _))
              have HX14 := Lib.hid (show Below w2.heap.size w2 w14 from bon HX5.out HAPK3.out.lo)
              have HKA := Lib.hid (HR0.out w14 HX14.out)
              have HVB := Lib.hid (HV5.out.now HAPK3.out.lo)
              have HAB := Lib.hid (HT.out.now HX14.out).b1
              have HFX := Lib.hid (fr_move HF9.out (W := w14) (fun k h1 h2 => by have := HSZ.out; exact (HAPK3.out.blk k (by omega) (.inr (by omega)) (.inl h2)).trans ((HB12.out.block k (by omega)).trans (HB11.out.block k h2))))
              go_loopw [81] (fun iv wx => ∃ k : Nat, iv = .int .i64 (k : Int) ∧ k ≤ n4 ∧ ∃ q, wx = w14.drewN q) (fun iv _ => ((n4 : Int) - intOf iv).toNat)
              case atStart => exact ⟨0, rfl, by omega, 0, rfl⟩
              case round =>
                obtain ⟨k, rfl, hkn, q, rfl⟩ := hrel
                have hi4 : (n4 : Int) ≤ 70 := by have := HN4.out; omega
                by_cases hlt : k < n4
                · have hra : rightE e0 = true := by
                    cases h : rightE e0 with
                    | true => rfl
                    | false =>
                      have h1 := HVL.out
                      rw [h, if_neg (by decide)] at h1
                      have h2 := HL4.out
                      rw [h1] at h2
                      simp at h2
                      omega
                  have hvl := HVL.out
                  rw [hra, if_pos rfl] at hvl
                  have d1 : (errE (rightE e0) == 0) = true := by rw [hra]; rfl
                  obtain ⟨x, hx⟩ : ∃ x, v.L[k]? = some x := ⟨v.L[k]'(by have := HL4.out; omega), List.getElem?_eq_getElem _⟩
                  obtain ⟨b1, o1, hA1, _, hc1⟩ := HKV.out.form (by omega)
                  obtain ⟨b2, o2, hA2, _, hc2⟩ := HKW.out.form (by omega)
                  have hn0 : k < n0 := by have h1 := HL0.out; have h2 := HL4.out; rw [← hvl] at h1; omega
                  obtain ⟨b3, o3, hA3, _, hc3⟩ := HKA.out.form (by omega)
                  obtain ⟨x0, x1, x2, x3⟩ := hc1 k x hx
                  obtain ⟨y0, y1, y2, y3⟩ := hc2 k x hx
                  obtain ⟨z0, z1, z2, z3⟩ := hc3 k x (by rw [← hvl]; exact hx)
                  have hki : (k : Int) < (n4 : Int) := by omega
                  have hki0 : (k : Int) < (n0 : Int) := by omega
                  have hk0 : (0 : Int) ≤ (k : Int) := by omega
                  have HEQ := fun W => run_eq_mt W x x
                  have hsx : sameM x x = true := (sameM_eq x x).2 rfl
                  rw [hsx] at HEQ
                  obtain ⟨g0, g1, g2, g3, _, _, _, _⟩ := HVB.out.cells
                  obtain ⟨k0, k1, k2, k3, _, _, _, _⟩ := HAB.out.cells
                  clear hc1 hc2 hc3 hx hsx hvl hra hkn
                  subst hA1
                  subst hA2
                  subst hA3
                  go_wp2_with fail
                  go_quiet (fail)
                  go_wp2_with fail
                  go_roundw
                  case rel => exact ⟨k + 1, by simp, by omega, q + nq, by simp [World.drewN_drewN]⟩
                  case measure => simp [intOf]; omega
                · have hki : ¬ (k : Int) < (n4 : Int) := by omega
                  have HX15 := Lib.hid (show Below w2.heap.size w2 (w14.drewN q) from below_drewN HX14.out q)
                  have HBY2 := Lib.hid (HBY.out (w14.drewN q) HX15.out)
                  obtain ⟨k0, k1, k2, k3, _, _, _, _⟩ := (HAB.out.drewN q).cells
                  clear hkn hlt
                  go_wp2_with fail
                  refine HBY2.out.mono ?_
                  rintro e w16 ⟨A16, n16, c16, rfl, hf16, hb16⟩
                  have HX16 := Lib.hid (bon HX15.out hb16)
                  have hfx1 : Rd (w14.drewN q) (w14.drewN q).heap.size A9 n9 c9 (bv (bytesL e0)) := (HFX.out.rd (Nat.le_refl _)).drewN q
                  have HSM := Lib.hid (same_t (hfx1.now hb16) (hf16.rd (Nat.le_refl _)) rfl)
                  clear hf16 hb16 hfx1 k0 k1 k2 k3
                  go_wp2_with fail
                  refine HSM.out.mono ?_
                  rintro e w17 ⟨rfl, rfl⟩
                  have HE1 : errE true = 0 := rfl
                  have HE2 : errE false = 90 := rfl
                  cases okv with
                  | true =>
                    rw [HE1]
                    go_wp2_with fail
                    refine (awake9_c _).mono ?_
                    rintro e w99 ⟨rfl, hb99⟩
                    go_wp2_with fail
                    go_ret
                    exact ⟨rfl, bon (bon HT.out.below HX16.out) hb99⟩
                  | false =>
                    rw [HE2]
                    go_wp2_with fail
                    refine (awake9_c _).mono ?_
                    rintro e w99 ⟨rfl, hb99⟩
                    go_wp2_with fail
                    go_ret
                    exact ⟨rfl, bon (bon HT.out.below HX16.out) hb99⟩

set_option maxRecDepth 100000 in
theorem lifted (os : Os) (started : os.Started) (H : Type) (enc : TypeId × Value → H) :
    ReturnsInHanded {} Try.checked os 7 .any (Rows.editApartSpec.pre6 enc Try.prog Try.f7 Rows.editApartRow.domain false) (Rows.editApartSpec.post enc Try.prog Try.f7 false true false false) := by
  refine returnsInHanded_of_change (C := Try.checked) own started (by kernel_rfl) Try.func7
    (ChangeSpec.witness6 (enc := enc) (C := Try.checked) false ⟨#[], #[.agg #[.slice none 0 0, .int .u64 0, .int .u64 0, .int .u64 0], .agg #[.slice none 0 0, .int .u64 0, .int .u64 0, .int .u64 0]], []⟩ 8 (by kernel_rfl) (by kernel_rfl) (by kernel_rfl) (by kernel_rfl)) ?_
  intro W base args ds gs before hval0 hW hcnd _
  have hval : ∀ (j : Nat) t v, Try.f7.params[j]? = some t → args[j]? = some v → Value.okWide Try.prog W .any base t v := hval0
  have hW' := hW
  obtain ⟨p, q, hA0, hV, rfl, hfz, hnd⟩ := hW
  have hA : DataW.TrodAll enc Try.prog W 0 (fun _ => true) true Try.f7.params.toList args.toList ds p := hA0
  rw [Try.params7] at hA hval
  obtain ⟨v0, vs0, d0, ds0, p0, q0_, hargs, rfl, rfl, h0, r0_⟩ := trodAll_cons hA
  obtain ⟨v1, vs1, d1, ds1, p1, q1_, rfl, rfl, rfl, h1, r1_⟩ := trodAll_cons r0_
  obtain ⟨rfl, rfl, rfl⟩ := trodAll_nil r1_
  obtain rfl : args = #[v0, v1] := by cases args; simp_all
  obtain ⟨rfl, rfl⟩ := trodVars_none hV
  have kk0 := h0
  have lt0 : ∀ x ∈ p0, x.block < W.heap.size := by obtain ⟨m, hm⟩ := kk0; exact DataW.trod_lt m _ _ _ hm
  have kk1 := h1
  have lt1 : ∀ x ∈ p1, x.block < W.heap.size := by obtain ⟨m, hm⟩ := kk1; exact DataW.trod_lt m _ _ _ hm
  obtain ⟨y0, e0, o0, r0⟩ := open_edit (hval 0 _ v0 rfl rfl) h0
  subst e0
  obtain ⟨y1, e1, o1, r1⟩ := open_edit (hval 1 _ v1 rfl rfl) h1
  subst e1
  clear hA0 hval0
  refine (walk y0 y1 W o0 r0 o1 r1).mono fun e W' ⟨he, bel⟩ => ?_
  subst he
  exact ⟨_, rfl, _, _, _, [], _, [], hW', trodAll_mk1 (shut_bool Try.underlying4 _), (trodAll_cons_mk (Below.trod laidOut (by kernel_rfl) (of_decide_eq_true (by kernel_rfl)) kk0 bel lt0) (trodAll_cons_mk (Below.trod laidOut (by kernel_rfl) (of_decide_eq_true (by kernel_rfl)) kk1 bel lt1) trodAll_mk0)), rfl, bel.frame _, fun h => by cases h⟩

theorem over : Rows.editApartRow.holds Try.pinned (OpenSpec.ofChange Rows.editApartSpec) :=
  OpenClaim.holds_of_wide 7 Try.f7 rfl rfl rfl rfl rfl rfl rfl ⟨rfl, rfl, rfl, rfl, rfl⟩ rfl rfl rfl rfl rfl (by kernel_rfl) Try.func7 (by kernel_rfl)
    (of_decide_eq_true (by kernel_rfl)) (by unfold Func.isWrapper; first | (rw [if_pos (by decide +kernel)]; kernel_rfl) | (rw [if_neg (by decide +kernel)]; exact ⟨rfl, rfl⟩))
    (fun os started H enc _ => lifted os started H enc)

/-- The statement. -/
theorem proved : Rows.EditApartSaid := over
#print axioms proved
end Go.Proofs.Ythgbafhfeblhaaa.editApart
