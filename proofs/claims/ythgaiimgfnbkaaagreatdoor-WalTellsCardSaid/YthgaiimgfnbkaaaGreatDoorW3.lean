/-
  Contract: recordAt: the right record that bytes begin with.
-/
import Derived.Test.YthgaiimgfnbkaaaGreatDoorW2
import Derived.Deep.Cut
namespace Go.Proofs.YthgaiimgfnbkaaaGreatDoor
set_option maxRecDepth 100000
open Go.RowKit Go.Shelf
set_option linter.unusedVariables false

/-- A record in a block of its own. -/
structure RecAt (w : World) (b : Nat) (q : Nat) (A : Option Addr) (n c : Nat) : Prop where
  lt : b < w.heap.size
  h : w.heap[b]? = some (.cells #[.int .u64 (q : Int), .slice A n c] 25 (0, 0))
section
variable {w w' : World} {b q n c : Nat} {A : Option Addr}
theorem RecAt.cells (h : RecAt w b q A n c) : w.cell? ⟨b, 0, none⟩ = some (.int .u64 (q : Int)) ∧ w.cell? ⟨b, 1, none⟩ = some (.slice A n c) := rec_cells h.h
theorem RecAt.frozen (h : RecAt w b q A n c) : w.frozen? ⟨b, 0, none⟩ = false ∧ w.frozen? ⟨b, 1, none⟩ = false := by
  refine ⟨?_, ?_⟩ <;> simp [World.frozen?, h.h]
theorem RecAt.new (w : World) (q : Nat) (A : Option Addr) (n c : Nat) : RecAt (w.alloc (.cells #[.int .u64 (q : Int), .slice A n c] 25)) w.heap.size q A n c := ⟨by simp, heap_alloc_new w _⟩
theorem RecAt.alloc (h : RecAt w b q A n c) (o : Obj) : RecAt (w.alloc o) b q A n c := ⟨by have := h.lt; simp; omega, by rw [Go.heap_alloc_old w o h.lt]; exact h.h⟩
theorem RecAt.drew (h : RecAt w b q A n c) : RecAt w.drew b q A n c := ⟨h.lt, h.h⟩
theorem RecAt.below {B : Nat} (h : RecAt w b q A n c) (hb : Below B w w') (hB : w.heap.size ≤ B) : RecAt w' b q A n c :=
  ⟨by have := h.lt; have := hb.size; omega, by rw [hb.block b (by have := h.lt; omega)]; exact h.h⟩
theorem RecAt.store (h : RecAt w b q A n c) (q' : Nat) (A' : Option Addr) (n' c' : Nat) : RecAt ((w.setCell ⟨b, 0, none⟩ (.int .u64 (q' : Int))).setCell ⟨b, 1, none⟩ (.slice A' n' c')) b q' A' n' c' := by
  refine ⟨by have := h.lt; simpa [World.setCell] using this, ?_⟩
  simp only [World.setCell, Array.getElem?_modify, if_pos, h.h]
  rfl
end
theorem results_rec2 {fn : Func} {p u : Tmp} {tmps : Array Value} {w : World} {g q n c : Nat} {A : Option Addr} (h : fn.results = #[.cell p 25, .tmp u])
    (hp : tmps.getD p undef = .pointer (some ⟨g, 0, none⟩)) (hg : RecAt w g q A n c) :
    (results fn tmps).run Tryz.prog w = .ok (.tuple #[.agg #[.int .u64 (q : Int), .slice A n c], tmps.getD u undef]) w := by
  have hp' : tmps[p]?.getD undef = .pointer (some ⟨g, 0, none⟩) := by simpa using hp
  have hl := run_loadVar_row (P := Tryz.prog) w g 25 25 _ (0, 0) _ hg.h Tryz.underlying25 rfl (by kernel_rfl)
  simp [results, h, hp', asAddr, hl]
theorem ret_rec2 {fn : Func} {p u : Tmp} {R : Ending → World → Prop} {a : Act} {w : World} {g q n c : Nat} {A : Option Addr} (h : fn.results = #[.cell p 25, .tmp u]) (hd : a.defers = [])
    (hp : a.tmps.getD p undef = .pointer (some ⟨g, 0, none⟩)) (hg : RecAt w g q A n c) (hR : R (.returned (.tuple #[.agg #[.int .u64 (q : Int), .slice A n c], a.tmps.getD u undef])) w) : bodyPost Tryz.prog fn R .ret a w :=
  bodyPost_ret (results_rec2 h hp hg) hd hR
theorem below_rec2 {B : Nat} {a w : World} (h : Below B a w) {b : Nat} (hb : B ≤ b) (u v : Value) : Below B a ((w.setCell ⟨b, 0, none⟩ u).setCell ⟨b, 1, none⟩ v) := (h.setCell hb _).setCell hb _
/-- A fresh row of operations stands where a record's block is stored into. -/
theorem FrO.rec2 {w : World} {b n c : Nat} {A : Option Addr} {L : List Bop} (h : FrO w b A n c L) {g : Nat} (hg : g < b) (u v : Value) : FrO ((w.setCell ⟨g, 0, none⟩ u).setCell ⟨g, 1, none⟩ v) b A n c L := by
  have key : ∀ (w : World) (i : Nat) (u : Value), FrO w b A n c L → FrO (w.setCell ⟨g, i, none⟩ u) b A n c L := by
    intro w i u h
    obtain ⟨h1, h2⟩ := h.own
    refine ⟨h1, ?_⟩
    rcases h2 with h2 | ⟨k, cap, cur, e, hk, hh, r⟩
    · exact .inl h2
    · exact .inr ⟨k, cap, cur, e, hk, (((Below.refl g w).setCell (p := ⟨g, i, none⟩) (Nat.le_refl _) u |> fun _ => Below.heap_setCell w ⟨g, i, none⟩ u k (by simp; omega))).trans hh, r⟩
  exact key _ _ _ (key _ _ _ h)

/-- What recordAt tells. -/
structure OneAt (w' : World) (b0 : Nat) (l : List UInt8) (x : WR) (k : Nat) : Prop where
  no : k = 0 → oneL l = none
  yes : 0 < k → oneL l = some (x.r, k) ∧ FrO w' b0 x.A x.n x.c x.L
def RecPost (w : World) (l : List UInt8) (e : Ending) (w' : World) : Prop :=
  ∃ x k, e = .returned (.tuple #[wrv x, .int .i64 ((k : Nat) : Int)]) ∧ OneAt w' w.heap.size l x k ∧ Below w.heap.size w w'

section
variable {l : List UInt8} {k : Nat} {x y : List UInt8}
theorem recAt_none (hk : 4 ≤ l.length → k = min (lenL l + 8) l.length) (h : takeL (l.take k) = none) : oneL l = none := by
  rw [← oneL_near hk]; unfold oneL; rw [h]
theorem recAt_no (hk : 4 ≤ l.length → k = min (lenL l + 8) l.length) (h : takeL (l.take k) = some (x, y)) (hi : readIn x = none) : oneL l = none := by
  rw [← oneL_near hk]; unfold oneL; rw [h]; simp only [hi]
theorem recAt_yes (hk : 4 ≤ l.length → k = min (lenL l + 8) l.length) (h : takeL (l.take k) = some (x, y)) {r : Wr} (hi : readIn x = some r) : oneL l = some (r, k) ∧ 0 < k := by
  have h1 : oneL (l.take k) = some (r, x.length + 8) := by unfold oneL; rw [h]; simp only [hi]
  have h2 := h1
  rw [oneL_near hk] at h2
  have h3 := oneL_le h1
  have h4 := oneL_le h2
  obtain ⟨h5, h6⟩ := takeL_put h
  have h7 : lenL (l.take k) = x.length := by rw [← h5]; exact lenL_seal h6 y
  have h8 := hk (by omega)
  have h9 : (l.take k).length = min k l.length := List.length_take
  have h10 : lenL (l.take k) = lenL l := by
    unfold lenL
    rw [List.take_take, Nat.min_eq_left (by omega)]
  have : k = x.length + 8 := by omega
  rw [h2, this]
  exact ⟨rfl, by omega⟩
theorem in_none (h : takeN x = none) : readIn x = none := by unfold readIn; rw [h]
theorem in_no {v m : Nat} (h : takeN x = some (v, m)) (hp : parseG (x.drop m) = none) : readIn x = none := by unfold readIn; rw [h]; simp only [hp]
theorem in_un {v m : Nat} {L : List Bop} (h : takeN x = some (v, m)) (hp : parseG (x.drop m) = some L) (hs : seqB v L.length = false) : readIn x = none := by unfold readIn; rw [h]; simp [hp, hs]
theorem in_yes {v m : Nat} {L : List Bop} (h : takeN x = some (v, m)) (hp : parseG (x.drop m) = some L) (hs : seqB v L.length = true) : readIn x = some (v, L) := by unfold readIn; rw [h]; simp [hp, hs]
end
theorem parseG_nil : parseG [] = none := rfl

set_option maxHeartbeats 8000000 in
theorem recordAt_c {w : World} {B n c : Nat} {A : Option Addr} {l : List UInt8} (h : Rd w B A n c (bv l)) (hB : B ≤ w.heap.size) (hn : n ≤ 70368744000000) :
    Calls Tryz.prog 48 #[.slice A n c] w (RecPost w l) := by
  have hN := near_c (h.alloc hB (.cells #[.int .u64 0, .slice none 0 0] 25)) (by simp; omega) hn
  have hz := RecAt.new w 0 none 0 0
  have hd := h.alloc hB (.cells #[.int .u64 0, .slice none 0 0] 25)
  have HN := Lib.hid hN
  have HBw := Lib.hid hB
  have HLn := Lib.hid hn
  clear hN h hB hn
  go_enter Tryz.func48, Tryz.ntmps48
  go_wp2_with fail
  refine HN.out.mono ?_
  rintro e w1 ⟨k, rfl, hkn, hk, hb1⟩
  have hz1 := hz.below hb1 (Nat.le_refl _)
  have hd1 := (hd.below (hb1.mono (by have := HBw.out; simp; omega))).front hkn
  rw [bv_take] at hd1
  have hw1 := bon (below_alloc w _) hb1
  have HK := Lib.hid hk
  have hk64 : k ≤ 70368744000000 := by have := HLn.out; omega
  have hT := takeF_c hd1 (by have := HBw.out; have := hw1.size; omega) (by omega)
  have hki : (k : Int) ≤ 70368744000000 := by omega
  clear hz hd hb1 hk HN hd1 hkn
  cases ht : takeL (l.take k) with
  | none =>
    have HT := Lib.hid (hT.mono (fun _ _ hp => tkPost_no ht hp))
    have HO := Lib.hid (recAt_none HK.out ht)
    clear hT ht
    go_wp2_with fail
    refine HT.out.mono ?_
    rintro e w2 ⟨rfl, hb2⟩
    have hz2 := hz1.below hb2 (Nat.le_refl _)
    have hw2 := bon hw1 hb2
    obtain ⟨a0, a1⟩ := hz2.cells
    obtain ⟨g0, g1⟩ := hz2.frozen
    clear hb2
    go_wp2_with fail
    exact ret_rec2 rfl rfl rfl (hz2.store 0 none 0 0) ⟨⟨0, none, 0, 0, []⟩, 0, rfl, ⟨fun _ => HO.out, fun h => absurd h (by decide)⟩, below_rec2 hw2 (Nat.le_refl _) _ _⟩
  | some p =>
    obtain ⟨x, y⟩ := p
    have HT := Lib.hid (hT.mono (fun _ _ hp => tkPost_to ht hp))
    have HX := Lib.hid ht
    clear hT ht
    go_wp2_with fail
    refine HT.out.mono ?_
    rintro e w2 ⟨A5, n5, c5, A6, n6, c6, rfl, hf5, -, hb2⟩
    have hz2 := hz1.below hb2 (Nat.le_refl _)
    have hw2 := bon hw1 hb2
    have hx5 : x.length = n5 := by simpa using hf5.len
    have hx1 := (takeL_put HX.out).2
    have hT2 := take_c hf5.here (Nat.le_refl _) (by omega)
    clear hb2 hz1 hw1 hf5
    cases htn : takeN x with
    | none =>
      have HT2 := Lib.hid (hT2.mono (fun _ _ hp => takePost_no htn hp))
      have HO := Lib.hid (recAt_no HK.out HX.out (in_none htn))
      clear hT2 htn
      go_wp2_with fail
      refine HT2.out.mono ?_
      rintro e w3 ⟨A7, n7, c7, rfl, hf7, hb3⟩
      have hz3 := hz2.below hb3 (Nat.le_refl _)
      have hw3 := bon hw2 hb3
      obtain rfl : n7 = 0 := by have := hf7.len; simpa using this.symm
      have HP := Lib.hid (parse_n (l := []) hf7.here (by omega) parseG_nil)
      clear hb3 hz2 hw2 hf7
      go_wp2_with fail
      refine HP.out.mono ?_
      rintro e w4 ⟨A8, n8, c8, rfl, hf8, hb4⟩
      have hz4 := (hz3.below hb4 (Nat.le_refl _)).alloc (.cells #[.int .u64 0, .slice A8 n8 c8] 25)
      have hw4 := blit (bon hw3 hb4) (.cells #[.int .u64 0, .slice A8 n8 c8] 25)
      have HZ := Lib.hid hz4
      have HW := Lib.hid hw4
      clear hb4 hz3 hw3 hf8 hz4 hw4
      go_upto_region 8 with (fail)
      generalize hwz : w4.alloc (.cells #[.int .u64 0, .slice A8 n8 c8] 25) = wz at *
      clear hwz
      obtain ⟨a0, a1⟩ := HZ.out.cells
      obtain ⟨g0, g1⟩ := HZ.out.frozen
      go_wp2_with fail
      exact ret_rec2 rfl rfl rfl (HZ.out.store 0 none 0 0) ⟨⟨0, none, 0, 0, []⟩, 0, rfl, ⟨fun _ => HO.out, fun h => absurd h (by decide)⟩, below_rec2 HW.out (Nat.le_refl _) _ _⟩
    | some p =>
      obtain ⟨v, m⟩ := p
      have HT2 := Lib.hid (hT2.mono (fun _ _ hp => takePost_to ⟨htn, rfl⟩ hp))
      have hle := takeN_le htn
      have hvi : (v : Int) ≤ 18446744073709551615 := by omega
      have HTN := Lib.hid htn
      clear hT2 htn
      go_wp2_with fail
      refine HT2.out.mono ?_
      rintro e w3 ⟨A7, n7, c7, rfl, hf7, hb3⟩
      have hz3 := hz2.below hb3 (Nat.le_refl _)
      have hw3 := bon hw2 hb3
      have hn7 : n7 ≤ n5 := by have := hf7.len; simp at this; omega
      clear hb3 hz2 hw2
      cases hp : parseG (x.drop m) with
      | none =>
        have HP := Lib.hid (parse_n hf7.here (by omega) hp)
        have HO := Lib.hid (recAt_no HK.out HX.out (in_no HTN.out hp))
        clear hf7 hp hle
        go_wp2_with fail
        refine HP.out.mono ?_
        rintro e w4 ⟨A8, n8, c8, rfl, hf8, hb4⟩
        have hz4 := (hz3.below hb4 (Nat.le_refl _)).alloc (.cells #[.int .u64 (v : Int), .slice A8 n8 c8] 25)
        have hw4 := blit (bon hw3 hb4) (.cells #[.int .u64 (v : Int), .slice A8 n8 c8] 25)
        have HZ := Lib.hid hz4
        have HW := Lib.hid hw4
        clear hb4 hz3 hw3 hf8 hz4 hw4
        go_upto_region 8 with (fail)
        generalize hwz : w4.alloc (.cells #[.int .u64 (v : Int), .slice A8 n8 c8] 25) = wz at *
        clear hwz
        obtain ⟨a0, a1⟩ := HZ.out.cells
        obtain ⟨g0, g1⟩ := HZ.out.frozen
        go_wp2_with fail
        exact ret_rec2 rfl rfl rfl (HZ.out.store 0 none 0 0) ⟨⟨0, none, 0, 0, []⟩, 0, rfl, ⟨fun _ => HO.out, fun h => absurd h (by decide)⟩, below_rec2 HW.out (Nat.le_refl _) _ _⟩
      | some L =>
        have HP := Lib.hid (parse_t hf7.here (by omega) hp)
        have hL : L.length ≤ 128 := (grpB_iff.1 (parseG_iff.1 hp).1).2.1
        have HPG := Lib.hid hp
        clear hf7 hp hle
        go_wp2_with fail
        refine HP.out.mono ?_
        rintro e w4 ⟨A8, n8, c8, rfl, hf8, hb4⟩
        have hl8 := hf8.len
        have hz4 := (hz3.below hb4 (Nat.le_refl _)).alloc (.cells #[.int .u64 (v : Int), .slice A8 n8 c8] 25)
        have hr4 := RecAt.new w4 v A8 n8 c8
        have hf4 := hf8.alloc (.cells #[.int .u64 (v : Int), .slice A8 n8 c8] 25)
        have hw4 := blit (bon hw3 hb4) (.cells #[.int .u64 (v : Int), .slice A8 n8 c8] 25)
        have hw3s := hw3.size
        have hlt3 := hz3.lt
        have hs := sequenced_c (w4.alloc (.cells #[.int .u64 (v : Int), .slice A8 n8 c8] 25)) ⟨v, A8, n8, c8, L⟩ hvi (by dsimp only; omega)
        dsimp only at hs
        unfold wrv at hs
        have hlt := (hz3.below hb4 (Nat.le_refl _)).lt
        have hne : w.heap.size ≠ w4.heap.size := by omega
        clear hb4 hz3 hw3 hf8 hlt
        cases hsq : seqB v n8 with
        | false =>
          rw [hsq] at hs
          have HS := Lib.hid hs
          have HO := Lib.hid (recAt_no HK.out HX.out (in_un HTN.out HPG.out (by rw [hl8]; exact hsq)))
          clear hs hsq hl8
          go_wp2_with fail
          refine HS.out.mono ?_
          rintro e w5 ⟨rfl, hb5⟩
          have hz5 := hz4.below hb5 (Nat.le_refl _)
          have hw5 := bon hw4 hb5
          obtain ⟨a0, a1⟩ := hz5.cells
          obtain ⟨g0, g1⟩ := hz5.frozen
          clear hb5 hz4 hw4 hr4 hf4
          go_wp2_with fail
          exact ret_rec2 rfl rfl rfl (hz5.store 0 none 0 0) ⟨⟨0, none, 0, 0, []⟩, 0, rfl, ⟨fun _ => HO.out, fun h => absurd h (by decide)⟩, below_rec2 hw5 (Nat.le_refl _) _ _⟩
        | true =>
          rw [hsq] at hs
          have HS := Lib.hid hs
          have HO := Lib.hid (recAt_yes HK.out HX.out (in_yes HTN.out HPG.out (by rw [hl8]; exact hsq)))
          clear hs hsq hl8
          go_wp2_with fail
          refine HS.out.mono ?_
          rintro e w5 ⟨rfl, hb5⟩
          have hz5 := hz4.below hb5 (Nat.le_refl _)
          have hr5 := hr4.below hb5 (Nat.le_refl _)
          have hf5 := (hf4.below hb5).mono (show w.heap.size + 1 ≤ w3.heap.size by omega)
          have hw5 := bon hw4 hb5
          obtain ⟨a0, a1⟩ := hz5.cells
          obtain ⟨g0, g1⟩ := hz5.frozen
          obtain ⟨e0, e1⟩ := hr5.cells
          clear hb5 hz4 hw4 hr4 hf4
          go_wp2_with fail
          have hfin : OneAt ((w5.setCell ⟨w.heap.size, 0, none⟩ (.int .u64 (v : Int))).setCell ⟨w.heap.size, 1, none⟩ (.slice A8 n8 c8)) w.heap.size l ⟨v, A8, n8, c8, L⟩ k :=
            ⟨fun h => absurd HO.out.2 (by omega), fun _ => ⟨HO.out.1, (hf5.rec2 (by omega) _ _).mono (by omega)⟩⟩
          exact ret_rec2 rfl rfl rfl (hz5.store v A8 n8 c8) ⟨⟨v, A8, n8, c8, L⟩, k, rfl, hfin, below_rec2 hw5 (Nat.le_refl _) _ _⟩
end Go.Proofs.YthgaiimgfnbkaaaGreatDoor
