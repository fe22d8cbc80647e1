/-
  The library's Clone, Grow, Concat and Equal, of notes; Same, Whole, falls.
-/
import Derived.Test.YthgbafhfeblhaaaEdC
import Derived.Lib.AppendZerosOnto
import Derived.Laws.StructEq
namespace Go.Proofs.Ythgbafhfeblhaaa
set_option maxRecDepth 100000
open Go.RowKit Go.Shelf
set_option linter.unusedSimpArgs false
set_option linter.unusedVariables false

/-- A fresh row of notes comes back. -/
def RetM (w : World) (L : List Mt) (e : Ending) (w' : World) : Prop :=
  ∃ A n c, e = .returned (.slice A n c) ∧ FrM w' w.heap.size A n c L ∧ Below w.heap.size w w'

set_option maxRecDepth 100000 in
set_option maxHeartbeats 1000000 in
theorem mclone_c {w : World} {B n c : Nat} {A : Option Addr} {L : List Mt} (h : RdM w B A n c L) (hB : B ≤ w.heap.size) (hn : n ≤ 2932031007402) :
    Calls Try.prog 32 #[.slice A n c] w (RetM w L) := by
  have hl := h.len
  have q := fun (w : World) (a : Option Addr) (n c : Nat) => Lib.run_eql_slice_nil (P := Try.prog) w _ _ a n c 0 0 Try.underlying22
  cases A with
  | none =>
    obtain ⟨rfl, rfl⟩ := h.nil rfl
    obtain rfl : L = [] := List.eq_nil_of_length_eq_zero hl
    clear h hl
    go_enter Try.func32, Try.ntmps32
    go_wp2
    go_ret
    exact ⟨none, 0, 0, rfl, FrM.nil, Below.refl _ _⟩
  | some ad =>
    have hz := FrM.zero w (b := w.heap.size) (g := w.heap.size) rfl (Nat.le_refl _)
    have hr := h.below (below_alloc w (.cells #[] 47)) hB
    clear hl h
    go_enter Try.func32, Try.ntmps32
    go_wp2_with (at_builtin; refine wpList_appM rfl (.tmp 5) (.tmp 6) rfl rfl hz rfl hr (by omega) (by simp) ?_; intro A' c' w' hap)
    go_ret
    exact ⟨A', _, c', rfl, by simpa using hap.fr, (below_alloc w _).trans hap.below⟩

set_option maxRecDepth 100000 in
set_option maxHeartbeats 4000000 in
/-- Of the nil slice: an empty row with room. -/
theorem mgrow_c (w : World) {n : Nat} (hn : n ≤ 1000000) :
    Calls Try.prog 43 #[.slice none 0 0, .int .i64 (n : Int)] w (RetM w []) := by
  by_cases h0 : 0 < n
  · obtain ⟨i, hi, hz0, hz1, hz2⟩ := info_parts info_mt
    have hold : (Builtin.firstCells i.size 0 (.slice none 0 0)).run Try.prog w.drew = .ok ([] : List Value).toArray w.drew := run_firstCells_none w.drew i.size 0 0 0
    have hfit : Builtin.nextslicecap (0 + n) 0 * i.bytes ≤ 281474976710656 := growslice_fits (by omega) (by rw [hz2]; omega)
    obtain ⟨z, hz⟩ : ∃ z, z = (Value.agg #[.int .u64 0, .int .u64 0, .string ⟨#[]⟩, .string ⟨#[]⟩]) := ⟨_, rfl⟩
    rw [← hz] at hz0
    have hrz : ∀ ty, (Builtin.append_ #[22, 3] ty #[.slice none 0 0, .int .i64 (n : Int)]).run Try.prog w =
        .ok (.slice (some ⟨w.heap.size, 0, none⟩) n (grownCap w (0 + n) 0 47)) (w.drew.alloc (.cells (([] : List Value).toArray ++ Builtin.zeroCells z.cells n ++ Builtin.zeroCells z.cells (grownCap w (0 + n) 0 47 - (0 + n))) 47)) := fun ty => by
      have h := Lib.run_append_grow_zeros w 22 3 ty 47 i z .i64 .i64 Try.underlying22 Try.underlying3 hi hz0 none 0 0 [] hold n h0 (by omega) (by omega) (by omega) (by rw [hz2]; omega) hfit
      rw [Nat.zero_add] at h ⊢
      exact h
    have hge : 0 + n ≤ grownCap w (0 + n) 0 47 := grownCap_ge w _ _ _
    have hle : grownCap w (0 + n) 0 47 ≤ maxLen := grownCap_le_maxLen w (0 + n) 0 47 (by unfold maxLen; omega)
    obtain ⟨G, hG⟩ : ∃ G, G = grownCap w (0 + n) 0 47 := ⟨_, rfl⟩
    obtain ⟨cur, hcur⟩ : ∃ cur, cur = (([] : List Value).toArray ++ Builtin.zeroCells z.cells n ++ Builtin.zeroCells z.cells (G - (0 + n))) := ⟨_, rfl⟩
    have hcs : cur.size = G * 4 := by
      rw [hcur, hz]
      simp [Builtin.zeroCells, Value.cells]
      omega
    rw [← hG] at hrz hge hle
    rw [← hcur] at hrz
    have hfr : FrM (w.drew.alloc (.cells cur 47)) w.heap.size (some ⟨w.heap.size, 0, none⟩) 0 G [] :=
      ⟨⟨rfl, .inr ⟨w.heap.size, G, cur, rfl, Nat.le_refl _, heap_alloc_new w.drew _, Nat.zero_le _, hle, by rw [hcs], by simp [mvs]⟩⟩⟩
    have HF := Lib.hid hfr
    have hb : Below w.heap.size w (w.drew.alloc (.cells cur 47)) := ((below_drewN (Below.refl _ _) 1) : Below w.heap.size w w.drew).alloc (Nat.le_refl _) _
    have HB := Lib.hid hb
    have hni : (0 : Int) < (n : Int) := by omega
    have hw0 : IntKind.i64.wrap (n : Int) = (n : Int) := wrapi _ (by omega) (by omega)
    have hGi : (G : Int) ≤ 9223372036854775807 := by unfold maxLen at hle; omega
    have hG0 : (0 : Int) ≤ (G : Int) := by omega
    clear hfr hb hcs hcur hG hold hfit hi hz0 hz1 hz2 hn hz
    go_enter Try.func43, Try.ntmps43
    go_wp2_with (at_builtin; refine Lib.wpList_append_run _ rfl _ _ _ _ rfl _ _ rfl rfl _ _ (hrz _) ?_)
    all_goals go_ret
    all_goals exact ⟨_, _, _, rfl, HF.out, HB.out⟩
  · obtain rfl : n = 0 := by omega
    go_enter Try.func43, Try.ntmps43
    go_wp2_with fail
    all_goals go_ret
    all_goals exact ⟨none, 0, 0, rfl, FrM.nil, Below.refl _ _⟩

set_option maxRecDepth 100000 in
set_option maxHeartbeats 4000000 in
theorem mconcat_c {w : World} {g : Nat} {A1 A2 : Option Addr} {n1 c1 n2 c2 B : Nat} {x y : List Mt} (hh : w.heap[g]? = some (.cells #[.slice A1 n1 c1, .slice A2 n2 c2] 22 (0, 0))) (ha : RdM w B A1 n1 c1 x) (hb : RdM w B A2 n2 c2 y) (hB : B ≤ w.heap.size)
    (h1 : n1 ≤ 100000) (h2 : n2 ≤ 100000) :
    Calls Try.prog 33 #[.slice (some ⟨g, 0, none⟩) 2 2] w (RetM w (x ++ y)) := by
  have hlt : g < w.heap.size := (Array.getElem?_eq_some_iff.1 hh).1
  have hcell : ∀ W, Below w.heap.size w W → W.cell? ⟨g, 0, none⟩ = some (.slice A1 n1 c1) ∧ W.cell? ⟨g, 1, none⟩ = some (.slice A2 n2 c2) := fun W hW => by
    have : W.heap[g]? = some (.cells #[.slice A1 n1 c1, .slice A2 n2 c2] 22 (0, 0)) := by rw [hW.block g hlt]; exact hh
    constructor <;> (simp only [World.cell?, this]; rfl)
  obtain ⟨c0, c1'⟩ := hcell w (Below.refl _ _)
  have HC := Lib.hid hcell
  have hai : (n1 : Int) ≤ 100000 := by omega
  have hbi : (n2 : Int) ≤ 100000 := by omega
  have hn0 : ¬ ((n1 : Int) < 0) := by omega
  have hn1 : ¬ ((n1 : Int) + (n2 : Int) < 0) := by omega
  have HG := Lib.hid (mgrow_c w (n := n1 + n2) (by omega))
  have e1 : (((n1 + n2 : Nat)) : Int) = (n1 : Int) + (n2 : Int) := by omega
  rw [e1] at HG
  have HA := Lib.hid ha
  have HB := Lib.hid hb
  clear ha hb e1 hh hcell
  go_enter Try.func33, Try.ntmps33
  go_wp2_with fail
  refine wp_loop_rounds 3 ?_
  rw [rounds_succ]
  go_wp2_with fail
  rw [rounds_succ]
  go_wp2_with fail
  rw [rounds_succ]
  go_wp2_with fail
  refine HG.out.mono ?_
  rintro e w1 ⟨A0, n0, k0, rfl, hf1, hb1⟩
  obtain rfl : n0 = 0 := by have := hf1.len; simpa using this.symm
  obtain ⟨d0, d1⟩ := HC.out w1 hb1
  clear c0 c1'
  have s1 := hb1.size
  go_wp2_with fail
  refine wp_loop_rounds 3 ?_
  rw [rounds_succ]
  go_wp2_with (at_builtin; refine wpList_appM rfl (.tmp 31) (.tmp 32) rfl rfl hf1 rfl (HA.out.below hb1 hB) (by omega) s1 ?_; intro A4 k2 w2 hap2; rw [Nat.zero_add] at hap2)
  have hb2 := hb1.trans hap2.below
  obtain ⟨q0, q1⟩ := HC.out w2 hb2
  have s2 := hb2.size
  have hf2 := hap2.fr
  clear d0 d1 hap2
  rw [rounds_succ]
  go_wp2_with (at_builtin; refine wpList_appM rfl (.tmp 31) (.tmp 32) rfl rfl hf2 rfl (HB.out.below hb2 hB) (by omega) s2 ?_; intro A3 k3 w3 hap3)
  have hb3 := hb2.trans hap3.below
  have HF := Lib.hid hap3.fr
  have HB4 := Lib.hid hb3
  clear q0 q1 hap3 hf2 hf1 hb3 hb2 hb1
  rw [rounds_succ]
  go_wp2_with fail
  go_ret
  exact ⟨_, _, _, rfl, by simpa using HF.out, HB4.out⟩

/-- One note held against another one. -/
def sameM (x y : Mt) : Bool := decide (x.n = y.n ∧ x.z = y.z ∧ x.s = y.s ∧ x.t = y.t)
theorem sameM_eq (x y : Mt) : sameM x y = true ↔ x = y := by
  obtain ⟨a, b, c, d⟩ := x
  obtain ⟨a', b', c', d'⟩ := y
  simp [sameM]
set_option maxRecDepth 100000 in
theorem run_eq_mt (W : World) (x y : Mt) :
    (Op.equalIn 10000 47 (.agg #[.int .u64 (x.n : Int), .int .u64 (x.z : Int), .string x.s, .string x.t]) (.agg #[.int .u64 (y.n : Int), .int .u64 (y.z : Int), .string y.s, .string y.t])).run Try.prog W = .ok (sameM x y) W := by
  have hs : ∀ s t : ByteArray, (s.toList == t.toList) = decide (s = t) := fun s t => by
    rw [Bool.eq_iff_iff]
    simp only [beq_iff_eq, decide_eq_true_eq]
    constructor
    · intro h
      rw [Lib.toList_data, Lib.toList_data] at h
      have h2 := Array.ext' h
      cases s; cases t; simp_all
    · rintro rfl; rfl
  rw [show (10000 : Nat) = 9998 + 1 + 1 from rfl, run_equalIn_agg W (9998 + 1) 47 _ _ (by kernel_rfl) (by kernel_rfl)]
  obtain ⟨fs, hfs⟩ : ∃ fs, (Try.prog.fieldsOf 47).toList = fs := ⟨_, rfl⟩
  rw [hfs]
  have h2 := Try.underlying47
  have h3 := hfs
  unfold Program.fieldsOf at h3
  rw [h2] at h3
  simp only at h3
  subst h3
  simp only [Op.eqFields]
  have pt : ∀ v : Mt, (part 23 #[Value.int .u64 (v.n : Int), .int .u64 (v.z : Int), .string v.s, .string v.t] 0).run Try.prog W = .ok (.int .u64 (v.n : Int)) W ∧
      (part 23 #[Value.int .u64 (v.n : Int), .int .u64 (v.z : Int), .string v.s, .string v.t] 1).run Try.prog W = .ok (.int .u64 (v.z : Int)) W ∧
      (part 9 #[Value.int .u64 (v.n : Int), .int .u64 (v.z : Int), .string v.s, .string v.t] 2).run Try.prog W = .ok (.string v.s) W ∧
      (part 9 #[Value.int .u64 (v.n : Int), .int .u64 (v.z : Int), .string v.s, .string v.t] 3).run Try.prog W = .ok (.string v.t) W := fun v => ⟨by kernel_rfl, by kernel_rfl, by kernel_rfl, by kernel_rfl⟩
  obtain ⟨a0, a1, a2, a3⟩ := pt x
  obtain ⟨b0, b1, b2, b3⟩ := pt y
  have e0 := run_equalIn_int (P := Try.prog) W 9998 23 .u64 _ (x.n : Int) (y.n : Int) Try.underlying23
  have e1 := run_equalIn_int (P := Try.prog) W 9998 23 .u64 _ (x.z : Int) (y.z : Int) Try.underlying23
  have e2 := run_equalIn_string (P := Try.prog) W 9998 9 x.s y.s Try.underlying9
  have e3 := run_equalIn_string (P := Try.prog) W 9998 9 x.t y.t Try.underlying9
  rw [if_pos (by decide), if_pos (by decide), if_pos (by decide), if_pos (by decide)]
  rw [hs] at e2 e3
  rw [show ((x.n : Int) == (y.n : Int)) = decide (x.n = y.n) by rw [Bool.eq_iff_iff]; simp; omega] at e0
  rw [show ((x.z : Int) == (y.z : Int)) = decide (x.z = y.z) by rw [Bool.eq_iff_iff]; simp; omega] at e1
  have hgoal : sameM x y = if !decide (x.n = y.n) then false else if !decide (x.z = y.z) then false else if !decide (x.s = y.s) then false else if !decide (x.t = y.t) then false else true := by
    unfold sameM
    by_cases h0 : x.n = y.n <;> by_cases h1 : x.z = y.z <;> by_cases h2 : x.s = y.s <;> by_cases h3 : x.t = y.t <;> simp [h0, h1, h2, h3]
  rw [hgoal]
  simp only [Sem.run_bind, a0, b0, e0, Result.andThen_ok, Sem.run_ite, a1, b1, e1, a2, b2, e2, a3, b3, e3, Sem.run_pure]
  cases decide (x.n = y.n) <;> cases decide (x.z = y.z) <;> cases decide (x.s = y.s) <;> cases decide (x.t = y.t) <;> rfl
end Go.Proofs.Ythgbafhfeblhaaa
