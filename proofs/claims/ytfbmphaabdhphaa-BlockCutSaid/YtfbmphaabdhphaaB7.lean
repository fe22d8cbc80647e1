/-
  The library's Grow of nothing, and Concat of three rows of bytes.
-/
import Derived.Test.YtfbmphaabdhphaaB6
import Derived.Lib.AppendZerosOnto
namespace Go.Proofs.Ytfbmphaabdhphaa
set_option maxRecDepth 100000
open Go.RowKit Go.Shelf
set_option linter.unusedVariables false

set_option maxRecDepth 100000 in
set_option maxHeartbeats 4000000 in
/-- Of the nil slice: an empty row with room. -/
theorem grow_c (w : World) {n : Nat} (h0 : 0 < n) (hn : n ≤ 1000000) :
    Calls Try.prog 54 #[.slice none 0 0, .int .i64 (n : Int)] w (RetB w []) := by
  obtain ⟨i, hi, hz0, hz1, hz2⟩ := info_parts info_u8
  have hold : (Builtin.firstCells i.size 0 (.slice none 0 0)).run Try.prog w.drew = .ok ([] : List Value).toArray w.drew := run_firstCells_none w.drew i.size 0 0 0
  have hfit : Builtin.nextslicecap (0 + n) 0 * i.bytes ≤ 281474976710656 := growslice_fits (by omega) (by rw [hz2]; omega)
  have hrz : ∀ ty, (Builtin.append_ #[23, 3] ty #[.slice none 0 0, .int .i64 (n : Int)]).run Try.prog w =
      .ok (.slice (some ⟨w.heap.size, 0, none⟩) n (grownCap w (0 + n) 0 5)) (w.drew.alloc (.cells (([] : List Value).toArray ++ Builtin.zeroCells (Value.int .u8 0).cells n ++ Builtin.zeroCells (Value.int .u8 0).cells (grownCap w (0 + n) 0 5 - (0 + n))) 5)) := fun ty => by
    have h := Lib.run_append_grow_zeros w 23 3 ty 5 i (.int .u8 0) .i64 .i64 Try.underlying23 Try.underlying3 hi hz0 none 0 0 [] hold n h0 (by omega) (by omega) (by omega) (by rw [hz2]; omega) hfit
    rw [Nat.zero_add] at h ⊢
    exact h
  have hge : 0 + n ≤ grownCap w (0 + n) 0 5 := grownCap_ge w _ _ _
  have hle : grownCap w (0 + n) 0 5 ≤ maxLen := grownCap_le_maxLen w (0 + n) 0 5 (by unfold maxLen; omega)
  obtain ⟨G, hG⟩ : ∃ G, G = grownCap w (0 + n) 0 5 := ⟨_, rfl⟩
  obtain ⟨cur, hcur⟩ : ∃ cur, cur = (([] : List Value).toArray ++ Builtin.zeroCells (Value.int .u8 0).cells n ++ Builtin.zeroCells (Value.int .u8 0).cells (G - (0 + n))) := ⟨_, rfl⟩
  have hcs : cur.size = G := by
    rw [hcur]
    simp [Builtin.zeroCells, Value.cells]
    omega
  rw [← hG] at hrz hge hle
  rw [← hcur] at hrz
  have hfr : Fr (w.drew.alloc (.cells cur 5)) w.heap.size 5 (some ⟨w.heap.size, 0, none⟩) 0 G (bv []) :=
    ⟨⟨rfl, .inr ⟨w.heap.size, G, cur, rfl, Nat.le_refl _, heap_alloc_new w.drew _, Nat.zero_le _, hle, by rw [hcs]; omega, by simp [bv]⟩⟩⟩
  have HF := Lib.hid hfr
  have hb : Below w.heap.size w (w.drew.alloc (.cells cur 5)) := ((below_drewN (Below.refl _ _) 1) : Below w.heap.size w w.drew).alloc (Nat.le_refl _) _
  have HB := Lib.hid hb
  have hni : (0 : Int) < (n : Int) := by omega
  have hw0 : IntKind.i64.wrap (n : Int) = (n : Int) := wrapi _ (by omega) (by omega)
  have hGi : (G : Int) ≤ 9223372036854775807 := by unfold maxLen at hle; omega
  have hG0 : (0 : Int) ≤ (G : Int) := by omega
  clear hfr hb hcs hcur hG hold hfit hi hz0 hz1 hz2 hn
  go_enter Try.func54, Try.ntmps54
  go_wp2_with (at_builtin; refine Lib.wpList_append_run _ rfl _ _ _ _ rfl _ _ rfl rfl _ _ (hrz _) ?_)
  all_goals go_ret
  all_goals exact ⟨_, _, _, rfl, HF.out, HB.out⟩

/-- Rows of bytes one behind the other: three. -/
structure Rows3 (w : World) (g : Nat) (a b c : Row) : Prop where
  lt : g < w.heap.size
  h : w.heap[g]? = some (.cells #[a.v, b.v, c.v] 23 (0, 0))
theorem Rows3.cells {w : World} {g : Nat} {a b c : Row} (h : Rows3 w g a b c) : w.cell? ⟨g, 0, none⟩ = some (.slice a.A a.n a.c) ∧ w.cell? ⟨g, 1, none⟩ = some (.slice b.A b.n b.c) ∧ w.cell? ⟨g, 2, none⟩ = some (.slice c.A c.n c.c) := by
  refine ⟨?_, ?_, ?_⟩ <;> (simp only [World.cell?, h.h]; rfl)
theorem Rows3.below {w w' : World} {g : Nat} {a b c : Row} (h : Rows3 w g a b c) {B : Nat} (hg : g < B) (hb : Below B w w') : Rows3 w' g a b c :=
  ⟨by have := h.lt; have := hb.size; omega, by rw [hb.block g hg]; exact h.h⟩
theorem Rows3.new (w : World) (a b c : Row) : Rows3 (w.alloc (.cells #[a.v, b.v, c.v] 23)) w.heap.size a b c := ⟨by simp, heap_alloc_new w _⟩

set_option maxRecDepth 100000 in
set_option maxHeartbeats 4000000 in
theorem concat_c {w : World} {g : Nat} {a b c : Row} {x y z : List UInt8} (h : Rows3 w g a b c) (ha : Rd w w.heap.size a.A a.n a.c (bv x)) (hb : Rd w w.heap.size b.A b.n b.c (bv y)) (hc : Rd w w.heap.size c.A c.n c.c (bv z))
    (h1 : x.length ≤ 100000) (h2 : y.length ≤ 100000) (h3 : z.length ≤ 100000) (hp : 0 < z.length) :
    Calls Try.prog 40 #[.slice (some ⟨g, 0, none⟩) 3 3] w (RetB w (x ++ (y ++ z))) := by
  have la : x.length = a.n := by simpa using ha.len
  have lb : y.length = b.n := by simpa using hb.len
  have lc : z.length = c.n := by simpa using hc.len
  rw [la] at h1
  rw [lb] at h2
  rw [lc] at h3 hp
  have hlt := h.lt
  obtain ⟨c0, c1, c2⟩ := h.cells
  have hai : (a.n : Int) ≤ 100000 := by omega
  have hbi : (b.n : Int) ≤ 100000 := by omega
  have hci : (c.n : Int) ≤ 100000 := by omega
  have hn0 : ¬ ((a.n : Int) < 0) := by omega
  have hn1 : ¬ ((a.n : Int) + (b.n : Int) < 0) := by omega
  have hn2 : ¬ ((a.n : Int) + (b.n : Int) + (c.n : Int) < 0) := by omega
  have HG := Lib.hid (grow_c w (n := a.n + b.n + c.n) (by omega) (by omega))
  have e1 : (((a.n + b.n + c.n : Nat)) : Int) = (a.n : Int) + (b.n : Int) + (c.n : Int) := by omega
  rw [e1] at HG
  have HA := Lib.hid ha
  have HB := Lib.hid hb
  have HC := Lib.hid hc
  have HR := Lib.hid h
  clear ha hb hc la lb lc hp e1 h
  go_enter Try.func40, Try.ntmps40
  go_wp2_with fail
  refine wp_loop_rounds 4 ?_
  rw [rounds_succ]
  go_wp2_with fail
  rw [rounds_succ]
  go_wp2_with fail
  rw [rounds_succ]
  go_wp2_with fail
  rw [rounds_succ]
  go_wp2_with fail
  refine HG.out.mono ?_
  rintro e w1 ⟨A1, n1, k1, rfl, hf1, hb1⟩
  obtain rfl : n1 = 0 := by have := hf1.len; simpa using this.symm
  have hr1 := HR.out.below hlt hb1
  obtain ⟨d0, d1, d2⟩ := hr1.cells
  clear c0 c1 c2
  have s1 := hb1.size
  go_wp2_with fail
  refine wp_loop_rounds 4 ?_
  rw [rounds_succ]
  go_wp2_with (at_builtin; refine wpList_app rfl (.tmp 31) (.tmp 32) _ rfl Try.underlying23 info_u8 rfl rfl hf1 rfl (HA.out.now hb1) (bv_one _) (by omega) (by omega) s1 ?_; intro A2 k2 w2 hap2; rw [Nat.zero_add] at hap2)
  have hb2 := hb1.trans hap2.below
  have hr2 := HR.out.below hlt hb2
  obtain ⟨q0, q1, q2⟩ := hr2.cells
  have s2 := hb2.size
  have hf2 := hap2.fr
  clear d0 d1 d2 hap2
  rw [rounds_succ]
  go_wp2_with (at_builtin; refine wpList_app rfl (.tmp 31) (.tmp 32) _ rfl Try.underlying23 info_u8 rfl rfl hf2 rfl (HB.out.now hb2) (bv_one _) (by omega) (by omega) s2 ?_; intro A3 k3 w3 hap3)
  have hb3 := hb2.trans hap3.below
  have hr3 := HR.out.below hlt hb3
  obtain ⟨t0, t1, t2⟩ := hr3.cells
  have s3 := hb3.size
  have hf3 := hap3.fr
  clear q0 q1 q2 hap3
  rw [rounds_succ]
  go_wp2_with (at_builtin; refine wpList_app rfl (.tmp 31) (.tmp 32) _ rfl Try.underlying23 info_u8 rfl rfl hf3 rfl (HC.out.now hb3) (bv_one _) (by omega) (by omega) s3 ?_; intro A4 k4 w4 hap4)
  have hb4 := hb3.trans hap4.below
  have hf4 := hap4.fr
  clear t0 t1 t2 hap4
  have HF := Lib.hid hf4
  have HB4 := Lib.hid hb4
  clear hf4 hf3 hf2 hf1 hb4 hb3 hb2 hb1 hr1 hr2 hr3
  rw [rounds_succ]
  go_wp2_with fail
  go_ret
  refine ⟨_, _, _, rfl, ?_, HB4.out⟩
  have hf := HF.out
  rw [bv_append, bv_append]
  simpa only [show bv [] = [] from rfl, List.nil_append, List.append_assoc] using hf
end Go.Proofs.Ytfbmphaabdhphaa
