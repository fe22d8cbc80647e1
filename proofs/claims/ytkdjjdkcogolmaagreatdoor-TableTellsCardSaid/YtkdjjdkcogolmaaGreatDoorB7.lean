/-
  The texts B6, B7, in one.
-/
import Derived.Test.YtkdjjdkcogolmaaGreatDoorB5
import Derived.Test.YtkdjjdkcogolmaaGreatDoorIter4
import Derived.Lib.AppendZerosOnto
section
/-
  The form that grows: the contracts of restart and sharing.
-/
namespace Go.Proofs.YtkdjjdkcogolmaaGreatDoor
set_option maxRecDepth 100000
open Go.RowKit Go.Shelf
set_option linter.unusedVariables false

theorem wrap32 (x : Int) (h0 : 0 ≤ x) (h1 : x ≤ 4294967295) : IntKind.u32.wrap x = x := by
  simp [IntKind.wrap, IntKind.bits, IntKind.signed]; omega
def WPost (w : World) (g : Nat) (E P : List UInt8) (s : ByteArray) (e : Ending) (w' : World) : Prop :=
  e = .returned (.tuple #[]) ∧ ∃ r1 r2 : Row, WrAt w' g r1 r2 E P s ∧ Below g w w'
def PutAt2 (w : World) (g : Nat) (r1 : Row) (E P : List UInt8) (s : ByteArray) (b : Nat) (x : Ent) (wx : World) : Prop :=
  ∃ r2 : Row, WrAt wx g r1 r2 E P s ∧ EnAt wx b x ∧ Below g w wx
theorem PutAt2.of {w w2 w3 : World} {g b : Nat} {r1 r2 : Row} {E P T : List UInt8} {s : ByteArray} {x : Ent} {A : Option Addr} {n2 c' : Nat} (H2 : WrAt w2 g r1 r2 E P s) (E2 : EnAt w2 b x) (B0 : Below g w w2)
    (hap : App w2 w3 (g + 1) 5 (.slice r2.A r2.n r2.c) A (r2.n + n2) c' (bv P ++ bv T)) (hne : b ≠ g) : PutAt2 w g r1 E (P ++ T) s b x (w3.setCell ⟨g, 1, none⟩ (.slice A (r2.n + n2) c')) :=
  ⟨⟨A, r2.n + n2, c'⟩, (H2.put2 hap).1, E2.grown H2.f2 hap.grown hne 1 _, B0.trans (H2.put2 hap).2⟩
set_option maxRecDepth 100000 in
set_option maxHeartbeats 4000000 in
theorem wrestart_c {w : World} {g : Nat} {r1 r2 : Row} {E P : List UInt8} {s : ByteArray} (h : WrAt w g r1 r2 E P s) {x : Ent} (hx : entB x = true) (hE : E.length ≤ 90000) (hP : P.length ≤ 1000) :
    Calls Tryz.prog 120 #[.pointer (some ⟨g, 0, none⟩), en x.s x.q x.k x.v] w (WPost w g (E ++ entL 0 x) (P ++ fourL E.length) x.s) := by
  have hlt := h.lt
  have hwg : w.heap.size ≠ g := by omega
  have hl1 : E.length = r1.n := by have := h.f1.len; simpa using this
  have h0 : WrAt (w.alloc (.cells #[.string x.s, .int .u64 (x.q : Int), .int .u8 (x.k : Int), .string x.v] 40)) g r1 r2 E P s := h.alloc _
  have e0 := EnAt.new w x
  have b0 : Below g w (w.alloc (.cells #[.string x.s, .int .u64 (x.q : Int), .int .u8 (x.k : Int), .string x.v] 40)) := (below_alloc w _).mono (by omega)
  have hw1 : IntKind.u32.wrap (r1.n : Int) = (r1.n : Int) := wrap32 _ (by omega) (by omega)
  have HP1 := Lib.hid fun W => putFour_c (w := W) (B := 0) (l := []) Rd.nilv (Nat.zero_le _) (by decide) (r1.n : Int) (by omega) (by omega)
  have n1 : ([] ++ fourL (r1.n : Int).toNat : List UInt8) = fourL r1.n := by rw [Int.toNat_natCast, List.nil_append]
  simp only [n1] at HP1
  have HPUT := Lib.hid fun W r2' P' (hh : WrAt W g r1 r2' E P' s) => wput_c hh hx (n := 0) (by omega) (by omega)
  unfold en at HPUT
  simp only [Int.natCast_zero] at HPUT
  have hr2 : r2.n ≤ 1000 := ret_len h.f2 hP
  have HL1 := Lib.hid (Nat.le_of_eq (fourL_len r1.n))
  rw [hl1]
  have HE := Lib.hid hE
  clear n1 hx hE hP h hl1
  unfold en
  go_enter Tryz.func120, Tryz.ntmps120
  obtain ⟨x0, x1, x2⟩ := h0.cells
  go_upto_region 2 with (fail)
  generalize hwa : w.alloc (.cells #[.string x.s, .int .u64 (x.q : Int), .int .u8 (x.k : Int), .string x.v] 40) = wa at *
  clear hwa
  go_cut [] from 11 to 20 (fun wx => PutAt2 w g r1 E (P ++ fourL r1.n) s w.heap.size x wx)
  case first =>
    clear x0 x1 x2
    obtain ⟨x0, x1, x2⟩ := h0.drew.cells
    obtain ⟨y0, y1, y2, y3⟩ := e0.drew.cells
    have H0 := Lib.hid h0.drew
    have E0 := Lib.hid e0.drew
    have B0 := Lib.hid (Below.drew b0)
    clear h0 e0 b0
    go_region_law (first
      | (refine step_app rfl (.tmp 15) (.tmp 17) rfl H2.out.f2 (by rfl) (HF2.out.rd (Nat.le_refl _)) (by rfl) (bv_one _) (by omega) H2.out.lt ?_; intro A' c' w3 hap; obtain ⟨⟨z0, z1, z2⟩, t0, t1, t2⟩ := H2.out.far hap.grown H2.out.ne2; have HPA := Lib.hid (PutAt2.of (T := fourL r1.n) H2.out E2.out B2.out hap hwg); clear hap)
      | (go_simp; go_at_call 78; refine (HP1.out _).mono ?_; rintro e w2 ⟨A2, n2, c2, rfl, hf2, hb2⟩; have hn2 := ret_len hf2 HL1.out; have H2 := Lib.hid (H0.out.below hb2); have E2 := Lib.hid (E0.out.below hb2); have B2 := Lib.hid (B0.out.trans (hb2.mono (Nat.le_of_lt H0.out.lt))); have HF2 := Lib.hid hf2; obtain ⟨x0, x1, x2⟩ := H2.out.cells; obtain ⟨y0, y1, y2, y3⟩ := E2.out.cells; clear hb2 hf2))
    all_goals (go_wp2_with fail; go_meet; exact HPA.out)
  case rest =>
  obtain ⟨rb, h2, e2, b2⟩ := hcut
  clear x0 x1 x2 h0 e0 b0 HP1
  obtain ⟨y0, y1, y2, y3⟩ := e2.cells
  have HC := Lib.hid (HPUT.out _ _ _ h2)
  have HB := Lib.hid b2
  clear h2 e2 b2 HPUT
  go_wp2_with fail
  refine HC.out.mono ?_
  rintro e w4 ⟨rfl, r1', h4, b4⟩
  go_wp2_with fail
  first | refine bodyPost_end (results_none rfl _ _ _) rfl ?_ | refine bodyPost_ret (results_none rfl _ _ _) rfl ?_
  exact ⟨rfl, r1', rb, h4, HB.out.trans b4⟩
set_option maxRecDepth 100000 in
set_option maxHeartbeats 4000000 in
theorem wsharing_c {w : World} {g : Nat} {r1 r2 : Row} {E P : List UInt8} {s : ByteArray} (h : WrAt w g r1 r2 E P s) (hs : s.size ≤ 64) {x : Ent} (hx : entB x = true) (hE : E.length ≤ 90000) :
    Calls Tryz.prog 119 #[.pointer (some ⟨g, 0, none⟩), en x.s x.q x.k x.v] w (WPost w g (E ++ entL (com s x.s) x) P x.s) := by
  have hlt := h.lt
  have hxs := (entB_parts hx).2.1
  have h0 : WrAt (w.alloc (.cells #[.string x.s, .int .u64 (x.q : Int), .int .u8 (x.k : Int), .string x.v] 40)) g r1 r2 E P s := h.alloc _
  have e0 := EnAt.new w x
  have b0 : Below g w (w.alloc (.cells #[.string x.s, .int .u64 (x.q : Int), .int .u8 (x.k : Int), .string x.v] 40)) := (below_alloc w _).mono (by omega)
  have HC1 := Lib.hid fun W => common_c W s x.s (by omega) (by omega)
  have HPUT := Lib.hid fun W (hh : WrAt W g r1 r2 E P s) => wput_c hh hx (n := com s x.s) (com_le s x.s).2 (by omega)
  unfold en at HPUT
  clear hx hE hs hxs h
  unfold en
  go_enter Tryz.func119, Tryz.ntmps119
  go_upto_region 1 with (fail)
  generalize hwa : w.alloc (.cells #[.string x.s, .int .u64 (x.q : Int), .int .u8 (x.k : Int), .string x.v] 40) = wa at *
  clear hwa
  obtain ⟨x0, x1, x2⟩ := h0.drew.cells
  obtain ⟨y0, y1, y2, y3⟩ := e0.drew.cells
  have H0 := Lib.hid h0.drew
  have E0 := Lib.hid e0.drew
  have B0 := Lib.hid (Below.drew b0)
  clear h0 e0 b0
  go_region_law (first
    | (go_simp; go_at_call 134; refine (HC1.out _).mono ?_; rintro e w2 ⟨rfl, q2, hq2⟩; have hb2 : Below wa.drew.heap.size wa.drew w2 := (by rw [hq2]; exact below_drewN (Below.refl _ _) q2); have H2 := Lib.hid (H0.out.below hb2); have E2 := Lib.hid (E0.out.below hb2); have B2 := Lib.hid (B0.out.trans (hb2.mono (Nat.le_of_lt H0.out.lt))); obtain ⟨x0, x1, x2⟩ := H2.out.cells; obtain ⟨y0, y1, y2, y3⟩ := E2.out.cells; clear hb2 hq2)
    | (go_simp; go_at_call 133; refine (HPUT.out _ H2.out).mono ?_; rintro e w4 ⟨rfl, r1', h4, b4⟩))
  all_goals (
    go_wp2_with fail
    first | refine bodyPost_end (results_none rfl _ _ _) rfl ?_ | refine bodyPost_ret (results_none rfl _ _ _) rfl ?_
    exact ⟨rfl, r1', r2, h4, B2.out.trans b4⟩)
end Go.Proofs.YtkdjjdkcogolmaaGreatDoor
end

section
/-
  The library's Grow of nothing, and Concat of three rows of bytes.
-/
namespace Go.Proofs.YtkdjjdkcogolmaaGreatDoor
set_option maxRecDepth 100000
open Go.RowKit Go.Shelf
set_option linter.unusedVariables false

set_option maxRecDepth 100000 in
set_option maxHeartbeats 4000000 in
/-- Of the nil slice: an empty row with room. -/
theorem grow_c (w : World) {n : Nat} (h0 : 0 < n) (hn : n ≤ 100000000) :
    Calls Tryz.prog 77 #[.slice none 0 0, .int .i64 (n : Int)] w (RetB w []) := by
  obtain ⟨i, hi, hz0, hz1, hz2⟩ := info_parts info_u8
  have hold : (Builtin.firstCells i.size 0 (.slice none 0 0)).run Tryz.prog w.drew = .ok ([] : List Value).toArray w.drew := run_firstCells_none w.drew i.size 0 0 0
  have hfit : Builtin.nextslicecap (0 + n) 0 * i.bytes ≤ 281474976710656 := growslice_fits (by omega) (by rw [hz2]; omega)
  have hrz : ∀ ty, (Builtin.append_ #[24, 3] ty #[.slice none 0 0, .int .i64 (n : Int)]).run Tryz.prog w =
      .ok (.slice (some ⟨w.heap.size, 0, none⟩) n (grownCap w (0 + n) 0 5)) (w.drew.alloc (.cells (([] : List Value).toArray ++ Builtin.zeroCells (Value.int .u8 0).cells n ++ Builtin.zeroCells (Value.int .u8 0).cells (grownCap w (0 + n) 0 5 - (0 + n))) 5)) := fun ty => by
    have h := Lib.run_append_grow_zeros w 24 3 ty 5 i (.int .u8 0) .i64 .i64 Tryz.underlying24 Tryz.underlying3 hi hz0 none 0 0 [] hold n h0 (by omega) (by omega) (by omega) (by rw [hz2]; omega) hfit
    rw [Nat.zero_add] at h ⊢
    exact h
  have hge : 0 + n ≤ grownCap w (0 + n) 0 5 := grownCap_ge w _ _ _
  have hle : grownCap w (0 + n) 0 5 ≤ maxLen := grownCap_le_maxLen w (0 + n) 0 5 (by unfold maxLen; omega)
  obtain ⟨G, hG⟩ : ∃ G, G = grownCap w (0 + n) 0 5 := ⟨_, rfl⟩
  obtain ⟨cur, hcur⟩ : ∃ cur, cur = (([] : List Value).toArray ++ Builtin.zeroCells (Value.int .u8 0).cells n ++ Builtin.zeroCells (Value.int .u8 0).cells (G - (0 + n))) := ⟨_, rfl⟩
  have hcs : cur.size = G := by
    rw [hcur]
    simp [Builtin.zeroCells, Value.cells]
    omega
  rw [← hG] at hrz hge hle
  rw [← hcur] at hrz
  have hfr : Fr (w.drew.alloc (.cells cur 5)) w.heap.size 5 (some ⟨w.heap.size, 0, none⟩) 0 G (bv []) :=
    ⟨⟨rfl, .inr ⟨w.heap.size, G, cur, rfl, Nat.le_refl _, heap_alloc_new w.drew _, Nat.zero_le _, hle, by rw [hcs]; omega, by simp [bv]⟩⟩⟩
  have HF := Lib.hid hfr
  have hb : Below w.heap.size w (w.drew.alloc (.cells cur 5)) := ((below_drewN (Below.refl _ _) 1) : Below w.heap.size w w.drew).alloc (Nat.le_refl _) _
  have HB := Lib.hid hb
  have hni : (0 : Int) < (n : Int) := by omega
  have hw0 : IntKind.i64.wrap (n : Int) = (n : Int) := wrapi _ (by omega) (by omega)
  have hGi : (G : Int) ≤ 9223372036854775807 := by unfold maxLen at hle; omega
  have hG0 : (0 : Int) ≤ (G : Int) := by omega
  clear hfr hb hcs hcur hG hold hfit hi hz0 hz1 hz2 hn
  go_enter Tryz.func77, Tryz.ntmps77
  go_wp2_with (at_builtin; refine Lib.wpList_append_run _ rfl _ _ _ _ rfl _ _ rfl rfl _ _ (hrz _) ?_)
  all_goals go_ret
  all_goals exact ⟨_, _, _, rfl, HF.out, HB.out⟩

/-- Rows of bytes one behind the other: three. -/
structure Rows3 (w : World) (g : Nat) (a b c : Row) : Prop where
  lt : g < w.heap.size
  h : w.heap[g]? = some (.cells #[a.v, b.v, c.v] 24 (0, 0))
theorem Rows3.cells {w : World} {g : Nat} {a b c : Row} (h : Rows3 w g a b c) : w.cell? ⟨g, 0, none⟩ = some (.slice a.A a.n a.c) ∧ w.cell? ⟨g, 1, none⟩ = some (.slice b.A b.n b.c) ∧ w.cell? ⟨g, 2, none⟩ = some (.slice c.A c.n c.c) := by
  refine ⟨?_, ?_, ?_⟩ <;> (simp only [World.cell?, h.h]; rfl)
theorem Rows3.below {w w' : World} {g : Nat} {a b c : Row} (h : Rows3 w g a b c) {B : Nat} (hg : g < B) (hb : Below B w w') : Rows3 w' g a b c :=
  ⟨by have := h.lt; have := hb.size; omega, by rw [hb.block g hg]; exact h.h⟩
theorem Rows3.new (w : World) (a b c : Row) : Rows3 (w.alloc (.cells #[a.v, b.v, c.v] 24)) w.heap.size a b c := ⟨by simp, heap_alloc_new w _⟩

set_option maxRecDepth 100000 in
set_option maxHeartbeats 4000000 in
theorem concat_c {w : World} {g : Nat} {a b c : Row} {x y z : List UInt8} (h : Rows3 w g a b c) (ha : Rd w w.heap.size a.A a.n a.c (bv x)) (hb : Rd w w.heap.size b.A b.n b.c (bv y)) (hc : Rd w w.heap.size c.A c.n c.c (bv z))
    (h1 : x.length ≤ 20000000) (h2 : y.length ≤ 20000000) (h3 : z.length ≤ 20000000) (hp : 0 < z.length) :
    Calls Tryz.prog 51 #[.slice (some ⟨g, 0, none⟩) 3 3] w (RetB w (x ++ (y ++ z))) := by
  have la : x.length = a.n := by simpa using ha.len
  have lb : y.length = b.n := by simpa using hb.len
  have lc : z.length = c.n := by simpa using hc.len
  rw [la] at h1
  rw [lb] at h2
  rw [lc] at h3 hp
  have hlt := h.lt
  obtain ⟨c0, c1, c2⟩ := h.cells
  have hai : (a.n : Int) ≤ 20000000 := by omega
  have hbi : (b.n : Int) ≤ 20000000 := by omega
  have hci : (c.n : Int) ≤ 20000000 := by omega
  have hn0 : ¬ ((a.n : Int) < 0) := by omega
  have hn1 : ¬ ((a.n : Int) + (b.n : Int) < 0) := by omega
  have hn2 : ¬ ((a.n : Int) + (b.n : Int) + (c.n : Int) < 0) := by omega
  have HG := Lib.hid (grow_c w (n := a.n + b.n + c.n) (by omega) (by omega))
  have e1 : (((a.n + b.n + c.n : Nat)) : Int) = (a.n : Int) + (b.n : Int) + (c.n : Int) := by omega
  rw [e1] at HG
  have HA := Lib.hid ha
  have HB := Lib.hid hb
  have HC := Lib.hid hc
  have HR := Lib.hid h
  clear ha hb hc la lb lc hp e1 h
  go_enter Tryz.func51, Tryz.ntmps51
  go_wp2_with fail
  refine wp_loop_rounds 4 ?_
  rw [rounds_succ]
  go_wp2_with fail
  rw [rounds_succ]
  go_wp2_with fail
  rw [rounds_succ]
  go_wp2_with fail
  rw [rounds_succ]
  go_wp2_with fail
  refine HG.out.mono ?_
  rintro e w1 ⟨A1, n1, k1, rfl, hf1, hb1⟩
  obtain rfl : n1 = 0 := by have := hf1.len; simpa using this.symm
  have hr1 := HR.out.below hlt hb1
  obtain ⟨d0, d1, d2⟩ := hr1.cells
  clear c0 c1 c2
  have s1 := hb1.size
  go_wp2_with fail
  refine wp_loop_rounds 4 ?_
  rw [rounds_succ]
  go_wp2_with (at_builtin; refine wpList_app rfl (.tmp 31) (.tmp 32) _ rfl Tryz.underlying24 info_u8 rfl rfl hf1 rfl (HA.out.now hb1) (bv_one _) (by omega) (by omega) s1 ?_; intro A2 k2 w2 hap2; rw [Nat.zero_add] at hap2)
  have hb2 := hb1.trans hap2.below
  have hr2 := HR.out.below hlt hb2
  obtain ⟨q0, q1, q2⟩ := hr2.cells
  have s2 := hb2.size
  have hf2 := hap2.fr
  clear d0 d1 d2 hap2
  rw [rounds_succ]
  go_wp2_with (at_builtin; refine wpList_app rfl (.tmp 31) (.tmp 32) _ rfl Tryz.underlying24 info_u8 rfl rfl hf2 rfl (HB.out.now hb2) (bv_one _) (by omega) (by omega) s2 ?_; intro A3 k3 w3 hap3)
  have hb3 := hb2.trans hap3.below
  have hr3 := HR.out.below hlt hb3
  obtain ⟨t0, t1, t2⟩ := hr3.cells
  have s3 := hb3.size
  have hf3 := hap3.fr
  clear q0 q1 q2 hap3
  rw [rounds_succ]
  go_wp2_with (at_builtin; refine wpList_app rfl (.tmp 31) (.tmp 32) _ rfl Tryz.underlying24 info_u8 rfl rfl hf3 rfl (HC.out.now hb3) (bv_one _) (by omega) (by omega) s3 ?_; intro A4 k4 w4 hap4)
  have hb4 := hb3.trans hap4.below
  have hf4 := hap4.fr
  clear t0 t1 t2 hap4
  have HF := Lib.hid hf4
  have HB4 := Lib.hid hb4
  clear hf4 hf3 hf2 hf1 hb4 hb3 hb2 hb1 hr1 hr2 hr3
  rw [rounds_succ]
  go_wp2_with fail
  go_ret
  refine ⟨_, _, _, rfl, ?_, HB4.out⟩
  have hf := HF.out
  rw [bv_append, bv_append]
  simpa only [show bv [] = [] from rfl, List.nil_append, List.append_assoc] using hf
end Go.Proofs.YtkdjjdkcogolmaaGreatDoor
end
