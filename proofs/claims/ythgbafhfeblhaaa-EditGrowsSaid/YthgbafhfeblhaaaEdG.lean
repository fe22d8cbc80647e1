/-
  What becomes of a version: the contracts of Apply and Whole.
-/
import Derived.Test.YthgbafhfeblhaaaEdF
namespace Go.Proofs.Ythgbafhfeblhaaa
set_option maxRecDepth 100000
open Go.RowKit Go.Shelf
set_option linter.unusedSimpArgs false
set_option linter.unusedVariables false

def ApplyR (w : World) (v e : Ed) (e' : Ending) (w' : World) : Prop :=
  ∃ A n c, e' = .returned (.tuple #[edV A n c (applyE v e), .int .i64 (errE (okB v e))]) ∧ FrM w' w.heap.size A n c (applyE v e).L ∧ Below w.heap.size w w'
theorem ApplyR.no {w w' : World} {v e : Ed} {A : Option Addr} {n c : Nat} (h : okB v e = false) (hf : FrM w' w.heap.size A n c v.L) (hb : Below w.heap.size w w') : ApplyR w v e (.returned (.tuple #[edV A n c v, .int .i64 90])) w' := by
  refine ⟨A, n, c, ?_, ?_, hb⟩
  · simp [applyE, h, errE]
  · simp only [applyE, h]; exact hf
theorem ApplyR.yes {w w' : World} {v e : Ed} {A : Option Addr} {n c : Nat} (h : okB v e = true) (hf : FrM w' w.heap.size A n c (v.L ++ e.L)) (hb : Below w.heap.size w w') : ApplyR w v e (.returned (.tuple #[edV A n c (addE v e), .int .i64 0])) w' := by
  refine ⟨A, n, c, ?_, ?_, hb⟩
  · simp [applyE, h, errE]
  · simp only [applyE, h, if_true]; exact hf
theorem fr_ne {w : World} {b n c k : Nat} {A : Option Addr} {L : List Mt} (h : FrM w b A n c L) (hk : k < b) : ∀ g off sp, A = some ⟨g, off, sp⟩ → g ≠ k := fun g off sp e => by have := h.block_ge g off sp e; omega

set_option maxRecDepth 100000 in
set_option maxHeartbeats 8000000 in
theorem apply_c {w : World} {B n1 c1 n2 c2 : Nat} {A1 A2 : Option Addr} {v e : Ed} (h1 : RdM w B A1 n1 c1 v.L) (h2 : RdM w B A2 n2 c2 e.L) (hB : B ≤ w.heap.size) (hn : n1 ≤ 100000) (hn2 : (n2 : Int) ≤ 70368744000000) :
    Calls Try.prog 15 #[edV A1 n1 c1 v, edV A2 n2 c2 e] w (ApplyR w v e) := by
  have hl1 := h1.len
  have hl2 := h2.len
  have ht := Two.new w 28 25 A1 A2 n1 c1 n2 c2 v e
  obtain ⟨w2, hw2⟩ : ∃ w2, w2 = (((w.alloc (.cells #[.slice A1 n1 c1, .int .u64 (v.a : Int), .int .u64 (v.b : Int), .int .u64 (v.c : Int)] 28)).alloc (.cells #[.slice A2 n2 c2, .int .u64 (e.a : Int), .int .u64 (e.b : Int), .int .u64 (e.c : Int)] 25))).alloc (.cells #[.slice none 0 0, .int .u64 0, .int .u64 0, .int .u64 0] 28) := ⟨_, rfl⟩
  have ht2 := ht.now (below_alloc _ (.cells #[.slice none 0 0, .int .u64 0, .int .u64 0, .int .u64 0] 28))
  have hr := B4.new ((w.alloc (.cells #[.slice A1 n1 c1, .int .u64 (v.a : Int), .int .u64 (v.b : Int), .int .u64 (v.c : Int)] 28)).alloc (.cells #[.slice A2 n2 c2, .int .u64 (e.a : Int), .int .u64 (e.b : Int), .int .u64 (e.c : Int)] 25)) 28 (.slice none 0 0) (.int .u64 0) (.int .u64 0) (.int .u64 0) (k := w.heap.size + 2) (by simp)
  rw [← hw2] at ht2 hr
  have HT := Lib.hid ht2
  have HR := Lib.hid hr
  obtain ⟨q0, q1, q2, q3, _, _, _, _⟩ := ht2.b1.cells
  obtain ⟨r0, r1, r2, r3, _, _, _, _⟩ := ht2.b2.cells
  have HK1 := Lib.hid (fun W (hW : Below w.heap.size w W) => h1.below hW hB)
  have HK2 := Lib.hid (fun W (hW : Below w.heap.size w W) => h2.below hW hB)
  have HRC := Lib.hid (right_c (HK2.out _ ht2.below) (Nat.le_trans hB ht2.below.size) hn2)
  have HL1 := Lib.hid hl1
  have HL2 := Lib.hid hl2
  have HOK := Lib.hid (show okB v e = (rightE e && follB v e) from rfl)
  clear ht ht2 hr h1 h2 hl1 hl2
  unfold edV at HRC
  unfold edV
  go_enter Try.func15, Try.ntmps15
  go_upto_region 1 with (fail)
  rw [← hw2]
  clear hw2
  go_wp2_with fail
  refine HRC.out.mono ?_
  rintro e' w3 ⟨rfl, hb3⟩
  have HT3 := Lib.hid (HT.out.now hb3)
  have HR3 := Lib.hid (HR.out.now hb3)
  obtain ⟨s0, s1, s2, s3, sz0, sz1, sz2, sz3⟩ := HT3.out.b1.cells
  obtain ⟨t0, t1, t2, t3, _, _, _, _⟩ := HT3.out.b2.cells
  clear hb3 q0 q1 q2 q3 r0 r1 r2 r3
  cases hr : rightE e with
  | false =>
    have HNO := Lib.hid (show okB v e = false by rw [HOK.out, hr]; rfl)
    clear hr
    have HCL := Lib.hid (mclone_c (HK1.out w3 HT3.out.below) (Nat.le_trans hB HT3.out.below.size) (by omega))
    go_wp2_with fail
    refine HCL.out.mono ?_
    rintro e' w5 ⟨A5, n5, c5, rfl, hf5, hb5⟩
    have hv5 := HT3.out.b1.now hb5
    have HR5 := Lib.hid (HR3.out.now hb5)
    have HV5 := Lib.hid hv5
    have HB5 := Lib.hid (bon HT3.out.below hb5)
    have HF5 := Lib.hid (hf5.mono (b' := w.heap.size + 3) HR3.out.lt)
    obtain ⟨u0, u1, u2, u3, uz0, uz1, uz2, uz3⟩ := hv5.cells
    obtain ⟨o0, o1, o2, o3, oz0, oz1, oz2, oz3⟩ := HR5.out.cells
    have HV6 := Lib.hid (hv5.set0 (.slice A5 n5 c5))
    have HR6 := Lib.hid (HR5.out.off (p := ⟨w.heap.size, 0, none⟩) (by simp) (.slice A5 n5 c5))
    have HB6 := Lib.hid (HB5.out.setCell (p := ⟨w.heap.size, 0, none⟩) (Nat.le_refl _) (.slice A5 n5 c5))
    have HF6 := Lib.hid (HF5.out.off (p := ⟨w.heap.size, 0, none⟩) (by simp) (.slice A5 n5 c5))
    clear hf5 hb5 hv5 s0 s1 s2 s3 sz0 sz1 sz2 sz3 t0 t1 t2 t3
    go_upto_region 3 with (fail)
    obtain ⟨w6, hw6⟩ : ∃ w6, w6 = w5.setCell ⟨w.heap.size, 0, none⟩ (.slice A5 n5 c5) := ⟨_, rfl⟩
    rw [← hw6] at HV6 HR6 HB6 HF6
    rw [← hw6]
    clear hw6 u0 u1 u2 u3 uz0 uz1 uz2 uz3 o0 o1 o2 o3 oz0 oz1 oz2 oz3
    obtain ⟨u0, u1, u2, u3, _, _, _, _⟩ := HV6.out.cells
    obtain ⟨o0, o1, o2, o3, oz0, oz1, oz2, oz3⟩ := HR6.out.cells
    go_wp2_with fail
    have HSS := Lib.hid (HR6.out.set (.slice A5 n5 c5) (.int .u64 (v.a : Int)) (.int .u64 (v.b : Int)) (.int .u64 (v.c : Int)))
    have HB := Lib.hid (set4_below HB6.out (show w.heap.size ≤ w.heap.size + 2 by omega) (.slice A5 n5 c5) (.int .u64 (v.a : Int)) (.int .u64 (v.b : Int)) (.int .u64 (v.c : Int)))
    have HFF := Lib.hid ((HF6.out.offset4 (k := w.heap.size + 2) (fr_ne HF6.out (by omega)) (.slice A5 n5 c5) (.int .u64 (v.a : Int)) (.int .u64 (v.b : Int)) (.int .u64 (v.c : Int))).mono (b' := w.heap.size) (by omega))
    obtain ⟨wz, hwz⟩ : ∃ wz, wz = set4 w6 (w.heap.size + 2) (.slice A5 n5 c5) (.int .u64 (v.a : Int)) (.int .u64 (v.b : Int)) (.int .u64 (v.c : Int)) := ⟨_, rfl⟩
    rw [← hwz] at HSS HB HFF
    unfold set4 at hwz
    rw [← hwz]
    clear hwz u0 u1 u2 u3 o0 o1 o2 o3 oz0 oz1 oz2 oz3
    obtain ⟨y0, y1, y2, y3, _, _, _, _⟩ := HSS.out.cells
    (try simp only [Exit.inBlock, Exit.then])
    refine bodyPost_ret (v := .tuple #[edV A5 n5 c5 v, .int .i64 90]) (by simp [edV, results, Try.results15, go_sem, y0, y1, y2, y3]; try rfl) rfl ?_
    exact ApplyR.no HNO.out HFF.out HB.out
  | true =>
    have HRY := Lib.hid hr
    have HFC := Lib.hid (follows_c (v := v) (e := e) (HK1.out w3 HT3.out.below) (HK2.out w3 HT3.out.below) (Nat.le_trans hB HT3.out.below.size) (by omega))
    unfold edV at HFC
    clear hr
    go_wp2_with fail
    refine HFC.out.mono ?_
    rintro e' w4 ⟨rfl, hb4⟩
    have HT4 := Lib.hid (HT3.out.now hb4)
    have HR4 := Lib.hid (HR3.out.now hb4)
    clear HT3 HR3 s0 s1 s2 s3 sz0 sz1 sz2 sz3 t0 t1 t2 t3
    obtain ⟨s0, s1, s2, s3, sz0, sz1, sz2, sz3⟩ := HT4.out.b1.cells
    obtain ⟨t0, t1, t2, t3, _, _, _, _⟩ := HT4.out.b2.cells
    clear hb4
    cases hf : follB v e with
    | false =>
      have HNO := Lib.hid (show okB v e = false by rw [HOK.out, hf]; simp)
      clear hf
      have HCL := Lib.hid (mclone_c (HK1.out w4 HT4.out.below) (Nat.le_trans hB HT4.out.below.size) (by omega))
      go_wp2_with fail
      refine HCL.out.mono ?_
      rintro e' w5 ⟨A5, n5, c5, rfl, hf5, hb5⟩
      have hv5 := HT4.out.b1.now hb5
      have HR5 := Lib.hid (HR4.out.now hb5)
      have HV5 := Lib.hid hv5
      have HB5 := Lib.hid (bon HT4.out.below hb5)
      have HF5 := Lib.hid (hf5.mono (b' := w.heap.size + 3) HR4.out.lt)
      obtain ⟨u0, u1, u2, u3, uz0, uz1, uz2, uz3⟩ := hv5.cells
      obtain ⟨o0, o1, o2, o3, oz0, oz1, oz2, oz3⟩ := HR5.out.cells
      have HV6 := Lib.hid (hv5.set0 (.slice A5 n5 c5))
      have HR6 := Lib.hid (HR5.out.off (p := ⟨w.heap.size, 0, none⟩) (by simp) (.slice A5 n5 c5))
      have HB6 := Lib.hid (HB5.out.setCell (p := ⟨w.heap.size, 0, none⟩) (Nat.le_refl _) (.slice A5 n5 c5))
      have HF6 := Lib.hid (HF5.out.off (p := ⟨w.heap.size, 0, none⟩) (by simp) (.slice A5 n5 c5))
      clear hf5 hb5 hv5 s0 s1 s2 s3 sz0 sz1 sz2 sz3 t0 t1 t2 t3
      go_upto_region 3 with (fail)
      obtain ⟨w6, hw6⟩ : ∃ w6, w6 = w5.setCell ⟨w.heap.size, 0, none⟩ (.slice A5 n5 c5) := ⟨_, rfl⟩
      rw [← hw6] at HV6 HR6 HB6 HF6
      rw [← hw6]
      clear hw6 u0 u1 u2 u3 uz0 uz1 uz2 uz3 o0 o1 o2 o3 oz0 oz1 oz2 oz3
      obtain ⟨u0, u1, u2, u3, _, _, _, _⟩ := HV6.out.cells
      obtain ⟨o0, o1, o2, o3, oz0, oz1, oz2, oz3⟩ := HR6.out.cells
      go_wp2_with fail
      have HSS := Lib.hid (HR6.out.set (.slice A5 n5 c5) (.int .u64 (v.a : Int)) (.int .u64 (v.b : Int)) (.int .u64 (v.c : Int)))
      have HB := Lib.hid (set4_below HB6.out (show w.heap.size ≤ w.heap.size + 2 by omega) (.slice A5 n5 c5) (.int .u64 (v.a : Int)) (.int .u64 (v.b : Int)) (.int .u64 (v.c : Int)))
      have HFF := Lib.hid ((HF6.out.offset4 (k := w.heap.size + 2) (fr_ne HF6.out (by omega)) (.slice A5 n5 c5) (.int .u64 (v.a : Int)) (.int .u64 (v.b : Int)) (.int .u64 (v.c : Int))).mono (b' := w.heap.size) (by omega))
      obtain ⟨wz, hwz⟩ : ∃ wz, wz = set4 w6 (w.heap.size + 2) (.slice A5 n5 c5) (.int .u64 (v.a : Int)) (.int .u64 (v.b : Int)) (.int .u64 (v.c : Int)) := ⟨_, rfl⟩
      rw [← hwz] at HSS HB HFF
      unfold set4 at hwz
      rw [← hwz]
      clear hwz u0 u1 u2 u3 o0 o1 o2 o3 oz0 oz1 oz2 oz3
      obtain ⟨y0, y1, y2, y3, _, _, _, _⟩ := HSS.out.cells
      (try simp only [Exit.inBlock, Exit.then])
      refine bodyPost_ret (v := .tuple #[edV A5 n5 c5 v, .int .i64 90]) (by simp [edV, results, Try.results15, go_sem, y0, y1, y2, y3]; try rfl) rfl ?_
      exact ApplyR.no HNO.out HFF.out HB.out
    | true =>
      have HYES := Lib.hid (show okB v e = true by rw [HOK.out, HRY.out, hf]; rfl)
      have h64 := (notesB_sizes (rightE_notes HRY.out)).1
      have HN2 := Lib.hid (show n2 ≤ 100000 by have := HL2.out; omega)
      clear hf h64
      have hma : ∀ (x y : Nat) (W : World) (ts : Array TypeId) (ty : TypeId), (Builtin.max_ ts ty #[.int .u64 (x : Int), .int .u64 (y : Int)]).run Try.prog W = .ok (.int .u64 ((max x y : Nat) : Int)) W := fun x y W ts ty => by
        rw [Lib.run_max_ints]; congr 2; omega
      have hmx := hma v.a e.a
      have hmy := hma v.b e.b
      have hmz := hma v.c e.c
      clear hma
      obtain ⟨ma, hma⟩ : ∃ ma, ma = max v.a e.a := ⟨_, rfl⟩
      obtain ⟨mb, hmb⟩ : ∃ mb, mb = max v.b e.b := ⟨_, rfl⟩
      obtain ⟨mc, hmc⟩ : ∃ mc, mc = max v.c e.c := ⟨_, rfl⟩
      rw [← hma] at hmx
      rw [← hmb] at hmy
      rw [← hmc] at hmz
      have HADD := Lib.hid (show addE v e = ⟨v.L ++ e.L, ma, mb, mc⟩ by rw [hma, hmb, hmc]; rfl)
      clear hma hmb hmc
      have HSK := Lib.hid (fun (W : World) (hW : Below w4.heap.size w4 W) => show Below w.heap.size w W ∧ W.cell? ⟨w.heap.size, 0, none⟩ = some (.slice A1 n1 c1) ∧ W.cell? ⟨w.heap.size, 1, none⟩ = some (.int .u64 (v.a : Int)) ∧ W.cell? ⟨w.heap.size, 2, none⟩ = some (.int .u64 (v.b : Int)) ∧ W.cell? ⟨w.heap.size, 3, none⟩ = some (.int .u64 (v.c : Int)) ∧ W.cell? ⟨w.heap.size + 1, 0, none⟩ = some (.slice A2 n2 c2) ∧ W.cell? ⟨w.heap.size + 1, 1, none⟩ = some (.int .u64 (e.a : Int)) ∧ W.cell? ⟨w.heap.size + 1, 2, none⟩ = some (.int .u64 (e.b : Int)) ∧ W.cell? ⟨w.heap.size + 1, 3, none⟩ = some (.int .u64 (e.c : Int)) by
        obtain ⟨g0, g1, g2, g3, _, _, _, _⟩ := (HT4.out.now hW).b1.cells
        obtain ⟨k0, k1, k2, k3, _, _, _, _⟩ := (HT4.out.now hW).b2.cells
        exact ⟨(HT4.out.now hW).below, g0, g1, g2, g3, k0, k1, k2, k3⟩)
      have HSS := Lib.hid (fun (W0 : World) (a b c d : Value) (hW : Below w4.heap.size w4 W0) => show Below w.heap.size w ((((W0.setCell ⟨w.heap.size + 2, 0, none⟩ a).setCell ⟨w.heap.size + 2, 1, none⟩ b).setCell ⟨w.heap.size + 2, 2, none⟩ c).setCell ⟨w.heap.size + 2, 3, none⟩ d) ∧ ((((W0.setCell ⟨w.heap.size + 2, 0, none⟩ a).setCell ⟨w.heap.size + 2, 1, none⟩ b).setCell ⟨w.heap.size + 2, 2, none⟩ c).setCell ⟨w.heap.size + 2, 3, none⟩ d).cell? ⟨w.heap.size, 0, none⟩ = some (.slice A1 n1 c1) ∧ ((((W0.setCell ⟨w.heap.size + 2, 0, none⟩ a).setCell ⟨w.heap.size + 2, 1, none⟩ b).setCell ⟨w.heap.size + 2, 2, none⟩ c).setCell ⟨w.heap.size + 2, 3, none⟩ d).cell? ⟨w.heap.size, 1, none⟩ = some (.int .u64 (v.a : Int)) ∧ ((((W0.setCell ⟨w.heap.size + 2, 0, none⟩ a).setCell ⟨w.heap.size + 2, 1, none⟩ b).setCell ⟨w.heap.size + 2, 2, none⟩ c).setCell ⟨w.heap.size + 2, 3, none⟩ d).cell? ⟨w.heap.size, 2, none⟩ = some (.int .u64 (v.b : Int)) ∧ ((((W0.setCell ⟨w.heap.size + 2, 0, none⟩ a).setCell ⟨w.heap.size + 2, 1, none⟩ b).setCell ⟨w.heap.size + 2, 2, none⟩ c).setCell ⟨w.heap.size + 2, 3, none⟩ d).cell? ⟨w.heap.size, 3, none⟩ = some (.int .u64 (v.c : Int)) ∧ ((((W0.setCell ⟨w.heap.size + 2, 0, none⟩ a).setCell ⟨w.heap.size + 2, 1, none⟩ b).setCell ⟨w.heap.size + 2, 2, none⟩ c).setCell ⟨w.heap.size + 2, 3, none⟩ d).cell? ⟨w.heap.size + 1, 0, none⟩ = some (.slice A2 n2 c2) ∧ ((((W0.setCell ⟨w.heap.size + 2, 0, none⟩ a).setCell ⟨w.heap.size + 2, 1, none⟩ b).setCell ⟨w.heap.size + 2, 2, none⟩ c).setCell ⟨w.heap.size + 2, 3, none⟩ d).cell? ⟨w.heap.size + 1, 1, none⟩ = some (.int .u64 (e.a : Int)) ∧ ((((W0.setCell ⟨w.heap.size + 2, 0, none⟩ a).setCell ⟨w.heap.size + 2, 1, none⟩ b).setCell ⟨w.heap.size + 2, 2, none⟩ c).setCell ⟨w.heap.size + 2, 3, none⟩ d).cell? ⟨w.heap.size + 1, 2, none⟩ = some (.int .u64 (e.b : Int)) ∧ ((((W0.setCell ⟨w.heap.size + 2, 0, none⟩ a).setCell ⟨w.heap.size + 2, 1, none⟩ b).setCell ⟨w.heap.size + 2, 2, none⟩ c).setCell ⟨w.heap.size + 2, 3, none⟩ d).cell? ⟨w.heap.size + 1, 3, none⟩ = some (.int .u64 (e.c : Int)) by
        have hX := (HT4.out.now hW)
        have x1 := hX.b1.offset4 (k := w.heap.size + 2) (by omega) a b c d
        have x2 := hX.b2.offset4 (k := w.heap.size + 2) (by omega) a b c d
        obtain ⟨g0, g1, g2, g3, _, _, _, _⟩ := x1.cells
        obtain ⟨k0, k1, k2, k3, _, _, _, _⟩ := x2.cells
        exact ⟨set4_below hX.below (show w.heap.size ≤ w.heap.size + 2 by omega) a b c d, g0, g1, g2, g3, k0, k1, k2, k3⟩)
      have hs0 : Below w4.heap.size w4 w4.drew := below_drewN (Below.refl _ _) 1
      have hs1 : Below w4.heap.size w4 (w4.drew.alloc (.cells #[.slice A1 n1 c1, .slice A2 n2 c2] 22)) := blit hs0 _
      have hs2 : Below w4.heap.size w4 (w4.alloc (.cells #[.slice A1 n1 c1, .slice A2 n2 c2] 22)).drew := hs1
      have HS1 := Lib.hid hs1
      go_upto_region 4 with (fail)
      refine wp_region_noPanic ?_
      refine wp_region_held_drew (S := fun w' => Below w.heap.size w w' ∧ w'.cell? ⟨w.heap.size, 0, none⟩ = some (.slice A1 n1 c1) ∧ w'.cell? ⟨w.heap.size, 1, none⟩ = some (.int .u64 (v.a : Int)) ∧ w'.cell? ⟨w.heap.size, 2, none⟩ = some (.int .u64 (v.b : Int)) ∧ w'.cell? ⟨w.heap.size, 3, none⟩ = some (.int .u64 (v.c : Int)) ∧ w'.cell? ⟨w.heap.size + 1, 0, none⟩ = some (.slice A2 n2 c2) ∧ w'.cell? ⟨w.heap.size + 1, 1, none⟩ = some (.int .u64 (e.a : Int)) ∧ w'.cell? ⟨w.heap.size + 1, 2, none⟩ = some (.int .u64 (e.b : Int)) ∧ w'.cell? ⟨w.heap.size + 1, 3, none⟩ = some (.int .u64 (e.c : Int))) (by kernel_rfl) (HSK.out _ hs0) (fun hHeld => ?_)
      refine wpAnyH_take (i := 0) (oi := { dst := some 20, op := Op.fieldAddr 28 (Operand.tmp 2) 0, type := 0, pos := "edit.go:59", after := #[], guard := none }) (v := ?v1) rfl (by kernel_rfl) (by kernel_rfl) (by kernel_rfl) (fun _ _ _ h => h) (Or.inl ⟨by rfl, ?hy1⟩) (by assumption) ?rest1
      case hy1 => (intro w hSw; (try dsimp only at hSw); go_simp; try with_reducible rfl)
      try simp only [Act.put, List.setIfInBounds_toArray, List.set_cons_zero, List.set_cons_succ]
      refine wpAnyH_take (i := 1) (oi := { dst := some 21, op := Op.load 22 (Operand.tmp 20), type := 22, pos := "edit.go:59", after := #[{ on := 0, ground := Ground.data }], guard := none }) (v := ?v2) rfl (by kernel_rfl) (by kernel_rfl) (by kernel_rfl) (fun _ _ _ h => h) (Or.inl ⟨by rfl, ?hy2⟩) (by assumption) ?rest2
      case hy2 => (intro w hSw; (try dsimp only at hSw); go_simp; try with_reducible rfl)
      try simp only [Act.put, List.setIfInBounds_toArray, List.set_cons_zero, List.set_cons_succ]
      refine wpAnyH_take (i := 2) (oi := { dst := some 22, op := Op.fieldAddr 25 (Operand.tmp 3) 0, type := 0, pos := "edit.go:59", after := #[], guard := none }) (v := ?v3) rfl (by kernel_rfl) (by kernel_rfl) (by kernel_rfl) (fun _ _ _ h => h) (Or.inl ⟨by rfl, ?hy3⟩) (by assumption) ?rest3
      case hy3 => (intro w hSw; (try dsimp only at hSw); go_simp; try with_reducible rfl)
      try simp only [Act.put, List.setIfInBounds_toArray, List.set_cons_zero, List.set_cons_succ]
      refine wpAnyH_take (i := 3) (oi := { dst := some 23, op := Op.load 22 (Operand.tmp 22), type := 22, pos := "edit.go:59", after := #[{ on := 2, ground := Ground.data }], guard := none }) (v := ?v4) rfl (by kernel_rfl) (by kernel_rfl) (by kernel_rfl) (fun _ _ _ h => h) (Or.inl ⟨by rfl, ?hy4⟩) (by assumption) ?rest4
      case hy4 => (intro w hSw; (try dsimp only at hSw); go_simp; try with_reducible rfl)
      try simp only [Act.put, List.setIfInBounds_toArray, List.set_cons_zero, List.set_cons_succ]
      refine wpAnyH_take (i := 6) (oi := { dst := some 26, op := Op.fieldAddr 28 (Operand.tmp 2) 1, type := 0, pos := "edit.go:59", after := #[], guard := none }) (v := ?v5) rfl (by kernel_rfl) (by kernel_rfl) (by kernel_rfl) (fun _ _ _ h => h) (Or.inl ⟨by rfl, ?hy5⟩) (by assumption) ?rest5
      case hy5 => (intro w hSw; (try dsimp only at hSw); go_simp; try with_reducible rfl)
      try simp only [Act.put, List.setIfInBounds_toArray, List.set_cons_zero, List.set_cons_succ]
      refine wpAnyH_take (i := 7) (oi := { dst := some 27, op := Op.load 23 (Operand.tmp 26), type := 23, pos := "edit.go:59", after := #[{ on := 6, ground := Ground.data }], guard := none }) (v := ?v6) rfl (by kernel_rfl) (by kernel_rfl) (by kernel_rfl) (fun _ _ _ h => h) (Or.inl ⟨by rfl, ?hy6⟩) (by assumption) ?rest6
      case hy6 => (intro w hSw; (try dsimp only at hSw); go_simp; try with_reducible rfl)
      try simp only [Act.put, List.setIfInBounds_toArray, List.set_cons_zero, List.set_cons_succ]
      refine wpAnyH_take (i := 8) (oi := { dst := some 28, op := Op.fieldAddr 25 (Operand.tmp 3) 1, type := 0, pos := "edit.go:59", after := #[], guard := none }) (v := ?v7) rfl (by kernel_rfl) (by kernel_rfl) (by kernel_rfl) (fun _ _ _ h => h) (Or.inl ⟨by rfl, ?hy7⟩) (by assumption) ?rest7
      case hy7 => (intro w hSw; (try dsimp only at hSw); go_simp; try with_reducible rfl)
      try simp only [Act.put, List.setIfInBounds_toArray, List.set_cons_zero, List.set_cons_succ]
      refine wpAnyH_take (i := 9) (oi := { dst := some 29, op := Op.load 23 (Operand.tmp 28), type := 23, pos := "edit.go:59", after := #[{ on := 8, ground := Ground.data }], guard := none }) (v := ?v8) rfl (by kernel_rfl) (by kernel_rfl) (by kernel_rfl) (fun _ _ _ h => h) (Or.inl ⟨by rfl, ?hy8⟩) (by assumption) ?rest8
      case hy8 => (intro w hSw; (try dsimp only at hSw); go_simp; try with_reducible rfl)
      try simp only [Act.put, List.setIfInBounds_toArray, List.set_cons_zero, List.set_cons_succ]
      refine wpAnyH_take (i := 10) (oi := { dst := some 30, op := Op.call { callee := Callee.builtin Builtin.max, args := #[Operand.tmp 27, Operand.tmp 29], argTypes := #[23, 23] }, type := 23, pos := "edit.go:59", after := #[{ on := 7, ground := Ground.data }, { on := 9, ground := Ground.data }], guard := none }) (v := ?v9) rfl (by kernel_rfl) (by kernel_rfl) (by kernel_rfl) (fun _ _ _ h => h) (Or.inl ⟨by rfl, ?hy9⟩) (by assumption) ?rest9
      case hy9 => (intro w hSw; (try dsimp only at hSw); go_simp; try with_reducible rfl)
      try simp only [Act.put, List.setIfInBounds_toArray, List.set_cons_zero, List.set_cons_succ]
      refine wpAnyH_take (i := 11) (oi := { dst := some 31, op := Op.fieldAddr 28 (Operand.tmp 2) 2, type := 0, pos := "edit.go:59", after := #[], guard := none }) (v := ?v10) rfl (by kernel_rfl) (by kernel_rfl) (by kernel_rfl) (fun _ _ _ h => h) (Or.inl ⟨by rfl, ?hy10⟩) (by assumption) ?rest10
      case hy10 => (intro w hSw; (try dsimp only at hSw); go_simp; try with_reducible rfl)
      try simp only [Act.put, List.setIfInBounds_toArray, List.set_cons_zero, List.set_cons_succ]
      refine wpAnyH_take (i := 12) (oi := { dst := some 32, op := Op.load 23 (Operand.tmp 31), type := 23, pos := "edit.go:59", after := #[{ on := 11, ground := Ground.data }], guard := none }) (v := ?v11) rfl (by kernel_rfl) (by kernel_rfl) (by kernel_rfl) (fun _ _ _ h => h) (Or.inl ⟨by rfl, ?hy11⟩) (by assumption) ?rest11
      case hy11 => (intro w hSw; (try dsimp only at hSw); go_simp; try with_reducible rfl)
      try simp only [Act.put, List.setIfInBounds_toArray, List.set_cons_zero, List.set_cons_succ]
      refine wpAnyH_take (i := 13) (oi := { dst := some 33, op := Op.fieldAddr 25 (Operand.tmp 3) 2, type := 0, pos := "edit.go:59", after := #[], guard := none }) (v := ?v12) rfl (by kernel_rfl) (by kernel_rfl) (by kernel_rfl) (fun _ _ _ h => h) (Or.inl ⟨by rfl, ?hy12⟩) (by assumption) ?rest12
      case hy12 => (intro w hSw; (try dsimp only at hSw); go_simp; try with_reducible rfl)
      try simp only [Act.put, List.setIfInBounds_toArray, List.set_cons_zero, List.set_cons_succ]
      refine wpAnyH_take (i := 14) (oi := { dst := some 34, op := Op.load 23 (Operand.tmp 33), type := 23, pos := "edit.go:59", after := #[{ on := 13, ground := Ground.data }], guard := none }) (v := ?v13) rfl (by kernel_rfl) (by kernel_rfl) (by kernel_rfl) (fun _ _ _ h => h) (Or.inl ⟨by rfl, ?hy13⟩) (by assumption) ?rest13
      case hy13 => (intro w hSw; (try dsimp only at hSw); go_simp; try with_reducible rfl)
      try simp only [Act.put, List.setIfInBounds_toArray, List.set_cons_zero, List.set_cons_succ]
      refine wpAnyH_take (i := 15) (oi := { dst := some 35, op := Op.call { callee := Callee.builtin Builtin.max, args := #[Operand.tmp 32, Operand.tmp 34], argTypes := #[23, 23] }, type := 23, pos := "edit.go:59", after := #[{ on := 12, ground := Ground.data }, { on := 14, ground := Ground.data }], guard := none }) (v := ?v14) rfl (by kernel_rfl) (by kernel_rfl) (by kernel_rfl) (fun _ _ _ h => h) (Or.inl ⟨by rfl, ?hy14⟩) (by assumption) ?rest14
      case hy14 => (intro w hSw; (try dsimp only at hSw); go_simp; try with_reducible rfl)
      try simp only [Act.put, List.setIfInBounds_toArray, List.set_cons_zero, List.set_cons_succ]
      refine wpAnyH_take (i := 16) (oi := { dst := some 36, op := Op.fieldAddr 28 (Operand.tmp 2) 3, type := 0, pos := "edit.go:59", after := #[], guard := none }) (v := ?v15) rfl (by kernel_rfl) (by kernel_rfl) (by kernel_rfl) (fun _ _ _ h => h) (Or.inl ⟨by rfl, ?hy15⟩) (by assumption) ?rest15
      case hy15 => (intro w hSw; (try dsimp only at hSw); go_simp; try with_reducible rfl)
      try simp only [Act.put, List.setIfInBounds_toArray, List.set_cons_zero, List.set_cons_succ]
      refine wpAnyH_take (i := 17) (oi := { dst := some 37, op := Op.load 23 (Operand.tmp 36), type := 23, pos := "edit.go:59", after := #[{ on := 16, ground := Ground.data }], guard := none }) (v := ?v16) rfl (by kernel_rfl) (by kernel_rfl) (by kernel_rfl) (fun _ _ _ h => h) (Or.inl ⟨by rfl, ?hy16⟩) (by assumption) ?rest16
      case hy16 => (intro w hSw; (try dsimp only at hSw); go_simp; try with_reducible rfl)
      try simp only [Act.put, List.setIfInBounds_toArray, List.set_cons_zero, List.set_cons_succ]
      refine wpAnyH_take (i := 18) (oi := { dst := some 38, op := Op.fieldAddr 25 (Operand.tmp 3) 3, type := 0, pos := "edit.go:59", after := #[], guard := none }) (v := ?v17) rfl (by kernel_rfl) (by kernel_rfl) (by kernel_rfl) (fun _ _ _ h => h) (Or.inl ⟨by rfl, ?hy17⟩) (by assumption) ?rest17
      case hy17 => (intro w hSw; (try dsimp only at hSw); go_simp; try with_reducible rfl)
      try simp only [Act.put, List.setIfInBounds_toArray, List.set_cons_zero, List.set_cons_succ]
      refine wpAnyH_take (i := 19) (oi := { dst := some 39, op := Op.load 23 (Operand.tmp 38), type := 23, pos := "edit.go:59", after := #[{ on := 18, ground := Ground.data }], guard := none }) (v := ?v18) rfl (by kernel_rfl) (by kernel_rfl) (by kernel_rfl) (fun _ _ _ h => h) (Or.inl ⟨by rfl, ?hy18⟩) (by assumption) ?rest18
      case hy18 => (intro w hSw; (try dsimp only at hSw); go_simp; try with_reducible rfl)
      try simp only [Act.put, List.setIfInBounds_toArray, List.set_cons_zero, List.set_cons_succ]
      refine wpAnyH_take (i := 20) (oi := { dst := some 40, op := Op.call { callee := Callee.builtin Builtin.max, args := #[Operand.tmp 37, Operand.tmp 39], argTypes := #[23, 23] }, type := 23, pos := "edit.go:59", after := #[{ on := 17, ground := Ground.data }, { on := 19, ground := Ground.data }], guard := none }) (v := ?v19) rfl (by kernel_rfl) (by kernel_rfl) (by kernel_rfl) (fun _ _ _ h => h) (Or.inl ⟨by rfl, ?hy19⟩) (by assumption) ?rest19
      case hy19 => (intro w hSw; (try dsimp only at hSw); go_simp; try with_reducible rfl)
      try simp only [Act.put, List.setIfInBounds_toArray, List.set_cons_zero, List.set_cons_succ]
      refine wpAnyH_ready (rs := [4]) (by kernel_rfl) (by simp) ?_
      refine AllReadyH.cons (o := { dst := some 24, op := Op.buildSlice 82 2 #[(0, Operand.tmp 21), (1, Operand.tmp 23)], type := 82, pos := "edit.go:59", after := #[{ on := 1, ground := Ground.data }, { on := 3, ground := Ground.data }], guard := none }) rfl (fun K hK => ?_) AllReadyH.nil
      go_simp
      clear hHeld
      refine hK.out _ _ (HSK.out _ hs1) (fun hHeld => ?_)
      clear hK K
      try simp only [Act.put, List.setIfInBounds_toArray, List.set_cons_zero, List.set_cons_succ]
      refine wpAnyH_ready (rs := [5]) (by kernel_rfl) (by simp) ?_
      refine AllReadyH.cons (o := { dst := some 25, op := Op.call { callee := Callee.value (Operand.func 33), args := #[Operand.tmp 24], argTypes := #[82] }, type := 22, pos := "edit.go:60", after := #[{ on := 4, ground := Ground.data }], guard := none }) rfl (fun K hK => ?_) AllReadyH.nil
      go_simp
      refine (mconcat_c (w := (w4.drew.alloc (.cells #[.slice A1 n1 c1, .slice A2 n2 c2] 22))) (g := w4.heap.size) (heap_at rfl) (HK1.out _ (HT4.out.below.trans (HS1.out.mono HT4.out.below.size))) (HK2.out _ (HT4.out.below.trans (HS1.out.mono HT4.out.below.size))) (Nat.le_trans hB (HT4.out.below.trans (HS1.out.mono HT4.out.below.size)).size) hn HN2.out).mono ?_
      rintro e' w5 ⟨A5, n5, c5, rfl, hf5, hb5⟩
      replace hHeld := HSK.out _ (bon hs1 hb5)
      have hb45 : Below w4.heap.size w4 w5 := bon HS1.out hb5
      have HF5 := Lib.hid (hf5.mono (b' := w.heap.size + 3) (Nat.le_trans HR4.out.lt HS1.out.size))
      have HR5 := Lib.hid (HR4.out.now hb45)
      have HB5 := Lib.hid (HT4.out.below.trans (hb45.mono HT4.out.below.size))
      obtain ⟨o0, o1, o2, o3, oz0, oz1, oz2, oz3⟩ := HR5.out.cells
      clear hf5 hb5
      go_wp2_with fail
      refine hK.out _ _ hHeld (fun hHeld' => ?_)
      clear hK K
      try simp only [Act.put, List.setIfInBounds_toArray, List.set_cons_zero, List.set_cons_succ]
      refine wpAnyH_take (i := 21) (oi := { dst := some 41, op := Op.build 28 #[(0, Operand.tmp 25), (1, Operand.tmp 30), (2, Operand.tmp 35), (3, Operand.tmp 40)], type := 28, pos := "edit.go:59", after := #[{ on := 5, ground := Ground.data }, { on := 10, ground := Ground.data }, { on := 15, ground := Ground.data }, { on := 20, ground := Ground.data }], guard := none }) (v := ?v20) rfl (by kernel_rfl) (by kernel_rfl) (by kernel_rfl) (fun _ _ _ h => h) (Or.inl ⟨by rfl, ?hy20⟩) (by assumption) ?rest20
      case hy20 => (intro w hSw; (try dsimp only at hSw); go_simp; try with_reducible rfl)
      try simp only [Act.put, List.setIfInBounds_toArray, List.set_cons_zero, List.set_cons_succ]
      refine wpAnyH_ready (rs := [22]) (by kernel_rfl) (by simp) ?_
      refine AllReadyH.cons (o := { dst := none, op := Op.store 28 (Operand.tmp 4) (Operand.tmp 41), type := 0, pos := "edit.go:59", after := #[{ on := 21, ground := Ground.data }, { on := 5, ground := Ground.chain }, { on := 0, ground := Ground.phase }, { on := 1, ground := Ground.phase }, { on := 2, ground := Ground.phase }, { on := 3, ground := Ground.phase }, { on := 4, ground := Ground.phase }, { on := 5, ground := Ground.phase }, { on := 6, ground := Ground.phase }, { on := 7, ground := Ground.phase }, { on := 8, ground := Ground.phase }, { on := 9, ground := Ground.phase }, { on := 10, ground := Ground.phase }, { on := 11, ground := Ground.phase }, { on := 12, ground := Ground.phase }, { on := 13, ground := Ground.phase }, { on := 14, ground := Ground.phase }, { on := 15, ground := Ground.phase }, { on := 16, ground := Ground.phase }, { on := 17, ground := Ground.phase }, { on := 18, ground := Ground.phase }, { on := 19, ground := Ground.phase }, { on := 20, ground := Ground.phase }, { on := 21, ground := Ground.phase }], guard := none }) rfl (fun K hK => ?_) AllReadyH.nil
      go_simp
      clear hHeld
      refine hK.out _ _ (HSS.out _ _ _ _ _ hb45) (fun hHeld => ?_)
      clear hK K
      try simp only [Act.put, List.setIfInBounds_toArray, List.set_cons_zero, List.set_cons_succ]
      refine wpAnyH_take (i := 23) (oi := { dst := some 5, op := Op.assign (Operand.const (Value.int IntKind.i64 0)), type := 32, pos := "edit.go:59", after := #[{ on := 22, ground := Ground.chain }, { on := 0, ground := Ground.phase }, { on := 1, ground := Ground.phase }, { on := 2, ground := Ground.phase }, { on := 3, ground := Ground.phase }, { on := 4, ground := Ground.phase }, { on := 5, ground := Ground.phase }, { on := 6, ground := Ground.phase }, { on := 7, ground := Ground.phase }, { on := 8, ground := Ground.phase }, { on := 9, ground := Ground.phase }, { on := 10, ground := Ground.phase }, { on := 11, ground := Ground.phase }, { on := 12, ground := Ground.phase }, { on := 13, ground := Ground.phase }, { on := 14, ground := Ground.phase }, { on := 15, ground := Ground.phase }, { on := 16, ground := Ground.phase }, { on := 17, ground := Ground.phase }, { on := 18, ground := Ground.phase }, { on := 19, ground := Ground.phase }, { on := 20, ground := Ground.phase }, { on := 21, ground := Ground.phase }, { on := 22, ground := Ground.phase }], guard := none }) (v := ?v21) rfl (by kernel_rfl) (by kernel_rfl) (by kernel_rfl) (fun _ _ _ h => h) (Or.inl ⟨by rfl, ?hy21⟩) (by assumption) ?rest21
      case hy21 => (intro w hSw; (try dsimp only at hSw); go_simp; try with_reducible rfl)
      try simp only [Act.put, List.setIfInBounds_toArray, List.set_cons_zero, List.set_cons_succ]
      refine wpAnyH_done (by kernel_rfl) ?_ _
      refine NoPanic.normal ?_
      have HZ := Lib.hid (HR5.out.set (.slice A5 n5 c5) (.int .u64 (ma : Int)) (.int .u64 (mb : Int)) (.int .u64 (mc : Int)))
      have HB := Lib.hid (set4_below HB5.out (show w.heap.size ≤ w.heap.size + 2 by omega) (.slice A5 n5 c5) (.int .u64 (ma : Int)) (.int .u64 (mb : Int)) (.int .u64 (mc : Int)))
      have HFF := Lib.hid ((HF5.out.offset4 (k := w.heap.size + 2) (fr_ne HF5.out (by omega)) (.slice A5 n5 c5) (.int .u64 (ma : Int)) (.int .u64 (mb : Int)) (.int .u64 (mc : Int))).mono (b' := w.heap.size) (by omega))
      obtain ⟨wz, hwz⟩ : ∃ wz, wz = set4 w5 (w.heap.size + 2) (.slice A5 n5 c5) (.int .u64 (ma : Int)) (.int .u64 (mb : Int)) (.int .u64 (mc : Int)) := ⟨_, rfl⟩
      rw [← hwz] at HZ HB HFF
      unfold set4 at hwz
      (try simp only [Exit.inBlock, Exit.then])
      rw [← hwz]
      clear hwz o0 o1 o2 o3 oz0 oz1 oz2 oz3
      obtain ⟨y0, y1, y2, y3, _, _, _, _⟩ := HZ.out.cells
      go_wp2_with fail
      (try simp only [Exit.inBlock, Exit.then])
      refine bodyPost_ret (v := .tuple #[edV A5 n5 c5 ⟨v.L ++ e.L, ma, mb, mc⟩, .int .i64 0]) (by simp [edV, results, Try.results15, go_sem, y0, y1, y2, y3]; try rfl) rfl ?_
      rw [← HADD.out]
      exact ApplyR.yes HYES.out HFF.out HB.out
end Go.Proofs.Ythgbafhfeblhaaa
