/-
  Contracts: last, sequenced, Bytes, near of the program's wal.
-/
import Derived.Test.YthgaiimgfnbkaaaGreatDoorWr
import Derived.Lib.MinMax
namespace Go.Proofs.YthgaiimgfnbkaaaGreatDoor
set_option maxRecDepth 100000
open Go.RowKit Go.Shelf
set_option linter.unusedVariables false

set_option maxHeartbeats 1000000 in
theorem last_c (w : World) (x : WR) (h1 : (1 : Int) ≤ (x.q : Int)) (hq : (x.q : Int) ≤ 72057594037927935) (hn : (x.n : Int) ≤ 70368744000000) :
    Calls Tryz.prog 38 #[wrv x] w (RetVl w (.int .u64 ((x.q : Int) + (x.n : Int) - 1))) := by
  unfold wrv
  go_enter Tryz.func38, Tryz.ntmps38
  go_wp2
  go_ret
  exact RetVl.of rfl (below_alloc _ _)

theorem seqB_lo {q n : Nat} (h : q = 0) : seqB q n = false := by unfold seqB; simp; omega
theorem seqB_hi {q n : Nat} (h : (72057594037927935 : Int) < (q : Int)) : seqB q n = false := by unfold seqB; simp; omega
theorem seqB_mid {q n : Nat} (h1 : (1 : Int) ≤ (q : Int)) (hq : (q : Int) ≤ 72057594037927935) : seqB q n = decide ((q : Int) + (n : Int) - 1 ≤ 72057594037927935) := by
  unfold seqB
  rw [Bool.eq_iff_iff]
  simp
  omega

set_option maxHeartbeats 2000000 in
theorem sequenced_c (w : World) (x : WR) (hq : (x.q : Int) ≤ 18446744073709551615) (hn : (x.n : Int) ≤ 70368744000000) :
    Calls Tryz.prog 21 #[wrv x] w (RetVl w (.bool (seqB x.q x.n))) := by
  by_cases h1 : (1 : Int) ≤ (x.q : Int)
  · by_cases h2 : (x.q : Int) ≤ 72057594037927935
    · have HL := Lib.hid fun W => last_c W x h1 h2 hn
      rw [seqB_mid h1 h2]
      unfold wrv at HL ⊢
      have d1 : decide ((1 : Int) ≤ (x.q : Int)) = true := by simpa using h1
      have d2 : decide ((x.q : Int) ≤ 72057594037927935) = true := by simpa using h2
      go_enter Tryz.func21, Tryz.ntmps21
      go_wp2_with fail
      refine (HL.out _).mono ?_
      rintro e w1 ⟨rfl, hb1⟩
      go_wp2_with fail
      go_ret
      exact RetVl.of rfl (bon (below_alloc _ _) hb1)
    · rw [seqB_hi (by omega)]
      unfold wrv
      have d1 : decide ((1 : Int) ≤ (x.q : Int)) = true := by simpa using h1
      have d2 : decide ((x.q : Int) ≤ 72057594037927935) = false := by simpa using h2
      go_enter Tryz.func21, Tryz.ntmps21
      go_wp2_with fail
      go_ret
      exact RetVl.of rfl (below_alloc _ _)
  · rw [seqB_lo (by omega)]
    unfold wrv
    have d1 : decide ((1 : Int) ≤ (x.q : Int)) = false := by simpa using h1
    go_enter Tryz.func21, Tryz.ntmps21
    go_wp2_with fail
    go_ret
    exact RetVl.of rfl (below_alloc _ _)

/-- As many bytes as the frame at the beginning tells. -/
def RetNr (w : World) (A : Option Addr) (n c : Nat) (l : List UInt8) (e : Ending) (w' : World) : Prop :=
  ∃ k, e = .returned (.slice A k c) ∧ k ≤ n ∧ (4 ≤ l.length → k = min (lenL l + 8) l.length) ∧ Below w.heap.size w w'

set_option maxHeartbeats 2000000 in
theorem near_c {w : World} {B n c : Nat} {A : Option Addr} {l : List UInt8} (h : Rd w B A n c (bv l)) (hB : B ≤ w.heap.size) (hn : n ≤ 70368744000000) :
    Calls Tryz.prog 67 #[.slice A n c] w (RetNr w A n c l) := by
  have hl : l.length = n := by simpa using h.len
  have hcap := h.cap
  obtain ⟨m, hm⟩ : ∃ m, m = min 4 n := ⟨_, rfl⟩
  have hmin : min (4 : Int) (n : Int) = (m : Int) := by omega
  have hs1 := fun W => run_slice_hi_gen (P := Tryz.prog) (n := n) (A := A) 26 5 Tryz.underlying26 info_u8 .i64 (k := m) (c := c) (by omega) W
  have hfr := h.front (k := m) (by omega)
  rw [bv_take] at hfr
  have hni : (n : Int) ≤ 70368744000000 := by omega
  by_cases h4 : 4 ≤ n
  · have HT := Lib.hid (takeFour_c hfr hB (by omega) (by rw [List.length_take]; omega))
    rw [List.take_take, show min 4 m = 4 by omega] at HT
    obtain ⟨v, hv⟩ : ∃ v, v = leV (l.take 4) := ⟨_, rfl⟩
    have hvl : lenL l = v := by rw [hv]; rfl
    have hvb : v ≤ 4294967295 := by rw [← hvl]; exact lenL_lt l
    have hvi : (v : Int) ≤ 4294967295 := by omega
    rw [← hv] at HT
    obtain ⟨k, hk⟩ : ∃ k, k = min (8 + v) n := ⟨_, rfl⟩
    have hmin2 : min (8 + (v : Int)) (n : Int) = (k : Int) := by omega
    have hs2 := fun W => run_slice_hi_gen (P := Tryz.prog) (n := n) (A := A) 26 5 Tryz.underlying26 info_u8 .u64 (k := k) (c := c) (by omega) W
    have hend : k ≤ n ∧ (4 ≤ l.length → k = min (lenL l + 8) l.length) := ⟨by omega, fun _ => by rw [hvl, hl]; omega⟩
    have HE := Lib.hid hend
    clear hend hk hvl hv hvb hm hl hcap hfr h h4 hn hB
    go_enter Tryz.func67, Tryz.ntmps67
    go_wp2_with fail
    refine HT.out.mono ?_
    rintro e w1 ⟨A1, n1, c1, rfl, -, hb1⟩
    go_wp2_with fail
    go_ret
    exact ⟨k, rfl, HE.out.1, HE.out.2, hb1⟩
  · have HT := Lib.hid (takeFour_no hfr (by rw [List.length_take]; omega))
    obtain ⟨k, hk⟩ : ∃ k, k = min 8 n := ⟨_, rfl⟩
    have hmin2 : min (8 : Int) (n : Int) = (k : Int) := by omega
    have hs2 := fun W => run_slice_hi_gen (P := Tryz.prog) (n := n) (A := A) 26 5 Tryz.underlying26 info_u8 .u64 (k := k) (c := c) (by omega) W
    have hend : k ≤ n ∧ (4 ≤ l.length → k = min (lenL l + 8) l.length) := ⟨by omega, fun _ => by omega⟩
    have HE := Lib.hid hend
    clear hend hk hm hl hcap hfr h h4 hn hB
    go_enter Tryz.func67, Tryz.ntmps67
    go_wp2_with fail
    refine HT.out.mono ?_
    rintro e w1 ⟨A1, n1, c1, rfl, -, hb1⟩
    go_wp2_with fail
    go_ret
    exact ⟨k, rfl, HE.out.1, HE.out.2, hb1⟩

/-- A record's two cells in its block. -/
theorem rec_cells {w : World} {b : Nat} {q A n c} {t : TypeId} {fr : Nat × Nat} (h : w.heap[b]? = some (.cells #[.int .u64 q, .slice A n c] t fr)) : w.cell? ⟨b, 0, none⟩ = some (.int .u64 q) ∧ w.cell? ⟨b, 1, none⟩ = some (.slice A n c) := by
  constructor <;> simp [World.cell?, h]
theorem walL_no {q : Nat} {L : List Bop} (h : recB q L = false) : walL q L = [] ∧ walE q L = 60 := by unfold walL walE; simp [h]
theorem walL_yes {q : Nat} {L : List Bop} (h : recB q L = true) : walL q L = recL q L ∧ walE q L = 0 := by unfold walL walE; simp [h]

set_option maxHeartbeats 4000000 in
theorem walBytes_c {w : World} {x : WR} (h : RdO w w.heap.size x.A x.n x.c x.L) (hq : (x.q : Int) ≤ 18446744073709551615) (hn : (x.n : Int) ≤ 70368744000000) :
    Calls Tryz.prog 8 #[wrv x] w (RetBE w (walL x.q x.L) (walE x.q x.L)) := by
  obtain ⟨q, A, n, c, L⟩ := x
  have hl := h.len
  have HS := Lib.hid fun W => sequenced_c W ⟨q, A, n, c, L⟩ hq hn
  dsimp only at h hq hn hl HS
  unfold wrv at HS ⊢
  dsimp only at HS ⊢
  have ho := h.lay (.cells #[.int .u64 (q : Int), .slice A n c] 25)
  by_cases hg : grpB L 128 = true
  · have HB := Lib.hid (bytes_t ho hn (show bytesL L = groupL L by unfold bytesL; rw [if_pos hg]) (show bytesE L = 0 by unfold bytesE; rw [if_pos hg]))
    have hgl := groupL_len hg
    cases hs : seqB q n with
    | false =>
      have hr : recB q L = false := by unfold recB; rw [hl, hs, Bool.and_false]
      obtain ⟨e1, e2⟩ := walL_no hr
      rw [e1, e2]
      rw [hs] at HS
      clear h ho hg hgl hs hr hl e1 e2
      go_enter Tryz.func8, Tryz.ntmps8
      go_wp2_with fail
      refine HB.out.mono ?_
      rintro e w1 ⟨A1, n1, c1, rfl, hf1, hb1⟩
      have hc1 : w1.heap[w.heap.size]? = some (.cells #[.int .u64 (q : Int), .slice A n c] 25 (0, 0)) := (hb1.block _ (by simp)).trans (heap_alloc_new w _)
      obtain ⟨c10, c11⟩ := rec_cells hc1
      have hb := bon (below_alloc w _) hb1
      clear hf1 hb1
      go_wp2_with fail
      refine (HS.out _).mono ?_
      rintro e w2 ⟨rfl, hb2⟩
      go_wp2_with fail
      go_ret2
      exact ⟨none, 0, 0, rfl, Fr.nil, bon hb hb2⟩
    | true =>
      have hr : recB q L = true := by unfold recB; rw [hg, hl, hs]; rfl
      obtain ⟨e1, e2⟩ := walL_yes hr
      rw [e1, e2]
      rw [hs] at HS
      have hil := inL_len (q := q) hg
      have HI := Lib.hid hil
      have HGL := Lib.hid hgl
      clear h ho hg hgl hs hr hl e1 e2 hil
      go_enter Tryz.func8, Tryz.ntmps8
      go_wp2_with fail
      refine HB.out.mono ?_
      rintro e w1 ⟨A1, n1, c1, rfl, hf1, hb1⟩
      have hc1 : w1.heap[w.heap.size]? = some (.cells #[.int .u64 (q : Int), .slice A n c] 25 (0, 0)) := (hb1.block _ (by simp)).trans (heap_alloc_new w _)
      have hlt1 : w.heap.size < w1.heap.size := (Array.getElem?_eq_some_iff.1 hc1).1
      have hb := bon (below_alloc w _) hb1
      obtain ⟨c10, c11⟩ := rec_cells hc1
      clear hb1
      go_wp2_with fail
      refine (HS.out _).mono ?_
      rintro e w2 ⟨rfl, hb2⟩
      have hc2 := (hb2.block _ hlt1).trans hc1
      obtain ⟨c20, c21⟩ := rec_cells hc2
      have hf2 := hf1.below hb2
      have hbw := bon hb hb2
      clear hf1 hb2 hb hc1 hlt1 c10 c11
      go_wp2_with fail
      refine (put_c (B := 0) (l := []) Rd.nilv (Nat.zero_le _) (by omega) (q : Int) (by omega) hq).mono ?_
      rintro e w3 ⟨A3, n3, c3, rfl, hf3, hb3⟩
      have hf2 := hf2.below hb3
      have hn1 : n1 ≤ 50000 := by have := hf2.len; have := HGL.out; simp at *; omega
      have hn3 : n3 ≤ 10 := by have := hf3.len; have := shortL_len q; simp at *; omega
      have r2 := hf2.here
      go_wp2_with (at_builtin; refine wpList_app rfl (.tmp 21) (.tmp 22) _ rfl Tryz.underlying26 info_u8 rfl rfl hf3 rfl r2 (bv_one _) (by omega) (by omega) hb3.size ?_; intro A4 c4 w4 hap4)
      have hf4 := hap4.fr
      rw [← bv_append, List.nil_append, Int.toNat_natCast, show shortL q ++ groupL L = inL q L from rfl] at hf4
      have hb4 : Below w2.heap.size w2 w4 := hb3.trans (hap4.below.mono (Nat.le_refl _))
      have hbw := bon hbw hb4
      have hn4 : n3 + n1 ≤ 1048576 := by omega
      clear hap4 hf3 hf2 r2
      refine (seal_c hf4.here (Nat.le_refl _) hn4).mono ?_
      rintro e w5 ⟨A5, n5, c5, rfl, hf5, hb5⟩
      go_wp2_with fail
      go_ret2
      exact ⟨A5, n5, c5, rfl, hf5.mono (by have := bon hbw hb5; have := hbw.size; omega), bon hbw hb5⟩
  · have HB := Lib.hid (bytes_t ho hn (show bytesL L = [] by unfold bytesL; rw [if_neg hg]) (show bytesE L = 40 by unfold bytesE; rw [if_neg hg]))
    have hr : recB q L = false := by unfold recB; simp [hg]
    obtain ⟨e1, e2⟩ := walL_no hr
    rw [e1, e2]
    clear h ho hg hr hl e1 e2
    go_enter Tryz.func8, Tryz.ntmps8
    go_wp2_with fail
    refine HB.out.mono ?_
    rintro e w1 ⟨A1, n1, c1, rfl, hf1, hb1⟩
    have hb := bon (below_alloc w _) hb1
    clear hf1 hb1
    go_wp2_with fail
    go_ret2
    exact ⟨none, 0, 0, rfl, Fr.nil, hb⟩
end Go.Proofs.YthgaiimgfnbkaaaGreatDoor
