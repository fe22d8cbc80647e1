/-
  Contracts: the library's Chunk at entries: rows of sixteen.
-/
import Derived.Test.YtkdjjdkcogolmaaGreatDoorT4
import Derived.Test.YtkdjjdkcogolmaaGreatDoorTH
namespace Go.Proofs.YtkdjjdkcogolmaaGreatDoor
set_option maxRecDepth 100000
open Go.RowKit Go.Shelf
set_option linter.unusedVariables false
attribute [local go_sem] Oper.semAt_some

theorem RdE.mid {w : World} {B n c : Nat} {A : Option Addr} {L : List Ent} (h : RdE w B A n c L) {i k : Nat} (hi : i < k) (hk : k ≤ n) : RdE w B (A.map (·.add (i * 4))) (k - i) (k - i) ((L.drop i).take (k - i)) := by
  have h1 := (h.back (k := i) (by omega)).front (k := k - i) (by omega)
  have hc := h.cap
  rw [if_neg (by omega)] at h1
  refine ⟨h1.len, Nat.le_refl _, by have := h1.max; omega, fun e => ?_, h1.form⟩
  have := h1.nil e
  omega
theorem run_slice3 {n c i k : Nat} {A : Option Addr} (hi : i < k) (hk : k ≤ c) (W : World) :
    (Instr.slice 23 (.slice A n c) (some (.int .i64 (i : Int))) (some (.int .i64 (k : Int))) (some (.int .i64 (k : Int)))).run Tryz.prog W = .ok (.slice (A.map (·.add (i * 4))) (k - i) (k - i)) W := by
  obtain ⟨j, hj, hz0, hz1, hz2⟩ := info_parts info_en
  have hik : i ≤ k := Nat.le_of_lt hi
  have hne : ¬ k = i := by omega
  simp [Instr.slice, Instr.sliceBounds, run_underlying Tryz.underlying23, run_sliceBound, hk, hik, sizeOf, typeInfo, hj, hz1, hne]
theorem RdE.mid3 {w : World} {B n c : Nat} {A : Option Addr} {L : List Ent} (h : RdE w B A n c L) {i m : Nat} (hm : 0 < m) (hk : i + m ≤ n) :
    ∃ A', (∀ W, (Instr.slice 23 (.slice A n c) (some (.int .i64 (i : Int))) (some (.int .i64 ((i : Int) + (m : Int)))) (some (.int .i64 ((i : Int) + (m : Int))))).run Tryz.prog W = .ok (.slice A' m m) W) ∧ RdE w B A' m m ((L.drop i).take m) := by
  have hc := h.cap
  have h1 := h.mid (i := i) (k := i + m) (by omega) hk
  rw [Nat.add_sub_cancel_left] at h1
  refine ⟨_, fun W => ?_, h1⟩
  have h2 := run_slice3 (n := n) (c := c) (A := A) (i := i) (k := i + m) (by omega) (by omega) W
  rw [Nat.add_sub_cancel_left, Int.natCast_add] at h2
  exact h2

set_option maxRecDepth 100000 in
set_option maxHeartbeats 1000000 in
theorem chunk_c {w : World} {A : Option Addr} {n c : Nat} :
    Calls Tryz.prog 72 #[.slice A n c, .int .i64 16] w fun e w' => e = .returned (.func (.func 96) #[] #[.pointer (some ⟨w.heap.size, 0, none⟩), .pointer (some ⟨w.heap.size + 1, 0, none⟩)]) ∧ (w.alloc (.cells #[.slice A n c] 23)).alloc (.cells #[.int .i64 16] 3) = w' := by
  go_enter Tryz.func72, Tryz.ntmps72
  go_wp2
  go_ret
  exact ⟨by simp, rfl⟩

/-- Rows that are handed out: each a part of the list. -/
def XCh (n₀ : Nat) (L : List Ent) (x : BkE) (W : World) : Prop := (∃ j, j < cntL L ∧ x.L = chN L j) ∧ RdE W n₀ x.A x.n x.c x.L
def SpAny (p : List BkE) : Prop := True
structure KpC (n₀ Bs : Nat) (W W' : World) : Prop where
  below : Below n₀ W W'
  box1 : Bs < W.heap.size → W'.heap[Bs]? = W.heap[Bs]?
  box2 : Bs + 1 < W.heap.size → W'.heap[Bs + 1]? = W.heap[Bs + 1]?
theorem KpC.trans {n₀ Bn : Nat} {X Y Z : World} (h : KpC n₀ Bn X Y) (k : KpC n₀ Bn Y Z) : KpC n₀ Bn X Z :=
  ⟨h.below.trans k.below, fun hb => (k.box1 (by have := h.below.size; omega)).trans (h.box1 hb), fun hb => (k.box2 (by have := h.below.size; omega)).trans (h.box2 hb)⟩

set_option maxRecDepth 100000 in
set_option maxHeartbeats 8000000 in
theorem chunk1_in (fuel : Nat) (hfu : 1 ≤ fuel) (lp Bs n₀ : Nat) {n c : Nat} {A : Option Addr} {L : List Ent} (hn : n ≤ 1000000000) (J Jx : List BkE → World → Prop) (hJ : ∀ {s X Y}, J s X → Below X.heap.size X Y → J s Y) (hJx : ∀ {s X Y}, Jx s X → Below X.heap.size X Y → Jx s Y)
    (hY : ∀ pre x W1, J pre W1 → XCh n₀ L x W1 → pre.length < cntL L → YieldAt Fence.wide (fuel - 1) Tryz.prog lp (bkv x) W1 fun e W' => (e = .returned (.bool true) ∧ J (pre ++ [x]) W' ∧ KpC n₀ Bs W1 W') ∨ (e = .returned (.bool false) ∧ Jx (pre ++ [x]) W'))
    (W : World) (hbx : Boxed W Bs 23 (.slice A n c)) (hby : Boxed W (Bs + 1) 3 (.int .i64 16)) (hd : RdE W n₀ A n c L) (hn₀ : n₀ ≤ W.heap.size) (h0 : J [] W) :
    CallsIn Fence.wide fuel Tryz.prog 96 #[.func (.yield lp) #[] #[], .pointer (some ⟨Bs, 0, none⟩), .pointer (some ⟨Bs + 1, 0, none⟩)] W fun e W' => (∃ v, e = .returned v) ∧ ((∃ xs, lsE xs = chL L ∧ J xs W') ∨ (∃ pre, SpAny pre ∧ Jx pre W')) := by
  refine callsIn_of_wp Tryz.func96 rfl trivial ?_ rfl
  simp only [Tryz.ntmps96, List.size_toArray, List.length_cons, List.length_nil, Nat.reduceAdd, Nat.reduceSub, Array.replicate_succ, Array.replicate_zero, List.push_toArray, List.append_toArray, List.nil_append, List.cons_append]
  have hl : L.length = n := hd.len
  have HL := Lib.hid hl
  have HY := Lib.hid hY
  have HJ := Lib.hid (fun s X Y => @hJ s X Y)
  have hni : (n : Int) ≤ 1000000000 := by omega
  clear hl hY hJ hJx hn
  gi_wp2
  gi_loopw [4] (fun u wr => ∃ (pre : List BkE) (j : Nat), u = .int .i64 ((16 * j : Nat) : Int) ∧ pre.length = j ∧ lsE pre = chK L j ∧ j ≤ cntL L ∧ J pre wr ∧ RdE wr n₀ A n c L ∧ Boxed wr Bs 23 (.slice A n c) ∧ Boxed wr (Bs + 1) 3 (.int .i64 16) ∧ n₀ ≤ wr.heap.size) (fun u _ => n + 16 - (intOf u).toNat)
  case atStart => exact ⟨[], 0, rfl, rfl, rfl, Nat.zero_le _, h0, hd, hbx, hby, hn₀⟩
  case round =>
    clear hd hbx hby hn₀ h0
    obtain ⟨pre, j, rfl, hpl, hls, hjc, hJs, hd, hbx, hby, hn₀⟩ := hrel
    obtain ⟨i, hi⟩ : ∃ i, 16 * j = i := ⟨_, rfl⟩
    rw [hi]
    have hcnt : cntL L = (n + 15) / 16 := by unfold cntL; rw [HL.out]
    have c1 := hbx.cell
    have c2 := hby.cell
    by_cases hlt : i < n
    · have hki : (i : Int) < (n : Int) := by omega
      have hk0 : (0 : Int) ≤ (i : Int) := by omega
      obtain ⟨A1, hsl, _⟩ := hd.slice_lo .i64 (k := i) (by omega)
      obtain ⟨r, hr⟩ : ∃ r, n - i = r := ⟨_, rfl⟩
      obtain ⟨m, hm⟩ : ∃ m, min 16 r = m := ⟨_, rfl⟩
      rw [hr] at hsl
      have hmin : ∀ (W : World) (ts : Array TypeId) (ty : TypeId), (Builtin.min_ ts ty #[.int .i64 16, .int .i64 (r : Int)]).run Tryz.prog W = .ok (.int .i64 (m : Int)) W := fun W ts ty => by
        rw [Lib.run_min_ints]; congr 2; omega
      obtain ⟨A2, hs3, hrd⟩ := hd.mid3 (i := i) (m := m) (by omega) (by omega)
      have hch : (L.drop i).take m = chN L j := by
        have e : (L.drop i).length = r := by rw [List.length_drop, HL.out, hr]
        unfold chN
        rw [hi]
        rcases Nat.le_total 16 r with h | h
        · rw [show m = 16 by omega]
        · rw [List.take_of_length_le (by omega), List.take_of_length_le (by omega)]
      rw [hch] at hrd
      have hmi : (i : Int) + (m : Int) ≤ (n : Int) := by omega
      have hjlt : j < cntL L := by omega
      have hx : ∀ W, Below wr.heap.size wr W → XCh n₀ L ⟨chN L j, A2, m, m⟩ W := fun W hW => ⟨⟨j, hjlt, rfl⟩, hrd.below hW hn₀⟩
      have HX := Lib.hid hx
      have HJs := Lib.hid hJs
      have HR := Lib.hid hd
      have HB1 := Lib.hid hbx
      have HB2 := Lib.hid hby
      have HLS := Lib.hid (And.intro hpl hls)
      have HNN := Lib.hid hn₀
      clear hx hrd hJs hd hbx hby hls hch hm hpl hn₀
      gi_wp2_with fail
      gi_region
      all_goals (
        have hbd : Below wr.heap.size wr wr.drew := below_drewN (Below.refl _ _) 1
        have c1 : wr.drew.cell? ⟨Bs, 0, none⟩ = some (.slice A n c) := c1
        obtain ⟨fn, tmps, assign, body, hy, hR⟩ := HY.out pre ⟨chN L j, A2, m, m⟩ wr.drew (HJ.out _ _ _ HJs.out hbd) (HX.out _ hbd) (by rw [HLS.out.1]; exact hjlt)
        unfold bkv at hy
        dsimp only at hy
        gi_wp2_with fail
        refine hR.mono ?_
        rintro e w4 (⟨rfl, hJ4, hk4⟩ | ⟨rfl, hJx4⟩))
      · have hb4 : Boxed w4 Bs 23 (.slice A n c) := (hk4.box1 HB1.out.lt).trans HB1.out
        have hb5 : Boxed w4 (Bs + 1) 3 (.int .i64 16) := (hk4.box2 HB2.out.lt).trans HB2.out
        have c5 := hb5.cell
        have hd4 := (HR.out.below hbd HNN.out).below hk4.below (Nat.le_refl _)
        have hs4 : n₀ ≤ w4.heap.size := Nat.le_trans HNN.out (by have := hk4.below.size; simpa using this)
        have HREL := Lib.hid (And.intro hJ4 (And.intro hd4 (And.intro hb4 (And.intro hb5 hs4))))
        clear hy hR hk4 hJ4 hb4 hb5 hd4 hs4 c1 c2
        gi_wp2_with fail
        go_roundw
        case rel => exact ⟨pre ++ [⟨chN L j, A2, m, m⟩], j + 1, by rw [← hi]; simp; omega, by rw [List.length_append, HLS.out.1]; rfl, by rw [lsE_snoc, HLS.out.2, chK_succ], hjlt, HREL.out.1, HREL.out.2.1, HREL.out.2.2.1, HREL.out.2.2.2.1, HREL.out.2.2.2.2⟩
        case measure => simp [intOf]; omega
      · have HE := Lib.hid (show (∃ v, Ending.returned (.tuple #[]) = .returned v) ∧ ((∃ xs, lsE xs = chL L ∧ J xs w4) ∨ (∃ pre, SpAny pre ∧ Jx pre w4)) from ⟨⟨_, rfl⟩, .inr ⟨_, trivial, hJx4⟩⟩)
        clear hy hR hJx4 c1 c2
        gi_wp2_with fail
        refine bodyPost_ret (results_none rfl _ _ _) rfl ?_
        exact HE.out
    · have hki : ¬ (i : Int) < (n : Int) := by omega
      have hje : j = cntL L := by omega
      have HE := Lib.hid (show (∃ v, Ending.returned (.tuple #[]) = .returned v) ∧ ((∃ xs, lsE xs = chL L ∧ J xs wr) ∨ (∃ pre, SpAny pre ∧ Jx pre wr)) from ⟨⟨_, rfl⟩, .inl ⟨pre, by rw [hls, hje]; rfl, hJs⟩⟩)
      clear hJs hd hls hbx hby
      gi_wp2_with fail
      first | refine bodyPost_end (results_none rfl _ _ _) rfl ?_ | refine bodyPost_ret (results_none rfl _ _ _) rfl ?_
      exact HE.out
end Go.Proofs.YtkdjjdkcogolmaaGreatDoor
