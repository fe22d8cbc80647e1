/-
  Contracts: the records that are yielded.
-/
import Derived.Test.YthgaiimgfnbkaaaGreatDoorW3
import Derived.Shelf.Abstract
import Derived.Shelf.RegionOpen
import Derived.OwnWalkIn
import Derived.TacticsInMore
import Derived.LoopNIn
import Derived.LoopIn
import Derived.Maps.AppendAt
namespace Go.Proofs.YthgaiimgfnbkaaaGreatDoor
set_option maxRecDepth 100000
open Go.RowKit Go.Shelf
set_option linter.unusedVariables false
attribute [local go_sem] Oper.semAt_some

/-- What is handed out: a record, where it ends. -/
abbrev Yd := WR × Nat
def ydsOf (p : List Yd) : List Wr := p.map fun x => x.1.r
def endOf (p : List Yd) : Nat := p.foldl (fun _ x => x.2) 0
theorem ydsOf_snoc (p : List Yd) (x : Yd) : ydsOf (p ++ [x]) = ydsOf p ++ [x.1.r] := by simp [ydsOf]
theorem endOf_snoc (p : List Yd) (x : Yd) : endOf (p ++ [x]) = x.2 := by simp [endOf]
def ydv (x : Yd) : Array Value := #[wrv x.1, .int .i64 ((x.2 : Nat) : Int)]
/-- Midway: p have come, k bytes are used, q is the sequence that must come (0: any). -/
structure Mid (l : List UInt8) (p : List Yd) (k q : Nat) : Prop where
  ch : chain 0 (ydsOf p)
  eq : l.take k = catW (ydsOf p)
  le : k ≤ l.length
  nx : q = nextW 0 (ydsOf p)
  last : endOf p = k
theorem Mid.start (l : List UInt8) : Mid l [] 0 0 := ⟨trivial, rfl, Nat.zero_le _, rfl, rfl⟩
theorem Mid.pos {l : List UInt8} {p : List Yd} {k q : Nat} (h : Mid l p k q) : (k = 0 → q = 0) ∧ (0 < k → 0 < q) ∧ (q : Int) ≤ 72057594037927936 ∧ 8 * p.length ≤ l.length := by
  have h1 : k = (catW (ydsOf p)).length := by rw [← h.eq, List.length_take]; have := h.le; omega
  have h2 := catW_len h.ch
  have hl : (ydsOf p).length = p.length := by simp [ydsOf]
  have hle := h.le
  by_cases hp : ydsOf p = []
  · have e1 : q = 0 := by rw [h.nx, hp]; rfl
    have e2 : k = 0 := by rw [h1, hp]; rfl
    omega
  · have h3 := chain_pos h.ch hp
    rw [← h.nx] at h3
    have h4 : 0 < (ydsOf p).length := List.length_pos_iff.2 hp
    omega
theorem Mid.next {l : List UInt8} {p : List Yd} {k q : Nat} (h : Mid l p k q) {x : WR} {j : Nat} (ho : oneL (l.drop k) = some (x.r, j)) (hq : q = 0 ∨ x.q = q) : Mid l (p ++ [(x, k + j)]) (k + j) (x.q + x.L.length) := by
  obtain ⟨h1, h2, t, h3⟩ := oneL_iff.1 (show oneL (l.drop k) = some ((x.q, x.L), j) from ho)
  have hj := (oneL_le ho).2.1
  rw [List.length_drop] at hj
  have hle := h.le
  refine ⟨?_, ?_, by omega, ?_, endOf_snoc _ _⟩
  · rw [ydsOf_snoc, chain_snoc, ← h.nx]
    exact ⟨h.ch, hq, h1⟩
  · rw [ydsOf_snoc, catW_snoc, ← h.eq, List.take_add, h3]
    congr 1
    rw [h2]
    exact List.take_left
  · rw [ydsOf_snoc, nextW_snoc]; rfl
/-- All that are to come have come. -/
def SRec (l : List UInt8) (p : List Yd) : Prop := IsRead l (ydsOf p) (endOf p)
theorem Mid.done {l : List UInt8} {p : List Yd} {k q : Nat} (h : Mid l p k q) (hs : ∀ q' L j, oneL (l.drop k) = some ((q', L), j) → q ≠ 0 ∧ q' ≠ q) : SRec l p := by
  unfold SRec
  rw [h.last]
  exact ⟨h.ch, h.eq, h.le, fun q' L j ho => by rw [← h.nx]; exact hs q' L j ho⟩

theorem boxed_below {W W' : World} {B : Nat} {t : TypeId} {v : Value} (h : Boxed W B t v) (hb : Below W.heap.size W W') : Boxed W' B t v := (hb.block B h.lt).trans h

/-- What a round keeps: what lay below n₀, and the iterator's own variable. -/
structure KpR (n₀ Bn : Nat) (W W' : World) : Prop where
  below : Below n₀ W W'
  box : Bn < W.heap.size → W'.heap[Bn]? = W.heap[Bn]?
theorem KpR.trans {n₀ Bn : Nat} {X Y Z : World} (h : KpR n₀ Bn X Y) (k : KpR n₀ Bn Y Z) : KpR n₀ Bn X Z :=
  ⟨h.below.trans k.below, fun hb => (k.box (by have := h.below.size; omega)).trans (h.box hb)⟩
/-- What is told of an element's memory. -/
def XRec (n₀ : Nat) (x : Yd) (W : World) : Prop := FrO W n₀ x.1.A x.1.n x.1.c x.1.L

set_option maxHeartbeats 8000000 in
theorem records1_in (fuel : Nat) (hfu : 1 ≤ fuel) (lp Bn n₀ : Nat) {n c : Nat} {A : Option Addr} {l : List UInt8} (hn : n ≤ 70368744000000) (J : List Yd → World → Prop) (hJ : Stays J)
    (hY : ∀ pre x W1, J pre W1 → XRec n₀ x W1 → pre.length < l.length + 1 → YieldAt Fence.wide (fuel - 1) Tryz.prog lp (ydv x) W1 fun e W' => e = .returned (.bool true) ∧ J (pre ++ [x]) W' ∧ KpR n₀ Bn W1 W')
    (W : World) (hbx : Boxed W Bn 26 (.slice A n c)) (hd : Rd W n₀ A n c (bv l)) (hn₀ : n₀ ≤ W.heap.size) (h0 : J [] W) :
    CallsIn Fence.wide fuel Tryz.prog 47 #[.func (.yield lp) #[] #[], .pointer (some ⟨Bn, 0, none⟩)] W fun e W' => (∃ v, e = .returned v) ∧ ∃ xs, SRec l xs ∧ J xs W' := by
  refine callsIn_of_wp Tryz.func47 rfl trivial ?_ rfl
  simp only [Tryz.ntmps47, List.size_toArray, List.length_cons, List.length_nil, Nat.reduceAdd, Nat.reduceSub, Array.replicate_succ, Array.replicate_zero, List.push_toArray, List.append_toArray, List.nil_append, List.cons_append]
  have hl : l.length = n := by simpa using hd.len
  have HL := Lib.hid hl
  have HY := Lib.hid hY
  have HJ := Lib.hid hJ
  have HN := Lib.hid hn
  clear hl hY hJ hn
  gi_wp2
  gi_loopw [3, 4] (fun u nx wr => ∃ (pre : List Yd) (k q : Nat), u = .int .i64 (k : Int) ∧ nx = .int .u64 (q : Int) ∧ Mid l pre k q ∧ J pre wr ∧ Rd wr n₀ A n c (bv l) ∧ Boxed wr Bn 26 (.slice A n c) ∧ n₀ ≤ wr.heap.size) (fun u _ _ => l.length - (intOf u).toNat)
  case atStart => exact ⟨[], 0, 0, rfl, rfl, Mid.start l, h0, hd, hbx, hn₀⟩
  case round =>
    clear hd hbx hn₀ h0
    obtain ⟨pre, k, q, rfl, rfl, hm, hJs, hd, hbx, hn₀⟩ := hrel
    have hkn : k ≤ n := by have := hm.le; have := HL.out; omega
    obtain ⟨hp0, hp1, hp2, hp3⟩ := hm.pos
    obtain ⟨A1, hsl, hr⟩ := hd.slice_lo 26 5 (P := Tryz.prog) Tryz.underlying26 info_u8 .i64 (k := k) hkn
    rw [bv_drop] at hr
    have HR := Lib.hid ((callsIn_wide (n := fuel - 1)).2 (recordAt_c hr hn₀ (by have := HN.out; omega)))
    have hkcell := hbx.cell
    have hki : (k : Int) ≤ 70368744000000 := by have := HN.out; omega
    have HM := Lib.hid hm
    have HJs := Lib.hid hJs
    have HD := Lib.hid hd
    have HB := Lib.hid hbx
    have HP := Lib.hid (show (k = 0 → q = 0) ∧ (0 < k → 0 < q) ∧ 8 * pre.length ≤ l.length from ⟨hp0, hp1, hp3⟩)
    clear hm hJs hd hbx hr hp0 hp1 hp3
    gi_wp2_with fail
    refine ⟨trivial, HR.out.mono ?_⟩
    rintro e w1 ⟨⟨q', A', n', c', L'⟩, j, rfl, ho, hb1⟩
    unfold wrv
    dsimp only
    have HN0 := Lib.hid hn₀
    by_cases hj : j = 0
    · subst hj
      have hend : SRec l pre := HM.out.done fun q2 L2 j2 h2 => by rw [ho.no rfl] at h2; cases h2
      have HE := Lib.hid (And.intro hend (HJ.out _ _ _ HJs.out hb1))
      have hJx : J pre (w1.alloc (.cells #[.int .u64 (q' : Int), .slice A' n' c'] 25)) := HJ.out _ _ _ HE.out.2 (below_alloc _ _)
      have HE2 := Lib.hid (And.intro hend hJx)
      clear ho hb1 hend hJx HE
      gi_wp2_with fail
      refine bodyPost_ret (results_none rfl _ _ _) rfl ?_
      exact ⟨⟨_, rfl⟩, pre, HE2.out.1, HE2.out.2⟩
    · obtain ⟨hone, hfr⟩ := ho.yes (by omega)
      have hrec := recB_iff.1 (oneL_iff.1 (show oneL (l.drop k) = some ((q', L'), j) from hone)).1
      have hlen : L'.length = n' := hfr.len
      have hn128 := (grpB_iff.1 hrec.1).2.1
      have hn1 := (grpB_iff.1 hrec.1).1
      have hjle := (oneL_le hone).2.1
      rw [List.length_drop] at hjle
      have hj0 : ((j : Int) == 0) = false := by simp; omega
      have hji : (j : Int) ≤ 70368744000000 := by have := HL.out; have := HN.out; omega
      have hq1 : (1 : Int) ≤ (q' : Int) := by omega
      have hq2 : (q' : Int) ≤ 72057594037927935 := by omega
      have hqn : (q' : Int) + (n' : Int) ≤ 72057594037927936 := by omega
      have hn' : (n' : Int) ≤ 128 := by omega
      have hla := fun W => (callsIn_wide (n := fuel - 1)).2 (last_c W ⟨q', A', n', c', L'⟩ hq1 hq2 (by dsimp only; omega))
      dsimp only at hla
      unfold wrv at hla
      have HLA := Lib.hid hla
      have HF := Lib.hid hfr
      have HO := Lib.hid (And.intro hone (show recB q' L' = true from (oneL_iff.1 (show oneL (l.drop k) = some ((q', L'), j) from hone)).1))
      have HNL := Lib.hid hlen
      have HKJ := Lib.hid (show k + j ≤ l.length ∧ 0 < j from ⟨by have := HM.out.le; omega, by omega⟩)
      clear ho hone hfr hrec hlen hn1 hn128 hjle hla hj
      by_cases hk0 : k = 0
      · have hg : decide ((0 : Int) < (k : Int)) = false := by simp; omega
        have hg2 : decide (0 < k) = false := by simp; omega
        have HQ := Lib.hid (HP.out.1 hk0)
        clear hk0
        gi_wp2_with fail
        refine ⟨trivial, (HLA.out _).mono ?_⟩
        rintro e w2 ⟨rfl, hb2⟩
        have hb12 := bon (below_alloc w1 _) hb2
        have hx2 : XRec n₀ (⟨q', A', n', c', L'⟩, k + j) w2 := (HF.out.below hb12).mono HN0.out
        have hJ2 := HJ.out _ _ _ HJs.out (bon hb1 hb12)
        have hc2 : w2.heap[w1.heap.size]? = some (.cells #[.int .u64 (q' : Int), .slice A' n' c'] 25 (0, 0)) := (hb2.block _ (by simp)).trans (heap_alloc_new w1 _)
        obtain ⟨c20, c21⟩ := rec_cells hc2
        have hbx2 := boxed_below HB.out (bon hb1 hb12)
        have hd2 := HD.out.under (bon hb1 hb12) HN0.out
        have hs2 : n₀ ≤ w2.heap.size := Nat.le_trans HN0.out (bon hb1 hb12).size
        obtain ⟨fn, tmps, assign, body, hy, hR⟩ := HY.out pre (⟨q', A', n', c', L'⟩, k + j) w2 hJ2 hx2 (by have := HP.out.2.2; omega)
        unfold ydv wrv at hy
        dsimp only at hy
        rw [Int.natCast_add] at hy
        have HX := Lib.hid (And.intro hbx2 (And.intro hd2 hs2))
        clear hb1 hb2 hb12 hx2 hJ2 hc2 hbx2 hd2 hs2
        gi_wp2_with fail
        refine hR.mono ?_
        rintro e w3 ⟨rfl, hJ3, hk3⟩
        obtain ⟨hbx2, hd2, hs2⟩ := HX.out
        have hbx3 : Boxed w3 Bn 26 (.slice A n c) := (hk3.box hbx2.lt).trans hbx2
        have hd3 := hd2.below hk3.below
        have hs3 : n₀ ≤ w3.heap.size := Nat.le_trans hs2 hk3.below.size
        clear hk3 hbx2 hd2 hs2 hR hy HX
        gi_wp2_with fail
        go_roundw
        case rel => exact ⟨pre ++ [(⟨q', A', n', c', L'⟩, k + j)], k + j, q' + L'.length, by simp, by rw [HNL.out]; (congr 1 <;> omega), HM.out.next HO.out.1 (.inl HQ.out), hJ3, hd3, hbx3, hs3⟩
        case measure => have := HKJ.out; simp [intOf]; omega
      · have hg : decide ((0 : Int) < (k : Int)) = true := by simp; omega
        have hg2 : decide (0 < k) = true := by simp; omega
        have HQ := Lib.hid (HP.out.2.1 (by omega))
        clear hk0
        by_cases hqq : q' = q
        · have hne : ((q' : Int) != (q : Int)) = false := by simp; omega
          have hne2 : (q' != q) = false := by simp; omega
          have HQQ := Lib.hid hqq
          clear hqq
          gi_wp2_with fail
          refine ⟨trivial, (HLA.out _).mono ?_⟩
          rintro e w2 ⟨rfl, hb2⟩
          have hb12 := bon (below_alloc w1 _) hb2
          have hx2 : XRec n₀ (⟨q', A', n', c', L'⟩, k + j) w2 := (HF.out.below hb12).mono HN0.out
          have hJ2 := HJ.out _ _ _ HJs.out (bon hb1 hb12)
          have hc2 : w2.heap[w1.heap.size]? = some (.cells #[.int .u64 (q' : Int), .slice A' n' c'] 25 (0, 0)) := (hb2.block _ (by simp)).trans (heap_alloc_new w1 _)
          obtain ⟨c20, c21⟩ := rec_cells hc2
          have hbx2 := boxed_below HB.out (bon hb1 hb12)
          have hd2 := HD.out.under (bon hb1 hb12) HN0.out
          have hs2 : n₀ ≤ w2.heap.size := Nat.le_trans HN0.out (bon hb1 hb12).size
          obtain ⟨fn, tmps, assign, body, hy, hR⟩ := HY.out pre (⟨q', A', n', c', L'⟩, k + j) w2 hJ2 hx2 (by have := HP.out.2.2; omega)
          unfold ydv wrv at hy
          dsimp only at hy
          rw [Int.natCast_add] at hy
          have HX := Lib.hid (And.intro hbx2 (And.intro hd2 hs2))
          clear hb1 hb2 hb12 hx2 hJ2 hc2 hbx2 hd2 hs2
          gi_wp2_with fail
          refine hR.mono ?_
          rintro e w3 ⟨rfl, hJ3, hk3⟩
          obtain ⟨hbx2, hd2, hs2⟩ := HX.out
          have hbx3 : Boxed w3 Bn 26 (.slice A n c) := (hk3.box hbx2.lt).trans hbx2
          have hd3 := hd2.below hk3.below
          have hs3 : n₀ ≤ w3.heap.size := Nat.le_trans hs2 hk3.below.size
          clear hk3 hbx2 hd2 hs2 hR hy HX
          gi_wp2_with fail
          go_roundw
          case rel => exact ⟨pre ++ [(⟨q', A', n', c', L'⟩, k + j)], k + j, q' + L'.length, by simp, by rw [HNL.out]; (congr 1 <;> omega), HM.out.next HO.out.1 (.inr HQQ.out), hJ3, hd3, hbx3, hs3⟩
          case measure => have := HKJ.out; simp [intOf]; omega
        · have hne : ((q' : Int) != (q : Int)) = true := by simp; omega
          have hne2 : (q' != q) = true := by simp; omega
          have hend : SRec l pre := HM.out.done fun q2 L2 j2 h2 => by
            have h3 : oneL (l.drop k) = some ((q', L'), j) := HO.out.1
            rw [h3] at h2
            cases h2
            exact ⟨by have := HQ.out; omega, hqq⟩
          have hJx : J pre (w1.alloc (.cells #[.int .u64 (q' : Int), .slice A' n' c'] 25)) := HJ.out _ _ _ HJs.out (bon hb1 (below_alloc _ _))
          have HE2 := Lib.hid (And.intro hend hJx)
          clear hb1 hend hJx hqq
          gi_wp2_with fail
          refine bodyPost_ret (results_none rfl _ _ _) rfl ?_
          exact ⟨⟨_, rfl⟩, pre, HE2.out.1, HE2.out.2⟩
end Go.Proofs.YthgaiimgfnbkaaaGreatDoor
