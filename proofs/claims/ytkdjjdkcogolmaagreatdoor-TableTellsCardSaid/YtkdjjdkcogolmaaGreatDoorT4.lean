/-
  The texts T3, T4, in one.
-/
import Derived.Test.YtkdjjdkcogolmaaGreatDoorTH
import Derived.Test.YtkdjjdkcogolmaaGreatDoorBF
import Derived.Shelf.Abstract
import Derived.Shelf.RegionOpen
import Derived.OwnWalkIn
import Derived.TacticsInMore
import Derived.LoopNIn
import Derived.LoopIn
import Derived.Maps.AppendAt
import Derived.BigRegionIn
section
/-
  Contracts: the blocks that bytes begin with; read.
-/
namespace Go.Proofs.YtkdjjdkcogolmaaGreatDoor
set_option maxRecDepth 100000
open Go.RowKit Go.Shelf
set_option linter.unusedVariables false
attribute [local go_sem] Oper.semAt_some

/-- A block that is handed out: its entries, and where they lie. -/
structure BkE where
  L : List Ent
  A : Option Addr
  n : Nat
  c : Nat
def lsE (p : List BkE) : List (List Ent) := p.map (·.L)
def allE (p : List BkE) : List Ent := (lsE p).flatten
theorem lsE_snoc (p : List BkE) (x : BkE) : lsE (p ++ [x]) = lsE p ++ [x.L] := by simp [lsE]
theorem allE_snoc (p : List BkE) (x : BkE) : allE (p ++ [x]) = allE p ++ x.L := by simp [allE, lsE]
def lenV : Value → Nat | .slice _ n _ => n | _ => 0
def bkv (x : BkE) : Array Value := #[.slice x.A x.n x.c]
def XBk (n₀ : Nat) (x : BkE) (W : World) : Prop := blkB x.L = true ∧ FrE W n₀ x.A x.n x.c x.L
/-- Midway: p have come, of k bytes. -/
structure MidB (l : List UInt8) (p : List BkE) (k : Nat) : Prop where
  all : ∀ one ∈ lsE p, blkB one = true
  eq : l.take k = frL (lsE p)
  le : k ≤ l.length
theorem MidB.start (l : List UInt8) : MidB l [] 0 := ⟨fun _ h => by simp [lsE] at h, rfl, Nat.zero_le _⟩
theorem MidB.few {l : List UInt8} {p : List BkE} {k : Nat} (h : MidB l p k) : 8 * p.length ≤ l.length := by
  have h1 := (frL_len h.all).2
  have h2 : (lsE p).length = p.length := by simp [lsE]
  rw [← h.eq, List.length_take, h2] at h1
  have := h.le; omega
theorem MidB.next {l : List UInt8} {p : List BkE} {k j : Nat} (h : MidB l p k) {x : BkE} (ho : bkAt (l.drop k) = some (x.L, j)) : MidB l (p ++ [x]) (k + j) := by
  obtain ⟨h1, h2, t, h3⟩ := bkAt_iff.1 ho
  have hj := (bkAt_le ho).2.1
  rw [List.length_drop] at hj
  have hle := h.le
  refine ⟨?_, ?_, by omega⟩
  · rw [lsE_snoc]; intro one hm; rcases List.mem_append.1 hm with hm | hm
    · exact h.all one hm
    · simp at hm; subst hm; exact h1
  · rw [lsE_snoc, frL_snoc, ← h.eq, List.take_add, h3]
    congr 1
    rw [h2]
    exact List.take_left
def SBk (l : List UInt8) (p : List BkE) : Prop := ∃ k, MidB l p k ∧ bkAt (l.drop k) = none
def SpBk (l : List UInt8) (p : List BkE) : Prop := ∃ k, MidB l p k
/-- What a round keeps: what lay below n₀, and the iterator's own variable. -/
structure KpB (n₀ Bn : Nat) (W W' : World) : Prop where
  below : Below n₀ W W'
  box : Bn < W.heap.size → W'.heap[Bn]? = W.heap[Bn]?
theorem KpB.trans {n₀ Bn : Nat} {X Y Z : World} (h : KpB n₀ Bn X Y) (k : KpB n₀ Bn Y Z) : KpB n₀ Bn X Z :=
  ⟨h.below.trans k.below, fun hb => (k.box (by have := h.below.size; omega)).trans (h.box hb)⟩
theorem boxed_below {W W' : World} {B : Nat} {t : TypeId} {v : Value} (h : Boxed W B t v) (hb : Below W.heap.size W W') : Boxed W' B t v := (hb.block B h.lt).trans h

set_option maxRecDepth 100000 in
set_option maxHeartbeats 1000000 in
theorem blocks_c {w : World} {A : Option Addr} {n c : Nat} :
    Calls Tryz.prog 63 #[.slice A n c] w fun e w' => e = .returned (.func (.func 81) #[] #[.pointer (some ⟨w.heap.size, 0, none⟩)]) ∧ w.alloc (.cells #[.slice A n c] 24) = w' := by
  go_enter Tryz.func63, Tryz.ntmps63
  go_wp2
  go_ret
  exact ⟨rfl, rfl⟩

set_option maxRecDepth 100000 in
set_option maxHeartbeats 8000000 in
theorem blocks1_in (fuel : Nat) (hfu : 1 ≤ fuel) (lp Bn n₀ : Nat) {n c : Nat} {A : Option Addr} {l : List UInt8} (hn : n ≤ 1000000000) (J Jx : List BkE → World → Prop) (hJ : ∀ {s X Y}, J s X → Below X.heap.size X Y → J s Y) (hJx : ∀ {s X Y}, Jx s X → Below X.heap.size X Y → Jx s Y)
    (hY : ∀ pre x W1, J pre W1 → XBk n₀ x W1 → pre.length < l.length + 1 → YieldAt Fence.wide (fuel - 1) Tryz.prog lp (bkv x) W1 fun e W' => (e = .returned (.bool true) ∧ J (pre ++ [x]) W' ∧ KpB n₀ Bn W1 W') ∨ (e = .returned (.bool false) ∧ Jx (pre ++ [x]) W'))
    (W : World) (hbx : Boxed W Bn 24 (.slice A n c)) (hd : Rd W n₀ A n c (bv l)) (hn₀ : n₀ ≤ W.heap.size) (h0 : J [] W) :
    CallsIn Fence.wide fuel Tryz.prog 81 #[.func (.yield lp) #[] #[], .pointer (some ⟨Bn, 0, none⟩)] W fun e W' => (∃ v, e = .returned v) ∧ ((∃ xs, SBk l xs ∧ J xs W') ∨ (∃ pre, SpBk l pre ∧ Jx pre W')) := by
  refine callsIn_of_wp Tryz.func81 rfl trivial ?_ rfl
  simp only [Tryz.ntmps81, List.size_toArray, List.length_cons, List.length_nil, Nat.reduceAdd, Nat.reduceSub, Array.replicate_succ, Array.replicate_zero, List.push_toArray, List.append_toArray, List.nil_append, List.cons_append]
  have hl : l.length = n := by simpa using hd.len
  have HL := Lib.hid hl
  have HY := Lib.hid hY
  have HJ := Lib.hid (fun s X Y => @hJ s X Y)
  have HJX := Lib.hid (fun s X Y => @hJx s X Y)
  have HN := Lib.hid hn
  have hcb := hbx.cell
  clear hl hY hJ hJx hn
  gi_wp2
  gi_loopw [3] (fun u wr => ∃ (pre : List BkE) (k n1 c1 : Nat) (A1 : Option Addr), u = .slice A1 n1 c1 ∧ MidB l pre k ∧ J pre wr ∧ Rd wr n₀ A1 n1 c1 (bv (l.drop k)) ∧ n₀ ≤ wr.heap.size) (fun u _ => lenV u)
  case atStart => exact ⟨[], 0, n, c, A, rfl, MidB.start l, h0, by rw [List.drop_zero]; exact hd, hn₀⟩
  case round =>
    clear hd hbx hn₀ h0 hcb
    obtain ⟨pre, k, n1, c1, A1, rfl, hm, hJs, hd, hn₀⟩ := hrel
    have hkl := hm.le
    have hfew := hm.few
    have hl1 : (l.drop k).length = n1 := by simpa using hd.len
    have hn1 : n1 ≤ 1000000000 := by rw [List.length_drop] at hl1; have := HL.out; have := HN.out; omega
    have HR := Lib.hid ((callsIn_wide (n := fuel - 1)).2 (tnear_c hd hn₀ hn1))
    have HM := Lib.hid hm
    have HJs := Lib.hid hJs
    have HD := Lib.hid hd
    have HN0 := Lib.hid hn₀
    have HL1 := Lib.hid hl1
    have HN1 := Lib.hid hn1
    have HF := Lib.hid hfew
    clear hm hJs hd hn₀ hl1 hkl hfew
    gi_wp2_with fail
    refine ⟨trivial, HR.out.mono ?_⟩
    rintro e w1 ⟨N, rfl, hNn, hN4, hN0, hb1⟩
    have hd1 := HD.out.under hb1 HN0.out
    have hfr := hd1.front (k := N) hNn
    rw [bv_take] at hfr
    have hs1 : n₀ ≤ w1.heap.size := Nat.le_trans HN0.out hb1.size
    have HB1 := Lib.hid hb1
    have HT := Lib.hid ((callsIn_wide (n := fuel - 1)).2 (takeF_c hfr hs1 (by omega)))
    have HNEAR := Lib.hid (bkAt_near (b := l.drop k) (N := N) hN4)
    have HNN := Lib.hid (And.intro hNn (And.intro hN4 hN0))
    clear hd1 hfr hs1 hb1 hN4 hN0
    gi_wp2_with fail
    refine ⟨trivial, HT.out.mono ?_⟩
    rintro e w2 hp
    have hbw : ∀ {w2}, Below w1.heap.size w1 w2 → Below wr.heap.size wr w2 := fun h => bon HB1.out h
    cases ht : takeL ((l.drop k).take N) with
    | none =>
      obtain ⟨rfl, hb2⟩ := tkPost_no ht hp
      have hnone : bkAt (l.drop k) = none := by rw [← HNEAR.out]; unfold bkAt; rw [ht]
      have HE := Lib.hid (show (∃ v, Ending.returned (.tuple #[]) = .returned v) ∧ ((∃ xs, SBk l xs ∧ J xs w2) ∨ (∃ pre, SpBk l pre ∧ Jx pre w2)) from ⟨⟨_, rfl⟩, .inl ⟨pre, ⟨k, HM.out, hnone⟩, HJ.out _ _ _ HJs.out (hbw hb2)⟩⟩)
      clear hp ht hnone hb2 hbw
      gi_wp2_with fail
      refine bodyPost_ret (results_none rfl _ _ _) rfl ?_
      exact HE.out
    | some p =>
      obtain ⟨x, y⟩ := p
      obtain ⟨A2, n2, c2, A3, n3, c3, rfl, hf2, hf3, hb2⟩ := tkPost_to ht hp
      have hxl : x.length = n2 := by have := hf2.len; rw [bv_length] at this; exact this
      have hxb := (takeL_back ht).2
      have HP := Lib.hid ((callsIn_wide (n := fuel - 1)).2 (parse_c (hf2.rd (Nat.le_refl _)) (Nat.le_refl _) (by omega)))
      have HB2 := Lib.hid (hbw hb2)
      have HTK := Lib.hid ht
      clear hp hf2 hf3 hb2 hxl hxb ht hbw
      gi_wp2_with fail
      refine ⟨trivial, HP.out.mono ?_⟩
      rintro e w3 ⟨A4, n4, c4, rfl, hf4, hb4⟩
      have hb5 := bon HB2.out hb4
      cases hpb : parseB x with
      | none =>
        have hE : prsE x = 70 := by unfold prsE; rw [hpb]
        have hnone : bkAt (l.drop k) = none := by rw [← HNEAR.out]; unfold bkAt; rw [HTK.out]; simp only; rw [hpb]
        have HE := Lib.hid (show (∃ v, Ending.returned (.tuple #[]) = .returned v) ∧ ((∃ xs, SBk l xs ∧ J xs w3) ∨ (∃ pre, SpBk l pre ∧ Jx pre w3)) from ⟨⟨_, rfl⟩, .inl ⟨pre, ⟨k, HM.out, hnone⟩, HJ.out _ _ _ HJs.out hb5⟩⟩)
        rw [hE]
        clear hf4 hb4 hb5 hpb hE hnone
        gi_wp2_with fail
        refine ⟨fun _ h => (by cases h), ?_⟩
        gi_wp2_with fail
        refine bodyPost_ret (results_none rfl _ _ _) rfl ?_
        exact HE.out
      | some L =>
        have hE : prsE x = 0 := by unfold prsE; rw [hpb]
        have hLL : prsL x = L := by unfold prsL; rw [hpb]
        rw [hLL] at hf4
        rw [hE]
        have hone : bkAt (l.drop k) = some (L, x.length + 8) := by rw [← HNEAR.out]; unfold bkAt; rw [HTK.out]; simp only; rw [hpb]
        obtain ⟨hblk, hkk, t, htt⟩ := bkAt_iff.1 hone
        have hNx : N = x.length + 8 := by
          have h8 := bkAt_le hone
          rw [HL1.out] at h8
          have h4 := HNN.out.2.1 (by rw [HL1.out]; omega)
          have hlx : lenL (l.drop k) = x.length := by
            rw [htt, ← (parse_iff.1 hpb).2]
            exact lenL_seal (by have := blkL_len hblk; omega) t
          rw [hlx, HL1.out] at h4
          omega
        have hx4 : XBk n₀ ⟨L, A4, n4, c4⟩ w3 := ⟨hblk, hf4.mono (Nat.le_trans HN0.out HB2.out.size)⟩
        obtain ⟨fn, tmps, assign, body, hy, hR⟩ := HY.out pre ⟨L, A4, n4, c4⟩ w3 (HJ.out _ _ _ HJs.out hb5) hx4 (by have := HF.out; omega)
        unfold bkv at hy
        dsimp only at hy
        have HMN := Lib.hid (HM.out.next (x := ⟨L, A4, n4, c4⟩) hone)
        have HNX := Lib.hid (And.intro hNx (bkAt_le hone).1)
        have HB5 := Lib.hid hb5
        clear hf4 hb4 hb5 hpb hE hLL hone hblk hkk htt hx4 hNx
        gi_wp2_with fail
        refine hR.mono ?_
        rintro e w4 (⟨rfl, hJ4, hk4⟩ | ⟨rfl, hJx4⟩)
        · have hd4 := (HD.out.under HB5.out HN0.out).below hk4.below
          obtain ⟨A5, hsl, hr⟩ := hd4.slice_lo 24 5 (P := Tryz.prog) Tryz.underlying24 info_u8 .i64 (k := N) hNn
          rw [bv_drop, List.drop_drop] at hr
          have hs4 : n₀ ≤ w4.heap.size := Nat.le_trans (Nat.le_trans HN0.out HB5.out.size) hk4.below.size
          have HRR := Lib.hid hr
          clear hd4 hr hy hR hk4
          gi_wp2_with fail
          go_roundw
          case rel => exact ⟨pre ++ [⟨L, A4, n4, c4⟩], k + N, n1 - N, c1 - N, A5, rfl, by rw [HNX.out.1]; exact HMN.out, hJ4, HRR.out, hs4⟩
          case measure => have := HNX.out; simp [lenV]; omega
        · have HE := Lib.hid (show (∃ v, Ending.returned (.tuple #[]) = .returned v) ∧ ((∃ xs, SBk l xs ∧ J xs w4) ∨ (∃ pre, SpBk l pre ∧ Jx pre w4)) from ⟨⟨_, rfl⟩, .inr ⟨_, ⟨_, HMN.out⟩, hJx4⟩⟩)
          clear hy hR hJx4
          gi_wp2_with fail
          refine bodyPost_ret (results_none rfl _ _ _) rfl ?_
          exact HE.out
end Go.Proofs.YtkdjjdkcogolmaaGreatDoor
end

section
/-
  Contract: read: the entries of the blocks that bytes begin with.
-/
namespace Go.Proofs.YtkdjjdkcogolmaaGreatDoor
set_option maxRecDepth 100000
open Go.RowKit Go.Shelf
set_option linter.unusedVariables false
attribute [local go_sem] Oper.semAt_some

/-- An append of entries inside a fence. -/
theorem wpListIn_appE {F : Fence} {fuel : Nat} {ops : Array Oper} {rest : List Oper} {o : Oper} {a : Act} {Q : Exit → Act → World → Prop} {w : World} (hgd : o.guard = none) (s x : Operand)
    (ho : o.op = .call { callee := .builtin .append, args := #[s, x], argTypes := #[23, 23] })
    {b : Nat} {A : Option Addr} {n c : Nat} {L : List Ent} (hs : a.eval s = .slice A n c) (h : FrE w b A n c L)
    {B m c2 : Nat} {A2 : Option Addr} {M : List Ent} (hx : a.eval x = .slice A2 m c2) (hr : RdE w B A2 m c2 M) (hby : n + m ≤ 1000000000000) (hb : b ≤ w.heap.size)
    (hk : ∀ A' c' w', AppE w w' b (.slice A n c) A' (n + m) c' (L ++ M) → wpListIn F fuel Tryz.prog ops Q rest (a.put o.dst (.slice A' (n + m) c')) w') : wpListIn F fuel Tryz.prog ops Q (o :: rest) a w :=
  wpListIn_plain hgd fun K hK => by
    obtain ⟨A', c', w', hrun, h2⟩ := run_appE w o.type h hr hby hb
    unfold Oper.wpIn
    refine ⟨?_, ?_⟩
    · simp [Oper.about, ho, resolve, Target.leads, Sem.run_pure]
    · rw [Oper.semAt_plain F _ _ (by rw [ho]; intro c hc'; cases hc')]
      simp [execOp, ho, resolve, invoke, builtin, hs, hx, hrun, Result.andThen]
      exact hK _ _ (hk A' c' w' h2)
/-- A variable's box whose slice grows in place, or anew. -/
theorem boxed_app {W w1 : World} {n₀ B : Nat} {t e : TypeId} {size : Nat} {v v' : Value} {k m : Nat} {xs ys : List Value}
    (hv : Boxed W B t v) (hte : t ≠ e) (hrow : W.ownsRow n₀ e size v k xs) (hn₀ : n₀ ≤ W.heap.size) (hB : n₀ ≤ B)
    (hown' : w1.ownsRow n₀ e size v' m ys) (hgrow : W.grownBy w1 v.ownBlock) :
    Boxed w1 B t v ∧ Boxed (w1.setCell ⟨B, 0, none⟩ v') B t v' ∧ (w1.setCell ⟨B, 0, none⟩ v').ownsRow n₀ e size v' m ys ∧ KeepsOthers W (w1.setCell ⟨B, 0, none⟩ v') ∧ Below n₀ W (w1.setCell ⟨B, 0, none⟩ v') := by
  have hv1 : Boxed w1 B t v := hv.kept hgrow (hv.not_row hte hrow)
  refine ⟨hv1, hv1.set v', hown'.kept (grownBy_setCell' w1 B v') (.inr (hv1.not_row hte hown').symm), ?_, ?_⟩
  · refine (KeepsOthers.of_grownBy hgrow fun j o ej hj => ?_).trans (KeepsOthers.setCell _ _ _)
    rcases hrow.2 with ⟨rfl, _⟩ | ⟨g, cap, cur, rfl, _, hgb, _⟩
    · simp [Value.ownBlock] at ej
    · obtain rfl : g = j := by simpa [Value.ownBlock] using ej
      rw [hgb] at hj; cases hj; rfl
  · refine ((Below.refl n₀ W).grown hgrow hn₀ fun j ej => ?_).setCell (p := ⟨B, 0, none⟩) hB v'
    rcases hrow.2 with ⟨rfl, _⟩ | ⟨g, cap, cur, rfl, hb, _, _⟩
    · simp [Value.ownBlock] at ej
    · obtain rfl : g = j := by simpa [Value.ownBlock] using ej
      exact hb
theorem FrE.nocells {W W' : World} {b n c : Nat} {A : Option Addr} {L : List Ent} {row : Option Nat} (h : FrE W b A n c L) (hg : W.grownBy W' row) (hr : ∀ r, row = some r → ∃ o : Obj, W.heap[r]? = some o ∧ o.isCells = false) : FrE W' b A n c L := by
  refine ⟨h.own.kept hg ?_⟩
  rcases h.own.2 with ⟨e, _⟩ | ⟨g, cap, cur, e, _, hgb, _⟩
  · rw [e]; exact .inl rfl
  · refine .inr fun e' => ?_
    rw [e] at e'
    obtain ⟨o, ho, hc⟩ := hr g (by simpa [Value.ownBlock] using e'.symm)
    rw [hgb] at ho; cases ho; cases hc
theorem boxed_nocells {W W' : World} {B : Nat} {t : TypeId} {v : Value} {row : Option Nat} (h : Boxed W B t v) (hg : W.grownBy W' row) (hr : ∀ r, row = some r → ∃ o : Obj, W.heap[r]? = some o ∧ o.isCells = false) : Boxed W' B t v :=
  h.kept hg fun e' => by
    obtain ⟨o, ho, hc⟩ := hr B e'.symm
    rw [show W.heap[B]? = _ from h] at ho; cases ho; cases hc

/-- Between two rounds: what has come lies in the row. -/
structure CollB (w : World) (v : Value) (p : List BkE) (W : World) : Prop where
  row : ∃ A' c', Boxed W w.heap.size 23 (.slice A' (allE p).length c') ∧ FrE W w.heap.size A' (allE p).length c' (allE p)
  bytes : Boxed W (w.heap.size + 1) 24 v
  below : Below w.heap.size w W
  size : w.heap.size + 2 ≤ W.heap.size
theorem CollB.nocells {w W W' : World} {v : Value} {p : List BkE} {row : Option Nat} (h : CollB w v p W) (hg : W.grownBy W' row) (hr : ∀ r, row = some r → w.heap.size + 2 ≤ r ∧ ∃ o : Obj, W.heap[r]? = some o ∧ o.isCells = false) : CollB w v p W' := by
  obtain ⟨A', c', h1, h2⟩ := h.row
  have hr2 : ∀ r, row = some r → ∃ o : Obj, W.heap[r]? = some o ∧ o.isCells = false := fun r e => (hr r e).2
  exact ⟨⟨A', c', boxed_nocells h1 hg hr2, h2.nocells hg hr2⟩, boxed_nocells h.bytes hg hr2, h.below.grown hg h.below.size (fun k e => by have := (hr k e).1; omega), Nat.le_trans h.size hg.size⟩
def RdTPost (w : World) (l : List UInt8) (e : Ending) (w' : World) : Prop :=
  ∃ (A : Option Addr) (n c : Nat) (P : List (List Ent)) (u : Nat), e = .returned (.slice A n c) ∧ IsRd l P u ∧ FrE w' w.heap.size A n c P.flatten ∧ Below w.heap.size w w'

set_option maxRecDepth 100000 in
set_option maxHeartbeats 8000000 in
theorem readT_c {w : World} {n c : Nat} {A : Option Addr} {l : List UInt8} (h : Rd w w.heap.size A n c (bv l)) (hn : n ≤ 1000000000) :
    Calls Tryz.prog 35 #[.slice A n c] w (RdTPost w l) := by
  refine (callsIn_wide (n := 8)).1 ?_
  have HC := Lib.hid (fun (W : World) => (callsIn_wide (n := 7)).2 (blocks_c (w := W) (A := A) (n := n) (c := c)))
  have HN := Lib.hid hn
  have HH := Lib.hid h
  clear h hn
  refine callsIn_of_wp_marks Tryz.func35 rfl trivial ?_ rfl
  simp only [Tryz.ntmps35, List.size_toArray, List.length_cons, List.length_nil, Nat.reduceAdd, Nat.reduceSub, Array.replicate_succ, Array.replicate_zero, List.push_toArray, List.append_toArray, List.nil_append, List.cons_append]
  gi_wp2_with fail
  refine ⟨trivial, (HC.out _).mono ?_⟩
  rintro e w1 ⟨rfl, rfl⟩
  gi_wp2_with fail
  obtain ⟨W0, hW0⟩ : ∃ W0, (w.alloc (.cells #[.slice none 0 0] 23)).alloc (.cells #[.slice A n c] 24) = W0 := ⟨_, rfl⟩
  have hsz : W0.heap.size = w.heap.size + 2 := by rw [← hW0]; simp
  have hbl0 : Below w.heap.size w W0 := by rw [← hW0]; exact ((Below.refl _ w).alloc (Nat.le_refl _) _).alloc (by simp) _
  have hB1 : Boxed W0 w.heap.size 23 (.slice none 0 0) := by rw [← hW0]; exact (Boxed.new w _ _).alloc _
  have hB2 : Boxed W0 (w.heap.size + 1) 24 (.slice A n c) := by
    rw [← hW0]
    have := Boxed.new (w.alloc (.cells #[.slice none 0 0] 23)) 24 (.slice A n c)
    rw [World.size_alloc] at this
    exact this
  have hcoll : CollB w (.slice A n c) [] W0 := ⟨⟨none, 0, hB1, FrE.nil⟩, hB2, hbl0, by omega⟩
  have hseq : YieldsS Fence.wide (8 - 1) Tryz.prog 81 #[.pointer (some ⟨w.heap.size + 1, 0, none⟩)] bkv (KpB w.heap.size (w.heap.size + 1)) (fun x _ => XBk w.heap.size x) (SBk l) (SpBk l) (l.length + 1) W0 :=
    fun lp J Jx W _ hW hJ hJx hY h0 => blocks1_in (8 - 1) (by omega) lp (w.heap.size + 1) w.heap.size HN.out J Jx (fun hs hb => ofBelow hJ hs hb) (fun hs hb => ofBelow hJx hs hb) (fun pre x W1 a b c => (hY pre x W1 W1 a (Below.refl _ _) b c).mono (fun e w' h => h.elim .inl (fun h => .inr ⟨h.1, h.2.1⟩))) W (boxed_below hB2 hW) ((HH.out.below hbl0).under hW (by omega)) (by have := hW.size; omega) h0
  rw [hW0]
  clear hB1 hB2 hW0
  refine range_madeS rfl (by omega) (gf := 81) (lb := #[.pointer (some ⟨w.heap.size + 1, 0, none⟩)]) rfl trivial (enters_of Tryz.func81 (by kernel_rfl) rfl) hseq (fun h k => h.trans k)
    (fun W o o' ho hc => ⟨(Below.refl _ W).grown (grownBy_putObj' W _ o') (by have := (Array.getElem?_eq_some_iff.1 ho).1; omega) (fun k e => by cases e; omega), fun hb => World.putObj_heap_other (by omega)⟩) (fun _ => rfl)
    (fun p W => CollB w (.slice A n c) p W ∧ (allE p).length ≤ 8192) (fun c0 p W => c0 = .exit 0 ∧ CollB w (.slice A n c) p W ∧ 8192 < (allE p).length)
    (fun s X Y row hs hg hr => ⟨hs.1.nocells hg (fun r e => by have := hr r e; exact ⟨by omega, this.2⟩), hs.2⟩) (fun c0 s X Y row hs hg hr => ⟨hs.1, hs.2.1.nocells hg (fun r e => by have := hr r e; exact ⟨by omega, this.2⟩), hs.2.2⟩) ⟨hcoll, by decide⟩
    (fun x a' W => XBk w.heap.size x W ∧ a' = { tmps := #[.slice A n c, undef, .slice none 0 0, .pointer (some ⟨w.heap.size, 0, none⟩), .slice x.A x.n x.c, .slice A n c, .func (.func 81) #[] #[.pointer (some ⟨w.heap.size + 1, 0, none⟩)], .slice x.A x.n x.c, undef, undef, undef, undef, undef, undef, undef], defers := [] })
    (fun x a' s X Y row hs hg hr => ⟨⟨hs.1.1, hs.1.2.nocells hg (fun r e => (hr r e).2)⟩, hs.2⟩)
    ?assign ?body ?done ?stop
  case assign =>
    rintro lp pre ⟨L, A', n', c'⟩ _ W K _ hi _ hx hs hK
    have hk := hK { tmps := #[.slice A n c, undef, .slice none 0 0, .pointer (some ⟨w.heap.size, 0, none⟩), .slice A' n' c', .slice A n c, .func (.func 81) #[] #[.pointer (some ⟨w.heap.size + 1, 0, none⟩)], .slice A' n' c', undef, undef, undef, undef, undef, undef, undef], defers := [] }
      W (KeepsFrom.refl _ _) ⟨Below.refl _ _, fun _ => rfl⟩ hi ⟨hx, rfl⟩
    have HK := Lib.hid hk
    clear hK hk hi hx
    unfold bkv
    (try dsimp only)
    gi_wp2
    exact HK.out
  case body =>
    rintro lp pre ⟨L, A', n', c'⟩ a' W ⟨hi, hle⟩ ⟨hx, rfl⟩ hlen hsW
    (try dsimp only at hx hlen)
    obtain ⟨A1, c1, hb, hrow⟩ := hi.row
    have hcb := hb.cell
    obtain ⟨N, hN⟩ : ∃ N, (allE pre).length = N := ⟨_, rfl⟩
    rw [hN] at hb hrow hcb hle
    have hxl := hx.2.len
    have hx64 : n' ≤ 64 := by have := (blkB_iff.1 hx.1).2.1; dsimp only at this hxl; omega
    have hall : (allE (pre ++ [⟨L, A', n', c'⟩])).length = N + n' := by rw [allE_snoc, List.length_append, hN]; dsimp only at hxl ⊢; omega
    have HI := Lib.hid hi
    have HX := Lib.hid hx
    have HB := Lib.hid hb
    have HR := Lib.hid hrow
    have HALL := Lib.hid hall
    have hbn := hi.bytes
    have hi64 : (n' : Int) ≤ 64 := by omega
    have hiN : (N : Int) ≤ 8192 := by omega
    have hbs : w.heap.size ≤ W.heap.size := by omega
    clear hi hN hx hlen hseq hcoll hb hxl hall
    dsimp only
    by_cases hgo : N + n' ≤ 8192
    · have d1 : decide ((8192 : Int) < (N : Int) + (n' : Int)) = false := by simp; omega
      have d2 : decide (8192 < N + n') = false := by simp; omega
      gi_wp2_with (gi_at_builtin; refine wpListIn_appE rfl (.tmp 8) (.tmp 9) rfl rfl HR.out rfl (HX.out.2.rd (Nat.le_refl _)) (by omega) hbs ?_; intro A2 c2 w1 hap; obtain ⟨hv1, hv2, hr2, hk2, hb2⟩ := boxed_app HB.out (by decide) HR.out.own hbs (Nat.le_refl _) hap.fr.own hap.grown; have hbn1 : Boxed w1 (w.heap.size + 1) 24 (.slice A n c) := hbn.kept hap.grown (hbn.not_row (by decide) HR.out.own); have hc1 := hv1.cell; have hf1 := hv1.frozen; have hc2 := hv2.cell)
      refine ⟨hk2.from _, ⟨hb2, fun hlt => ((hbn1.other (by omega) _ : Boxed _ _ _ _).trans hbn.symm)⟩, ⟨⟨A2, c2, ?_, ?_⟩, hbn1.other (by omega) _, HI.out.below.trans hb2, Nat.le_trans HI.out.size hb2.size⟩, by rw [HALL.out]; exact hgo⟩
      · rw [HALL.out]; exact hv2
      · rw [HALL.out, allE_snoc]; exact ⟨hr2⟩
    · have d1 : decide ((8192 : Int) < (N : Int) + (n' : Int)) = true := by simp; omega
      have d2 : decide (8192 < N + n') = true := by simp; omega
      gi_wp2_with (gi_at_builtin; refine wpListIn_appE rfl (.tmp 8) (.tmp 9) rfl rfl HR.out rfl (HX.out.2.rd (Nat.le_refl _)) (by omega) hbs ?_; intro A2 c2 w1 hap; obtain ⟨hv1, hv2, hr2, hk2, hb2⟩ := boxed_app HB.out (by decide) HR.out.own hbs (Nat.le_refl _) hap.fr.own hap.grown; have hbn1 : Boxed w1 (w.heap.size + 1) 24 (.slice A n c) := hbn.kept hap.grown (hbn.not_row (by decide) HR.out.own); have hc1 := hv1.cell; have hf1 := hv1.frozen; have hc2 := hv2.cell)
      refine ⟨hk2.from _, ⟨hb2, fun hlt => ((hbn1.other (by omega) _ : Boxed _ _ _ _).trans hbn.symm)⟩, rfl, ⟨⟨A2, c2, ?_, ?_⟩, hbn1.other (by omega) _, HI.out.below.trans hb2, Nat.le_trans HI.out.size hb2.size⟩, by rw [HALL.out]; omega⟩
      · rw [HALL.out]; exact hv2
      · rw [HALL.out, allE_snoc]; exact ⟨hr2⟩
  case done =>
    rintro D ys W hD ⟨k, hm, hnone⟩ ⟨hi, hle⟩ hK
    obtain ⟨A1, c1, hb, hrow⟩ := hi.row
    have hcb := hb.cell
    have hrd : IsRd l (lsE ys) k := ⟨hm.all, hm.eq, hm.le, .inr hnone⟩
    obtain ⟨N, hN⟩ : ∃ N, (allE ys).length = N := ⟨_, rfl⟩
    rw [hN] at hb hrow hcb
    have HI := Lib.hid hi
    have HR := Lib.hid hrow
    have HRD := Lib.hid hrd
    clear hi hrow hrd hseq hcoll hb hm hnone hN hle
    gi_wp2_with fail
    refine ⟨by simp, .inl ⟨_, _, rfl, run_takeDeferred (w := W) hK, ?_⟩⟩
    exact ⟨_, results_tmp rfl _ _ _, A1, N, c1, lsE ys, k, rfl, HRD.out, FrE.nocells HR.out (grownBy_putObj' W D (.deferred none)) (fun r e => by cases e; exact ⟨_, hK, rfl⟩), HI.out.below.trans (belowK_b (w := W0) (by omega) W D _ _ hD hK rfl rfl)⟩
  case stop =>
    rintro D c0 ys W hD ⟨k, hm⟩ ⟨rfl, hi, hle⟩ hK
    obtain ⟨A1, c1, hb, hrow⟩ := hi.row
    have hcb := hb.cell
    have hrd : IsRd l (lsE ys) k := ⟨hm.all, hm.eq, hm.le, .inl hle⟩
    obtain ⟨N, hN⟩ : ∃ N, (allE ys).length = N := ⟨_, rfl⟩
    rw [hN] at hb hrow hcb
    have HI := Lib.hid hi
    have HR := Lib.hid hrow
    have HRD := Lib.hid hrd
    clear hi hrow hrd hseq hcoll hb hm hN hle
    gi_wp2_with fail
    refine ⟨by simp, .inl ⟨_, _, rfl, run_takeDeferred (w := W) hK, ?_⟩⟩
    exact ⟨_, results_tmp rfl _ _ _, A1, N, c1, lsE ys, k, rfl, HRD.out, FrE.nocells HR.out (grownBy_putObj' W D (.deferred none)) (fun r e => by cases e; exact ⟨_, hK, rfl⟩), HI.out.below.trans (belowK_b (w := W0) (by omega) W D _ _ hD hK rfl rfl)⟩
end Go.Proofs.YtkdjjdkcogolmaaGreatDoor
end
