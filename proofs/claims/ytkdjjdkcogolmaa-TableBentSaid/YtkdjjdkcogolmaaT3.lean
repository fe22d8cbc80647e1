/-
  Contracts: the blocks that bytes begin with; read.
-/
import Derived.Test.YtkdjjdkcogolmaaTW
import Derived.Test.YtkdjjdkcogolmaaBF
import Derived.Shelf.Abstract
import Derived.Shelf.RegionOpen
import Derived.OwnWalkIn
import Derived.TacticsInMore
import Derived.LoopNIn
import Derived.LoopIn
import Derived.Maps.AppendAt
import Derived.BigRegionIn
namespace Go.Proofs.Ytkdjjdkcogolmaa
set_option maxRecDepth 100000
open Go.RowKit Go.Shelf
set_option linter.unusedVariables false
attribute [local go_sem] Oper.semAt_some

/-- A block that is handed out: its entries, and where they lie. -/
structure BkE where
  L : List Ent
  A : Option Addr
  n : Nat
  c : Nat
def lsE (p : List BkE) : List (List Ent) := p.map (·.L)
def allE (p : List BkE) : List Ent := (lsE p).flatten
theorem lsE_snoc (p : List BkE) (x : BkE) : lsE (p ++ [x]) = lsE p ++ [x.L] := by simp [lsE]
theorem allE_snoc (p : List BkE) (x : BkE) : allE (p ++ [x]) = allE p ++ x.L := by simp [allE, lsE]
def lenV : Value → Nat | .slice _ n _ => n | _ => 0
def bkv (x : BkE) : Array Value := #[.slice x.A x.n x.c]
def XBk (n₀ : Nat) (x : BkE) (W : World) : Prop := blkB x.L = true ∧ FrE W n₀ x.A x.n x.c x.L
/-- Midway: p have come, of k bytes. -/
structure MidB (l : List UInt8) (p : List BkE) (k : Nat) : Prop where
  all : ∀ one ∈ lsE p, blkB one = true
  eq : l.take k = frL (lsE p)
  le : k ≤ l.length
theorem MidB.start (l : List UInt8) : MidB l [] 0 := ⟨fun _ h => by simp [lsE] at h, rfl, Nat.zero_le _⟩
theorem MidB.few {l : List UInt8} {p : List BkE} {k : Nat} (h : MidB l p k) : 8 * p.length ≤ l.length := by
  have h1 := (frL_len h.all).2
  have h2 : (lsE p).length = p.length := by simp [lsE]
  rw [← h.eq, List.length_take, h2] at h1
  have := h.le; omega
theorem MidB.next {l : List UInt8} {p : List BkE} {k j : Nat} (h : MidB l p k) {x : BkE} (ho : bkAt (l.drop k) = some (x.L, j)) : MidB l (p ++ [x]) (k + j) := by
  obtain ⟨h1, h2, t, h3⟩ := bkAt_iff.1 ho
  have hj := (bkAt_le ho).2.1
  rw [List.length_drop] at hj
  have hle := h.le
  refine ⟨?_, ?_, by omega⟩
  · rw [lsE_snoc]; intro one hm; rcases List.mem_append.1 hm with hm | hm
    · exact h.all one hm
    · simp at hm; subst hm; exact h1
  · rw [lsE_snoc, frL_snoc, ← h.eq, List.take_add, h3]
    congr 1
    rw [h2]
    exact List.take_left
def SBk (l : List UInt8) (p : List BkE) : Prop := ∃ k, MidB l p k ∧ bkAt (l.drop k) = none
def SpBk (l : List UInt8) (p : List BkE) : Prop := ∃ k, MidB l p k
/-- What a round keeps: what lay below n₀, and the iterator's own variable. -/
structure KpB (n₀ Bn : Nat) (W W' : World) : Prop where
  below : Below n₀ W W'
  box : Bn < W.heap.size → W'.heap[Bn]? = W.heap[Bn]?
theorem KpB.trans {n₀ Bn : Nat} {X Y Z : World} (h : KpB n₀ Bn X Y) (k : KpB n₀ Bn Y Z) : KpB n₀ Bn X Z :=
  ⟨h.below.trans k.below, fun hb => (k.box (by have := h.below.size; omega)).trans (h.box hb)⟩
theorem boxed_below {W W' : World} {B : Nat} {t : TypeId} {v : Value} (h : Boxed W B t v) (hb : Below W.heap.size W W') : Boxed W' B t v := (hb.block B h.lt).trans h

set_option maxRecDepth 100000 in
set_option maxHeartbeats 1000000 in
theorem blocks_c {w : World} {A : Option Addr} {n c : Nat} :
    Calls Try.prog 32 #[.slice A n c] w fun e w' => e = .returned (.func (.func 45) #[] #[.pointer (some ⟨w.heap.size, 0, none⟩)]) ∧ w.alloc (.cells #[.slice A n c] 23) = w' := by
  go_enter Try.func32, Try.ntmps32
  go_wp2
  go_ret
  exact ⟨rfl, rfl⟩

set_option maxRecDepth 100000 in
set_option maxHeartbeats 8000000 in
theorem blocks1_in (fuel : Nat) (hfu : 1 ≤ fuel) (lp Bn n₀ : Nat) {n c : Nat} {A : Option Addr} {l : List UInt8} (hn : n ≤ 1000000000) (J Jx : List BkE → World → Prop) (hJ : ∀ {s X Y}, J s X → Below X.heap.size X Y → J s Y) (hJx : ∀ {s X Y}, Jx s X → Below X.heap.size X Y → Jx s Y)
    (hY : ∀ pre x W1, J pre W1 → XBk n₀ x W1 → pre.length < l.length + 1 → YieldAt Fence.wide (fuel - 1) Try.prog lp (bkv x) W1 fun e W' => (e = .returned (.bool true) ∧ J (pre ++ [x]) W' ∧ KpB n₀ Bn W1 W') ∨ (e = .returned (.bool false) ∧ Jx (pre ++ [x]) W'))
    (W : World) (hbx : Boxed W Bn 23 (.slice A n c)) (hd : Rd W n₀ A n c (bv l)) (hn₀ : n₀ ≤ W.heap.size) (h0 : J [] W) :
    CallsIn Fence.wide fuel Try.prog 45 #[.func (.yield lp) #[] #[], .pointer (some ⟨Bn, 0, none⟩)] W fun e W' => (∃ v, e = .returned v) ∧ ((∃ xs, SBk l xs ∧ J xs W') ∨ (∃ pre, SpBk l pre ∧ Jx pre W')) := by
  refine callsIn_of_wp Try.func45 rfl trivial ?_ rfl
  simp only [Try.ntmps45, List.size_toArray, List.length_cons, List.length_nil, Nat.reduceAdd, Nat.reduceSub, Array.replicate_succ, Array.replicate_zero, List.push_toArray, List.append_toArray, List.nil_append, List.cons_append]
  have hl : l.length = n := by simpa using hd.len
  have HL := Lib.hid hl
  have HY := Lib.hid hY
  have HJ := Lib.hid (fun s X Y => @hJ s X Y)
  have HJX := Lib.hid (fun s X Y => @hJx s X Y)
  have HN := Lib.hid hn
  have hcb := hbx.cell
  clear hl hY hJ hJx hn
  gi_wp2
  gi_loopw [3] (fun u wr => ∃ (pre : List BkE) (k n1 c1 : Nat) (A1 : Option Addr), u = .slice A1 n1 c1 ∧ MidB l pre k ∧ J pre wr ∧ Rd wr n₀ A1 n1 c1 (bv (l.drop k)) ∧ n₀ ≤ wr.heap.size) (fun u _ => lenV u)
  case atStart => exact ⟨[], 0, n, c, A, rfl, MidB.start l, h0, by rw [List.drop_zero]; exact hd, hn₀⟩
  case round =>
    clear hd hbx hn₀ h0 hcb
    obtain ⟨pre, k, n1, c1, A1, rfl, hm, hJs, hd, hn₀⟩ := hrel
    have hkl := hm.le
    have hfew := hm.few
    have hl1 : (l.drop k).length = n1 := by simpa using hd.len
    have hn1 : n1 ≤ 1000000000 := by rw [List.length_drop] at hl1; have := HL.out; have := HN.out; omega
    have HR := Lib.hid ((callsIn_wide (n := fuel - 1)).2 (tnear_c hd hn₀ hn1))
    have HM := Lib.hid hm
    have HJs := Lib.hid hJs
    have HD := Lib.hid hd
    have HN0 := Lib.hid hn₀
    have HL1 := Lib.hid hl1
    have HN1 := Lib.hid hn1
    have HF := Lib.hid hfew
    clear hm hJs hd hn₀ hl1 hkl hfew
    gi_wp2_with fail
    refine ⟨trivial, HR.out.mono ?_⟩
    rintro e w1 ⟨N, rfl, hNn, hN4, hN0, hb1⟩
    have hd1 := HD.out.under hb1 HN0.out
    have hfr := hd1.front (k := N) hNn
    rw [bv_take] at hfr
    have hs1 : n₀ ≤ w1.heap.size := Nat.le_trans HN0.out hb1.size
    have HB1 := Lib.hid hb1
    have HT := Lib.hid ((callsIn_wide (n := fuel - 1)).2 (takeF_c hfr hs1 (by omega)))
    have HNEAR := Lib.hid (bkAt_near (b := l.drop k) (N := N) hN4)
    have HNN := Lib.hid (And.intro hNn (And.intro hN4 hN0))
    clear hd1 hfr hs1 hb1 hN4 hN0
    gi_wp2_with fail
    refine ⟨trivial, HT.out.mono ?_⟩
    rintro e w2 hp
    have hbw : ∀ {w2}, Below w1.heap.size w1 w2 → Below wr.heap.size wr w2 := fun h => bon HB1.out h
    cases ht : takeL ((l.drop k).take N) with
    | none =>
      obtain ⟨rfl, hb2⟩ := tkPost_no ht hp
      have hnone : bkAt (l.drop k) = none := by rw [← HNEAR.out]; unfold bkAt; rw [ht]
      have HE := Lib.hid (show (∃ v, Ending.returned (.tuple #[]) = .returned v) ∧ ((∃ xs, SBk l xs ∧ J xs w2) ∨ (∃ pre, SpBk l pre ∧ Jx pre w2)) from ⟨⟨_, rfl⟩, .inl ⟨pre, ⟨k, HM.out, hnone⟩, HJ.out _ _ _ HJs.out (hbw hb2)⟩⟩)
      clear hp ht hnone hb2 hbw
      gi_wp2_with fail
      refine bodyPost_ret (results_none rfl _ _ _) rfl ?_
      exact HE.out
    | some p =>
      obtain ⟨x, y⟩ := p
      obtain ⟨A2, n2, c2, A3, n3, c3, rfl, hf2, hf3, hb2⟩ := tkPost_to ht hp
      have hxl : x.length = n2 := by have := hf2.len; rw [bv_length] at this; exact this
      have hxb := (takeL_back ht).2
      have HP := Lib.hid ((callsIn_wide (n := fuel - 1)).2 (parse_c (hf2.rd (Nat.le_refl _)) (Nat.le_refl _) (by omega)))
      have HB2 := Lib.hid (hbw hb2)
      have HTK := Lib.hid ht
      clear hp hf2 hf3 hb2 hxl hxb ht hbw
      gi_wp2_with fail
      refine ⟨trivial, HP.out.mono ?_⟩
      rintro e w3 ⟨A4, n4, c4, rfl, hf4, hb4⟩
      have hb5 := bon HB2.out hb4
      cases hpb : parseB x with
      | none =>
        have hE : prsE x = 70 := by unfold prsE; rw [hpb]
        have hnone : bkAt (l.drop k) = none := by rw [← HNEAR.out]; unfold bkAt; rw [HTK.out]; simp only; rw [hpb]
        have HE := Lib.hid (show (∃ v, Ending.returned (.tuple #[]) = .returned v) ∧ ((∃ xs, SBk l xs ∧ J xs w3) ∨ (∃ pre, SpBk l pre ∧ Jx pre w3)) from ⟨⟨_, rfl⟩, .inl ⟨pre, ⟨k, HM.out, hnone⟩, HJ.out _ _ _ HJs.out hb5⟩⟩)
        rw [hE]
        clear hf4 hb4 hb5 hpb hE hnone
        gi_wp2_with fail
        refine ⟨fun _ h => (by cases h), ?_⟩
        gi_wp2_with fail
        refine bodyPost_ret (results_none rfl _ _ _) rfl ?_
        exact HE.out
      | some L =>
        have hE : prsE x = 0 := by unfold prsE; rw [hpb]
        have hLL : prsL x = L := by unfold prsL; rw [hpb]
        rw [hLL] at hf4
        rw [hE]
        have hone : bkAt (l.drop k) = some (L, x.length + 8) := by rw [← HNEAR.out]; unfold bkAt; rw [HTK.out]; simp only; rw [hpb]
        obtain ⟨hblk, hkk, t, htt⟩ := bkAt_iff.1 hone
        have hNx : N = x.length + 8 := by
          have h8 := bkAt_le hone
          rw [HL1.out] at h8
          have h4 := HNN.out.2.1 (by rw [HL1.out]; omega)
          have hlx : lenL (l.drop k) = x.length := by
            rw [htt, ← (parse_iff.1 hpb).2]
            exact lenL_seal (by have := blkL_len hblk; omega) t
          rw [hlx, HL1.out] at h4
          omega
        have hx4 : XBk n₀ ⟨L, A4, n4, c4⟩ w3 := ⟨hblk, hf4.mono (Nat.le_trans HN0.out HB2.out.size)⟩
        obtain ⟨fn, tmps, assign, body, hy, hR⟩ := HY.out pre ⟨L, A4, n4, c4⟩ w3 (HJ.out _ _ _ HJs.out hb5) hx4 (by have := HF.out; omega)
        unfold bkv at hy
        dsimp only at hy
        have HMN := Lib.hid (HM.out.next (x := ⟨L, A4, n4, c4⟩) hone)
        have HNX := Lib.hid (And.intro hNx (bkAt_le hone).1)
        have HB5 := Lib.hid hb5
        clear hf4 hb4 hb5 hpb hE hLL hone hblk hkk htt hx4 hNx
        gi_wp2_with fail
        refine hR.mono ?_
        rintro e w4 (⟨rfl, hJ4, hk4⟩ | ⟨rfl, hJx4⟩)
        · have hd4 := (HD.out.under HB5.out HN0.out).below hk4.below
          obtain ⟨A5, hsl, hr⟩ := hd4.slice_lo 23 5 (P := Try.prog) Try.underlying23 info_u8 .i64 (k := N) hNn
          rw [bv_drop, List.drop_drop] at hr
          have hs4 : n₀ ≤ w4.heap.size := Nat.le_trans (Nat.le_trans HN0.out HB5.out.size) hk4.below.size
          have HRR := Lib.hid hr
          clear hd4 hr hy hR hk4
          gi_wp2_with fail
          go_roundw
          case rel => exact ⟨pre ++ [⟨L, A4, n4, c4⟩], k + N, n1 - N, c1 - N, A5, rfl, by rw [HNX.out.1]; exact HMN.out, hJ4, HRR.out, hs4⟩
          case measure => have := HNX.out; simp [lenV]; omega
        · have HE := Lib.hid (show (∃ v, Ending.returned (.tuple #[]) = .returned v) ∧ ((∃ xs, SBk l xs ∧ J xs w4) ∨ (∃ pre, SpBk l pre ∧ Jx pre w4)) from ⟨⟨_, rfl⟩, .inr ⟨_, ⟨_, HMN.out⟩, hJx4⟩⟩)
          clear hy hR hJx4
          gi_wp2_with fail
          refine bodyPost_ret (results_none rfl _ _ _) rfl ?_
          exact HE.out
end Go.Proofs.Ytkdjjdkcogolmaa
