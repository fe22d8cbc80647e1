/-
  Contracts: the program's join, over any iterator of bytes.
-/
import Derived.Test.YtpligjdpofcbbaaFr1
import Derived.RangeFuncNested
import Derived.RangeFuncBound
import Derived.RangeFuncCalls
import Derived.RangeFuncLeaves
import Derived.Shelf.Abstract
import Derived.Shelf.RegionOpen
import Derived.OwnWalkIn
import Derived.TacticsInMore
import Derived.LoopNIn
import Derived.LoopIn
import Derived.Maps.AppendAt
namespace Go.Proofs.Ytpligjdpofcbbaa
open Go.RowKit Go.Shelf

attribute [local go_sem] Oper.semAt_some

set_option maxRecDepth 100000 in
set_option maxHeartbeats 2000000 in
theorem join_in (F : Fence) (fuel : Nat) (hf : F.fn 24) (gf : Nat) (hgf : F.fn gf) (hro : F.round = none) (hfu : 3 ≤ fuel)
    {w : World} {B n c : Nat} {A : Option Addr} {l : List UInt8} (h : Rd w B A n c (bv l)) (hB : B ≤ w.heap.size) (hn : n ≤ 70368744177664) (more : Nat) (hmore : more ≤ 70000) (lb : Array Value) (ys : List UInt8) (hys : ys.length ≤ 10)
    (eg : ∀ args w, (callFunc gf args).run Try.prog w = .ok (.enter gf args) w)
    (hseq : ∀ w0, Below w.heap.size w w0 → SeqStopsK F (fuel - 1) Try.prog gf lb (fun x : UInt8 => #[Value.int .u8 (x.toNat : Int)]) (Below w.heap.size) (fun zs => zs = ys) (fun _ => True) ys.length w0) :
    CallsIn F fuel Try.prog 24 #[.slice A n c, .func (.func gf) #[] lb, .int .i64 (more : Int)] w (RetB w (l ++ ys)) := by
  have h1 : 1 ≤ fuel := by omega
  obtain ⟨i0, hi, hz0, hz1, hz2⟩ := info_parts info_u8
  have hl : l.length = n := by simpa using h.len
  have HL := Lib.hid hl
  have HN := Lib.hid hn
  have HY := Lib.hid hys
  clear hl hn hys
  refine callsIn_of_wp_marks Try.func24 rfl hf ?_ hro
  simp only [Try.ntmps24, List.size_toArray, List.length_cons, List.length_nil, Nat.reduceAdd, Nat.reduceSub, Array.replicate_succ, Array.replicate_zero, List.push_toArray, List.append_toArray, List.nil_append, List.cons_append]
  have hni : (n : Int) ≤ 70368744177664 := by have := HN.out; omega
  gi_wp2_with (first | (gi_at_make; refine wpListIn_make_own _ rfl _ _ 22 rfl w.heap.size 5 i0 (.int .u8 0) 1 Try.underlying22 hi hz0 hz1 .i64 .i64 _ (n + 10 + more) rfl rfl (by omega) (by rw [hz2]; omega) (by unfold maxLen; omega) (Nat.le_refl _) ?_; intro w1 hown1 hg1; have hb1 : Below w.heap.size w w1 := (Below.refl _ w).grown hg1 (Nat.le_refl _) (fun k e => by cases e)) | (gi_at_builtin; refine wpListIn_app rfl (.tmp 14) (.tmp 15) _ rfl Try.underlying22 info_u8 rfl rfl ⟨hown1⟩ rfl (h.under hb1 hB) (bv_one _) (by omega) (by omega) hb1.size ?_; intro A2 c2 w2 hap))
  have hfr := hap.fr
  rw [Nat.zero_add, List.nil_append] at hfr
  have hb2 : Below w.heap.size w w2 := hb1.trans hap.below
  have hbs2 := hb2.size
  have bO := Boxed.new w2 22 (.slice A2 n c2)
  have hB0 : Below w.heap.size w (w2.alloc (.cells #[.slice A2 n c2] 22)) := hb2.alloc hb2.size _
  have hs0 := hseq _ hB0
  clear hap hown1 hg1 hseq
  refine wpIn_rangeFunc_ownG hro h1 (gf := gf) (lb := lb) rfl hgf eg hs0 belowK_t (belowK_b (by simp; omega)) (Below.refl _ _) (fun _ => rfl)
    (fun pre W => (∃ v, Boxed W w2.heap.size 22 v ∧ W.ownsRow w.heap.size 5 1 v (l ++ pre).length (bv (l ++ pre)) ∧ True) ∧ Below w.heap.size w W)
    (fun _ _ _ => False)
    (OwnFrom.and (Own.from (holdsRow_own w.heap.size w2.heap.size 22 5 1 (fun pre => (l ++ pre).length) (fun pre => bv (l ++ pre)) (fun _ _ => True)) _) (ownFrom_below (Nat.le_refl _) (by simp; omega)))
    (fun _ _ _ _ _ hs _ _ => hs)
    ⟨⟨_, bO, by have := (hfr.alloc (.cells #[.slice A2 n c2] 22)).own; simpa [HL.out] using this, trivial⟩, hB0⟩
    (fun x => { tmps := #[Value.slice A n c, Value.func (Fn.func gf) #[] lb, Value.int IntKind.i64 (more : Int), undef, undef, undef,
          Value.slice none 0 0, Value.pointer (some { block := w2.heap.size, off := 0 }), Value.int .u8 (x.toNat : Int), Value.slice A n c,
          Value.int IntKind.i64 (n : Int), Value.int IntKind.i64 ((n : Int) + 10), Value.int IntKind.i64 (more : Int),
          Value.int IntKind.i64 ((n : Int) + 10 + (more : Int)),
          Value.slice (some { block := w.heap.size, off := 0 }) 0 (n + 10 + more), Value.slice A n c,
          Value.slice A2 n c2, Value.func (Fn.func gf) #[] lb, Value.int .u8 (x.toNat : Int), undef, undef, undef, undef, undef], defers := [] }) ?assign ?body ?done ?stop
  case assign =>
    intro l x W K hK
    gi_wp2
    exact hK
  case body =>
    rintro lp pre x W ⟨⟨v, hv, hrow, -⟩, hB⟩ hlt
    have hc := hv.cell
    have hBs := hB.size
    obtain ⟨N, hN⟩ : ∃ N, (l ++ pre).length = N := ⟨_, rfl⟩
    have hpl : N ≤ 70368744177674 := by have := HL.out; have := HN.out; have := HY.out; simp at hN; omega
    rw [hN] at hrow
    have HNN := Lib.hid hN
    clear hN
    gi_wp2_with (gi_at_builtin; refine wpListIn_append_own _ rfl _ _ 22 rfl w.heap.size 5 i0 (.int .u8 0) 1 1 Try.underlying22 hi hz0 hz1 hz2 rfl (by decide) _ _ _ rfl (hrow.alloc _) ⟨W.heap.size, 0, none⟩ 1 1 [.int .u8 (x.toNat : Int)] rfl rfl (cell_one_new _ _ _) (by simp [Value.oneCell']) (by unfold maxLen; omega) (by omega) (by simp; omega) ?_; intro v' w1 hown' hgrow _; obtain ⟨g', cap', rfl⟩ := ownsRow_succ hown'; obtain ⟨hv1, hv2, hr2, hk2, hb2⟩ := hv.appended (by decide) hrow hB.size hbs2 hown' hgrow; have hc1 := hv1.cell; have hf1 := hv1.frozen)
    exact ⟨hk2.from _, hb2, ⟨⟨_, hv2, by rw [show (l ++ (pre ++ [x])).length = N + 1 by rw [← HNN.out]; simp; omega, show bv (l ++ (pre ++ [x])) = bv (l ++ pre) ++ [Value.int .u8 (x.toNat : Int)] by simp [bv, b8]]; exact hr2, trivial⟩, hB.trans hb2⟩⟩
  case done =>
    rintro D ys' W hD rfl ⟨⟨v, hv, hrow, -⟩, hB⟩ hK
    have hform : ∃ A' c', v = .slice A' (l ++ ys').length c' := by
      rcases hrow.2 with ⟨e, h0⟩ | ⟨g, cap, cur, e, _⟩
      · exact ⟨none, 0, by rw [e, h0]⟩
      · exact ⟨_, _, e⟩
    obtain ⟨A', c', rfl⟩ := hform
    have hc := hv.cell
    obtain ⟨N, hN⟩ : ∃ N, (l ++ ys').length = N := ⟨_, rfl⟩
    rw [hN] at hrow hc
    clear hN hv
    gi_wp2
    refine ⟨by simp, .inl ⟨_, _, rfl, run_takeDeferred hK, ?_⟩⟩
    exact ⟨_, results_tmp rfl _ _ _, A', _, c', rfl, ⟨ownsRow_putObj hrow _ hK rfl⟩, hB.trans (belowK_b (w := w) (Nat.le_refl _) W D _ _ (by simp at hD; omega) hK rfl rfl)⟩
  case stop =>
    rintro D c pre W _ _ h _
    exact h.elim
end Go.Proofs.Ytpligjdpofcbbaa
