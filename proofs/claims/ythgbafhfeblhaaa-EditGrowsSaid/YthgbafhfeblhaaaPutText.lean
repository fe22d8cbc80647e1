/-
  The texts Join, Iter, PutText, in one.
-/
import Derived.Test.YthgbafhfeblhaaaDev3
import Derived.RangeFuncNested
import Derived.RangeFuncBound
import Derived.RangeFuncCalls
import Derived.RangeFuncLeaves
import Derived.Shelf.Abstract
import Derived.Shelf.RegionOpen
import Derived.OwnWalkIn
import Derived.TacticsInMore
import Derived.LoopNIn
import Derived.LoopIn
import Derived.Maps.AppendAt
section
/-
  Contracts: the program's join, over any iterator of bytes.
-/
namespace Go.Proofs.Ythgbafhfeblhaaa
set_option maxRecDepth 100000
open Go.RowKit Go.Shelf

attribute [local go_sem] Oper.semAt_some

set_option maxRecDepth 100000 in
set_option maxHeartbeats 2000000 in
theorem join_in (F : Fence) (fuel : Nat) (hf : F.fn 62) (gf : Nat) (hgf : F.fn gf) (hro : F.round = none) (hfu : 3 ≤ fuel)
    {w : World} {B n c : Nat} {A : Option Addr} {l : List UInt8} (h : Rd w B A n c (bv l)) (hB : B ≤ w.heap.size) (hn : n ≤ 70368744177664) (more : Nat) (hmore : more ≤ 70000) (lb : Array Value) (ys : List UInt8) (hys : ys.length ≤ 10)
    (eg : ∀ args w, (callFunc gf args).run Try.prog w = .ok (.enter gf args) w)
    (hseq : ∀ w0, Below w.heap.size w w0 → SeqStopsK F (fuel - 1) Try.prog gf lb (fun x : UInt8 => #[Value.int .u8 (x.toNat : Int)]) (Below w.heap.size) (fun zs => zs = ys) (fun _ => True) ys.length w0) :
    CallsIn F fuel Try.prog 62 #[.slice A n c, .func (.func gf) #[] lb, .int .i64 (more : Int)] w (RetB w (l ++ ys)) := by
  have h1 : 1 ≤ fuel := by omega
  obtain ⟨i0, hi, hz0, hz1, hz2⟩ := info_parts info_u8
  have hl : l.length = n := by simpa using h.len
  have HL := Lib.hid hl
  have HN := Lib.hid hn
  have HY := Lib.hid hys
  clear hl hn hys
  refine callsIn_of_wp_marks Try.func62 rfl hf ?_ hro
  simp only [Try.ntmps62, List.size_toArray, List.length_cons, List.length_nil, Nat.reduceAdd, Nat.reduceSub, Array.replicate_succ, Array.replicate_zero, List.push_toArray, List.append_toArray, List.nil_append, List.cons_append]
  have hni : (n : Int) ≤ 70368744177664 := by have := HN.out; omega
  gi_wp2_with (first | (gi_at_make; refine wpListIn_make_own _ rfl _ _ 26 rfl w.heap.size 5 i0 (.int .u8 0) 1 Try.underlying26 hi hz0 hz1 .i64 .i64 _ (n + 10 + more) rfl rfl (by omega) (by rw [hz2]; omega) (by unfold maxLen; omega) (Nat.le_refl _) ?_; intro w1 hown1 hg1; have hb1 : Below w.heap.size w w1 := (Below.refl _ w).grown hg1 (Nat.le_refl _) (fun k e => by cases e)) | (gi_at_builtin; refine wpListIn_app rfl (.tmp 14) (.tmp 15) _ rfl Try.underlying26 info_u8 rfl rfl ⟨hown1⟩ rfl (h.under hb1 hB) (bv_one _) (by omega) (by omega) hb1.size ?_; intro A2 c2 w2 hap))
  have hfr := hap.fr
  rw [Nat.zero_add, List.nil_append] at hfr
  have hb2 : Below w.heap.size w w2 := hb1.trans hap.below
  have hbs2 := hb2.size
  have bO := Boxed.new w2 26 (.slice A2 n c2)
  have hB0 : Below w.heap.size w (w2.alloc (.cells #[.slice A2 n c2] 26)) := hb2.alloc hb2.size _
  have hs0 := hseq _ hB0
  clear hap hown1 hg1 hseq
  refine wpIn_rangeFunc_ownG hro h1 (gf := gf) (lb := lb) rfl hgf eg hs0 belowK_t (belowK_b (by simp; omega)) (Below.refl _ _) (fun _ => rfl)
    (fun pre W => (∃ v, Boxed W w2.heap.size 26 v ∧ W.ownsRow w.heap.size 5 1 v (l ++ pre).length (bv (l ++ pre)) ∧ True) ∧ Below w.heap.size w W)
    (fun _ _ _ => False)
    (OwnFrom.and (Own.from (holdsRow_own w.heap.size w2.heap.size 26 5 1 (fun pre => (l ++ pre).length) (fun pre => bv (l ++ pre)) (fun _ _ => True)) _) (ownFrom_below (Nat.le_refl _) (by simp; omega)))
    (fun _ _ _ _ _ hs _ _ => hs)
    ⟨⟨_, bO, by have := (hfr.alloc (.cells #[.slice A2 n c2] 26)).own; simpa [HL.out] using this, trivial⟩, hB0⟩
    (fun x => { tmps := #[Value.slice A n c, Value.func (Fn.func gf) #[] lb, Value.int IntKind.i64 (more : Int), undef, undef, undef,
          Value.slice none 0 0, Value.pointer (some { block := w2.heap.size, off := 0 }), Value.int .u8 (x.toNat : Int), Value.slice A n c,
          Value.int IntKind.i64 (n : Int), Value.int IntKind.i64 ((n : Int) + 10), Value.int IntKind.i64 (more : Int),
          Value.int IntKind.i64 ((n : Int) + 10 + (more : Int)),
          Value.slice (some { block := w.heap.size, off := 0 }) 0 (n + 10 + more), Value.slice A n c,
          Value.slice A2 n c2, Value.func (Fn.func gf) #[] lb, Value.int .u8 (x.toNat : Int), undef, undef, undef, undef, undef], defers := [] }) ?assign ?body ?done ?stop
  case assign =>
    intro l x W K hK
    gi_wp2
    exact hK
  case body =>
    rintro lp pre x W ⟨⟨v, hv, hrow, -⟩, hB⟩ hlt
    have hc := hv.cell
    have hBs := hB.size
    obtain ⟨N, hN⟩ : ∃ N, (l ++ pre).length = N := ⟨_, rfl⟩
    have hpl : N ≤ 70368744177674 := by have := HL.out; have := HN.out; have := HY.out; simp at hN; omega
    rw [hN] at hrow
    have HNN := Lib.hid hN
    clear hN
    gi_wp2_with (gi_at_builtin; refine wpListIn_append_own _ rfl _ _ 26 rfl w.heap.size 5 i0 (.int .u8 0) 1 1 Try.underlying26 hi hz0 hz1 hz2 rfl (by decide) _ _ _ rfl (hrow.alloc _) ⟨W.heap.size, 0, none⟩ 1 1 [.int .u8 (x.toNat : Int)] rfl rfl (cell_one_new _ _ _) (by simp [Value.oneCell']) (by unfold maxLen; omega) (by omega) (by simp; omega) ?_; intro v' w1 hown' hgrow _; obtain ⟨g', cap', rfl⟩ := ownsRow_succ hown'; obtain ⟨hv1, hv2, hr2, hk2, hb2⟩ := hv.appended (by decide) hrow hB.size hbs2 hown' hgrow; have hc1 := hv1.cell; have hf1 := hv1.frozen)
    exact ⟨hk2.from _, hb2, ⟨⟨_, hv2, by rw [show (l ++ (pre ++ [x])).length = N + 1 by rw [← HNN.out]; simp; omega, show bv (l ++ (pre ++ [x])) = bv (l ++ pre) ++ [Value.int .u8 (x.toNat : Int)] by simp [bv, b8]]; exact hr2, trivial⟩, hB.trans hb2⟩⟩
  case done =>
    rintro D ys' W hD rfl ⟨⟨v, hv, hrow, -⟩, hB⟩ hK
    have hform : ∃ A' c', v = .slice A' (l ++ ys').length c' := by
      rcases hrow.2 with ⟨e, h0⟩ | ⟨g, cap, cur, e, _⟩
      · exact ⟨none, 0, by rw [e, h0]⟩
      · exact ⟨_, _, e⟩
    obtain ⟨A', c', rfl⟩ := hform
    have hc := hv.cell
    obtain ⟨N, hN⟩ : ∃ N, (l ++ ys').length = N := ⟨_, rfl⟩
    rw [hN] at hrow hc
    clear hN hv
    gi_wp2
    refine ⟨by simp, .inl ⟨_, _, rfl, run_takeDeferred hK, ?_⟩⟩
    exact ⟨_, results_tmp rfl _ _ _, A', _, c', rfl, ⟨ownsRow_putObj hrow _ hK rfl⟩, hB.trans (belowK_b (w := w) (Nat.le_refl _) W D _ _ (by simp at hD; omega) hK rfl rfl)⟩
  case stop =>
    rintro D c pre W _ _ h _
    exact h.elim
end Go.Proofs.Ythgbafhfeblhaaa
end

section
/-
  Contracts: the program's short, four and what they yield.
-/
namespace Go.Proofs.Ythgbafhfeblhaaa
set_option maxRecDepth 100000
open Go.RowKit Go.Shelf

attribute [local go_sem] Oper.semAt_some

structure ShortAt (x : Nat) (pre : List UInt8) (y f : Nat) : Prop where
  eq : pre ++ shortF f y = shortL x
  lt : y < 128 ^ (f + 1)
  le : (y : Int) ≤ 18446744073709551615

theorem ShortAt.next {x : Nat} {pre : List UInt8} {y f : Nat} (h : ShortAt x pre y f) (h8 : 128 ≤ y) : ShortAt x (pre ++ [byteOf (y % 128 + 128)]) (y / 128) (f - 1) ∧ pre.length < (shortL x).length := by
  obtain ⟨g, rfl⟩ : ∃ g, f = g + 1 := by
    cases f with
    | zero => have := h.lt; simp at this; omega
    | succ g => exact ⟨g, rfl⟩
  have hE := h.eq
  simp only [shortF] at hE
  rw [if_neg (by omega)] at hE
  refine ⟨⟨by rw [← hE]; simp, ?_, by have := h.le; omega⟩, by rw [← hE]; simp⟩
  have := h.lt
  rw [Nat.add_sub_cancel, Nat.div_lt_iff_lt_mul (by omega)]; rw [Nat.pow_succ] at this; exact this

set_option maxRecDepth 100000 in
set_option maxHeartbeats 1000000 in
theorem short1_in (F : Fence) (fuel : Nat) (hf : F.fn 67) (hro : F.round = none) (hfu : 1 ≤ fuel) (lp Bn n₀ : Nat) (x : Nat) (hx : (x : Int) ≤ 18446744073709551615) (J Jx : List UInt8 → World → Prop)
    (hY : ∀ pre b W, J pre W → pre.length < (shortL x).length → YieldAt F (fuel - 1) Try.prog lp #[.int .u8 ((b : UInt8).toNat : Int)] W fun e W' =>
      (e = .returned (.bool true) ∧ J (pre ++ [b]) W' ∧ Below n₀ W W') ∨ (e = .returned (.bool false) ∧ Jx (pre ++ [b]) W'))
    (W : World) (hBn : W.cell? ⟨Bn, 0, none⟩ = some (.int .u64 (x : Int))) (h0 : J [] W) :
    CallsIn F fuel Try.prog 67 #[.func (.yield lp) #[] #[], .pointer (some ⟨Bn, 0, none⟩)] W fun e W' => (∃ v, e = .returned v) ∧
      ((∃ ys, ys = shortL x ∧ J ys W') ∨ (∃ pre, True ∧ Jx pre W')) := by
  refine callsIn_of_wp Try.func67 rfl hf ?_ hro
  simp only [Try.ntmps67, List.size_toArray, List.length_cons, List.length_nil, Nat.reduceAdd, Nat.reduceSub, Array.replicate_succ, Array.replicate_zero, List.push_toArray, List.append_toArray, List.nil_append, List.cons_append]
  have hs0 : ShortAt x [] x 9 := ⟨rfl, by omega, hx⟩
  have HX := Lib.hid hx
  have HY := Lib.hid hY
  clear hx hY
  gi_wp2
  gi_loopw [3] (fun r wr => ∃ (pre : List UInt8) (y f : Nat), r = .int .u64 (y : Int) ∧ ShortAt x pre y f ∧ J pre wr) (fun r _ => (intOf r).toNat)
  case atStart => exact ⟨[], x, 9, rfl, hs0, h0⟩
  case round =>
    clear hs0 h0 hBn
    obtain ⟨pre, y, f, rfl, hs, hJs⟩ := hrel
    have hle := hs.le
    by_cases h8 : y < 128
    · have hsf : shortF f y = [byteOf y] := by
        cases f with
        | zero => simp only [shortF]; rw [Nat.mod_eq_of_lt h8]
        | succ g => simp only [shortF]; rw [if_pos h8]
      have heq := hs.eq
      rw [hsf] at heq
      obtain ⟨fn, tmps, assign, body, hy, hR⟩ := HY.out pre (byteOf y) wr hJs (by rw [← heq]; simp)
      rw [byteOf_toNat (by omega), heq] at *
      have HE := Lib.hid heq
      have hd : decide ((y : Int) < 128) = true := by simp; omega
      clear heq hsf
      gi_wp2
      refine hR.mono ?_
      rintro e W3 (⟨rfl, hJ3, hk3⟩ | ⟨rfl, hJx3⟩)
      · gi_wp2
        refine bodyPost_ret (results_none rfl _ _ _) rfl ?_
        exact ⟨⟨_, rfl⟩, .inl ⟨_, rfl, hJ3⟩⟩
      · gi_wp2
        refine bodyPost_ret (results_none rfl _ _ _) rfl ?_
        exact ⟨⟨_, rfl⟩, .inr ⟨_, trivial, hJx3⟩⟩
    · obtain ⟨hnx, hpl⟩ := hs.next (by omega)
      obtain ⟨fn, tmps, assign, body, hy, hR⟩ := HY.out pre (byteOf (y % 128 + 128)) wr hJs hpl
      have ecast : ((y % 128 + 128 : Nat) : Int) = (y : Int) % 128 + 128 := by simp
      rw [byteOf_toNat (by omega), ecast] at hy
      have hd : decide ((y : Int) < 128) = false := by simp; omega
      clear ecast
      gi_wp2
      refine hR.mono ?_
      rintro e W3 (⟨rfl, hJ3, hk3⟩ | ⟨rfl, hJx3⟩)
      · gi_wp2
        go_roundw
        case rel => exact ⟨_, _, _, by simp, hnx, hJ3⟩
        case measure => simp [intOf]; omega
      · gi_wp2
        refine bodyPost_ret (results_none rfl _ _ _) rfl ?_
        exact ⟨⟨_, rfl⟩, .inr ⟨_, trivial, hJx3⟩⟩

theorem short_stops (F : Fence) (fuel : Nat) (hf : F.fn 67) (hro : F.round = none) (hfu : 1 ≤ fuel) (Bn n₀ : Nat) (x : Nat) (hx : (x : Int) ≤ 18446744073709551615) (w : World) (hBn : Bn < w.heap.size)
    (hc : w.cell? ⟨Bn, 0, none⟩ = some (.int .u64 (x : Int))) :
    SeqStopsK F fuel Try.prog 67 #[.pointer (some ⟨Bn, 0, none⟩)] (fun b : UInt8 => #[Value.int .u8 (b.toNat : Int)]) (Below n₀) (fun zs => zs = shortL x) (fun _ => True) (shortL x).length w := fun l J Jx W hW _ _ hY h0 =>
  short1_in F fuel hf hro hfu l Bn n₀ x hx J Jx hY W ((hW.cell (p := ⟨Bn, 0, none⟩) hBn).trans hc) h0

set_option maxRecDepth 100000 in
set_option maxHeartbeats 1000000 in
theorem short_c {w : World} (x : Int) :
    Calls Try.prog 63 #[.int .u64 x] w fun e w' => e = .returned (.func (.func 67) #[] #[.pointer (some ⟨w.heap.size, 0, none⟩)]) ∧ w.alloc (.cells #[.int .u64 x] 23) = w' := by
  go_enter Try.func63, Try.ntmps63
  go_wp2
  go_ret
  exact ⟨rfl, rfl⟩

set_option maxRecDepth 100000 in
set_option maxHeartbeats 1000000 in
theorem put_c {w : World} {B n c : Nat} {A : Option Addr} {l : List UInt8} (h : Rd w B A n c (bv l)) (hB : B ≤ w.heap.size) (hn : n ≤ 70368744177664) (x : Int) (hx0 : 0 ≤ x) (hx : x ≤ 18446744073709551615) :
    Calls Try.prog 55 #[.slice A n c, .int .u64 x] w (RetB w (l ++ shortL x.toNat)) := by
  obtain ⟨x, rfl⟩ := Int.eq_ofNat_of_zero_le hx0
  rw [Int.toNat_natCast]
  have hj : Calls Try.prog 62 #[.slice A n c, .func (.func 67) #[] #[.pointer (some ⟨w.heap.size, 0, none⟩)], .int .i64 0] (w.alloc (.cells #[.int .u64 (x : Int)] 23)) (RetB (w.alloc (.cells #[.int .u64 (x : Int)] 23)) (l ++ shortL x)) := by
    refine (callsIn_wide (n := 4)).1 ?_
    refine join_in Fence.wide 4 trivial 67 trivial rfl (by omega) (h.alloc hB _) (by simp; omega) hn 0 (by omega) _ _ (shortL_len x) (enters_of Try.func67 (by kernel_rfl) rfl) fun w0 hb0 => ?_
    refine short_stops Fence.wide 3 trivial rfl (by omega) w.heap.size _ x hx w0 (by have := hb0.size; simp at this; omega) ?_
    exact (hb0.cell (p := ⟨w.heap.size, 0, none⟩) (by simp)).trans (Boxed.new w 23 _).cell
  have HJ := Lib.hid hj
  clear hj h hn hx hx0
  go_enter Try.func55, Try.ntmps55
  go_wp2_with fail
  refine (short_c _).mono ?_
  rintro e w1 ⟨rfl, rfl⟩
  go_wp2_with fail
  refine HJ.out.mono ?_
  rintro e w2 ⟨A2, n2, c2, rfl, hf, hb⟩
  go_wp2_with fail
  go_ret
  exact ⟨A2, n2, c2, rfl, hf.mono (by simp), (Below.refl _ _).alloc (Nat.le_refl _) _ |>.trans (hb.mono (by simp))⟩
end Go.Proofs.Ythgbafhfeblhaaa
end

section
/-
  Contract: the program's PutText.
-/
namespace Go.Proofs.Ythgbafhfeblhaaa
set_option maxRecDepth 100000
open Go.RowKit Go.Shelf
attribute [local go_sem] Oper.semAt_some

set_option maxRecDepth 100000 in
set_option maxHeartbeats 1000000 in
theorem putText_c {w : World} {B n c : Nat} {A : Option Addr} {l : List UInt8} (h : Rd w B A n c (bv l)) (hB : B ≤ w.heap.size) (hn : n ≤ 70368744100000) (s : ByteArray) (hs : s.size ≤ 60000) :
    Calls Try.prog 56 #[.slice A n c, .string s] w (RetB w (l ++ textL s)) := by
  have hl : l.length = n := by simpa using h.len
  have hsl := shortL_len s.size
  have hj : Calls Try.prog 62 #[.slice A n c, .func (.func 67) #[] #[.pointer (some ⟨w.heap.size, 0, none⟩)], .int .i64 (s.size : Int)] (w.alloc (.cells #[.int .u64 (s.size : Int)] 23)) (RetB (w.alloc (.cells #[.int .u64 (s.size : Int)] 23)) (l ++ shortL s.size)) := by
    refine (callsIn_wide (n := 4)).1 ?_
    refine join_in Fence.wide 4 trivial 67 trivial rfl (by omega) (h.alloc hB _) (by simp; omega) (by omega) s.size (by omega) _ _ hsl (enters_of Try.func67 (by kernel_rfl) rfl) fun w0 hb0 => ?_
    refine short_stops Fence.wide 3 trivial rfl (by omega) w.heap.size _ s.size (by omega) w0 (by have := hb0.size; simp at this; omega) ?_
    exact (hb0.cell (p := ⟨w.heap.size, 0, none⟩) (by simp)).trans (Boxed.new w 23 _).cell
  have HJ := Lib.hid hj
  have HL := Lib.hid hl
  have HS := Lib.hid hsl
  have HN := Lib.hid hn
  have hsi : (s.size : Int) ≤ 60000 := by omega
  clear hj h hn hl hsl
  go_enter Try.func56, Try.ntmps56
  go_wp2_with fail
  refine (short_c _).mono ?_
  rintro e w1 ⟨rfl, rfl⟩
  go_wp2_with fail
  refine HJ.out.mono ?_
  rintro e w2 ⟨A2, n2, c2, rfl, hf2, hb2⟩
  have hn2 : n2 ≤ 70368744100010 := by
    have := hf2.len; have := HL.out; have := HS.out; have := HN.out; simp at *; omega
  have HN2 := Lib.hid hn2
  have hbs : w.heap.size ≤ w2.heap.size := by have := hb2.size; simp at this; omega
  have hf2 : Fr w2 w.heap.size 5 A2 n2 c2 (bv (l ++ shortL s.size)) := hf2.mono (by simp)
  have hb3 : Below w.heap.size w w2 := (Below.refl _ _).alloc (Nat.le_refl _) _ |>.trans (hb2.mono (by simp))
  clear hn2 hb2
  go_wp2_with (at_builtin; refine wpList_apps rfl (.tmp 12) (.tmp 13) _ _ rfl Try.underlying26 Try.underlying9 info_u8 rfl hf2 rfl (by have := HN2.out; omega) hbs ?_; intro A' c' w' hf hb hg)
  go_ret
  refine ⟨A', _, c', rfl, ?_, hb3.trans hb⟩
  unfold textL
  rw [← List.append_assoc, bv_append]
  exact hf
end Go.Proofs.Ythgbafhfeblhaaa
end
