/-
  Contracts: numberAt, partsOf, New.
-/
import Derived.Test.YtkabgebfbbkioabDk16
import Derived.LoopN
import Derived.Maps.AppendAt
namespace Go.Proofs.Ytkabgebfbbkioab
open Go.RowKit Go.Maps

def iv (l : List Int) : List Value := l.map (.int .i64 ·)
@[simp] theorem iv_length (l : List Int) : (iv l).length = l.length := by simp [iv]
def numD (l : List Int) (i : Nat) : Int := max (l.getD i 0) 0

set_option maxRecDepth 100000 in
theorem numberAt_c {w : World} {B n c : Nat} {A : Option Addr} {l : List Int} (h : Rd w B A n c (iv l)) (i : Nat) :
    Calls Try.prog 19 #[.slice A n c, .int .i64 (i : Int)] w fun e w' => e = .returned (.int .i64 (numD l i)) ∧ w = w' := by
  have hl : l.length = n := by simpa using h.len
  by_cases hi : i < n
  · obtain ⟨b, off, rfl, _, hc⟩ := h.form (by omega)
    have hg : l[i]? = some (l[i]'(by omega)) := List.getElem?_eq_getElem _
    have hc1 := hc i (.int .i64 (l[i]'(by omega))) (by simp [iv, hg])
    have hnum : numD l i = max (l[i]'(by omega)) 0 := by simp [numD, List.getD_eq_getElem?_getD, hg]
    rw [hnum]
    generalize l[i]'(by omega) = x at hc1
    have hd : decide ((i : Int) ≥ (n : Int)) = false := by simp; omega
    have hi2 : (i : Int) < (n : Int) := by omega
    clear hc h hl hnum hg
    go_enter Try.func19, Try.ntmps19
    go_wp2
    go_ret
    exact ⟨rfl, rfl⟩
  · have hnum : numD l i = 0 := by
      simp [numD, List.getD_eq_getElem?_getD, List.getElem?_eq_none (show l.length ≤ i by omega)]
    rw [hnum]
    have hd : decide ((i : Int) ≥ (n : Int)) = true := by simp; omega
    clear h hl hnum
    go_enter Try.func19, Try.ntmps19
    go_wp2
    go_ret
    exact ⟨rfl, rfl⟩

def partsD (fails parts : List Int) : Nat → DataW Unit
  | 0 => .map []
  | k + 1 => if has (partsD fails parts k) (.int .i64 (fails.getD k 0)) then partsD fails parts k else (partsD fails parts k).put (.int .i64 (fails.getD k 0)) (.lit (.int .i64 (numD parts k)))

theorem ownsMap_more {H : Type} {P : Program} {k : TypeId} {R : Value → Option (DataW H × List MemPlace)} {w : World} {b n m : Nat} {D : DataW H}
    (h : w.ownsMap P k R b n D) (hk : n ≤ m) : w.ownsMap P k R b m D := by
  obtain ⟨es, cl, h1, h2, h3, h4⟩ := h
  exact ⟨es, cl, h1, h2, Nat.le_trans h3 hk, h4⟩

structure PartRel (w : World) (p q : Value) (fails parts : List Int) (wr : World) (k : Nat) : Prop where
  own : wr.ownsMap Try.prog 3 (plainElem Try.prog 3) (w.heap.size + 1) k (partsD fails parts k)
  box : wr.heap[w.heap.size]? = some (.cells #[p, q] 47)
  below : Below w.heap.size w wr
  two : w.heap.size + 2 ≤ wr.heap.size

/-- A plan's parts: a new map. -/
def PartsP (w : World) (D : DataW Unit) (n : Nat) (e : Ending) (w' : World) : Prop :=
  e = .returned (.map (some (w.heap.size + 1))) ∧ w'.ownsMap Try.prog 3 (plainElem Try.prog 3) (w.heap.size + 1) n D ∧ Below w.heap.size w w'

set_option maxRecDepth 100000 in
set_option maxHeartbeats 1000000 in
theorem partsOf_c {w : World} {B1 B2 n1 c1 n2 c2 : Nat} {A1 A2 : Option Addr} {fails parts : List Int} (h1 : Rd w B1 A1 n1 c1 (iv fails)) (h2 : Rd w B2 A2 n2 c2 (iv parts)) (hB1 : B1 ≤ w.heap.size) (hB2 : B2 ≤ w.heap.size) (hn : n1 ≤ 70368744177664)
    (hwf : ∀ x ∈ fails, (Lit.int .i64 x).wf = true) (hwp : ∀ x ∈ parts, (Lit.int .i64 x).wf = true) :
    Calls Try.prog 42 #[.agg #[.slice A1 n1 c1, .slice A2 n2 c2]] w (PartsP w (partsD fails parts n1) n1) := by
  have hl : fails.length = n1 := by simpa using h1.len
  have hmm := @run_makeMap Try.prog
  have r0 : PartRel w (.slice A1 n1 c1) (.slice A2 n2 c2) fails parts ((w.alloc (.cells #[.slice A1 n1 c1, .slice A2 n2 c2] 47)).alloc (.map #[] 0)) 0 := by
    refine ⟨?_, ?_, ((Below.refl _ _).alloc (Nat.le_refl _) _).alloc (by simp) _, by simp⟩
    · have := World.ownsMap_made (H := Unit) (w.alloc (.cells #[.slice A1 n1 c1, .slice A2 n2 c2] 47)) Try.prog 3 (plainElem Try.prog 3)
      rw [show (w.alloc (.cells #[.slice A1 n1 c1, .slice A2 n2 c2] 47)).heap.size = w.heap.size + 1 by simp] at this
      exact this
    · exact (heap_alloc_old _ _ (by simp)).trans (heap_alloc_new w _)
  go_enter Try.func42, Try.ntmps42
  go_wp2_with fail
  go_loopw [12] (fun iv wr => ∃ k : Nat, iv = .int .i64 (k : Int) ∧ k ≤ n1 ∧ PartRel w (.slice A1 n1 c1) (.slice A2 n2 c2) fails parts wr k) (fun iv _ => (n1 - intOf iv).toNat)
  case atStart => exact ⟨0, rfl, Nat.zero_le _, r0⟩
  case round =>
    clear r0 hmm
    obtain ⟨k, rfl, hk, hr⟩ := hrel
    by_cases hlt : k < n1
    · have hd : decide ((k : Int) < (n1 : Int)) = true := by simp; omega
      have hki : (k : Int) < (n1 : Int) := by omega
      have g1 : fails[k]? = some (fails[k]'(by omega)) := List.getElem?_eq_getElem _
      have hgd : fails.getD k 0 = fails[k]'(by omega) := by simp [List.getD_eq_getElem?_getD, g1]
      have hxw : (Lit.int .i64 (fails[k]'(by omega))).wf = true := hwf _ (List.getElem_mem _)
      have hstep : partsD fails parts (k + 1) = if has (partsD fails parts k) (.int .i64 (fails[k]'(by omega))) then partsD fails parts k else (partsD fails parts k).put (.int .i64 (fails[k]'(by omega))) (.lit (.int .i64 (numD parts k))) := by
        rw [partsD, hgd]
      obtain ⟨b, off, rfl, hbl, hcell⟩ := (h1.under hr.below hB1).form (by omega)
      have hcl := hcell k (.int .i64 (fails[k]'(by omega))) (by simp [iv, g1])
      generalize fails[k]'(by omega) = x at hcl hxw hstep
      have hown := hr.own
      have b1 : wr.cell? ⟨w.heap.size, 0, none⟩ = some (.slice (some ⟨b, off, none⟩) n1 c1) := by simp [World.cell?, hr.box]
      have b2 : wr.cell? ⟨w.heap.size, 1, none⟩ = some (.slice A2 n2 c2) := by simp [World.cell?, hr.box]
      have N := Lib.hid (numberAt_c (h2.under hr.below hB2) k)
      have hnw : (Lit.int .i64 (numD parts k)).wf = true := by
        unfold numD
        cases hp : parts[k]? with
        | none => simp [List.getD_eq_getElem?_getD, hp]; decide
        | some y =>
          have := hwp y (List.mem_of_getElem? hp)
          simp [List.getD_eq_getElem?_getD, hp]
          simp [Lit.wf, IntKind.min, IntKind.max, IntKind.bits, IntKind.signed] at this ⊢
          omega
      have hbelow := hr.below
      have hbox := hr.box
      have htwo := hr.two
      have hklt : k < maxLen := by unfold maxLen; omega
      have hni : (n1 : Int) ≤ 70368744177664 := by omega
      clear h1 h2 hr hwf hwp hl hcell g1 hgd hB1 hB2 hn hk
      cases hh : has (partsD fails parts k) (.int .i64 x) with
      | true =>
        rw [hh, if_pos rfl] at hstep
        have hnext : Hid (PartRel w (.slice (some ⟨b, off, none⟩) n1 c1) (.slice A2 n2 c2) fails parts wr (k + 1)) := Lib.hid ⟨by rw [hstep]; exact ownsMap_more hown (Nat.le_succ _), hbox, hbelow, htwo⟩
        clear hstep hbelow hbox htwo
        go_wp2_with (at_lookup; refine wpList_lookup_own_ok_int _ rfl _ _ 25 rfl 3 3 .i64 keyed_i Try.underlying25 Try.underlying3 (zero_int _) (w.heap.size + 1) k (partsD fails parts k) rfl hown _ _ rfl (keyOf_int_mk Try.underlying3 hxw) ?_; intro c hat hwc; rw [hh])
        go_roundw
        case rel => exact ⟨k + 1, by simp, by omega, hnext.out⟩
        case measure => simp [intOf]; omega
      | false =>
        rw [hh, if_neg (by simp)] at hstep
        go_wp2_with (first | (at_lookup; refine wpList_lookup_own_ok_int _ rfl _ _ 25 rfl 3 3 .i64 keyed_i Try.underlying25 Try.underlying3 (zero_int _) (w.heap.size + 1) k (partsD fails parts k) rfl hown _ _ rfl (keyOf_int_mk Try.underlying3 hxw) ?_; intro c hat hwc; rw [hh]) | (go_at_call 19; refine N.out.mono ?_; rintro e w4 ⟨rfl, rfl⟩) | (at_mapUpdate; refine wpList_mapUpdate_own _ rfl _ _ _ 25 rfl 3 3 keyed_i Try.underlying25 _ (w.heap.size + 1) k _ rfl hown hklt _ _ _ rfl rfl (keyOf_int_mk Try.underlying3 hxw) _ [] (plainElem_int Try.underlying3 hnw) ?_; intro w5 hown5 hgrow5))
        go_roundw
        case rel =>
          refine ⟨k + 1, by simp, by omega, ?_⟩
          rw [← hstep] at hown5
          exact ⟨hown5, (hgrow5.block _ (by omega) (by simp)).trans hbox, hbelow.grown hgrow5 (by omega) (fun j e => by cases e; omega), Nat.le_trans htwo hgrow5.size⟩
        case measure => simp [intOf]; omega
    · obtain rfl : k = n1 := by omega
      have hfin := Lib.hid (show PartsP w (partsD fails parts k) k (.returned (.map (some (w.heap.size + 1)))) wr from ⟨rfl, hr.own, hr.below⟩)
      clear hr h1 h2
      go_wp2
      go_ret
      exact hfin.out
end Go.Proofs.Ytkabgebfbbkioab
