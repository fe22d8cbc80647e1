/-
  What bytes say: the contracts of read and Parse, the program's and the reference's.
-/
import Derived.Test.YthgaiimgfnbkaaaGreatDoorBtJ
namespace Go.Proofs.YthgaiimgfnbkaaaGreatDoor
set_option maxRecDepth 100000
open Go.RowKit Go.Shelf

section
variable {l r : List UInt8} {n m : Nat} {L : List Bop}
theorem parse_none1 (h : takeN l = none) : parseG l = none := by simp only [parseG, h]
theorem parse_none2 (h : takeN l = some (n, m)) (hn : n < 1 ∨ 128 < n) : parseG l = none := by simp only [parseG, h]; rw [if_pos hn]
theorem parse_none3 (h : takeN l = some (n, m)) (hr : readW takeO (l.drop m) n = none) : parseG l = none := by
  simp only [parseG, h, hr]; split <;> rfl
theorem parse_none4 (h : takeN l = some (n, m)) (hr : readW takeO (l.drop m) n = some (L, r)) (h0 : 0 < r.length) : parseG l = none := by
  simp only [parseG, h, hr]
  split
  · rfl
  · cases r with
    | nil => simp at h0
    | cons c t => rfl
theorem parse_some (h : takeN l = some (n, m)) (hn : ¬ (n < 1 ∨ 128 < n)) (hr : readW takeO (l.drop m) n = some (L, [])) : parseG l = some L := by
  simp only [parseG, h, hr]; rw [if_neg hn]
theorem parse_refNone (h : takeN l = some (n, m)) {i : Nat} (hi : i ≤ n) (hr : readW takeR (l.drop m) i = none) : parseG l = none := by
  refine parse_none3 h ?_
  have := readW_none hr (n - i)
  rw [show i + (n - i) = n by omega] at this
  rw [readW_split, this]
theorem parse_refLong (h : takeN l = some (n, m)) (hr : readW takeR (l.drop m) n = some (L, r)) (h0 : 0 < r.length) : parseG l = none := by
  have hs := readW_split (l := l.drop m) n
  rw [hr] at hs
  simp only [] at hs
  split at hs
  · exact parse_none4 h hs h0
  · exact parse_none3 h hs
theorem takeR_len : ∀ l x r, takeR l = some (x, r) → formO x ++ r = l := fun _ _ _ h => takeR_put h
theorem parse_refEnd (h : takeN l = some (n, m)) (hr : readW takeR (l.drop m) n = some (L, [])) : parseG l = if grpB L 128 = true then some L else none := by
  have hs := readW_split (l := l.drop m) n
  rw [hr] at hs
  simp only [] at hs
  have hlen := (readW_put takeR_len hr).1
  by_cases hn : n < 1 ∨ 128 < n
  · rw [parse_none2 h hn, if_neg]
    intro hg
    have := grpB_iff.1 hg
    omega
  · by_cases ha : L.all opB = true
    · rw [if_pos ha] at hs
      rw [parse_some h hn hs, if_pos]
      exact grpB_iff.2 ⟨by omega, by omega, List.all_eq_true.1 ha⟩
    · rw [if_neg ha] at hs
      rw [parse_none3 h hs, if_neg]
      intro hg
      exact ha (List.all_eq_true.2 (grpB_iff.1 hg).2.2)
end
theorem readW_step {tk : List UInt8 → Option (Bop × List UInt8)} {l r r' : List UInt8} {k : Nat} {L : List Bop} {x : Bop} (h : readW tk l k = some (L, r)) (hx : tk r = some (x, r')) : readW tk l (k + 1) = some (L ++ [x], r') := by simp only [readW, h, hx]
theorem readW_stop {tk : List UInt8 → Option (Bop × List UInt8)} {l r : List UInt8} {k : Nat} {L : List Bop} (h : readW tk l k = some (L, r)) (hx : tk r = none) : readW tk l (k + 1) = none := by simp only [readW, h, hx]
theorem readW_le {tk : List UInt8 → Option (Bop × List UInt8)} (htk : ∀ l x r, tk l = some (x, r) → formO x ++ r = l) {l r : List UInt8} {k : Nat} {L : List Bop} (h : readW tk l k = some (L, r)) : r.length ≤ l.length := by
  have := congrArg List.length (readW_put htk h).2
  simp at this; omega
theorem takeO_len : ∀ l x r, takeO l = some (x, r) → formO x ++ r = l := fun _ _ _ h => (takeO_put h).2

theorem Fr.grownBy {w w' : World} {B : Nat} {e : TypeId} {A : Option Addr} {n c : Nat} {xs : List Value} (h : Fr w B e A n c xs) {row : Option Nat} (hg : w.grownBy w' row) (hrow : ∀ k, row = some k → k < B) : Fr w' B e A n c xs := by
  obtain ⟨h1, h2⟩ := h.own
  refine ⟨h1, ?_⟩
  rcases h2 with h2 | ⟨g, cap, cur, e, hgB, hh, r⟩
  · exact .inl h2
  · refine .inr ⟨g, cap, cur, e, hgB, (hg.block g (Array.getElem?_eq_some_iff.1 hh).1 (fun e => ?_)).trans hh, r⟩
    have := hrow g e.symm
    omega

def ReadPost (w : World) (B : Nat) (l : List UInt8) (k : Nat) (e : Ending) (w' : World) : Prop :=
  ∃ (A1 : Option Addr) (n1 c1 : Nat) (A2 : Option Addr) (n2 c2 : Nat) (L : List Bop) (r : List UInt8) (ok : Bool), e = .returned (.tuple #[.slice A1 n1 c1, .slice A2 n2 c2, .bool ok]) ∧ (ok = true → readW takeO l k = some (L, r)) ∧ (ok = false → readW takeO l k = none) ∧
    FrO w' w.heap.size A1 n1 c1 L ∧ Rd w' B A2 n2 c2 (bv r) ∧ Below w.heap.size w w'

set_option maxRecDepth 100000 in
set_option maxHeartbeats 4000000 in
theorem read_c {w : World} {B n c : Nat} {A : Option Addr} {l : List UInt8} (h : Rd w B A n c (bv l)) (hB : B ≤ w.heap.size) (hn : n ≤ 70368744000000) (k : Nat) (hk : k ≤ 128) :
    Calls Tryz.prog 91 #[.slice A n c, .int .i64 (k : Int), .func (.func 92) #[] #[]] w (ReadPost w B l k) := by
  have hl : l.length = n := by simpa using h.len
  obtain ⟨i0, hi, hz0, hz1, hz2⟩ := info_parts info_op
  have HTK := Lib.hid (fun (W : World) (A : Option Addr) (n c : Nat) (l : List UInt8) (h : Rd W B A n c (bv l)) (hB : B ≤ W.heap.size) (hn : n ≤ 70368744000000) => takeOp_c h hB hn)
  have HL := Lib.hid hl
  have HN := Lib.hid hn
  have HBw := Lib.hid hB
  have hki : (k : Int) ≤ 128 := by omega
  clear hl hn hB
  go_enter Tryz.func91, Tryz.ntmps91
  go_wp2_with (at_make; refine wpList_make_own _ rfl _ _ 23 rfl w.heap.size 43 i0 _ 3 Tryz.underlying23 hi hz0 hz1 .i64 .i64 _ k rfl rfl rfl (by rw [hz2]; omega) (by unfold maxLen; omega) (Nat.le_refl _) ?_; intro w1 hown1 hg1; have hb1 : Below w.heap.size w w1 := (Below.refl _ w).grown hg1 (Nat.le_refl _) (fun k e => by cases e))
  have hf1 : FrO w1 w.heap.size (some ⟨w.heap.size, 0, none⟩) 0 k [] := ⟨hown1⟩
  have hr1 := h.under hb1 HBw.out
  have hrw : readW takeO l 0 = some ([], l) := rfl
  clear hown1 hg1 hi hz0 hz1 hz2 h
  go_loopw [9, 0, 16] (fun lv bvv iv wr => ∃ (i : Nat) (A1 : Option Addr) (c1 : Nat) (A2 : Option Addr) (n2 c2 : Nat) (L : List Bop) (r : List UInt8), lv = .slice A1 i c1 ∧ bvv = .slice A2 n2 c2 ∧ iv = .int .i64 (i : Int) ∧ i ≤ k ∧ readW takeO l i = some (L, r) ∧ FrO wr w.heap.size A1 i c1 L ∧ Rd wr B A2 n2 c2 (bv r) ∧ Below w.heap.size w wr) (fun _ _ iv _ => ((k : Int) - intOf iv).toNat)
  case atStart => exact ⟨0, _, _, _, _, _, _, _, rfl, rfl, rfl, Nat.zero_le _, hrw, hf1, hr1, hb1⟩
  case round =>
    clear hf1 hr1 hrw hb1
    obtain ⟨i, A1, c1, A2, n2, c2, L, r, rfl, rfl, rfl, hik, hrw, hf, hr, hbr⟩ := hrel
    by_cases hlt : i < k
    · have hn2 : n2 ≤ 70368744000000 := by have := readW_le takeO_len hrw; have := hr.len; have := HL.out; have := HN.out; simp at *; omega
      have HT := Lib.hid (HTK.out _ _ _ _ _ hr (Nat.le_trans HBw.out hbr.size) hn2)
      have hlti : (i : Int) < (k : Int) := by omega
      have HRW := Lib.hid hrw
      have HBR := Lib.hid hbr
      clear hn2 hrw hr HTK hbr
      go_wp2_with fail
      refine HT.out.mono ?_
      rintro e w2 ⟨x, r2, ok, A3, n3, c3, rfl, hox, hrd, hb2⟩
      unfold ov
      have hbw := bon HBR.out hb2
      have hf2 := hf.below hb2
      clear HT hb2 hf
      cases ok with
      | false =>
        have HNO := Lib.hid (by have := readW_none (readW_stop HRW.out (hox.no rfl)) (k - (i + 1)); rwa [show i + 1 + (k - (i + 1)) = k by omega] at this : readW takeO l k = none)
        clear hox hrd hf2
        go_wp2_with fail
        go_ret3
        exact ⟨none, 0, 0, none, 0, 0, [], [], false, rfl, fun e => (by cases e), fun _ => HNO.out, FrO.nil, Rd.nilv, blit hbw _⟩
      | true =>
        have HYES := Lib.hid (readW_step HRW.out (hox.yes rfl))
        have hbs := hbw.size
        clear hox
        go_wp2_with (at_builtin; refine wpList_appO rfl (.tmp 27) (.tmp 29) rfl rfl ((hf2.alloc _).alloc _) rfl ((FrO.one (w2.alloc (.cells #[.int .u8 (x.k : Int), .string x.s, .string x.v] 43)) x (b := 0) (g := w2.heap.size + 1) (by simp) (Nat.zero_le _)).rd (Nat.le_refl _)) (by omega) (by simp; omega) ?_; intro A9 c9 w9 hap9)
        go_roundw
        case rel =>
          have hb9 : Below w.heap.size w w9 := (blit (blit hbw _) _).trans hap9.below
          refine ⟨i + 1, A9, c9, A3, n3, c3, L ++ [x], r2, rfl, rfl, by simp, by omega, HYES.out, hap9.fr, ?_, hb9⟩
          exact (((hrd.alloc (Nat.le_trans HBw.out hbs) _).alloc (by have := HBw.out; simp; omega) _).under hap9.below HBw.out)
        case measure => simp [intOf]; omega
    · have hlti : ¬ (i : Int) < (k : Int) := by omega
      obtain rfl : i = k := by omega
      have HRW := Lib.hid hrw
      clear hrw
      go_wp2_with fail
      go_ret3
      exact ⟨_, _, _, _, _, _, L, r, true, rfl, fun _ => HRW.out, fun e => (by cases e), hf, hr, hbr⟩

/-- A fresh row of operations and an error's number. -/
def RetOE (w : World) (L : List Bop) (c : Int) (e : Ending) (w' : World) : Prop :=
  ∃ A n c', e = .returned (.tuple #[.slice A n c', .int .i64 c]) ∧ FrO w' w.heap.size A n c' L ∧ Below w.heap.size w w'
def parseL (l : List UInt8) : List Bop := (parseG l).getD []
def parseE (l : List UInt8) : Int := if (parseG l).isSome = true then 0 else 40
theorem ret_parse_no {w w' : World} {l : List UInt8} (h : parseG l = none) (hb : Below w.heap.size w w') : RetOE w (parseL l) (parseE l) (.returned (.tuple #[.slice none 0 0, .int .i64 40])) w' := by
  unfold parseL parseE
  rw [h]
  exact ⟨none, 0, 0, rfl, FrO.nil, hb⟩
theorem ret_parse {w w' : World} {l : List UInt8} {L : List Bop} {A : Option Addr} {n c : Nat} (h : parseG l = some L) (hf : FrO w' w.heap.size A n c L) (hb : Below w.heap.size w w') : RetOE w (parseL l) (parseE l) (.returned (.tuple #[.slice A n c, .int .i64 0])) w' := by
  unfold parseL parseE
  rw [h]
  exact ⟨A, n, c, rfl, hf, hb⟩

set_option maxRecDepth 100000 in
set_option maxHeartbeats 4000000 in
theorem parse_c {w : World} {B n c : Nat} {A : Option Addr} {l : List UInt8} (h : Rd w B A n c (bv l)) (hB : B ≤ w.heap.size) (hn : n ≤ 70368744000000) :
    Calls Tryz.prog 70 #[.slice A n c] w (RetOE w (parseL l) (parseE l)) := by
  have hl : l.length = n := by simpa using h.len
  have HT := Lib.hid (takeNum_c h hB hn)
  have HL := Lib.hid hl
  have HN := Lib.hid hn
  have HBw := Lib.hid hB
  clear h hl hn hB
  go_enter Tryz.func70, Tryz.ntmps70
  go_wp2_with fail
  refine HT.out.mono ?_
  rintro e w1 ⟨x, r, ok, A1, n1, c1, rfl, hnr, hrd, hb1⟩
  have hx64 := hnr.le
  cases ok with
  | false =>
    have HX := Lib.hid (parse_none1 (hnr.no rfl))
    clear hnr
    go_wp2_with fail
    go_ret2
    exact ret_parse_no HX.out hb1
  | true =>
    obtain ⟨m, hm, rfl⟩ := hnr.yes rfl
    by_cases hlo : x < 1
    · have d1 : decide ((x : Int) < 1) = true := by simp; omega
      have HX := Lib.hid (parse_none2 hm (.inl hlo))
      clear hnr hm hlo
      go_wp2_with fail
      go_ret2
      exact ret_parse_no HX.out hb1
    have d1 : decide ((x : Int) < 1) = false := by simp; omega
    by_cases hhi : 128 < x
    · have d2 : decide ((128 : Int) < (x : Int)) = true := by simp; omega
      have d3 : decide (128 < x) = true := by simpa using hhi
      have HX := Lib.hid (parse_none2 hm (.inr hhi))
      clear hnr hm hhi
      go_wp2_with fail
      go_ret2
      exact ret_parse_no HX.out hb1
    have d2 : decide ((128 : Int) < (x : Int)) = false := by simp; omega
    have d3 : decide (128 < x) = false := by simpa using hhi
    have hxi : (x : Int) ≤ 128 := by omega
    have hrl := hrd.len
    have HR := Lib.hid (read_c hrd (Nat.le_trans HBw.out hb1.size) (by have := HL.out; have := HN.out; simp at hrl; omega) x (by omega))
    have HM := Lib.hid hm
    have HXN := Lib.hid (show ¬ (x < 1 ∨ 128 < x) by omega)
    clear hnr hm hrd hrl hlo hhi hx64
    go_wp2_with fail
    refine HR.out.mono ?_
    rintro e w2 ⟨A2, n2, c2, A3, n3, c3, L, r, ok2, rfl, hyes, hno, hfo, hrd3, hb2⟩
    have hbw := bon hb1 hb2
    cases ok2 with
    | false =>
      have HX := Lib.hid (parse_none3 HM.out (hno rfl))
      clear hyes hno hfo hrd3
      go_wp2_with fail
      go_ret2
      exact ret_parse_no HX.out hbw
    | true =>
      have hy := hyes rfl
      have hr3 : r.length = n3 := by simpa using hrd3.len
      by_cases h0 : n3 = 0
      · obtain rfl : r = [] := List.eq_nil_of_length_eq_zero (by omega)
        have d4 : decide ((0 : Int) < (n3 : Int)) = false := by simp; omega
        have d5 : decide (0 < n3) = false := by simp; omega
        have HX := Lib.hid (parse_some HM.out HXN.out hy)
        have HFO := Lib.hid (hfo.mono hb1.size)
        clear hyes hno hfo hrd3 hy h0 hr3
        go_wp2_with fail
        go_ret2
        exact ret_parse HX.out HFO.out hbw
      · have d4 : decide ((0 : Int) < (n3 : Int)) = true := by simp; omega
        have d5 : decide (0 < n3) = true := by simp; omega
        have HX := Lib.hid (parse_none4 HM.out hy (by omega))
        clear hyes hno hfo hrd3 hy h0 hr3
        go_wp2_with fail
        go_ret2
        exact ret_parse_no HX.out hbw

set_option maxRecDepth 100000 in
set_option maxHeartbeats 4000000 in
theorem refParse_c {w : World} {B n c : Nat} {A : Option Addr} {l : List UInt8} (h : Rd w B A n c (bv l)) (hB : B ≤ w.heap.size) (hn : n ≤ 70368744000000) :
    Calls Tryz.prog 51 #[.slice A n c] w (RetOE w (parseL l) (parseE l)) := by
  have hl : l.length = n := by simpa using h.len
  have HT := Lib.hid (refTake_c h hB (by omega))
  have HL := Lib.hid hl
  have HN := Lib.hid hn
  clear h hl hn
  go_enter Tryz.func51, Tryz.ntmps51
  go_wp2_with fail
  refine HT.out.mono ?_
  intro e w1 hp
  obtain ⟨x, r, ok, hnr, A1, n1, c1, rfl, hf1, hb1⟩ := hp.form
  have hx64 := hnr.le
  clear hp HT
  cases ok with
  | false =>
    have HX := Lib.hid (parse_none1 (hnr.no rfl).1)
    clear hnr hf1
    go_wp2_with fail
    go_ret2
    exact ret_parse_no HX.out hb1
  | true =>
    obtain ⟨m, hm, rfl⟩ := hnr.yes rfl
    by_cases hhi : 128 < x
    · have d2 : decide ((128 : Int) < (x : Int)) = true := by simp; omega
      have d3 : decide (128 < x) = true := by simpa using hhi
      have HX := Lib.hid (parse_none2 hm (.inr hhi))
      clear hnr hm hhi hf1
      go_wp2_with fail
      go_ret2
      exact ret_parse_no HX.out hb1
    have d2 : decide ((128 : Int) < (x : Int)) = false := by simp; omega
    have d3 : decide (128 < x) = false := by simpa using hhi
    have hxi : (x : Int) ≤ 128 := by omega
    have HM := Lib.hid hm
    have HX128 := Lib.hid (show x ≤ 128 by omega)
    have hrw : readW takeR (l.drop m) 0 = some ([], l.drop m) := rfl
    have hdl : (l.drop m).length ≤ 70368744000000 := by have := HL.out; have := HN.out; simp; omega
    have HDL := Lib.hid hdl
    clear hnr hm hhi hdl hx64
    go_wp2_with fail
    go_loopw [7, 5, 8] (fun lv bvv iv wr => ∃ (i : Nat) (A1 : Option Addr) (c1 : Nat) (A2 : Option Addr) (n2 c2 : Nat) (L : List Bop) (r : List UInt8), lv = .slice A1 i c1 ∧ bvv = .slice A2 n2 c2 ∧ iv = .int .i64 (i : Int) ∧ i ≤ x ∧ readW takeR (l.drop m) i = some (L, r) ∧ FrO wr w.heap.size A1 i c1 L ∧ Fr wr w.heap.size 5 A2 n2 c2 (bv r) ∧ Below w.heap.size w wr) (fun _ _ iv _ => ((x : Int) - intOf iv).toNat)
    case atStart => exact ⟨0, none, 0, _, _, _, _, _, rfl, rfl, rfl, Nat.zero_le _, hrw, FrO.nil, hf1, hb1⟩
    case round =>
      clear hf1 hrw hb1
      obtain ⟨i, A1, c1, A2, n2, c2, L, r, rfl, rfl, rfl, hik, hrw, hf, hr, hbr⟩ := hrel
      have hn2 : n2 ≤ 70368744000000 := by have := readW_le takeR_len hrw; have := hr.len; have := HDL.out; simp at *; omega
      by_cases hlt : i < x
      · have HT := Lib.hid (one_c (hr.rd (Nat.le_refl _)) (Nat.le_refl _) hn2)
        have hlti : (i : Int) < (x : Int) := by omega
        have HRW := Lib.hid hrw
        have HBR := Lib.hid hbr
        clear hn2 hrw hr hbr
        go_wp2_with fail
        refine HT.out.mono ?_
        rintro e w2 ⟨y, r2, ok, A3, n3, c3, rfl, hox, hrd, hb2⟩
        unfold ov
        have hbw := bon HBR.out hb2
        have hf2 := hf.below hb2
        have HROW := Lib.hid (show ∀ k, (Value.slice A1 i c1).ownBlock = some k → k < wr.heap.size from fun k hk => (hf.own.lt k hk).2)
        have hbrs := HBR.out.size
        clear HT hb2 hf
        cases ok with
        | false =>
          have HNO := Lib.hid (parse_refNone HM.out (i := i + 1) (by omega) (readW_stop HRW.out (hox.no rfl)))
          clear hox hrd hf2
          go_wp2_with fail
          go_ret2
          exact ret_parse_no HNO.out (blit hbw _)
        | true =>
          have HYES := Lib.hid (readW_step HRW.out (hox.yes rfl))
          have hbs := hbw.size
          have HX1 := HX128.out
          clear hox
          go_wp2_with (at_builtin; refine wpList_appO rfl (.tmp 38) (.tmp 40) rfl rfl ((hf2.alloc _).alloc _) rfl ((FrO.one (w2.alloc (.cells #[.int .u8 (y.k : Int), .string y.s, .string y.v] 43)) y (b := 0) (g := w2.heap.size + 1) (by simp) (Nat.zero_le _)).rd (Nat.le_refl _)) (by omega) (by simp; omega) ?_; intro A9 c9 w9 hap9)
          go_roundw
          case rel =>
            have hb9 : Below w.heap.size w w9 := (blit (blit hbw _) _).trans hap9.below
            refine ⟨i + 1, A9, c9, A3, n3, c3, L ++ [y], r2, rfl, rfl, by simp, by omega, HYES.out, hap9.fr, ?_, hb9⟩
            exact (((hrd.alloc _).alloc _).grownBy hap9.grown HROW.out).mono hbrs
          case measure => simp [intOf]; omega
      · have hlti : ¬ (i : Int) < (x : Int) := by omega
        obtain rfl : i = x := by omega
        have hr3 : r.length = n2 := by simpa using hr.len
        by_cases h0 : n2 = 0
        · obtain rfl : r = [] := List.eq_nil_of_length_eq_zero (by omega)
          have d4 : decide ((0 : Int) < (n2 : Int)) = false := by simp; omega
          have d5 : decide (0 < n2) = false := by simp; omega
          have hfin := parse_refEnd HM.out hrw
          have HG := Lib.hid (refFew_c (hf.rd (Nat.le_refl _)) (Nat.le_refl _) (by omega) 128)
          have HFO := Lib.hid hf
          have HFIN := Lib.hid hfin
          clear hfin hrw hf hr h0 hr3
          go_wp2_with fail
          refine HG.out.mono ?_
          rintro e w2 ⟨rfl, hb2⟩
          have hf2 := HFO.out.below hb2
          cases hg : grpB L 128 with
          | true =>
            have HX := Lib.hid (HFIN.out.trans (if_pos hg))
            clear hg
            go_wp2_with fail
            go_ret2
            exact ret_parse HX.out hf2 (bon hbr hb2)
          | false =>
            have HX := Lib.hid (HFIN.out.trans (if_neg (by rw [hg]; decide)))
            clear hg
            go_wp2_with fail
            go_ret2
            exact ret_parse_no HX.out (bon hbr hb2)
        · have d4 : decide ((0 : Int) < (n2 : Int)) = true := by simp; omega
          have d5 : decide (0 < n2) = true := by simp; omega
          have HX := Lib.hid (parse_refLong HM.out hrw (by omega))
          clear hrw hf hr h0 hr3
          go_wp2_with fail
          go_ret2
          exact ret_parse_no HX.out hbr
end Go.Proofs.YthgaiimgfnbkaaaGreatDoor
