/-
  Which entries are a table; the bytes that a frame tells; a line of the index; the footer: the contracts of right, near, line, footer.
-/
import Derived.Test.YtkdjjdkcogolmaaT1
import Derived.Lib.MinMax
namespace Go.Proofs.Ytkdjjdkcogolmaa
set_option maxRecDepth 100000
open Go.RowKit Go.Shelf
set_option linter.unusedVariables false

set_option maxRecDepth 100000 in
set_option maxHeartbeats 2000000 in
theorem tabRight_c {w : World} {B n c : Nat} {A : Option Addr} {L : List Ent} (h : RdE w B A n c L) (hB : B ≤ w.heap.size) (hn : (n : Int) ≤ 70368744000000) :
    Calls Try.prog 18 #[.slice A n c] w (RetVl w (.bool (tblB L))) := by
  have hl := h.len
  have HO := fun W (x : Ent) => entry_c W x.s x.q x.k x.v
  unfold en at HO
  have HO := Lib.hid HO
  have HR := Lib.hid fun W (hW : Below w.heap.size w W) => rising_c (h.below hW hB) (Nat.le_trans hB hW.size) hn
  by_cases h0 : n < 1
  · have d1 : decide ((n : Int) < 1) = true := by simp; omega
    have hno : tblB L = false := by unfold tblB; rw [hl]; simp; omega
    have HNO := Lib.hid hno
    clear hno h hl HR
    go_enter Try.func18, Try.ntmps18
    go_wp2_with fail
    go_ret
    exact RetVl.bool HNO.out.symm (Below.refl _ _)
  have d1 : decide ((n : Int) < 1) = false := by simp; omega
  by_cases h2 : 8192 < n
  · have d2 : decide (8192 < n) = true := by simpa using h2
    have d3 : decide ((8192 : Int) < (n : Int)) = true := by simp; omega
    have hno : tblB L = false := by unfold tblB; rw [hl]; simp; omega
    have HNO := Lib.hid hno
    clear hno h hl HR
    go_enter Try.func18, Try.ntmps18
    go_wp2_with fail
    go_ret
    exact RetVl.bool HNO.out.symm (Below.refl _ _)
  have d2 : decide (8192 < n) = false := by simpa using h2
  have d3 : decide ((8192 : Int) < (n : Int)) = false := by simp; omega
  have hg : tblB L = (L.all entB && risB L) := by
    unfold tblB
    rw [hl, show decide (1 ≤ n) = true by simp; omega, show decide (n ≤ 8192) = true by simp; omega]
    rfl
  have HG := Lib.hid hg
  clear hg
  go_enter Try.func18, Try.ntmps18
  go_wp2_with fail
  go_loopw [15] (fun iv wr => ∃ k : Nat, iv = .int .i64 (k : Int) ∧ k ≤ n ∧ (∀ i a, i < k → L[i]? = some a → entB a = true) ∧ Below w.heap.size w wr) (fun iv _ => ((n : Int) - intOf iv).toNat)
  case atStart => exact ⟨0, rfl, by omega, fun i a hi => by omega, Below.refl _ _⟩
  case round =>
    obtain ⟨k, rfl, hkn, hall, hbr⟩ := hrel
    by_cases hlt : k < n
    · obtain ⟨b, off, hA, hbB, hcell⟩ := h.form (by omega)
      subst hA
      obtain ⟨x, hx⟩ : ∃ x, L[k]? = some x := ⟨L[k]'(by omega), List.getElem?_eq_getElem _⟩
      have hk (i : Nat) : wr.cell? ⟨b, i, none⟩ = w.cell? ⟨b, i, none⟩ := hbr.cell (by simp; omega)
      obtain ⟨x0, x1, x2, x3⟩ := hcell k x hx
      rw [← hk] at x0 x1 x2 x3
      have hki : (k : Int) < (n : Int) := by omega
      have hk0 : (0 : Int) ≤ (k : Int) := by omega
      have HX := Lib.hid hx
      have HALL := Lib.hid hall
      have HO2 := Lib.hid (HO.out (wr.alloc (.cells #[.string x.s, .int .u64 (x.q : Int), .int .u8 (x.k : Int), .string x.v] 45)) x)
      have HBR := Lib.hid hbr
      clear hcell hk hx hkn hall h hl hbr HO HR
      go_wp2_with fail
      refine HO2.out.mono ?_
      rintro e w2 ⟨rfl, hb2⟩
      have hbr := HBR.out
      have hb3 : Below w.heap.size w w2 := bon (blit hbr (.cells #[.string x.s, .int .u64 (x.q : Int), .int .u8 (x.k : Int), .string x.v] 45)) hb2
      clear hb2 hbr HO2 x0 x1 x2 x3
      generalize hox : entryB x.s x.q x.k x.v = ox at *
      have HOX := Lib.hid hox
      clear hox
      cases ox with
      | true =>
        go_wp2_with fail
        go_roundw
        case rel =>
          refine ⟨k + 1, by simp, by omega, fun i a hi ha => ?_, hb3⟩
          rcases Nat.lt_or_ge i k with h3 | h3
          · exact HALL.out i a h3 ha
          · obtain rfl : i = k := by omega
            rw [HX.out] at ha
            cases ha
            exact HOX.out
        case measure => simp [intOf]; omega
      | false =>
        have hno : L.all entB = false := allE_no HX.out HOX.out
        have hno : tblB L = false := by rw [HG.out, hno]; rfl
        have HNO := Lib.hid hno
        clear hno
        go_wp2_with fail
        go_ret
        exact RetVl.bool HNO.out.symm hb3
    · have hki : ¬ (k : Int) < (n : Int) := by omega
      have hyes : L.all entB = true := allE_yes hl (fun i a hi ha => hall i a (by omega) ha)
      have hyes : tblB L = risB L := by rw [HG.out, hyes]; rfl
      have HY := Lib.hid hyes
      have HR2 := Lib.hid (HR.out wr hbr)
      clear hyes hall h hl HO HR
      go_wp2_with fail
      refine HR2.out.mono ?_
      rintro e w2 ⟨rfl, hb2⟩
      have hb3 := bon hbr hb2
      clear hb2 HR2
      go_wp2_with fail
      go_ret
      exact RetVl.bool HY.out.symm hb3

set_option maxRecDepth 100000 in
set_option maxHeartbeats 2000000 in
theorem tnear_c {w : World} {B n c : Nat} {A : Option Addr} {l : List UInt8} (h : Rd w B A n c (bv l)) (hB : B ≤ w.heap.size) (hn : n ≤ 1000000000) :
    Calls Try.prog 46 #[.slice A n c] w fun e w' => ∃ N, e = .returned (.slice A N c) ∧ N ≤ n ∧ (4 ≤ l.length → N = min (lenL l + 8) l.length) ∧ (l.length < 4 → N = n) ∧ Below w.heap.size w w' := by
  have hl : l.length = n := by simpa using h.len
  have hcap := h.cap
  have hni : (n : Int) ≤ 1000000000 := by omega
  obtain ⟨m, hm⟩ : ∃ m, min 4 n = m := ⟨_, rfl⟩
  have hmin : ∀ (W : World) (ts : Array TypeId) (ty : TypeId), (Builtin.min_ ts ty #[.int .i64 4, .int .i64 (n : Int)]).run Try.prog W = .ok (.int .i64 (m : Int)) W := fun W ts ty => by
    rw [Lib.run_min_ints]; congr 2; omega
  have hsl := fun W => run_slice_hi_gen (P := Try.prog) (n := n) (A := A) 23 5 Try.underlying23 info_u8 .i64 (k := m) (c := c) (by omega) W
  have hfr := h.front (k := m) (by omega)
  rw [bv_take] at hfr
  have hfl : (l.take m).length = m := by rw [List.length_take]; omega
  have hmi : (m : Int) ≤ 4 := by omega
  obtain ⟨v, ok, A1, n1, c1, hv, HT⟩ : ∃ (v : Nat) (x : Bool) (_ : Unit) (_ : Unit) (_ : Unit), (v ≤ 4294967295 ∧ (4 ≤ n → v = lenL l) ∧ (n < 4 → v = 0)) ∧ Calls Try.prog 60 #[.slice A m c] w (fun e w' => (∃ A1 n1 c1, e = .returned (.tuple #[.int .u32 (v : Int), .slice A1 n1 c1, .bool x])) ∧ Below w.heap.size w w') := by
    by_cases h4 : 4 ≤ n
    · have hm4 : m = 4 := by omega
      refine ⟨lenL l, true, (), (), (), ⟨lenL_lt l, fun _ => rfl, fun h => by omega⟩, (takeFour_c hfr hB (by omega) (by omega)).mono ?_⟩
      rintro e w1 ⟨A2, n2, c2, rfl, hf2, hb2⟩
      refine ⟨⟨A2, n2, c2, ?_⟩, hb2⟩
      unfold lenL
      rw [List.take_take, hm4]
      rfl
    · refine ⟨0, false, (), (), (), ⟨by omega, fun h => absurd h h4, fun _ => rfl⟩, (takeFour_no hfr (by omega)).mono ?_⟩
      rintro e w1 ⟨A2, n2, c2, rfl, hf2, hb2⟩
      exact ⟨⟨A2, n2, c2, rfl⟩, hb2⟩
  obtain ⟨N, hN⟩ : ∃ N, min (v + 8) n = N := ⟨_, rfl⟩
  have hvi : (v : Int) ≤ 4294967295 := by omega
  have w1 : IntKind.u64.wrap (v : Int) = (v : Int) := by rw [wrapu]; omega
  have w2 : IntKind.u64.wrap (8 + (v : Int)) = 8 + (v : Int) := by rw [wrapu]; omega
  have w4 : IntKind.u64.wrap (n : Int) = (n : Int) := by rw [wrapu]; omega
  have hmin2 : ∀ (W : World) (ts : Array TypeId) (ty : TypeId), (Builtin.min_ ts ty #[.int .u64 (8 + (v : Int)), .int .u64 (n : Int)]).run Try.prog W = .ok (.int .u64 (N : Int)) W := fun W ts ty => by
    rw [Lib.run_min_ints]; congr 2; omega
  have hsl2 := fun W => run_slice_hi_gen (P := Try.prog) (n := n) (A := A) 23 5 Try.underlying23 info_u8 .u64 (k := N) (c := c) (by omega) W
  have HF := Lib.hid (show N ≤ n ∧ (4 ≤ l.length → N = min (lenL l + 8) l.length) ∧ (l.length < 4 → N = n) from ⟨by omega, fun h4 => by rw [hl] at h4 ⊢; rw [← hv.2.1 h4]; omega, fun h4 => by have := hv.2.2 (by omega); omega⟩)
  have HT := Lib.hid HT
  clear hfr hfl h hN hv hl hm hcap
  go_enter Try.func46, Try.ntmps46
  go_wp2_with fail
  refine HT.out.mono ?_
  rintro e w1 ⟨⟨A1, n1, c1, rfl⟩, hb1⟩
  go_wp2_with fail
  go_ret
  exact ⟨N, rfl, HF.out.1, HF.out.2.1, HF.out.2.2, hb1⟩

set_option maxRecDepth 100000 in
set_option maxHeartbeats 2000000 in
theorem tline_c {w : World} {x : Ent} (hx : rightB x.s x.q x.k = true) {a z : Nat} (ha : a ≤ 1000000000) (hz : z ≤ 1000000000) :
    Calls Try.prog 27 #[ik x.s x.q x.k, .int .i64 (a : Int), .int .i64 (z : Int)] w (RetB w (lineL x a z)) := by
  have hp : putL [] x.s x.q x.k = formL x.s x.q x.k := by unfold putL; rw [if_pos hx, List.nil_append]
  have hfl := formL_len hx
  have hla := shortL_len a
  have w1 : IntKind.u64.wrap (a : Int) = (a : Int) := by rw [wrapu]; omega
  have w2 : IntKind.u64.wrap (z : Int) = (z : Int) := by rw [wrapu]; omega
  have HP := Lib.hid (fun W => put3_c (w := W) (B := 0) (l := []) Rd.nilv (Nat.zero_le _) (by decide) x.s x.q x.k)
  rw [hp] at HP
  unfold ik at HP ⊢
  have i0 := IkAt.new w x.s x.q x.k
  obtain ⟨a0, a1, a2⟩ := i0.cells
  have HL := Lib.hid (And.intro hfl hla)
  have HA := Lib.hid (And.intro ha hz)
  clear i0 hfl hla hx hp ha hz
  go_enter Try.func27, Try.ntmps27
  go_wp2_with fail
  refine (HP.out _).mono ?_
  rintro e w2 ⟨A2, n2, c2, rfl, hf2, hb2⟩
  have hb3 : Below w.heap.size w w2 := bon (below_alloc w _) hb2
  have hn2 : n2 ≤ 90 := by have := hf2.len; rw [bv_length] at this; have := HL.out; omega
  have HQ := Lib.hid ((put_c (hf2.rd (Nat.le_refl _)) (Nat.le_refl _) (by omega) (a : Int) (by omega) (by have := HA.out; omega)))
  rw [Int.toNat_natCast] at HQ
  clear hf2 hb2 a0 a1 a2
  go_wp2_with fail
  refine HQ.out.mono ?_
  rintro e w4 ⟨A4, n4, c4, rfl, hf4, hb4⟩
  have hb5 : Below w.heap.size w w4 := bon hb3 hb4
  have hn4 : n4 ≤ 100 := by have := hf4.len; rw [bv_length, List.length_append] at this; have := HL.out; omega
  have HR := Lib.hid ((put_c (hf4.rd (Nat.le_refl _)) (Nat.le_refl _) (by omega) (z : Int) (by omega) (by have := HA.out; omega)))
  rw [Int.toNat_natCast] at HR
  clear hf4 hb4 hb3 HQ
  go_wp2_with fail
  refine HR.out.mono ?_
  rintro e w6 ⟨A6, n6, c6, rfl, hf6, hb6⟩
  go_wp2_with fail
  go_ret
  refine ⟨A6, n6, c6, rfl, ?_, bon hb5 hb6⟩
  unfold lineL
  rw [← List.append_assoc]
  exact hf6.mono hb5.size

set_option maxRecDepth 100000 in
set_option maxHeartbeats 2000000 in
theorem footer_c {w : World} {a z : Nat} (ha : a ≤ 1000000000) (hz : z ≤ 1000000000) :
    Calls Try.prog 31 #[.int .i64 (a : Int), .int .i64 (z : Int)] w (RetB w (ftL a z)) := by
  have w1 : IntKind.u32.wrap (a : Int) = (a : Int) := wrap32 _ (by omega) (by omega)
  have w2 : IntKind.u32.wrap (z : Int) = (z : Int) := wrap32 _ (by omega) (by omega)
  have HP := Lib.hid (putFour_c (w := w) (B := 0) (l := []) Rd.nilv (Nat.zero_le _) (by decide) (a : Int) (by omega) (by omega))
  rw [List.nil_append, Int.toNat_natCast] at HP
  have HA := Lib.hid hz
  clear ha hz
  go_enter Try.func31, Try.ntmps31
  go_wp2_with fail
  refine HP.out.mono ?_
  rintro e w2 ⟨A2, n2, c2, rfl, hf2, hb2⟩
  obtain rfl : n2 = 4 := by have := hf2.len; rw [bv_length, fourL_len] at this; omega
  have HQ := Lib.hid ((putFour_c (hf2.rd (Nat.le_refl _)) (Nat.le_refl _) (by omega) (z : Int) (by omega) (by have := HA.out; omega)))
  rw [Int.toNat_natCast] at HQ
  clear hf2
  go_wp2_with fail
  refine HQ.out.mono ?_
  rintro e w4 ⟨A4, n4, c4, rfl, hf4, hb4⟩
  have hb5 : Below w.heap.size w w4 := bon hb2 hb4
  obtain rfl : n4 = 8 := by have := hf4.len; rw [bv_length, List.length_append, fourL_len, fourL_len] at this; omega
  have hf5 := hf4.mono (b' := w.heap.size) hb2.size
  have hbs := hb5.size
  clear hf4 hb4 hb2 HQ
  go_wp2_with (at_builtin; refine wpList_apps rfl (.tmp 10) (.const (.string ⟨#[82, 84, 76, 49]⟩)) _ _ rfl Try.underlying23 Try.underlying9 info_u8 rfl hf5 rfl (by decide) hbs ?_; intro A' c' w' hf hb hg)
  go_ret
  refine ⟨A', _, c', rfl, ?_, hb5.trans hb⟩
  unfold ftL
  rw [← bv_append, List.append_assoc] at hf
  exact hf
end Go.Proofs.Ytkdjjdkcogolmaa
