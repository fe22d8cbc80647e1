/-
  Loops over operations: right, few, all; Right; what is few.
-/
import Derived.Test.YthgaiimgfnbkaaaGreatDoorBtO
import Derived.Test.YthgaiimgfnbkaaaGreatDoorBtL
namespace Go.Proofs.YthgaiimgfnbkaaaGreatDoor
set_option maxRecDepth 100000
open Go.RowKit Go.Shelf

theorem all_yes {L : List Bop} {n : Nat} (hl : L.length = n) (h : ∀ i a, i < n → L[i]? = some a → opB a = true) : L.all opB = true := by
  rw [List.all_eq_true]
  intro x hx
  obtain ⟨i, hi⟩ := List.getElem?_of_mem hx
  have : i < n := by
    rcases Nat.lt_or_ge i L.length with h1 | h1
    · omega
    · rw [List.getElem?_eq_none h1] at hi; cases hi
  exact h i x this hi
theorem all_no {L : List Bop} {k : Nat} {x : Bop} (hx : L[k]? = some x) (h : opB x = false) : L.all opB = false := by
  rw [List.all_eq_false]
  exact ⟨x, List.mem_of_getElem? hx, by simp [h]⟩

set_option maxRecDepth 100000 in
set_option maxHeartbeats 2000000 in
theorem grp_c {w : World} {B n c : Nat} {A : Option Addr} {L : List Bop} (h : RdO w B A n c L) (hB : B ≤ w.heap.size) (hn : (n : Int) ≤ 70368744000000) (most : Nat) :
    Calls Tryz.prog 36 #[.slice A n c, .int .i64 (most : Int)] w (RetVl w (.bool (grpB L most))) := by
  have hl := h.len
  have HO := fun W (x : Bop) => op_c W x
  unfold ov at HO
  have HO := Lib.hid HO
  by_cases h0 : n < 1
  · have d1 : decide ((n : Int) < 1) = true := by simp; omega
    have hno : grpB L most = false := by unfold grpB; rw [hl]; simp; omega
    have HNO := Lib.hid hno
    clear hno h hl
    go_enter Tryz.func36, Tryz.ntmps36
    go_wp2_with fail
    go_ret
    exact RetVl.bool HNO.out.symm (Below.refl _ _)
  have d1 : decide ((n : Int) < 1) = false := by simp; omega
  by_cases h2 : most < n
  · have d2 : decide (most < n) = true := by simpa using h2
    have d3 : decide ((most : Int) < (n : Int)) = true := by simp; omega
    have hno : grpB L most = false := by unfold grpB; rw [hl]; simp; omega
    have HNO := Lib.hid hno
    clear hno h hl
    go_enter Tryz.func36, Tryz.ntmps36
    go_wp2_with fail
    go_ret
    exact RetVl.bool HNO.out.symm (Below.refl _ _)
  have d2 : decide (most < n) = false := by simpa using h2
  have d3 : decide ((most : Int) < (n : Int)) = false := by simp; omega
  have hg : grpB L most = L.all opB := by unfold grpB; rw [hl]; simp; omega
  have HG := Lib.hid hg
  clear hg
  go_enter Tryz.func36, Tryz.ntmps36
  go_wp2_with fail
  go_loopw [18] (fun iv wr => ∃ k : Nat, iv = .int .i64 (k : Int) ∧ k ≤ n ∧ (∀ i a, i < k → L[i]? = some a → opB a = true) ∧ Below w.heap.size w wr) (fun iv _ => ((n : Int) - intOf iv).toNat)
  case atStart => exact ⟨0, rfl, by omega, fun i a hi => by omega, Below.refl _ _⟩
  case round =>
    obtain ⟨k, rfl, hkn, hall, hbr⟩ := hrel
    by_cases hlt : k < n
    · obtain ⟨b, off, hA, hbB, hcell⟩ := h.form (by omega)
      subst hA
      obtain ⟨x, hx⟩ : ∃ x, L[k]? = some x := ⟨L[k]'(by omega), List.getElem?_eq_getElem _⟩
      have hk (i : Nat) : wr.cell? ⟨b, i, none⟩ = w.cell? ⟨b, i, none⟩ := hbr.cell (by simp; omega)
      obtain ⟨x0, x1, x2⟩ := hcell k x hx
      rw [← hk] at x0 x1 x2
      have hki : (k : Int) < (n : Int) := by omega
      have hk0 : (0 : Int) ≤ (k : Int) := by omega
      have HX := Lib.hid hx
      have HALL := Lib.hid hall
      have HO2 := Lib.hid (HO.out (wr.alloc (.cells #[.int .u8 (x.k : Int), .string x.s, .string x.v] 43)) x)
      have HBR := Lib.hid hbr
      clear hcell hk hx hkn hall h hl hbr HO
      go_wp2_with fail
      refine HO2.out.mono ?_
      rintro e w2 ⟨rfl, hb2⟩
      have hbr := HBR.out
      have hb3 : Below w.heap.size w w2 := bon (blit hbr (.cells #[.int .u8 (x.k : Int), .string x.s, .string x.v] 43)) hb2
      clear hb2 hbr HO2 x0 x1 x2
      generalize hox : opB x = ox at *
      have HOX := Lib.hid hox
      clear hox
      cases ox with
      | true =>
        go_wp2_with fail
        go_roundw
        case rel =>
          refine ⟨k + 1, by simp, by omega, fun i a hi ha => ?_, hb3⟩
          rcases Nat.lt_or_ge i k with h3 | h3
          · exact HALL.out i a h3 ha
          · obtain rfl : i = k := by omega
            rw [HX.out] at ha
            cases ha
            exact HOX.out
        case measure => simp [intOf]; omega
      | false =>
        have hno : L.all opB = false := all_no HX.out HOX.out
        have hno : grpB L most = false := by rw [HG.out]; exact hno
        have HNO := Lib.hid hno
        clear hno
        go_wp2_with fail
        go_ret
        exact RetVl.bool HNO.out.symm hb3
    · have hki : ¬ (k : Int) < (n : Int) := by omega
      have hyes : L.all opB = true := all_yes hl (fun i a hi ha => hall i a (by omega) ha)
      have hyes : grpB L most = true := by rw [HG.out]; exact hyes
      have HY := Lib.hid hyes
      clear hyes hall h hl HO
      go_wp2_with fail
      go_ret
      exact RetVl.bool HY.out.symm hbr
set_option maxRecDepth 100000 in
set_option maxHeartbeats 2000000 in
theorem refFew_c {w : World} {B n c : Nat} {A : Option Addr} {L : List Bop} (h : RdO w B A n c L) (hB : B ≤ w.heap.size) (hn : (n : Int) ≤ 70368744000000) (most : Nat) :
    Calls Tryz.prog 43 #[.slice A n c, .int .i64 (most : Int)] w (RetVl w (.bool (grpB L most))) := by
  have hl := h.len
  have HO := fun W (x : Bop) => refOp_c W x
  unfold ov at HO
  have HO := Lib.hid HO
  go_enter Tryz.func43, Tryz.ntmps43
  go_wp2_with fail
  go_loopw [5] (fun iv wr => ∃ k : Nat, iv = .int .i64 (k : Int) ∧ k ≤ n ∧ (∀ i a, i < k → L[i]? = some a → opB a = true) ∧ Below w.heap.size w wr) (fun iv _ => ((n : Int) - intOf iv).toNat)
  case atStart => exact ⟨0, rfl, by omega, fun i a hi => by omega, Below.refl _ _⟩
  case round =>
    obtain ⟨k, rfl, hkn, hall, hbr⟩ := hrel
    by_cases hlt : k < n
    · obtain ⟨b, off, hA, hbB, hcell⟩ := h.form (by omega)
      subst hA
      obtain ⟨x, hx⟩ : ∃ x, L[k]? = some x := ⟨L[k]'(by omega), List.getElem?_eq_getElem _⟩
      have hk (i : Nat) : wr.cell? ⟨b, i, none⟩ = w.cell? ⟨b, i, none⟩ := hbr.cell (by simp; omega)
      obtain ⟨x0, x1, x2⟩ := hcell k x hx
      rw [← hk] at x0 x1 x2
      have hki : (k : Int) < (n : Int) := by omega
      have hk0 : (0 : Int) ≤ (k : Int) := by omega
      have HX := Lib.hid hx
      have HALL := Lib.hid hall
      have HO2 := Lib.hid (HO.out wr x)
      have HBR := Lib.hid hbr
      clear hcell hk hx hkn hall h hl hbr HO
      go_wp2_with fail
      refine HO2.out.mono ?_
      rintro e w2 ⟨rfl, hb2⟩
      have hbr := HBR.out
      have hb3 : Below w.heap.size w w2 := bon hbr hb2
      clear hb2 hbr HO2 x0 x1 x2
      generalize hox : opB x = ox at *
      have HOX := Lib.hid hox
      clear hox
      cases ox with
      | true =>
        go_wp2_with fail
        go_roundw
        case rel =>
          refine ⟨k + 1, by simp, by omega, fun i a hi ha => ?_, hb3⟩
          rcases Nat.lt_or_ge i k with h3 | h3
          · exact HALL.out i a h3 ha
          · obtain rfl : i = k := by omega
            rw [HX.out] at ha
            cases ha
            exact HOX.out
        case measure => simp [intOf]; omega
      | false =>
        have hno : L.all opB = false := all_no HX.out HOX.out
        have hno : grpB L most = false := by unfold grpB; rw [hno]; simp
        have HNO := Lib.hid hno
        clear hno
        go_wp2_with fail
        go_ret
        exact RetVl.bool HNO.out.symm hb3
    · have hki : ¬ (k : Int) < (n : Int) := by omega
      have hyes : L.all opB = true := all_yes hl (fun i a hi ha => hall i a (by omega) ha)
      have hfin : grpB L most = (decide (1 ≤ n) && decide (n ≤ most)) := by unfold grpB; rw [hyes, hl]; simp
      have HF := Lib.hid hfin
      clear hyes hall h hl HO hfin
      by_cases h1 : 1 ≤ n
      · have d1 : decide ((1 : Int) ≤ (n : Int)) = true := by simp; omega
        have d1' : decide (1 ≤ n) = true := by simpa using h1
        by_cases h2 : n ≤ most
        · have d2 : decide ((n : Int) ≤ (most : Int)) = true := by simp; omega
          have d3 : decide (n ≤ most) = true := by simpa using h2
          go_wp2_with fail
          go_ret
          exact RetVl.bool (by rw [HF.out]; simp; omega) hbr
        · have d2 : decide ((n : Int) ≤ (most : Int)) = false := by simp; omega
          have d3 : decide (n ≤ most) = false := by simpa using h2
          go_wp2_with fail
          go_ret
          exact RetVl.bool (by rw [HF.out]; simp; omega) hbr
      · have d1 : decide ((1 : Int) ≤ (n : Int)) = false := by simp; omega
        have d1' : decide (1 ≤ n) = false := by simpa using h1
        go_wp2_with fail
        go_ret
        exact RetVl.bool (by rw [HF.out]; simp; omega) hbr
def smallB (x : Bop) : Bool := decide (x.s.size ≤ 70) && decide (x.v.size ≤ 300)
def fewB (L : List Bop) (most : Int) : Bool := L.all smallB && decide ((L.length : Int) ≤ most)

set_option maxRecDepth 100000 in
set_option maxHeartbeats 2000000 in
theorem few_c {w : World} {B n c : Nat} {A : Option Addr} {L : List Bop} (h : RdO w B A n c L) (hB : B ≤ w.heap.size) (most : Int) :
    Calls Tryz.prog 16 #[.slice A n c, .int .i64 most] w (RetVl w (.bool (fewB L most))) := by
  have hl := h.len
  have hcap := h.cap
  have hmax := h.max
  have hm : (n : Int) ≤ 9223372036854775807 := by have : maxLen ≤ 9223372036854775807 := by decide
                                                  omega
  go_enter Tryz.func16, Tryz.ntmps16
  go_wp2_with fail
  clear hcap hmax
  go_loopw [9] (fun iv wr => ∃ k : Nat, iv = .int .i64 (k : Int) ∧ k ≤ n ∧ (∀ i a, i < k → L[i]? = some a → smallB a = true) ∧ Below w.heap.size w wr) (fun iv _ => ((n : Int) - intOf iv).toNat)
  case atStart => exact ⟨0, rfl, by omega, fun i a hi => by omega, Below.refl _ _⟩
  case round =>
    obtain ⟨k, rfl, hkn, hall, hbr⟩ := hrel
    by_cases hlt : k < n
    · obtain ⟨b, off, hA, hbB, hcell⟩ := h.form (by omega)
      subst hA
      obtain ⟨x, hx⟩ : ∃ x, L[k]? = some x := ⟨L[k]'(by omega), List.getElem?_eq_getElem _⟩
      have hk (i : Nat) : wr.cell? ⟨b, i, none⟩ = w.cell? ⟨b, i, none⟩ := hbr.cell (by simp; omega)
      obtain ⟨x0, x1, x2⟩ := hcell k x hx
      rw [← hk] at x0 x1 x2
      have hki : (k : Int) < (n : Int) := by omega
      have hk0 : (0 : Int) ≤ (k : Int) := by omega
      have HX := Lib.hid hx
      have HALL := Lib.hid hall
      have hb3 := hbr.alloc hbr.size (.cells #[.int .u8 (x.k : Int), .string x.s, .string x.v] 43)
      have hsm : ∀ b, b = smallB x → (if x.s.size ≤ 70 then decide (x.v.size ≤ 300) else false) = b := fun b hb => by subst hb; unfold smallB; by_cases h1 : x.s.size ≤ 70 <;> simp [h1]
      have HSM := Lib.hid hsm
      have HBR := Lib.hid hbr
      clear hcell hk hx hkn hall h hl hbr hsm
      by_cases h1 : x.s.size ≤ 70
      · have d1 : decide ((70 : Int) < (x.s.size : Int)) = false := by simp; omega
        have d2 : decide (70 < x.s.size) = false := by simp; omega
        by_cases h2 : x.v.size ≤ 300
        · have d3 : decide ((300 : Int) < (x.v.size : Int)) = false := by simp; omega
          have d4 : decide (300 < x.v.size) = false := by simp; omega
          go_wp2_with fail
          go_roundw
          case rel =>
            refine ⟨k + 1, by simp, by omega, fun i a hi ha => ?_, hb3⟩
            rcases Nat.lt_or_ge i k with h3 | h3
            · exact HALL.out i a h3 ha
            · obtain rfl : i = k := by omega
              rw [HX.out] at ha
              cases ha
              simp [smallB, h1, h2]
          case measure => simp [intOf]; omega
        · have d3 : decide ((300 : Int) < (x.v.size : Int)) = true := by simp; omega
          have d4 : decide (300 < x.v.size) = true := by simp; omega
          have hno : fewB L most = false := by
            have : L.all smallB = false := by
              rw [List.all_eq_false]
              exact ⟨x, List.mem_of_getElem? HX.out, by simp [smallB, h2]⟩
            simp [fewB, this]
          have HNO := Lib.hid hno
          clear hno
          go_wp2_with fail
          go_ret
          exact RetVl.bool HNO.out.symm hb3
      · have d1 : decide ((70 : Int) < (x.s.size : Int)) = true := by simp; omega
        have d2 : decide (70 < x.s.size) = true := by simp; omega
        have hno : fewB L most = false := by
          have : L.all smallB = false := by
            rw [List.all_eq_false]
            exact ⟨x, List.mem_of_getElem? HX.out, by simp [smallB, h1]⟩
          simp [fewB, this]
        have HNO := Lib.hid hno
        clear hno
        go_wp2_with fail
        go_ret
        exact RetVl.bool HNO.out.symm hb3
    · have hki : ¬ (k : Int) < (n : Int) := by omega
      have hyes : L.all smallB = true := by
        rw [List.all_eq_true]
        intro x hx
        obtain ⟨i, hi⟩ := List.getElem?_of_mem hx
        have : i < n := by
          rcases Nat.lt_or_ge i L.length with h1 | h1
          · rw [hl] at h1; exact h1
          · rw [List.getElem?_eq_none h1] at hi; cases hi
        exact hall i x (by omega) hi
      have hfin : fewB L most = decide ((n : Int) ≤ most) := by simp [fewB, hyes, hl]
      have HF := Lib.hid hfin
      clear hfin hyes hall h hl
      go_wp2_with fail
      all_goals go_ret
      all_goals exact RetVl.bool (by rw [HF.out]) hbr
end Go.Proofs.YthgaiimgfnbkaaaGreatDoor
