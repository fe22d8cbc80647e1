/-
  Which entries are a block: the contracts of right, the program's and the reference's.
-/
import Derived.Test.YtfbmphaabdhphaaB1
namespace Go.Proofs.Ytfbmphaabdhphaa
set_option maxRecDepth 100000
open Go.RowKit Go.Shelf
set_option linter.unusedVariables false

theorem allE_yes {L : List Ent} {n : Nat} (hl : L.length = n) (h : ∀ i a, i < n → L[i]? = some a → entB a = true) : L.all entB = true := by
  rw [List.all_eq_true]
  intro x hx
  obtain ⟨i, hi⟩ := List.getElem?_of_mem hx
  have : i < n := by
    rcases Nat.lt_or_ge i L.length with h1 | h1
    · omega
    · rw [List.getElem?_eq_none h1] at hi; cases hi
  exact h i x this hi
theorem allE_no {L : List Ent} {k : Nat} {x : Ent} (hx : L[k]? = some x) (h : entB x = false) : L.all entB = false := by
  rw [List.all_eq_false]
  exact ⟨x, List.mem_of_getElem? hx, by simp [h]⟩

set_option maxRecDepth 100000 in
set_option maxHeartbeats 2000000 in
theorem blkRight_c {w : World} {B n c : Nat} {A : Option Addr} {L : List Ent} (h : RdE w B A n c L) (hB : B ≤ w.heap.size) (hn : (n : Int) ≤ 70368744000000) :
    Calls Try.prog 22 #[.slice A n c] w (RetVl w (.bool (blkB L))) := by
  have hl := h.len
  have HO := fun W (x : Ent) => entry_c W x.s x.q x.k x.v
  unfold en at HO
  have HO := Lib.hid HO
  have HR := Lib.hid fun W (hW : Below w.heap.size w W) => rising_c (h.below hW hB) (Nat.le_trans hB hW.size) hn
  by_cases h0 : n < 1
  · have d1 : decide ((n : Int) < 1) = true := by simp; omega
    have hno : blkB L = false := by unfold blkB; rw [hl]; simp; omega
    have HNO := Lib.hid hno
    clear hno h hl HR
    go_enter Try.func22, Try.ntmps22
    go_wp2_with fail
    go_ret
    exact RetVl.bool HNO.out.symm (Below.refl _ _)
  have d1 : decide ((n : Int) < 1) = false := by simp; omega
  by_cases h2 : 64 < n
  · have d2 : decide (64 < n) = true := by simpa using h2
    have d3 : decide ((64 : Int) < (n : Int)) = true := by simp; omega
    have hno : blkB L = false := by unfold blkB; rw [hl]; simp; omega
    have HNO := Lib.hid hno
    clear hno h hl HR
    go_enter Try.func22, Try.ntmps22
    go_wp2_with fail
    go_ret
    exact RetVl.bool HNO.out.symm (Below.refl _ _)
  have d2 : decide (64 < n) = false := by simpa using h2
  have d3 : decide ((64 : Int) < (n : Int)) = false := by simp; omega
  have hg : blkB L = (L.all entB && risB L) := by
    unfold blkB
    rw [hl, show decide (1 ≤ n) = true by simp; omega, show decide (n ≤ 64) = true by simp; omega]
    rfl
  have HG := Lib.hid hg
  clear hg
  go_enter Try.func22, Try.ntmps22
  go_wp2_with fail
  go_loopw [15] (fun iv wr => ∃ k : Nat, iv = .int .i64 (k : Int) ∧ k ≤ n ∧ (∀ i a, i < k → L[i]? = some a → entB a = true) ∧ Below w.heap.size w wr) (fun iv _ => ((n : Int) - intOf iv).toNat)
  case atStart => exact ⟨0, rfl, by omega, fun i a hi => by omega, Below.refl _ _⟩
  case round =>
    obtain ⟨k, rfl, hkn, hall, hbr⟩ := hrel
    by_cases hlt : k < n
    · obtain ⟨b, off, hA, hbB, hcell⟩ := h.form (by omega)
      subst hA
      obtain ⟨x, hx⟩ : ∃ x, L[k]? = some x := ⟨L[k]'(by omega), List.getElem?_eq_getElem _⟩
      have hk (i : Nat) : wr.cell? ⟨b, i, none⟩ = w.cell? ⟨b, i, none⟩ := hbr.cell (by simp; omega)
      obtain ⟨x0, x1, x2, x3⟩ := hcell k x hx
      rw [← hk] at x0 x1 x2 x3
      have hki : (k : Int) < (n : Int) := by omega
      have hk0 : (0 : Int) ≤ (k : Int) := by omega
      have HX := Lib.hid hx
      have HALL := Lib.hid hall
      have HO2 := Lib.hid (HO.out (wr.alloc (.cells #[.string x.s, .int .u64 (x.q : Int), .int .u8 (x.k : Int), .string x.v] 38)) x)
      have HBR := Lib.hid hbr
      clear hcell hk hx hkn hall h hl hbr HO HR
      go_wp2_with fail
      refine HO2.out.mono ?_
      rintro e w2 ⟨rfl, hb2⟩
      have hbr := HBR.out
      have hb3 : Below w.heap.size w w2 := bon (blit hbr (.cells #[.string x.s, .int .u64 (x.q : Int), .int .u8 (x.k : Int), .string x.v] 38)) hb2
      clear hb2 hbr HO2 x0 x1 x2 x3
      generalize hox : entryB x.s x.q x.k x.v = ox at *
      have HOX := Lib.hid hox
      clear hox
      cases ox with
      | true =>
        go_wp2_with fail
        go_roundw
        case rel =>
          refine ⟨k + 1, by simp, by omega, fun i a hi ha => ?_, hb3⟩
          rcases Nat.lt_or_ge i k with h3 | h3
          · exact HALL.out i a h3 ha
          · obtain rfl : i = k := by omega
            rw [HX.out] at ha
            cases ha
            exact HOX.out
        case measure => simp [intOf]; omega
      | false =>
        have hno : L.all entB = false := allE_no HX.out HOX.out
        have hno : blkB L = false := by rw [HG.out, hno]; rfl
        have HNO := Lib.hid hno
        clear hno
        go_wp2_with fail
        go_ret
        exact RetVl.bool HNO.out.symm hb3
    · have hki : ¬ (k : Int) < (n : Int) := by omega
      have hyes : L.all entB = true := allE_yes hl (fun i a hi ha => hall i a (by omega) ha)
      have hyes : blkB L = risB L := by rw [HG.out, hyes]; rfl
      have HY := Lib.hid hyes
      have HR2 := Lib.hid (HR.out wr hbr)
      clear hyes hall h hl HO HR
      go_wp2_with fail
      refine HR2.out.mono ?_
      rintro e w2 ⟨rfl, hb2⟩
      have hb3 := bon hbr hb2
      clear hb2 HR2
      go_wp2_with fail
      go_ret
      exact RetVl.bool HY.out.symm hb3
set_option maxRecDepth 100000 in
set_option maxHeartbeats 2000000 in
theorem refBlkRight_c {w : World} {B n c : Nat} {A : Option Addr} {L : List Ent} (h : RdE w B A n c L) (hB : B ≤ w.heap.size) (hn : (n : Int) ≤ 70368744000000) :
    Calls Try.prog 24 #[.slice A n c] w (RetVl w (.bool (blkB L))) := by
  have hl := h.len
  have HO := fun W (x : Ent) => refEntry_c W x.s x.q x.k x.v
  unfold en at HO
  have HO := Lib.hid HO
  have HR := Lib.hid fun W (hW : Below w.heap.size w W) => refRising_c (h.below hW hB) (Nat.le_trans hB hW.size) hn
  have HG : ∀ k, k = n → L.all entB = true → blkB L = (decide (1 ≤ k) && (decide (k ≤ 64) && risB L)) := fun k hk ha => by subst hk; unfold blkB; rw [hl, ha]; rfl
  have HG := Lib.hid HG
  have HGN : L.all entB = false → blkB L = false := fun ha => by unfold blkB; rw [ha]; simp
  have HGN := Lib.hid HGN
  go_enter Try.func24, Try.ntmps24
  go_wp2_with fail
  go_loopw [3] (fun iv wr => ∃ k : Nat, iv = .int .i64 (k : Int) ∧ k ≤ n ∧ (∀ i a, i < k → L[i]? = some a → entB a = true) ∧ Below w.heap.size w wr) (fun iv _ => ((n : Int) - intOf iv).toNat)
  case atStart => exact ⟨0, rfl, by omega, fun i a hi => by omega, Below.refl _ _⟩
  case round =>
    obtain ⟨k, rfl, hkn, hall, hbr⟩ := hrel
    by_cases hlt : k < n
    · obtain ⟨b, off, hA, hbB, hcell⟩ := h.form (by omega)
      subst hA
      obtain ⟨x, hx⟩ : ∃ x, L[k]? = some x := ⟨L[k]'(by omega), List.getElem?_eq_getElem _⟩
      have hk (i : Nat) : wr.cell? ⟨b, i, none⟩ = w.cell? ⟨b, i, none⟩ := hbr.cell (by simp; omega)
      obtain ⟨x0, x1, x2, x3⟩ := hcell k x hx
      rw [← hk] at x0 x1 x2 x3
      have hki : (k : Int) < (n : Int) := by omega
      have hk0 : (0 : Int) ≤ (k : Int) := by omega
      have HX := Lib.hid hx
      have HALL := Lib.hid hall
      have HO2 := Lib.hid (HO.out wr x)
      have HBR := Lib.hid hbr
      clear hcell hk hx hkn hall h hl hbr HO HR
      go_wp2_with fail
      refine HO2.out.mono ?_
      rintro e w2 ⟨rfl, hb2⟩
      have hb3 : Below w.heap.size w w2 := bon HBR.out hb2
      clear hb2 HO2 x0 x1 x2 x3
      generalize hox : entryB x.s x.q x.k x.v = ox at *
      have HOX := Lib.hid hox
      clear hox
      cases ox with
      | true =>
        go_wp2_with fail
        go_roundw
        case rel =>
          refine ⟨k + 1, by simp, by omega, fun i a hi ha => ?_, hb3⟩
          rcases Nat.lt_or_ge i k with h3 | h3
          · exact HALL.out i a h3 ha
          · obtain rfl : i = k := by omega
            rw [HX.out] at ha
            cases ha
            exact HOX.out
        case measure => simp [intOf]; omega
      | false =>
        have hno : L.all entB = false := allE_no HX.out HOX.out
        have hno : blkB L = false := HGN.out hno
        have HNO := Lib.hid hno
        clear hno
        go_wp2_with fail
        go_ret
        exact RetVl.bool HNO.out.symm hb3
    · have hki : ¬ (k : Int) < (n : Int) := by omega
      have hyes : L.all entB = true := allE_yes hl (fun i a hi ha => hall i a (by omega) ha)
      have hyes := HG.out n rfl hyes
      have HY := Lib.hid hyes
      have HR2 := Lib.hid (HR.out wr hbr)
      clear hyes hall h hl HO HR hkn
      by_cases h1 : 1 ≤ n
      case neg =>
        have d1 : decide ((1 : Int) ≤ (n : Int)) = false := by simp; omega
        have d1' : decide (1 ≤ n) = false := by simpa using h1
        have HD := Lib.hid d1'
        have hno : blkB L = false := by rw [HY.out, d1']; rfl
        have HNO := Lib.hid hno
        clear hno
        go_wp2_with fail
        go_ret
        first | exact RetVl.bool HNO.out.symm hbr | exact RetVl.bool rfl hbr
      have d1 : decide ((1 : Int) ≤ (n : Int)) = true := by simp; omega
      have d1' : decide (1 ≤ n) = true := by simpa using h1
      have HD := Lib.hid d1'
      by_cases h2 : n ≤ 64
      case neg =>
        have d2 : decide ((n : Int) ≤ 64) = false := by simp; omega
        have d2' : decide (n ≤ 64) = false := by simpa using h2
        have hno : blkB L = false := by rw [HY.out, d1', d2']; rfl
        have HNO := Lib.hid hno
        clear hno
        go_wp2_with fail
        go_ret
        first | exact RetVl.bool HNO.out.symm hbr | exact RetVl.bool rfl hbr
      have d2 : decide ((n : Int) ≤ 64) = true := by simp; omega
      have d2' : decide (n ≤ 64) = true := by simpa using h2
      have hno : blkB L = risB L := by rw [HY.out, d1', d2']; rfl
      have HNO := Lib.hid hno
      clear hno
      go_wp2_with fail
      refine HR2.out.mono ?_
      rintro e w2 ⟨rfl, hb2⟩
      have hb3 := bon hbr hb2
      clear hb2 HR2
      go_wp2_with fail
      go_ret
      exact RetVl.bool HNO.out.symm hb3
end Go.Proofs.Ytfbmphaabdhphaa
