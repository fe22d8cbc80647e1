/-
  Lists of entries: what rises, and what is few: the contracts of Rising, the program's and the reference's, and of Few.
-/
import Derived.Test.YtkdjjdkcogolmaaIkO
import Derived.Deep.RegionHeld3
namespace Go.Proofs.Ytkdjjdkcogolmaa
set_option maxRecDepth 100000
open Go.RowKit Go.Shelf

theorem wrapi (x : Int) (h0 : -9223372036854775808 ≤ x) (h1 : x ≤ 9223372036854775807) : IntKind.i64.wrap x = x := by
  simp [IntKind.wrap, IntKind.bits, IntKind.signed]; omega
def cmpE (a b : Ent) : Int := cmpV a.s a.q a.k b.s b.q b.k
def risB : List Ent → Bool
  | a :: b :: r => decide (cmpE a b < 0) && risB (b :: r)
  | _ => true
theorem risB_iff : ∀ L : List Ent, risB L = true ↔ ∀ i a b, L[i]? = some a → L[i + 1]? = some b → cmpE a b < 0
  | [] => by simp [risB]
  | [x] => by simp [risB]
  | x :: y :: r => by
    have ih := risB_iff (y :: r)
    simp only [risB, Bool.and_eq_true, decide_eq_true_eq, ih]
    constructor
    · rintro ⟨h0, h1⟩ i a b ha hb
      cases i with
      | zero => simp at ha hb; subst ha; subst hb; exact h0
      | succ i => exact h1 i a b (by simpa using ha) (by simpa using hb)
    · intro h
      exact ⟨h 0 x y rfl rfl, fun i a b ha hb => h (i + 1) a b (by simpa using ha) (by simpa using hb)⟩

set_option maxRecDepth 100000 in
set_option maxHeartbeats 2000000 in
theorem rising_c {w : World} {B n c : Nat} {A : Option Addr} {L : List Ent} (h : RdE w B A n c L) (hB : B ≤ w.heap.size) (hn : (n : Int) ≤ 70368744000000) :
    Calls Try.prog 13 #[.slice A n c] w (RetVl w (.bool (risB L))) := by
  have hl := h.len
  have HI := Lib.hid (risB_iff L)
  have HC := fun W (a b : Ent) => compare_c W a.s b.s a.q a.k b.q b.k
  unfold ik at HC
  have HC := Lib.hid HC
  have HL := Lib.hid hl
  go_enter Try.func13, Try.ntmps13
  go_wp2_with fail
  go_loopw [3] (fun iv wr => ∃ k : Nat, iv = .int .i64 (k : Int) ∧ 1 ≤ k ∧ (k ≤ n ∨ k = 1) ∧ (∀ i a b, i + 1 < k → L[i]? = some a → L[i + 1]? = some b → cmpE a b < 0) ∧ Below w.heap.size w wr) (fun iv _ => ((n : Int) - intOf iv).toNat)
  case atStart => exact ⟨1, rfl, by omega, .inr rfl, fun i a b hi => by omega, Below.refl _ _⟩
  case round =>
    obtain ⟨k, rfl, hk1, hkn, hall, hbr⟩ := hrel
    by_cases hlt : k < n
    · obtain ⟨j, hj⟩ : ∃ j, k = j + 1 := ⟨k - 1, by omega⟩
      obtain ⟨b, off, hA, hbB, hcell⟩ := h.form (by omega)
      subst hA
      obtain ⟨x, hx⟩ : ∃ x, L[j]? = some x := ⟨L[j]'(by omega), List.getElem?_eq_getElem _⟩
      obtain ⟨y, hy⟩ : ∃ y, L[k]? = some y := ⟨L[k]'(by omega), List.getElem?_eq_getElem _⟩
      have hk (i : Nat) : wr.cell? ⟨b, i, none⟩ = w.cell? ⟨b, i, none⟩ := hbr.cell (by simp; omega)
      obtain ⟨x0, x1, x2, _⟩ := hcell j x hx
      obtain ⟨y0, y1, y2, _⟩ := hcell k y hy
      rw [← hk] at x0 x1 x2 y0 y1 y2
      have hki : (k : Int) < (n : Int) := by omega
      have hji : (0 : Int) ≤ (j : Int) := by omega
      have hjn : (j : Int) < (n : Int) := by omega
      have hk0 : (0 : Int) ≤ (k : Int) := by omega
      have hw : IntKind.i64.wrap ((k : Int) - 1) = (j : Int) := by rw [wrapi _ (by omega) (by omega)]; omega
      have HC2 := Lib.hid (HC.out wr.drew x y)
      have hbw : b < wr.drew.heap.size := (by have := hbr.size; omega : b < wr.heap.size)
      have HB := Lib.hid hbw
      have HX := Lib.hid hx
      have HY := Lib.hid hy
      have HK := Lib.hid hj
      have HBR := Lib.hid hbr
      have HALL := Lib.hid hall
      clear hbw hcell hk hx hy hj hk1 hkn hall h hl hbr HC
      go_wp2_with fail
      go_region_held3 (fun w' => w'.cell? ⟨b, off + j * 4, none⟩ = some (.string x.s) ∧ w'.cell? ⟨b, off + j * 4 + 1, none⟩ = some (.int .u64 (x.q : Int)) ∧ w'.cell? ⟨b, off + j * 4 + 2, none⟩ = some (.int .u8 (x.k : Int)) ∧ w'.cell? ⟨b, off + k * 4, none⟩ = some (.string y.s) ∧ w'.cell? ⟨b, off + k * 4 + 1, none⟩ = some (.int .u64 (y.q : Int)) ∧ w'.cell? ⟨b, off + k * 4 + 2, none⟩ = some (.int .u8 (y.k : Int))) (go_keep)
        ((go_at_call 15; refine HC2.out.mono ?_; rintro e w2 ⟨rfl, hb2⟩; have hk2 := (fun (i : Nat) => hb2.cell (p := ⟨b, i, none⟩) HB.out); have z0 := (hk2 _).trans x0; have z1 := (hk2 _).trans x1; have z2 := (hk2 _).trans x2; have z3 := (hk2 _).trans y0; have z4 := (hk2 _).trans y1; have z5 := (hk2 _).trans y2; clear hk2 x0 x1 x2 y0 y1 y2))
      have hcv : cmpV x.s x.q x.k y.s y.q y.k = cmpE x y := rfl
      rw [hcv]
      generalize hce : cmpE x y = cv at *
      have HCE := Lib.hid hce
      have hb3 : Below w.heap.size w w2 := (HBR.out.trans (below_drewN (Below.refl _ _) 1)).trans (hb2.mono HBR.out.size)
      clear hcv hce hb2 z0 z1 z2 z3 z4 z5
      by_cases hneg : cv < 0
      · have hd : decide (0 ≤ cv) = false := by simp; omega
        go_wp2_with fail
        go_roundw
        case rel =>
          refine ⟨k + 1, by simp, by omega, .inl (by omega), fun i a b' hi ha hb' => ?_, hb3⟩
          rcases Nat.lt_or_ge (i + 1) k with h1 | h1
          · exact HALL.out i a b' h1 ha hb'
          · have hij : i = j := by have := HK.out; omega
            subst hij
            rw [HX.out] at ha
            rw [← HK.out, HY.out] at hb'
            cases ha; cases hb'
            rw [HCE.out]; exact hneg
        case measure => simp [intOf]; omega
      · have hd : decide (0 ≤ cv) = true := by simp; omega
        have hno : risB L = false := by
          cases hr : risB L with
          | false => rfl
          | true =>
            have := HI.out.1 hr j x y HX.out (by rw [← HK.out]; exact HY.out)
            rw [HCE.out] at this
            exact absurd this hneg
        have HNO := Lib.hid hno
        clear hno
        go_wp2_with fail
        go_ret
        exact RetVl.bool HNO.out.symm hb3
    · have hki : ¬ (k : Int) < (n : Int) := by omega
      have hyes : risB L = true := HI.out.2 fun i a b' ha hb' => by
        have : i + 1 < n := by
          rcases Nat.lt_or_ge (i + 1) L.length with h1 | h1
          · rw [HL.out] at h1; exact h1
          · rw [List.getElem?_eq_none h1] at hb'; cases hb'
        exact hall i a b' (by omega) ha hb'
      have HY := Lib.hid hyes
      clear hyes hall h hl HC
      go_wp2_with fail
      go_ret
      exact RetVl.bool HY.out.symm hbr
def smallB (x : Ent) : Bool := decide (x.s.size ≤ 70) && decide (x.v.size ≤ 300)
def fewB (L : List Ent) (most : Int) : Bool := L.all smallB && decide ((L.length : Int) ≤ most)

set_option maxRecDepth 100000 in
set_option maxHeartbeats 2000000 in
theorem few_c {w : World} {B n c : Nat} {A : Option Addr} {L : List Ent} (h : RdE w B A n c L) (hB : B ≤ w.heap.size) (most : Int) :
    Calls Try.prog 6 #[.slice A n c, .int .i64 most] w (RetVl w (.bool (fewB L most))) := by
  have hl := h.len
  have hcap := h.cap
  have hmax := h.max
  have hm : (n : Int) ≤ 9223372036854775807 := by have : maxLen ≤ 9223372036854775807 := by decide
                                                  omega
  go_enter Try.func6, Try.ntmps6
  go_wp2_with fail
  clear hcap hmax
  go_loopw [9] (fun iv wr => ∃ k : Nat, iv = .int .i64 (k : Int) ∧ k ≤ n ∧ (∀ i a, i < k → L[i]? = some a → smallB a = true) ∧ Below w.heap.size w wr) (fun iv _ => ((n : Int) - intOf iv).toNat)
  case atStart => exact ⟨0, rfl, by omega, fun i a hi => by omega, Below.refl _ _⟩
  case round =>
    obtain ⟨k, rfl, hkn, hall, hbr⟩ := hrel
    by_cases hlt : k < n
    · obtain ⟨b, off, hA, hbB, hcell⟩ := h.form (by omega)
      subst hA
      obtain ⟨x, hx⟩ : ∃ x, L[k]? = some x := ⟨L[k]'(by omega), List.getElem?_eq_getElem _⟩
      have hk (i : Nat) : wr.cell? ⟨b, i, none⟩ = w.cell? ⟨b, i, none⟩ := hbr.cell (by simp; omega)
      obtain ⟨x0, x1, x2, x3⟩ := hcell k x hx
      rw [← hk] at x0 x1 x2 x3
      have hki : (k : Int) < (n : Int) := by omega
      have hk0 : (0 : Int) ≤ (k : Int) := by omega
      have HX := Lib.hid hx
      have HALL := Lib.hid hall
      have hb3 := hbr.alloc hbr.size (.cells #[.string x.s, .int .u64 (x.q : Int), .int .u8 (x.k : Int), .string x.v] 45)
      have hsm : ∀ b, b = smallB x → (if x.s.size ≤ 70 then decide (x.v.size ≤ 300) else false) = b := fun b hb => by subst hb; unfold smallB; by_cases h1 : x.s.size ≤ 70 <;> simp [h1]
      have HSM := Lib.hid hsm
      have HBR := Lib.hid hbr
      clear hcell hk hx hkn hall h hl hbr hsm
      by_cases h1 : x.s.size ≤ 70
      · have d1 : decide ((70 : Int) < (x.s.size : Int)) = false := by simp; omega
        have d2 : decide (70 < x.s.size) = false := by simp; omega
        by_cases h2 : x.v.size ≤ 300
        · have d3 : decide ((300 : Int) < (x.v.size : Int)) = false := by simp; omega
          have d4 : decide (300 < x.v.size) = false := by simp; omega
          go_wp2_with fail
          go_roundw
          case rel =>
            refine ⟨k + 1, by simp, by omega, fun i a hi ha => ?_, hb3⟩
            rcases Nat.lt_or_ge i k with h3 | h3
            · exact HALL.out i a h3 ha
            · obtain rfl : i = k := by omega
              rw [HX.out] at ha
              cases ha
              simp [smallB, h1, h2]
          case measure => simp [intOf]; omega
        · have d3 : decide ((300 : Int) < (x.v.size : Int)) = true := by simp; omega
          have d4 : decide (300 < x.v.size) = true := by simp; omega
          have hno : fewB L most = false := by
            have : L.all smallB = false := by
              rw [List.all_eq_false]
              exact ⟨x, List.mem_of_getElem? HX.out, by simp [smallB, h2]⟩
            simp [fewB, this]
          have HNO := Lib.hid hno
          clear hno
          go_wp2_with fail
          go_ret
          exact RetVl.bool HNO.out.symm hb3
      · have d1 : decide ((70 : Int) < (x.s.size : Int)) = true := by simp; omega
        have d2 : decide (70 < x.s.size) = true := by simp; omega
        have hno : fewB L most = false := by
          have : L.all smallB = false := by
            rw [List.all_eq_false]
            exact ⟨x, List.mem_of_getElem? HX.out, by simp [smallB, h1]⟩
          simp [fewB, this]
        have HNO := Lib.hid hno
        clear hno
        go_wp2_with fail
        go_ret
        exact RetVl.bool HNO.out.symm hb3
    · have hki : ¬ (k : Int) < (n : Int) := by omega
      have hyes : L.all smallB = true := by
        rw [List.all_eq_true]
        intro x hx
        obtain ⟨i, hi⟩ := List.getElem?_of_mem hx
        have : i < n := by
          rcases Nat.lt_or_ge i L.length with h1 | h1
          · rw [hl] at h1; exact h1
          · rw [List.getElem?_eq_none h1] at hi; cases hi
        exact hall i x (by omega) hi
      have hfin : fewB L most = decide ((n : Int) ≤ most) := by simp [fewB, hyes, hl]
      have HF := Lib.hid hfin
      clear hfin hyes hall h hl
      go_wp2_with fail
      all_goals go_ret
      all_goals exact RetVl.bool (by rw [HF.out]) hbr
end Go.Proofs.Ytkdjjdkcogolmaa
