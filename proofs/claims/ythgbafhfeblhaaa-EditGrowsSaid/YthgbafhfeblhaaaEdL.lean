/-
  Rows of edits; the statements' Few.
-/
import Derived.Test.YthgbafhfeblhaaaEdK
namespace Go.Proofs.Ythgbafhfeblhaaa
set_option maxRecDepth 100000
open Go.RowKit Go.Shelf
set_option linter.unusedSimpArgs false
set_option linter.unusedVariables false

/-- An edit, and where its notes lie. -/
structure Ev where
  A : Option Addr
  n : Nat
  c : Nat
  e : Ed
/-- A row of edits. -/
structure RdD (w : World) (B : Nat) (A : Option Addr) (n c : Nat) (L : List Ev) : Prop where
  len : L.length = n
  cap : n ≤ c
  max : c ≤ maxLen
  nil : A = none → n = 0 ∧ c = 0
  form : 0 < n → ∃ b off, A = some ⟨b, off, none⟩ ∧ b < B ∧ ∀ i x, L[i]? = some x →
    w.cell? ⟨b, off + i * 4, none⟩ = some (.slice x.A x.n x.c) ∧ w.cell? ⟨b, off + i * 4 + 1, none⟩ = some (.int .u64 (x.e.a : Int)) ∧ w.cell? ⟨b, off + i * 4 + 2, none⟩ = some (.int .u64 (x.e.b : Int)) ∧ w.cell? ⟨b, off + i * 4 + 3, none⟩ = some (.int .u64 (x.e.c : Int))
  each : ∀ x ∈ L, RdM w B x.A x.n x.c x.e.L
theorem RdD.keep {w w' : World} {B n c : Nat} {A : Option Addr} {L : List Ev} (h : RdD w B A n c L) (hk : ∀ p : Addr, p.block < B → w'.cell? p = w.cell? p) : RdD w' B A n c L :=
  ⟨h.len, h.cap, h.max, h.nil, fun hn => by
    obtain ⟨b, off, e, hb, hc⟩ := h.form hn
    refine ⟨b, off, e, hb, fun i x hx => ?_⟩
    obtain ⟨h0, h1, h2, h3⟩ := hc i x hx
    exact ⟨(hk _ hb).trans h0, (hk _ hb).trans h1, (hk _ hb).trans h2, (hk _ hb).trans h3⟩, fun x hx => (h.each x hx).keep hk⟩
theorem RdD.more {w : World} {B B' n c : Nat} {A : Option Addr} {L : List Ev} (h : RdD w B A n c L) (hB : B ≤ B') : RdD w B' A n c L :=
  ⟨h.len, h.cap, h.max, h.nil, fun hn => by obtain ⟨b, off, e, hb, hc⟩ := h.form hn; exact ⟨b, off, e, by omega, hc⟩, fun x hx => (h.each x hx).more hB⟩
theorem RdD.below {w w' : World} {B B' n c : Nat} {A : Option Addr} {L : List Ev} (h : RdD w B A n c L) (hb : Below B' w w') (hB : B ≤ B') : RdD w' B A n c L := h.keep fun _ hp => (hb.mono hB).cell hp
theorem RdD.front {w : World} {B n c : Nat} {A : Option Addr} {L : List Ev} (h : RdD w B A n c L) {k : Nat} (hk : k ≤ n) : RdD w B A k c (L.take k) :=
  ⟨by rw [List.length_take, h.len]; omega, Nat.le_trans hk h.cap, h.max, fun e => by have := h.nil e; omega, fun hk0 => by
    obtain ⟨bb, off, e, hb, hc⟩ := h.form (by omega)
    exact ⟨bb, off, e, hb, fun i x hx => hc i x (by rw [List.getElem?_take] at hx; split at hx <;> simp_all)⟩, fun x hx => h.each x (List.mem_of_mem_take hx)⟩
/-- The cells of a row of edits. -/
def dvs (L : List Ev) : List Value := L.flatMap fun x => [.slice x.A x.n x.c, .int .u64 (x.e.a : Int), .int .u64 (x.e.b : Int), .int .u64 (x.e.c : Int)]
theorem dvs_get : ∀ (L : List Ev) (i : Nat) (x : Ev) (j : Nat), L[i]? = some x → j < 4 → (dvs L)[i * 4 + j]? = ([.slice x.A x.n x.c, .int .u64 (x.e.a : Int), .int .u64 (x.e.b : Int), .int .u64 (x.e.c : Int)] : List Value)[j]?
  | [], i, x, j, h, _ => by simp at h
  | y :: L, 0, x, j, h, hj => by
    simp at h; subst h
    simp only [dvs, List.flatMap_cons]
    rw [List.getElem?_append_left (by simp; omega)]
    simp
  | y :: L, i + 1, x, j, h, hj => by
    have ih := dvs_get L i x j (by simpa using h) hj
    simp only [dvs, List.flatMap_cons] at *
    rw [List.getElem?_append_right (by simp; omega), ← ih]
    congr 1
    simp; omega
/-- A row of edits that is laid. -/
theorem RdD.lit (w : World) {g k : Nat} {L : List Ev} {cur : Array Value} (hc : cur = (dvs L).toArray) (hk : L.length = k) (hg : w.heap.size = g) (hm : k ≤ maxLen) (he : ∀ x ∈ L, RdM w g x.A x.n x.c x.e.L) :
    RdD (w.alloc (.cells cur 25)) (g + 1) (some ⟨g, 0, none⟩) k k L := by
  subst hg
  refine ⟨hk, Nat.le_refl _, hm, fun e => (by cases e), fun _ => ⟨w.heap.size, 0, rfl, Nat.lt_succ_self _, fun i x hx => ?_⟩, fun x hx => ((he x hx).below (below_alloc w _) (Nat.le_refl _)).more (Nat.le_succ _)⟩
  have hat : ∀ j u, (dvs L)[j]? = some u → (w.alloc (.cells cur 25)).cell? ⟨w.heap.size, j, none⟩ = some u := fun j u hu => by
    simp only [World.cell?, heap_alloc_new, hc]
    simpa using hu
  have h0 := hat (i * 4) _ ((dvs_get L i x 0 hx (by omega)).trans rfl)
  have h1 := hat (i * 4 + 1) _ ((dvs_get L i x 1 hx (by omega)).trans rfl)
  have h2 := hat (i * 4 + 2) _ ((dvs_get L i x 2 hx (by omega)).trans rfl)
  have h3 := hat (i * 4 + 3) _ ((dvs_get L i x 3 hx (by omega)).trans rfl)
  simp only [Nat.zero_add]
  exact ⟨h0, h1, h2, h3⟩

def smallM (x : Mt) : Bool := decide (x.s.size ≤ 70) && decide (x.t.size ≤ 70)
def fewE (e : Ed) : Bool := e.L.all smallM && decide (e.L.length ≤ 70)
def fewD (L : List Ev) : Bool := L.all fun x => fewE x.e
theorem fewD_no {L : List Ev} {k : Nat} {x : Ev} (h : L[k]? = some x) (hx : fewE x.e = false) : fewD L = false := by
  unfold fewD
  rw [List.all_eq_false]
  exact ⟨x, List.mem_of_getElem? h, by simp [hx]⟩
theorem fewD_yes {L : List Ev} (h : ∀ (i : Nat) (x : Ev), L[i]? = some x → fewE x.e = true) : fewD L = true := by
  unfold fewD
  rw [List.all_eq_true]
  intro x hx
  obtain ⟨i, hi⟩ := List.getElem?_of_mem hx
  exact h i x hi
theorem fewE_small {e : Ed} {k : Nat} {m : Mt} (h : e.L[k]? = some m) (hm : smallM m = false) : fewE e = false := by
  have : e.L.all smallM = false := by rw [List.all_eq_false]; exact ⟨m, List.mem_of_getElem? h, by simp [hm]⟩
  simp [fewE, this]
theorem fewE_all {e : Ed} (h : ∀ (i : Nat) (m : Mt), e.L[i]? = some m → smallM m = true) : fewE e = decide (e.L.length ≤ 70) := by
  have : e.L.all smallM = true := by
    rw [List.all_eq_true]
    intro x hx
    obtain ⟨i, hi⟩ := List.getElem?_of_mem hx
    exact h i x hi
  simp [fewE, this]

set_option maxRecDepth 100000 in
set_option maxHeartbeats 8000000 in
theorem few_c {w : World} {B n c : Nat} {A : Option Addr} {L : List Ev} (h : RdD w B A n c L) (hB : B ≤ w.heap.size) :
    Calls Try.prog 8 #[.slice A n c] w (RetVl w (.bool (fewD L))) := by
  have hl := h.len
  have hm : (n : Int) ≤ 9223372036854775807 := by have hcap := h.cap; have hmax := h.max; unfold maxLen at hmax; omega
  have HL := Lib.hid hl
  have H := Lib.hid h
  clear hl h
  go_enter Try.func8, Try.ntmps8
  go_wp2_with fail
  go_loopw [9] (fun iv wr => ∃ k : Nat, iv = .int .i64 (k : Int) ∧ k ≤ n ∧ (∀ i x, i < k → L[i]? = some x → fewE x.e = true) ∧ Below w.heap.size w wr) (fun iv _ => ((n : Int) - intOf iv).toNat)
  case atStart => exact ⟨0, rfl, by omega, fun i x hi => by omega, Below.refl _ _⟩
  case round =>
    obtain ⟨k, rfl, hkn, hall, hbr⟩ := hrel
    by_cases hlt : k < n
    · obtain ⟨b, off, hA, hbB, hcell⟩ := H.out.form (by omega)
      subst hA
      obtain ⟨⟨xA, xn, xc, ⟨xL, xa, xb, xd⟩⟩, hx⟩ : ∃ x, L[k]? = some x := ⟨L[k]'(by have := HL.out; omega), List.getElem?_eq_getElem _⟩
      have hk (i : Nat) : wr.cell? ⟨b, i, none⟩ = w.cell? ⟨b, i, none⟩ := hbr.cell (by simp; omega)
      obtain ⟨x0, x1, x2, x3⟩ := hcell k _ hx
      rw [← hk] at x0 x1 x2 x3
      simp only at x0 x1 x2 x3
      have hki : (k : Int) < (n : Int) := by omega
      have hk0 : (0 : Int) ≤ (k : Int) := by omega
      obtain ⟨wb, hwb⟩ : ∃ wb, wb = wr.alloc (.cells #[.slice xA xn xc, .int .u64 (xa : Int), .int .u64 (xb : Int), .int .u64 (xd : Int)] 25) := ⟨_, rfl⟩
      have hbb : Below wr.heap.size wr wb := by rw [hwb]; exact below_alloc wr _
      have hg4 : B4 wb wr.heap.size 25 (.slice xA xn xc) (.int .u64 (xa : Int)) (.int .u64 (xb : Int)) (.int .u64 (xd : Int)) := by rw [hwb]; exact B4.new _ _ _ _ _ _ rfl
      have hmr : RdM w B xA xn xc xL := H.out.each _ (List.mem_of_getElem? hx)
      have HX := Lib.hid hx
      have HALL := Lib.hid hall
      have HG4 := Lib.hid hg4
      have HBW := Lib.hid (hbr.trans (hbb.mono hbr.size))
      have HMR := Lib.hid hmr
      have hml : xL.length = xn := hmr.len
      have HML := Lib.hid hml
      have hxm : (xn : Int) ≤ 9223372036854775807 := by have hcap := hmr.cap; have hmax := hmr.max; unfold maxLen at hmax; omega
      obtain ⟨r0, r1, r2, r3, _, _, _, _⟩ := hg4.cells
      clear hcell hk hx hall hbr hbb hg4 hmr hml hkn
      go_upto_region 4 with (fail)
      rw [← hwb]
      clear hwb x0 x1 x2 x3
      go_wp2_with fail
      clear r0 r1 r2 r3
      go_loopw [16] (fun iv wi => ∃ j : Nat, iv = .int .i64 (j : Int) ∧ j ≤ xn ∧ (∀ i m, i < j → xL[i]? = some m → smallM m = true) ∧ Below wb.heap.size wb wi) (fun iv _ => ((xn : Int) - intOf iv).toNat)
      case atStart => exact ⟨0, rfl, by omega, fun i x hi => by omega, Below.refl _ _⟩
      case round =>
        obtain ⟨j, rfl, hjn, hsm, hbi⟩ := hrel
        obtain ⟨r0, r1, r2, r3, _, _, _, _⟩ := (HG4.out.now hbi).cells
        by_cases hlt2 : j < xn
        · obtain ⟨bb, oo, hA2, hbB2, hcell2⟩ := HMR.out.form (by omega)
          subst hA2
          obtain ⟨⟨mn, mz, ms, mt⟩, hmx⟩ : ∃ m, xL[j]? = some m := ⟨xL[j]'(by have := HML.out; omega), List.getElem?_eq_getElem _⟩
          have hbw := HBW.out.trans (hbi.mono HBW.out.size)
          have hk2 (i : Nat) : wr.cell? ⟨bb, i, none⟩ = w.cell? ⟨bb, i, none⟩ := hbw.cell (by simp; omega)
          obtain ⟨x0, x1, x2, x3⟩ := hcell2 j _ hmx
          rw [← hk2] at x0 x1 x2 x3
          simp only at x0 x1 x2 x3
          have hji : (j : Int) < (xn : Int) := by omega
          have hj0 : (0 : Int) ≤ (j : Int) := by omega
          have HMX := Lib.hid hmx
          have HSM := Lib.hid hsm
          have HBI := Lib.hid (hbi.alloc hbi.size (.cells #[.int .u64 (mn : Int), .int .u64 (mz : Int), .string ms, .string mt] 47))
          have HBX := Lib.hid (hbw.alloc hbw.size (.cells #[.int .u64 (mn : Int), .int .u64 (mz : Int), .string ms, .string mt] 47))
          clear hcell2 hk2 hmx hsm hbi hbw hjn
          by_cases h1 : ms.size ≤ 70
          · have d1 : decide ((70 : Int) < (ms.size : Int)) = false := by simp; omega
            have d2 : decide (70 < ms.size) = false := by simp; omega
            by_cases h2 : mt.size ≤ 70
            · have d3 : decide ((70 : Int) < (mt.size : Int)) = false := by simp; omega
              have d4 : decide (70 < mt.size) = false := by simp; omega
              have HS := Lib.hid (show smallM ⟨mn, mz, ms, mt⟩ = true by simp [smallM, h1, h2])
              go_wp2_with fail
              go_roundw
              case rel =>
                refine ⟨j + 1, by simp, by omega, fun i m hi hm' => ?_, HBI.out⟩
                rcases Nat.lt_or_ge i j with h3 | h3
                · exact HSM.out i m h3 hm'
                · obtain rfl : i = j := by omega
                  rw [HMX.out] at hm'
                  cases hm'
                  exact HS.out
              case measure => simp [intOf]; omega
            · have d3 : decide ((70 : Int) < (mt.size : Int)) = true := by simp; omega
              have d4 : decide (70 < mt.size) = true := by simp; omega
              have HNO := Lib.hid (fewD_no HX.out (fewE_small (e := ⟨xL, xa, xb, xd⟩) HMX.out (by simp [smallM, h2])))
              go_wp2_with fail
              go_ret
              exact RetVl.bool HNO.out.symm HBX.out
          · have d1 : decide ((70 : Int) < (ms.size : Int)) = true := by simp; omega
            have d2 : decide (70 < ms.size) = true := by simp; omega
            have HNO := Lib.hid (fewD_no HX.out (fewE_small (e := ⟨xL, xa, xb, xd⟩) HMX.out (by simp [smallM, h1])))
            go_wp2_with fail
            go_ret
            exact RetVl.bool HNO.out.symm HBX.out
        · have hji : ¬ (j : Int) < (xn : Int) := by omega
          have HFA := Lib.hid (fewE_all (e := ⟨xL, xa, xb, xd⟩) (fun i m hm' => hsm i m (by have := get_lt HML.out hm'; omega) hm'))
          have HBX := Lib.hid (HBW.out.trans (hbi.mono HBW.out.size))
          clear hsm hbi hjn
          by_cases h3 : xn ≤ 70
          · have d5 : decide ((70 : Int) < (xn : Int)) = false := by simp; omega
            have d6 : decide (70 < xn) = false := by simp; omega
            have HY := Lib.hid (show fewE ⟨xL, xa, xb, xd⟩ = true by rw [HFA.out]; simp [HML.out, h3])
            clear h3
            go_wp2_with fail
            go_roundw
            case rel =>
              refine ⟨k + 1, by simp, by omega, fun i x hi hx => ?_, HBX.out⟩
              rcases Nat.lt_or_ge i k with h4 | h4
              · exact HALL.out i x h4 hx
              · obtain rfl : i = k := by omega
                rw [HX.out] at hx
                cases hx
                exact HY.out
            case measure => simp [intOf]; omega
          · have d5 : decide ((70 : Int) < (xn : Int)) = true := by simp; omega
            have d6 : decide (70 < xn) = true := by simp; omega
            have HNO := Lib.hid (fewD_no HX.out (show fewE ⟨xL, xa, xb, xd⟩ = false by rw [HFA.out]; simp [HML.out, h3]))
            clear h3
            go_wp2_with fail
            go_ret
            exact RetVl.bool HNO.out.symm HBX.out
    · have hki : ¬ (k : Int) < (n : Int) := by omega
      have HY := Lib.hid (fewD_yes (L := L) (fun i x hx => hall i x (by
        have : i < L.length := by
          rcases Nat.lt_or_ge i L.length with h1 | h1
          · exact h1
          · rw [List.getElem?_eq_none h1] at hx; cases hx
        have := HL.out; omega) hx))
      have HBR := Lib.hid hbr
      clear hall hbr hkn
      go_wp2_with fail
      go_ret
      exact RetVl.bool HY.out.symm HBR.out
end Go.Proofs.Ythgbafhfeblhaaa
