/-
  What is done, as it comes in: rows of operations; what is few; an operation done.
-/
import Derived.Test.YtkabgebfbbkioaaDkA
import Derived.WalkKit
import Derived.ProofKit
import Derived.OpenShut
import Derived.Deep.Slices
import Derived.Deep.Strs
import Derived.ChangeOld
namespace Go.Proofs.Ytkabgebfbbkioaa
open Go.RowKit Go.Maps Go.ChangeShapes Go.WideShapes Go.ChangeAt Go.Deep

/-- An operation's parts, with the slices that it has. -/
structure LOp where
  what : Nat
  s : ByteArray
  t : ByteArray
  A : Option Addr
  n : Nat
  c : Nat
  b : List UInt8
  A2 : Option Addr
  n2 : Nat
  c2 : Nat
  keeps : List Int
def lv (x : LOp) : Value := .agg #[.int .u8 (x.what : Int), .string x.s, .string x.t, .slice x.A x.n x.c, .slice x.A2 x.n2 x.c2]
def LOp.op (x : LOp) : DOp := ⟨x.what, x.s, x.t, x.b, x.keeps⟩
structure LOk (w : World) (B : Nat) (x : LOp) : Prop where
  what : (x.what : Int) ≤ 255
  s : x.s.size ≤ maxLen
  t : x.t.size ≤ maxLen
  b : Rd w B x.A x.n x.c (bv x.b)
  k : Rd w B x.A2 x.n2 x.c2 (iv x.keeps)
/-- The slice value '.slice A n c' reads as the operations L, in blocks below B. -/
structure RdL (w : World) (B : Nat) (A : Option Addr) (n c : Nat) (L : List LOp) : Prop where
  len : L.length = n
  cap : n ≤ c
  max : c ≤ maxLen
  nil : A = none → n = 0 ∧ c = 0
  form : 0 < n → ∃ b off, A = some ⟨b, off, none⟩ ∧ b < B ∧ ∀ i x, L[i]? = some x →
    w.cell? ⟨b, off + i * 5, none⟩ = some (.int .u8 (x.what : Int)) ∧ w.cell? ⟨b, off + i * 5 + 1, none⟩ = some (.string x.s) ∧ w.cell? ⟨b, off + i * 5 + 2, none⟩ = some (.string x.t) ∧ w.cell? ⟨b, off + i * 5 + 3, none⟩ = some (.slice x.A x.n x.c) ∧ w.cell? ⟨b, off + i * 5 + 4, none⟩ = some (.slice x.A2 x.n2 x.c2)
  ok : ∀ x ∈ L, LOk w B x
theorem RdL.nilv {w : World} {B : Nat} : RdL w B none 0 0 [] := ⟨rfl, Nat.le_refl _, Nat.zero_le _, fun _ => ⟨rfl, rfl⟩, fun h => absurd h (by decide), fun _ h => by cases h⟩

theorem addr_none {w : World} {a : Addr} {v : Value} (h : w.cell? (a.add 0) = some v) : a.spot = none := by
  obtain ⟨b, off, spot⟩ := a
  cases spot with
  | none => rfl
  | some s =>
    exfalso
    simp [Addr.add, World.cell?] at h; split at h <;> simp at h
theorem rdi_of {w : World} {x : Addr} {len cap : Nat} {zs : List Int} (hl : len ≤ cap) (hm : cap ≤ maxLen) (hz : len ≤ zs.length) (hc : ∀ i, i < zs.length → w.cell? (x.add i) = some (.int .i64 (zs.getD i 0))) :
    Rd w w.heap.size (some x) len cap (iv (zs.take len)) := by
  refine ⟨by simp; omega, hl, hm, (fun e => by cases e), ?_, ?_⟩
  · intro hn ad e
    cases e
    have := World.block_lt_of_cell? w _ (hc 0 (by omega))
    rwa [block_of_add] at this
  · intro ad e j u hu
    cases e
    have hj : j < len := by
      rcases Nat.lt_or_ge j len with h | h
      · exact h
      · rw [List.getElem?_eq_none (by simp; omega)] at hu; cases hu
    rw [hc j (by omega)]
    simp only [iv, List.getElem?_map, List.getElem?_take_of_lt hj, List.getElem?_eq_getElem (show j < zs.length by omega), Option.map_some] at hu
    rw [← Option.some.inj hu]
    simp only [List.getD_eq_getElem?_getD, List.getElem?_eq_getElem (show j < zs.length by omega), Option.getD_some]
theorem rdb_of {w : World} {x : Addr} {len cap : Nat} {zs : List Int} (hl : len ≤ cap) (hm : cap ≤ maxLen) (hz : len ≤ zs.length) (hc : ∀ i, i < zs.length → w.cell? (x.add i) = some (.int .u8 (zs.getD i 0))) (hw : ∀ n ∈ zs, (Lit.int .u8 n).wf = true) :
    Rd w w.heap.size (some x) len cap (bv ((zs.take len).map fun z => UInt8.ofNat z.toNat)) := by
  refine ⟨by simp; omega, hl, hm, (fun e => by cases e), ?_, ?_⟩
  · intro hn ad e
    cases e
    have := World.block_lt_of_cell? w _ (hc 0 (by omega))
    rwa [block_of_add] at this
  · intro ad e j u hu
    cases e
    have hj : j < len := by
      rcases Nat.lt_or_ge j len with h | h
      · exact h
      · rw [List.getElem?_eq_none (by simp; omega)] at hu; cases hu
    have hb : 0 ≤ zs[j]'(by omega) ∧ zs[j]'(by omega) ≤ 255 := by
      have := hw (zs[j]'(by omega)) (List.getElem_mem _)
      simpa [Lit.wf, IntKind.min, IntKind.max, IntKind.bits, IntKind.signed] using this
    rw [hc j (by omega)]
    simp only [bv, List.map_map, List.getElem?_map, List.getElem?_take_of_lt hj, List.getElem?_eq_getElem (show j < zs.length by omega), Option.map_some, Function.comp, b8] at hu
    rw [← Option.some.inj hu]
    simp only [List.getD_eq_getElem?_getD, List.getElem?_eq_getElem (show j < zs.length by omega), Option.getD_some]
    rw [UInt8.toNat_ofNat']
    congr 2
    omega

section
variable {H : Type} {enc : TypeId × Value → H} {w : World} {base : Nat} {spare : Nat → Bool} {held : Bool}
set_option maxRecDepth 100000 in
theorem open_bytesV {fuel : Nat} {c0 : Value} {x : DataW H × List MemPlace} (h : DataW.trod enc Try.prog w base spare held fuel 34 [c0] = some x) :
    ∃ (A : Option Addr) (n c : Nat) (l : List UInt8), c0 = .slice A n c ∧ Rd w w.heap.size A n c (bv l) := by
  rcases open_ints Try.underlying34 Try.underlying5 (by kernel_rfl) h with ⟨hcs, _⟩ | ⟨x, l, c', zs, hcs, _, hl, hm, hz, _, hcell, hwz⟩
  · cases hcs
    exact ⟨none, 0, 0, [], rfl, Rd.nilv⟩
  · cases hcs
    exact ⟨_, _, _, _, rfl, rdb_of hl hm (by rw [hz]; split <;> omega) hcell hwz⟩
set_option maxRecDepth 100000 in
theorem open_intsV {fuel : Nat} {c0 : Value} {x : DataW H × List MemPlace} (h : DataW.trod enc Try.prog w base spare held fuel 22 [c0] = some x) :
    ∃ (A : Option Addr) (n c : Nat) (l : List Int), c0 = .slice A n c ∧ Rd w w.heap.size A n c (iv l) ∧ ∀ z ∈ l, (Lit.int .i64 z).wf = true := by
  rcases open_ints Try.underlying22 Try.underlying3 (by kernel_rfl) h with ⟨hcs, _⟩ | ⟨x, l, c', zs, hcs, _, hl, hm, hz, _, hcell, hwz⟩
  · cases hcs
    exact ⟨none, 0, 0, [], rfl, Rd.nilv, fun _ h => by cases h⟩
  · cases hcs
    exact ⟨_, _, _, _, rfl, rdi_of hl hm (by rw [hz]; split <;> omega) hcell, fun z h => hwz z (List.mem_of_mem_take h)⟩
set_option maxRecDepth 100000 in
theorem lop_cells {fuel : Nat} {cs : List Value} {x : DataW H × List MemPlace} (h : DataW.trod enc Try.prog w base spare held fuel 36 cs = some x) :
    ∃ y : LOp, cs = [.int .u8 (y.what : Int), .string y.s, .string y.t, .slice y.A y.n y.c, .slice y.A2 y.n2 y.c2] ∧ LOk w w.heap.size y := by
  obtain ⟨xs, n, _, _, hl, hx, hf⟩ := DataW.trod_struct Try.underlying36 h
  have h0 : DataW.trod enc Try.prog w base spare held n 5 ((cs.drop 0).take (Try.prog.cellsOf 5)) = xs[0]? := hf 0 _ rfl
  have h1 : DataW.trod enc Try.prog w base spare held n 9 ((cs.drop 1).take (Try.prog.cellsOf 9)) = xs[1]? := hf 1 _ rfl
  have h2 : DataW.trod enc Try.prog w base spare held n 9 ((cs.drop 2).take (Try.prog.cellsOf 9)) = xs[2]? := hf 2 _ rfl
  have h3 : DataW.trod enc Try.prog w base spare held n 34 ((cs.drop 3).take (Try.prog.cellsOf 34)) = xs[3]? := hf 3 _ rfl
  have h4 : DataW.trod enc Try.prog w base spare held n 22 ((cs.drop 4).take (Try.prog.cellsOf 22)) = xs[4]? := hf 4 _ rfl
  have hc : Try.prog.cellsOf 36 = 5 := by kernel_rfl
  have e0 : Try.prog.cellsOf 5 = 1 := by kernel_rfl
  have e1 : Try.prog.cellsOf 9 = 1 := by kernel_rfl
  have e3 : Try.prog.cellsOf 34 = 1 := by kernel_rfl
  have e4 : Try.prog.cellsOf 22 = 1 := by kernel_rfl
  have hx : xs.length = 5 := hx
  rw [hc] at hl
  match cs, hl with
  | [c0, c1, c2, c3, c4], _ =>
    simp only [e0, e1, e3, e4, List.drop_zero, List.drop_succ_cons, List.take_succ_cons, List.take_zero] at h0 h1 h2 h3 h4
    rw [List.getElem?_eq_getElem (show 0 < xs.length by omega)] at h0
    rw [List.getElem?_eq_getElem (show 1 < xs.length by omega)] at h1
    rw [List.getElem?_eq_getElem (show 2 < xs.length by omega)] at h2
    rw [List.getElem?_eq_getElem (show 3 < xs.length by omega)] at h3
    rw [List.getElem?_eq_getElem (show 4 < xs.length by omega)] at h4
    obtain ⟨k, f0, _, hk⟩ := DataW.trod_int Try.underlying5 h0
    obtain ⟨s, f1, _, hs⟩ := DataW.trod_string Try.underlying9 h1
    obtain ⟨t, f2, _, ht⟩ := DataW.trod_string Try.underlying9 h2
    obtain ⟨A, n, c, l, rfl, hb⟩ := open_bytesV h3
    obtain ⟨A2, n2, c2, l2, rfl, hb2, _⟩ := open_intsV h4
    cases f0; cases f1; cases f2
    have hk := bounds_u8 hk
    obtain ⟨k, rfl⟩ := Int.eq_ofNat_of_zero_le hk.1
    exact ⟨⟨k, s, t, A, n, c, l, A2, n2, c2, l2⟩, rfl, hk.2, hs, ht, hb, hb2⟩
set_option maxRecDepth 100000 in
theorem open_lops {r : Reach} {b0 : Nat} {v : Value} {d : DataW H} {p : List MemPlace} (h : DataW.Trod enc Try.prog w base spare held 25 v d p) (hv : Value.okWide Try.prog w r b0 25 v) :
    ∃ (A : Option Addr) (n c : Nat) (L : List LOp), v = .slice A n c ∧ RdL w w.heap.size A n c L := by
  obtain ⟨A, n, c, rfl⟩ := okWide_slice Try.underlying25 hv
  obtain ⟨fuel, hf⟩ := h
  have hC : Try.prog.cellsOf 36 = 5 := by kernel_rfl
  rcases open_slice Try.underlying25 hf with ⟨hcs, _⟩ | ⟨a, len, cap, m, n', D, Pl, hcs, hb, hl, hm, hmm, hx, hi⟩
  · simp [Value.cells] at hcs
    obtain ⟨rfl, rfl, rfl⟩ := hcs
    exact ⟨none, 0, 0, [], rfl, RdL.nilv⟩
  · simp [Value.cells] at hcs
    obtain ⟨rfl, rfl, rfl⟩ := hcs
    have hle : n ≤ m := by rw [hmm]; split <;> omega
    have he : ∀ i, i < n → ∃ x : LOp, LOk w w.heap.size x ∧ w.cell? (a.add (i * 5)) = some (.int .u8 (x.what : Int)) ∧ w.cell? (a.add (i * 5 + 1)) = some (.string x.s) ∧ w.cell? (a.add (i * 5 + 2)) = some (.string x.t) ∧ w.cell? (a.add (i * 5 + 3)) = some (.slice x.A x.n x.c) ∧ w.cell? (a.add (i * 5 + 4)) = some (.slice x.A2 x.n2 x.c2) := by
      intro i hin
      obtain ⟨cs', hc, ht⟩ := hi i (by omega)
      rw [hC] at hc
      obtain ⟨y, hcs, b1⟩ := lop_cells ht
      subst hcs
      obtain ⟨_, _, hat⟩ := World.cells?_some hc
      have a0 := hat 0 (by omega)
      have a1 := hat 1 (by omega)
      have a2 := hat 2 (by omega)
      have a3 := hat 3 (by omega)
      have a4 := hat 4 (by omega)
      rw [add_of_add] at a0 a1 a2 a3 a4
      exact ⟨y, b1, a0, a1, a2, a3, a4⟩
    refine ⟨some a, n, c, (List.range n).map fun i => if hi : i < n then (he i hi).choose else ⟨0, ⟨#[]⟩, ⟨#[]⟩, none, 0, 0, [], none, 0, 0, []⟩, rfl, ⟨by simp, hl, hm, fun e => (by cases e), fun hn => ?_, ?_⟩⟩
    · obtain ⟨x0, _, hx0, _⟩ := he 0 hn
      have hs : a.spot = none := addr_none (by simpa using hx0)
      obtain ⟨b, off, spot⟩ := a
      simp only at hs
      subst hs
      have hlt : b < w.heap.size := by
        have := World.block_lt_of_cell? w _ hx0
        rwa [block_of_add] at this
      refine ⟨b, off, rfl, hlt, fun i x hx => ?_⟩
      rw [List.getElem?_map] at hx
      by_cases hin : i < n
      · rw [List.getElem?_range hin] at hx
        simp only [Option.map_some, hin, dif_pos, Option.some.injEq] at hx
        subst hx
        have := (he i hin).choose_spec
        have hadd : ∀ j, (⟨b, off, none⟩ : Addr).add j = ⟨b, off + j, none⟩ := fun j => by unfold Addr.add; split <;> simp_all
        simpa only [hadd, Nat.add_assoc] using this.2
      · rw [List.getElem?_eq_none (by simpa using hin)] at hx; cases hx
    · intro x hx
      obtain ⟨i, hi', rfl⟩ := List.mem_map.1 hx
      have hin : i < n := by simpa using hi'
      simp only [hin, dif_pos]
      exact (he i hin).choose_spec.1
end

/-- A call that returned a value, and left what was. -/
def RetV (w : World) (v : Value) (e : Ending) (w' : World) : Prop := e = .returned v ∧ Below w.heap.size w w'
theorem RetV.bool {w w' : World} {b c : Bool} (h : b = c) (hb : Below w.heap.size w w') : RetV w (.bool c) (.returned (.bool b)) w' := ⟨by rw [h], hb⟩
theorem RetV.int {w w' : World} {b c : Int} (h : b = c) (hb : Below w.heap.size w w') : RetV w (.int .i64 c) (.returned (.int .i64 b)) w' := ⟨by rw [h], hb⟩
/-! ## Few -/
def smallL (x : LOp) : Bool := decide (x.s.size ≤ 60) && (decide (x.t.size ≤ 60) && (decide (x.n ≤ 60) && decide (x.n2 ≤ 60)))
def fewL (L : List LOp) (most : Int) : Bool := L.all smallL && decide ((L.length : Int) ≤ most)
theorem smallL_iff (x : LOp) : smallL x = true ↔ x.s.size ≤ 60 ∧ x.t.size ≤ 60 ∧ x.n ≤ 60 ∧ x.n2 ≤ 60 := by unfold smallL; simp
theorem fewL_iff {L : List LOp} {most : Int} : fewL L most = true ↔ (∀ x ∈ L, smallL x = true) ∧ (L.length : Int) ≤ most := by unfold fewL; simp

set_option maxRecDepth 100000 in
set_option maxHeartbeats 4000000 in
theorem fewL_c {w : World} {B n c : Nat} {A : Option Addr} {L : List LOp} (h : RdL w B A n c L) (hB : B ≤ w.heap.size) (most : Int) :
    Calls Try.prog 9 #[.slice A n c, .int .i64 most] w (RetV w (.bool (fewL L most))) := by
  have hl := h.len
  have hcap := h.cap
  have hmax := h.max
  have hm : (n : Int) ≤ 9223372036854775807 := by have : maxLen ≤ 9223372036854775807 := by decide
                                                  omega
  have hno : ∀ k x, L[k]? = some x → smallL x = false → fewL L most = false := fun k x hx hs => by
    cases hf : fewL L most with
    | false => rfl
    | true => have := (fewL_iff.1 hf).1 x (List.mem_of_getElem? hx); rw [hs] at this; cases this
  have HNO := Lib.hid hno
  clear hno
  go_enter Try.func9, Try.ntmps9
  go_wp2_with fail
  clear hcap hmax
  go_loopw [9] (fun iv wr => ∃ k : Nat, iv = .int .i64 (k : Int) ∧ k ≤ n ∧ (∀ i a, i < k → L[i]? = some a → smallL a = true) ∧ Below w.heap.size w wr) (fun iv _ => ((n : Int) - intOf iv).toNat)
  case atStart => exact ⟨0, rfl, by omega, fun i a hi => by omega, Below.refl _ _⟩
  case round =>
    obtain ⟨k, rfl, hkn, hall, hbr⟩ := hrel
    by_cases hlt : k < n
    · obtain ⟨b, off, hA, hbB, hcell⟩ := h.form (by omega)
      subst hA
      obtain ⟨x, hx⟩ : ∃ x, L[k]? = some x := ⟨L[k]'(by omega), List.getElem?_eq_getElem _⟩
      have hk (i : Nat) : wr.cell? ⟨b, i, none⟩ = w.cell? ⟨b, i, none⟩ := hbr.cell (by simp; omega)
      obtain ⟨x0, x1, x2, x3, x4⟩ := hcell k x hx
      rw [← hk] at x0 x1 x2 x3 x4
      have hki : (k : Int) < (n : Int) := by omega
      have hk0 : (0 : Int) ≤ (k : Int) := by omega
      have HX := Lib.hid hx
      have HALL := Lib.hid hall
      have HN2 := Lib.hid (HNO.out k x hx)
      have HSM := Lib.hid (smallL_iff x)
      have hb3 := hbr.alloc hbr.size (.cells #[.int .u8 (x.what : Int), .string x.s, .string x.t, .slice x.A x.n x.c, .slice x.A2 x.n2 x.c2] 36)
      have HBR := Lib.hid hb3
      clear hcell hk hx hkn hall h hl hbr hb3 HNO
      have hsm0 : ∀ b, smallL x = b → smallL x = b := fun _ h => h
      by_cases h1 : x.s.size ≤ 60
      case neg =>
        have d1 : decide ((60 : Int) < (x.s.size : Int)) = true := by simp; omega
        have d2 : decide (60 < x.s.size) = true := by simp; omega
        have HF := Lib.hid (HN2.out (by cases hs : smallL x with | false => rfl | true => exact absurd (HSM.out.1 hs).1 h1))
        clear h1 hsm0
        go_wp2_with fail
        go_ret
        exact RetV.bool HF.out.symm HBR.out
      have d1 : decide ((60 : Int) < (x.s.size : Int)) = false := by simp; omega
      have d2 : decide (60 < x.s.size) = false := by simp; omega
      by_cases h2 : x.t.size ≤ 60
      case neg =>
        have d3 : decide ((60 : Int) < (x.t.size : Int)) = true := by simp; omega
        have d4 : decide (60 < x.t.size) = true := by simp; omega
        have HF := Lib.hid (HN2.out (by cases hs : smallL x with | false => rfl | true => exact absurd (HSM.out.1 hs).2.1 h2))
        clear h1 h2 hsm0
        go_wp2_with fail
        go_ret
        exact RetV.bool HF.out.symm HBR.out
      have d3 : decide ((60 : Int) < (x.t.size : Int)) = false := by simp; omega
      have d4 : decide (60 < x.t.size) = false := by simp; omega
      by_cases h3 : x.n ≤ 60
      case neg =>
        have d5 : decide ((60 : Int) < (x.n : Int)) = true := by simp; omega
        have d6 : decide (60 < x.n) = true := by simp; omega
        have HF := Lib.hid (HN2.out (by cases hs : smallL x with | false => rfl | true => exact absurd (HSM.out.1 hs).2.2.1 h3))
        clear h1 h2 h3 hsm0
        go_wp2_with fail
        go_ret
        exact RetV.bool HF.out.symm HBR.out
      have d5 : decide ((60 : Int) < (x.n : Int)) = false := by simp; omega
      have d6 : decide (60 < x.n) = false := by simp; omega
      by_cases h4 : x.n2 ≤ 60
      case neg =>
        have d7 : decide ((60 : Int) < (x.n2 : Int)) = true := by simp; omega
        have d8 : decide (60 < x.n2) = true := by simp; omega
        have HF := Lib.hid (HN2.out (by cases hs : smallL x with | false => rfl | true => exact absurd (HSM.out.1 hs).2.2.2 h4))
        clear h1 h2 h3 h4 hsm0
        go_wp2_with fail
        go_ret
        exact RetV.bool HF.out.symm HBR.out
      have d7 : decide ((60 : Int) < (x.n2 : Int)) = false := by simp; omega
      have d8 : decide (60 < x.n2) = false := by simp; omega
      have HS := Lib.hid (HSM.out.2 ⟨h1, h2, h3, h4⟩)
      clear h1 h2 h3 h4 hsm0
      go_wp2_with fail
      go_roundw
      case rel =>
        refine ⟨k + 1, by simp, by omega, fun i a hi ha => ?_, HBR.out⟩
        rcases Nat.lt_or_ge i k with h3 | h3
        · exact HALL.out i a h3 ha
        · obtain rfl : i = k := by omega
          rw [HX.out] at ha
          cases ha
          exact HS.out
      case measure => simp [intOf]; omega
    · have hki : ¬ (k : Int) < (n : Int) := by omega
      have hyes : L.all smallL = true := by
        rw [List.all_eq_true]
        intro x hx
        obtain ⟨i, hi⟩ := List.getElem?_of_mem hx
        have : i < n := by
          rcases Nat.lt_or_ge i L.length with h1 | h1
          · rw [hl] at h1; exact h1
          · rw [List.getElem?_eq_none h1] at hi; cases hi
        exact hall i x (by omega) hi
      have hfin : fewL L most = decide ((n : Int) ≤ most) := by simp [fewL, hyes, hl]
      have HF := Lib.hid hfin
      clear hfin hyes hall h hl
      go_wp2_with fail
      all_goals go_ret
      all_goals exact RetV.bool HF.out.symm hbr
end Go.Proofs.Ytkabgebfbbkioaa
