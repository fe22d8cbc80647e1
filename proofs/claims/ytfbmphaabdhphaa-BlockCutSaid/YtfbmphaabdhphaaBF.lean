/-
  What is sought: the order along a list that rises; the contracts of sort.Search with Seek's closure.
-/
import Derived.Test.YtfbmphaabdhphaaBE
namespace Go.Proofs.Ytfbmphaabdhphaa
set_option maxRecDepth 100000
open Go.RowKit Go.Shelf
set_option linter.unusedVariables false

theorem cmpV_refl (s : ByteArray) (q k : Nat) : cmpV s q k s q k = 0 := (cmpV_zero _ _ _ _ _ _).2 ⟨rfl, rfl, rfl⟩
theorem ris_le {L : List Ent} (h : risB L = true) : ∀ (d i : Nat) (a b : Ent), L[i]? = some a → L[i + d]? = some b → cmpE a b ≤ 0
  | 0, i, a, b, ha, hb => by
    rw [Nat.add_zero, ha] at hb; cases hb
    unfold cmpE; rw [cmpV_refl]; exact Int.le_refl _
  | d + 1, i, a, b, ha, hb => by
    have hlt : i + d < L.length := by
      rcases Nat.lt_or_ge (i + (d + 1)) L.length with h1 | h1
      · omega
      · rw [List.getElem?_eq_none h1] at hb; cases hb
    have hm : L[i + d]? = some (L[i + d]'hlt) := List.getElem?_eq_getElem _
    have h1 := ris_le h d i a _ ha hm
    have h2 := (risB_iff L).1 h (i + d) _ b hm (by rw [← hb]; rfl)
    exact cmpV_trans h1 (Int.le_of_lt h2)
theorem seek_mono {L : List Ent} (h : risB L = true) {i j : Nat} {a b : Ent} (hij : i ≤ j) (ha : L[i]? = some a) (hb : L[j]? = some b) (s : ByteArray) (q k : Nat) (hp : 0 ≤ cmpV a.s a.q a.k s q k) : 0 ≤ cmpV b.s b.q b.k s q k := by
  have h1 : cmpE a b ≤ 0 := ris_le h (j - i) i a b ha (by rw [show i + (j - i) = j by omega]; exact hb)
  unfold cmpE at h1
  rcases Int.lt_or_le (cmpV b.s b.q b.k s q k) 0 with h2 | h2
  · have h3 := cmpV_trans h1 (Int.le_of_lt h2)
    have h4 : cmpV a.s a.q a.k s q k = 0 := by omega
    obtain ⟨e1, e2, e3⟩ := (cmpV_zero _ _ _ _ _ _).1 h4
    have h5 := cmpV_swap a.s a.q a.k b.s b.q b.k
    rw [e1, e2, e3] at h5 h1
    omega
  · exact h2
theorem find_at {α : Type} (f : α → Bool) : ∀ (L : List α) (m : Nat) (y : α), (∀ i x, i < m → L[i]? = some x → f x = false) → L[m]? = some y → f y = true → L.find? f = some y
  | [], m, y, _, h, _ => by simp at h
  | x :: L, 0, y, _, h, hy => by simp at h; subst h; simp [List.find?, hy]
  | x :: L, m + 1, y, hl, h, hy => by
    have h0 := hl 0 x (by omega) rfl
    simp only [List.find?, h0]
    exact find_at f L m y (fun i z hi hz => hl (i + 1) z (by omega) (by simpa using hz)) (by simpa using h) hy
theorem find_no {α : Type} (f : α → Bool) (L : List α) (h : ∀ (i : Nat) (x : α), L[i]? = some x → f x = false) : L.find? f = none := by
  rw [List.find?_eq_none]
  intro x hx
  obtain ⟨i, hi⟩ := List.getElem?_of_mem hx
  simp [h i x hi]

def LoP (L : List Ent) (s : ByteArray) (q k i : Nat) : Prop := ∀ (t : Nat) (x : Ent), t < i → L[t]? = some x → decide (0 ≤ cmpV x.s x.q x.k s q k) = false
def HiP (L : List Ent) (s : ByteArray) (q k j : Nat) : Prop := ∀ (t : Nat) (x : Ent), j ≤ t → L[t]? = some x → decide (0 ≤ cmpV x.s x.q x.k s q k) = true
/-- What the search stands on: the row of entries in its box, the key in its own. -/
structure SkAt (w : World) (gl gk : Nat) (A : Option Addr) (n c : Nat) (L : List Ent) (s : ByteArray) (q k : Nat) : Prop where
  lt : gl < w.heap.size
  h : w.heap[gl]? = some (.cells #[.slice A n c] 22 (0, 0))
  rd : RdE w w.heap.size A n c L
  key : IkAt w gk s q k
section
variable {w w' : World} {gl gk n c q k : Nat} {A : Option Addr} {L : List Ent} {s : ByteArray}
theorem SkAt.below (h : SkAt w gl gk A n c L s q k) (hb : Below w.heap.size w w') : SkAt w' gl gk A n c L s q k :=
  ⟨by have := h.lt; have := hb.size; omega, by rw [hb.block gl h.lt]; exact h.h, (h.rd.below hb (Nat.le_refl _)).more hb.size, h.key.below hb (Nat.le_refl _)⟩
theorem SkAt.cell (h : SkAt w gl gk A n c L s q k) : w.cell? ⟨gl, 0, none⟩ = some (.slice A n c) := by simp only [World.cell?, h.h]; rfl
end
set_option maxRecDepth 100000 in
set_option maxHeartbeats 2000000 in
theorem seek1_c {w : World} {gl gk n c q k : Nat} {A : Option Addr} {L : List Ent} {s : ByteArray} (h : SkAt w gl gk A n c L s q k) {i : Nat} {x : Ent} (hx : L[i]? = some x) (hn : n ≤ 64) :
    Calls Try.prog 34 #[.int .i64 (i : Int), .pointer (some ⟨gl, 0, none⟩), .pointer (some ⟨gk, 0, none⟩)] w (RetVl w (.bool (decide (0 ≤ cmpV x.s x.q x.k s q k)))) := by
  have hl := h.rd.len
  have hin : i < n := by
    rcases Nat.lt_or_ge i L.length with h1 | h1
    · omega
    · rw [List.getElem?_eq_none h1] at hx; cases hx
  obtain ⟨b, off, hA, hbB, hcell⟩ := h.rd.form (by omega)
  subst hA
  obtain ⟨x0, x1, x2, _⟩ := hcell i x hx
  obtain ⟨k0, k1, k2⟩ := h.key.cells
  have l0 := h.cell
  have hii : (i : Int) < (n : Int) := by omega
  have hi0 : (0 : Int) ≤ (i : Int) := by omega
  have HC := Lib.hid fun W => compare_c W x.s s x.q x.k q k
  unfold ik at HC
  have SK : ∀ W, Below w.heap.size w W → (Below w.heap.size w W ∧ W.cell? ⟨gl, 0, none⟩ = some (.slice (some ⟨b, off, none⟩) n c) ∧ W.cell? ⟨b, off + i * 4, none⟩ = some (.string x.s) ∧ W.cell? ⟨b, off + i * 4 + 1, none⟩ = some (.int .u64 (x.q : Int)) ∧ W.cell? ⟨b, off + i * 4 + 2, none⟩ = some (.int .u8 (x.k : Int)) ∧
      W.cell? ⟨gk, 0, none⟩ = some (.string s) ∧ W.cell? ⟨gk, 1, none⟩ = some (.int .u64 (q : Int)) ∧ W.cell? ⟨gk, 2, none⟩ = some (.int .u8 (k : Int))) :=
    fun W hW => ⟨hW, (hW.cell h.lt).trans l0, (hW.cell hbB).trans x0, (hW.cell hbB).trans x1, (hW.cell hbB).trans x2, (hW.cell h.key.lt).trans k0, (hW.cell h.key.lt).trans k1, (hW.cell h.key.lt).trans k2⟩
  have HSK := Lib.hid SK
  have hs0 : Below w.heap.size w w.drew := below_drewN (Below.refl _ _) 1
  clear SK h hcell hbB hl hx
  go_enter Try.func34, Try.ntmps34
  go_wp2_with fail
  go_region_held3 (fun w' => Below w.heap.size w w' ∧ w'.cell? ⟨gl, 0, none⟩ = some (.slice (some ⟨b, off, none⟩) n c) ∧ w'.cell? ⟨b, off + i * 4, none⟩ = some (.string x.s) ∧ w'.cell? ⟨b, off + i * 4 + 1, none⟩ = some (.int .u64 (x.q : Int)) ∧ w'.cell? ⟨b, off + i * 4 + 2, none⟩ = some (.int .u8 (x.k : Int)) ∧
      w'.cell? ⟨gk, 0, none⟩ = some (.string s) ∧ w'.cell? ⟨gk, 1, none⟩ = some (.int .u64 (q : Int)) ∧ w'.cell? ⟨gk, 2, none⟩ = some (.int .u8 (k : Int)))
    ((first | assumption | exact HSK.out _ (by assumption) | exact HSK.out _ hs0))
    (first
    | (go_at_call 20; refine (HC.out _).mono ?_; rintro e w2 ⟨rfl, hb2⟩; have hb3 : Below w.heap.size w w2 := bon (And.left (by assumption)) hb2))
  all_goals (
    go_wp2_with fail
    go_ret
    exact ⟨rfl, hb3⟩)

set_option maxRecDepth 100000 in
set_option maxHeartbeats 2000000 in
theorem search_c {w : World} {gl gk n c q k : Nat} {A : Option Addr} {L : List Ent} {s : ByteArray} (h : SkAt w gl gk A n c L s q k) (hn : n ≤ 64) (hr : risB L = true) :
    Calls Try.prog 33 #[.int .i64 (n : Int), .func (.func 34) #[] #[.pointer (some ⟨gl, 0, none⟩), .pointer (some ⟨gk, 0, none⟩)]] w
      (fun e w' => ∃ m : Nat, e = .returned (.int .i64 (m : Int)) ∧ m ≤ n ∧ LoP L s q k m ∧ HiP L s q k m ∧ Below w.heap.size w w') := by
  have hl := h.rd.len
  have hni : (n : Int) ≤ 64 := by omega
  have HC := Lib.hid fun W (hW : Below w.heap.size w W) i x (hx : L[i]? = some x) => seek1_c (h.below hW) hx hn
  have HM := Lib.hid fun i j a b (hij : i ≤ j) (ha : L[i]? = some a) (hb : L[j]? = some b) => seek_mono hr hij ha hb s q k
  have HL := Lib.hid hl
  clear h hr hl
  go_enter Try.func33, Try.ntmps33
  go_wp2_with fail
  go_loopw [5, 6] (fun iv jv wr => ∃ i j : Nat, iv = .int .i64 (i : Int) ∧ jv = .int .i64 (j : Int) ∧ i ≤ j ∧ j ≤ n ∧ LoP L s q k i ∧ HiP L s q k j ∧ Below w.heap.size w wr) (fun iv jv _ => (intOf jv - intOf iv).toNat)
  case atStart => exact ⟨0, n, rfl, rfl, Nat.zero_le _, Nat.le_refl _, fun t x ht => by omega, (fun t x ht hx => by
    have h1 : t < L.length := by
      rcases Nat.lt_or_ge t L.length with h1 | h1
      · exact h1
      · rw [List.getElem?_eq_none h1] at hx; cases hx
    have := HL.out; omega), Below.refl _ _⟩
  case round =>
    obtain ⟨i, j, rfl, rfl, hij, hjn, hlo, hhi, hbr⟩ := hrel
    by_cases hlt : i < j
    · have hki : (i : Int) < (j : Int) := by omega
      obtain ⟨m, hm⟩ : ∃ m, (i + j) / 2 = m := ⟨_, rfl⟩
      have hml : m < L.length := by have := HL.out; omega
      obtain ⟨x, hx⟩ : ∃ x, L[m]? = some x := ⟨_, List.getElem?_eq_getElem hml⟩
      have hmi : ((i : Int) + (j : Int)) / 2 = (m : Int) := by omega
      have w1 : IntKind.i64.wrap ((i : Int) + (j : Int)) = (i : Int) + (j : Int) := wrapi _ (by omega) (by omega)
      have w2 : IntKind.u64.wrap ((i : Int) + (j : Int)) = (i : Int) + (j : Int) := by rw [wrapu]; omega
      have w3 : IntKind.u64.wrap (m : Int) = (m : Int) := by rw [wrapu]; omega
      have w4 : IntKind.i64.wrap (m : Int) = (m : Int) := wrapi _ (by omega) (by omega)
      have w5 : IntKind.i64.wrap ((m : Int) + 1) = (m : Int) + 1 := wrapi _ (by omega) (by omega)
      have HX := Lib.hid hx
      have HC2 := Lib.hid (HC.out wr hbr m x hx)
      have HLO := Lib.hid hlo
      have HHI := Lib.hid hhi
      have HBR := Lib.hid hbr
      have HMM := Lib.hid (show i ≤ m ∧ m < j by omega)
      clear hx hlo hhi hbr hm hml
      go_wp2_with fail
      refine HC2.out.mono ?_
      rintro e w2 ⟨rfl, hb2⟩
      have hb3 := bon HBR.out hb2
      obtain ⟨d, hd⟩ : ∃ d, decide (0 ≤ cmpV x.s x.q x.k s q k) = d := ⟨_, rfl⟩
      rw [hd]
      have HD := Lib.hid hd
      clear hd hb2 HC2
      cases d with
      | true =>
        go_wp2_with fail
        go_roundw
        case rel =>
          have hmm := HMM.out
          refine ⟨i, m, rfl, rfl, by omega, by omega, HLO.out, fun t y ht hy => ?_, hb3⟩
          have h0 : 0 ≤ cmpV x.s x.q x.k s q k := of_decide_eq_true HD.out
          exact decide_eq_true (HM.out m t x y ht HX.out hy h0)
        case measure => have hmm := HMM.out; simp [intOf]; omega
      | false =>
        go_wp2_with fail
        go_roundw
        case rel =>
          have hmm := HMM.out
          refine ⟨m + 1, j, by simp, rfl, by omega, by omega, fun t y ht hy => ?_, HHI.out, hb3⟩
          have h0 : ¬ 0 ≤ cmpV x.s x.q x.k s q k := of_decide_eq_false HD.out
          exact decide_eq_false (fun h1 => h0 (HM.out t m y x (by omega) hy HX.out h1))
        case measure => have hmm := HMM.out; simp [intOf]; omega
    · have hki : ¬ (i : Int) < (j : Int) := by omega
      obtain rfl : i = j := by omega
      have HLO := Lib.hid hlo
      have HHI := Lib.hid hhi
      clear hlo hhi
      go_wp2_with fail
      go_ret
      exact ⟨i, rfl, hjn, HLO.out, HHI.out, hbr⟩
end Go.Proofs.Ytfbmphaabdhphaa
