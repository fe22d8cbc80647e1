/-
  The texts BE, BF, in one.
-/
import Derived.Test.YtkdjjdkcogolmaaGreatDoorBD
section
/-
  What bytes say: the contracts of ahead, bytes.Equal, Parse.
-/
namespace Go.Proofs.YtkdjjdkcogolmaaGreatDoor
set_option maxRecDepth 100000
open Go.RowKit Go.Shelf
set_option linter.unusedVariables false

def RetRd (w : World) (B : Nat) (l : List UInt8) (e : Ending) (w' : World) : Prop :=
  ∃ A n c, e = .returned (.slice A n c) ∧ Rd w' B A n c (bv l) ∧ Below w.heap.size w w'
set_option maxRecDepth 100000 in
set_option maxHeartbeats 2000000 in
theorem ahead_c {w : World} {B n c : Nat} {A : Option Addr} {l : List UInt8} (h : Rd w B A n c (bv l)) (hB : B ≤ w.heap.size) (hn : n ≤ 1000000000) :
    Calls Tryz.prog 111 #[.slice A n c] w (RetRd w B (aheadL l)) := by
  have hll : l.length = n := by simpa using h.len
  have hcap := h.cap
  have hni : (n : Int) ≤ 1000000000 := by omega
  have hsub : IntKind.i64.wrap ((n : Int) - 4) = (n : Int) - 4 := wrapi _ (by omega) (by omega)
  have hH := Lib.hid h
  have HLL := Lib.hid hll
  have hmx : ∀ (k : Nat), (k : Int) = max ((n : Int) - 4) 0 → ∀ (W : World) (ts : Array TypeId) (ty : TypeId), (Builtin.max_ ts ty #[.int .i64 ((n : Int) - 4), .int .i64 0]).run Tryz.prog W = .ok (.int .i64 (k : Int)) W := fun k hk W ts ty => by
    rw [Lib.run_max_ints]; congr 2; omega
  by_cases h4 : n < 4
  · have e1 : aheadL l = [] := if_pos (by omega)
    obtain ⟨A1, hsl, hr⟩ := h.slice_lo 24 5 (P := Tryz.prog) Tryz.underlying24 info_u8 .i64 (k := 0) (by omega)
    rw [bv_drop, List.drop_zero] at hr
    have HT := Lib.hid (takeFour_no hr (by omega))
    have hm := hmx 0 (by omega)
    rw [show ((0 : Nat) : Int) = 0 from rfl] at hm hsl
    rw [e1]
    have w1 : IntKind.u64.wrap 0 = 0 := by rw [wrapu]; rfl
    clear h hll hcap hmx hr e1
    go_enter Tryz.func111, Tryz.ntmps111
    go_wp2_with fail
    refine HT.out.mono ?_
    rintro e w1 ⟨A2, n2, c2, rfl, hf2, hb2⟩
    go_wp2_with fail
    go_ret
    exact ⟨none, 0, 0, rfl, Rd.nilv, hb2⟩
  · obtain ⟨k, hk⟩ : ∃ k, n - 4 = k := ⟨_, rfl⟩
    obtain ⟨A1, hsl, hr⟩ := h.slice_lo 24 5 (P := Tryz.prog) Tryz.underlying24 info_u8 .i64 (k := k) (by omega)
    rw [bv_drop] at hr
    have hdl : (l.drop k).length = 4 := by rw [List.length_drop]; omega
    have HT := Lib.hid (takeFour_c hr hB (by omega) (by omega))
    rw [List.take_of_length_le (by omega : (l.drop k).length ≤ 4)] at HT
    obtain ⟨v, hv⟩ : ∃ v, leV (l.drop k) = v := ⟨_, rfl⟩
    rw [hv] at HT
    have hvl : v < 4294967296 := by have := leV_lt (l.drop k); rw [hdl, hv] at this; simpa using this
    have hm := hmx k (by omega)
    have hvi : (v : Int) < 4294967296 := by omega
    have w1 : IntKind.u64.wrap (v : Int) = (v : Int) := by rw [wrapu]; omega
    have w2 : IntKind.u64.wrap ((v : Int) + 1) = (v : Int) + 1 := by rw [wrapu]; omega
    have w3 : IntKind.u64.wrap (4 * ((v : Int) + 1)) = 4 * ((v : Int) + 1) := by rw [wrapu]; omega
    have w4 : IntKind.u64.wrap (n : Int) = (n : Int) := by rw [wrapu]; omega
    have e0 : aheadL l = if n < 4 * (v + 1) then [] else l.take (n - 4 * (v + 1)) := by
      unfold aheadL
      rw [hll, hk, hv, if_neg h4]
    have hkc : n - k ≤ c - k := by omega
    by_cases hb : n < 4 * (v + 1)
    · have d1 : decide ((n : Int) < 4 * ((v : Int) + 1)) = true := by simp; omega
      rw [e0, if_pos hb]
      clear h hll hcap hmx hr e0 hdl hv hk h4 hkc
      go_enter Tryz.func111, Tryz.ntmps111
      go_wp2_with fail
      refine HT.out.mono ?_
      rintro e w1 ⟨A2, n2, c2, rfl, hf2, hb2⟩
      go_wp2_with fail
      go_ret
      exact ⟨none, 0, 0, rfl, Rd.nilv, hb2⟩
    · have d1 : decide ((n : Int) < 4 * ((v : Int) + 1)) = false := by simp; omega
      rw [e0, if_neg hb]
      obtain ⟨m, hm2⟩ : ∃ m, n - 4 * (v + 1) = m := ⟨_, rfl⟩
      have w5 : IntKind.u64.wrap ((n : Int) - 4 * ((v : Int) + 1)) = (m : Int) := by rw [wrapu]; omega
      have hsf := fun W => run_slice_hi_gen (P := Tryz.prog) (n := n) (A := A) 24 5 Tryz.underlying24 info_u8 .u64 (k := m) (c := c) (by omega) W
      have hfr := h.front (k := m) (by omega)
      rw [bv_take] at hfr
      rw [hm2]
      have HFR := Lib.hid hfr
      clear h hll hcap hmx hr e0 hdl hv hk h4 hm2 hb hfr hkc
      go_enter Tryz.func111, Tryz.ntmps111
      go_wp2_with fail
      refine HT.out.mono ?_
      rintro e w1 ⟨A2, n2, c2, rfl, hf2, hb2⟩
      go_wp2_with fail
      go_ret
      exact ⟨A, m, c, rfl, HFR.out.under hb2 hB, hb2⟩

set_option maxRecDepth 100000 in
theorem equal_c {w : World} {B1 B2 n1 c1 n2 c2 : Nat} {A1 A2 : Option Addr} {l1 l2 : List UInt8} (h1 : Rd w B1 A1 n1 c1 (bv l1)) (h2 : Rd w B2 A2 n2 c2 (bv l2)) :
    Calls Tryz.prog 36 #[.slice A1 n1 c1, .slice A2 n2 c2] w fun e w' => e = .returned (.bool (l1 == l2)) ∧ w = w' := by
  have r1 := run_str (P := Tryz.prog) h1 24 9 5 Tryz.underlying24 Tryz.underlying5 Tryz.underlying9
  have r2 := run_str (P := Tryz.prog) h2 24 9 5 Tryz.underlying24 Tryz.underlying5 Tryz.underlying9
  clear h1 h2
  go_enter Tryz.func36, Tryz.ntmps36
  go_wp2
  go_ret
  exact ⟨rfl, rfl⟩

def prsL (b : List UInt8) : List Ent := match parseB b with | some L => L | none => []
def prsE (b : List UInt8) : Int := match parseB b with | some _ => 0 | none => 70
def RetLE (w : World) (L : List Ent) (e0 : Int) (e : Ending) (w' : World) : Prop :=
  ∃ A n c, e = .returned (.tuple #[.slice A n c, .int .i64 e0]) ∧ FrE w' w.heap.size A n c L ∧ Below w.heap.size w w'
theorem readR_len : ∀ (f : Nat) (p : ByteArray) (l : List UInt8), (readR f p l).length ≤ f
  | 0, p, l => by simp [readR]
  | f + 1, p, l => by
    have := readR_len f (entR p l).1.s (entR p l).2
    simp only [readR]
    split <;> simp
    omega
theorem prs_no {b : List UInt8} (h : ¬ (blkB (readR 64 noS (aheadL b)) = true ∧ blkL (readR 64 noS (aheadL b)) = b)) : prsL b = [] ∧ prsE b = 70 := by
  unfold prsL prsE parseB; rw [if_neg h]; exact ⟨rfl, rfl⟩
theorem prs_yes {b : List UInt8} (h : blkB (readR 64 noS (aheadL b)) = true ∧ blkL (readR 64 noS (aheadL b)) = b) : prsL b = readR 64 noS (aheadL b) ∧ prsE b = 0 := by
  unfold prsL prsE parseB; rw [if_pos h]; exact ⟨rfl, rfl⟩
set_option maxRecDepth 100000 in
set_option maxHeartbeats 2000000 in
theorem parse_c {w : World} {B n c : Nat} {A : Option Addr} {l : List UInt8} (h : Rd w B A n c (bv l)) (hB : B ≤ w.heap.size) (hn : n ≤ 1000000000) :
    Calls Tryz.prog 84 #[.slice A n c] w (RetLE w (prsL l) (prsE l)) := by
  have hll : l.length = n := by simpa using h.len
  have HA := Lib.hid (ahead_c h hB hn)
  have hal : (aheadL l).length ≤ n := by
    unfold aheadL
    split
    · simp
    · split
      · simp
      · simp; omega
  have hRL := readR_len 64 noS (aheadL l)
  have HNO := Lib.hid (fun h => prs_no (b := l) h)
  have HYES := Lib.hid (fun h => prs_yes (b := l) h)
  have HH := Lib.hid h
  have HRD := Lib.hid fun W A n c (hh : Rd W W.heap.size A n c (bv (aheadL l))) (hn : n ≤ 1000000000) => read_c hh hn
  have HAL := Lib.hid (show (aheadL l).length ≤ 1000000000 by omega)
  generalize prsL l = PL at *
  generalize prsE l = PE at *
  generalize aheadL l = al at *
  generalize readR 64 noS al = M at *
  clear h hal hll hn
  go_enter Tryz.func84, Tryz.ntmps84
  go_wp2_with fail
  refine HA.out.mono ?_
  rintro e w1 ⟨A1, n1, c1, rfl, hr1, hb1⟩
  have hn1 : n1 ≤ 1000000000 := by have := hr1.len; have := HAL.out; simp at *; omega
  have HC := Lib.hid (HRD.out w1 A1 n1 c1 (hr1.more (Nat.le_trans hB hb1.size)) hn1)
  clear hr1 HRD
  go_wp2_with fail
  refine HC.out.mono ?_
  rintro e w2 ⟨A2, n2, c2, rfl, hf2, hb2⟩
  have hg2 := bon hb1 hb2
  have hl2 := hf2.len
  have hn2 : n2 ≤ 64 := by omega
  have HR := Lib.hid (blkRight_c (hf2.rd (Nat.le_refl _)) (Nat.le_refl _) (by omega))
  have F2 := Lib.hid (hf2.mono hb1.size)
  have G2 := Lib.hid hg2
  clear HC hb2 hf2 hg2 hl2
  go_wp2_with fail
  refine HR.out.mono ?_
  rintro e w3 ⟨rfl, hb3⟩
  have F3 := Lib.hid (F2.out.below hb3)
  have G3 := Lib.hid (bon G2.out hb3)
  clear hb3 HR
  by_cases hb : blkB M = true
  case neg =>
    have hb' : blkB M = false := by simpa using hb
    have HN := Lib.hid (HNO.out (fun h => hb h.1))
    rw [hb']
    clear hb hb'
    go_wp2_with fail
    go_ret2
    refine ⟨none, 0, 0, ?_, ?_, G3.out⟩
    · rw [HN.out.2]; rfl
    · rw [HN.out.1]; exact FrE.nil
  have HFM := Lib.hid (form_c (F3.out.rd (Nat.le_refl _)) (Nat.le_refl _) hb)
  have HB := Lib.hid hb
  rw [hb]
  clear hb
  go_wp2_with fail
  refine HFM.out.mono ?_
  rintro e w4 ⟨A4, n4, c4, rfl, hf4, hb4⟩
  have F4 := Lib.hid (F3.out.below hb4)
  have G4 := Lib.hid (bon G3.out hb4)
  have HQ := Lib.hid (equal_c (hf4.rd (Nat.le_refl _)) (HH.out.under G4.out hB))
  clear hf4 hb4 HFM
  go_wp2_with fail
  refine HQ.out.mono ?_
  rintro e w5 ⟨rfl, rfl⟩
  by_cases he : blkL M = l
  case neg =>
    have he' : (blkL M == l) = false := by simpa using he
    have HN := Lib.hid (HNO.out (fun h => he h.2))
    rw [he']
    clear he he'
    go_wp2_with fail
    go_ret2
    refine ⟨none, 0, 0, ?_, ?_, G4.out⟩
    · rw [HN.out.2]; rfl
    · rw [HN.out.1]; exact FrE.nil
  have he' : (blkL M == l) = true := by simpa using he
  have HY := Lib.hid (HYES.out ⟨HB.out, he⟩)
  rw [he']
  clear he he'
  go_wp2_with fail
  go_ret2
  refine ⟨A2, n2, c2, ?_, ?_, G4.out⟩
  · rw [HY.out.2]; rfl
  · rw [HY.out.1]; exact F4.out
end Go.Proofs.YtkdjjdkcogolmaaGreatDoor
end

section
/-
  What is sought: the order along a list that rises; the contracts of sort.Search with Seek's closure.
-/
namespace Go.Proofs.YtkdjjdkcogolmaaGreatDoor
set_option maxRecDepth 100000
open Go.RowKit Go.Shelf
set_option linter.unusedVariables false

theorem cmpV_refl (s : ByteArray) (q k : Nat) : cmpV s q k s q k = 0 := (cmpV_zero _ _ _ _ _ _).2 ⟨rfl, rfl, rfl⟩
theorem ris_le {L : List Ent} (h : risB L = true) : ∀ (d i : Nat) (a b : Ent), L[i]? = some a → L[i + d]? = some b → cmpE a b ≤ 0
  | 0, i, a, b, ha, hb => by
    rw [Nat.add_zero, ha] at hb; cases hb
    unfold cmpE; rw [cmpV_refl]; exact Int.le_refl _
  | d + 1, i, a, b, ha, hb => by
    have hlt : i + d < L.length := by
      rcases Nat.lt_or_ge (i + (d + 1)) L.length with h1 | h1
      · omega
      · rw [List.getElem?_eq_none h1] at hb; cases hb
    have hm : L[i + d]? = some (L[i + d]'hlt) := List.getElem?_eq_getElem _
    have h1 := ris_le h d i a _ ha hm
    have h2 := (risB_iff L).1 h (i + d) _ b hm (by rw [← hb]; rfl)
    exact cmpV_trans h1 (Int.le_of_lt h2)
theorem seek_mono {L : List Ent} (h : risB L = true) {i j : Nat} {a b : Ent} (hij : i ≤ j) (ha : L[i]? = some a) (hb : L[j]? = some b) (s : ByteArray) (q k : Nat) (hp : 0 ≤ cmpV a.s a.q a.k s q k) : 0 ≤ cmpV b.s b.q b.k s q k := by
  have h1 : cmpE a b ≤ 0 := ris_le h (j - i) i a b ha (by rw [show i + (j - i) = j by omega]; exact hb)
  unfold cmpE at h1
  rcases Int.lt_or_le (cmpV b.s b.q b.k s q k) 0 with h2 | h2
  · have h3 := cmpV_trans h1 (Int.le_of_lt h2)
    have h4 : cmpV a.s a.q a.k s q k = 0 := by omega
    obtain ⟨e1, e2, e3⟩ := (cmpV_zero _ _ _ _ _ _).1 h4
    have h5 := cmpV_swap a.s a.q a.k b.s b.q b.k
    rw [e1, e2, e3] at h5 h1
    omega
  · exact h2
theorem find_at {α : Type} (f : α → Bool) : ∀ (L : List α) (m : Nat) (y : α), (∀ i x, i < m → L[i]? = some x → f x = false) → L[m]? = some y → f y = true → L.find? f = some y
  | [], m, y, _, h, _ => by simp at h
  | x :: L, 0, y, _, h, hy => by simp at h; subst h; simp [List.find?, hy]
  | x :: L, m + 1, y, hl, h, hy => by
    have h0 := hl 0 x (by omega) rfl
    simp only [List.find?, h0]
    exact find_at f L m y (fun i z hi hz => hl (i + 1) z (by omega) (by simpa using hz)) (by simpa using h) hy
theorem find_no {α : Type} (f : α → Bool) (L : List α) (h : ∀ (i : Nat) (x : α), L[i]? = some x → f x = false) : L.find? f = none := by
  rw [List.find?_eq_none]
  intro x hx
  obtain ⟨i, hi⟩ := List.getElem?_of_mem hx
  simp [h i x hi]

def LoP (L : List Ent) (s : ByteArray) (q k i : Nat) : Prop := ∀ (t : Nat) (x : Ent), t < i → L[t]? = some x → decide (0 ≤ cmpV x.s x.q x.k s q k) = false
def HiP (L : List Ent) (s : ByteArray) (q k j : Nat) : Prop := ∀ (t : Nat) (x : Ent), j ≤ t → L[t]? = some x → decide (0 ≤ cmpV x.s x.q x.k s q k) = true
/-- What the search stands on: the row of entries in its box, the key in its own. -/
structure SkAt (w : World) (gl gk : Nat) (A : Option Addr) (n c : Nat) (L : List Ent) (s : ByteArray) (q k : Nat) : Prop where
  lt : gl < w.heap.size
  h : w.heap[gl]? = some (.cells #[.slice A n c] 23 (0, 0))
  rd : RdE w w.heap.size A n c L
  key : IkAt w gk s q k
section
variable {w w' : World} {gl gk n c q k : Nat} {A : Option Addr} {L : List Ent} {s : ByteArray}
theorem SkAt.below (h : SkAt w gl gk A n c L s q k) (hb : Below w.heap.size w w') : SkAt w' gl gk A n c L s q k :=
  ⟨by have := h.lt; have := hb.size; omega, by rw [hb.block gl h.lt]; exact h.h, (h.rd.below hb (Nat.le_refl _)).more hb.size, h.key.below hb (Nat.le_refl _)⟩
theorem SkAt.cell (h : SkAt w gl gk A n c L s q k) : w.cell? ⟨gl, 0, none⟩ = some (.slice A n c) := by simp only [World.cell?, h.h]; rfl
end
end Go.Proofs.YtkdjjdkcogolmaaGreatDoor
end
