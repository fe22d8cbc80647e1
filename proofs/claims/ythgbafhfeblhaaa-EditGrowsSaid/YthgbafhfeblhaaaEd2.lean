/-
  Edits and versions as mathematics: which are right, their form, what bytes say, and what becomes of a version. No program is named here.
-/
import Derived.Test.YthgbafhfeblhaaaEdR
namespace Go.Proofs.Ythgbafhfeblhaaa
set_option maxRecDepth 100000
open Go.RowKit Go.Shelf
set_option linter.unusedSimpArgs false
set_option linter.unusedVariables false

/-! ## What bytes begin with -/
def numP (l : List UInt8) : Nat × List UInt8 × Bool := match takeN l with | some (v, m) => (v, l.drop m, true) | none => (0, [], false)
def txtP (l : List UInt8) : List UInt8 × List UInt8 × Bool := match textTake l 64 with | some (s, r) => (s, r, true) | none => ([], [], false)
def noteP (l : List UInt8) : Mt × List UInt8 × Bool :=
  let a := numP l; let b := numP a.2.1; let c := txtP b.2.1; let d := txtP c.2.1
  (⟨a.1, b.1, ⟨c.1.toArray⟩, ⟨d.1.toArray⟩⟩, d.2.1, d.2.2)
def notesP : Nat → List UInt8 → Option (List Mt × List UInt8)
  | 0, l => some ([], l)
  | k + 1, l => if (noteP l).2.2 = true then (match notesP k (noteP l).2.1 with | some (L, r) => some ((noteP l).1 :: L, r) | none => none) else none

theorem numP_short {x : Nat} (h : x < 2 ^ 64) (r : List UInt8) : numP (shortL x ++ r) = (x, r, true) := by
  unfold numP
  rw [takeN_short x h r]
  simp
theorem numP_ok {l : List UInt8} (h : (numP l).2.2 = true) : shortL (numP l).1 ++ (numP l).2.1 = l ∧ (numP l).1 < 2 ^ 64 := by
  unfold numP at *
  cases ht : takeN l with
  | none => rw [ht] at h; cases h
  | some y =>
    obtain ⟨v, m⟩ := y
    exact ⟨take_put ht, (takeN_le ht).2.2.2.1⟩
theorem numP_lt (l : List UInt8) : (numP l).1 < 2 ^ 64 := by
  unfold numP
  cases ht : takeN l with
  | none => show (0 : Nat) < 2 ^ 64; decide
  | some y => exact (takeN_le ht).2.2.2.1
theorem numP_bad {l : List UInt8} (h : (numP l).2.2 = false) : numP l = (0, [], false) := by
  unfold numP at *
  cases ht : takeN l with
  | none => rfl
  | some y => rw [ht] at h; cases h
theorem takeN_nil : takeN [] = none := rfl
theorem numP_nil : numP [] = (0, [], false) := rfl
theorem txtP_nil : txtP [] = ([], [], false) := rfl
theorem txtP_text {s : ByteArray} (h : s.size ≤ 64) (r : List UInt8) : txtP (textL s ++ r) = (s.data.toList, r, true) := by
  unfold txtP
  rw [textTake_text s (by omega) r 64, if_pos (by omega)]
theorem textTake_64 {l s r : List UInt8} (h : textTake l 64 = some (s, r)) : s.length ≤ 64 := by
  unfold textTake at h
  split at h
  · split at h
    · rename_i hc
      simp only [Option.some.injEq, Prod.mk.injEq] at h
      obtain ⟨rfl, rfl⟩ := h
      rw [List.length_take]; omega
    · cases h
  · cases h
theorem txtP_len (l : List UInt8) : (txtP l).1.length ≤ 64 := by
  unfold txtP
  cases ht : textTake l 64 with
  | none => exact Nat.zero_le _
  | some y => exact textTake_64 ht
theorem txtP_ok {l : List UInt8} (h : (txtP l).2.2 = true) : textL ⟨(txtP l).1.toArray⟩ ++ (txtP l).2.1 = l := by
  unfold txtP at *
  cases ht : textTake l 64 with
  | none => rw [ht] at h; cases h
  | some y => exact (text_put ht).1
theorem txtP_bad {l : List UInt8} (h : (txtP l).2.2 = false) : txtP l = ([], [], false) := by
  unfold txtP at *
  cases ht : textTake l 64 with
  | none => rfl
  | some y => rw [ht] at h; cases h

/-! ## The form -/
def metaL (x : Mt) : List UInt8 := shortL x.n ++ shortL x.z ++ textL x.s ++ textL x.t
def metasL (L : List Mt) : List UInt8 := L.flatMap metaL
structure MtOk (x : Mt) : Prop where
  n : (x.n : Int) ≤ 18446744073709551615
  z : (x.z : Int) ≤ 18446744073709551615
  s : x.s.size ≤ 64
  t : x.t.size ≤ 64
theorem noteP_meta {x : Mt} (h : MtOk x) (r : List UInt8) : noteP (metaL x ++ r) = (x, r, true) := by
  obtain ⟨n, z, s, t⟩ := x
  obtain ⟨h1, h2, h3, h4⟩ := h
  simp only at h1 h2 h3 h4
  unfold noteP metaL
  simp only [List.append_assoc]
  rw [numP_short (by omega)]
  simp only
  rw [numP_short (by omega)]
  simp only
  rw [txtP_text h3]
  simp only
  rw [txtP_text h4]
theorem noteP_ok (l : List UInt8) : MtOk (noteP l).1 := by
  unfold noteP
  refine ⟨?_, ?_, ?_, ?_⟩
  · have := numP_lt l; simp only; omega
  · have := numP_lt (numP l).2.1; simp only; omega
  · exact txtP_len _
  · exact txtP_len _
theorem notesP_metas : ∀ (L : List Mt) (r : List UInt8), (∀ x ∈ L, MtOk x) → notesP L.length (metasL L ++ r) = some (L, r)
  | [], r, _ => rfl
  | x :: L, r, h => by
    have ih := notesP_metas L r (fun y hy => h y (List.mem_cons_of_mem _ hy))
    simp only [metasL, List.flatMap_cons, List.length_cons, notesP, List.append_assoc] at *
    rw [noteP_meta (h x (List.mem_cons_self ..))]
    simp only [if_true, ih]
theorem notesP_ok : ∀ (k : Nat) (l : List UInt8) (L : List Mt) (r : List UInt8), notesP k l = some (L, r) → L.length = k ∧ ∀ x ∈ L, MtOk x
  | 0, l, L, r, h => by simp only [notesP, Option.some.injEq, Prod.mk.injEq] at h; obtain ⟨rfl, rfl⟩ := h; exact ⟨rfl, fun x hx => by cases hx⟩
  | k + 1, l, L, r, h => by
    simp only [notesP] at h
    split at h
    · split at h
      · rename_i K r1 hK
        simp only [Option.some.injEq, Prod.mk.injEq] at h
        obtain ⟨rfl, rfl⟩ := h
        obtain ⟨h1, h2⟩ := notesP_ok k _ _ _ hK
        refine ⟨by simp [h1], fun x hx => ?_⟩
        rcases List.mem_cons.1 hx with rfl | hx
        · exact noteP_ok l
        · exact h2 x hx
      · cases h
    · cases h

/-! ## Edits, and versions -/
structure Ed where
  L : List Mt
  a : Nat
  b : Nat
  c : Nat
def edV (A : Option Addr) (n c : Nat) (e : Ed) : Value := .agg #[.slice A n c, .int .u64 (e.a : Int), .int .u64 (e.b : Int), .int .u64 (e.c : Int)]
def Ed.nil : Ed := ⟨[], 0, 0, 0⟩
/-- Three numbers that fit. -/
structure NumsOk (e : Ed) : Prop where
  a : (e.a : Int) ≤ 18446744073709551615
  b : (e.b : Int) ≤ 18446744073709551615
  c : (e.c : Int) ≤ 18446744073709551615
structure EdOk (e : Ed) : Prop where
  L : ∀ x ∈ e.L, MtOk x
  N : NumsOk e
/-- What a part says, and its bytes. -/
def sayB (i : Nat) (e : Ed) : Bool := match i with | 0 => decide (0 < e.L.length) | 1 => decide (0 < e.a) | 2 => decide (0 < e.b) | _ => decide (0 < e.c)
def putL (i : Nat) (e : Ed) : List UInt8 := match i with | 0 => shortL e.L.length ++ metasL e.L | 1 => shortL e.a | 2 => shortL e.b | _ => shortL e.c
def saidL (i : Nat) (e : Ed) : List UInt8 := if sayB i e = true then putL i e else []
def bitN (i : Nat) (e : Ed) : Nat := if sayB i e = true then 2 ^ i else 0
/-- What the first i parts say, as bits; and as bytes. -/
def bitsN : Nat → Ed → Nat
  | 0, _ => 0
  | i + 1, e => bitsN i e + bitN i e
def saidsL : Nat → Ed → List UInt8
  | 0, _ => []
  | i + 1, e => saidsL i e ++ saidL i e
def firstN (e : Ed) : Nat := bitsN 4 e
def formE (e : Ed) : List UInt8 := byteOf (firstN e) :: saidsL 4 e
theorem bitN_le (i : Nat) (e : Ed) : bitN i e ≤ 2 ^ i := by have := Nat.one_le_two_pow (n := i); unfold bitN; split <;> omega
theorem bitsN_lt : ∀ (i : Nat) (e : Ed), bitsN i e < 2 ^ i
  | 0, e => by simp [bitsN]
  | i + 1, e => by
    have := bitsN_lt i e; have := bitN_le i e
    simp only [bitsN, Nat.pow_succ]; omega
theorem firstN_lt (e : Ed) : firstN e < 16 := bitsN_lt 4 e

/-! ## What is right -/
def risM : List Mt → Bool
  | [] => true
  | [_] => true
  | x :: y :: L => decide (x.n < y.n) && risM (y :: L)
theorem risM_iff : ∀ L : List Mt, risM L = true ↔ ∀ i a b, L[i]? = some a → L[i + 1]? = some b → a.n < b.n
  | [] => by simp [risM]
  | [x] => by simp [risM]
  | x :: y :: L => by
    have ih := risM_iff (y :: L)
    simp only [risM, Bool.and_eq_true, decide_eq_true_eq, ih]
    constructor
    · rintro ⟨h0, h1⟩ i a b ha hb
      cases i with
      | zero => simp at ha hb; subst ha; subst hb; exact h0
      | succ i => exact h1 i a b (by simpa using ha) (by simpa using hb)
    · intro h
      exact ⟨h 0 x y rfl rfl, fun i a b ha hb => h (i + 1) a b (by simpa using ha) (by simpa using hb)⟩
def notesB (L : List Mt) : Bool := decide (L.length ≤ 64) && L.all noteB && risM L
def rightE (e : Ed) : Bool := decide (firstN e ≠ 0) && notesB e.L && decide ((e.b : Int) ≤ 72057594037927935)
theorem noteB_ok {x : Mt} (h : noteB x = true) : x.s.size ≤ 64 ∧ x.t.size ≤ 64 := by
  simp only [noteB, keyB, Bool.and_eq_true, decide_eq_true_eq] at h
  omega
theorem notesB_sizes {L : List Mt} (h : notesB L = true) : L.length ≤ 64 ∧ ∀ x ∈ L, x.s.size ≤ 64 ∧ x.t.size ≤ 64 := by
  simp only [notesB, Bool.and_eq_true, decide_eq_true_eq, List.all_eq_true] at h
  exact ⟨h.1.1, fun x hx => noteB_ok (h.1.2 x hx)⟩
theorem rightE_notes {e : Ed} (h : rightE e = true) : notesB e.L = true := by
  simp only [rightE, Bool.and_eq_true, decide_eq_true_eq] at h
  exact h.1.2

/-! ## Reading -/
def partP (i : Nat) (e : Ed) (l : List UInt8) : Option (Ed × List UInt8) :=
  if (numP l).2.2 = true then
    match i with
    | 0 => if (numP l).1 ≤ 64 then (match notesP (numP l).1 (numP l).2.1 with | some (L, r) => some ({ e with L := L }, r) | none => none) else none
    | 1 => some ({ e with a := (numP l).1 }, (numP l).2.1)
    | 2 => some ({ e with b := (numP l).1 }, (numP l).2.1)
    | _ => some ({ e with c := (numP l).1 }, (numP l).2.1)
  else none
def stepP (c : UInt8) (i : Nat) (x : Option (Ed × List UInt8)) : Option (Ed × List UInt8) :=
  match x with
  | none => none
  | some (e, l) => if c.toNat / 2 ^ i % 2 = 0 then some (e, l) else partP i e l
def stepsP (c : UInt8) (l : List UInt8) : Nat → Option (Ed × List UInt8)
  | 0 => some (Ed.nil, l)
  | i + 1 => stepP c i (stepsP c l i)
def readE : List UInt8 → Option Ed
  | [] => none
  | c :: l => match stepsP c l 4 with | some (e, _) => some e | none => none
/-- What the first i parts are of an edit. -/
def upE (i : Nat) (e : Ed) : Ed := ⟨if 0 < i then e.L else [], if 1 < i then e.a else 0, if 2 < i then e.b else 0, if 3 < i then e.c else 0⟩
/-- The bytes of the parts from i on. -/
def restL (i : Nat) (e : Ed) : List UInt8 := match i with
  | 0 => saidL 0 e ++ (saidL 1 e ++ (saidL 2 e ++ saidL 3 e))
  | 1 => saidL 1 e ++ (saidL 2 e ++ saidL 3 e)
  | 2 => saidL 2 e ++ saidL 3 e
  | 3 => saidL 3 e
  | _ => []
theorem formE_rest (e : Ed) : formE e = byteOf (firstN e) :: restL 0 e := by
  simp [formE, saidsL, restL]
theorem first_bit (e : Ed) (i : Nat) (hi : i < 4) : firstN e / 2 ^ i % 2 = if sayB i e = true then 1 else 0 := by
  have h : firstN e = bitN 0 e + bitN 1 e + bitN 2 e + bitN 3 e := by simp [firstN, bitsN]
  rw [h]
  unfold bitN
  have h4 : i = 0 ∨ i = 1 ∨ i = 2 ∨ i = 3 := by omega
  rcases h4 with rfl | rfl | rfl | rfl <;> (cases sayB 0 e <;> cases sayB 1 e <;> cases sayB 2 e <;> cases sayB 3 e <;> rfl)
theorem stepsP_form {e : Ed} (hl : e.L.length ≤ 64) (h : EdOk e) : ∀ i, i ≤ 4 → stepsP (byteOf (firstN e)) (restL 0 e) i = some (upE i e, restL i e)
  | 0, _ => rfl
  | i + 1, hi => by
    have ih := stepsP_form hl h i (by omega)
    have hf := firstN_lt e
    have hb := first_bit e i (by omega)
    obtain ⟨hL, ha, hb', hc⟩ := h
    simp only [stepsP, ih, stepP]
    rw [byteOf_toNat (by omega), hb]
    have h4 : i = 0 ∨ i = 1 ∨ i = 2 ∨ i = 3 := by omega
    rcases h4 with rfl | rfl | rfl | rfl
    · simp only [restL, saidL, sayB]
      by_cases h0 : 0 < e.L.length
      · simp only [h0, decide_true, if_true, Nat.one_ne_zero, if_false, partP, putL, List.append_assoc]
        rw [numP_short (by omega)]
        simp only [if_true, if_pos hl]
        rw [notesP_metas _ _ hL]
        simp [upE, restL, saidL, sayB, putL]
      · have : e.L = [] := List.eq_nil_of_length_eq_zero (by omega)
        simp [upE, restL, saidL, sayB, putL, this]
    · simp only [restL, saidL, sayB]
      by_cases h0 : 0 < e.a
      · simp only [h0, decide_true, if_true, Nat.one_ne_zero, if_false, partP, putL]
        rw [numP_short (by omega)]
        simp [upE, restL, saidL, sayB, putL]
      · have : e.a = 0 := by omega
        simp [upE, restL, saidL, sayB, putL, this]
    · simp only [restL, saidL, sayB]
      by_cases h0 : 0 < e.b
      · simp only [h0, decide_true, if_true, Nat.one_ne_zero, if_false, partP, putL]
        rw [numP_short (by omega)]
        simp [upE, restL, saidL, sayB, putL]
      · have : e.b = 0 := by omega
        simp [upE, restL, saidL, sayB, putL, this]
    · simp only [restL, saidL, sayB]
      by_cases h0 : 0 < e.c
      · simp only [h0, decide_true, if_true, Nat.one_ne_zero, if_false, partP, putL]
        have := numP_short (x := e.c) (by omega) []
        rw [List.append_nil] at this
        rw [this]
        simp [upE, restL, saidL, sayB, putL]
      · have : e.c = 0 := by omega
        simp [upE, restL, saidL, sayB, putL, this]
theorem readE_form {e : Ed} (hl : e.L.length ≤ 64) (h : EdOk e) : readE (formE e) = some e := by
  rw [formE_rest]
  simp only [readE, stepsP_form hl h 4 (Nat.le_refl _)]
  rfl
theorem partP_ok {i : Nat} {e e' : Ed} {l r : List UInt8} (he : EdOk e) (h : partP i e l = some (e', r)) : EdOk e' := by
  obtain ⟨hL, ha, hb, hc⟩ := he
  have hv := numP_lt l
  unfold partP at h
  split at h
  · split at h
    · split at h
      · split at h
        · rename_i K r1 hK
          simp only [Option.some.injEq, Prod.mk.injEq] at h
          obtain ⟨rfl, rfl⟩ := h
          exact ⟨(notesP_ok _ _ _ _ hK).2, ha, hb, hc⟩
        · cases h
      · cases h
    all_goals
      simp only [Option.some.injEq, Prod.mk.injEq] at h
      obtain ⟨rfl, rfl⟩ := h
      refine ⟨hL, ?_, ?_, ?_⟩ <;> (simp only; omega)
  · cases h
theorem stepsP_ok {c : UInt8} {l : List UInt8} : ∀ {i : Nat} {e : Ed} {r : List UInt8}, stepsP c l i = some (e, r) → EdOk e
  | 0, e, r, h => by
    simp only [stepsP, Option.some.injEq, Prod.mk.injEq] at h
    obtain ⟨rfl, rfl⟩ := h
    exact ⟨fun x hx => (by cases hx), by decide, by decide, by decide⟩
  | i + 1, e, r, h => by
    simp only [stepsP] at h
    cases hx : stepsP c l i with
    | none => rw [hx] at h; cases h
    | some y =>
      obtain ⟨e1, l1⟩ := y
      rw [hx] at h
      have h1 := stepsP_ok hx
      simp only [stepP] at h
      split at h
      · simp only [Option.some.injEq, Prod.mk.injEq] at h
        obtain ⟨rfl, rfl⟩ := h
        exact h1
      · exact partP_ok h1 h
theorem readE_ok {l : List UInt8} {e : Ed} (h : readE l = some e) : EdOk e := by
  cases l with
  | nil => cases h
  | cons c l =>
    simp only [readE] at h
    cases hx : stepsP c l 4 with
    | none => rw [hx] at h; cases h
    | some y =>
      obtain ⟨e1, l1⟩ := y
      rw [hx] at h
      simp only [Option.some.injEq] at h
      subst h
      exact stepsP_ok hx
def parseE (l : List UInt8) : Option Ed := match readE l with | some e => if rightE e = true ∧ formE e = l then some e else none | none => none
theorem parseE_iff {l : List UInt8} {e : Ed} : parseE l = some e ↔ rightE e = true ∧ formE e = l ∧ EdOk e := by
  constructor
  · intro h
    unfold parseE at h
    cases hr : readE l with
    | none => rw [hr] at h; cases h
    | some y =>
      rw [hr] at h
      simp only at h
      split at h
      · rename_i hc
        simp only [Option.some.injEq] at h
        subst h
        exact ⟨hc.1, hc.2, readE_ok hr⟩
      · cases h
  · rintro ⟨h1, rfl, h3⟩
    have hl := (notesB_sizes (rightE_notes h1)).1
    simp only [parseE, readE_form hl h3, h1, and_self, if_true]
theorem formE_inj {e f : Ed} (h1 : e.L.length ≤ 64) (h2 : EdOk e) (h3 : f.L.length ≤ 64) (h4 : EdOk f) (h : formE e = formE f) : e = f := by
  have a := readE_form h1 h2
  have b := readE_form h3 h4
  rw [h, b] at a
  exact (Option.some.inj a).symm

/-! ## What becomes of a version -/
def lastN (L : List Mt) : Nat := match L.getLast? with | some x => x.n | none => 0
def headN (L : List Mt) : Nat := match L.head? with | some x => x.n | none => 0
def lowB (v e : Ed) : Bool := decide (0 < v.L.length) && decide (0 < e.L.length) && decide (headN e.L ≤ lastN v.L)
def fallB (x y : Nat) : Bool := decide (0 < y) && decide (y < x)
def follB (v e : Ed) : Bool := !lowB v e && !fallB v.a e.a && !fallB v.b e.b && !fallB v.c e.c
def okB (v e : Ed) : Bool := rightE e && follB v e
def addE (v e : Ed) : Ed := ⟨v.L ++ e.L, max v.a e.a, max v.b e.b, max v.c e.c⟩
def applyE (v e : Ed) : Ed := if okB v e = true then addE v e else v
def errE (b : Bool) : Int := if b = true then 0 else 90
end Go.Proofs.Ythgbafhfeblhaaa
