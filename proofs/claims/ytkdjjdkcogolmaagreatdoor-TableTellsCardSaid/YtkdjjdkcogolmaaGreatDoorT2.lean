/-
  The texts T1, T2, in one.
-/
import Derived.Test.YtkdjjdkcogolmaaGreatDoorBD
import Derived.Test.YtkdjjdkcogolmaaGreatDoorFrL
import Derived.Test.YtkdjjdkcogolmaaGreatDoorIkL
import Derived.Lib.MinMax
section
/-
  Tables as mathematics: the form; the blocks that bytes begin with; a table has one form.
-/
namespace Go.Proofs.YtkdjjdkcogolmaaGreatDoor
set_option maxRecDepth 100000
open Go.RowKit Go.Shelf
set_option linter.unusedVariables false

/-! ## Blocks of sixteen -/
def chN (L : List Ent) (j : Nat) : List Ent := (L.drop (16 * j)).take 16
def chK (L : List Ent) (m : Nat) : List (List Ent) := (List.range m).map (chN L)
def cntL (L : List Ent) : Nat := (L.length + 15) / 16
def chL (L : List Ent) : List (List Ent) := chK L (cntL L)
theorem chK_succ (L : List Ent) (m : Nat) : chK L (m + 1) = chK L m ++ [chN L m] := by
  unfold chK; rw [List.range_succ, List.map_append]; rfl
theorem chK_len (L : List Ent) (m : Nat) : (chK L m).length = m := by simp [chK]
theorem chK_flat (L : List Ent) : ∀ m, (chK L m).flatten = L.take (16 * m)
  | 0 => by simp [chK]
  | m + 1 => by
    rw [chK_succ, List.flatten_append, chK_flat L m, show 16 * (m + 1) = 16 * m + 16 by omega, List.take_add]
    simp [chN]
theorem chL_flat (L : List Ent) : (chL L).flatten = L := by
  unfold chL
  rw [chK_flat, List.take_of_length_le]
  unfold cntL; omega
def lastE (one : List Ent) : Ent := (one[one.length - 1]?).getD noE

/-! ## The form -/
def bkL (one : List Ent) : List UInt8 := sealL (blkL one)
def frL (P : List (List Ent)) : List UInt8 := P.flatMap bkL
def lineL (x : Ent) (at_ size : Nat) : List UInt8 := formL x.s x.q x.k ++ (shortL at_ ++ shortL size)
def linL : Nat → List (List Ent) → List UInt8
  | _, [] => []
  | a, one :: r => lineL (lastE one) a (bkL one).length ++ linL (a + (bkL one).length) r
def idxL (P : List (List Ent)) : List UInt8 := shortL P.length ++ linL 0 P
def ftL (a n : Nat) : List UInt8 := fourL a ++ (fourL n ++ [82, 84, 76, 49])
def tabL (L : List Ent) : List UInt8 := frL (chL L) ++ (sealL (idxL (chL L)) ++ ftL (frL (chL L)).length L.length)
def tblB (L : List Ent) : Bool := decide (1 ≤ L.length) && (decide (L.length ≤ 8192) && (L.all entB && risB L))
theorem tblB_iff {L : List Ent} : tblB L = true ↔ 1 ≤ L.length ∧ L.length ≤ 8192 ∧ (∀ x ∈ L, entB x = true) ∧ risB L = true := by
  simp [tblB]
theorem frL_snoc (P : List (List Ent)) (one : List Ent) : frL (P ++ [one]) = frL P ++ bkL one := by simp [frL]
theorem frL_cons (one : List Ent) (P : List (List Ent)) : frL (one :: P) = bkL one ++ frL P := by simp [frL]
theorem linL_snoc : ∀ (P : List (List Ent)) (a : Nat) (one : List Ent), linL a (P ++ [one]) = linL a P ++ lineL (lastE one) (a + (frL P).length) (bkL one).length
  | [], a, one => by simp [linL, frL]
  | p :: P, a, one => by
    have := linL_snoc P (a + (bkL p).length) one
    simp only [List.cons_append, linL, this, List.append_assoc, frL_cons, List.length_append]
    rw [Nat.add_assoc]

/-! ## Parts of what is right -/
theorem ris_drop {L : List Ent} (h : risB L = true) (k : Nat) : risB (L.drop k) = true := by
  rw [ris_split (k := k)] at h
  simp only [Bool.and_eq_true] at h
  exact h.2
theorem ris_take {L : List Ent} (h : risB L = true) (k : Nat) : risB (L.take k) = true := by
  cases k with
  | zero => rfl
  | succ k =>
    rw [ris_split (k := k)] at h
    simp only [Bool.and_eq_true] at h
    exact h.1
theorem chN_len (L : List Ent) (j : Nat) : (chN L j).length = min 16 (L.length - 16 * j) := by unfold chN; rw [List.length_take, List.length_drop]
theorem chN_blk {L : List Ent} (h : tblB L = true) {j : Nat} (hj : j < cntL L) : blkB (chN L j) = true ∧ (chN L j).length ≤ 16 ∧ 1 ≤ (chN L j).length := by
  obtain ⟨h1, h2, h3, h4⟩ := tblB_iff.1 h
  have hl := chN_len L j
  unfold cntL at hj
  have ha : 1 ≤ (chN L j).length := by omega
  refine ⟨blkB_iff.2 ⟨ha, by omega, fun x hx => h3 x (List.mem_of_mem_drop (List.mem_of_mem_take hx)), ris_take (ris_drop h4 _) _⟩, by omega, ha⟩
theorem chK_blk {L : List Ent} (h : tblB L = true) {m : Nat} (hm : m ≤ cntL L) : ∀ one ∈ chK L m, blkB one = true := by
  intro one h1
  unfold chK at h1
  obtain ⟨j, hj, rfl⟩ := List.mem_map.1 h1
  exact (chN_blk h (by have := List.mem_range.1 hj; omega)).1
theorem cnt_le {L : List Ent} (h : tblB L = true) : 1 ≤ cntL L ∧ cntL L ≤ 512 := by
  obtain ⟨h1, h2, _⟩ := tblB_iff.1 h
  unfold cntL; omega
theorem lastE_of {one : List Ent} (h : 1 ≤ one.length) : one[one.length - 1]? = some (lastE one) := by
  unfold lastE
  rw [List.getElem?_eq_getElem (by omega)]; rfl
theorem lastE_right {one : List Ent} (h : blkB one = true) : rightB (lastE one).s (lastE one).q (lastE one).k = true := by
  obtain ⟨h1, _, h3, _⟩ := blkB_iff.1 h
  have := h3 _ (List.mem_of_getElem? (lastE_of h1))
  unfold entB entryB at this
  simp only [Bool.and_eq_true] at this
  exact this.1.1
theorem bkL_len {one : List Ent} (h : blkB one = true) : (bkL one).length ≤ 24008 ∧ 8 ≤ (bkL one).length := by
  have := blkL_len h
  unfold bkL
  rw [sealL_len]; omega
theorem frL_len : ∀ {P : List (List Ent)}, (∀ one ∈ P, blkB one = true) → (frL P).length ≤ 24008 * P.length ∧ 8 * P.length ≤ (frL P).length
  | [], _ => by simp [frL]
  | one :: P, h => by
    have a := frL_len (fun x hx => h x (List.mem_cons_of_mem _ hx))
    have b := bkL_len (h one List.mem_cons_self)
    rw [frL_cons, List.length_append, List.length_cons]; omega
theorem lineL_len {one : List Ent} (h : blkB one = true) (a z : Nat) : (lineL (lastE one) a z).length ≤ 110 := by
  have h1 := formL_len (lastE_right h)
  have h2 := shortL_len a
  have h3 := shortL_len z
  unfold lineL
  simp only [List.length_append]; omega
theorem linL_len : ∀ {P : List (List Ent)} (a : Nat), (∀ one ∈ P, blkB one = true) → (linL a P).length ≤ 110 * P.length
  | [], _, _ => by simp [linL]
  | one :: P, a, h => by
    have x := linL_len (a + (bkL one).length) (fun x hx => h x (List.mem_cons_of_mem _ hx))
    have y := lineL_len (h one List.mem_cons_self) a (bkL one).length
    simp only [linL, List.length_append, List.length_cons]; omega
theorem idxL_len {L : List Ent} (h : tblB L = true) : (idxL (chL L)).length ≤ 57000 := by
  have h1 := linL_len 0 (chK_blk h (Nat.le_refl _))
  have h2 := shortL_len (chL L).length
  have h3 := cnt_le h
  rw [chK_len] at h1
  unfold idxL
  rw [List.length_append]
  unfold chL at *
  omega
theorem tabL_len {L : List Ent} (h : tblB L = true) : (tabL L).length ≤ 12500000 := by
  have h1 := (frL_len (chK_blk h (Nat.le_refl _))).1
  have h2 := idxL_len h
  have h3 := cnt_le h
  rw [chK_len] at h1
  unfold tabL ftL
  simp only [List.length_append, sealL_len, fourL_len, List.length_cons, List.length_nil]
  unfold chL at *
  omega

/-! ## What bytes begin with -/
theorem takeL_back {l x y : List UInt8} (h : takeL l = some (x, y)) : sealL x ++ y = l ∧ x.length ≤ 1048576 := by
  unfold takeL at h
  split at h
  · rename_i hc
    obtain ⟨h4, hm, h8, hs⟩ := hc
    simp only [Option.some.injEq, Prod.mk.injEq] at h
    obtain ⟨rfl, rfl⟩ := h
    obtain ⟨N, hN⟩ : ∃ N, lenL l = N := ⟨_, rfl⟩
    rw [hN] at hm h8 hs ⊢
    have hx : ((l.drop 4).take N).length = N := by rw [List.length_take, List.length_drop]; omega
    have hh : headL ((l.drop 4).take N) = l.take (N + 4) := by
      unfold headL
      rw [hx]
      have h1 := (four_put h4).1
      have h2 : fourL N = l.take 4 := by
        have h3 := congrArg (List.take 4) h1
        rw [List.take_append_of_le_length (by rw [fourL_len]; exact Nat.le_refl _), List.take_of_length_le (by rw [fourL_len]; exact Nat.le_refl _)] at h3
        rw [← hN]; exact h3
      rw [h2, show N + 4 = 4 + N by omega, List.take_add]
    refine ⟨?_, by rw [hx]; exact hm⟩
    unfold sealL
    rw [hh, ← hs]
    have h5 : ((l.drop (N + 4)).take 4).length = 4 := by rw [List.length_take, List.length_drop]; omega
    have h6 : fourL (leV ((l.drop (N + 4)).take 4)) = (l.drop (N + 4)).take 4 := by
      have := leL_leV ((l.drop (N + 4)).take 4)
      rw [h5] at this
      exact this
    rw [h6, ← List.take_add, show N + 4 + 4 = N + 8 by omega, List.take_append_drop]
  · cases h
/-- The block whose frame bytes begin with, and how many bytes that has. -/
def bkAt (b : List UInt8) : Option (List Ent × Nat) := match takeL b with
  | none => none
  | some (x, _) => match parseB x with
    | none => none
    | some L => some (L, x.length + 8)
theorem bkAt_iff {b : List UInt8} {L : List Ent} {k : Nat} : bkAt b = some (L, k) ↔ blkB L = true ∧ k = (bkL L).length ∧ ∃ t, b = bkL L ++ t := by
  unfold bkAt bkL
  constructor
  · intro h
    cases ht : takeL b with
    | none => rw [ht] at h; cases h
    | some p =>
      obtain ⟨x, y⟩ := p
      rw [ht] at h
      simp only at h
      cases hi : parseB x with
      | none => rw [hi] at h; cases h
      | some r =>
        rw [hi] at h
        simp only [Option.some.injEq, Prod.mk.injEq] at h
        obtain ⟨rfl, rfl⟩ := h
        obtain ⟨h1, rfl⟩ := parse_iff.1 hi
        exact ⟨h1, (sealL_len _).symm, y, (takeL_back ht).1.symm⟩
  · rintro ⟨h, rfl, t, rfl⟩
    rw [takeL_seal (by have := blkL_len h; omega)]
    simp only
    rw [parse_iff.2 ⟨h, rfl⟩]
    simp only [sealL_len]
theorem bkAt_le {b : List UInt8} {L : List Ent} {k : Nat} (h : bkAt b = some (L, k)) : 8 ≤ k ∧ k ≤ b.length ∧ k ≤ 24008 := by
  obtain ⟨h1, rfl, t, rfl⟩ := bkAt_iff.1 h
  have := bkL_len h1
  exact ⟨this.2, by rw [List.length_append]; omega, this.1⟩
/-- What is behind the frame that bytes begin with is nothing to the block. -/
theorem bkAt_near {b : List UInt8} {N : Nat} (hN : 4 ≤ b.length → N = min (lenL b + 8) b.length) : bkAt (b.take N) = bkAt b := by
  have key : ∀ L k, bkAt (b.take N) = some (L, k) ↔ bkAt b = some (L, k) := by
    intro L k
    rw [bkAt_iff, bkAt_iff]
    constructor
    · rintro ⟨h1, h2, t, h3⟩
      refine ⟨h1, h2, t ++ b.drop N, ?_⟩
      rw [← List.append_assoc, ← h3, List.take_append_drop]
    · rintro ⟨h1, h2, t, h3⟩
      have h8 := bkL_len h1
      have hl : lenL b = (blkL L).length := by
        rw [h3]
        exact lenL_seal (by have := blkL_len h1; omega) t
      have hs : (bkL L).length = (blkL L).length + 8 := sealL_len _
      have hb : (bkL L).length ≤ b.length := by rw [h3, List.length_append]; omega
      have hn := hN (by omega)
      rw [Nat.min_eq_left (by omega)] at hn
      refine ⟨h1, h2, [], ?_⟩
      rw [List.append_nil, h3, show N = (bkL L).length by omega, List.take_left]
  cases h : bkAt b with
  | none =>
    cases h2 : bkAt (b.take N) with
    | none => rfl
    | some p => obtain ⟨L, k⟩ := p; rw [(key L k).1 h2] at h; cases h
  | some p => obtain ⟨L, k⟩ := p; rw [(key L k).2 h]
theorem bkAt_of {one : List Ent} (h : blkB one = true) (t : List UInt8) : bkAt (bkL one ++ t) = some (one, (bkL one).length) := bkAt_iff.2 ⟨h, rfl, t, rfl⟩
/-- No index is a block's. -/
theorem bkAt_index {P : List (List Ent)} (h0 : 1 ≤ P.length) (h1 : P.length ≤ 100000) (hl : (idxL P).length ≤ 1048576) (t : List UInt8) : bkAt (sealL (idxL P) ++ t) = none := by
  unfold bkAt
  rw [takeL_seal hl]
  simp only
  cases hp : parseB (idxL P) with
  | none => rfl
  | some M =>
    obtain ⟨hb, he⟩ := parse_iff.1 hp
    obtain ⟨b1, _⟩ := blkB_iff.1 hb
    have t1 : takeN (idxL P) = some (P.length, (shortL P.length).length) := takeN_short _ (by omega) _
    cases M with
    | nil => simp at b1
    | cons x r =>
      have t2 : takeN (blkL (x :: r)) = some (0, (shortL 0).length) := by
        have e : blkL (x :: r) = shortL 0 ++ ((textL (dropS x.s 0) ++ (shortL (2 * x.q + x.k) ++ (if x.k = 1 then textL x.v else []))) ++ (entsL 1 x.s r ++ (posL 0 0 noS (x :: r) ++ fourL ((posL 0 0 noS (x :: r)).length / 4)))) := by
          simp only [blkL, entsL, shB, entL, List.append_assoc, Nat.zero_mod, if_true, Nat.zero_add]
        rw [e]
        exact takeN_short 0 (by decide) _
      rw [he, t1] at t2
      simp only [Option.some.injEq, Prod.mk.injEq] at t2
      omega
/-- Blocks one behind the other, ahead of what is none, are a front of all that there are. -/
theorem fr_front : ∀ {P Q : List (List Ent)} {t t' : List UInt8}, (∀ one ∈ P, blkB one = true) → (∀ one ∈ Q, blkB one = true) → frL P ++ t = frL Q ++ t' → bkAt t' = none → ∃ R, Q = P ++ R ∧ t = frL R ++ t'
  | [], Q, t, t', _, _, e, _ => ⟨Q, rfl, by simpa [frL] using e⟩
  | p :: P, [], t, t', hP, _, e, hn => by
    have e1 : t' = bkL p ++ (frL P ++ t) := by rw [frL_cons, List.append_assoc] at e; simpa [frL] using e.symm
    rw [e1, bkAt_of (hP p List.mem_cons_self)] at hn
    cases hn
  | p :: P, q :: Q, t, t', hP, hQ, e, hn => by
    rw [frL_cons, frL_cons, List.append_assoc, List.append_assoc] at e
    have h1 := bkAt_of (hP p List.mem_cons_self) (frL P ++ t)
    rw [e, bkAt_of (hQ q List.mem_cons_self)] at h1
    simp only [Option.some.injEq, Prod.mk.injEq] at h1
    obtain ⟨rfl, _⟩ := h1
    obtain ⟨R, hR, ht⟩ := fr_front (fun x hx => hP x (List.mem_cons_of_mem _ hx)) (fun x hx => hQ x (List.mem_cons_of_mem _ hx)) (List.append_cancel_left e) hn
    exact ⟨R, by rw [hR]; rfl, ht⟩
/-- P are the blocks that are read of b, of u bytes. -/
structure IsRd (b : List UInt8) (P : List (List Ent)) (u : Nat) : Prop where
  all : ∀ one ∈ P, blkB one = true
  eq : b.take u = frL P
  le : u ≤ b.length
  stop : 8192 < P.flatten.length ∨ bkAt (b.drop u) = none
theorem tab_none {L : List Ent} (h : tblB L = true) : bkAt (sealL (idxL (chL L)) ++ ftL (frL (chL L)).length L.length) = none := by
  have h3 := cnt_le h
  refine bkAt_index ?_ ?_ (by have := idxL_len h; omega) _ <;> (unfold chL; rw [chK_len]; omega)
theorem rd_tab {b : List UInt8} {L : List Ent} {P : List (List Ent)} {u : Nat} (h : tblB L = true) (hb : tabL L = b) (hr : IsRd b P u) : P.flatten = L := by
  have e : frL P ++ b.drop u = frL (chL L) ++ (sealL (idxL (chL L)) ++ ftL (frL (chL L)).length L.length) := by
    rw [← hr.eq, List.take_append_drop, ← hb]; rfl
  obtain ⟨R, hR, ht⟩ := fr_front hr.all (chK_blk h (Nat.le_refl _)) e (tab_none h)
  have hf := chL_flat L
  unfold chL at hf
  rw [hR, List.flatten_append] at hf
  rcases hr.stop with h1 | h1
  · have := congrArg List.length hf
    rw [List.length_append] at this
    have := (tblB_iff.1 h).2.1
    omega
  · cases R with
    | nil => simpa using hf
    | cons r R =>
      have hrb : blkB r = true := chK_blk h (Nat.le_refl _) r (by rw [hR]; simp)
      rw [ht, frL_cons, List.append_assoc, bkAt_of hrb] at h1
      cases h1
theorem tab_rd {L : List Ent} (h : tblB L = true) : IsRd (tabL L) (chL L) (frL (chL L)).length := by
  refine ⟨chK_blk h (Nat.le_refl _), ?_, ?_, .inr ?_⟩
  · unfold tabL; rw [List.take_left]
  · unfold tabL; rw [List.length_append]; omega
  · unfold tabL; rw [List.drop_left]; exact tab_none h
theorem tab_inj {L M : List Ent} (h1 : tblB L = true) (h2 : tblB M = true) (h : tabL L = tabL M) : L = M := by
  have := rd_tab h2 h.symm (tab_rd h1)
  rw [chL_flat] at this
  exact this
/-- The table that bytes are. -/
noncomputable def parseT (b : List UInt8) : Option (List Ent) := by
  classical exact if h : ∃ L, tblB L = true ∧ tabL L = b then some h.choose else none
theorem parseT_iff {b : List UInt8} {L : List Ent} : parseT b = some L ↔ tblB L = true ∧ tabL L = b := by
  unfold parseT
  constructor
  · intro h
    split at h
    · rename_i hc
      cases h
      exact hc.choose_spec
    · cases h
  · rintro ⟨h1, h2⟩
    have hc : ∃ L, tblB L = true ∧ tabL L = b := ⟨L, h1, h2⟩
    rw [dif_pos hc, Option.some.injEq]
    exact tab_inj hc.choose_spec.1 h1 (by rw [hc.choose_spec.2, h2])
theorem parseT_none {b : List UInt8} (h : ∀ L, tblB L = true → tabL L ≠ b) : parseT b = none := by
  cases hp : parseT b with
  | none => rfl
  | some L => exact absurd (parseT_iff.1 hp).2 (h L (parseT_iff.1 hp).1)
theorem parseT_form {L : List Ent} (h : tblB L = true) : parseT (tabL L) = some L := parseT_iff.2 ⟨h, rfl⟩
def bltL (L : List Ent) : List UInt8 := if tblB L = true then tabL L else []
def bltE (L : List Ent) : Int := if tblB L = true then 0 else 80
noncomputable def prtL (b : List UInt8) : List Ent := (parseT b).getD []
noncomputable def prtE (b : List UInt8) : Int := if (parseT b).isSome = true then 0 else 80
end Go.Proofs.YtkdjjdkcogolmaaGreatDoor
end

section
/-
  Which entries are a table; the bytes that a frame tells; a line of the index; the footer: the contracts of right, near, line, footer.
-/
namespace Go.Proofs.YtkdjjdkcogolmaaGreatDoor
set_option maxRecDepth 100000
open Go.RowKit Go.Shelf
set_option linter.unusedVariables false

set_option maxRecDepth 100000 in
set_option maxHeartbeats 2000000 in
theorem tabRight_c {w : World} {B n c : Nat} {A : Option Addr} {L : List Ent} (h : RdE w B A n c L) (hB : B ≤ w.heap.size) (hn : (n : Int) ≤ 70368744000000) :
    Calls Tryz.prog 25 #[.slice A n c] w (RetVl w (.bool (tblB L))) := by
  have hl := h.len
  have HO := fun W (x : Ent) => entry_c W x.s x.q x.k x.v
  unfold en at HO
  have HO := Lib.hid HO
  have HR := Lib.hid fun W (hW : Below w.heap.size w W) => rising_c (h.below hW hB) (Nat.le_trans hB hW.size) hn
  by_cases h0 : n < 1
  · have d1 : decide ((n : Int) < 1) = true := by simp; omega
    have hno : tblB L = false := by unfold tblB; rw [hl]; simp; omega
    have HNO := Lib.hid hno
    clear hno h hl HR
    go_enter Tryz.func25, Tryz.ntmps25
    go_wp2_with fail
    go_ret
    exact RetVl.bool HNO.out.symm (Below.refl _ _)
  have d1 : decide ((n : Int) < 1) = false := by simp; omega
  by_cases h2 : 8192 < n
  · have d2 : decide (8192 < n) = true := by simpa using h2
    have d3 : decide ((8192 : Int) < (n : Int)) = true := by simp; omega
    have hno : tblB L = false := by unfold tblB; rw [hl]; simp; omega
    have HNO := Lib.hid hno
    clear hno h hl HR
    go_enter Tryz.func25, Tryz.ntmps25
    go_wp2_with fail
    go_ret
    exact RetVl.bool HNO.out.symm (Below.refl _ _)
  have d2 : decide (8192 < n) = false := by simpa using h2
  have d3 : decide ((8192 : Int) < (n : Int)) = false := by simp; omega
  have hg : tblB L = (L.all entB && risB L) := by
    unfold tblB
    rw [hl, show decide (1 ≤ n) = true by simp; omega, show decide (n ≤ 8192) = true by simp; omega]
    rfl
  have HG := Lib.hid hg
  clear hg
  go_enter Tryz.func25, Tryz.ntmps25
  go_wp2_with fail
  go_loopw [15] (fun iv wr => ∃ k : Nat, iv = .int .i64 (k : Int) ∧ k ≤ n ∧ (∀ i a, i < k → L[i]? = some a → entB a = true) ∧ Below w.heap.size w wr) (fun iv _ => ((n : Int) - intOf iv).toNat)
  case atStart => exact ⟨0, rfl, by omega, fun i a hi => by omega, Below.refl _ _⟩
  case round =>
    obtain ⟨k, rfl, hkn, hall, hbr⟩ := hrel
    by_cases hlt : k < n
    · obtain ⟨b, off, hA, hbB, hcell⟩ := h.form (by omega)
      subst hA
      obtain ⟨x, hx⟩ : ∃ x, L[k]? = some x := ⟨L[k]'(by omega), List.getElem?_eq_getElem _⟩
      have hk (i : Nat) : wr.cell? ⟨b, i, none⟩ = w.cell? ⟨b, i, none⟩ := hbr.cell (by simp; omega)
      obtain ⟨x0, x1, x2, x3⟩ := hcell k x hx
      rw [← hk] at x0 x1 x2 x3
      have hki : (k : Int) < (n : Int) := by omega
      have hk0 : (0 : Int) ≤ (k : Int) := by omega
      have HX := Lib.hid hx
      have HALL := Lib.hid hall
      have HO2 := Lib.hid (HO.out (wr.alloc (.cells #[.string x.s, .int .u64 (x.q : Int), .int .u8 (x.k : Int), .string x.v] 40)) x)
      have HBR := Lib.hid hbr
      clear hcell hk hx hkn hall h hl hbr HO HR
      go_wp2_with fail
      refine HO2.out.mono ?_
      rintro e w2 ⟨rfl, hb2⟩
      have hbr := HBR.out
      have hb3 : Below w.heap.size w w2 := bon (blit hbr (.cells #[.string x.s, .int .u64 (x.q : Int), .int .u8 (x.k : Int), .string x.v] 40)) hb2
      clear hb2 hbr HO2 x0 x1 x2 x3
      generalize hox : entryB x.s x.q x.k x.v = ox at *
      have HOX := Lib.hid hox
      clear hox
      cases ox with
      | true =>
        go_wp2_with fail
        go_roundw
        case rel =>
          refine ⟨k + 1, by simp, by omega, fun i a hi ha => ?_, hb3⟩
          rcases Nat.lt_or_ge i k with h3 | h3
          · exact HALL.out i a h3 ha
          · obtain rfl : i = k := by omega
            rw [HX.out] at ha
            cases ha
            exact HOX.out
        case measure => simp [intOf]; omega
      | false =>
        have hno : L.all entB = false := allE_no HX.out HOX.out
        have hno : tblB L = false := by rw [HG.out, hno]; rfl
        have HNO := Lib.hid hno
        clear hno
        go_wp2_with fail
        go_ret
        exact RetVl.bool HNO.out.symm hb3
    · have hki : ¬ (k : Int) < (n : Int) := by omega
      have hyes : L.all entB = true := allE_yes hl (fun i a hi ha => hall i a (by omega) ha)
      have hyes : tblB L = risB L := by rw [HG.out, hyes]; rfl
      have HY := Lib.hid hyes
      have HR2 := Lib.hid (HR.out wr hbr)
      clear hyes hall h hl HO HR
      go_wp2_with fail
      refine HR2.out.mono ?_
      rintro e w2 ⟨rfl, hb2⟩
      have hb3 := bon hbr hb2
      clear hb2 HR2
      go_wp2_with fail
      go_ret
      exact RetVl.bool HY.out.symm hb3

set_option maxRecDepth 100000 in
set_option maxHeartbeats 2000000 in
theorem tnear_c {w : World} {B n c : Nat} {A : Option Addr} {l : List UInt8} (h : Rd w B A n c (bv l)) (hB : B ≤ w.heap.size) (hn : n ≤ 1000000000) :
    Calls Tryz.prog 82 #[.slice A n c] w fun e w' => ∃ N, e = .returned (.slice A N c) ∧ N ≤ n ∧ (4 ≤ l.length → N = min (lenL l + 8) l.length) ∧ (l.length < 4 → N = n) ∧ Below w.heap.size w w' := by
  have hl : l.length = n := by simpa using h.len
  have hcap := h.cap
  have hni : (n : Int) ≤ 1000000000 := by omega
  obtain ⟨m, hm⟩ : ∃ m, min 4 n = m := ⟨_, rfl⟩
  have hmin : ∀ (W : World) (ts : Array TypeId) (ty : TypeId), (Builtin.min_ ts ty #[.int .i64 4, .int .i64 (n : Int)]).run Tryz.prog W = .ok (.int .i64 (m : Int)) W := fun W ts ty => by
    rw [Lib.run_min_ints]; congr 2; omega
  have hsl := fun W => run_slice_hi_gen (P := Tryz.prog) (n := n) (A := A) 24 5 Tryz.underlying24 info_u8 .i64 (k := m) (c := c) (by omega) W
  have hfr := h.front (k := m) (by omega)
  rw [bv_take] at hfr
  have hfl : (l.take m).length = m := by rw [List.length_take]; omega
  have hmi : (m : Int) ≤ 4 := by omega
  obtain ⟨v, ok, A1, n1, c1, hv, HT⟩ : ∃ (v : Nat) (x : Bool) (_ : Unit) (_ : Unit) (_ : Unit), (v ≤ 4294967295 ∧ (4 ≤ n → v = lenL l) ∧ (n < 4 → v = 0)) ∧ Calls Tryz.prog 108 #[.slice A m c] w (fun e w' => (∃ A1 n1 c1, e = .returned (.tuple #[.int .u32 (v : Int), .slice A1 n1 c1, .bool x])) ∧ Below w.heap.size w w') := by
    by_cases h4 : 4 ≤ n
    · have hm4 : m = 4 := by omega
      refine ⟨lenL l, true, (), (), (), ⟨lenL_lt l, fun _ => rfl, fun h => by omega⟩, (takeFour_c hfr hB (by omega) (by omega)).mono ?_⟩
      rintro e w1 ⟨A2, n2, c2, rfl, hf2, hb2⟩
      refine ⟨⟨A2, n2, c2, ?_⟩, hb2⟩
      unfold lenL
      rw [List.take_take, hm4]
      rfl
    · refine ⟨0, false, (), (), (), ⟨by omega, fun h => absurd h h4, fun _ => rfl⟩, (takeFour_no hfr (by omega)).mono ?_⟩
      rintro e w1 ⟨A2, n2, c2, rfl, hf2, hb2⟩
      exact ⟨⟨A2, n2, c2, rfl⟩, hb2⟩
  obtain ⟨N, hN⟩ : ∃ N, min (v + 8) n = N := ⟨_, rfl⟩
  have hvi : (v : Int) ≤ 4294967295 := by omega
  have w1 : IntKind.u64.wrap (v : Int) = (v : Int) := by rw [wrapu]; omega
  have w2 : IntKind.u64.wrap (8 + (v : Int)) = 8 + (v : Int) := by rw [wrapu]; omega
  have w4 : IntKind.u64.wrap (n : Int) = (n : Int) := by rw [wrapu]; omega
  have hmin2 : ∀ (W : World) (ts : Array TypeId) (ty : TypeId), (Builtin.min_ ts ty #[.int .u64 (8 + (v : Int)), .int .u64 (n : Int)]).run Tryz.prog W = .ok (.int .u64 (N : Int)) W := fun W ts ty => by
    rw [Lib.run_min_ints]; congr 2; omega
  have hsl2 := fun W => run_slice_hi_gen (P := Tryz.prog) (n := n) (A := A) 24 5 Tryz.underlying24 info_u8 .u64 (k := N) (c := c) (by omega) W
  have HF := Lib.hid (show N ≤ n ∧ (4 ≤ l.length → N = min (lenL l + 8) l.length) ∧ (l.length < 4 → N = n) from ⟨by omega, fun h4 => by rw [hl] at h4 ⊢; rw [← hv.2.1 h4]; omega, fun h4 => by have := hv.2.2 (by omega); omega⟩)
  have HT := Lib.hid HT
  clear hfr hfl h hN hv hl hm hcap
  go_enter Tryz.func82, Tryz.ntmps82
  go_wp2_with fail
  refine HT.out.mono ?_
  rintro e w1 ⟨⟨A1, n1, c1, rfl⟩, hb1⟩
  go_wp2_with fail
  go_ret
  exact ⟨N, rfl, HF.out.1, HF.out.2.1, HF.out.2.2, hb1⟩

set_option maxRecDepth 100000 in
set_option maxHeartbeats 2000000 in
theorem tline_c {w : World} {x : Ent} (hx : rightB x.s x.q x.k = true) {a z : Nat} (ha : a ≤ 1000000000) (hz : z ≤ 1000000000) :
    Calls Tryz.prog 49 #[ik x.s x.q x.k, .int .i64 (a : Int), .int .i64 (z : Int)] w (RetB w (lineL x a z)) := by
  have hp : putL [] x.s x.q x.k = formL x.s x.q x.k := by unfold putL; rw [if_pos hx, List.nil_append]
  have hfl := formL_len hx
  have hla := shortL_len a
  have w1 : IntKind.u64.wrap (a : Int) = (a : Int) := by rw [wrapu]; omega
  have w2 : IntKind.u64.wrap (z : Int) = (z : Int) := by rw [wrapu]; omega
  have HP := Lib.hid (fun W => put3_c (w := W) (B := 0) (l := []) Rd.nilv (Nat.zero_le _) (by decide) x.s x.q x.k)
  rw [hp] at HP
  unfold ik at HP ⊢
  have i0 := IkAt.new w x.s x.q x.k
  obtain ⟨a0, a1, a2⟩ := i0.cells
  have HL := Lib.hid (And.intro hfl hla)
  have HA := Lib.hid (And.intro ha hz)
  clear i0 hfl hla hx hp ha hz
  go_enter Tryz.func49, Tryz.ntmps49
  go_wp2_with fail
  refine (HP.out _).mono ?_
  rintro e w2 ⟨A2, n2, c2, rfl, hf2, hb2⟩
  have hb3 : Below w.heap.size w w2 := bon (below_alloc w _) hb2
  have hn2 : n2 ≤ 90 := by have := hf2.len; rw [bv_length] at this; have := HL.out; omega
  have HQ := Lib.hid ((put_c (hf2.rd (Nat.le_refl _)) (Nat.le_refl _) (by omega) (a : Int) (by omega) (by have := HA.out; omega)))
  rw [Int.toNat_natCast] at HQ
  clear hf2 hb2 a0 a1 a2
  go_wp2_with fail
  refine HQ.out.mono ?_
  rintro e w4 ⟨A4, n4, c4, rfl, hf4, hb4⟩
  have hb5 : Below w.heap.size w w4 := bon hb3 hb4
  have hn4 : n4 ≤ 100 := by have := hf4.len; rw [bv_length, List.length_append] at this; have := HL.out; omega
  have HR := Lib.hid ((put_c (hf4.rd (Nat.le_refl _)) (Nat.le_refl _) (by omega) (z : Int) (by omega) (by have := HA.out; omega)))
  rw [Int.toNat_natCast] at HR
  clear hf4 hb4 hb3 HQ
  go_wp2_with fail
  refine HR.out.mono ?_
  rintro e w6 ⟨A6, n6, c6, rfl, hf6, hb6⟩
  go_wp2_with fail
  go_ret
  refine ⟨A6, n6, c6, rfl, ?_, bon hb5 hb6⟩
  unfold lineL
  rw [← List.append_assoc]
  exact hf6.mono hb5.size

set_option maxRecDepth 100000 in
set_option maxHeartbeats 2000000 in
theorem footer_c {w : World} {a z : Nat} (ha : a ≤ 1000000000) (hz : z ≤ 1000000000) :
    Calls Tryz.prog 53 #[.int .i64 (a : Int), .int .i64 (z : Int)] w (RetB w (ftL a z)) := by
  have w1 : IntKind.u32.wrap (a : Int) = (a : Int) := wrap32 _ (by omega) (by omega)
  have w2 : IntKind.u32.wrap (z : Int) = (z : Int) := wrap32 _ (by omega) (by omega)
  have HP := Lib.hid (putFour_c (w := w) (B := 0) (l := []) Rd.nilv (Nat.zero_le _) (by decide) (a : Int) (by omega) (by omega))
  rw [List.nil_append, Int.toNat_natCast] at HP
  have HA := Lib.hid hz
  clear ha hz
  go_enter Tryz.func53, Tryz.ntmps53
  go_wp2_with fail
  refine HP.out.mono ?_
  rintro e w2 ⟨A2, n2, c2, rfl, hf2, hb2⟩
  obtain rfl : n2 = 4 := by have := hf2.len; rw [bv_length, fourL_len] at this; omega
  have HQ := Lib.hid ((putFour_c (hf2.rd (Nat.le_refl _)) (Nat.le_refl _) (by omega) (z : Int) (by omega) (by have := HA.out; omega)))
  rw [Int.toNat_natCast] at HQ
  clear hf2
  go_wp2_with fail
  refine HQ.out.mono ?_
  rintro e w4 ⟨A4, n4, c4, rfl, hf4, hb4⟩
  have hb5 : Below w.heap.size w w4 := bon hb2 hb4
  obtain rfl : n4 = 8 := by have := hf4.len; rw [bv_length, List.length_append, fourL_len, fourL_len] at this; omega
  have hf5 := hf4.mono (b' := w.heap.size) hb2.size
  have hbs := hb5.size
  clear hf4 hb4 hb2 HQ
  go_wp2_with (at_builtin; refine wpList_apps rfl (.tmp 10) (.const (.string ⟨#[82, 84, 76, 49]⟩)) _ _ rfl Tryz.underlying24 Tryz.underlying9 info_u8 rfl hf5 rfl (by decide) hbs ?_; intro A' c' w' hf hb hg)
  go_ret
  refine ⟨A', _, c', rfl, ?_, hb5.trans hb⟩
  unfold ftL
  rw [← bv_append, List.append_assoc] at hf
  exact hf
end Go.Proofs.YtkdjjdkcogolmaaGreatDoor
end
