/-
  Blocks as mathematics: the form of an entry, and of a block; what is read of bytes; a block has one form.
-/
import Derived.Test.YtkdjjdkcogolmaaGreatDoorIkE
import Derived.Test.YtkdjjdkcogolmaaGreatDoorBack
namespace Go.Proofs.YtkdjjdkcogolmaaGreatDoor
set_option maxRecDepth 100000
open Go.RowKit Go.Shelf
set_option linter.unusedVariables false

/-! ## Strings, cut -/
def dropS (s : ByteArray) (k : Nat) : ByteArray := ⟨(s.data.toList.drop k).toArray⟩
def takeS (s : ByteArray) (k : Nat) : ByteArray := ⟨(s.data.toList.take k).toArray⟩
def noS : ByteArray := ⟨#[]⟩
theorem size_toArray (l : List UInt8) : (⟨l.toArray⟩ : ByteArray).size = l.length := by rw [Lib.size_eq]
theorem dropS_size (s : ByteArray) (k : Nat) : (dropS s k).size = s.size - k := by unfold dropS; rw [size_toArray, List.length_drop, size_list]
theorem takeS_size (s : ByteArray) {k : Nat} (h : k ≤ s.size) : (takeS s k).size = k := by unfold takeS; rw [size_toArray, List.length_take, size_list]; omega
theorem ba_ext {s t : ByteArray} (h : s.data.toList = t.data.toList) : s = t := ByteArray.ext (Array.toList_inj.1 h)
theorem takeS_dropS (s : ByteArray) (k : Nat) : takeS s k ++ dropS s k = s := by
  apply ba_ext
  rw [ByteArray.data_append, Array.toList_append]
  simp [takeS, dropS]
theorem dropS_zero (s : ByteArray) : dropS s 0 = s := ba_ext (by simp [dropS])
theorem takeS_zero (s : ByteArray) : takeS s 0 = noS := ba_ext (by simp [takeS, noS])

def comL : List UInt8 → List UInt8 → Nat
  | x :: a, y :: b => if x = y then comL a b + 1 else 0
  | _, _ => 0
theorem comL_le : ∀ a b : List UInt8, comL a b ≤ a.length ∧ comL a b ≤ b.length
  | [], b => by simp [comL]
  | _ :: _, [] => by simp [comL]
  | x :: a, y :: b => by
    have := comL_le a b
    simp only [comL]
    split <;> simp <;> omega
theorem comL_take : ∀ a b : List UInt8, a.take (comL a b) = b.take (comL a b)
  | [], b => by simp [comL]
  | _ :: _, [] => by simp [comL]
  | x :: a, y :: b => by
    have := comL_take a b
    simp only [comL]
    split
    · next h => subst h; simpa using this
    · simp
/-- How many are the same at the front: told by the first place where they are not. -/
theorem comL_at : ∀ (a b : List UInt8) (k : Nat), (∀ i, i < k → i < a.length ∧ i < b.length ∧ a[i]? = b[i]?) → (k < a.length → k < b.length → a[k]? ≠ b[k]?) → comL a b = k
  | [], b, k, h, _ => by
    cases k with
    | zero => simp [comL]
    | succ k => have := (h 0 (by omega)).1; simp at this
  | x :: a, [], k, h, _ => by
    cases k with
    | zero => simp [comL]
    | succ k => have := (h 0 (by omega)).2.1; simp at this
  | x :: a, y :: b, k, h, h2 => by
    cases k with
    | zero =>
      have := h2 (by simp) (by simp)
      simp at this
      simp [comL, this]
    | succ k =>
      have h0 := (h 0 (by omega)).2.2
      simp at h0
      subst h0
      have ih := comL_at a b k (fun i hi => by have := h (i + 1) (by omega); simpa using this) (fun h3 h4 => by have := h2 (by simpa using h3) (by simpa using h4); simpa using this)
      simp [comL, ih]
def com (s t : ByteArray) : Nat := comL s.data.toList t.data.toList
theorem com_le (s t : ByteArray) : com s t ≤ s.size ∧ com s t ≤ t.size := by
  have := comL_le s.data.toList t.data.toList
  rw [size_list, size_list] at this
  exact this
theorem com_take (s t : ByteArray) : takeS s (com s t) = takeS t (com s t) := by unfold takeS com; rw [comL_take]

/-! ## Forms -/
def shB (i : Nat) (p s : ByteArray) : Nat := if i % 4 = 0 then 0 else com p s
def entL (n : Nat) (x : Ent) : List UInt8 := shortL n ++ (textL (dropS x.s n) ++ (shortL (2 * x.q + x.k) ++ (if x.k = 1 then textL x.v else [])))
def entsL : Nat → ByteArray → List Ent → List UInt8
  | _, _, [] => []
  | i, p, x :: r => entL (shB i p x.s) x ++ entsL (i + 1) x.s r
/-- The places of restarts: of entries from number i on, at place u, behind a key. -/
def posL : Nat → Nat → ByteArray → List Ent → List UInt8
  | _, _, _, [] => []
  | i, u, p, x :: r => (if i % 4 = 0 then fourL u else []) ++ posL (i + 1) (u + (entL (shB i p x.s) x).length) x.s r
def blkL (L : List Ent) : List UInt8 := entsL 0 noS L ++ (posL 0 0 noS L ++ fourL ((posL 0 0 noS L).length / 4))
def entB (x : Ent) : Bool := entryB x.s x.q x.k x.v
def blkB (L : List Ent) : Bool := decide (1 ≤ L.length) && (decide (L.length ≤ 64) && (L.all entB && risB L))
theorem blkB_iff {L : List Ent} : blkB L = true ↔ 1 ≤ L.length ∧ L.length ≤ 64 ∧ (∀ x ∈ L, entB x = true) ∧ risB L = true := by
  simp [blkB]
theorem entB_parts {x : Ent} (h : entB x = true) : 0 < x.s.size ∧ x.s.size ≤ 64 ∧ (x.q : Int) ≤ 72057594037927935 ∧ x.k ≤ 1 ∧ x.v.size ≤ 256 ∧ (x.k = 1 ∨ x.v = noS) := by
  unfold entB entryB rightB at h
  simp [-ByteArray.size_eq_zero_iff] at h
  obtain ⟨⟨⟨⟨⟨h1, h2⟩, h3⟩, h4⟩, h5⟩, h6⟩ := h
  refine ⟨h1, h2, by omega, h4, h5, ?_⟩
  rcases h6 with h6 | h6
  · right
    apply ba_ext
    have : x.v.data.toList = [] := List.eq_nil_of_length_eq_zero (by rw [size_list]; exact h6)
    rw [this]; rfl
  · left; omega
def lastK : ByteArray → List Ent → ByteArray
  | p, [] => p
  | _, x :: r => lastK x.s r
theorem entsL_snoc : ∀ (L : List Ent) (i : Nat) (p : ByteArray) (x : Ent), entsL i p (L ++ [x]) = entsL i p L ++ entL (shB (i + L.length) (lastK p L) x.s) x
  | [], i, p, x => by simp [entsL, lastK]
  | y :: L, i, p, x => by
    have := entsL_snoc L (i + 1) y.s x
    simp only [List.cons_append, entsL, lastK, List.length_cons, this, List.append_assoc]
    rw [show i + 1 + L.length = i + (L.length + 1) by omega]
theorem lastK_snoc : ∀ (L : List Ent) (p : ByteArray) (x : Ent), lastK p (L ++ [x]) = x.s
  | [], p, x => rfl
  | y :: L, p, x => lastK_snoc L y.s x
theorem posL_snoc : ∀ (L : List Ent) (i u : Nat) (p : ByteArray) (x : Ent), posL i u p (L ++ [x]) = posL i u p L ++ (if (i + L.length) % 4 = 0 then fourL (u + (entsL i p L).length) else [])
  | [], i, u, p, x => by simp [posL, entsL]
  | y :: L, i, u, p, x => by
    have := posL_snoc L (i + 1) (u + (entL (shB i p y.s) y).length) y.s x
    simp only [List.cons_append, posL, entsL, List.length_cons, this, List.append_assoc, List.length_append]
    rw [show i + 1 + L.length = i + (L.length + 1) by omega, show u + (entL (shB i p y.s) y).length + (entsL (i + 1) y.s L).length = u + ((entL (shB i p y.s) y).length + (entsL (i + 1) y.s L).length) by omega]
theorem textL_len' (s : ByteArray) : (textL s).length ≤ 10 + s.size := by rw [textL_len]; have := shortL_len s.size; omega
theorem entL_len {n : Nat} {x : Ent} (h : entB x = true) : (entL n x).length ≤ 360 := by
  obtain ⟨_, h1, _, _, h2, _⟩ := entB_parts h
  unfold entL
  have a1 := shortL_len n
  have a2 := textL_len' (dropS x.s n)
  rw [dropS_size] at a2
  have a3 := shortL_len (2 * x.q + x.k)
  have a4 := textL_len' x.v
  simp only [List.length_append]
  split <;> simp <;> omega
theorem entL_pos (n : Nat) (x : Ent) : 0 < (entL n x).length := by
  unfold entL
  have := shortL_pos n
  simp only [List.length_append]; omega
theorem entsL_len : ∀ (L : List Ent) (i : Nat) (p : ByteArray), (∀ x ∈ L, entB x = true) → (entsL i p L).length ≤ 360 * L.length
  | [], i, p, _ => by simp [entsL]
  | y :: L, i, p, h => by
    have a := entsL_len L (i + 1) y.s (fun x hx => h x (List.mem_cons_of_mem _ hx))
    have b := entL_len (n := shB i p y.s) (h y List.mem_cons_self)
    simp only [entsL, List.length_append, List.length_cons]; omega
/-- How many restarts there are. -/
theorem posL_len : ∀ (L : List Ent) (i u : Nat) (p : ByteArray), (posL i u p L).length = 4 * ((i + L.length + 3) / 4 - (i + 3) / 4)
  | [], i, u, p => by simp [posL]
  | y :: L, i, u, p => by
    have a := posL_len L (i + 1) (u + (entL (shB i p y.s) y).length) y.s
    simp only [posL, List.length_append, a, List.length_cons]
    split
    · rw [fourL_len]; omega
    · simp only [List.length_nil]; omega
theorem posL_len0 (L : List Ent) : (posL 0 0 noS L).length = 4 * ((L.length + 3) / 4) := by rw [posL_len]; omega
theorem blkL_eq (L : List Ent) : blkL L = entsL 0 noS L ++ (posL 0 0 noS L ++ fourL ((L.length + 3) / 4)) := by
  unfold blkL; rw [posL_len0]; congr 3; omega
theorem blkL_len {L : List Ent} (h : blkB L = true) : (blkL L).length ≤ 24000 := by
  obtain ⟨_, h1, h2, _⟩ := blkB_iff.1 h
  have := entsL_len L 0 noS h2
  rw [blkL_eq]
  simp only [List.length_append, posL_len0, fourL_len]; omega

/-! ## What is read -/
def numR (l : List UInt8) : Nat × List UInt8 := match takeN (l.take 10) with
  | some (x, m) => (x, l.drop m)
  | none => (0, l.drop 10)
def txtR (most : Nat) (l : List UInt8) : List UInt8 × List UInt8 := match textTake (l.take (10 + most)) (most : Int) with
  | some (s, r) => (s, l.drop ((l.take (10 + most)).length - r.length))
  | none => ([], l.drop (10 + most))
def entR (p : ByteArray) (l : List UInt8) : Ent × List UInt8 :=
  let a := numR l
  let t := txtR 64 a.2
  let x := numR t.2
  let v := txtR 256 x.2
  if x.1 % 2 = 1 then (⟨takeS p (min a.1 p.size) ++ ⟨t.1.toArray⟩, x.1 / 2, x.1 % 2, ⟨v.1.toArray⟩⟩, v.2)
  else (⟨takeS p (min a.1 p.size) ++ ⟨t.1.toArray⟩, x.1 / 2, x.1 % 2, noS⟩, x.2)
def readR : Nat → ByteArray → List UInt8 → List Ent
  | 0, _, _ => []
  | f + 1, p, l => if l = [] then [] else (entR p l).1 :: readR f (entR p l).1.s (entR p l).2
def aheadL (b : List UInt8) : List UInt8 :=
  if b.length < 4 then []
  else if b.length < 4 * (leV (b.drop (b.length - 4)) + 1) then []
  else b.take (b.length - 4 * (leV (b.drop (b.length - 4)) + 1))
def parseB (b : List UInt8) : Option (List Ent) :=
  if blkB (readR 64 noS (aheadL b)) = true ∧ blkL (readR 64 noS (aheadL b)) = b then some (readR 64 noS (aheadL b)) else none

theorem numR_short {x : Nat} (h : x < 2 ^ 64) (r : List UInt8) : numR (shortL x ++ r) = (x, r) := by
  unfold numR
  have hl := shortL_len x
  rw [List.take_append, List.take_of_length_le hl, takeN_short x h]
  simp
theorem txtR_text {s : ByteArray} {most : Nat} (h : s.size ≤ most) (hm : most ≤ 1000) (r : List UInt8) : txtR most (textL s ++ r) = (s.data.toList, r) := by
  unfold txtR
  have hl := textL_len' s
  rw [List.take_append, List.take_of_length_le (by omega), textTake_text s (by omega), if_pos (by omega)]
  simp only [List.length_append]
  rw [Nat.add_sub_cancel, List.drop_left]
theorem entR_form {x : Ent} (hx : entB x = true) {n : Nat} {p : ByteArray} (h1 : n ≤ p.size) (h2 : n ≤ x.s.size) (h3 : takeS p n = takeS x.s n) (r : List UInt8) : entR p (entL n x ++ r) = (x, r) := by
  obtain ⟨a1, a2, a3, a4, a5, a6⟩ := entB_parts hx
  unfold entR entL
  have e1 : numR ((shortL n ++ (textL (dropS x.s n) ++ (shortL (2 * x.q + x.k) ++ if x.k = 1 then textL x.v else []))) ++ r) = (n, textL (dropS x.s n) ++ (shortL (2 * x.q + x.k) ++ ((if x.k = 1 then textL x.v else []) ++ r))) := by
    simp only [List.append_assoc]
    exact numR_short (by omega) _
  have e2 := txtR_text (s := dropS x.s n) (most := 64) (by rw [dropS_size]; omega) (by omega) (shortL (2 * x.q + x.k) ++ ((if x.k = 1 then textL x.v else []) ++ r))
  have e3 := numR_short (x := 2 * x.q + x.k) (by omega) ((if x.k = 1 then textL x.v else []) ++ r)
  simp only [e1, e2, e3]
  rw [Nat.min_eq_left h1, string_eta, h3, takeS_dropS, show (2 * x.q + x.k) / 2 = x.q by omega, show (2 * x.q + x.k) % 2 = x.k by omega]
  rcases a6 with a6 | a6
  · have e4 := txtR_text (s := x.v) (most := 256) a5 (by omega) r
    rw [if_pos a6, if_pos a6, e4, string_eta]
  · by_cases hk : x.k = 1
    · have e4 := txtR_text (s := x.v) (most := 256) a5 (by omega) r
      rw [if_pos hk, if_pos hk, e4, string_eta]
    · rw [if_neg hk, if_neg hk, ← a6, List.nil_append]
theorem shB_ok (i : Nat) (p s : ByteArray) : shB i p s ≤ p.size ∧ shB i p s ≤ s.size ∧ takeS p (shB i p s) = takeS s (shB i p s) := by
  unfold shB
  split
  · exact ⟨Nat.zero_le _, Nat.zero_le _, by rw [takeS_zero, takeS_zero]⟩
  · exact ⟨(com_le p s).1, (com_le p s).2, com_take p s⟩
theorem readR_form : ∀ (L : List Ent) (f i : Nat) (p : ByteArray), (∀ x ∈ L, entB x = true) → L.length ≤ f → readR f p (entsL i p L) = L
  | [], f, i, p, _, _ => by cases f <;> simp [readR, entsL]
  | y :: L, 0, i, p, _, h => by simp at h
  | y :: L, f + 1, i, p, hL, h => by
    obtain ⟨b1, b2, b3⟩ := shB_ok i p y.s
    have e := entR_form (hL y List.mem_cons_self) b1 b2 b3 (entsL (i + 1) y.s L)
    have ih := readR_form L f (i + 1) y.s (fun x hx => hL x (List.mem_cons_of_mem _ hx)) (by simpa using h)
    have hne : entsL i p (y :: L) ≠ [] := by
      intro h0
      have := congrArg List.length h0
      have := entL_pos (shB i p y.s) y
      simp only [entsL, List.length_append, List.length_nil] at *; omega
    simp only [readR]
    rw [if_neg hne]
    simp only [entsL, e, ih]
theorem ahead_form {L : List Ent} (h : blkB L = true) : aheadL (blkL L) = entsL 0 noS L := by
  obtain ⟨h0, h1, h2, _⟩ := blkB_iff.1 h
  have hlen : (blkL L).length = (entsL 0 noS L).length + (4 * ((L.length + 3) / 4) + 4) := by
    rw [blkL_eq]; simp only [List.length_append, posL_len0, fourL_len]
  have hd : (blkL L).drop ((blkL L).length - 4) = fourL ((L.length + 3) / 4) := by
    rw [hlen, blkL_eq, ← List.append_assoc, List.drop_append_of_le_length (by simp only [List.length_append, posL_len0]; omega), List.drop_of_length_le (by simp only [List.length_append, posL_len0]; omega), List.nil_append]
  have hv : leV (fourL ((L.length + 3) / 4)) = (L.length + 3) / 4 := leV_leL 4 _ (by simp; omega)
  unfold aheadL
  rw [hd, hv, if_neg (by omega), if_neg (by omega), show (blkL L).length - 4 * ((L.length + 3) / 4 + 1) = (entsL 0 noS L).length by omega]
  unfold blkL
  rw [List.take_left]
theorem parse_form {L : List Ent} (h : blkB L = true) : parseB (blkL L) = some L := by
  obtain ⟨_, h1, h2, _⟩ := blkB_iff.1 h
  unfold parseB
  rw [ahead_form h, readR_form L 64 0 noS h2 h1, if_pos ⟨h, rfl⟩]
theorem parse_iff {b : List UInt8} {L : List Ent} : parseB b = some L ↔ blkB L = true ∧ blkL L = b := by
  constructor
  · intro h
    unfold parseB at h
    split at h
    · next hc => cases h; exact hc
    · cases h
  · rintro ⟨h, rfl⟩; exact parse_form h
theorem blk_inj {L M : List Ent} (h1 : blkB L = true) (h2 : blkB M = true) (h : blkL L = blkL M) : L = M := by
  have a := parse_form h1
  rw [h, parse_form h2] at a
  exact (Option.some.inj a).symm
def seekE (L : List Ent) (s : ByteArray) (q k : Nat) : Option Ent := L.find? fun x => decide (0 ≤ cmpV x.s x.q x.k s q k)
end Go.Proofs.YtkdjjdkcogolmaaGreatDoor
