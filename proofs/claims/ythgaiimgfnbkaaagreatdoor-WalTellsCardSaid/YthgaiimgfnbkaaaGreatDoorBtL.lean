/-
  Plain mathematics of groups of operations: their forms, and what bytes say.
-/
import Derived.Test.YthgaiimgfnbkaaaGreatDoorBt1
namespace Go.Proofs.YthgaiimgfnbkaaaGreatDoor
set_option maxRecDepth 100000

def formO (x : Bop) : List UInt8 := byteOf x.k :: (textL x.s ++ if x.k = 1 then textL x.v else [])
def formsO (L : List Bop) : List UInt8 := L.flatMap formO
def grpB (L : List Bop) (most : Nat) : Bool := decide (1 ≤ L.length) && decide (L.length ≤ most) && L.all opB
def groupL (L : List Bop) : List UInt8 := shortL L.length ++ formsO L

def takeR : List UInt8 → Option (Bop × List UInt8)
  | [] => none
  | c :: r => if 1 < c.toNat then none else match textTake r 64 with
    | none => none
    | some (s, r1) => if c.toNat = 1 then (match textTake r1 256 with
        | none => none
        | some (v, r2) => some (⟨1, ⟨s.toArray⟩, ⟨v.toArray⟩⟩, r2))
      else some (⟨0, ⟨s.toArray⟩, ⟨#[]⟩⟩, r1)
def takeO (l : List UInt8) : Option (Bop × List UInt8) := match takeR l with
  | none => none
  | some (x, r) => if opB x = true then some (x, r) else none
def readW (tk : List UInt8 → Option (Bop × List UInt8)) (l : List UInt8) : Nat → Option (List Bop × List UInt8)
  | 0 => some ([], l)
  | k + 1 => match readW tk l k with
    | none => none
    | some (L, r) => match tk r with
      | none => none
      | some (x, r') => some (L ++ [x], r')
def parseG (l : List UInt8) : Option (List Bop) := match takeN l with
  | none => none
  | some (n, m) => if n < 1 ∨ 128 < n then none else match readW takeO (l.drop m) n with
    | some (L, []) => some L
    | _ => none

theorem grpB_iff {L : List Bop} {most : Nat} : grpB L most = true ↔ 1 ≤ L.length ∧ L.length ≤ most ∧ ∀ x ∈ L, opB x = true := by
  unfold grpB; simp [and_assoc]
theorem formO_one {k : Nat} {s v : ByteArray} (h : k = 1) : formO ⟨k, s, v⟩ = byteOf 1 :: (textL s ++ textL v) := by subst h; rfl
theorem formO_zero {k : Nat} {s v : ByteArray} (h : k = 0) : formO ⟨k, s, v⟩ = byteOf 0 :: textL s := by subst h; simp [formO]
theorem bytes_eta {l : List UInt8} {s : ByteArray} (h : s.data.toList = l) : (⟨l.toArray⟩ : ByteArray) = s := by subst h; exact string_eta s
theorem size_zero {s : ByteArray} (h : s.size = 0) : s = ⟨#[]⟩ := by
  apply ByteArray.ext
  apply Array.eq_empty_of_size_eq_zero
  exact h

theorem takeO_form {x : Bop} (h : opB x = true) (r : List UInt8) : takeO (formO x ++ r) = some (x, r) := by
  obtain ⟨h1, h2, h3⟩ := (opB_iff x).1 h
  obtain ⟨k, s, v⟩ := x
  dsimp only at h1 h2 h3
  have hs : textTake (textL s ++ (textL v ++ r)) 64 = some (s.data.toList, textL v ++ r) := by rw [textTake_text s (by omega), if_pos (by omega)]
  have hs0 : textTake (textL s ++ r) 64 = some (s.data.toList, r) := by rw [textTake_text s (by omega), if_pos (by omega)]
  rcases h3 with ⟨rfl, h3⟩ | ⟨rfl, h3⟩
  · have hv : textTake (textL v ++ r) 256 = some (v.data.toList, r) := by rw [textTake_text v (by omega), if_pos (by omega)]
    have hR : takeR (formO ⟨1, s, v⟩ ++ r) = some (⟨1, s, v⟩, r) := by
      rw [formO_one rfl, List.cons_append, List.append_assoc]
      simp only [takeR, byteOf_toNat (show 1 < 256 by decide), hs, hv, string_eta]
      simp
    unfold takeO
    rw [hR]
    simp only [h, if_true]
  · obtain rfl := size_zero h3
    have hR : takeR (formO ⟨0, s, ⟨#[]⟩⟩ ++ r) = some (⟨0, s, ⟨#[]⟩⟩, r) := by
      rw [formO_zero rfl, List.cons_append]
      simp only [takeR, byteOf_toNat (show 0 < 256 by decide), hs0, string_eta]
      simp
    unfold takeO
    rw [hR]
    simp only [h, if_true]
theorem takeR_put {l r : List UInt8} {x : Bop} (h : takeR l = some (x, r)) : formO x ++ r = l := by
  cases l with
  | nil => cases h
  | cons c t =>
    simp only [takeR] at h
    split at h
    · cases h
    · rename_i hc
      split at h
      · cases h
      · rename_i s r1 hs
        have hs := (text_put hs).1
        split at h
        · rename_i h1
          split at h
          · cases h
          · rename_i v r2 hv
            have hv := (text_put hv).1
            simp only [Option.some.injEq, Prod.mk.injEq] at h
            obtain ⟨rfl, rfl⟩ := h
            rw [formO_one rfl, List.cons_append, List.append_assoc, hv, hs]
            congr 1
            apply UInt8.toNat_inj.1
            rw [byteOf_toNat (by decide)]; omega
        · rename_i h1
          simp only [Option.some.injEq, Prod.mk.injEq] at h
          obtain ⟨rfl, rfl⟩ := h
          rw [formO_zero rfl, List.cons_append, hs]
          congr 1
          apply UInt8.toNat_inj.1
          rw [byteOf_toNat (by decide)]; omega
theorem takeO_put {l r : List UInt8} {x : Bop} (h : takeO l = some (x, r)) : opB x = true ∧ formO x ++ r = l := by
  unfold takeO at h
  split at h
  · cases h
  · rename_i y r' hy
    split at h
    · simp only [Option.some.injEq, Prod.mk.injEq] at h
      obtain ⟨rfl, rfl⟩ := h
      exact ⟨‹_›, takeR_put hy⟩
    · cases h
theorem formO_pos (x : Bop) : 0 < (formO x).length := by simp [formO]
theorem formsO_cons (x : Bop) (L : List Bop) : formsO (x :: L) = formO x ++ formsO L := rfl
theorem formsO_app (K L : List Bop) : formsO (K ++ L) = formsO K ++ formsO L := by simp [formsO]
theorem formsO_one (x : Bop) : formsO [x] = formO x := by simp [formsO]

theorem readW_put {tk : List UInt8 → Option (Bop × List UInt8)} (htk : ∀ l x r, tk l = some (x, r) → formO x ++ r = l) {l : List UInt8} : ∀ {k : Nat} {L : List Bop} {r : List UInt8}, readW tk l k = some (L, r) → L.length = k ∧ formsO L ++ r = l
  | 0, L, r, h => by simp only [readW, Option.some.injEq, Prod.mk.injEq] at h; obtain ⟨rfl, rfl⟩ := h; exact ⟨rfl, rfl⟩
  | k + 1, L, r, h => by
    simp only [readW] at h
    split at h
    · cases h
    · rename_i K r1 hK
      split at h
      · cases h
      · rename_i x r2 hx
        simp only [Option.some.injEq, Prod.mk.injEq] at h
        obtain ⟨rfl, rfl⟩ := h
        obtain ⟨h1, h2⟩ := readW_put htk hK
        refine ⟨by simp [h1], ?_⟩
        rw [formsO_app, formsO_one, List.append_assoc, htk _ _ _ hx, h2]
theorem readW_split {l : List UInt8} : ∀ k, readW takeO l k = match readW takeR l k with
    | none => none
    | some (L, r) => if L.all opB = true then some (L, r) else none
  | 0 => by simp [readW]
  | k + 1 => by
    have ih := readW_split (l := l) k
    simp only [readW]
    cases hR : readW takeR l k with
    | none => rw [hR] at ih; simp only [] at ih; rw [ih]
    | some y =>
      obtain ⟨L, r⟩ := y
      rw [hR] at ih
      simp only [] at ih ⊢
      by_cases hL : L.all opB = true
      · rw [if_pos hL] at ih
        rw [ih]
        simp only [takeO]
        cases hr : takeR r with
        | none => rfl
        | some z =>
          obtain ⟨x, r'⟩ := z
          simp only []
          by_cases hx : opB x = true
          · rw [if_pos hx, if_pos (by rw [List.all_append, hL]; simp [hx])]
          · rw [if_neg hx, if_neg (by rw [List.all_append, hL]; simp [hx])]
      · rw [if_neg hL] at ih
        rw [ih]
        cases hr : takeR r with
        | none => rfl
        | some z =>
          obtain ⟨x, r'⟩ := z
          simp only []
          rw [if_neg (by rw [List.all_append]; simp [hL])]
theorem readW_none {tk : List UInt8 → Option (Bop × List UInt8)} {l : List UInt8} {k : Nat} (h : readW tk l k = none) : ∀ j, readW tk l (k + j) = none
  | 0 => h
  | j + 1 => by
    have := readW_none h j
    show readW tk l (k + j + 1) = none
    simp only [readW, this]
theorem readW_all {l : List UInt8} : ∀ {k : Nat} {L : List Bop} {r : List UInt8}, readW takeO l k = some (L, r) → ∀ x ∈ L, opB x = true := by
  intro k L r h
  rw [readW_split] at h
  cases hR : readW takeR l k with
  | none => rw [hR] at h; cases h
  | some y =>
    obtain ⟨K, r1⟩ := y
    rw [hR] at h
    simp only [] at h
    split at h
    · rename_i ha
      simp only [Option.some.injEq, Prod.mk.injEq] at h
      obtain ⟨rfl, rfl⟩ := h
      exact List.all_eq_true.1 ha
    · cases h
theorem readW_forms {L : List Bop} (h : ∀ x ∈ L, opB x = true) (r : List UInt8) : ∀ k, k ≤ L.length → readW takeO (formsO L ++ r) k = some (L.take k, formsO (L.drop k) ++ r)
  | 0, _ => by simp [readW]
  | k + 1, hk => by
    have ih := readW_forms h r k (by omega)
    have hd : L.drop k = L[k]'(by omega) :: L.drop (k + 1) := List.drop_eq_getElem_cons (by omega)
    simp only [readW, ih]
    rw [hd, formsO_cons, List.append_assoc, takeO_form (h _ (List.getElem_mem _))]
    simp only [Option.some.injEq, Prod.mk.injEq, and_true]
    rw [List.take_append_getElem]
theorem parseG_iff {l : List UInt8} {L : List Bop} : parseG l = some L ↔ grpB L 128 = true ∧ l = groupL L := by
  constructor
  · intro h
    unfold parseG at h
    split at h
    · cases h
    · rename_i n m hn
      split at h
      · cases h
      · rename_i hb
        split at h
        · rename_i K hr
          cases h
          obtain ⟨h1, h2⟩ := readW_put (fun _ _ _ h => (takeO_put h).2) hr
          refine ⟨grpB_iff.2 ⟨by omega, by omega, readW_all hr⟩, ?_⟩
          unfold groupL
          rw [List.append_nil] at h2
          rw [h2, h1, take_put hn]
        · cases h
  · rintro ⟨h, rfl⟩
    obtain ⟨h1, h2, h3⟩ := grpB_iff.1 h
    unfold parseG groupL
    rw [takeN_short L.length (by omega)]
    simp only []
    rw [if_neg (by omega), List.drop_left]
    have := readW_forms h3 [] L.length (Nat.le_refl _)
    rw [List.take_length, List.drop_length, List.append_nil] at this
    rw [this]
    simp [formsO]
theorem groupL_inj {K L : List Bop} (hK : grpB K 128 = true) (hL : grpB L 128 = true) (h : groupL K = groupL L) : K = L := by
  have h1 := parseG_iff.2 ⟨hK, rfl⟩
  have h2 := parseG_iff.2 ⟨hL, rfl⟩
  rw [h, h2] at h1
  cases h1; rfl
end Go.Proofs.YthgaiimgfnbkaaaGreatDoor
