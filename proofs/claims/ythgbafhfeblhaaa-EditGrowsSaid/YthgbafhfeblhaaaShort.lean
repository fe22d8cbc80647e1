/-
  Plain mathematics of short forms: numbers as bytes, seven bits a byte. No program is named here.
-/
namespace Go.Proofs.Ythgbafhfeblhaaa
set_option maxRecDepth 100000

def byteOf (n : Nat) : UInt8 := UInt8.ofNat n
theorem byteOf_toNat {n : Nat} (h : n < 256) : (byteOf n).toNat = n := by simp [byteOf, UInt8.toNat_ofNat']; omega

/-- The short form, with fuel. -/
def shortF : Nat → Nat → List UInt8
  | 0, x => [byteOf (x % 128)]
  | f + 1, x => if x < 128 then [byteOf x] else byteOf (x % 128 + 128) :: shortF f (x / 128)
/-- The short form of a number below 2^64. -/
def shortL (x : Nat) : List UInt8 := shortF 9 x

/-- What bytes say, seven bits each, the lowest first. -/
def valL : List UInt8 → Nat
  | [] => 0
  | c :: l => c.toNat % 128 + 128 * valL l

theorem shortF_pos (f x : Nat) : 0 < (shortF f x).length := by
  cases f <;> simp only [shortF] <;> (try split) <;> simp
theorem shortF_len (f x : Nat) : (shortF f x).length ≤ f + 1 := by
  induction f generalizing x with
  | zero => simp [shortF]
  | succ f ih =>
    simp only [shortF]
    split
    · simp
    · have := ih (x / 128); simp; omega
theorem shortL_len (x : Nat) : (shortL x).length ≤ 10 := shortF_len 9 x
theorem shortL_pos (x : Nat) : 0 < (shortL x).length := shortF_pos 9 x

theorem valL_shortF (f x : Nat) (h : x < 128 ^ (f + 1)) : valL (shortF f x) = x := by
  induction f generalizing x with
  | zero => simp at h; simp [shortF, valL, byteOf_toNat (show x % 128 < 256 by omega)]; omega
  | succ f ih =>
    simp only [shortF]
    split
    · rename_i hx
      simp [valL, byteOf_toNat (show x < 256 by omega)]; omega
    · rename_i hx
      have hq : x / 128 < 128 ^ (f + 1) := by
        rw [Nat.div_lt_iff_lt_mul (by omega)]; rw [Nat.pow_succ] at h; exact h
      simp only [valL, ih _ hq, byteOf_toNat (show x % 128 + 128 < 256 by omega)]
      omega
theorem valL_shortL (x : Nat) (h : x < 2 ^ 64) : valL (shortL x) = x := valL_shortF 9 x (by omega)

/-- All bytes but the last are at least 128, the last one is less; and it is no 0 behind others. -/
def Formed : List UInt8 → Prop
  | [] => False
  | [c] => c.toNat < 128
  | c :: d :: l => 128 ≤ c.toNat ∧ Formed (d :: l) ∧ (l = [] → d.toNat ≠ 0)

theorem formed_shortF (f x : Nat) (h : x < 128 ^ (f + 1)) : Formed (shortF f x) ∧ (x ≠ 0 → ∀ c, (shortF f x) = [c] → c.toNat ≠ 0) := by
  induction f generalizing x with
  | zero =>
    simp at h
    simp only [shortF, Formed, byteOf_toNat (show x % 128 < 256 by omega)]
    refine ⟨by omega, fun h0 c hc => ?_⟩
    cases hc
    rw [byteOf_toNat (by omega)]; omega
  | succ f ih =>
    simp only [shortF]
    split
    · rename_i hx
      simp only [Formed, byteOf_toNat (show x < 256 by omega)]
      refine ⟨hx, fun h0 c hc => ?_⟩
      cases hc
      rw [byteOf_toNat (by omega)]; exact h0
    · rename_i hx
      have hq : x / 128 < 128 ^ (f + 1) := by
        rw [Nat.div_lt_iff_lt_mul (by omega)]; rw [Nat.pow_succ] at h; exact h
      obtain ⟨h1, h2⟩ := ih _ hq
      have hl := shortF_pos f (x / 128)
      generalize shortF f (x / 128) = t at *
      match t, hl with
      | d :: l, _ =>
        refine ⟨⟨by rw [byteOf_toNat (by omega)]; omega, h1, fun e => ?_⟩, fun _ c hc => by simp at hc⟩
        subst e
        exact h2 (by omega) d rfl
theorem formed_shortL (x : Nat) (h : x < 2 ^ 64) : Formed (shortL x) := (formed_shortF 9 x (by omega)).1

/-- A form is known by what it says. -/
theorem formed_eq (f : Nat) : ∀ (l : List UInt8), Formed l → l.length ≤ f + 1 → l = shortF f (valL l) := by
  induction f with
  | zero =>
    intro l hl hf
    match l, hl with
    | [c], h =>
      have h : c.toNat < 128 := h
      simp only [shortF, valL]
      congr 1
      apply UInt8.toNat_inj.1
      rw [byteOf_toNat (by omega)]; omega
    | c :: d :: l, h => simp at hf
  | succ f ih =>
    intro l hl hf
    match l, hl with
    | [c], h =>
      have h : c.toNat < 128 := h
      rw [show valL [c] = c.toNat by simp only [valL]; omega]
      simp only [shortF]
      rw [if_pos h]
      congr 1
      apply UInt8.toNat_inj.1
      rw [byteOf_toNat (by omega)]
    | c :: d :: l, h =>
      obtain ⟨h1, h2, h3⟩ := h
      have e := ih (d :: l) h2 (by simp at hf ⊢; omega)
      have hc : c.toNat < 256 := c.toNat_lt
      have hpos : 0 < valL (d :: l) := by
        have key : ∀ (l : List UInt8) (d : UInt8), Formed (d :: l) → (l = [] → d.toNat ≠ 0) → 0 < valL (d :: l) := by
          intro l
          induction l with
          | nil => intro d h h0; have h : d.toNat < 128 := h; have := h0 rfl; simp only [valL]; omega
          | cons e l ih => intro d h _; have := ih e h.2.1 h.2.2; simp only [valL] at this ⊢; omega
        exact key l d h2 h3
      have hv : valL (c :: d :: l) = c.toNat % 128 + 128 * valL (d :: l) := rfl
      rw [hv]
      generalize valL (d :: l) = v at *
      simp only [shortF]
      rw [if_neg (by omega)]
      rw [show (c.toNat % 128 + 128 * v) / 128 = v by omega, ← e]
      congr 1
      apply UInt8.toNat_inj.1
      rw [byteOf_toNat (by omega)]; omega

/-- The number that bytes begin with, and how many bytes it has. -/
def tk : Nat → Nat → Nat → List UInt8 → Option (Nat × Nat)
  | 0, _, _, _ => none
  | _ + 1, _, _, [] => none
  | f + 1, i, acc, c :: l =>
    if 2 ^ 64 ≤ acc + c.toNat % 128 * 128 ^ i then none
    else if c.toNat = 0 ∧ 0 < i then none
    else if c.toNat < 128 then some (acc + c.toNat % 128 * 128 ^ i, i + 1)
    else tk f (i + 1) (acc + c.toNat % 128 * 128 ^ i) l
def takeN (l : List UInt8) : Option (Nat × Nat) := tk 10 0 0 l

theorem tk_iff : ∀ (f i acc : Nat) (l : List UInt8) (v n : Nat), tk f i acc l = some (v, n) ↔
    ∃ p, Formed p ∧ p <+: l ∧ p.length ≤ f ∧ n = i + p.length ∧ v = acc + valL p * 128 ^ i ∧ v < 2 ^ 64 ∧ (0 < i → p.length = 1 → p ≠ [0]) := by
  intro f
  induction f with
  | zero =>
    intro i acc l v n
    simp only [tk]
    refine ⟨fun h => (by cases h), ?_⟩
    rintro ⟨p, hp, _, hl, _⟩
    match p, hp with
    | [c], _ => simp at hl
    | c :: d :: l, _ => simp at hl
  | succ f ih =>
    intro i acc l v n
    cases l with
    | nil =>
      simp only [tk]
      refine ⟨fun h => (by cases h), ?_⟩
      rintro ⟨p, hp, hpre, _⟩
      have := List.prefix_nil.1 hpre
      subst this
      exact hp.elim
    | cons c l =>
      have hc : c.toNat < 256 := c.toNat_lt
      have hz : c.toNat = 0 → c = 0 := fun h => UInt8.toNat_inj.1 (by simpa using h)
      simp only [tk]
      -- what any form that the bytes begin with must look like
      have shape : ∀ p, Formed p → p <+: c :: l → (p = [c] ∧ c.toNat < 128) ∨ (∃ q, p = c :: q ∧ 128 ≤ c.toNat ∧ Formed q ∧ q <+: l ∧ (q.length = 1 → q ≠ [0])) := by
        intro p hp hpre
        match p, hp with
        | [d], h =>
          obtain ⟨t, ht⟩ := hpre
          simp at ht
          obtain ⟨rfl, _⟩ := ht
          exact .inl ⟨rfl, h⟩
        | d :: e :: q, h =>
          obtain ⟨t, ht⟩ := hpre
          simp at ht
          obtain ⟨rfl, ht⟩ := ht
          refine .inr ⟨e :: q, rfl, h.1, h.2.1, ⟨t, by simpa using ht⟩, fun h1 h2 => ?_⟩
          simp at h2
          obtain ⟨rfl, rfl⟩ := h2
          exact h.2.2 rfl (by simp)
      by_cases h1 : 2 ^ 64 ≤ acc + c.toNat % 128 * 128 ^ i
      · rw [if_pos h1]
        refine ⟨fun h => (by cases h), ?_⟩
        rintro ⟨p, hp, hpre, hl, hn, hv, hlt, hnz⟩
        rcases shape p hp hpre with ⟨rfl, hc'⟩ | ⟨q, rfl, _⟩
        · simp only [valL] at hv; rw [hv] at hlt; simp only [Nat.mul_zero, Nat.add_zero] at hlt; omega
        · simp only [valL] at hv
          rw [hv, Nat.add_mul] at hlt
          have := Nat.zero_le (128 * valL q * 128 ^ i)
          omega
      · rw [if_neg h1]
        by_cases h2 : c.toNat = 0 ∧ 0 < i
        · rw [if_pos h2]
          refine ⟨fun h => (by cases h), ?_⟩
          rintro ⟨p, hp, hpre, hl, hn, hv, hlt, hnz⟩
          rcases shape p hp hpre with ⟨rfl, hc'⟩ | ⟨q, rfl, hq, _⟩
          · exact (hnz h2.2 rfl (by rw [hz h2.1])).elim
          · omega
        · rw [if_neg h2]
          by_cases h3 : c.toNat < 128
          · rw [if_pos h3]
            constructor
            · intro h
              simp only [Option.some.injEq, Prod.mk.injEq] at h
              obtain ⟨rfl, rfl⟩ := h
              refine ⟨[c], h3, ⟨l, rfl⟩, by simp, rfl, by simp [valL], by omega, fun hi _ e => ?_⟩
              simp at e
              subst e
              exact h2 ⟨rfl, hi⟩
            · rintro ⟨p, hp, hpre, hl, hn, hv, hlt, hnz⟩
              rcases shape p hp hpre with ⟨rfl, hc'⟩ | ⟨q, rfl, hq, _⟩
              · simp [valL] at hv hn; rw [hv, hn]
              · omega
          · rw [if_neg h3, ih]
            constructor
            · rintro ⟨q, hq, hpre, hl, hn, hv, hlt, hnz⟩
              refine ⟨c :: q, ?_, ?_, by simp; omega, by simp; omega, ?_, hlt, fun _ h => ?_⟩
              · match q, hq with
                | [d], h => exact ⟨by omega, h, fun _ h0 => hnz (by omega) rfl (by rw [show d = 0 from UInt8.toNat_inj.1 (by simpa using h0)])⟩
                | d :: e :: q, h => exact ⟨by omega, h, fun h0 => by simp at h0⟩
              · obtain ⟨t, rfl⟩ := hpre; exact ⟨t, rfl⟩
              · rw [hv]; simp only [valL]
                rw [Nat.add_mul, Nat.pow_succ, Nat.add_assoc]
                congr 2
                ac_rfl
              · have : q.length = 0 := by simpa using h
                have : q = [] := List.eq_nil_of_length_eq_zero this
                subst this
                exact hq.elim
            · rintro ⟨p, hp, hpre, hl, hn, hv, hlt, hnz⟩
              rcases shape p hp hpre with ⟨rfl, hc'⟩ | ⟨q, rfl, hq, hf, hqp, hq0⟩
              · omega
              · refine ⟨q, hf, hqp, by simpa using hl, by simp at hn; omega, ?_, hlt, fun _ => hq0⟩
                rw [hv]; simp only [valL]
                rw [Nat.add_mul, Nat.pow_succ, Nat.add_assoc]
                congr 2
                ac_rfl

/-- Just the short forms are taken. -/
theorem takeN_iff (l : List UInt8) (v n : Nat) : takeN l = some (v, n) ↔ v < 2 ^ 64 ∧ n = (shortL v).length ∧ shortL v <+: l := by
  unfold takeN
  rw [tk_iff]
  constructor
  · rintro ⟨p, hp, hpre, hl, hn, hv, hlt, _⟩
    have e := formed_eq 9 p hp hl
    have hv' : v = valL p := by simpa using hv
    have e' : p = shortL v := by rw [hv']; exact e
    exact ⟨hlt, by rw [← e']; omega, by rw [← e']; exact hpre⟩
  · rintro ⟨hlt, rfl, hpre⟩
    exact ⟨shortL v, formed_shortL v hlt, hpre, shortL_len v, by simp, by simp [valL_shortL v hlt], hlt, fun h => by omega⟩

theorem takeN_short (x : Nat) (h : x < 2 ^ 64) (r : List UInt8) : takeN (shortL x ++ r) = some (x, (shortL x).length) :=
  (takeN_iff _ _ _).2 ⟨h, rfl, ⟨r, rfl⟩⟩
theorem takeN_le {l : List UInt8} {v n : Nat} (h : takeN l = some (v, n)) : n ≤ l.length ∧ 0 < n ∧ n ≤ 10 ∧ v < 2 ^ 64 ∧ l.take n = shortL v := by
  obtain ⟨h1, rfl, h3⟩ := (takeN_iff _ _ _).1 h
  exact ⟨h3.length_le, shortL_pos v, shortL_len v, h1, (List.prefix_iff_eq_take.1 h3).symm⟩
end Go.Proofs.Ythgbafhfeblhaaa
