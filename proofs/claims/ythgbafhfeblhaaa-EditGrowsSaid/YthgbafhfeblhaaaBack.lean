/-
  The texts Short3, Texts, Back, in one.
-/
import Derived.Test.YthgbafhfeblhaaaRefs3
section
/-
  Plain mathematics of short forms, more: lengths; no form begins with another one; cut short it says nothing.
-/
namespace Go.Proofs.Ythgbafhfeblhaaa
set_option maxRecDepth 100000

theorem shortF_mono : ∀ (f x y : Nat), x ≤ y → (shortF f x).length ≤ (shortF f y).length := by
  intro f
  induction f with
  | zero => intro x y _; simp [shortF]
  | succ f ih =>
    intro x y h
    simp only [shortF]
    by_cases h1 : x < 128
    · rw [if_pos h1]
      split
      · simp
      · simp
    · rw [if_neg h1, if_neg (by omega)]
      have := ih (x / 128) (y / 128) (Nat.div_le_div_right h)
      simpa using this
theorem shortL_mono {x y : Nat} (h : x ≤ y) : (shortL x).length ≤ (shortL y).length := shortF_mono 9 x y h

theorem shortL_apart {x y : Nat} (hx : x < 2 ^ 64) (hy : y < 2 ^ 64) (h : x ≠ y) : (shortL y).take (shortL x).length ≠ shortL x := by
  intro e
  have h1 : takeN (shortL y) = some (x, (shortL x).length) := (takeN_iff _ _ _).2 ⟨hx, rfl, by rw [← e]; exact List.take_prefix _ _⟩
  have h2 : takeN (shortL y) = some (y, (shortL y).length) := (takeN_iff _ _ _).2 ⟨hy, rfl, List.prefix_refl _⟩
  rw [h1] at h2
  simp at h2
  exact h h2.1

theorem shortL_cut {x i : Nat} (hx : x < 2 ^ 64) (hi : i < (shortL x).length) : takeN ((shortL x).take i) = none := by
  refine takeN_none_of_all (k := i) (fun j c hj hc => ?_) (.inl (by simp; omega))
  rw [List.getElem?_take_of_lt hj] at hc
  exact (formed_shortL x hx).high j c hc (by omega)

theorem shortL_at {x i : Nat} (hx : x < 2 ^ 64) {c : UInt8} (hc : (shortL x)[i]? = some c) : (127 < c.toNat ↔ i < (shortL x).length - 1) := by
  have hi : i < (shortL x).length := by
    rcases Nat.lt_or_ge i (shortL x).length with h | h
    · exact h
    · rw [List.getElem?_eq_none h] at hc; cases hc
  rcases Nat.lt_or_ge (i + 1) (shortL x).length with h | h
  · have := (formed_shortL x hx).high i c hc h
    omega
  · have h1 : i = (shortL x).length - 1 := by omega
    have := (formed_shortL x hx).low c (by rw [← h1]; exact hc)
    omega

/-- How many bytes are still to come. -/
def moreL (f z : Nat) : Nat := if z = 0 then 0 else (shortF f z).length
theorem moreL_start (x : Nat) : 1 + moreL 8 (x / 128) = (shortL x).length := by
  unfold moreL shortL
  simp only [shortF]
  by_cases h : x < 128
  · rw [if_pos h, if_pos (by omega)]; simp
  · rw [if_neg h, if_neg (by omega)]; simp; omega
theorem moreL_step {f z : Nat} (hz : z ≠ 0) (hlt : z < 128 ^ (f + 1)) : moreL f z = 1 + moreL (f - 1) (z / 128) ∧ z / 128 < 128 ^ (f - 1 + 1) := by
  unfold moreL
  rw [if_neg hz]
  cases f with
  | zero =>
    simp at hlt
    simp only [shortF]
    rw [if_pos (by omega)]
    refine ⟨rfl, ?_⟩
    simp; omega
  | succ f =>
    have hq : z / 128 < 128 ^ (f + 1) := by
      rw [Nat.div_lt_iff_lt_mul (by omega)]; rw [Nat.pow_succ] at hlt; exact hlt
    refine ⟨?_, hq⟩
    simp only [shortF, Nat.add_sub_cancel]
    by_cases h : z < 128
    · rw [if_pos h, if_pos (by omega)]; simp
    · rw [if_neg h, if_neg (by omega)]; simp; omega
end Go.Proofs.Ythgbafhfeblhaaa
end

section
/-
  Plain mathematics of the forms of texts.
-/
namespace Go.Proofs.Ythgbafhfeblhaaa
set_option maxRecDepth 100000

theorem size_list (s : ByteArray) : s.data.toList.length = s.size := by rw [Array.length_toList]; rfl
theorem string_eta (s : ByteArray) : (⟨s.data.toList.toArray⟩ : ByteArray) = s := by simp

theorem takeN_prefix {l p : List UInt8} {v m : Nat} (h : takeN p = some (v, m)) (hp : p <+: l) : takeN l = some (v, m) := by
  obtain ⟨h1, h2, h3⟩ := (takeN_iff _ _ _).1 h
  exact (takeN_iff _ _ _).2 ⟨h1, h2, h3.trans hp⟩

theorem takeN_text (s : ByteArray) (h : s.size < 2 ^ 64) (r : List UInt8) : takeN (textL s ++ r) = some (s.size, (shortL s.size).length) := by
  unfold textL
  rw [List.append_assoc]
  exact takeN_short s.size h _

theorem textTake_text (s : ByteArray) (h : s.size < 2 ^ 64) (r : List UInt8) (most : Int) : textTake (textL s ++ r) most = if (s.size : Int) ≤ most then some (s.data.toList, r) else none := by
  unfold textTake
  rw [takeN_text s h]
  have hd : (textL s ++ r).drop (shortL s.size).length = s.data.toList ++ r := by
    unfold textL
    rw [List.append_assoc, List.drop_left]
  simp only [hd]
  have hl := size_list s
  by_cases hm : (s.size : Int) ≤ most
  · rw [if_pos hm, if_pos ⟨by omega, hm, by rw [List.length_append]; omega⟩]
    rw [← hl, List.take_left, List.drop_left]
  · rw [if_neg hm, if_neg (fun h => hm h.2.1)]

theorem textTake_cut (s : ByteArray) (h : s.size < 2 ^ 64) {k : Nat} (hk : k < (textL s).length) (most : Int) : textTake ((textL s).take k) most = none := by
  unfold textTake
  cases hv : takeN ((textL s).take k) with
  | none => rfl
  | some x =>
    obtain ⟨v, m⟩ := x
    have h1 := takeN_prefix hv (List.take_prefix k (textL s))
    have h2 := takeN_text s h []
    rw [List.append_nil, h1] at h2
    simp at h2
    obtain ⟨rfl, rfl⟩ := h2
    have hl : (textL s).length = (shortL s.size).length + s.size := by unfold textL; rw [List.length_append, size_list]
    have hle := (takeN_le hv).1
    simp only []
    rw [if_neg]
    rintro ⟨_, _, h3⟩
    simp at h3 hle
    omega
theorem textL_len (s : ByteArray) : (textL s).length = (shortL s.size).length + s.size := by unfold textL; rw [List.length_append, size_list]
end Go.Proofs.Ythgbafhfeblhaaa
end

section
/-
  Words and plain mathematics for NumsBack: an append behind a guard that holds; four bytes, there and back.
-/
namespace Go.Proofs.Ythgbafhfeblhaaa
set_option maxRecDepth 100000
open Go.RowKit

theorem wpList_app_g {P : Program} {ops : Array Oper} {rest : List Oper} {o : Oper} {a : Act} {Q : Exit → Act → World → Prop} {w : World} (hgd : Region.wanted o (yielded ops a.tmps) = true) (s x : Operand) (t : TypeId)
    (ho : o.op = .call { callee := .builtin .append, args := #[s, x], argTypes := #[t, t] })
    {b : Nat} {e : TypeId} {z : Value} {by_ : Nat} (ht : P.underlying t = some (.slice e)) (hinf : (P.info? e).map (fun i => (i.zero, i.size, i.bytes)) = some (some z, 1, by_)) (hz : z.cells.size = 1)
    {A : Option Addr} {n c : Nat} {xs : List Value} (hs : a.eval s = .slice A n c) (h : Fr w b e A n c xs)
    {B m c2 : Nat} {A2 : Option Addr} {news : List Value} (hx : a.eval x = .slice A2 m c2) (hr : Rd w B A2 m c2 news) (h1 : ∀ u ∈ news, u.oneCell' = true)
    (hby : (n + m) * by_ ≤ 140737488355328) (h63 : n + m ≤ 140737488355328) (hb : b ≤ w.heap.size)
    (hk : ∀ A' c' w', App w w' b e (.slice A n c) A' (n + m) c' (xs ++ news) → wpList P ops Q rest (a.put o.dst (.slice A' (n + m) c')) w') : wpList P ops Q (o :: rest) a w :=
  wpList_step fun K hK => by
    rw [if_pos hgd]
    obtain ⟨A', c', w', hrun, h2⟩ := run_app (P := P) w t o.type e ht hinf hz h hr h1 hby h63 hb
    unfold Oper.wp execOp
    simp only [ho, resolve, invoke, builtin, Sem.run_bind, Sem.run_pure, Result.andThen_ok, List.map_toArray, List.map_cons, List.map_nil, hs, hx, hrun]
    exact hK _ _ (hk A' c' w' h2)

theorem leV_leL : ∀ (k x : Nat), x < 256 ^ k → leV (leL k x) = x := by
  intro k
  induction k with
  | zero => intro x h; simp at h; subst h; rfl
  | succ k ih =>
    intro x h
    simp only [leL, leV, byteOf_toNat (show x % 256 < 256 by omega)]
    rw [ih (x / 256) (by rw [Nat.div_lt_iff_lt_mul (by omega)]; rw [Nat.pow_succ] at h; exact h)]
    omega
theorem leL_leV : ∀ (l : List UInt8), leL l.length (leV l) = l := by
  intro l
  induction l with
  | nil => rfl
  | cons c l ih =>
    have hc : c.toNat < 256 := c.toNat_lt
    simp only [List.length_cons, leL, leV]
    rw [show (c.toNat + 256 * leV l) / 256 = leV l by omega, ih]
    congr 1
    apply UInt8.toNat_inj.1
    rw [byteOf_toNat (by omega)]; omega
theorem leV_lt : ∀ (l : List UInt8), leV l < 256 ^ l.length := by
  intro l
  induction l with
  | nil => simp [leV]
  | cons c l ih =>
    have hc : c.toNat < 256 := c.toNat_lt
    simp only [leV, List.length_cons, Nat.pow_succ]
    omega
theorem fourL_len (x : Nat) : (fourL x).length = 4 := rfl
theorem four_take (x : Nat) (h : x < 4294967296) (r : List UInt8) : leV ((fourL x ++ r).take 4) = x ∧ (fourL x ++ r).drop 4 = r ∧ 4 ≤ (fourL x ++ r).length := by
  refine ⟨?_, ?_, by rw [List.length_append, fourL_len]; omega⟩
  · rw [show (4 : Nat) = (fourL x).length from rfl, List.take_left]
    exact leV_leL 4 x (by simpa using h)
  · rw [show (4 : Nat) = (fourL x).length from rfl, List.drop_left]
theorem four_put {l : List UInt8} (h : 4 ≤ l.length) : fourL (leV (l.take 4)) ++ l.drop 4 = l ∧ leV (l.take 4) ≤ 4294967295 := by
  have hl : (l.take 4).length = 4 := by simp; omega
  refine ⟨?_, ?_⟩
  · have := leL_leV (l.take 4)
    rw [hl] at this
    unfold fourL
    rw [this, List.take_append_drop]
  · have := leV_lt (l.take 4)
    rw [hl] at this
    simp at this; omega
theorem take_put {l : List UInt8} {v m : Nat} (h : takeN l = some (v, m)) : shortL v ++ l.drop m = l := by
  rw [← (takeN_le h).2.2.2.2, List.take_append_drop]
theorem text_put {l s r : List UInt8} {most : Int} (h : textTake l most = some (s, r)) : textL ⟨s.toArray⟩ ++ r = l ∧ s.length ≤ l.length := by
  unfold textTake at h
  cases hv : takeN l with
  | none => rw [hv] at h; cases h
  | some x =>
    obtain ⟨v, m⟩ := x
    rw [hv] at h
    simp only [] at h
    split at h
    · rename_i hc
      simp only [Option.some.injEq, Prod.mk.injEq] at h
      obtain ⟨rfl, rfl⟩ := h
      have hs : (⟨((l.drop m).take v).toArray⟩ : ByteArray).size = v := by
        show ((l.drop m).take v).toArray.size = v
        rw [List.size_toArray, List.length_take]; omega
      unfold textL
      rw [hs]
      refine ⟨?_, by simp; omega⟩
      show shortL v ++ (l.drop m).take v ++ (l.drop m).drop v = l
      rw [List.append_assoc, List.take_append_drop, take_put hv]
    · cases h
end Go.Proofs.Ythgbafhfeblhaaa
end
