/-
  Words and plain mathematics for NumsBack: an append behind a guard that holds; four bytes, there and back.
-/
import Derived.Test.YtaodmenieigbmaaTexts
namespace Go.Proofs.Ytaodmenieigbmaa
open Go.RowKit

theorem wpList_app_g {P : Program} {ops : Array Oper} {rest : List Oper} {o : Oper} {a : Act} {Q : Exit → Act → World → Prop} {w : World} (hgd : Region.wanted o (yielded ops a.tmps) = true) (s x : Operand) (t : TypeId)
    (ho : o.op = .call { callee := .builtin .append, args := #[s, x], argTypes := #[t, t] })
    {b : Nat} {e : TypeId} {z : Value} {by_ : Nat} (ht : P.underlying t = some (.slice e)) (hinf : (P.info? e).map (fun i => (i.zero, i.size, i.bytes)) = some (some z, 1, by_)) (hz : z.cells.size = 1)
    {A : Option Addr} {n c : Nat} {xs : List Value} (hs : a.eval s = .slice A n c) (h : Fr w b e A n c xs)
    {B m c2 : Nat} {A2 : Option Addr} {news : List Value} (hx : a.eval x = .slice A2 m c2) (hr : Rd w B A2 m c2 news) (h1 : ∀ u ∈ news, u.oneCell' = true)
    (hby : (n + m) * by_ ≤ 140737488355328) (h63 : n + m ≤ 140737488355328) (hb : b ≤ w.heap.size)
    (hk : ∀ A' c' w', App w w' b e (.slice A n c) A' (n + m) c' (xs ++ news) → wpList P ops Q rest (a.put o.dst (.slice A' (n + m) c')) w') : wpList P ops Q (o :: rest) a w :=
  wpList_step fun K hK => by
    rw [if_pos hgd]
    obtain ⟨A', c', w', hrun, h2⟩ := run_app (P := P) w t o.type e ht hinf hz h hr h1 hby h63 hb
    unfold Oper.wp execOp
    simp only [ho, resolve, invoke, builtin, Sem.run_bind, Sem.run_pure, Result.andThen_ok, List.map_toArray, List.map_cons, List.map_nil, hs, hx, hrun]
    exact hK _ _ (hk A' c' w' h2)

theorem leV_leL : ∀ (k x : Nat), x < 256 ^ k → leV (leL k x) = x := by
  intro k
  induction k with
  | zero => intro x h; simp at h; subst h; rfl
  | succ k ih =>
    intro x h
    simp only [leL, leV, byteOf_toNat (show x % 256 < 256 by omega)]
    rw [ih (x / 256) (by rw [Nat.div_lt_iff_lt_mul (by omega)]; rw [Nat.pow_succ] at h; exact h)]
    omega
theorem leL_leV : ∀ (l : List UInt8), leL l.length (leV l) = l := by
  intro l
  induction l with
  | nil => rfl
  | cons c l ih =>
    have hc : c.toNat < 256 := c.toNat_lt
    simp only [List.length_cons, leL, leV]
    rw [show (c.toNat + 256 * leV l) / 256 = leV l by omega, ih]
    congr 1
    apply UInt8.toNat_inj.1
    rw [byteOf_toNat (by omega)]; omega
theorem leV_lt : ∀ (l : List UInt8), leV l < 256 ^ l.length := by
  intro l
  induction l with
  | nil => simp [leV]
  | cons c l ih =>
    have hc : c.toNat < 256 := c.toNat_lt
    simp only [leV, List.length_cons, Nat.pow_succ]
    omega
theorem fourL_len (x : Nat) : (fourL x).length = 4 := rfl
theorem four_take (x : Nat) (h : x < 4294967296) (r : List UInt8) : leV ((fourL x ++ r).take 4) = x ∧ (fourL x ++ r).drop 4 = r ∧ 4 ≤ (fourL x ++ r).length := by
  refine ⟨?_, ?_, by rw [List.length_append, fourL_len]; omega⟩
  · rw [show (4 : Nat) = (fourL x).length from rfl, List.take_left]
    exact leV_leL 4 x (by simpa using h)
  · rw [show (4 : Nat) = (fourL x).length from rfl, List.drop_left]
theorem four_put {l : List UInt8} (h : 4 ≤ l.length) : fourL (leV (l.take 4)) ++ l.drop 4 = l ∧ leV (l.take 4) ≤ 4294967295 := by
  have hl : (l.take 4).length = 4 := by simp; omega
  refine ⟨?_, ?_⟩
  · have := leL_leV (l.take 4)
    rw [hl] at this
    unfold fourL
    rw [this, List.take_append_drop]
  · have := leV_lt (l.take 4)
    rw [hl] at this
    simp at this; omega
theorem take_put {l : List UInt8} {v m : Nat} (h : takeN l = some (v, m)) : shortL v ++ l.drop m = l := by
  rw [← (takeN_le h).2.2.2.2, List.take_append_drop]
theorem text_put {l s r : List UInt8} {most : Int} (h : textTake l most = some (s, r)) : textL ⟨s.toArray⟩ ++ r = l ∧ s.length ≤ l.length := by
  unfold textTake at h
  cases hv : takeN l with
  | none => rw [hv] at h; cases h
  | some x =>
    obtain ⟨v, m⟩ := x
    rw [hv] at h
    simp only [] at h
    split at h
    · rename_i hc
      simp only [Option.some.injEq, Prod.mk.injEq] at h
      obtain ⟨rfl, rfl⟩ := h
      have hs : (⟨((l.drop m).take v).toArray⟩ : ByteArray).size = v := by
        show ((l.drop m).take v).toArray.size = v
        rw [List.size_toArray, List.length_take]; omega
      unfold textL
      rw [hs]
      refine ⟨?_, by simp; omega⟩
      show shortL v ++ (l.drop m).take v ++ (l.drop m).drop v = l
      rw [List.append_assoc, List.take_append_drop, take_put hv]
    · cases h
end Go.Proofs.Ytaodmenieigbmaa
