/-
  Words for the statements on tables.
-/
import Derived.Test.YtkdjjdkcogolmaaGreatDoorTC
namespace Go.Proofs.YtkdjjdkcogolmaaGreatDoor
set_option maxRecDepth 100000
open Go.RowKit Go.Shelf
set_option linter.unusedVariables false

theorem prt_of {O : List Ent} (h : tblB O = true) : prtL (tabL O) = O ∧ prtE (tabL O) = 0 := prt_yes h rfl
theorem tk_yes {O : List Ent} (h : tblB O = true) {s : ByteArray} {q k i : Nat} {x : Ent} (hlo : ∀ (j : Nat) (y : Ent), j < i → O[j]? = some y → cmpV y.s y.q y.k s q k < 0) (hx : O[i]? = some x) (hge : ¬ cmpV x.s x.q x.k s q k < 0) :
    skT (tabL O) s q k = x ∧ skTB (tabL O) s q k = true := by
  have hf : seekE O s q k = some x := find_at _ O i x (fun j y hj hy => decide_eq_false (by have := hlo j y hj hy; omega)) hx (decide_eq_true (by omega))
  unfold skT skTB; rw [(prt_of h).1, hf]; exact ⟨rfl, rfl⟩
theorem tk_no {O : List Ent} (h : tblB O = true) {s : ByteArray} {q k : Nat} (hlo : ∀ (j : Nat) (y : Ent), O[j]? = some y → cmpV y.s y.q y.k s q k < 0) : skT (tabL O) s q k = noE ∧ skTB (tabL O) s q k = false := by
  have hf : seekE O s q k = none := find_no _ O (fun j y hy => decide_eq_false (by have := hlo j y hy; omega))
  unfold skT skTB; rw [(prt_of h).1, hf]; exact ⟨rfl, rfl⟩
theorem ris_lt {L : List Ent} (h : risB L = true) {i j : Nat} {a b : Ent} (hij : i < j) (ha : L[i]? = some a) (hb : L[j]? = some b) : cmpV a.s a.q a.k b.s b.q b.k < 0 := by
  have hlt : i + 1 < L.length := by
    rcases Nat.lt_or_ge j L.length with h1 | h1
    · omega
    · rw [List.getElem?_eq_none h1] at hb; cases hb
  have h1 := (risB_iff L).1 h i a _ ha (List.getElem?_eq_getElem hlt)
  have h2 := ris_le h (j - (i + 1)) (i + 1) _ b (List.getElem?_eq_getElem hlt) (by rw [show i + 1 + (j - (i + 1)) = j by omega]; exact hb)
  unfold cmpE at h1 h2
  rcases Int.lt_or_le (cmpV a.s a.q a.k b.s b.q b.k) 0 with h3 | h3
  · exact h3
  · exfalso
    have h4 := cmpV_swap a.s a.q a.k b.s b.q b.k
    have h5 := cmpV_trans h2 (show cmpV b.s b.q b.k a.s a.q a.k ≤ 0 by omega)
    have h6 := cmpV_swap a.s a.q a.k (L[i + 1]'hlt).s (L[i + 1]'hlt).q (L[i + 1]'hlt).k
    omega
theorem tk_own {O : List Ent} (h : tblB O = true) {i : Nat} {x : Ent} (hx : O[i]? = some x) : skT (tabL O) x.s x.q x.k = x ∧ skTB (tabL O) x.s x.q x.k = true :=
  tk_yes h (fun j y hj hy => ris_lt (tblB_iff.1 h).2.2.2 hj hy hx) hx (by rw [cmpV_refl]; decide)
theorem few_t {L : List Ent} {n : Nat} {m : Nat} (hl : L.length = n) (h : fewB L (m : Int) = true) : n ≤ m := by
  unfold fewB at h
  simp only [Bool.and_eq_true, decide_eq_true_eq] at h
  omega
theorem sort_tbl {mo : Nat} (hmo : mo ≤ 8192) (L : List Ent) (h : sortE mo L ≠ []) : tblB (sortE mo L) = true := by
  obtain ⟨h1, h2, h3⟩ := sortE_ok mo L
  refine tblB_iff.2 ⟨?_, by omega, h1, h2⟩
  rcases Nat.eq_zero_or_pos (sortE mo L).length with h4 | h4
  · exact absurd (List.eq_nil_of_length_eq_zero h4) h
  · exact h4
theorem blt_yes {L : List Ent} (h : tblB L = true) : bltL L = tabL L ∧ bltE L = 0 := ⟨if_pos h, if_pos h⟩
theorem blt_no {L : List Ent} (h : tblB L = false) : bltL L = [] ∧ bltE L = 80 := ⟨if_neg (by rw [h]; decide), if_neg (by rw [h]; decide)⟩
theorem tsame_iff {L M : List Ent} (h1 : tblB L = true) (h2 : tblB M = true) : (tabL L == tabL M) = sameEs L M := by
  rw [Bool.eq_iff_iff, sameEs_iff, beq_iff_eq]
  exact ⟨fun h => tab_inj h1 h2 h, fun h => by rw [h]⟩
theorem tsame_no {L M : List Ent} (h1 : tblB L = false) (h2 : M ≠ [] → tblB M = true) (h3 : 0 < L.length) : sameEs L M = false := by
  cases h : sameEs L M with
  | false => rfl
  | true =>
    have e := sameEs_iff.1 h
    subst e
    rw [h2 (fun e => by rw [e] at h3; simp at h3)] at h1
    cases h1
theorem tret_len {w : World} {b n c : Nat} {e : TypeId} {A : Option Addr} {l : List UInt8} {m : Nat} (h : Fr w b e A n c (bv l)) (hl : l.length ≤ m) : n ≤ m := by
  have := h.len; rw [bv_length] at this; omega
theorem tab_bound {L : List Ent} (h : tblB L = true) {m : Nat} (hm : L.length ≤ m) : (tabL L).length ≤ 24008 * ((m + 15) / 16) + 110 * ((m + 15) / 16) + 40 := by
  have h1 := (frL_len (chK_blk h (Nat.le_refl _))).1
  have h2 := linL_len 0 (chK_blk h (Nat.le_refl _))
  have h3 := shortL_len (chL L).length
  rw [chK_len] at h1 h2
  unfold tabL ftL idxL
  simp only [List.length_append, sealL_len, fourL_len, List.length_cons, List.length_nil]
  unfold chL cntL at *
  omega

/-- Two rows of entries beside each other. -/
structure TwoAt (w : World) (g : Nat) (A1 : Option Addr) (n1 c1 : Nat) (L1 : List Ent) (A2 : Option Addr) (n2 c2 : Nat) (L2 : List Ent) : Prop where
  lt : g < w.heap.size
  h : w.heap[g]? = some (.cells #[.slice A1 n1 c1, .slice A2 n2 c2] 23 (0, 0))
  r1 : RdE w w.heap.size A1 n1 c1 L1
  r2 : RdE w w.heap.size A2 n2 c2 L2
section
variable {w w' : World} {g n1 c1 n2 c2 : Nat} {A1 A2 : Option Addr} {L1 L2 : List Ent}
theorem TwoAt.now (h : TwoAt w g A1 n1 c1 L1 A2 n2 c2 L2) (hb : Below w.heap.size w w') : TwoAt w' g A1 n1 c1 L1 A2 n2 c2 L2 :=
  ⟨by have := h.lt; have := hb.size; omega, by rw [hb.block g h.lt]; exact h.h, h.r1.now hb, h.r2.now hb⟩
theorem TwoAt.at_ (h : TwoAt w g A1 n1 c1 L1 A2 n2 c2 L2) {k : Nat} (hk : k < 2) : ∃ (A : Option Addr) (n c : Nat) (L : List Ent), w.cell? ⟨g, k, none⟩ = some (.slice A n c) ∧ RdE w w.heap.size A n c L ∧ (L = L1 ∨ L = L2) := by
  have h2 : k = 0 ∨ k = 1 := by omega
  rcases h2 with rfl | rfl
  · exact ⟨A1, n1, c1, L1, by simp only [World.cell?, h.h]; rfl, h.r1, .inl rfl⟩
  · exact ⟨A2, n2, c2, L2, by simp only [World.cell?, h.h]; rfl, h.r2, .inr rfl⟩
end
end Go.Proofs.YtkdjjdkcogolmaaGreatDoor
