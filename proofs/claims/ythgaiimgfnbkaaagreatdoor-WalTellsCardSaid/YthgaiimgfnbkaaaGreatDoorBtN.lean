/-
  The entries of operations: the contracts of Entries, the program's and the reference's.
-/
import Derived.Test.YthgaiimgfnbkaaaGreatDoorBtR
namespace Go.Proofs.YthgaiimgfnbkaaaGreatDoor
set_option maxRecDepth 100000
open Go.RowKit Go.Shelf

def entAt (f i : Nat) (x : Bop) : Ent := ⟨x.s, (f + i) % 18446744073709551616, x.k, x.v⟩
def entsL (L : List Bop) (f : Nat) : List Ent := L.mapIdx (entAt f)
theorem entsL_len (L : List Bop) (f : Nat) : (entsL L f).length = L.length := by simp [entsL]
theorem entsL_get (L : List Bop) (f i : Nat) : (entsL L f)[i]? = (L[i]?).map (entAt f i) := by simp [entsL]
theorem entsL_next {L : List Bop} {f k : Nat} {x : Bop} (hx : L[k]? = some x) : entsL (L.take (k + 1)) f = entsL (L.take k) f ++ [entAt f k x] := by
  have hk : k < L.length := by
    rcases Nat.lt_or_ge k L.length with h | h
    · exact h
    · rw [List.getElem?_eq_none h] at hx; cases hx
  rw [take_snoc_of hx]
  unfold entsL
  rw [List.mapIdx_concat, List.length_take, Nat.min_eq_left (by omega)]
theorem entsL_app (L M : List Bop) (f : Nat) : entsL (L ++ M) f = entsL L f ++ entsL M ((f + L.length) % 18446744073709551616) := by
  apply List.ext_getElem?
  intro i
  rcases Nat.lt_or_ge i L.length with h | h
  · rw [entsL_get, List.getElem?_append_left h, List.getElem?_append_left (by rw [entsL_len]; exact h), entsL_get]
  · rw [entsL_get, List.getElem?_append_right h, List.getElem?_append_right (by rw [entsL_len]; exact h), entsL_get, entsL_len]
    congr 1
    funext x
    unfold entAt
    congr 1
    omega

/-- A row of n entries, made by this program, of which the first are P. -/
structure MkE (w : World) (b g n : Nat) (P : List Ent) : Prop where
  own : ∃ zs, w.ownsRow b 113 4 (.slice (some ⟨g, 0, none⟩) n n) n (evs P ++ zs)
section
variable {w w' : World} {b g n : Nat} {P : List Ent}
theorem MkE.le (h : MkE w b g n P) : P.length ≤ n := by
  obtain ⟨zs, h⟩ := h.own
  have := h.1
  rw [List.length_append, evs_len] at this
  omega
theorem MkE.lt (h : MkE w b g n P) : b ≤ g ∧ g < w.heap.size := by
  obtain ⟨zs, h⟩ := h.own
  rcases h.2 with ⟨e, _⟩ | ⟨g', cap, cur, e, hg, hh, _⟩
  · simp at e
  · injection e with e1 e2 e3
    cases e1
    exact ⟨hg, (Array.getElem?_eq_some_iff.1 hh).1⟩
theorem MkE.done (h : MkE w b g n P) (hk : P.length = n) : FrE w b (some ⟨g, 0, none⟩) n n P := by
  obtain ⟨zs, h⟩ := h.own
  have h1 := h.1
  rw [List.length_append, evs_len] at h1
  obtain rfl : zs = [] := List.eq_nil_of_length_eq_zero (by omega)
  rw [List.append_nil] at h
  exact ⟨h⟩
theorem MkE.below (h : MkE w b g n P) (hb : Below w.heap.size w w') : MkE w' b g n P := by
  obtain ⟨zs, h⟩ := h.own
  refine ⟨zs, h.1, ?_⟩
  rcases h.2 with h2 | ⟨g, cap, cur, e, hg, hh, r⟩
  · exact .inl h2
  · exact .inr ⟨g, cap, cur, e, hg, (hb.block g (Array.getElem?_eq_some_iff.1 hh).1).trans hh, r⟩
theorem MkE.alloc (h : MkE w b g n P) (o : Obj) : MkE (w.alloc o) b g n P := by
  obtain ⟨zs, h⟩ := h.own
  exact ⟨zs, h.alloc o⟩
theorem MkE.cells (h : MkE w b g n P) {k : Nat} (hlt : k < n) : ∃ z0 z1 z2 z3, (w.cell? ⟨g, k * 4, none⟩ = some z0 ∧ w.cell? ⟨g, k * 4 + 1, none⟩ = some z1 ∧ w.cell? ⟨g, k * 4 + 2, none⟩ = some z2 ∧ w.cell? ⟨g, k * 4 + 3, none⟩ = some z3) ∧
    (w.frozen? ⟨g, k * 4, none⟩ = false ∧ w.frozen? ⟨g, k * 4 + 1, none⟩ = false ∧ w.frozen? ⟨g, k * 4 + 2, none⟩ = false ∧ w.frozen? ⟨g, k * 4 + 3, none⟩ = false) := by
  obtain ⟨zs, h⟩ := h.own
  have h1 := h.1
  have hadd : ∀ j, (⟨g, 0, none⟩ : Addr).add j = ⟨g, j, none⟩ := fun j => by unfold Addr.add; split <;> simp_all
  have hc : ∀ j, j < n * 4 → ∃ z, w.cell? ⟨g, j, none⟩ = some z := fun j hj => by
    have := h.cells (g := g) rfl j _ (List.getElem?_eq_getElem (by omega))
    rw [hadd] at this
    exact ⟨_, this⟩
  obtain ⟨z0, h0⟩ := hc (k * 4) (by omega)
  obtain ⟨z1, h1⟩ := hc (k * 4 + 1) (by omega)
  obtain ⟨z2, h2⟩ := hc (k * 4 + 2) (by omega)
  obtain ⟨z3, h3⟩ := hc (k * 4 + 3) (by omega)
  exact ⟨z0, z1, z2, z3, ⟨h0, h1, h2, h3⟩, h.frozenAt _, h.frozenAt _, h.frozenAt _, h.frozenAt _⟩
theorem set_next {T : Type} (a zs : List T) (i : Nat) (u : T) : (a ++ zs).set (a.length + i) u = a ++ zs.set i u := by
  rw [List.set_append_right _ _ (Nat.le_add_right _ _), Nat.add_sub_cancel_left]
theorem MkE.store (h : MkE w b g n P) {k : Nat} (hk : P.length = k) (hlt : k < n) (x : Ent) :
    MkE ((((w.setCell ⟨g, k * 4, none⟩ (.string x.s)).setCell ⟨g, k * 4 + 1, none⟩ (.int .u64 (x.q : Int))).setCell ⟨g, k * 4 + 2, none⟩ (.int .u8 (x.k : Int))).setCell ⟨g, k * 4 + 3, none⟩ (.string x.v)) b g n (P ++ [x]) := by
  obtain ⟨zs, h⟩ := h.own
  have h1 := h.1
  rw [List.length_append, evs_len] at h1
  have h2 := (((((h.stored (k * 4) (.string x.s)).1.stored (k * 4 + 1) (.int .u64 (x.q : Int))).1.stored (k * 4 + 2) (.int .u8 (x.k : Int))).1).stored (k * 4 + 3) (.string x.v)).1
  have he : (evs P).length = k * 4 := by rw [evs_len, hk]
  match zs, h1 with
  | z0 :: z1 :: z2 :: z3 :: zs, _ =>
    refine ⟨zs, ?_⟩
    have e := h2
    rw [← he, show (evs P).length = (evs P).length + 0 by omega] at e
    simp only [Nat.add_assoc, set_next, Nat.zero_add] at e
    rw [he] at e
    rw [evs_app, List.append_assoc]
    simpa [evs, ev, Nat.add_assoc] using e
  | [], h => simp at h; omega
  | [_], h => simp at h; omega
  | [_, _], h => simp at h; omega
  | [_, _, _], h => simp at h; omega
end
theorem below_set4 {B : Nat} {a w : World} (h : Below B a w) {b : Nat} (hb : B ≤ b) (i j k l : Nat) (u v x y : Value) :
    Below B a ((((w.setCell ⟨b, i, none⟩ u).setCell ⟨b, j, none⟩ v).setCell ⟨b, k, none⟩ x).setCell ⟨b, l, none⟩ y) := (((h.setCell hb _).setCell hb _).setCell hb _).setCell hb _

/-- A fresh row of entries comes back, and nothing that was there has turned. -/
def RetE (w : World) (L : List Ent) (e : Ending) (w' : World) : Prop :=
  ∃ A n c, e = .returned (.slice A n c) ∧ FrE w' w.heap.size A n c L ∧ Below w.heap.size w w'

end Go.Proofs.YthgaiimgfnbkaaaGreatDoor
