/-
  The chapter's examples: the contract of awake.
-/
import Derived.Test.YthgaiimgfnbkaaaGreatDoorBtM
import Derived.Test.YthgaiimgfnbkaaaGreatDoorBtN
import Derived.Test.YthgaiimgfnbkaaaGreatDoorBtS
namespace Go.Proofs.YthgaiimgfnbkaaaGreatDoor
set_option maxRecDepth 100000
open Go.RowKit Go.Shelf

/-- A row of n operations, made by this program, of which the first are P. -/
structure MkO (w : World) (b g n : Nat) (P : List Bop) : Prop where
  own : ∃ zs, w.ownsRow b 43 3 (.slice (some ⟨g, 0, none⟩) n n) n (ovs P ++ zs)
section
variable {w w' : World} {b g n : Nat} {P : List Bop}
theorem MkO.le (h : MkO w b g n P) : P.length ≤ n := by
  obtain ⟨zs, h⟩ := h.own
  have := h.1
  rw [List.length_append, ovs_len] at this
  omega
theorem MkO.lt (h : MkO w b g n P) : b ≤ g ∧ g < w.heap.size := by
  obtain ⟨zs, h⟩ := h.own
  rcases h.2 with ⟨e, _⟩ | ⟨g', cap, cur, e, hg, hh, _⟩
  · simp at e
  · injection e with e1 e2 e3
    cases e1
    exact ⟨hg, (Array.getElem?_eq_some_iff.1 hh).1⟩
theorem MkO.done (h : MkO w b g n P) (hk : P.length = n) : FrO w b (some ⟨g, 0, none⟩) n n P := by
  obtain ⟨zs, h⟩ := h.own
  have h1 := h.1
  rw [List.length_append, ovs_len] at h1
  obtain rfl : zs = [] := List.eq_nil_of_length_eq_zero (by omega)
  rw [List.append_nil] at h
  exact ⟨h⟩
theorem MkO.below (h : MkO w b g n P) (hb : Below w.heap.size w w') : MkO w' b g n P := by
  obtain ⟨zs, h⟩ := h.own
  refine ⟨zs, h.1, ?_⟩
  rcases h.2 with h2 | ⟨g, cap, cur, e, hg, hh, r⟩
  · exact .inl h2
  · exact .inr ⟨g, cap, cur, e, hg, (hb.block g (Array.getElem?_eq_some_iff.1 hh).1).trans hh, r⟩
theorem MkO.alloc (h : MkO w b g n P) (o : Obj) : MkO (w.alloc o) b g n P := by
  obtain ⟨zs, h⟩ := h.own
  exact ⟨zs, h.alloc o⟩
theorem MkO.cells (h : MkO w b g n P) {k : Nat} (hlt : k < n) : ∃ z0 z1 z2, (w.cell? ⟨g, k * 3, none⟩ = some z0 ∧ w.cell? ⟨g, k * 3 + 1, none⟩ = some z1 ∧ w.cell? ⟨g, k * 3 + 2, none⟩ = some z2) ∧
    (w.frozen? ⟨g, k * 3, none⟩ = false ∧ w.frozen? ⟨g, k * 3 + 1, none⟩ = false ∧ w.frozen? ⟨g, k * 3 + 2, none⟩ = false) := by
  obtain ⟨zs, h⟩ := h.own
  have h1 := h.1
  have hadd : ∀ j, (⟨g, 0, none⟩ : Addr).add j = ⟨g, j, none⟩ := fun j => by unfold Addr.add; split <;> simp_all
  have hc : ∀ j, j < n * 3 → ∃ z, w.cell? ⟨g, j, none⟩ = some z := fun j hj => by
    have := h.cells (g := g) rfl j _ (List.getElem?_eq_getElem (by omega))
    rw [hadd] at this
    exact ⟨_, this⟩
  obtain ⟨z0, h0⟩ := hc (k * 3) (by omega)
  obtain ⟨z1, h1⟩ := hc (k * 3 + 1) (by omega)
  obtain ⟨z2, h2⟩ := hc (k * 3 + 2) (by omega)
  exact ⟨z0, z1, z2, ⟨h0, h1, h2⟩, h.frozenAt _, h.frozenAt _, h.frozenAt _⟩
theorem MkO.store (h : MkO w b g n P) {k : Nat} (hk : P.length = k) (hlt : k < n) (x : Bop) :
    MkO (((w.setCell ⟨g, k * 3, none⟩ (.int .u8 (x.k : Int))).setCell ⟨g, k * 3 + 1, none⟩ (.string x.s)).setCell ⟨g, k * 3 + 2, none⟩ (.string x.v)) b g n (P ++ [x]) := by
  obtain ⟨zs, h⟩ := h.own
  have h1 := h.1
  rw [List.length_append, ovs_len] at h1
  have h2 := (((h.stored (k * 3) (.int .u8 (x.k : Int))).1.stored (k * 3 + 1) (.string x.s)).1.stored (k * 3 + 2) (.string x.v)).1
  have he : (ovs P).length = k * 3 := by rw [ovs_len, hk]
  match zs, h1 with
  | z0 :: z1 :: z2 :: zs, _ =>
    refine ⟨zs, ?_⟩
    have e := h2
    rw [← he, show (ovs P).length = (ovs P).length + 0 by omega] at e
    simp only [Nat.add_assoc, set_next, Nat.zero_add] at e
    rw [he] at e
    rw [ovs_app, List.append_assoc]
    simpa [ovs, ovl, Nat.add_assoc] using e
  | [], h => simp at h; omega
  | [_], h => simp at h; omega
  | [_, _], h => simp at h; omega
end

theorem below_op3x {B : Nat} {a w : World} (h : Below B a w) {b : Nat} (hb : B ≤ b) (i j k : Nat) (u v x : Value) :
    Below B a (((w.setCell ⟨b, i, none⟩ u).setCell ⟨b, j, none⟩ v).setCell ⟨b, k, none⟩ x) := ((h.setCell hb _).setCell hb _).setCell hb _
theorem RdO.now {w w' : World} {n c : Nat} {A : Option Addr} {L : List Bop} (h : RdO w w.heap.size A n c L) (hb : Below w.heap.size w w') : RdO w' w'.heap.size A n c L := (h.below hb (Nat.le_refl _)).more hb.size
theorem RdE.now {w w' : World} {n c : Nat} {A : Option Addr} {L : List Ent} (h : RdE w w.heap.size A n c L) (hb : Below w.heap.size w w') : RdE w' w'.heap.size A n c L := (h.below hb (Nat.le_refl _)).more hb.size
theorem RdO.lay {w : World} {n c : Nat} {A : Option Addr} {L : List Bop} (h : RdO w w.heap.size A n c L) (o : Obj) : RdO (w.alloc o) (w.alloc o).heap.size A n c L := h.now (below_alloc w o)
theorem Rd.lay {w : World} {n c : Nat} {A : Option Addr} {xs : List Value} (h : Rd w w.heap.size A n c xs) (o : Obj) : Rd (w.alloc o) (w.alloc o).heap.size A n c xs := h.now (below_alloc w o)
theorem RdE.lay {w : World} {n c : Nat} {A : Option Addr} {L : List Ent} (h : RdE w w.heap.size A n c L) (o : Obj) : RdE (w.alloc o) (w.alloc o).heap.size A n c L := h.now (below_alloc w o)
theorem Fr.here {w : World} {b : Nat} {e : TypeId} {A : Option Addr} {n c : Nat} {xs : List Value} (h : Fr w b e A n c xs) : Rd w w.heap.size A n c xs := h.rd (Nat.le_refl _)
theorem FrO.here {w : World} {b : Nat} {A : Option Addr} {n c : Nat} {L : List Bop} (h : FrO w b A n c L) : RdO w w.heap.size A n c L := h.rd (Nat.le_refl _)
theorem FrE.here {w : World} {b : Nat} {A : Option Addr} {n c : Nat} {L : List Ent} (h : FrE w b A n c L) : RdE w w.heap.size A n c L := h.rd (Nat.le_refl _)
theorem Rd.litn (w : World) (l : List UInt8) {vs : Array Value} {k g : Nat} (hg : w.heap.size = g) (hv : vs = (bv l).toArray) (hk : l.length = k) (hm : k ≤ maxLen) : Rd (w.alloc (.cells vs 5)) (w.alloc (.cells vs 5)).heap.size (some ⟨g, 0, none⟩) k k (bv l) :=
  (Rd.litb w l hg hv hk hm).more (by simp; omega)
theorem bytes_t {w : World} {n c : Nat} {A : Option Addr} {L : List Bop} (h : RdO w w.heap.size A n c L) (hn : (n : Int) ≤ 70368744000000) {l : List UInt8} {k : Int} (hl : bytesL L = l) (hk : bytesE L = k) : Calls Tryz.prog 20 #[.slice A n c] w (RetBE w l k) := by
  subst hl; subst hk; exact bytes_c h (Nat.le_refl _) hn
theorem parse_t {w : World} {n c : Nat} {A : Option Addr} {l : List UInt8} (h : Rd w w.heap.size A n c (bv l)) (hn : n ≤ 70368744000000) {L : List Bop} (hl : parseG l = some L) : Calls Tryz.prog 70 #[.slice A n c] w (RetOE w L 0) := by
  have := parse_c h (Nat.le_refl _) hn
  unfold parseL parseE at this
  rw [hl] at this
  exact this
theorem parse_n {w : World} {n c : Nat} {A : Option Addr} {l : List UInt8} (h : Rd w w.heap.size A n c (bv l)) (hn : n ≤ 70368744000000) (hl : parseG l = none) : Calls Tryz.prog 70 #[.slice A n c] w (RetOE w [] 40) := by
  have := parse_c h (Nat.le_refl _) hn
  unfold parseL parseE at this
  rw [hl] at this
  exact this
def exA : Bop := ⟨1, ⟨#[97]⟩, ⟨#[120]⟩⟩
def exB : Bop := ⟨0, ⟨#[98]⟩, ⟨#[]⟩⟩
theorem ex_grp : grpB [exA, exB] 128 = true := by decide
theorem ex_form : groupL [exA, exB] = [2, 1, 1, 97, 1, 120, 0, 1, 98] := by decide
theorem ex_bytes : bytesL [exA, exB] = [2, 1, 1, 97, 1, 120, 0, 1, 98] := by unfold bytesL; rw [if_pos ex_grp, ex_form]
theorem ex_bytesE : bytesE [exA, exB] = 0 := by unfold bytesE; rw [if_pos ex_grp]
theorem ex_parse : parseG [2, 1, 1, 97, 1, 120, 0, 1, 98] = some [exA, exB] := parseG_iff.2 ⟨ex_grp, ex_form.symm⟩
theorem isNone_eq {T : Type} {o : Option T} (h : o.isNone = true) : o = none := by cases o <;> simp_all
theorem ex_p1 : parseG [2, 1, 1, 97, 1, 120, 0, 1, 98, 0] = none := isNone_eq (by decide)
theorem ex_p2 : parseG [0] = none := isNone_eq (by decide)
theorem ex_p3 : parseG [1, 2, 1, 97] = none := isNone_eq (by decide)
theorem bytesL_no {L : List Bop} (h : grpB L 128 = false) : bytesL L = [] ∧ bytesE L = 40 := by unfold bytesL bytesE; rw [h]; exact ⟨rfl, rfl⟩
theorem ex_many : grpB (List.replicate 129 exA) 128 = false := by unfold grpB; simp
theorem rep_next (k : Nat) : List.replicate k exA ++ [exA] = List.replicate (k + 1) exA := by rw [List.replicate_succ']

end Go.Proofs.YthgaiimgfnbkaaaGreatDoor
