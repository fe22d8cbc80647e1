/-
  Rows of entries (of four cells each): slices of them; fresh ones; what an append of entries gives.
-/
import Derived.Test.YthgaiimgfnbkaaaGreatDoorBt1
import Derived.WalkKit
import Derived.ProofKit
import Derived.OpenShut
import Derived.Deep.Slices
import Derived.Deep.Strs
import Derived.Deep.RegionHeld3
namespace Go.Proofs.YthgaiimgfnbkaaaGreatDoor
set_option maxRecDepth 100000
open Go.RowKit Go.Shelf

/-- An entry's parts. -/
structure Ent where
  s : ByteArray
  q : Nat
  k : Nat
  v : ByteArray

/-- The slice value '.slice A n c' reads as the entries L, in blocks below B. -/
structure RdE (w : World) (B : Nat) (A : Option Addr) (n c : Nat) (L : List Ent) : Prop where
  len : L.length = n
  cap : n ≤ c
  max : c ≤ maxLen
  nil : A = none → n = 0 ∧ c = 0
  form : 0 < n → ∃ b off, A = some ⟨b, off, none⟩ ∧ b < B ∧ ∀ i x, L[i]? = some x →
    w.cell? ⟨b, off + i * 4, none⟩ = some (.string x.s) ∧ w.cell? ⟨b, off + i * 4 + 1, none⟩ = some (.int .u64 (x.q : Int)) ∧ w.cell? ⟨b, off + i * 4 + 2, none⟩ = some (.int .u8 (x.k : Int)) ∧ w.cell? ⟨b, off + i * 4 + 3, none⟩ = some (.string x.v)
theorem RdE.nilv {w : World} {B : Nat} : RdE w B none 0 0 [] := ⟨rfl, Nat.le_refl _, Nat.zero_le _, fun _ => ⟨rfl, rfl⟩, fun h => absurd h (by decide)⟩
theorem RdE.keep {w w' : World} {B n c : Nat} {A : Option Addr} {L : List Ent} (h : RdE w B A n c L) (hk : ∀ p : Addr, p.block < B → w'.cell? p = w.cell? p) : RdE w' B A n c L :=
  ⟨h.len, h.cap, h.max, h.nil, fun hn => by
    obtain ⟨b, off, e, hb, hc⟩ := h.form hn
    refine ⟨b, off, e, hb, fun i x hx => ?_⟩
    obtain ⟨h0, h1, h2, h3⟩ := hc i x hx
    exact ⟨(hk _ hb).trans h0, (hk _ hb).trans h1, (hk _ hb).trans h2, (hk _ hb).trans h3⟩⟩
theorem RdE.more {w : World} {B B' n c : Nat} {A : Option Addr} {L : List Ent} (h : RdE w B A n c L) (hB : B ≤ B') : RdE w B' A n c L :=
  ⟨h.len, h.cap, h.max, h.nil, fun hn => by obtain ⟨b, off, e, hb, hc⟩ := h.form hn; exact ⟨b, off, e, by omega, hc⟩⟩
theorem RdE.below {w w' : World} {B B' n c : Nat} {A : Option Addr} {L : List Ent} (h : RdE w B A n c L) (hb : Below B' w w') (hB : B ≤ B') : RdE w' B A n c L := h.keep fun _ hp => (hb.mono hB).cell hp

def ev (x : Ent) : List Value := [.string x.s, .int .u64 (x.q : Int), .int .u8 (x.k : Int), .string x.v]
def evs (L : List Ent) : List Value := L.flatMap ev
theorem evs_len : ∀ L : List Ent, (evs L).length = L.length * 4
  | [] => rfl
  | x :: L => by
    have := evs_len L
    simp only [evs, List.flatMap_cons, List.length_append, List.length_cons] at *
    rw [this]; simp [ev]; omega
theorem evs_app (a b : List Ent) : evs (a ++ b) = evs a ++ evs b := by simp [evs]
theorem evs_one {L : List Ent} : ∀ u ∈ evs L, u.oneCell' = true := by
  intro u hu
  obtain ⟨x, _, hx⟩ := List.mem_flatMap.1 hu
  simp only [ev, List.mem_cons, List.not_mem_nil, or_false] at hx
  rcases hx with rfl | rfl | rfl | rfl <;> rfl
theorem evs_get : ∀ (L : List Ent) (i : Nat) (x : Ent) (j : Nat), L[i]? = some x → j < 4 → (evs L)[i * 4 + j]? = (ev x)[j]?
  | [], i, x, j, h, _ => by simp at h
  | y :: L, 0, x, j, h, hj => by
    simp at h; subst h
    simp only [evs, List.flatMap_cons]
    rw [List.getElem?_append_left (by simp [ev]; omega)]
    simp
  | y :: L, i + 1, x, j, h, hj => by
    have ih := evs_get L i x j (by simpa using h) hj
    simp only [evs, List.flatMap_cons] at *
    rw [List.getElem?_append_right (by simp [ev]; omega), ← ih]
    congr 1
    simp [ev]; omega

theorem info_en : (Tryz.prog.info? 113).map (fun i => (i.zero, i.size, i.bytes)) = some (some (.agg #[.string ⟨#[]⟩, .int .u64 0, .int .u8 0, .string ⟨#[]⟩]), 4, 48) := by kernel_rfl

section
variable {w w' : World} {b B n c : Nat} {A : Option Addr} {L : List Ent}
theorem RdE.front (h : RdE w B A n c L) {k : Nat} (hk : k ≤ n) : RdE w B A k c (L.take k) :=
  ⟨by rw [List.length_take, h.len]; omega, Nat.le_trans hk h.cap, h.max, fun e => by have := h.nil e; omega, fun hk0 => by
    obtain ⟨bb, off, e, hb, hc⟩ := h.form (by omega)
    exact ⟨bb, off, e, hb, fun i x hx => hc i x (by rw [List.getElem?_take] at hx; split at hx <;> simp_all)⟩⟩
theorem RdE.back (h : RdE w B A n c L) {k : Nat} (hk : k ≤ n) : RdE w B (if c = k then A else A.map (·.add (k * 4))) (n - k) (c - k) (L.drop k) := by
  have hc := h.cap
  refine ⟨by rw [List.length_drop, h.len], by omega, by have := h.max; omega, fun e => ?_, fun hn => ?_⟩
  · split at e
    · omega
    · cases A with
      | none => have := h.nil rfl; omega
      | some a => cases e
  · obtain ⟨bb, off, rfl, hb, hcell⟩ := h.form (by omega)
    rw [if_neg (by omega)]
    refine ⟨bb, off + k * 4, ?_, hb, fun i x hx => ?_⟩
    · simp only [Option.map_some]
      congr 1
      unfold Addr.add
      split <;> simp_all
    · rw [List.getElem?_drop] at hx
      have := hcell _ x hx
      rw [show off + k * 4 + i * 4 = off + (k + i) * 4 by omega]
      exact this
/-- A fresh row of entries. -/
structure FrE (w : World) (b : Nat) (A : Option Addr) (n c : Nat) (L : List Ent) : Prop where
  own : w.ownsRow b 113 4 (.slice A n c) n (evs L)
theorem FrE.len (h : FrE w b A n c L) : L.length = n := by have := h.own.1; rw [evs_len] at this; omega
theorem FrE.rd (h : FrE w b A n c L) (hB : w.heap.size ≤ B) : RdE w B A n c L := by
  obtain ⟨h1, h2⟩ := h.own
  have hl := h.len
  rcases h2 with ⟨e, h0⟩ | ⟨g, cap, cur, e, hg, hh, hnc, hm, hs, ht⟩
  · injection e with e1 e2 e3
    subst e1; subst e2; subst e3
    have : L = [] := List.eq_nil_of_length_eq_zero hl
    subst this
    exact RdE.nilv
  · injection e with e1 e2 e3
    subst e1; subst e3
    have hlt : g < w.heap.size := (Array.getElem?_eq_some_iff.1 hh).1
    have hadd : ∀ j, (⟨g, 0, none⟩ : Addr).add j = ⟨g, 0 + j, none⟩ := fun j => by unfold Addr.add; split <;> simp_all
    refine ⟨hl, hnc, hm, fun e => (by cases e), fun _ => ⟨g, 0, rfl, Nat.lt_of_lt_of_le hlt hB, fun i x hx => ?_⟩⟩
    have hc := fun j (hj : j < 4) u (hu : (ev x)[j]? = some u) => h.own.cells (g := g) rfl (i * 4 + j) u ((evs_get L i x j hx hj).trans hu)
    have c0 := hc 0 (by omega) _ rfl
    have c1 := hc 1 (by omega) _ rfl
    have c2 := hc 2 (by omega) _ rfl
    have c3 := hc 3 (by omega) _ rfl
    rw [hadd] at c0 c1 c2 c3
    exact ⟨c0, c1, c2, c3⟩
theorem FrE.mono {b' : Nat} (h : FrE w b A n c L) (hb : b' ≤ b) : FrE w b' A n c L := by
  obtain ⟨h1, h2⟩ := h.own
  refine ⟨h1, ?_⟩
  rcases h2 with h2 | ⟨g, cap, cur, e, hg, r⟩
  · exact .inl h2
  · exact .inr ⟨g, cap, cur, e, Nat.le_trans hb hg, r⟩
theorem FrE.below (h : FrE w b A n c L) (hb : Below w.heap.size w w') : FrE w' b A n c L := by
  obtain ⟨h1, h2⟩ := h.own
  refine ⟨h1, ?_⟩
  rcases h2 with h2 | ⟨g, cap, cur, e, hg, hh, r⟩
  · exact .inl h2
  · exact .inr ⟨g, cap, cur, e, hg, (hb.block g (Array.getElem?_eq_some_iff.1 hh).1).trans hh, r⟩
theorem FrE.alloc (h : FrE w b A n c L) (o : Obj) : FrE (w.alloc o) b A n c L := ⟨h.own.alloc o⟩
theorem FrE.nil : FrE w b none 0 0 [] := ⟨World.ownsRow_nil _ _ _ _⟩
theorem FrE.new (w : World) {b k : Nat} {cur : Array Value} {L : List Ent} (hc : cur = (evs L).toArray) (hk : L.length = k) (hb : b ≤ w.heap.size) (hm : k ≤ maxLen) : FrE (w.alloc (.cells cur 113)) b (some ⟨w.heap.size, 0, none⟩) k k L := by
  subst hc; subst hk
  refine ⟨⟨evs_len L, .inr ⟨w.heap.size, L.length, (evs L).toArray, rfl, hb, heap_alloc_new w _, Nat.le_refl _, hm, by simp [evs_len], ?_⟩⟩⟩
  rw [← evs_len]; simp
end

/-- What an append of entries gives. -/
structure AppE (w w' : World) (b : Nat) (v : Value) (A' : Option Addr) (n' c' : Nat) (L' : List Ent) : Prop where
  fr : FrE w' b A' n' c' L'
  below : Below b w w'
  grown : w.grownBy w' v.ownBlock

theorem RdE.grown {w w' : World} {B b off n c : Nat} {L : List Ent} (h : RdE w B (some ⟨b, off, none⟩) n c L) {row : Option Nat} (hg : w.grownBy w' row) (hb : b < w.heap.size) (hn : row ≠ some b) : RdE w' B (some ⟨b, off, none⟩) n c L :=
  ⟨h.len, h.cap, h.max, h.nil, fun hn0 => by
    obtain ⟨b', off', e, hB, hc⟩ := h.form hn0
    cases e
    refine ⟨b, off, rfl, hB, fun i x hx => ?_⟩
    have hk (j : Nat) : w'.cell? ⟨b, j, none⟩ = w.cell? ⟨b, j, none⟩ := hg.cell_far ⟨b, j, none⟩ hb (Ne.symm hn)
    obtain ⟨h0, h1, h2, h3⟩ := hc i x hx
    exact ⟨(hk _).trans h0, (hk _).trans h1, (hk _).trans h2, (hk _).trans h3⟩⟩
/-- The row of one entry, and of none, as literals. -/
theorem FrE.one (w : World) {b g : Nat} (x : Ent) (hg : w.heap.size = g) (hb : b ≤ w.heap.size) : FrE (w.alloc (.cells #[.string x.s, .int .u64 (x.q : Int), .int .u8 (x.k : Int), .string x.v] 113)) b (some ⟨g, 0, none⟩) 1 1 [x] := by
  subst hg
  exact FrE.new w (L := [x]) rfl rfl hb (by decide)
theorem FrE.zero (w : World) {b g : Nat} (hg : w.heap.size = g) (hb : b ≤ w.heap.size) : FrE (w.alloc (.cells #[] 113)) b (some ⟨g, 0, none⟩) 0 0 [] := by
  subst hg
  exact FrE.new w (L := []) rfl rfl hb (by decide)

end Go.Proofs.YthgaiimgfnbkaaaGreatDoor
