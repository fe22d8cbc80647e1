/-
  The form that grows: the writer in memory; the contract of put.
-/
import Derived.Test.YtkdjjdkcogolmaaB3
import Derived.Deep.RegionLaw
import Derived.Deep.RegionWith
import Derived.Deep.Cut
import Derived.Deep.CutRange
namespace Go.Proofs.Ytkdjjdkcogolmaa
set_option maxRecDepth 100000
open Go.RowKit Go.Shelf
set_option linter.unusedVariables false

theorem Fr.drew {w : World} {b : Nat} {e : TypeId} {A : Option Addr} {n c : Nat} {xs : List Value} (h : Fr w b e A n c xs) : Fr w.drew b e A n c xs := ⟨h.own⟩
/-- An append at a step of a region that draws its order. -/
theorem step_app {ops : Array Oper} {o : Oper} {a : Act} {K : Act → World → Prop} {Q : Exit → Act → World → Prop} {E : Prop} {w : World} (hgd : o.guard = none) (s x : Operand)
    (ho : o.op = .call { callee := .builtin .append, args := #[s, x], argTypes := #[23, 23] })
    {b : Nat} {A : Option Addr} {n c : Nat} {xs : List Value} (h : Fr w b 5 A n c xs) (hs : a.eval s = .slice A n c)
    {B m c2 : Nat} {A2 : Option Addr} {news : List Value} (hr : Rd w B A2 m c2 news) (hx : a.eval x = .slice A2 m c2) (h1 : ∀ u ∈ news, u.oneCell' = true) (h63 : n + m ≤ 140737488355328) (hb : b ≤ w.heap.size)
    (hk : ∀ A' c' w', App w w' b 5 (.slice A n c) A' (n + m) c' (xs ++ news) → K (a.put o.dst (.slice A' (n + m) c')) w') :
    if Region.wanted o (yielded ops a.tmps) = true then Oper.wp Try.prog o a w K Q else E := by
  have hw : Region.wanted o (yielded ops a.tmps) = true := by simp [Region.wanted, hgd]
  rw [if_pos hw]
  obtain ⟨A', c', w', hrun, h2⟩ := run_app (P := Try.prog) w 23 o.type 5 Try.underlying23 info_u8 rfl h hr h1 (by omega) h63 hb
  unfold Oper.wp execOp
  simp only [ho, resolve, invoke, builtin, Sem.run_bind, Sem.run_pure, Result.andThen_ok, List.map_toArray, List.map_cons, List.map_nil, hs, hx, hrun]
  exact hk A' c' w' h2

/-- A row of bytes: where it lies. -/
structure Row where
  A : Option Addr
  n : Nat
  c : Nat
def Row.v (r : Row) : Value := .slice r.A r.n r.c
/-- The writer lies in block g, its two rows beyond it, apart from one another. -/
structure WrAt (w : World) (g : Nat) (r1 r2 : Row) (E P : List UInt8) (s : ByteArray) : Prop where
  lt : g < w.heap.size
  h : w.heap[g]? = some (.cells #[r1.v, r2.v, .string s] 104 (0, 0))
  f1 : Fr w (g + 1) 5 r1.A r1.n r1.c (bv E)
  f2 : Fr w (g + 1) 5 r2.A r2.n r2.c (bv P)
  ne : ∀ k, r1.v.ownBlock = some k → r2.v.ownBlock ≠ some k
section
variable {w w' : World} {g : Nat} {r1 r2 : Row} {E P : List UInt8} {s : ByteArray}
theorem WrAt.cells (h : WrAt w g r1 r2 E P s) : w.cell? ⟨g, 0, none⟩ = some (.slice r1.A r1.n r1.c) ∧ w.cell? ⟨g, 1, none⟩ = some (.slice r2.A r2.n r2.c) ∧ w.cell? ⟨g, 2, none⟩ = some (.string s) := by
  refine ⟨?_, ?_, ?_⟩ <;> (simp only [World.cell?, h.h]; rfl)
theorem WrAt.frozen (h : WrAt w g r1 r2 E P s) : w.frozen? ⟨g, 0, none⟩ = false ∧ w.frozen? ⟨g, 1, none⟩ = false ∧ w.frozen? ⟨g, 2, none⟩ = false := by
  refine ⟨?_, ?_, ?_⟩ <;> simp [World.frozen?, h.h]
theorem WrAt.below (h : WrAt w g r1 r2 E P s) (hb : Below w.heap.size w w') : WrAt w' g r1 r2 E P s :=
  ⟨by have := h.lt; have := hb.size; omega, by rw [hb.block g h.lt]; exact h.h, h.f1.below hb, h.f2.below hb, h.ne⟩
theorem WrAt.alloc (h : WrAt w g r1 r2 E P s) (o : Obj) : WrAt (w.alloc o) g r1 r2 E P s := h.below ((Below.refl _ _).alloc (Nat.le_refl _) _)
theorem WrAt.drew (h : WrAt w g r1 r2 E P s) : WrAt w.drew g r1 r2 E P s := h.below (below_drewN (Below.refl _ _) 1)
theorem WrAt.own1 (h : WrAt w g r1 r2 E P s) : ∀ k, r1.v.ownBlock = some k → g + 1 ≤ k ∧ k < w.heap.size := fun k hk => h.f1.own.lt k hk
theorem WrAt.own2 (h : WrAt w g r1 r2 E P s) : ∀ k, r2.v.ownBlock = some k → g + 1 ≤ k ∧ k < w.heap.size := fun k hk => h.f2.own.lt k hk
theorem own_block {w : World} {b n c : Nat} {e : TypeId} {A : Option Addr} {xs : List Value} (h : Fr w b e A n c xs) {k : Nat} (hk : (Value.slice A n c).ownBlock = some k) : ∃ cur, w.heap[k]? = some (.cells cur e (0, 0)) := by
  rcases h.own.2 with ⟨e1, _⟩ | ⟨g, cap, cur, e1, hg, hh, _⟩
  · injection e1 with e1 _ _; subst e1; cases hk
  · injection e1 with e1 _ _; subst e1
    obtain rfl : g = k := by simpa [Value.ownBlock] using hk
    exact ⟨_, hh⟩
theorem Fr.grown {w w' : World} {b n c : Nat} {e : TypeId} {A : Option Addr} {xs : List Value} {row : Option Nat} (h : Fr w b e A n c xs) (hg : w.grownBy w' row) (hne : ∀ k, (Value.slice A n c).ownBlock = some k → row ≠ some k) : Fr w' b e A n c xs := by
  obtain ⟨h1, h2⟩ := h.own
  refine ⟨h1, ?_⟩
  rcases h2 with h2 | ⟨k, cap, cur, e1, hk, hh, r⟩
  · exact .inl h2
  · have hk1 : (Value.slice A n c).ownBlock = some k := by rw [e1]; rfl
    exact .inr ⟨k, cap, cur, e1, hk, (hg.block k (Array.getElem?_eq_some_iff.1 hh).1 (fun e => hne k hk1 e.symm)).trans hh, r⟩
theorem Fr.setFar {w : World} {b n c : Nat} {e : TypeId} {A : Option Addr} {xs : List Value} (h : Fr w b e A n c xs) {p : Addr} (hp : p.block < b) (u : Value) : Fr (w.setCell p u) b e A n c xs := ⟨ownsRow_setCell_below h.own hp _⟩
/-- The entries' row has grown, and stands in the writer. -/
theorem WrAt.put1 (h : WrAt w g r1 r2 E P s) {news : List UInt8} {A' : Option Addr} {n' c' : Nat} (hap : App w w' (g + 1) 5 (.slice r1.A r1.n r1.c) A' n' c' (bv E ++ bv news)) :
    WrAt (w'.setCell ⟨g, 0, none⟩ (.slice A' n' c')) g ⟨A', n', c'⟩ r2 (E ++ news) P s ∧ Below g w (w'.setCell ⟨g, 0, none⟩ (.slice A' n' c')) := by
  have hne : ∀ k, r2.v.ownBlock = some k → r1.v.ownBlock ≠ some k := fun k h2 h1 => h.ne k h1 h2
  have hsz := hap.grown.size
  have hlt := h.lt
  have hgb : w'.heap[g]? = w.heap[g]? := hap.grown.block g h.lt (fun e => by have := h.own1 g e.symm; omega)
  refine ⟨⟨by simp [World.setCell]; omega, ?_, ?_, ?_, ?_⟩, ?_⟩
  · simp only [World.setCell, Array.getElem?_modify, if_pos, hgb, h.h]
    rfl
  · rw [bv_append]; exact hap.fr.setFar (by simp) _
  · exact (h.f2.grown hap.grown hne).setFar (by simp) _
  · intro k hk h2
    rcases hap.at_ with e | e
    · exact h.ne k (e ▸ hk) h2
    · have h3 := hk
      show False
      have h4 : (Value.slice A' n' c').ownBlock = some k := hk
      rw [e] at h4
      have h5 := h.own2 k h2
      injection h4 with h4
      omega
  · exact Below.setCell (show Below g w w' from hap.below.mono (by omega)) (show g ≤ (⟨g, 0, none⟩ : Addr).block from Nat.le_refl _) _
theorem WrAt.put2 (h : WrAt w g r1 r2 E P s) {news : List UInt8} {A' : Option Addr} {n' c' : Nat} (hap : App w w' (g + 1) 5 (.slice r2.A r2.n r2.c) A' n' c' (bv P ++ bv news)) :
    WrAt (w'.setCell ⟨g, 1, none⟩ (.slice A' n' c')) g r1 ⟨A', n', c'⟩ E (P ++ news) s ∧ Below g w (w'.setCell ⟨g, 1, none⟩ (.slice A' n' c')) := by
  have hsz := hap.grown.size
  have hlt := h.lt
  have hgb : w'.heap[g]? = w.heap[g]? := hap.grown.block g h.lt (fun e => by have := h.own2 g e.symm; omega)
  refine ⟨⟨by simp [World.setCell]; omega, ?_, ?_, ?_, ?_⟩, ?_⟩
  · simp only [World.setCell, Array.getElem?_modify, if_pos, hgb, h.h]
    rfl
  · exact (h.f1.grown hap.grown h.ne).setFar (by simp) _
  · rw [bv_append]; exact hap.fr.setFar (by simp) _
  · intro k hk h2
    have h4 : (Value.slice A' n' c').ownBlock = some k := h2
    rcases hap.at_ with e | e
    · exact h.ne k hk (e ▸ h4)
    · rw [e] at h4
      have h5 := h.own1 k hk
      injection h4 with h4
      omega
  · exact Below.setCell (show Below g w w' from hap.below.mono (by omega)) (show g ≤ (⟨g, 1, none⟩ : Addr).block from Nat.le_refl _) _
theorem WrAt.put3 (h : WrAt w g r1 r2 E P s) (s' : ByteArray) : WrAt (w.setCell ⟨g, 2, none⟩ (.string s')) g r1 r2 E P s' ∧ Below g w (w.setCell ⟨g, 2, none⟩ (.string s')) := by
  have hlt := h.lt
  refine ⟨⟨by simp [World.setCell]; omega, ?_, h.f1.setFar (by simp) _, h.f2.setFar (by simp) _, h.ne⟩, Below.setCell (Below.refl g w) (show g ≤ (⟨g, 2, none⟩ : Addr).block from Nat.le_refl _) _⟩
  simp only [World.setCell, Array.getElem?_modify, if_pos, h.h]
  rfl
end
/-- A box that lies beyond the rows and the writer stays. -/
structure EnAt (w : World) (b : Nat) (x : Ent) : Prop where
  lt : b < w.heap.size
  h : w.heap[b]? = some (.cells #[.string x.s, .int .u64 (x.q : Int), .int .u8 (x.k : Int), .string x.v] 45 (0, 0))
theorem EnAt.cells {w : World} {b : Nat} {x : Ent} (h : EnAt w b x) : w.cell? ⟨b, 0, none⟩ = some (.string x.s) ∧ w.cell? ⟨b, 1, none⟩ = some (.int .u64 (x.q : Int)) ∧ w.cell? ⟨b, 2, none⟩ = some (.int .u8 (x.k : Int)) ∧ w.cell? ⟨b, 3, none⟩ = some (.string x.v) := by
  refine ⟨?_, ?_, ?_, ?_⟩ <;> (simp only [World.cell?, h.h]; rfl)
theorem EnAt.frozen {w : World} {b : Nat} {x : Ent} (h : EnAt w b x) : w.frozen? ⟨b, 0, none⟩ = false ∧ w.frozen? ⟨b, 1, none⟩ = false ∧ w.frozen? ⟨b, 2, none⟩ = false ∧ w.frozen? ⟨b, 3, none⟩ = false := by
  refine ⟨?_, ?_, ?_, ?_⟩ <;> simp [World.frozen?, h.h]
theorem EnAt.new (w : World) (x : Ent) : EnAt (w.alloc (.cells #[.string x.s, .int .u64 (x.q : Int), .int .u8 (x.k : Int), .string x.v] 45)) w.heap.size x := ⟨by simp, heap_alloc_new w _⟩
theorem EnAt.below {w w' : World} {b : Nat} {x : Ent} (h : EnAt w b x) (hb : Below w.heap.size w w') : EnAt w' b x :=
  ⟨by have := h.lt; have := hb.size; omega, by rw [hb.block b h.lt]; exact h.h⟩
theorem EnAt.drew {w : World} {b : Nat} {x : Ent} (h : EnAt w b x) : EnAt w.drew b x := h.below (below_drewN (Below.refl _ _) 1)
/-- An entry's box has other cells than a row of bytes, and than a writer. -/
theorem EnAt.grown {w w' : World} {b g b0 n c : Nat} {A : Option Addr} {xs : List Value} {x : Ent} (h : EnAt w b x) (hf : Fr w b0 5 A n c xs) (hg : w.grownBy w' (Value.slice A n c).ownBlock) (hne : b ≠ g) (o : Nat) (u : Value) : EnAt (w'.setCell ⟨g, o, none⟩ u) b x := by
  have hsz := hg.size
  have hlt := h.lt
  refine ⟨by simp [World.setCell]; omega, ?_⟩
  have h1 : w'.heap[b]? = w.heap[b]? := hg.block b h.lt (fun e => by
    obtain ⟨cur, hc⟩ := own_block hf e.symm
    rw [h.h] at hc
    injection hc with hc
    injection hc with h1 h2
    exact absurd h2 (by decide))
  simp only [World.setCell]
  rw [Array.getElem?_modify, if_neg (Ne.symm hne), h1, h.h]
/-- Behind an append, ahead of its store: the writer's cells are as they were. -/
theorem WrAt.far {w w' : World} {g : Nat} {r1 r2 : Row} {E P : List UInt8} {s : ByteArray} (h : WrAt w g r1 r2 E P s) {row : Option Nat} (hg : w.grownBy w' row) (hr : row ≠ some g) :
    (w'.frozen? ⟨g, 0, none⟩ = false ∧ w'.frozen? ⟨g, 1, none⟩ = false ∧ w'.frozen? ⟨g, 2, none⟩ = false) ∧ w'.cell? ⟨g, 0, none⟩ = some (.slice r1.A r1.n r1.c) ∧ w'.cell? ⟨g, 1, none⟩ = some (.slice r2.A r2.n r2.c) ∧ w'.cell? ⟨g, 2, none⟩ = some (.string s) := by
  have hb : w'.heap[g]? = w.heap[g]? := hg.block g h.lt (fun e => hr e.symm)
  refine ⟨⟨?_, ?_, ?_⟩, ?_, ?_, ?_⟩
  · simp [World.frozen?, hb, h.h]
  · simp [World.frozen?, hb, h.h]
  · simp [World.frozen?, hb, h.h]
  · simp only [World.cell?, hb, h.h]; rfl
  · simp only [World.cell?, hb, h.h]; rfl
  · simp only [World.cell?, hb, h.h]; rfl
theorem WrAt.ne1 {w : World} {g : Nat} {r1 r2 : Row} {E P : List UInt8} {s : ByteArray} (h : WrAt w g r1 r2 E P s) : (Value.slice r1.A r1.n r1.c).ownBlock ≠ some g := fun e => by have := h.own1 g e; omega
theorem WrAt.ne2 {w : World} {g : Nat} {r1 r2 : Row} {E P : List UInt8} {s : ByteArray} (h : WrAt w g r1 r2 E P s) : (Value.slice r2.A r2.n r2.c).ownBlock ≠ some g := fun e => by have := h.own2 g e; omega
end Go.Proofs.Ytkdjjdkcogolmaa
