/-
  The form that grows: two rows of bytes, a count; what a step of it keeps.
-/
import Derived.Test.YtkdjjdkcogolmaaGreatDoorT6
namespace Go.Proofs.YtkdjjdkcogolmaaGreatDoor
set_option maxRecDepth 100000
open Go.RowKit Go.Shelf
set_option linter.unusedVariables false
attribute [local go_sem] Oper.semAt_some

theorem Fr.nocells {W W' : World} {b n c : Nat} {e : TypeId} {A : Option Addr} {xs : List Value} {row : Option Nat} (h : Fr W b e A n c xs) (hg : W.grownBy W' row) (hr : ∀ r, row = some r → ∃ o : Obj, W.heap[r]? = some o ∧ o.isCells = false) : Fr W' b e A n c xs :=
  h.grown hg (fun k hk e2 => by
    obtain ⟨cur, hc⟩ := own_block h hk
    obtain ⟨o, ho, hn⟩ := hr k e2
    rw [hc] at ho; cases ho; cases hn)
/-- A box of another kind than a row of bytes stands behind an append. -/
theorem boxed_grown {W W' : World} {B b n c : Nat} {t : TypeId} {A : Option Addr} {v : Value} {xs : List Value} (h : Boxed W B t v) (ht : t ≠ 5) (hf : Fr W b 5 A n c xs) (hg : W.grownBy W' (Value.slice A n c).ownBlock) : Boxed W' B t v :=
  h.kept hg (fun e => by
    obtain ⟨cur, hc⟩ := own_block hf e.symm
    rw [show W.heap[B]? = _ from h] at hc
    cases hc; exact ht rfl)
theorem KpT.app {W W' : World} {g N₀ b n c : Nat} {A : Option Addr} {xs : List Value} (hf : Fr W b 5 A n c xs) (hg : W.grownBy W' (Value.slice A n c).ownBlock) (hb : Below g W W') : KpT g N₀ W W' :=
  ⟨hb, fun k o _ hX hne => (hg.block k (Array.getElem?_eq_some_iff.1 hX).1 (fun e => by
    obtain ⟨cur, hc⟩ := own_block hf e.symm
    rw [hX] at hc
    injection hc with hc
    exact hne _ _ hc)).trans hX⟩
theorem KpT.up {W W' : World} {g N N' : Nat} (h : KpT g N W W') (hN : N ≤ N') : KpT g N' W W' := ⟨h.below, fun b o hb => h.same b o (by omega)⟩
theorem KpT.set {W : World} {g N₀ b : Nat} (hg : g ≤ b) (hb : b < N₀) (u : Value) : KpT g N₀ W (W.setCell ⟨b, 0, none⟩ u) :=
  ⟨(Below.refl g W).setCell (p := ⟨b, 0, none⟩) hg u, fun k o hk hX _ => by simp only [World.setCell]; rw [Array.getElem?_modify, if_neg (by omega)]; exact hX⟩

structure FmAt (w : World) (g : Nat) (v : Value) (x1 x2 : List UInt8) (k : Nat) (r1 r2 : Row) (W : World) : Prop where
  b1 : Boxed W g 24 r1.v
  f1 : Fr W g 5 r1.A r1.n r1.c (bv x1)
  b2 : Boxed W (g + 1) 24 r2.v
  f2 : Fr W g 5 r2.A r2.n r2.c (bv x2)
  ne : ∀ k, r1.v.ownBlock = some k → r2.v.ownBlock ≠ some k
  b3 : Boxed W (g + 1 + 1) 3 (.int .i64 (k : Int))
  b4 : Boxed W (g + 1 + 1 + 1) 23 v
  below : Below g w W
  size : g + 4 ≤ W.heap.size
section
variable {w W W' : World} {g k : Nat} {v : Value} {x1 x2 : List UInt8} {r1 r2 : Row}
theorem FmAt.under (h : FmAt w g v x1 x2 k r1 r2 W) (hb : Below W.heap.size W W') : FmAt w g v x1 x2 k r1 r2 W' :=
  ⟨boxed_below h.b1 hb, h.f1.below hb, boxed_below h.b2 hb, h.f2.below hb, h.ne, boxed_below h.b3 hb, boxed_below h.b4 hb, h.below.trans (hb.mono (by have := h.size; omega)), Nat.le_trans h.size hb.size⟩
theorem FmAt.nocells {row : Option Nat} (h : FmAt w g v x1 x2 k r1 r2 W) (hg : W.grownBy W' row) (hr : ∀ r, row = some r → g + 4 ≤ r ∧ ∃ o : Obj, W.heap[r]? = some o ∧ o.isCells = false) : FmAt w g v x1 x2 k r1 r2 W' :=
  have hr2 : ∀ r, row = some r → ∃ o : Obj, W.heap[r]? = some o ∧ o.isCells = false := fun r e => (hr r e).2
  ⟨boxed_nocells h.b1 hg hr2, h.f1.nocells hg hr2, boxed_nocells h.b2 hg hr2, h.f2.nocells hg hr2, h.ne, boxed_nocells h.b3 hg hr2, boxed_nocells h.b4 hg hr2, h.below.grown hg (by have := h.size; omega) (fun k e => by have := (hr k e).1; omega), Nat.le_trans h.size hg.size⟩
theorem FmAt.put2 (h : FmAt w g v x1 x2 k r1 r2 W) {y : List UInt8} {A' : Option Addr} {n' c' : Nat} (hap : App W W' g 5 (.slice r2.A r2.n r2.c) A' n' c' (bv x2 ++ bv y)) :
    FmAt w g v x1 (x2 ++ y) k r1 ⟨A', n', c'⟩ (W'.setCell ⟨g + 1, 0, none⟩ (.slice A' n' c')) ∧ KpT g (g + 3) W (W'.setCell ⟨g + 1, 0, none⟩ (.slice A' n' c')) ∧ Boxed W' (g + 1) 24 r2.v := by
  have hs := h.size
  have hne : ∀ k, r1.v.ownBlock = some k → r2.v.ownBlock ≠ some k := h.ne
  have hb2 : Boxed W' (g + 1) 24 r2.v := boxed_grown h.b2 (by decide) h.f2 hap.grown
  have hf2 : Fr W' g 5 A' n' c' (bv (x2 ++ y)) := by rw [bv_append]; exact hap.fr
  have hset : ∀ {t : TypeId} {B : Nat} {u : Value}, t ≠ 5 → B ≠ g + 1 → Boxed W B t u → Boxed (W'.setCell ⟨g + 1, 0, none⟩ (.slice A' n' c')) B t u := fun ht hB hx => (boxed_grown hx ht h.f2 hap.grown).other hB _
  refine ⟨⟨hset (by decide) (by omega) h.b1, ?_, hb2.set _, ?_, ?_, hset (by decide) (by omega) h.b3, hset (by decide) (by omega) h.b4, ?_, ?_⟩, ?_, hb2⟩
  · have h1 : Fr W' g 5 r1.A r1.n r1.c (bv x1) := h.f1.grown hap.grown (fun k hk e => hne k hk e)
    exact h1.grown (grownBy_setCell' W' (g + 1) _) (fun k hk e => by cases e; obtain ⟨cur, hc⟩ := own_block h1 hk; rw [show W'.heap[g + 1]? = _ from hb2] at hc; cases hc)
  · exact hf2.grown (grownBy_setCell' W' (g + 1) _) (fun k hk e => by cases e; obtain ⟨cur, hc⟩ := own_block hf2 hk; rw [show W'.heap[g + 1]? = _ from hb2] at hc; cases hc)
  · intro k hk h2
    have h4 : (Value.slice A' n' c').ownBlock = some k := h2
    rcases hap.at_ with e | e
    · exact hne k hk (e ▸ h4)
    · rw [e] at h4
      obtain ⟨cur, hc⟩ := own_block h.f1 hk
      have := (Array.getElem?_eq_some_iff.1 hc).1
      injection h4 with h4
      omega
  · exact (h.below.trans hap.below).setCell (p := ⟨g + 1, 0, none⟩) (by simp) _
  · have := hap.grown.size; simp [World.setCell]; omega
  · exact (KpT.app h.f2 hap.grown hap.below).trans (KpT.set (by omega) (by omega) _)
theorem FmAt.put1 (h : FmAt w g v x1 x2 k r1 r2 W) {y : List UInt8} {A' : Option Addr} {n' c' : Nat} (hap : App W W' g 5 (.slice r1.A r1.n r1.c) A' n' c' (bv x1 ++ bv y)) :
    FmAt w g v (x1 ++ y) x2 k ⟨A', n', c'⟩ r2 (W'.setCell ⟨g, 0, none⟩ (.slice A' n' c')) ∧ KpT g (g + 3) W (W'.setCell ⟨g, 0, none⟩ (.slice A' n' c')) ∧ Boxed W' g 24 r1.v ∧ Boxed W' (g + 1 + 1) 3 (.int .i64 (k : Int)) := by
  have hs := h.size
  have hne : ∀ k, r1.v.ownBlock = some k → r2.v.ownBlock ≠ some k := h.ne
  have hb2 : Boxed W' g 24 r1.v := boxed_grown h.b1 (by decide) h.f1 hap.grown
  have hf2 : Fr W' g 5 A' n' c' (bv (x1 ++ y)) := by rw [bv_append]; exact hap.fr
  have hset : ∀ {t : TypeId} {B : Nat} {u : Value}, t ≠ 5 → B ≠ g → Boxed W B t u → Boxed (W'.setCell ⟨g, 0, none⟩ (.slice A' n' c')) B t u := fun ht hB hx => (boxed_grown hx ht h.f1 hap.grown).other hB _
  refine ⟨⟨hb2.set _, ?_, hset (by decide) (by omega) h.b2, ?_, ?_, hset (by decide) (by omega) h.b3, hset (by decide) (by omega) h.b4, ?_, ?_⟩, ?_, hb2, boxed_grown h.b3 (by decide) h.f1 hap.grown⟩
  · exact hf2.grown (grownBy_setCell' W' g _) (fun k hk e => by cases e; obtain ⟨cur, hc⟩ := own_block hf2 hk; rw [show W'.heap[g]? = _ from hb2] at hc; cases hc)
  · have h1 : Fr W' g 5 r2.A r2.n r2.c (bv x2) := h.f2.grown hap.grown (fun k hk e => hne k e hk)
    exact h1.grown (grownBy_setCell' W' g _) (fun k hk e => by cases e; obtain ⟨cur, hc⟩ := own_block h1 hk; rw [show W'.heap[g]? = _ from hb2] at hc; cases hc)
  · intro k hk h2
    have h4 : (Value.slice A' n' c').ownBlock = some k := hk
    rcases hap.at_ with e | e
    · exact hne k (e ▸ h4) h2
    · rw [e] at h4
      obtain ⟨cur, hc⟩ := own_block h.f2 h2
      have := (Array.getElem?_eq_some_iff.1 hc).1
      injection h4 with h4
      omega
  · exact (h.below.trans hap.below).setCell (p := ⟨g, 0, none⟩) (Nat.le_refl _) _
  · have := hap.grown.size; simp [World.setCell]; omega
  · exact (KpT.app h.f1 hap.grown hap.below).trans (KpT.set (Nat.le_refl _) (by omega) _)
theorem FmAt.put3 (h : FmAt w g v x1 x2 k r1 r2 W) : FmAt w g v x1 x2 (k + 1) r1 r2 (W.setCell ⟨g + 1 + 1, 0, none⟩ (.int .i64 ((k : Int) + 1))) ∧ KpT g (g + 3) W (W.setCell ⟨g + 1 + 1, 0, none⟩ (.int .i64 ((k : Int) + 1))) := by
  have hs := h.size
  refine ⟨⟨h.b1.other (by omega) _, ?_, h.b2.other (by omega) _, ?_, h.ne, ?_, h.b4.other (by omega) _, h.below.setCell (p := ⟨g + 1 + 1, 0, none⟩) (by simp; omega) _, by simp [World.setCell]; omega⟩, KpT.set (by omega) (by omega) _⟩
  · exact h.f1.grown (grownBy_setCell' W (g + 1 + 1) _) (fun k hk e => by cases e; obtain ⟨cur, hc⟩ := own_block h.f1 hk; rw [show W.heap[g + 1 + 1]? = _ from h.b3] at hc; cases hc)
  · exact h.f2.grown (grownBy_setCell' W (g + 1 + 1) _) (fun k hk e => by cases e; obtain ⟨cur, hc⟩ := own_block h.f2 hk; rw [show W.heap[g + 1 + 1]? = _ from h.b3] at hc; cases hc)
  · exact h.b3.set _
end
/-- An append at a step of a region inside a fence. -/
theorem stepIn_app {F : Fence} {fuel : Nat} {ops : Array Oper} {o : Oper} {a : Act} {K : Act → World → Prop} {Q : Exit → Act → World → Prop} {E : Prop} {w : World} (hgd : o.guard = none) (s x : Operand)
    (ho : o.op = .call { callee := .builtin .append, args := #[s, x], argTypes := #[24, 24] })
    {b : Nat} {A : Option Addr} {n c : Nat} {xs : List Value} (h : Fr w b 5 A n c xs) (hs : a.eval s = .slice A n c)
    {B m c2 : Nat} {A2 : Option Addr} {news : List Value} (hr : Rd w B A2 m c2 news) (hx : a.eval x = .slice A2 m c2) (h1 : ∀ u ∈ news, u.oneCell' = true) (h63 : n + m ≤ 140737488355328) (hb : b ≤ w.heap.size)
    (hk : ∀ A' c' w', App w w' b 5 (.slice A n c) A' (n + m) c' (xs ++ news) → K (a.put o.dst (.slice A' (n + m) c')) w') :
    if Region.wanted o (yielded ops a.tmps) = true then Oper.wpIn F fuel Tryz.prog o a w K Q else E := by
  have hw : Region.wanted o (yielded ops a.tmps) = true := by simp [Region.wanted, hgd]
  rw [if_pos hw]
  obtain ⟨A', c', w', hrun, h2⟩ := run_app (P := Tryz.prog) w 24 o.type 5 Tryz.underlying24 info_u8 rfl h hr h1 (by omega) h63 hb
  unfold Oper.wpIn
  refine ⟨?_, ?_⟩
  · simp [Oper.about, ho, resolve, Target.leads, Sem.run_pure]
  · rw [Oper.semAt_plain F _ _ (by rw [ho]; intro c hc'; cases hc')]
    simp only [execOp, ho, resolve, invoke, builtin, Sem.run_bind, Sem.run_pure, Result.andThen_ok, List.map_toArray, List.map_cons, List.map_nil, hs, hx, hrun]
    exact hk A' c' w' h2
end Go.Proofs.YtkdjjdkcogolmaaGreatDoor
