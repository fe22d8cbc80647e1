/-
  The texts TW, TH, in one.
-/
import Derived.Test.YtkdjjdkcogolmaaGreatDoorT2
import Derived.RangeFuncNested
import Derived.RangeFuncBound
import Derived.RangeFuncCalls
import Derived.RangeFuncLeaves
import Derived.OrdersIn
section
/-
  A loop over an iterator that hands out what it has itself laid in memory, or reads memory of its own between two rounds: the body may break; what the iterator asks a round to keep is a word of its own (Kp).
-/
namespace Go.Proofs.YtkdjjdkcogolmaaGreatDoor
set_option maxRecDepth 100000
open Go.RowKit
set_option linter.unusedVariables false

section
variable {F : Fence} {n : Nat} {P : Program}

theorem ofBelow {β : Type} {B : Nat} {J : β → World → Prop} (h : OwnFrom B J) {s : β} {X Y : World} (hs : J s X) (hb : Below X.heap.size X Y) : J s Y :=
  h s X Y none hs ⟨hb.os, hb.tape, hb.output, hb.size, fun k hk _ => hb.block k hk⟩ (fun r e => by cases e)
/-- The iterator's word: it hands out some xs with S xs, X x B holding of each where it is handed out (B: where what the round began with ends); or it ends behind a round that said 'no more'. -/
def YieldsS {α : Type} (F : Fence) (n : Nat) (P : Program) (g : Nat) (lb : Array Value) (encs : α → Array Value) (Kp : World → World → Prop) (X : α → Nat → World → Prop) (S Sp : List α → Prop) (N : Nat) (w : World) : Prop :=
  ∀ (l : Nat) (J Jx : List α → World → Prop) (W : World), w.heap.size + 2 = W.heap.size → Below w.heap.size w W → OwnFrom W.heap.size J → OwnFrom W.heap.size Jx →
    (∀ pre x W0 W1, J pre W0 → Below W0.heap.size W0 W1 → X x W0.heap.size W1 → pre.length < N → YieldAt F (n - 1) P l (encs x) W1 fun e W' => (e = .returned (.bool true) ∧ J (pre ++ [x]) W' ∧ Kp W1 W') ∨ (e = .returned (.bool false) ∧ Jx (pre ++ [x]) W' ∧ Kp W1 W')) →
    J [] W → CallsIn F n P g (#[.func (.yield l) #[] #[]] ++ lb) W fun e W' => (∃ v, e = .returned v) ∧ ((∃ xs, S xs ∧ J xs W') ∨ (∃ pre, Sp pre ∧ Jx pre W'))
def goesOnS {α : Type} (B : Nat) (Kp : World → World → Prop) (I : List α → World → Prop) (Ix : Code → List α → World → Prop) (xs : List α) (W : World) : Exit → Act → World → Prop
  | .normal, _, W' => KeepsFrom B W W' ∧ Kp W W' ∧ I xs W'
  | .exit id, _, W' => KeepsFrom B W W' ∧ Kp W W' ∧ Ix (.exit id) xs W'
  | .ret, _, W' => KeepsFrom B W W' ∧ Kp W W' ∧ Ix .ret xs W'
  | _, _, _ => False

theorem range_madeS {α : Type} {g : Operand} {ps : Array Tmp} {assign body : Code} {Q : Exit → Act → World → Prop} {a : Act} {w : World}
    (hro : F.round = none) (h1 : 1 ≤ n) {gf : Nat} {lb : Array Value} (hg : a.eval g = .func (.func gf) #[] lb) (hFg : F.fn gf) (eg : ∀ args w, (callFunc gf args).run P w = .ok (.enter gf args) w)
    {encs : α → Array Value} {Kp : World → World → Prop} {X : α → Nat → World → Prop} {S Sp : List α → Prop} {N : Nat} (hseq : YieldsS F (n - 1) P gf lb encs Kp X S Sp N w)
    (hKt : ∀ {A B C : World}, Kp A B → Kp B C → Kp A C) (hKb : ∀ (W : World) (o o' : Obj), W.heap[w.heap.size + 1]? = some o → o.isCells = false → Kp W (W.putObj (w.heap.size + 1) o')) (hps : ∀ x, (encs x).size = ps.size)
    (I : List α → World → Prop) (Ix : Code → List α → World → Prop) (hI : OwnFrom w.heap.size I) (hIx : ∀ c, OwnFrom w.heap.size (Ix c)) (h0 : I [] w) (Ax : α → Act → World → Prop) (hAx : ∀ x a', OwnFrom w.heap.size (fun (_ : Unit) W => Ax x a' W))
    (hassign : ∀ (l : Nat) (pre : List α) (x : α) (W0 W : World) (K : Act → World → Prop), I pre W0 → I pre W → Below W0.heap.size W0 W → X x W0.heap.size W → w.heap.size + 2 ≤ W.heap.size → (∀ a' W', KeepsFrom w.heap.size W W' → Kp W W' → I pre W' → Ax x a' W' → K a' W') →
      assign.wpIn (F.inRound l) (n - 1 - 1) P (Exit.then K (fun _ _ _ => False)) { tmps := (ps.zip (encs x)).foldl (fun t (p, v) => t.setIfInBounds p v) a.tmps, defers := [] } W)
    (hbody : ∀ (l : Nat) (pre : List α) (x : α) (a' : Act) (W : World), I pre W → Ax x a' W → pre.length < N → w.heap.size + 2 ≤ W.heap.size → body.wpIn (F.inRound l) (n - 1 - 1) P (goesOnS w.heap.size Kp I Ix (pre ++ [x]) W) a' W)
    (hdone : ∀ (D : Nat) (xs : List α) (W : World), w.heap.size ≤ D → S xs → I xs W → W.heap[D]? = some (.deferred (some [])) → Q .normal { a with defers := { target := .collected D, args := #[] } :: a.defers } W)
    (hstop : ∀ (D : Nat) (c : Code) (pre : List α) (W : World), w.heap.size ≤ D → Sp pre → Ix c pre W → W.heap[D]? = some (.deferred (some [])) → c.wpIn F n P Q { a with defers := { target := .collected D, args := #[] } :: a.defers } W) :
    (Code.rangeFunc g ps assign body).wpIn F n P Q a w := by
  refine wpIn_rangeFunc fun fn hfn => ?_
  rw [hro]
  obtain ⟨R, hR⟩ : ∃ R : LoopState → Option Code → Loop, ∀ s p, R s p = { state := s, pending := p, fn, tmps := a.tmps, params := ps, assign, body, defers := w.heap.size } := ⟨_, fun _ _ => rfl⟩
  obtain ⟨W1, hW1⟩ : ∃ W1, (w.alloc (.deferred (some []))).alloc (.loop (R .ready none)) = W1 := ⟨_, rfl⟩
  have hrec : W1.heap[w.heap.size + 1]? = some (.loop (R .ready none)) := by
    have h2 := heap_alloc_new (w.alloc (.deferred (some []))) (.loop (R .ready none))
    rw [hW1] at h2
    simpa using h2
  have hdef : W1.heap[w.heap.size]? = some (.deferred (some [])) := by
    rw [← hW1]
    exact (((Below.refl (w.heap.size + 1) (w.alloc (.deferred (some [])))).alloc (by simp) (.loop (R .ready none))).block _ (by omega)).trans (heap_alloc_new w _)
  have hbel : Below w.heap.size w W1 := by rw [← hW1]; exact ((Below.refl _ w).alloc (Nat.le_refl _) _).alloc (by simp) _
  have hsz : w.heap.size + 2 = W1.heap.size := by rw [← hW1]; simp
  have hst : I [] W1 := by rw [← hW1]; exact hI.alloc _ (hI.alloc _ h0)
  refine ⟨w.heap.size + 1, [{ target := .collected w.heap.size, args := #[] }], W1, { target := .fn (.func gf) lb, args := #[.func (.yield (w.heap.size + 1)) #[] #[]] }, W1, gf,
    #[.func (.yield (w.heap.size + 1)) #[] #[]] ++ lb, W1, ?_, ?_, ?_, ?_, fun _ => h1, ?_⟩
  · rw [← hW1, hR]; exact run_enterLoop_outer _ _ _ _ _
  · simp only [resolve, hg]; simp [go_sem]
  · intro f' hf'; simp [Target.leads] at hf'; subst hf'; exact hFg
  · simp [invoke, go_sem, eg]
  have hkeep : ∀ {X Y : World} {row : Option Nat} {k : Nat} {o : Obj}, k < W1.heap.size → X.grownBy Y row → (∀ r, row = some r → W1.heap.size ≤ r ∧ ∃ o : Obj, X.heap[r]? = some o ∧ o.isCells = false) → X.heap[k]? = some o → Y.heap[k]? = some o := by
    intro X Y row k o hk hg2 hr hX
    exact (hg2.block k (Array.getElem?_eq_some_iff.1 hX).1 (fun e => by have := (hr k e.symm).1; omega)).trans hX
  have hlow : ∀ {X : World} {row : Option Nat}, (∀ r, row = some r → W1.heap.size ≤ r ∧ ∃ o : Obj, X.heap[r]? = some o ∧ o.isCells = false) → (∀ r, row = some r → w.heap.size ≤ r ∧ ∃ o : Obj, X.heap[r]? = some o ∧ o.isCells = false) :=
    fun hr r e => ⟨by have := (hr r e).1; omega, (hr r e).2⟩
  refine (hseq (w.heap.size + 1) (fun pre W => I pre W ∧ W.heap[w.heap.size + 1]? = some (.loop (R .ready none)) ∧ W.heap[w.heap.size]? = some (.deferred (some [])) ∧ w.heap.size + 2 ≤ W.heap.size)
    (fun pre W => ∃ c, Ix c pre W ∧ W.heap[w.heap.size + 1]? = some (.loop (R .done (some c))) ∧ W.heap[w.heap.size]? = some (.deferred (some [])))
    W1 hsz hbel ?stays ?staysx ?round ⟨hst, hrec, hdef, by omega⟩).mono ?behind
  case stays =>
    rintro s A B row ⟨h2, h4, h5, h6⟩ hb hr
    exact ⟨hI s A B row h2 hb (hlow hr), hkeep (by omega) hb hr h4, hkeep (by omega) hb hr h5, Nat.le_trans h6 hb.size⟩
  case staysx =>
    rintro s A B row ⟨c, h2, h4, h5⟩ hb hr
    exact ⟨c, hIx c s A B row h2 hb (hlow hr), hkeep (by omega) hb hr h4, hkeep (by omega) hb hr h5⟩
  case round =>
    rintro pre x W0 W ⟨hi0, hl0, hk0, hs0⟩ hb0 hx hlen
    have hi := ofBelow hI hi0 hb0
    have hl := (hb0.block _ (Array.getElem?_eq_some_iff.1 hl0).1).trans hl0
    have hk := (hb0.block _ (Array.getElem?_eq_some_iff.1 hk0).1).trans hk0
    have hs : w.heap.size + 2 ≤ W.heap.size := Nat.le_trans hs0 hb0.size
    have hy := run_yield (P := P) (args := encs x) hl (by rw [hR]; exact hps x)
    rw [hR] at hy
    refine ⟨fn, _, assign, body, hy, roundIn_of_wpIn hfn (hassign _ pre x W0 W _ hi0 hi hb0 hx hs fun a' Wa k1 k2 hia hax => ?_)⟩
    clear hy
    have hla := k1.same _ _ (by omega) hl rfl
    have hka := k1.same _ _ (Nat.le_refl _) hk rfl
    have hsa : w.heap.size + 2 ≤ Wa.heap.size := Nat.le_trans hs k1.size
    have hlt : w.heap.size + 1 < Wa.heap.size := (Array.getElem?_eq_some_iff.1 hla).1
    refine ⟨_, run_beginRound hla (by rw [hR]), ?_⟩
    obtain ⟨o2, ho2⟩ : ∃ o2 : Loop, { R .ready none with state := .busy } = o2 := ⟨_, rfl⟩
    rw [ho2]
    obtain ⟨Wb, hWb⟩ : ∃ Wb, Wa.putObj (w.heap.size + 1) (.loop o2) = Wb := ⟨_, rfl⟩
    have hlb : Wb.heap[w.heap.size + 1]? = some (.loop o2) := by rw [← hWb]; exact World.putObj_heap_same hlt
    have hkb : Wb.heap[w.heap.size]? = some (.deferred (some [])) := by rw [← hWb]; exact (World.putObj_heap_other (by omega)).trans hka
    have hib : I pre Wb := by rw [← hWb]; exact hI.putObj _ hia (by omega) hla rfl
    have haxb : Ax x a' Wb := by rw [← hWb]; exact (hAx x a').putObj (s := ()) _ hax (by omega) hla rfl
    have hKp2 : Kp Wa Wb := by rw [← hWb]; exact hKb _ _ _ hla rfl
    have hsb : w.heap.size + 2 ≤ Wb.heap.size := by rw [← hWb]; exact Nat.le_trans hsa (grownBy_putObj' Wa _ _).size
    rw [hWb]
    refine wpIn_mono (hbody _ pre x a' Wb hib haxb hlen hsb) ?_
    rintro e a3 W3 hp
    cases e with
    | normal =>
      obtain ⟨k3, hkp3, hi3⟩ := hp
      have hl3 := k3.same _ _ (by omega) hlb rfl
      have hk3 := k3.same _ _ (Nat.le_refl _) hkb rfl
      have hr := run_endRound (P := P) none hl3
      have hlt3 := (Array.getElem?_eq_some_iff.1 hl3).1
      have e3 : { o2 with state := if (none : Option Code).isNone = true then LoopState.ready else .done, pending := none } = R .ready none := by rw [← ho2, hR]; rfl
      rw [e3] at hr
      exact ⟨_, _, hr, .inl ⟨rfl, ⟨hI.putObj _ hi3 (by omega) hl3 rfl, World.putObj_heap_same hlt3, (World.putObj_heap_other (by omega)).trans hk3, Nat.le_trans (Nat.le_trans hsb k3.size) (grownBy_putObj' W3 _ _).size⟩, hKt k2 (hKt hKp2 (hKt hkp3 (hKb _ _ _ hl3 rfl)))⟩⟩
    | exit id =>
      obtain ⟨k3, hkp3, hi3⟩ := hp
      have hl3 := k3.same _ _ (by omega) hlb rfl
      have hk3 := k3.same _ _ (Nat.le_refl _) hkb rfl
      have hr := run_endRound (P := P) (some (.exit id)) hl3
      have hlt3 := (Array.getElem?_eq_some_iff.1 hl3).1
      have e3 : { o2 with state := if (some (Code.exit id) : Option Code).isNone = true then LoopState.ready else .done, pending := some (.exit id) } = R .done (some (.exit id)) := by rw [← ho2]; simp only [hR]; rfl
      rw [e3] at hr
      exact ⟨_, _, hr, .inr ⟨rfl, ⟨.exit id, (hIx _).putObj _ hi3 (by omega) hl3 rfl, World.putObj_heap_same hlt3, (World.putObj_heap_other (by omega)).trans hk3⟩, hKt k2 (hKt hKp2 (hKt hkp3 (hKb _ _ _ hl3 rfl)))⟩⟩
    | ret =>
      obtain ⟨k3, hkp3, hi3⟩ := hp
      have hl3 := k3.same _ _ (by omega) hlb rfl
      have hk3 := k3.same _ _ (Nat.le_refl _) hkb rfl
      have hr := run_endRound (P := P) (some .ret) hl3
      have hlt3 := (Array.getElem?_eq_some_iff.1 hl3).1
      have e3 : { o2 with state := if (some Code.ret : Option Code).isNone = true then LoopState.ready else .done, pending := some .ret } = R .done (some .ret) := by rw [← ho2]; simp only [hR]; rfl
      rw [e3] at hr
      exact ⟨_, _, hr, .inr ⟨rfl, ⟨.ret, (hIx _).putObj _ hi3 (by omega) hl3 rfl, World.putObj_heap_same hlt3, (World.putObj_heap_other (by omega)).trans hk3⟩, hKt k2 (hKt hKp2 (hKt hkp3 (hKb _ _ _ hl3 rfl)))⟩⟩
    | goto t => exact hp.elim
    | panic ch => exact hp.elim
    | outgrown => exact hp.elim
  case behind =>
    rintro e W2 ⟨⟨v, rfl⟩, (⟨xs, hS, hi, hl, hk, _⟩ | ⟨pre, hSp, c, hi, hl, hk⟩)⟩
    · have hr := run_endLoop (P := P) hl (by rw [hR]; simp)
      rw [hR] at hr
      exact ⟨none, _, hr, hdone _ xs _ (Nat.le_refl _) hS (hI.putObj _ hi (by omega) hl rfl) ((World.putObj_heap_other (by omega)).trans hk)⟩
    · have hr := run_endLoop (P := P) hl (by rw [hR]; simp)
      rw [hR] at hr
      exact ⟨some c, _, hr, hstop _ c pre _ (Nat.le_refl _) hSp ((hIx c).putObj _ hi (by omega) hl rfl) ((World.putObj_heap_other (by omega)).trans hk)⟩
theorem room_none {F : Fence} (hd : F.depth = none) (k : Nat) : F.room k := fun d h => by rw [hd] at h; cases h
/-- Where no depth is asked the figures are all one. -/
theorem yieldAt_any {F : Fence} (hd : F.depth = none) {m : Nat} (m' : Nat) {P : Program} {l : Nat} {args : Array Value} {W : World} {R : Ending → World → Prop} (h : YieldAt F m P l args W R) : YieldAt F m' P l args W R := by
  obtain ⟨fn, tmps, assign, body, hy, hR⟩ := h
  exact ⟨fn, tmps, assign, body, hy, hR.1, fun c cs _ => hR.2 c cs (room_none hd _)⟩
theorem yieldAt_round {F : Fence} {m : Nat} {P : Program} {l l' : Nat} {args : Array Value} {W : World} {R : Ending → World → Prop} (h : YieldAt F m P l args W R) : YieldAt (F.inRound l') m P l args W R := h
end
end Go.Proofs.YtkdjjdkcogolmaaGreatDoor
end

section
/-
  A region that draws its order within a round: where none of its operations defers, its orders may be walked as outside of a round.
-/
namespace Go.Proofs.YtkdjjdkcogolmaaGreatDoor
set_option maxRecDepth 100000
open Go.RowKit
set_option linter.unusedVariables false

section
variable {F : Fence} {n : Nat} {P : Program} {md : Region.Mode} {ops : Array Oper} {Q : Exit → Act → World → Prop} {l : Nat}
def calmB (ops : Array Oper) : Bool := ops.all fun o => match o.op with | .defer _ => false | _ => true
theorem calm_at (h : calmB ops = true) {j : Nat} {o : Oper} (ho : ops[j]? = some o) (c : Call) : o.op ≠ .defer c := fun e => by
  have := Array.all_eq_true_iff_forall_mem.1 h o (Array.mem_of_getElem? ho)
  simp [e] at this
theorem upon_round (o : Oper) (a : Act) (K : Act → World → Prop) (r : Result Next) : o.uponIn (F.inRound l) n P a K Q r = o.uponIn F n P a K Q r := by
  cases r with
  | ok x w => cases x <;> rfl
  | halt x w => cases x <;> rfl
theorem wpOp_round (h : calmB ops = true) (hro : F.round = none) {i : Nat} {K : Act → World → Prop} {a : Act} {w : World} (hh : wpOpIn F n P ops Q i K a w) : wpOpIn (F.inRound l) n P ops Q i K a w := by
  unfold wpOpIn at *
  split
  · rename_i e; rw [e] at hh; exact hh
  · rename_i o e
    rw [e] at hh
    simp only at hh
    split
    · rename_i hw
      rw [if_pos hw] at hh
      unfold Oper.wpIn at *
      refine ⟨hh.1, ?_⟩
      rw [upon_round, Oper.semAt_eq _ _ _ (calm_at h e)]
      have h2 := hh.2
      rw [Oper.semAt_eq _ _ _ (calm_at h e)] at h2
      exact h2
    · rename_i hw
      rw [if_neg hw] at hh
      exact hh
theorem wpAny_round (h : calmB ops = true) (hro : F.round = none) : ∀ (fuel : Nat) (listed : Array Bool) (a : Act) (w : World), wpAnyIn F n P md ops Q fuel listed a w → wpAnyIn (F.inRound l) n P md ops Q fuel listed a w
  | 0, _, _, _, hh => hh
  | fuel + 1, listed, a, w, hh => ⟨hh.1, fun i hi => wpOp_round h hro (wpOpIn_mono (fun a' w' h' => wpAny_round h hro fuel _ a' w' h') (hh.2 i hi))⟩
/-- The beginning. -/
theorem region_round {id : Nat} {a : Act} {w : World} (hm : P.follows .mixedOrders = true) (h : calmB ops = true) (hro : F.round = none)
    (hh : wpAnyIn F n P .any ops Q ops.size (Array.replicate ops.size false) a w.drew) : (Code.region id ops true).wpIn (F.inRound l) n P Q a w :=
  wpIn_region_any hm (wpAny_round h hro _ _ _ _ hh)
end
end Go.Proofs.YtkdjjdkcogolmaaGreatDoor
end
