/-
  A region that draws its order within a round: where none of its operations defers, its orders may be walked as outside of a round.
-/
import Derived.Test.YtkdjjdkcogolmaaTW
import Derived.OrdersIn
namespace Go.Proofs.Ytkdjjdkcogolmaa
set_option maxRecDepth 100000
open Go.RowKit
set_option linter.unusedVariables false

section
variable {F : Fence} {n : Nat} {P : Program} {md : Region.Mode} {ops : Array Oper} {Q : Exit → Act → World → Prop} {l : Nat}
def calmB (ops : Array Oper) : Bool := ops.all fun o => match o.op with | .defer _ => false | _ => true
theorem calm_at (h : calmB ops = true) {j : Nat} {o : Oper} (ho : ops[j]? = some o) (c : Call) : o.op ≠ .defer c := fun e => by
  have := Array.all_eq_true_iff_forall_mem.1 h o (Array.mem_of_getElem? ho)
  simp [e] at this
theorem upon_round (o : Oper) (a : Act) (K : Act → World → Prop) (r : Result Next) : o.uponIn (F.inRound l) n P a K Q r = o.uponIn F n P a K Q r := by
  cases r with
  | ok x w => cases x <;> rfl
  | halt x w => cases x <;> rfl
theorem wpOp_round (h : calmB ops = true) (hro : F.round = none) {i : Nat} {K : Act → World → Prop} {a : Act} {w : World} (hh : wpOpIn F n P ops Q i K a w) : wpOpIn (F.inRound l) n P ops Q i K a w := by
  unfold wpOpIn at *
  split
  · rename_i e; rw [e] at hh; exact hh
  · rename_i o e
    rw [e] at hh
    simp only at hh
    split
    · rename_i hw
      rw [if_pos hw] at hh
      unfold Oper.wpIn at *
      refine ⟨hh.1, ?_⟩
      rw [upon_round, Oper.semAt_eq _ _ _ (calm_at h e)]
      have h2 := hh.2
      rw [Oper.semAt_eq _ _ _ (calm_at h e)] at h2
      exact h2
    · rename_i hw
      rw [if_neg hw] at hh
      exact hh
theorem wpAny_round (h : calmB ops = true) (hro : F.round = none) : ∀ (fuel : Nat) (listed : Array Bool) (a : Act) (w : World), wpAnyIn F n P md ops Q fuel listed a w → wpAnyIn (F.inRound l) n P md ops Q fuel listed a w
  | 0, _, _, _, hh => hh
  | fuel + 1, listed, a, w, hh => ⟨hh.1, fun i hi => wpOp_round h hro (wpOpIn_mono (fun a' w' h' => wpAny_round h hro fuel _ a' w' h') (hh.2 i hi))⟩
/-- The beginning. -/
theorem region_round {id : Nat} {a : Act} {w : World} (hm : P.follows .mixedOrders = true) (h : calmB ops = true) (hro : F.round = none)
    (hh : wpAnyIn F n P .any ops Q ops.size (Array.replicate ops.size false) a w.drew) : (Code.region id ops true).wpIn (F.inRound l) n P Q a w :=
  wpIn_region_any hm (wpAny_round h hro _ _ _ _ hh)
end
end Go.Proofs.Ytkdjjdkcogolmaa
