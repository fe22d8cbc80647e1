/-
  Words for rows of entries (the block chapter's examples are none of this layer's).
-/
import Derived.Test.YtkdjjdkcogolmaaBF
import Derived.Test.YtkdjjdkcogolmaaIkQ
import Derived.Test.YtkdjjdkcogolmaaFrL
import Derived.BigQuiet
namespace Go.Proofs.Ytkdjjdkcogolmaa
set_option maxRecDepth 100000
open Go.RowKit Go.Shelf
set_option linter.unusedVariables false

theorem RdE.now {w w' : World} {n c : Nat} {A : Option Addr} {L : List Ent} (h : RdE w w.heap.size A n c L) (hb : Below w.heap.size w w') : RdE w' w'.heap.size A n c L := (h.below hb (Nat.le_refl _)).more hb.size
theorem run_same_en {x y : Ent} (h : x = y) (W : World) : (Op.equalIn 10000 45 (en x.s x.q x.k x.v) (en y.s y.q y.k y.v)).run Try.prog W = .ok true W := by
  rw [run_eq_en, sameE_iff.2 h]
end Go.Proofs.Ytkdjjdkcogolmaa
