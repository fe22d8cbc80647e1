/-
  Bounds of integers that come in.
-/
import Derived.Test.YthgaiimgfnbkaaaGreatDoorFrA
namespace Go.Proofs.YthgaiimgfnbkaaaGreatDoor
set_option maxRecDepth 100000
open Go.RowKit

theorem bounds_u16' {x : Int} (h : (Lit.int .u16 x).wf = true) : 0 ≤ x ∧ x ≤ 65535 := by
  simpa [Lit.wf, IntKind.min, IntKind.max, IntKind.bits, IntKind.signed] using h
end Go.Proofs.YthgaiimgfnbkaaaGreatDoor
