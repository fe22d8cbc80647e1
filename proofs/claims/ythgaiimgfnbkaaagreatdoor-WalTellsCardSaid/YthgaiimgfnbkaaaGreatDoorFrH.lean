/-
  Words for walks through examples: batch's own.
-/
import Derived.Test.YthgaiimgfnbkaaaGreatDoorFr1
namespace Go.Proofs.YthgaiimgfnbkaaaGreatDoor
set_option maxRecDepth 100000
end Go.Proofs.YthgaiimgfnbkaaaGreatDoor
