/-
  Words for walks through examples: batch's own.
-/
import Derived.Test.YthgaiimgfnbkaaaDoorFr1
namespace Go.Proofs.YthgaiimgfnbkaaaDoor
set_option maxRecDepth 100000
end Go.Proofs.YthgaiimgfnbkaaaDoor
