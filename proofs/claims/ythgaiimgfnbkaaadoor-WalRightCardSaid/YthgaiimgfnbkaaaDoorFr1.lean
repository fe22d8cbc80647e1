/-
  What frame's texts lean on, where the seat has nums' and batch's own texts: these.
-/
import Derived.Test.YthgaiimgfnbkaaaDoorBtA1
import Derived.Test.YthgaiimgfnbkaaaDoorIter4
import Derived.IntWalk
import Derived.Deep.QuietTactic
import Derived.BigQuiet
import Derived.LoopN
import Derived.Deep.RegionWith
import Derived.Lib.MinMax
import Derived.Laws.BitsAllLaws
namespace Go.Proofs.YthgaiimgfnbkaaaDoor
set_option maxRecDepth 100000
end Go.Proofs.YthgaiimgfnbkaaaDoor
