/-
  What frame's texts lean on, where the seat has nums' and batch's own texts: these.
-/
import Derived.Test.YthgaiimgfnbkaaaGreatDoorBtA1
import Derived.Test.YthgaiimgfnbkaaaGreatDoorIter4
import Derived.IntWalk
import Derived.Deep.QuietTactic
import Derived.BigQuiet
import Derived.LoopN
import Derived.Deep.RegionWith
import Derived.Lib.MinMax
import Derived.Laws.BitsAllLaws
namespace Go.Proofs.YthgaiimgfnbkaaaGreatDoor
set_option maxRecDepth 100000
end Go.Proofs.YthgaiimgfnbkaaaGreatDoor
