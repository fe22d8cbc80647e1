/-
  The form of an internal key: the contracts of Put, the program's and the reference's.
-/
import Derived.Test.YtfbmphaabdhphaaIk3
import Derived.Test.YtfbmphaabdhphaaBack
import Derived.Deep.RegionHeld3
namespace Go.Proofs.Ytfbmphaabdhphaa
set_option maxRecDepth 100000
open Go.RowKit Go.Shelf

/-- The form. -/
def formL (s : ByteArray) (q k : Nat) : List UInt8 := textL s ++ shortL (2 * q + k)
def putL (l : List UInt8) (s : ByteArray) (q k : Nat) : List UInt8 := if rightB s q k then l ++ formL s q k else l

theorem textL_le (s : ByteArray) : (textL s).length ≤ 10 + s.size := by
  have := shortL_len s.size
  unfold textL; rw [List.length_append, size_list]; omega

end Go.Proofs.Ytfbmphaabdhphaa
