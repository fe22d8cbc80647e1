/-
  What Take answers, where it is known whether it takes.
-/
import Derived.Test.YthgaiimgfnbkaaaGreatDoorFrP
namespace Go.Proofs.YthgaiimgfnbkaaaGreatDoor
set_option maxRecDepth 100000
open Go.RowKit

theorem tkPost_to {w : World} {l x y : List UInt8} (h : takeL l = some (x, y)) {e : Ending} {w' : World} (hp : TkPost w l e w') : RetTk w x y e w' := by simpa only [TkPost, h] using hp
theorem tkPost_no {w : World} {l : List UInt8} (h : takeL l = none) {e : Ending} {w' : World} (hp : TkPost w l e w') : RetNo w e w' := by simpa only [TkPost, h] using hp
theorem Fr.len_eq {w : World} {b n c : Nat} {e : TypeId} {A : Option Addr} {l : List UInt8} {k : Nat} (h : Fr w b e A n c (bv l)) (hl : l.length = k) : n = k := by
  rw [← h.len, bv_length, hl]
end Go.Proofs.YthgaiimgfnbkaaaGreatDoor
