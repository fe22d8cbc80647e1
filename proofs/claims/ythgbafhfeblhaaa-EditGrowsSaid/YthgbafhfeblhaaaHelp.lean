/-
  Words for walks through examples of literals (no program's contract but Same's).
-/
import Derived.Test.YthgbafhfeblhaaaPutText
namespace Go.Proofs.Ythgbafhfeblhaaa
set_option maxRecDepth 100000
open Go.RowKit

/-- Nothing that was there has turned; the answer is true. -/
def RetT (w : World) (e : Ending) (w' : World) : Prop := e = .returned (.bool true) ∧ Below w.heap.size w w'

theorem below_on {a W W' : World} (h : Below a.heap.size a W) (hb : Below W.heap.size W W') : Below a.heap.size a W' := h.trans (hb.mono h.size)
theorem blit {a W : World} (h : Below a.heap.size a W) (o : Obj) : Below a.heap.size a (W.alloc o) := h.alloc h.size o
theorem bon {a W W' : World} (h : Below a.heap.size a W) (hb : Below W.heap.size W W') : Below a.heap.size a W' := below_on h hb
theorem Rd.now {w w' : World} {n c : Nat} {A : Option Addr} {xs : List Value} (h : Rd w w.heap.size A n c xs) (hb : Below w.heap.size w w') : Rd w' w'.heap.size A n c xs := (h.below hb).more hb.size
theorem Rd.litb (w : World) (l : List UInt8) {vs : Array Value} {k g : Nat} (hg : w.heap.size = g) (hv : vs = (bv l).toArray) (hk : l.length = k) (hm : k ≤ maxLen) : Rd (w.alloc (.cells vs 5)) (g + 1) (some ⟨g, 0, none⟩) k k (bv l) := by
  subst hv
  subst hg
  exact Rd.lit w 5 (bv l) (by simpa using hk) hm (Nat.lt_succ_self _)
theorem same_t {w : World} {B1 B2 n1 c1 n2 c2 : Nat} {A1 A2 : Option Addr} {l1 l2 : List UInt8} (h1 : Rd w B1 A1 n1 c1 (bv l1)) (h2 : Rd w B2 A2 n2 c2 (bv l2)) (he : l1 = l2) :
    Calls Try.prog 21 #[.slice A1 n1 c1, .slice A2 n2 c2] w fun e w' => e = .returned (.bool true) ∧ w = w' :=
  (same_c h1 h2).mono fun e w' ⟨h, hw⟩ => ⟨by rw [h, he]; simp, hw⟩
theorem takePost_to {w : World} {l r : List UInt8} {v m : Nat} (h : takeN l = some (v, m) ∧ l.drop m = r) {e : Ending} {w' : World} (hp : TakePost w l e w') : RetNB w .u64 v r true e w' := by
  rw [← h.2]; simpa only [TakePost, h.1] using hp
theorem takePost_no {w : World} {l : List UInt8} (h : takeN l = none) {e : Ending} {w' : World} (hp : TakePost w l e w') : RetNB w .u64 0 [] false e w' := by simpa only [TakePost, h] using hp
theorem textPost_to {w : World} {l s r : List UInt8} {most : Int} (h : textTake l most = some (s, r)) {e : Ending} {w' : World} (hp : TextPost w l most e w') : RetSB w s r true e w' := by simpa only [TextPost, h] using hp
theorem textPost_no {w : World} {l : List UInt8} {most : Int} (h : textTake l most = none) {e : Ending} {w' : World} (hp : TextPost w l most e w') : RetSB w [] [] false e w' := by simpa only [TextPost, h] using hp

end Go.Proofs.Ythgbafhfeblhaaa
