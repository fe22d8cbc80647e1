/-
  What bytes begin with an operation's form, the reference's: the contract of one.
-/
import Derived.Test.YthgaiimgfnbkaaaDoorBtK
namespace Go.Proofs.YthgaiimgfnbkaaaDoor
set_option maxRecDepth 100000
open Go.RowKit Go.Shelf

section
variable {w : World} {b : Nat} {x : Bop}
theorem OpAt.set1 (h : OpAt w b x) (s : ByteArray) : OpAt (w.setCell ⟨b, 1, none⟩ (.string s)) b ⟨x.k, s, x.v⟩ := by
  refine ⟨by have := h.lt; simpa [World.setCell] using this, ?_⟩
  simp only [World.setCell, Array.getElem?_modify, if_pos, h.h]
  rfl
theorem OpAt.set2 (h : OpAt w b x) (v : ByteArray) : OpAt (w.setCell ⟨b, 2, none⟩ (.string v)) b ⟨x.k, x.s, v⟩ := by
  refine ⟨by have := h.lt; simpa [World.setCell] using this, ?_⟩
  simp only [World.setCell, Array.getElem?_modify, if_pos, h.h]
  rfl
theorem OpAt.other (h : OpAt w b x) {p : Addr} (hp : p.block ≠ b) (v : Value) : OpAt (w.setCell p v) b x := by
  refine ⟨by have := h.lt; simpa [World.setCell] using this, ?_⟩
  simp only [World.setCell, Array.getElem?_modify]
  rw [if_neg hp]
  exact h.h
theorem Fr.set {B : Nat} {e : TypeId} {A : Option Addr} {n c : Nat} {xs : List Value} (h : Fr w B e A n c xs) {p : Addr} (hb : p.block < B) (u : Value) : Fr (w.setCell p u) B e A n c xs := ⟨ownsRow_setCell_below h.own hb _⟩
theorem Fr.op3 {B : Nat} {e : TypeId} {A : Option Addr} {n c : Nat} {xs : List Value} (h : Fr w B e A n c xs) {b : Nat} (hb : b < B) (u v y : Value) :
    Fr (((w.setCell ⟨b, 0, none⟩ u).setCell ⟨b, 1, none⟩ v).setCell ⟨b, 2, none⟩ y) B e A n c xs := ((h.set (p := ⟨b, 0, none⟩) hb u).set (p := ⟨b, 1, none⟩) hb v).set (p := ⟨b, 2, none⟩) hb y
end
structure OneR (l : List UInt8) (x : Bop) (r : List UInt8) (ok : Bool) : Prop where
  yes : ok = true → takeR l = some (x, r)
  no : ok = false → takeR l = none
  le : r.length ≤ l.length
def OnePost (w : World) (l : List UInt8) (e : Ending) (w' : World) : Prop :=
  ∃ x r ok A n c, e = .returned (.tuple #[ov x, .slice A n c, .bool ok]) ∧ OneR l x r ok ∧ Fr w' w.heap.size 5 A n c (bv r) ∧ Below w.heap.size w w'
theorem one_put {c : UInt8} {t s r v r2 : List UInt8} (hc : c.toNat = 1) (h1 : textTake t 64 = some (s, r)) (h2 : textTake r 256 = some (v, r2)) (hle : r2.length ≤ (c :: t).length) : OneR (c :: t) ⟨c.toNat, ⟨s.toArray⟩, ⟨v.toArray⟩⟩ r2 true := by
  rw [hc]
  exact ⟨fun _ => by simp only [takeR, h1, hc, h2]; simp, fun e => (by cases e), hle⟩
theorem one_put_no {c : UInt8} {t s r : List UInt8} {x : Bop} (hc : c.toNat = 1) (h1 : textTake t 64 = some (s, r)) (h2 : textTake r 256 = none) : OneR (c :: t) x [] false :=
  ⟨fun e => (by cases e), fun _ => by simp only [takeR, h1, hc, h2]; simp, Nat.zero_le _⟩
theorem one_del {c : UInt8} {t s r : List UInt8} (hc : c.toNat = 0) (h1 : textTake t 64 = some (s, r)) (hle : r.length ≤ (c :: t).length) : OneR (c :: t) ⟨c.toNat, ⟨s.toArray⟩, ⟨#[]⟩⟩ r true := by
  rw [hc]
  exact ⟨fun _ => by simp only [takeR, h1, hc]; simp, fun e => (by cases e), hle⟩
theorem one_no {c : UInt8} {t : List UInt8} {x : Bop} (h1 : textTake t 64 = none) : OneR (c :: t) x [] false :=
  ⟨fun e => (by cases e), fun _ => by simp only [takeR, h1]; split <;> rfl, Nat.zero_le _⟩
theorem one_big {c : UInt8} {t : List UInt8} {x : Bop} (h : 1 < c.toNat) : OneR (c :: t) x [] false :=
  ⟨fun e => (by cases e), fun _ => by simp only [takeR]; rw [if_pos h], Nat.zero_le _⟩
theorem one_nil {x : Bop} : OneR [] x [] false := ⟨fun e => (by cases e), fun _ => rfl, Nat.le_refl _⟩
theorem textTake_le {l s r : List UInt8} {most : Int} (h : textTake l most = some (s, r)) : r.length ≤ l.length := by
  have := congrArg List.length (text_put h).1
  simp at this; omega
theorem TextR.le {l s r : List UInt8} {most : Int} {ok : Bool} (h : TextR l most s r ok) : r.length ≤ l.length := by
  cases ok with
  | false => obtain ⟨_, _, rfl⟩ := h.no rfl; simp
  | true => exact textTake_le (h.yes rfl)

end Go.Proofs.YthgaiimgfnbkaaaDoor
