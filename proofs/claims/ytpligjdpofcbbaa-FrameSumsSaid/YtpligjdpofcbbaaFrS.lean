/-
  Words for FrameSums: the least of four numbers; a row that is filled byte by byte.
-/
import Derived.Test.YtpligjdpofcbbaaFrB
namespace Go.Proofs.Ytpligjdpofcbbaa
open Go.RowKit

theorem run_min4 {P : Program} (w : World) (ts : Array TypeId) (t : TypeId) (k : IntKind) (x y z u : Int) :
    (Builtin.min_ ts t #[.int k x, .int k y, .int k z, .int k u]).run P w = .ok (.int k (min (min (min x y) z) u)) w := by
  have h2 : ∀ a b : Int, Builtin.min2 (.int k a) (.int k b) = pure (.int k (min a b)) := by
    intro a b
    rw [Builtin.min2.eq_1]
    congr 2
    split <;> omega
  rw [Builtin.min_.eq_1]
  simp only [List.foldlM_cons, List.foldlM_nil, h2, pure_bind]
  rfl
/-- Three rows, added bit by bit. -/
def xor3 (a b c : List UInt8) : List UInt8 := (List.zip a (List.zip b c)).map fun p => p.1 ^^^ p.2.1 ^^^ p.2.2
theorem xor3_len {a b c : List UInt8} {n : Nat} (ha : a.length = n) (hb : b.length = n) (hc : c.length = n) : (xor3 a b c).length = n := by
  simp [xor3, List.length_zip, ha, hb, hc]
theorem xor3_get {a b c : List UInt8} {k : Nat} {x y z : UInt8} (ha : a[k]? = some x) (hb : b[k]? = some y) (hc : c[k]? = some z) : (xor3 a b c)[k]? = some (x ^^^ y ^^^ z) := by
  unfold xor3
  rw [List.getElem?_map]
  have h1 : (List.zip b c)[k]? = some (y, z) := by rw [List.getElem?_zip_eq_some]; exact ⟨hb, hc⟩
  have h2 : (List.zip a (List.zip b c))[k]? = some (x, (y, z)) := by rw [List.getElem?_zip_eq_some]; exact ⟨ha, h1⟩
  rw [h2]; rfl
/-- The row behind k rounds. -/
def fillL (X : List UInt8) (n k : Nat) : List UInt8 := X.take k ++ List.replicate (n - k) 0
theorem fill_next {X : List UInt8} {n k : Nat} {x : UInt8} (hn : X.length = n) (hx : X[k]? = some x) : (fillL X n k).set k x = fillL X n (k + 1) ∧ (fillL X n k)[k]? = some 0 := by
  obtain ⟨hk, hxe⟩ := List.getElem?_eq_some_iff.1 hx
  have hkl : (X.take k).length = k := by rw [List.length_take]; omega
  have hr : List.replicate (n - k) (0 : UInt8) = 0 :: List.replicate (n - (k + 1)) 0 := by
    rw [show n - k = (n - (k + 1)) + 1 by omega, List.replicate_succ]
  unfold fillL
  rw [hr]
  constructor
  · rw [List.set_append_right _ _ (by omega), hkl, Nat.sub_self, List.set_cons_zero, List.take_add_one, hx, List.append_assoc]
    rfl
  · rw [List.getElem?_append_right (by omega), hkl, Nat.sub_self]; rfl
theorem fill_zero (X : List UInt8) (n : Nat) : fillL X n 0 = List.replicate n 0 := by simp [fillL]
theorem fill_all {X : List UInt8} {n : Nat} (hn : X.length = n) : fillL X n n = X := by
  unfold fillL
  rw [Nat.sub_self, ← hn, List.take_length]; simp
end Go.Proofs.Ytpligjdpofcbbaa
