/-
  Words for the laws of frames: what Take answers, in one form.
-/
import Derived.Test.YtpligjdpofcbbaaFrA
namespace Go.Proofs.Ytpligjdpofcbbaa
open Go.RowKit

/-- What a Take answers, in one form. -/
def RetX (w : World) (x y : List UInt8) (er : Int) (e : Ending) (w' : World) : Prop :=
  ∃ A1 n1 c1 A2 n2 c2, e = .returned (.tuple #[.slice A1 n1 c1, .slice A2 n2 c2, .int .i64 er]) ∧ Fr w' w.heap.size 5 A1 n1 c1 (bv x) ∧ Fr w' w.heap.size 5 A2 n2 c2 (bv y) ∧ Below w.heap.size w w'
theorem tkPost_form (l : List UInt8) : ∃ x y er, x.length + y.length ≤ l.length ∧ (takeL l = none → er = 50 ∧ x = [] ∧ y = []) ∧ (∀ z, takeL l = some z → er = 0 ∧ z = (x, y)) ∧ (0 ≤ er ∧ er ≤ 50) ∧ ∀ w e w', TkPost w l e w' → RetX w x y er e w' := by
  cases h : takeL l with
  | none =>
    refine ⟨[], [], 50, by simp, fun _ => ⟨rfl, rfl, rfl⟩, fun z hz => (by cases hz), by omega, fun w e w' hp => ?_⟩
    obtain ⟨rfl, hb⟩ := tkPost_no h hp
    exact ⟨none, 0, 0, none, 0, 0, rfl, Fr.nil, Fr.nil, hb⟩
  | some z =>
    obtain ⟨x, y⟩ := z
    refine ⟨x, y, 0, ?_, fun h0 => (by cases h0), fun z hz => ⟨rfl, (Option.some.inj hz).symm⟩, by omega, fun w e w' hp => ?_⟩
    · unfold takeL at h
      split at h
      · rename_i hc
        simp only [Option.some.injEq, Prod.mk.injEq] at h
        obtain ⟨rfl, rfl⟩ := h
        simp
        omega
      · cases h
    · obtain ⟨A1, n1, c1, A2, n2, c2, rfl, h1, h2, hb⟩ := tkPost_to h hp
      exact ⟨_, _, _, _, _, _, rfl, h1, h2, hb⟩
theorem bounds_u32' {x : Int} (h : (Lit.int .u32 x).wf = true) : 0 ≤ x ∧ x ≤ 4294967295 := by
  simpa [Lit.wf, IntKind.min, IntKind.max, IntKind.bits, IntKind.signed] using h
theorem bounds_u16' {x : Int} (h : (Lit.int .u16 x).wf = true) : 0 ≤ x ∧ x ≤ 65535 := by
  simpa [Lit.wf, IntKind.min, IntKind.max, IntKind.bits, IntKind.signed] using h
theorem bounds_u8' {x : Int} (h : (Lit.int .u8 x).wf = true) : 0 ≤ x ∧ x ≤ 255 := by
  simpa [Lit.wf, IntKind.min, IntKind.max, IntKind.bits, IntKind.signed] using h
end Go.Proofs.Ytpligjdpofcbbaa
