/-
  Contracts: the statements' own Same; bytes.Clone; the reference's rest.
-/
import Derived.Test.YthgbafhfeblhaaaRows
import Derived.Test.YthgbafhfeblhaaaBase
import Derived.WalkKit
import Derived.WalkLawsBesides
import Derived.WalkSpells
import Derived.Outline
import Derived.Deep.DeepFit
namespace Go.Proofs.Ythgbafhfeblhaaa
set_option maxRecDepth 100000
open Go.RowKit

theorem info_u8 : (Try.prog.info? 5).map (fun i => (i.zero, i.size, i.bytes)) = some (some (.int .u8 0), 1, 1) := by kernel_rfl

/-- Same: are two rows of bytes? -/
theorem same_c {w : World} {B1 B2 n1 c1 n2 c2 : Nat} {A1 A2 : Option Addr} {l1 l2 : List UInt8} (h1 : Rd w B1 A1 n1 c1 (bv l1)) (h2 : Rd w B2 A2 n2 c2 (bv l2)) :
    Calls Try.prog 21 #[.slice A1 n1 c1, .slice A2 n2 c2] w fun e w' => e = .returned (.bool (l1 == l2)) ∧ w = w' := by
  have r1 := run_str (P := Try.prog) h1 26 9 5 Try.underlying26 Try.underlying5 Try.underlying9
  have r2 := run_str (P := Try.prog) h2 26 9 5 Try.underlying26 Try.underlying5 Try.underlying9
  clear h1 h2
  go_enter Try.func21, Try.ntmps21
  go_wp2
  go_ret
  exact ⟨rfl, rfl⟩

/-- A fresh row of bytes comes back, and nothing that was there has turned. -/
def RetB (w : World) (l : List UInt8) (e : Ending) (w' : World) : Prop :=
  ∃ A n c, e = .returned (.slice A n c) ∧ Fr w' w.heap.size 5 A n c (bv l) ∧ Below w.heap.size w w'

/-- bytes.Clone. -/
theorem clone_c {w : World} {B n c : Nat} {A : Option Addr} {l : List UInt8} (h : Rd w B A n c (bv l)) (hB : B ≤ w.heap.size) (hn : n ≤ 70368744177664) :
    Calls Try.prog 69 #[.slice A n c] w (RetB w l) := by
  have hl : l.length = n := by simpa using h.len
  cases A with
  | none =>
    obtain ⟨rfl, rfl⟩ := h.nil rfl
    obtain rfl : l = [] := List.eq_nil_of_length_eq_zero hl
    clear h hl
    have q := fun (w : World) (a : Option Addr) (n c : Nat) => Lib.run_eql_slice_nil (P := Try.prog) w _ _ a n c 0 0 Try.underlying26
    go_enter Try.func69, Try.ntmps69
    go_wp2
    go_ret
    exact ⟨none, 0, 0, rfl, Fr.nil, Below.refl _ _⟩
  | some ad =>
    clear hl
    have q := fun (w : World) (a : Option Addr) (n c : Nat) => Lib.run_eql_slice_nil (P := Try.prog) w _ _ a n c 0 0 Try.underlying26
    go_enter Try.func69, Try.ntmps69
    go_wp2_with (at_builtin; refine wpList_app rfl (.tmp 5) (.tmp 6) _ rfl Try.underlying26 info_u8 rfl rfl (Fr.new w 5 #[] rfl (Nat.le_refl _) (Nat.zero_le _)) rfl (h.alloc hB _) (bv_one _) (by omega) (by omega) (by simp) ?_; intro A' c' w' hap)
    go_ret
    exact ⟨A', _, c', rfl, by simpa using hap.fr, ((Below.refl _ _).alloc (Nat.le_refl _) _).trans hap.below⟩

/-- The reference's rest: what is behind the first k bytes. -/
theorem rest_c {w : World} {B n c k : Nat} {A : Option Addr} {l : List UInt8} (h : Rd w B A n c (bv l)) (hn : n ≤ 70368744177664) (hk : k ≤ n) :
    Calls Try.prog 53 #[.slice A n c, .int .i64 (k : Int)] w (RetB w (l.drop k)) := by
  obtain ⟨A1, hsl, hr⟩ := h.slice_lo 26 5 (P := Try.prog) Try.underlying26 info_u8 .i64 hk
  rw [show (bv l).drop k = bv (l.drop k) by simp [bv]] at hr
  go_enter Try.func53, Try.ntmps53
  go_wp2_with (at_builtin; refine wpList_app rfl (.tmp 6) (.tmp 9) _ rfl Try.underlying26 info_u8 rfl rfl Fr.nil rfl hr (bv_one _) (by omega) (by omega) (Nat.le_refl _) ?_; intro A' c' w' hap)
  go_ret
  exact ⟨A', _, c', rfl, by simpa using hap.fr, hap.below⟩
end Go.Proofs.Ythgbafhfeblhaaa
