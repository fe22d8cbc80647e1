/-
  How many bytes two user keys have in common: the contracts of common, and of the reference's shared.
-/
import Derived.Test.YtfbmphaabdhphaaB2
import Derived.Test.YtfbmphaabdhphaaBS
import Derived.BigQuiet
import Derived.Lib.MinMax
namespace Go.Proofs.Ytfbmphaabdhphaa
set_option maxRecDepth 100000
open Go.RowKit Go.Shelf
set_option linter.unusedVariables false

theorem run_ix {s : ByteArray} {k : Nat} {c : UInt8} (hc : s.data.toList[k]? = some c) (W : World) : (Instr.index 9 (.string s) (.int .i64 (k : Int))).run Try.prog W = .ok (.int .u8 (c.toNat : Int)) W := by
  have hlt : k < s.data.toList.length := by
    rcases Nat.lt_or_ge k s.data.toList.length with h | h
    · exact h
    · rw [List.getElem?_eq_none h] at hc; cases hc
  have hs : k < s.size := by rw [← size_list]; exact hlt
  rw [run_index_string W 9 s .i64 (k : Int) Try.underlying9, dif_pos ⟨by omega, by omega⟩]
  have h1 : s[(k : Int).toNat]'(by simp; omega) = c := by
    rw [List.getElem?_eq_getElem hlt] at hc
    rw [← Option.some.inj hc]; rfl
  rw [h1]
theorem com_stop {s t : ByteArray} {k : Nat} (h : ∀ i, i < k → i < s.size ∧ i < t.size ∧ s.data.toList[i]? = t.data.toList[i]?) (h2 : k < s.size → k < t.size → s.data.toList[k]? ≠ t.data.toList[k]?) : com s t = k :=
  comL_at _ _ _ (fun i hi => by rw [size_list, size_list]; exact h i hi) (fun h3 h4 => h2 (by rwa [size_list] at h3) (by rwa [size_list] at h4))

set_option maxRecDepth 100000 in
set_option maxHeartbeats 2000000 in
theorem common_c (w : World) (s t : ByteArray) (hs : s.size ≤ 100000) (ht : t.size ≤ 100000) :
    Calls Try.prog 53 #[.string s, .string t] w (RetQ w (.int .i64 (com s t : Int))) := by
  have hsi : (s.size : Int) ≤ 100000 := by omega
  have hti : (t.size : Int) ≤ 100000 := by omega
  go_enter Try.func53, Try.ntmps53
  go_wp2_with fail
  go_loopw [5] (fun iv wr => ∃ k q : Nat, iv = .int .i64 (k : Int) ∧ k ≤ s.size ∧ k ≤ t.size ∧ (∀ i, i < k → i < s.size ∧ i < t.size ∧ s.data.toList[i]? = t.data.toList[i]?) ∧ wr = w.drewN q) (fun iv _ => ((s.size : Int) - intOf iv).toNat)
  case atStart => exact ⟨0, 0, rfl, by omega, by omega, fun i hi => by omega, rfl⟩
  case round =>
    obtain ⟨k, q, rfl, hks, hkt, hall, rfl⟩ := hrel
    have hk0 : (0 : Int) ≤ (k : Int) := by omega
    obtain ⟨M, hM⟩ : ∃ M : Nat, min s.size t.size = M := ⟨_, rfl⟩
    have hmin : ∀ (W : World) (ts : Array TypeId) (ty : TypeId), (Builtin.min_ ts ty #[.int .i64 (s.size : Int), .int .i64 (t.size : Int)]).run Try.prog W = .ok (.int .i64 (M : Int)) W := fun W ts ty => by
      rw [Lib.run_min_ints]; congr 2; omega
    by_cases hlt : k < M
    · have hks' : k < s.size := by omega
      have hkt' : k < t.size := by omega
      obtain ⟨x, hx⟩ : ∃ x, s.data.toList[k]? = some x := ⟨_, List.getElem?_eq_getElem (by rw [size_list]; exact hks')⟩
      obtain ⟨y, hy⟩ : ∃ y, t.data.toList[k]? = some y := ⟨_, List.getElem?_eq_getElem (by rw [size_list]; exact hkt')⟩
      have ix := run_ix hx
      have iy := run_ix hy
      have d1 : decide ((k : Int) < (M : Int)) = true := by simp; omega
      have d1' : decide (k < M) = true := by simp; omega
      by_cases hxy : x = y
      · have e1 : ((x.toNat : Int) == (y.toNat : Int)) = true := by subst hxy; simp
        have e1' : (x.toNat == y.toNat) = true := by subst hxy; simp
        have HALL := Lib.hid hall
        have HX := Lib.hid hx
        have HY := Lib.hid hy
        have HXY := Lib.hid hxy
        have HM := Lib.hid hM
        clear hall hx hy hxy hM
        go_wp2_with fail
        go_quiet (fail)
        go_wp2_with fail
        go_roundw
        case rel =>
          refine ⟨k + 1, q + nq, by simp, by omega, by omega, fun i hi => ?_, ?_⟩
          · rcases Nat.lt_or_ge i k with h1 | h1
            · exact HALL.out i h1
            · obtain rfl : i = k := by omega
              exact ⟨hks', hkt', by rw [HX.out, HY.out, HXY.out]⟩
          · first | rfl | exact drewN_add _ _ _
        case measure => simp [intOf]; omega
      · have e1 : ((x.toNat : Int) == (y.toNat : Int)) = false := by
          simp; intro h; exact hxy (UInt8.toNat_inj.1 (by omega))
        have e1' : (x.toNat == y.toNat) = false := by
          simp; intro h; exact hxy (UInt8.toNat_inj.1 (by omega))
        have hc : com s t = k := com_stop hall (fun _ _ => by rw [hx, hy]; simpa using hxy)
        have HC := Lib.hid hc
        clear hall hx hy hxy hM hc
        go_wp2_with fail
        go_quiet (fail)
        go_wp2_with fail
        go_ret
        exact ⟨by rw [HC.out]; rfl, _, drewN_add _ _ _⟩
    · have d1 : decide ((k : Int) < (M : Int)) = false := by simp; omega
      have d1' : decide (k < M) = false := by simp; omega
      have hc : com s t = k := com_stop hall (fun h1 h2 => by omega)
      have HC := Lib.hid hc
      clear hall hM hc
      go_wp2_with fail
      go_quiet (fail)
      go_wp2_with fail
      go_ret
      exact ⟨by rw [HC.out]; rfl, _, drewN_add _ _ _⟩
end Go.Proofs.Ytfbmphaabdhphaa
