/-
  The reference: how many bytes are shared; the form of a block.
-/
import Derived.Test.YtfbmphaabdhphaaBI
import Derived.Deep.RegionHeld3
namespace Go.Proofs.Ytfbmphaabdhphaa
set_option maxRecDepth 100000
open Go.RowKit Go.Shelf
set_option linter.unusedVariables false

theorem RdE.cellsAt {w : World} {B n c : Nat} {A : Option Addr} {L : List Ent} (h : RdE w B A n c L) {i : Nat} {x : Ent} (hx : L[i]? = some x) : ∃ b off, A = some ⟨b, off, none⟩ ∧ b < B ∧ i < n ∧
    w.cell? ⟨b, off + i * 4, none⟩ = some (.string x.s) ∧ w.cell? ⟨b, off + i * 4 + 1, none⟩ = some (.int .u64 (x.q : Int)) ∧ w.cell? ⟨b, off + i * 4 + 2, none⟩ = some (.int .u8 (x.k : Int)) ∧ w.cell? ⟨b, off + i * 4 + 3, none⟩ = some (.string x.v) := by
  have hi : i < n := by
    rcases Nat.lt_or_ge i L.length with h1 | h1
    · rw [h.len] at h1; exact h1
    · rw [List.getElem?_eq_none h1] at hx; cases hx
  obtain ⟨b, off, e, hb, hc⟩ := h.form (by omega)
  exact ⟨b, off, e, hb, hi, hc i x hx⟩

set_option maxRecDepth 100000 in
set_option maxHeartbeats 4000000 in
theorem refShared_c {w : World} {B n c : Nat} {A : Option Addr} {L : List Ent} (h : RdE w B A n c L) {i : Nat} {x : Ent} (hx : L[i]? = some x) (hn : n ≤ 100) (hsz : ∀ y ∈ L, y.s.size ≤ 64) :
    Calls Try.prog 26 #[.slice A n c, .int .i64 (i : Int)] w (RetQ w (.int .i64 ((shB i (lastK noS (L.take i)) x.s : Nat) : Int))) := by
  obtain ⟨b, off, hA, hb, hin, x0, x1, x2, x3⟩ := h.cellsAt hx
  have hi0 : (0 : Int) ≤ (i : Int) := by omega
  have hii : (i : Int) < (n : Int) := by omega
  by_cases h4 : i % 4 = 0
  · have d1 : ((i : Int) % 4 == 0) = true := by simp; omega
    have d2 : (Int.tmod (i : Int) 4 == 0) = true := by rw [Int.tmod_eq_emod_of_nonneg hi0]; simp; omega
    have d3 : (i % 4 == 0) = true := by simpa using h4
    have e : shB i (lastK noS (L.take i)) x.s = 0 := if_pos h4
    rw [e]
    clear h4 x0 x1 x2 x3 h hx hsz
    go_enter Try.func26, Try.ntmps26
    go_wp2_with fail
    go_ret
    exact ⟨rfl, 0, rfl⟩
  · have d1 : ((i : Int) % 4 == 0) = false := by simp; omega
    have d2 : (Int.tmod (i : Int) 4 == 0) = false := by rw [Int.tmod_eq_emod_of_nonneg hi0]; simp; omega
    have d3 : (i % 4 == 0) = false := by simpa using h4
    obtain ⟨j, rfl⟩ : ∃ j, i = j + 1 := ⟨i - 1, by omega⟩
    obtain ⟨y, hy⟩ : ∃ y, L[j]? = some y := ⟨L[j]'(by have := h.len; omega), List.getElem?_eq_getElem _⟩
    obtain ⟨b', off', hA', hb', hjn, y0, y1, y2, y3⟩ := h.cellsAt hy
    rw [hA] at hA'
    injection hA' with hA'
    injection hA' with e1 e2
    subst e1; subst e2
    have hlk : lastK noS (L.take (j + 1)) = y.s := by rw [take_snocE hy, lastK_snoc]
    have e : shB (j + 1) (lastK noS (L.take (j + 1))) x.s = com y.s x.s := by rw [hlk]; exact if_neg h4
    rw [e]
    have hys := hsz y (List.mem_of_getElem? hy)
    have hxs := hsz x (List.mem_of_getElem? hx)
    have hw : IntKind.i64.wrap (((j + 1 : Nat) : Int) - 1) = (j : Int) := by rw [wrapi _ (by omega) (by omega)]; omega
    have hw' : IntKind.i64.wrap ((j : Int) + 1 - 1) = (j : Int) := by rw [wrapi _ (by omega) (by omega)]; omega
    have hj0 : (0 : Int) ≤ (j : Int) := by omega
    have hjj : (j : Int) < (n : Int) := by omega
    have hjj1 : (j : Int) + 1 < (n : Int) := by omega
    subst hA
    generalize hS : y.s = S at *
    generalize hT : x.s = T at *
    clear h4 h hx hy hsz hlk e hS hT x1 x2 x3 y1 y2 y3
    go_enter Try.func26, Try.ntmps26
    go_wp2_with fail
    go_quiet (fail)
    go_wp2_with fail
    go_loopw [7] (fun iv wr => ∃ k q : Nat, iv = .int .i64 (k : Int) ∧ k ≤ S.size ∧ k ≤ T.size ∧ (∀ i, i < k → i < S.size ∧ i < T.size ∧ S.data.toList[i]? = T.data.toList[i]?) ∧ wr = w.drewN q) (fun iv _ => ((S.size : Int) - intOf iv).toNat)
    case atStart => exact ⟨0, _, rfl, by omega, by omega, fun i hi => by omega, rfl⟩
    case round =>
      obtain ⟨k, q, rfl, hks, hkt, hall, rfl⟩ := hrel
      have hk0 : (0 : Int) ≤ (k : Int) := by omega
      have hsi : (S.size : Int) ≤ 64 := by omega
      have hti : (T.size : Int) ≤ 64 := by omega
      by_cases hlt : k < S.size
      case neg =>
        have c1 : decide ((k : Int) < (S.size : Int)) = false := by simp; omega
        have c1' : decide (k < S.size) = false := by simpa using hlt
        have hc : com S T = k := com_stop hall (fun h1 h2 => by omega)
        have HC := Lib.hid hc
        clear hall hc hlt
        go_wp2_with fail
        go_quiet (fail)
        go_wp2_with fail
        go_ret
        exact ⟨by rw [HC.out]; rfl, _, drewN_add _ _ _⟩
      have c1 : decide ((k : Int) < (S.size : Int)) = true := by simp; omega
      have c1' : decide (k < S.size) = true := by simpa using hlt
      by_cases hlt2 : k < T.size
      case neg =>
        have c2 : decide ((k : Int) < (T.size : Int)) = false := by simp; omega
        have c2' : decide (k < T.size) = false := by simpa using hlt2
        have hc : com S T = k := com_stop hall (fun h1 h2 => by omega)
        have HC := Lib.hid hc
        clear hall hc hlt hlt2
        go_wp2_with fail
        go_quiet (fail)
        go_wp2_with fail
        go_ret
        exact ⟨by rw [HC.out]; rfl, _, drewN_add _ _ _⟩
      have c2 : decide ((k : Int) < (T.size : Int)) = true := by simp; omega
      have c2' : decide (k < T.size) = true := by simpa using hlt2
      obtain ⟨u, hu⟩ : ∃ u, S.data.toList[k]? = some u := ⟨_, List.getElem?_eq_getElem (by rw [size_list]; exact hlt)⟩
      obtain ⟨v, hv⟩ : ∃ v, T.data.toList[k]? = some v := ⟨_, List.getElem?_eq_getElem (by rw [size_list]; exact hlt2)⟩
      have ix := run_ix hu
      have iy := run_ix hv
      by_cases huv : u = v
      · have e1 : ((u.toNat : Int) == (v.toNat : Int)) = true := by subst huv; simp
        have e1' : (u.toNat == v.toNat) = true := by subst huv; simp
        have HALL := Lib.hid hall
        have HU := Lib.hid hu
        have HV := Lib.hid hv
        have HUV := Lib.hid huv
        clear hall hu hv huv
        go_wp2_with fail
        go_quiet (fail)
        go_wp2_with fail
        go_roundw
        case rel =>
          refine ⟨k + 1, q + nq, by simp, by omega, by omega, fun i hi => ?_, ?_⟩
          · rcases Nat.lt_or_ge i k with h1 | h1
            · exact HALL.out i h1
            · obtain rfl : i = k := by omega
              exact ⟨hlt, hlt2, by rw [HU.out, HV.out, HUV.out]⟩
          · first | rfl | exact drewN_add _ _ _
        case measure => simp [intOf]; omega
      · have e1 : ((u.toNat : Int) == (v.toNat : Int)) = false := by
          simp; intro h; exact huv (UInt8.toNat_inj.1 (by omega))
        have e1' : (u.toNat == v.toNat) = false := by
          simp; intro h; exact huv (UInt8.toNat_inj.1 (by omega))
        have hc : com S T = k := com_stop hall (fun _ _ => by rw [hu, hv]; simpa using huv)
        have HC := Lib.hid hc
        clear hall hu hv huv hc
        go_wp2_with fail
        go_quiet (fail)
        go_wp2_with fail
        go_ret
        exact ⟨by rw [HC.out]; rfl, _, drewN_add _ _ _⟩
end Go.Proofs.Ytfbmphaabdhphaa
