/-
  Words of the statements: the reference's Same; Versions.
-/
import Derived.Test.YthgbafhfeblhaaaEdJ
namespace Go.Proofs.Ythgbafhfeblhaaa
set_option maxRecDepth 100000
open Go.RowKit Go.Shelf
set_option linter.unusedSimpArgs false
set_option linter.unusedVariables false

theorem sameE_no {e f : Ed} (h : e.L.length ≠ f.L.length ∨ e.a ≠ f.a ∨ e.b ≠ f.b ∨ e.c ≠ f.c) : sameE e f = false := by
  cases hs : sameE e f with
  | false => rfl
  | true =>
    rw [sameE_eq] at hs
    subst hs
    rcases h with h | h | h | h <;> exact absurd rfl h
theorem sameE_row {e f : Ed} (h : sameL e.L f.L = false) : sameE e f = false := by simp [sameE, h]
theorem sameE_yes {e f : Ed} (h : sameL e.L f.L = true) (ha : e.a = f.a) (hb : e.b = f.b) (hc : e.c = f.c) : sameE e f = true := by simp [sameE, h, ha, hb, hc]

set_option maxRecDepth 100000 in
set_option maxHeartbeats 4000000 in
theorem refSame_e {w : World} {B n1 c1 n2 c2 : Nat} {A1 A2 : Option Addr} {e f : Ed} (h1 : RdM w B A1 n1 c1 e.L) (h2 : RdM w B A2 n2 c2 f.L) (hB : B ≤ w.heap.size) (hn : (n1 : Int) ≤ 70368744000000) :
    Calls Try.prog 20 #[edV A1 n1 c1 e, edV A2 n2 c2 f] w (RetVl w (.bool (sameE e f))) := by
  have hl1 := h1.len
  have hl2 := h2.len
  have ht := Two.new w 25 25 A1 A2 n1 c1 n2 c2 e f
  obtain ⟨w2, hw2⟩ : ∃ w2, w2 = ((w.alloc (.cells #[.slice A1 n1 c1, .int .u64 (e.a : Int), .int .u64 (e.b : Int), .int .u64 (e.c : Int)] 25)).alloc (.cells #[.slice A2 n2 c2, .int .u64 (f.a : Int), .int .u64 (f.b : Int), .int .u64 (f.c : Int)] 25)) := ⟨_, rfl⟩
  rw [← hw2] at ht
  obtain ⟨q0, q1, q2, q3, _, _, _, _⟩ := ht.b1.cells
  obtain ⟨r0, r1, r2, r3, _, _, _, _⟩ := ht.b2.cells
  have k1 := h1.below ht.below hB
  have k2 := h2.below ht.below hB
  have HT := Lib.hid ht.below
  have HL1 := Lib.hid hl1
  have HL2 := Lib.hid hl2
  clear ht h1 h2 hl1 hl2
  unfold edV
  go_enter Try.func20, Try.ntmps20
  go_upto_region 1 with (fail)
  rw [← hw2]
  clear hw2
  by_cases hl : n1 = n2
  · by_cases ha : e.a = f.a
    · by_cases hb : e.b = f.b
      · by_cases hc : e.c = f.c
        · have ea : ((e.a : Int) != (f.a : Int)) = false := by simp; omega
          have ea' : (e.a != f.a) = false := by simp [ha]
          have eb : ((e.b : Int) != (f.b : Int)) = false := by simp; omega
          have eb' : (e.b != f.b) = false := by simp [hb]
          have ec : ((e.c : Int) != (f.c : Int)) = false := by simp; omega
          have ec' : (e.c != f.c) = false := by simp [hc]
          have HA := Lib.hid ha
          have HBB := Lib.hid hb
          have HC := Lib.hid hc
          clear ha hb hc
          subst hl
          go_wp2_with fail
          go_loopw [5] (fun iv wr => ∃ k : Nat, iv = .int .i64 (k : Int) ∧ k ≤ n1 ∧ (∀ i a b, i < k → e.L[i]? = some a → f.L[i]? = some b → sameM a b = true) ∧ ∃ q, wr = w2.drewN q) (fun iv _ => ((n1 : Int) - intOf iv).toNat)
          case atStart => exact ⟨0, rfl, by omega, fun i a b hi => by omega, 0, rfl⟩
          case round =>
            obtain ⟨k, rfl, hkn, hall, q, rfl⟩ := hrel
            by_cases hlt : k < n1
            · obtain ⟨b1, o1, hA1, hb1, hc1⟩ := k1.form (by omega)
              obtain ⟨b2, o2, hA2, hb2, hc2⟩ := k2.form (by omega)
              subst hA1
              subst hA2
              obtain ⟨x, hx⟩ : ∃ x, e.L[k]? = some x := ⟨e.L[k]'(by have := HL1.out; omega), List.getElem?_eq_getElem _⟩
              obtain ⟨y, hy⟩ : ∃ y, f.L[k]? = some y := ⟨f.L[k]'(by have := HL2.out; omega), List.getElem?_eq_getElem _⟩
              obtain ⟨x0, x1, x2, x3⟩ := hc1 k x hx
              obtain ⟨y0, y1, y2, y3⟩ := hc2 k y hy
              have hki : (k : Int) < (n1 : Int) := by omega
              have hk0 : (0 : Int) ≤ (k : Int) := by omega
              have HX := Lib.hid hx
              have HY := Lib.hid hy
              have HALL := Lib.hid hall
              have HEQ := fun W => run_eq_mt W x y
              clear hx hy hall hc1 hc2 k1 k2 hkn
              cases hs : sameM x y with
              | true =>
                rw [hs] at HEQ
                have HS := Lib.hid hs
                clear hs
                go_wp2_with fail
                go_quiet (fail)
                go_wp2_with fail
                go_roundw
                case rel =>
                  refine ⟨k + 1, by simp, by omega, fun i a b hi ha hb => ?_, q + nq, by simp [World.drewN_drewN]⟩
                  rcases Nat.lt_or_ge i k with h3 | h3
                  · exact HALL.out i a b h3 ha hb
                  · obtain rfl : i = k := by omega
                    rw [HX.out] at ha
                    rw [HY.out] at hb
                    cases ha; cases hb
                    exact HS.out
                case measure => simp [intOf]; omega
              | false =>
                rw [hs] at HEQ
                have HS := Lib.hid (sameE_row (e := e) (f := f) (sameL_ne HX.out HY.out hs))
                clear hs
                go_wp2_with fail
                go_quiet (fail)
                go_wp2_with fail
                go_ret
                exact RetVl.bool HS.out.symm (below_drewN (below_drewN HT.out _) _)
            · have hki : ¬ (k : Int) < (n1 : Int) := by omega
              have HY := Lib.hid (sameE_yes (e := e) (f := f) (sameL_of (by rw [HL1.out, HL2.out]) (fun i a b ha hb => hall i a b (by have := get_lt HL1.out ha; omega) ha hb)) HA.out HBB.out HC.out)
              clear hall k1 k2
              go_wp2_with fail
              go_ret
              exact RetVl.bool HY.out.symm (below_drewN HT.out _)
        · have HNO := Lib.hid (sameE_no (e := e) (f := f) (.inr (.inr (.inr hc))))
          subst hl
          have ea : ((e.a : Int) != (f.a : Int)) = false := by simp; omega
          have ea' : (e.a != f.a) = false := by simp [ha]
          have eb : ((e.b : Int) != (f.b : Int)) = false := by simp; omega
          have eb' : (e.b != f.b) = false := by simp [hb]
          have ec : ((e.c : Int) != (f.c : Int)) = true := by simp; omega
          have ec' : (e.c != f.c) = true := by simp [hc]
          clear k1 k2 ha hb hc
          go_wp2_with fail
          go_ret
          exact RetVl.bool HNO.out.symm HT.out
      · have HNO := Lib.hid (sameE_no (e := e) (f := f) (.inr (.inr (.inl hb))))
        subst hl
        have ea : ((e.a : Int) != (f.a : Int)) = false := by simp; omega
        have ea' : (e.a != f.a) = false := by simp [ha]
        have eb : ((e.b : Int) != (f.b : Int)) = true := by simp; omega
        have eb' : (e.b != f.b) = true := by simp [hb]
        clear k1 k2 ha hb
        go_wp2_with fail
        go_ret
        exact RetVl.bool HNO.out.symm HT.out
    · have HNO := Lib.hid (sameE_no (e := e) (f := f) (.inr (.inl ha)))
      subst hl
      have ea : ((e.a : Int) != (f.a : Int)) = true := by simp; omega
      have ea' : (e.a != f.a) = true := by simp [ha]
      clear k1 k2 ha
      go_wp2_with fail
      go_ret
      exact RetVl.bool HNO.out.symm HT.out
  · have HNO := Lib.hid (sameE_no (e := e) (f := f) (.inl (by rw [HL1.out, HL2.out]; exact hl)))
    have el : ((n1 : Int) != (n2 : Int)) = true := by simp; omega
    have el' : (n1 != n2) = true := by simp; omega
    clear k1 k2 hl
    go_wp2_with fail
    go_ret
    exact RetVl.bool HNO.out.symm HT.out

set_option maxRecDepth 100000 in
set_option maxHeartbeats 8000000 in
theorem versions_c {w : World} {B n1 c1 n2 c2 : Nat} {A1 A2 : Option Addr} {v u : Ed} (h1 : RdM w B A1 n1 c1 v.L) (h2 : RdM w B A2 n2 c2 u.L) (hB : B ≤ w.heap.size) (hn : n1 ≤ 1000000) (hn2 : n2 ≤ 1000000) :
    Calls Try.prog 22 #[edV A1 n1 c1 v, edV A2 n2 c2 u] w (RetVl w (.bool (sameE v u))) := by
  have hl1 := h1.len
  have ht := Two.new w 28 28 A1 A2 n1 c1 n2 c2 v u
  obtain ⟨w2, hw2⟩ : ∃ w2, w2 = ((w.alloc (.cells #[.slice A1 n1 c1, .int .u64 (v.a : Int), .int .u64 (v.b : Int), .int .u64 (v.c : Int)] 28)).alloc (.cells #[.slice A2 n2 c2, .int .u64 (u.a : Int), .int .u64 (u.b : Int), .int .u64 (u.c : Int)] 28)) := ⟨_, rfl⟩
  rw [← hw2] at ht
  have HT := Lib.hid ht
  have HW1 := Lib.hid (fun W (hW : Below w2.heap.size w2 W) => refWhole_c (v := v) (h1.below (ht.below.trans (hW.mono ht.below.size)) hB) (Nat.le_trans hB (ht.below.trans (hW.mono ht.below.size)).size) (by omega))
  have HW2 := Lib.hid (fun W (hW : Below w2.heap.size w2 W) => refWhole_c (v := u) (h2.below (ht.below.trans (hW.mono ht.below.size)) hB) (Nat.le_trans hB (ht.below.trans (hW.mono ht.below.size)).size) (by omega))
  have HSK := Lib.hid (fun (W : World) (hW : Below w2.heap.size w2 W) => show Below w2.heap.size w2 W ∧ W.cell? ⟨w.heap.size, 0, none⟩ = some (.slice A1 n1 c1) ∧ W.cell? ⟨w.heap.size, 1, none⟩ = some (.int .u64 (v.a : Int)) ∧ W.cell? ⟨w.heap.size, 2, none⟩ = some (.int .u64 (v.b : Int)) ∧ W.cell? ⟨w.heap.size, 3, none⟩ = some (.int .u64 (v.c : Int)) ∧ W.cell? ⟨w.heap.size + 1, 0, none⟩ = some (.slice A2 n2 c2) ∧ W.cell? ⟨w.heap.size + 1, 1, none⟩ = some (.int .u64 (u.a : Int)) ∧ W.cell? ⟨w.heap.size + 1, 2, none⟩ = some (.int .u64 (u.b : Int)) ∧ W.cell? ⟨w.heap.size + 1, 3, none⟩ = some (.int .u64 (u.c : Int)) by
    obtain ⟨g0, g1, g2, g3, _, _, _, _⟩ := (HT.out.now hW).b1.cells
    obtain ⟨k0, k1, k2, k3, _, _, _, _⟩ := (HT.out.now hW).b2.cells
    exact ⟨hW, g0, g1, g2, g3, k0, k1, k2, k3⟩)
  have hst : Below w2.heap.size w2 w2.drew := below_drewN (Below.refl _ _) 1
  have HL1 := Lib.hid hl1
  have HN := Lib.hid hn
  clear ht h1 h2 hl1
  unfold edV at HW1 HW2
  unfold edV
  go_enter Try.func22, Try.ntmps22
  go_upto_region 1 with (fail)
  rw [← hw2]
  clear hw2
  refine wp_region_noPanic ?_
  refine wp_region_held_drew (S := fun w' => Below w2.heap.size w2 w' ∧ w'.cell? ⟨w.heap.size, 0, none⟩ = some (.slice A1 n1 c1) ∧ w'.cell? ⟨w.heap.size, 1, none⟩ = some (.int .u64 (v.a : Int)) ∧ w'.cell? ⟨w.heap.size, 2, none⟩ = some (.int .u64 (v.b : Int)) ∧ w'.cell? ⟨w.heap.size, 3, none⟩ = some (.int .u64 (v.c : Int)) ∧ w'.cell? ⟨w.heap.size + 1, 0, none⟩ = some (.slice A2 n2 c2) ∧ w'.cell? ⟨w.heap.size + 1, 1, none⟩ = some (.int .u64 (u.a : Int)) ∧ w'.cell? ⟨w.heap.size + 1, 2, none⟩ = some (.int .u64 (u.b : Int)) ∧ w'.cell? ⟨w.heap.size + 1, 3, none⟩ = some (.int .u64 (u.c : Int))) (by kernel_rfl) (HSK.out _ hst) (fun hHeld => ?_)
  refine wpAnyH_take (i := 0) (oi := { dst := some 5, op := Op.load 28 (Operand.tmp 2), type := 28, pos := "law.go:13", after := #[], guard := none }) (v := ?v1) rfl (by kernel_rfl) (by kernel_rfl) (by kernel_rfl) (fun _ _ _ h => h) (Or.inl ⟨by rfl, ?hy1⟩) (by assumption) ?rest1
  case hy1 => (intro w hSw; (try dsimp only at hSw); go_simp; try with_reducible rfl)
  try simp only [Act.put, List.setIfInBounds_toArray, List.set_cons_zero, List.set_cons_succ]
  refine wpAnyH_take (i := 2) (oi := { dst := some 7, op := Op.load 28 (Operand.tmp 3), type := 28, pos := "law.go:13", after := #[], guard := none }) (v := ?v2) rfl (by kernel_rfl) (by kernel_rfl) (by kernel_rfl) (fun _ _ _ h => h) (Or.inl ⟨by rfl, ?hy2⟩) (by assumption) ?rest2
  case hy2 => (intro w hSw; (try dsimp only at hSw); go_simp; try with_reducible rfl)
  try simp only [Act.put, List.setIfInBounds_toArray, List.set_cons_zero, List.set_cons_succ]
  refine wpAnyH_ready (rs := [1]) (by kernel_rfl) (by simp) ?_
  refine AllReadyH.cons (o := { dst := some 6, op := Op.call { callee := Callee.value (Operand.func 9), args := #[Operand.tmp 5], argTypes := #[28] }, type := 25, pos := "law.go:13", after := #[{ on := 0, ground := Ground.data }], guard := none }) rfl (fun K hK => ?_) AllReadyH.nil
  go_simp
  refine (HW1.out _ hHeld.1).mono ?_
  rintro e' w5 ⟨A5, n5, c5, rfl, hf5, hb5⟩
  have HF5 := Lib.hid (hf5.rd (Nat.le_refl _))
  have hx5 := bon hHeld.1 hb5
  have HL5b := Lib.hid hf5.len
  clear hHeld hf5 hb5
  unfold edV
  go_wp2_with fail
  refine hK.out _ _ (HSK.out _ hx5) (fun hHeld => ?_)
  clear hK K
  try simp only [Act.put, List.setIfInBounds_toArray, List.set_cons_zero, List.set_cons_succ]
  refine wpAnyH_ready (rs := [3]) (by kernel_rfl) (by simp) ?_
  refine AllReadyH.cons (o := { dst := some 8, op := Op.call { callee := Callee.value (Operand.func 9), args := #[Operand.tmp 7], argTypes := #[28] }, type := 25, pos := "law.go:13", after := #[{ on := 2, ground := Ground.data }, { on := 1, ground := Ground.chain }], guard := none }) rfl (fun K hK => ?_) AllReadyH.nil
  go_simp
  refine (HW2.out _ hHeld.1).mono ?_
  rintro e' w6 ⟨A6, n6, c6, rfl, hf6, hb6⟩
  have HF6 := Lib.hid (hf6.rd (Nat.le_refl _))
  replace HF5 := Lib.hid ((HF5.out.below hb6 (Nat.le_refl _)).more hb6.size)
  have hx6 := bon hHeld.1 hb6
  have HL6b := Lib.hid hf6.len
  clear hHeld hf6 hb6
  unfold edV
  go_wp2_with fail
  refine hK.out _ _ (HSK.out _ hx6) (fun hHeld => ?_)
  clear hK K
  try simp only [Act.put, List.setIfInBounds_toArray, List.set_cons_zero, List.set_cons_succ]
  refine wpAnyH_ready (rs := [4]) (by kernel_rfl) (by simp) ?_
  refine AllReadyH.cons (o := { dst := some 9, op := Op.call { callee := Callee.value (Operand.func 20), args := #[Operand.tmp 6, Operand.tmp 8], argTypes := #[25, 25] }, type := 4, pos := "law.go:13", after := #[{ on := 1, ground := Ground.data }, { on := 3, ground := Ground.data }, { on := 3, ground := Ground.chain }], guard := none }) rfl (fun K hK => ?_) AllReadyH.nil
  go_simp
  refine (refSame_e (e := v) (f := u) HF5.out HF6.out (Nat.le_refl _) (by have := HL5b.out; have := HL1.out; have := HN.out; omega)).mono ?_
  rintro e' w7 ⟨rfl, hb7⟩
  have hx7 := bon hHeld.1 hb7
  clear hHeld hb7
  go_wp2_with fail
  refine hK.out _ _ (HSK.out _ hx7) (fun hHeld => ?_)
  clear hK K
  try simp only [Act.put, List.setIfInBounds_toArray, List.set_cons_zero, List.set_cons_succ]
  refine wpAnyH_take (i := 5) (oi := { dst := some 4, op := Op.assign (Operand.tmp 9), type := 4, pos := "law.go:13", after := #[{ on := 4, ground := Ground.data }, { on := 4, ground := Ground.chain }, { on := 0, ground := Ground.phase }, { on := 1, ground := Ground.phase }, { on := 2, ground := Ground.phase }, { on := 3, ground := Ground.phase }, { on := 4, ground := Ground.phase }], guard := none }) (v := ?v3) rfl (by kernel_rfl) (by kernel_rfl) (by kernel_rfl) (fun _ _ _ h => h) (Or.inl ⟨by rfl, ?hy3⟩) (by assumption) ?rest3
  case hy3 => (intro w hSw; (try dsimp only at hSw); go_simp; try with_reducible rfl)
  try simp only [Act.put, List.setIfInBounds_toArray, List.set_cons_zero, List.set_cons_succ]
  refine wpAnyH_done (by kernel_rfl) ?_ _
  refine NoPanic.normal ?_
  go_wp2_with fail
  go_ret
  exact RetVl.bool rfl (HT.out.below.trans (hHeld.1.mono HT.out.below.size))
end Go.Proofs.Ythgbafhfeblhaaa
