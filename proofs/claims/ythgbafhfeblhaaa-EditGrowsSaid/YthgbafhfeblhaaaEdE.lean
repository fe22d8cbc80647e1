/-
  Notes and edits held against each other; the whole of a version; whether numbers fall.
-/
import Derived.Test.YthgbafhfeblhaaaEdD
namespace Go.Proofs.Ythgbafhfeblhaaa
set_option maxRecDepth 100000
open Go.RowKit Go.Shelf
set_option linter.unusedSimpArgs false
set_option linter.unusedVariables false

def sameL : List Mt → List Mt → Bool
  | [], [] => true
  | x :: X, y :: Y => sameM x y && sameL X Y
  | _, _ => false
theorem sameL_eq : ∀ X Y : List Mt, sameL X Y = true ↔ X = Y
  | [], [] => by simp [sameL]
  | x :: X, [] => by simp [sameL]
  | [], y :: Y => by simp [sameL]
  | x :: X, y :: Y => by simp [sameL, sameM_eq, sameL_eq X Y]
theorem sameL_of {X Y : List Mt} (hl : X.length = Y.length) (h : ∀ (i : Nat) (a b : Mt), X[i]? = some a → Y[i]? = some b → sameM a b = true) : sameL X Y = true := by
  rw [sameL_eq]
  apply List.ext_getElem hl
  intro i h1 h2
  exact (sameM_eq _ _).1 (h i _ _ (List.getElem?_eq_getElem h1) (List.getElem?_eq_getElem h2))
theorem sameL_ne {X Y : List Mt} {i : Nat} {a b : Mt} (h1 : X[i]? = some a) (h2 : Y[i]? = some b) (h : sameM a b = false) : sameL X Y = false := by
  cases hs : sameL X Y with
  | false => rfl
  | true =>
    rw [(sameL_eq X Y).1 hs, h2] at h1
    cases h1
    rw [(sameM_eq a a).2 rfl] at h
    cases h
theorem sameL_len {X Y : List Mt} (h : X.length ≠ Y.length) : sameL X Y = false := by
  cases hs : sameL X Y with
  | false => rfl
  | true => rw [(sameL_eq X Y).1 hs] at h; exact absurd rfl h
def sameE (e f : Ed) : Bool := sameL e.L f.L && decide (e.a = f.a) && decide (e.b = f.b) && decide (e.c = f.c)
theorem sameE_eq (e f : Ed) : sameE e f = true ↔ e = f := by
  obtain ⟨L, a, b, c⟩ := e
  obtain ⟨L', a', b', c'⟩ := f
  simp [sameE, sameL_eq, and_assoc]
theorem sameE_comm (e f : Ed) : sameE e f = sameE f e := by
  rw [Bool.eq_iff_iff, sameE_eq, sameE_eq]; exact ⟨fun h => h.symm, fun h => h.symm⟩

set_option maxRecDepth 100000 in
set_option maxHeartbeats 4000000 in
theorem mequal_c {w : World} {B1 B2 n1 c1 n2 c2 : Nat} {A1 A2 : Option Addr} {X Y : List Mt} (h1 : RdM w B1 A1 n1 c1 X) (h2 : RdM w B2 A2 n2 c2 Y) (hn : (n1 : Int) ≤ 70368744000000) :
    Calls Try.prog 38 #[.slice A1 n1 c1, .slice A2 n2 c2] w fun e w' => e = .returned (.bool (sameL X Y)) ∧ ∃ q, w' = w.drewN q := by
  have hl1 := h1.len
  have hl2 := h2.len
  have HL1 := Lib.hid hl1
  have HL2 := Lib.hid hl2
  go_enter Try.func38, Try.ntmps38
  by_cases hnn : n1 = n2
  · subst hnn
    clear hl1 hl2
    go_wp2_with fail
    go_loopw [13] (fun iv wr => ∃ k : Nat, iv = .int .i64 (k : Int) ∧ k ≤ n1 ∧ (∀ i a b, i < k → X[i]? = some a → Y[i]? = some b → sameM a b = true) ∧ ∃ q, wr = w.drewN q) (fun iv _ => ((n1 : Int) - intOf iv).toNat)
    case atStart => exact ⟨0, rfl, by omega, fun i a b hi => by omega, 0, rfl⟩
    case round =>
      obtain ⟨k, rfl, hkn, hall, q, rfl⟩ := hrel
      by_cases hlt : k < n1
      · obtain ⟨b1, o1, hA1, hb1, hc1⟩ := h1.form (by omega)
        obtain ⟨b2, o2, hA2, hb2, hc2⟩ := h2.form (by omega)
        subst hA1
        subst hA2
        obtain ⟨x, hx⟩ : ∃ x, X[k]? = some x := ⟨X[k]'(by have := HL1.out; omega), List.getElem?_eq_getElem _⟩
        obtain ⟨y, hy⟩ : ∃ y, Y[k]? = some y := ⟨Y[k]'(by have := HL2.out; omega), List.getElem?_eq_getElem _⟩
        obtain ⟨x0, x1, x2, x3⟩ := hc1 k x hx
        obtain ⟨y0, y1, y2, y3⟩ := hc2 k y hy
        have z0 : (w.drewN q).cell? ⟨b1, o1 + k * 4, none⟩ = some (.int .u64 (x.n : Int)) := x0
        have z1 : (w.drewN q).cell? ⟨b1, o1 + k * 4 + 1, none⟩ = some (.int .u64 (x.z : Int)) := x1
        have z2 : (w.drewN q).cell? ⟨b1, o1 + k * 4 + 2, none⟩ = some (.string x.s) := x2
        have z3 : (w.drewN q).cell? ⟨b1, o1 + k * 4 + 3, none⟩ = some (.string x.t) := x3
        have v0 : (w.drewN q).cell? ⟨b2, o2 + k * 4, none⟩ = some (.int .u64 (y.n : Int)) := y0
        have v1 : (w.drewN q).cell? ⟨b2, o2 + k * 4 + 1, none⟩ = some (.int .u64 (y.z : Int)) := y1
        have v2 : (w.drewN q).cell? ⟨b2, o2 + k * 4 + 2, none⟩ = some (.string y.s) := y2
        have v3 : (w.drewN q).cell? ⟨b2, o2 + k * 4 + 3, none⟩ = some (.string y.t) := y3
        have hki : (k : Int) < (n1 : Int) := by omega
        have hk0 : (0 : Int) ≤ (k : Int) := by omega
        have HX := Lib.hid hx
        have HY := Lib.hid hy
        have HALL := Lib.hid hall
        have HEQ := fun W => run_eq_mt W x y
        clear hx hy hall hc1 hc2 h1 h2 hkn
        cases hs : sameM x y with
        | true =>
          rw [hs] at HEQ
          have HS := Lib.hid hs
          clear hs
          go_wp2_with fail
          go_quiet (fail)
          go_wp2_with fail
          go_roundw
          case rel =>
            refine ⟨k + 1, by simp, by omega, fun i a b hi ha hb => ?_, q + nq, rfl⟩
            rcases Nat.lt_or_ge i k with h3 | h3
            · exact HALL.out i a b h3 ha hb
            · obtain rfl : i = k := by omega
              rw [HX.out] at ha
              rw [HY.out] at hb
              cases ha; cases hb
              exact HS.out
          case measure => simp [intOf]; omega
        | false =>
          rw [hs] at HEQ
          have HS := Lib.hid (sameL_ne HX.out HY.out hs)
          clear hs
          go_wp2_with fail
          go_quiet (fail)
          go_wp2_with fail
          go_ret
          exact ⟨by rw [HS.out]; rfl, q + nq, by simp [World.drewN_drewN]⟩
      · have hki : ¬ (k : Int) < (n1 : Int) := by omega
        have HY := Lib.hid (sameL_of (X := X) (Y := Y) (by rw [HL1.out, HL2.out]) (fun i a b ha hb => hall i a b (by have := get_lt HL1.out ha; omega) ha hb))
        clear hall h1 h2
        go_wp2_with fail
        go_ret
        exact ⟨by rw [HY.out]; rfl, q, rfl⟩
  · have d1 : ((n1 : Int) != (n2 : Int)) = true := by simp; omega
    have d2 : (n1 != n2) = true := by simp; omega
    have HS := Lib.hid (sameL_len (X := X) (Y := Y) (by omega))
    clear hl1 hl2 h1 h2 hnn
    go_wp2_with fail
    go_ret
    exact ⟨by rw [HS.out]; rfl, 0, rfl⟩

/-- Two edits in boxes of their own, beside each other. -/
structure Two (w : World) (t1 t2 : TypeId) (A1 A2 : Option Addr) (n1 c1 n2 c2 : Nat) (e f : Ed) (w2 : World) : Prop where
  b1 : B4 w2 w.heap.size t1 (.slice A1 n1 c1) (.int .u64 (e.a : Int)) (.int .u64 (e.b : Int)) (.int .u64 (e.c : Int))
  b2 : B4 w2 (w.heap.size + 1) t2 (.slice A2 n2 c2) (.int .u64 (f.a : Int)) (.int .u64 (f.b : Int)) (.int .u64 (f.c : Int))
  below : Below w.heap.size w w2
theorem Two.new (w : World) (t1 t2 : TypeId) (A1 A2 : Option Addr) (n1 c1 n2 c2 : Nat) (e f : Ed) :
    Two w t1 t2 A1 A2 n1 c1 n2 c2 e f ((w.alloc (.cells #[.slice A1 n1 c1, .int .u64 (e.a : Int), .int .u64 (e.b : Int), .int .u64 (e.c : Int)] t1)).alloc (.cells #[.slice A2 n2 c2, .int .u64 (f.a : Int), .int .u64 (f.b : Int), .int .u64 (f.c : Int)] t2)) :=
  ⟨(B4.new _ _ _ _ _ _ rfl).alloc _, B4.new _ _ _ _ _ _ (by simp), (below_alloc w _).alloc (by simp) _⟩
theorem Two.now {w w2 w3 : World} {t1 t2 : TypeId} {A1 A2 : Option Addr} {n1 c1 n2 c2 : Nat} {e f : Ed} (h : Two w t1 t2 A1 A2 n1 c1 n2 c2 e f w2) (hb : Below w2.heap.size w2 w3) : Two w t1 t2 A1 A2 n1 c1 n2 c2 e f w3 :=
  ⟨h.b1.now hb, h.b2.now hb, bon h.below hb⟩

set_option maxRecDepth 100000 in
set_option maxHeartbeats 4000000 in
theorem same_e {w : World} {B n1 c1 n2 c2 : Nat} {A1 A2 : Option Addr} {e f : Ed} (h1 : RdM w B A1 n1 c1 e.L) (h2 : RdM w B A2 n2 c2 f.L) (hB : B ≤ w.heap.size) (hn : (n1 : Int) ≤ 70368744000000) :
    Calls Try.prog 19 #[edV A1 n1 c1 e, edV A2 n2 c2 f] w (RetVl w (.bool (sameE e f))) := by
  have ht := Two.new w 25 25 A1 A2 n1 c1 n2 c2 e f
  obtain ⟨w2, hw2⟩ : ∃ w2, w2 = ((w.alloc (.cells #[.slice A1 n1 c1, .int .u64 (e.a : Int), .int .u64 (e.b : Int), .int .u64 (e.c : Int)] 25)).alloc (.cells #[.slice A2 n2 c2, .int .u64 (f.a : Int), .int .u64 (f.b : Int), .int .u64 (f.c : Int)] 25)) := ⟨_, rfl⟩
  rw [← hw2] at ht
  obtain ⟨q0, q1, q2, q3, _, _, _, _⟩ := ht.b1.cells
  obtain ⟨r0, r1, r2, r3, _, _, _, _⟩ := ht.b2.cells
  have HE := Lib.hid (mequal_c (h1.below ht.below hB) (h2.below ht.below hB) hn)
  have HT := Lib.hid ht.below
  have HS := Lib.hid (show sameE e f = (sameL e.L f.L && decide (e.a = f.a) && decide (e.b = f.b) && decide (e.c = f.c)) from rfl)
  clear ht h1 h2 hn
  unfold edV
  go_enter Try.func19, Try.ntmps19
  go_upto_region 1 with (fail)
  rw [← hw2]
  clear hw2
  go_wp2_with fail
  refine HE.out.mono ?_
  rintro e' w3 ⟨rfl, q, rfl⟩
  have da : ((e.a : Int) == (f.a : Int)) = decide (e.a = f.a) := by rw [Bool.eq_iff_iff]; simp; omega
  have db : ((e.b : Int) == (f.b : Int)) = decide (e.b = f.b) := by rw [Bool.eq_iff_iff]; simp; omega
  have dc : ((e.c : Int) == (f.c : Int)) = decide (e.c = f.c) := by rw [Bool.eq_iff_iff]; simp; omega
  cases hs : sameL e.L f.L with
  | false =>
    rw [hs] at HS
    go_wp2_with fail
    go_ret
    exact RetVl.bool (by rw [HS.out]; simp) (below_drewN HT.out q)
  | true =>
    rw [hs] at HS
    by_cases ha : e.a = f.a
    · by_cases hb : e.b = f.b
      · have ea : ((e.a : Int) == (f.a : Int)) = true := by simp; omega
        have eb : ((e.b : Int) == (f.b : Int)) = true := by simp; omega
        have HA := Lib.hid ha
        have HB := Lib.hid hb
        have HDC := Lib.hid dc
        clear ha hb da db dc
        have ea' : (e.a == f.a) = true := by simp [HA.out]
        have eb' : (e.b == f.b) = true := by simp [HB.out]
        by_cases hc : e.c = f.c
        · have ec : ((e.c : Int) == (f.c : Int)) = true := by simp; omega
          have ec' : (e.c == f.c) = true := by simp [hc]
          have HC := Lib.hid hc
          clear hc
          go_wp2_with fail
          go_ret
          exact RetVl.bool (by rw [HS.out]; simp [HA.out, HB.out, HC.out]) (below_drewN HT.out q)
        · have ec : ((e.c : Int) == (f.c : Int)) = false := by simp; omega
          have ec' : (e.c == f.c) = false := by simp [hc]
          have HC := Lib.hid hc
          clear hc
          go_wp2_with fail
          go_ret
          exact RetVl.bool (by rw [HS.out]; simp [HA.out, HB.out, HC.out]) (below_drewN HT.out q)
      · have ea : ((e.a : Int) == (f.a : Int)) = true := by simp; omega
        have eb : ((e.b : Int) == (f.b : Int)) = false := by simp; omega
        have eb' : (e.b == f.b) = false := by simp [hb]
        have HA := Lib.hid ha
        have HB := Lib.hid hb
        have ea' : (e.a == f.a) = true := by simp [HA.out]
        clear ha hb da db dc
        go_wp2_with fail
        go_ret
        exact RetVl.bool (by rw [HS.out]; simp [HB.out]) (below_drewN HT.out q)
    · have ea : ((e.a : Int) == (f.a : Int)) = false := by simp; omega
      have ea' : (e.a == f.a) = false := by simp [ha]
      have HA := Lib.hid ha
      clear ha da db dc
      go_wp2_with fail
      go_ret
      exact RetVl.bool (by rw [HS.out]; simp [HA.out]) (below_drewN HT.out q)

set_option maxRecDepth 100000 in
set_option maxHeartbeats 1000000 in
theorem falls_c (w : World) (x y : Nat) : Calls Try.prog 42 #[.int .u64 (x : Int), .int .u64 (y : Int)] w fun e w' => e = .returned (.bool (fallB x y)) ∧ w = w' := by
  go_enter Try.func42, Try.ntmps42
  go_wp2
  all_goals go_ret
  all_goals refine ⟨?_, rfl⟩
  all_goals simp_all [fallB]
end Go.Proofs.Ythgbafhfeblhaaa
