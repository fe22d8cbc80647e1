/-
  The row of the parts of a form; the first byte of it.
-/
import Derived.Test.YthgbafhfeblhaaaEd6
import Derived.Laws.EntriesVeiled
namespace Go.Proofs.Ythgbafhfeblhaaa
set_option maxRecDepth 100000
open Go.RowKit Go.Shelf
set_option linter.unusedSimpArgs false
set_option linter.unusedVariables false

def clo (f k : Nat) : Value := .func (.func f) #[] #[.pointer (some ⟨k, 0, none⟩)]
def fnV (f : Nat) : Value := .func (.func f) #[] #[]
/-- The parts: where they lie. -/
structure PartsAt (w : World) (p k1 k2 k3 : Nat) : Prop where
  h : w.heap[p]? = some (.cells #[.int .u8 1, fnV 45, fnV 46, fnV 47,
    .int .u8 2, clo 59 k1, clo 60 k1, clo 61 k1,
    .int .u8 4, clo 59 k2, clo 60 k2, clo 61 k2,
    .int .u8 8, clo 59 k3, clo 60 k3, clo 61 k3] 74 (0, 0))
  o1 : OfAt w 1 k1
  o2 : OfAt w 2 k2
  o3 : OfAt w 3 k3
theorem PartsAt.lt {w : World} {p k1 k2 k3 : Nat} (h : PartsAt w p k1 k2 k3) : p < w.heap.size := (Array.getElem?_eq_some_iff.1 h.h).1
theorem PartsAt.under {w w' : World} {p k1 k2 k3 B : Nat} (h : PartsAt w p k1 k2 k3) (hb : Below B w w') (hB : w.heap.size ≤ B) : PartsAt w' p k1 k2 k3 :=
  ⟨by rw [hb.block p (by have := h.lt; omega)]; exact h.h, h.o1.under hb (by have := h.o1.lt; omega), h.o2.under hb (by have := h.o2.lt; omega), h.o3.under hb (by have := h.o3.lt; omega)⟩
theorem PartsAt.now {w w' : World} {p k1 k2 k3 : Nat} (h : PartsAt w p k1 k2 k3) (hb : Below w.heap.size w w') : PartsAt w' p k1 k2 k3 := h.under hb (Nat.le_refl _)
theorem PartsAt.only {w w' : World} {p k1 k2 k3 g : Nat} (h : PartsAt w p k1 k2 k3) (hb : Only g w w') (h0 : p ≠ g) (h1 : k1 ≠ g) (h2 : k2 ≠ g) (h3 : k3 ≠ g) : PartsAt w' p k1 k2 k3 :=
  ⟨by rw [hb.block p h.lt h0]; exact h.h, h.o1.only hb h1, h.o2.only hb h2, h.o3.only hb h3⟩
theorem PartsAt.c0 {w : World} {p k1 k2 k3 : Nat} (h : PartsAt w p k1 k2 k3) : w.cell? ⟨p, 0, none⟩ = some (.int .u8 1) ∧ w.cell? ⟨p, 1, none⟩ = some (fnV 45) ∧ w.cell? ⟨p, 2, none⟩ = some (fnV 46) ∧ w.cell? ⟨p, 3, none⟩ = some (fnV 47) := by
  refine ⟨?_, ?_, ?_, ?_⟩ <;> (simp only [World.cell?, h.h]; rfl)
theorem PartsAt.c1 {w : World} {p k1 k2 k3 : Nat} (h : PartsAt w p k1 k2 k3) : w.cell? ⟨p, 4, none⟩ = some (.int .u8 2) ∧ w.cell? ⟨p, 5, none⟩ = some (clo 59 k1) ∧ w.cell? ⟨p, 6, none⟩ = some (clo 60 k1) ∧ w.cell? ⟨p, 7, none⟩ = some (clo 61 k1) := by
  refine ⟨?_, ?_, ?_, ?_⟩ <;> (simp only [World.cell?, h.h]; rfl)
theorem PartsAt.c2 {w : World} {p k1 k2 k3 : Nat} (h : PartsAt w p k1 k2 k3) : w.cell? ⟨p, 8, none⟩ = some (.int .u8 4) ∧ w.cell? ⟨p, 9, none⟩ = some (clo 59 k2) ∧ w.cell? ⟨p, 10, none⟩ = some (clo 60 k2) ∧ w.cell? ⟨p, 11, none⟩ = some (clo 61 k2) := by
  refine ⟨?_, ?_, ?_, ?_⟩ <;> (simp only [World.cell?, h.h]; rfl)
theorem PartsAt.c3 {w : World} {p k1 k2 k3 : Nat} (h : PartsAt w p k1 k2 k3) : w.cell? ⟨p, 12, none⟩ = some (.int .u8 8) ∧ w.cell? ⟨p, 13, none⟩ = some (clo 59 k3) ∧ w.cell? ⟨p, 14, none⟩ = some (clo 60 k3) ∧ w.cell? ⟨p, 15, none⟩ = some (clo 61 k3) := by
  refine ⟨?_, ?_, ?_, ?_⟩ <;> (simp only [World.cell?, h.h]; rfl)

set_option maxRecDepth 100000 in
set_option maxHeartbeats 1000000 in
theorem number1_c (w : World) : Calls Try.prog 48 #[.int .u8 2, .func (.func 49) #[] #[]] w fun e w' =>
    e = .returned (.agg #[.int .u8 2, .func (.func 59) #[] #[.pointer (some ⟨w.heap.size, 0, none⟩)], .func (.func 60) #[] #[.pointer (some ⟨w.heap.size, 0, none⟩)], .func (.func 61) #[] #[.pointer (some ⟨w.heap.size, 0, none⟩)]]) ∧ OfAt w' 1 w.heap.size ∧ Below w.heap.size w w' := by
  have hmf : ∀ (fn : Fn) (first cap : Array Value) (w : World), (Instr.makeFunc fn first cap).run Try.prog w = .ok (.func fn first cap) w := fun _ _ _ _ => rfl
  obtain ⟨o1, ho1⟩ : ∃ o, o = (Obj.cells #[.func (.func 49) #[] #[]] 86) := ⟨_, rfl⟩
  have hof : OfAt (w.alloc o1) 1 w.heap.size := by rw [ho1]; exact ⟨heap_at rfl⟩
  have hb1 := below_alloc w o1
  obtain ⟨o2, ho2⟩ : ∃ o, o = (Obj.cells #[.int .u8 0, .nilFunc, .nilFunc, .nilFunc] 74) := ⟨_, rfl⟩
  have hg : B4 ((w.alloc o1).alloc o2) (w.heap.size + 1) 74 (.int .u8 0) .nilFunc .nilFunc .nilFunc := by rw [ho2]; exact B4.new _ _ _ _ _ _ (by simp)
  have hb2 := hb1.alloc hb1.size o2
  have hof2 := hof.under (below_alloc _ o2) hof.lt
  obtain ⟨w2, hw2⟩ : ∃ w2, w2 = (w.alloc o1).alloc o2 := ⟨_, rfl⟩
  rw [← hw2] at hg hb2 hof2
  obtain ⟨q0, q1, q2, q3, z0, z1, z2, z3⟩ := hg.cells
  have HG := Lib.hid hg
  have HB := Lib.hid hb2
  have HO := Lib.hid hof2
  clear hg hb1 hb2 hof hof2
  subst ho1
  subst ho2
  go_enter Try.func48, Try.ntmps48
  go_upto_region 1 with (fail)
  rw [← hw2]
  clear hw2
  go_wp2_with fail
  have hset := HG.out.set (.int .u8 2) (.func (.func 59) #[] #[.pointer (some ⟨w.heap.size, 0, none⟩)]) (.func (.func 60) #[] #[.pointer (some ⟨w.heap.size, 0, none⟩)]) (.func (.func 61) #[] #[.pointer (some ⟨w.heap.size, 0, none⟩)])
  have hbs := set4_below HB.out (Nat.le_succ w.heap.size) (.int .u8 2) (.func (.func 59) #[] #[.pointer (some ⟨w.heap.size, 0, none⟩)]) (.func (.func 60) #[] #[.pointer (some ⟨w.heap.size, 0, none⟩)]) (.func (.func 61) #[] #[.pointer (some ⟨w.heap.size, 0, none⟩)])
  have hos := HO.out.under (set4_below (Below.refl (w.heap.size + 1) w2) (Nat.le_refl (w.heap.size + 1)) (.int .u8 2) (.func (.func 59) #[] #[.pointer (some ⟨w.heap.size, 0, none⟩)]) (.func (.func 60) #[] #[.pointer (some ⟨w.heap.size, 0, none⟩)]) (.func (.func 61) #[] #[.pointer (some ⟨w.heap.size, 0, none⟩)])) (Nat.lt_succ_self _)
  rw [show w.heap.size.succ = w.heap.size + 1 from rfl] at hbs
  obtain ⟨wz, hwz⟩ : ∃ wz, wz = set4 w2 (w.heap.size + 1) (.int .u8 2) (.func (.func 59) #[] #[.pointer (some ⟨w.heap.size, 0, none⟩)]) (.func (.func 60) #[] #[.pointer (some ⟨w.heap.size, 0, none⟩)]) (.func (.func 61) #[] #[.pointer (some ⟨w.heap.size, 0, none⟩)]) := ⟨_, rfl⟩
  rw [← hwz] at hset hbs hos
  unfold set4 at hwz
  rw [← hwz]
  clear hwz
  obtain ⟨y0, y1, y2, y3, _, _, _, _⟩ := hset.cells
  (try simp only [Exit.inBlock, Exit.then])
  refine bodyPost_ret (v := .agg #[.int .u8 2, .func (.func 59) #[] #[.pointer (some ⟨w.heap.size, 0, none⟩)], .func (.func 60) #[] #[.pointer (some ⟨w.heap.size, 0, none⟩)], .func (.func 61) #[] #[.pointer (some ⟨w.heap.size, 0, none⟩)]]) (by simp [results, Try.results48, go_sem, y0, y1, y2, y3]; try rfl) rfl ?_
  exact ⟨rfl, hos, hbs⟩

set_option maxRecDepth 100000 in
set_option maxHeartbeats 1000000 in
theorem number2_c (w : World) : Calls Try.prog 48 #[.int .u8 4, .func (.func 50) #[] #[]] w fun e w' =>
    e = .returned (.agg #[.int .u8 4, .func (.func 59) #[] #[.pointer (some ⟨w.heap.size, 0, none⟩)], .func (.func 60) #[] #[.pointer (some ⟨w.heap.size, 0, none⟩)], .func (.func 61) #[] #[.pointer (some ⟨w.heap.size, 0, none⟩)]]) ∧ OfAt w' 2 w.heap.size ∧ Below w.heap.size w w' := by
  have hmf : ∀ (fn : Fn) (first cap : Array Value) (w : World), (Instr.makeFunc fn first cap).run Try.prog w = .ok (.func fn first cap) w := fun _ _ _ _ => rfl
  obtain ⟨o1, ho1⟩ : ∃ o, o = (Obj.cells #[.func (.func 50) #[] #[]] 86) := ⟨_, rfl⟩
  have hof : OfAt (w.alloc o1) 2 w.heap.size := by rw [ho1]; exact ⟨heap_at rfl⟩
  have hb1 := below_alloc w o1
  obtain ⟨o2, ho2⟩ : ∃ o, o = (Obj.cells #[.int .u8 0, .nilFunc, .nilFunc, .nilFunc] 74) := ⟨_, rfl⟩
  have hg : B4 ((w.alloc o1).alloc o2) (w.heap.size + 1) 74 (.int .u8 0) .nilFunc .nilFunc .nilFunc := by rw [ho2]; exact B4.new _ _ _ _ _ _ (by simp)
  have hb2 := hb1.alloc hb1.size o2
  have hof2 := hof.under (below_alloc _ o2) hof.lt
  obtain ⟨w2, hw2⟩ : ∃ w2, w2 = (w.alloc o1).alloc o2 := ⟨_, rfl⟩
  rw [← hw2] at hg hb2 hof2
  obtain ⟨q0, q1, q2, q3, z0, z1, z2, z3⟩ := hg.cells
  have HG := Lib.hid hg
  have HB := Lib.hid hb2
  have HO := Lib.hid hof2
  clear hg hb1 hb2 hof hof2
  subst ho1
  subst ho2
  go_enter Try.func48, Try.ntmps48
  go_upto_region 1 with (fail)
  rw [← hw2]
  clear hw2
  go_wp2_with fail
  have hset := HG.out.set (.int .u8 4) (.func (.func 59) #[] #[.pointer (some ⟨w.heap.size, 0, none⟩)]) (.func (.func 60) #[] #[.pointer (some ⟨w.heap.size, 0, none⟩)]) (.func (.func 61) #[] #[.pointer (some ⟨w.heap.size, 0, none⟩)])
  have hbs := set4_below HB.out (Nat.le_succ w.heap.size) (.int .u8 4) (.func (.func 59) #[] #[.pointer (some ⟨w.heap.size, 0, none⟩)]) (.func (.func 60) #[] #[.pointer (some ⟨w.heap.size, 0, none⟩)]) (.func (.func 61) #[] #[.pointer (some ⟨w.heap.size, 0, none⟩)])
  have hos := HO.out.under (set4_below (Below.refl (w.heap.size + 1) w2) (Nat.le_refl (w.heap.size + 1)) (.int .u8 4) (.func (.func 59) #[] #[.pointer (some ⟨w.heap.size, 0, none⟩)]) (.func (.func 60) #[] #[.pointer (some ⟨w.heap.size, 0, none⟩)]) (.func (.func 61) #[] #[.pointer (some ⟨w.heap.size, 0, none⟩)])) (Nat.lt_succ_self _)
  rw [show w.heap.size.succ = w.heap.size + 1 from rfl] at hbs
  obtain ⟨wz, hwz⟩ : ∃ wz, wz = set4 w2 (w.heap.size + 1) (.int .u8 4) (.func (.func 59) #[] #[.pointer (some ⟨w.heap.size, 0, none⟩)]) (.func (.func 60) #[] #[.pointer (some ⟨w.heap.size, 0, none⟩)]) (.func (.func 61) #[] #[.pointer (some ⟨w.heap.size, 0, none⟩)]) := ⟨_, rfl⟩
  rw [← hwz] at hset hbs hos
  unfold set4 at hwz
  rw [← hwz]
  clear hwz
  obtain ⟨y0, y1, y2, y3, _, _, _, _⟩ := hset.cells
  (try simp only [Exit.inBlock, Exit.then])
  refine bodyPost_ret (v := .agg #[.int .u8 4, .func (.func 59) #[] #[.pointer (some ⟨w.heap.size, 0, none⟩)], .func (.func 60) #[] #[.pointer (some ⟨w.heap.size, 0, none⟩)], .func (.func 61) #[] #[.pointer (some ⟨w.heap.size, 0, none⟩)]]) (by simp [results, Try.results48, go_sem, y0, y1, y2, y3]; try rfl) rfl ?_
  exact ⟨rfl, hos, hbs⟩

set_option maxRecDepth 100000 in
set_option maxHeartbeats 1000000 in
theorem number3_c (w : World) : Calls Try.prog 48 #[.int .u8 8, .func (.func 51) #[] #[]] w fun e w' =>
    e = .returned (.agg #[.int .u8 8, .func (.func 59) #[] #[.pointer (some ⟨w.heap.size, 0, none⟩)], .func (.func 60) #[] #[.pointer (some ⟨w.heap.size, 0, none⟩)], .func (.func 61) #[] #[.pointer (some ⟨w.heap.size, 0, none⟩)]]) ∧ OfAt w' 3 w.heap.size ∧ Below w.heap.size w w' := by
  have hmf : ∀ (fn : Fn) (first cap : Array Value) (w : World), (Instr.makeFunc fn first cap).run Try.prog w = .ok (.func fn first cap) w := fun _ _ _ _ => rfl
  obtain ⟨o1, ho1⟩ : ∃ o, o = (Obj.cells #[.func (.func 51) #[] #[]] 86) := ⟨_, rfl⟩
  have hof : OfAt (w.alloc o1) 3 w.heap.size := by rw [ho1]; exact ⟨heap_at rfl⟩
  have hb1 := below_alloc w o1
  obtain ⟨o2, ho2⟩ : ∃ o, o = (Obj.cells #[.int .u8 0, .nilFunc, .nilFunc, .nilFunc] 74) := ⟨_, rfl⟩
  have hg : B4 ((w.alloc o1).alloc o2) (w.heap.size + 1) 74 (.int .u8 0) .nilFunc .nilFunc .nilFunc := by rw [ho2]; exact B4.new _ _ _ _ _ _ (by simp)
  have hb2 := hb1.alloc hb1.size o2
  have hof2 := hof.under (below_alloc _ o2) hof.lt
  obtain ⟨w2, hw2⟩ : ∃ w2, w2 = (w.alloc o1).alloc o2 := ⟨_, rfl⟩
  rw [← hw2] at hg hb2 hof2
  obtain ⟨q0, q1, q2, q3, z0, z1, z2, z3⟩ := hg.cells
  have HG := Lib.hid hg
  have HB := Lib.hid hb2
  have HO := Lib.hid hof2
  clear hg hb1 hb2 hof hof2
  subst ho1
  subst ho2
  go_enter Try.func48, Try.ntmps48
  go_upto_region 1 with (fail)
  rw [← hw2]
  clear hw2
  go_wp2_with fail
  have hset := HG.out.set (.int .u8 8) (.func (.func 59) #[] #[.pointer (some ⟨w.heap.size, 0, none⟩)]) (.func (.func 60) #[] #[.pointer (some ⟨w.heap.size, 0, none⟩)]) (.func (.func 61) #[] #[.pointer (some ⟨w.heap.size, 0, none⟩)])
  have hbs := set4_below HB.out (Nat.le_succ w.heap.size) (.int .u8 8) (.func (.func 59) #[] #[.pointer (some ⟨w.heap.size, 0, none⟩)]) (.func (.func 60) #[] #[.pointer (some ⟨w.heap.size, 0, none⟩)]) (.func (.func 61) #[] #[.pointer (some ⟨w.heap.size, 0, none⟩)])
  have hos := HO.out.under (set4_below (Below.refl (w.heap.size + 1) w2) (Nat.le_refl (w.heap.size + 1)) (.int .u8 8) (.func (.func 59) #[] #[.pointer (some ⟨w.heap.size, 0, none⟩)]) (.func (.func 60) #[] #[.pointer (some ⟨w.heap.size, 0, none⟩)]) (.func (.func 61) #[] #[.pointer (some ⟨w.heap.size, 0, none⟩)])) (Nat.lt_succ_self _)
  rw [show w.heap.size.succ = w.heap.size + 1 from rfl] at hbs
  obtain ⟨wz, hwz⟩ : ∃ wz, wz = set4 w2 (w.heap.size + 1) (.int .u8 8) (.func (.func 59) #[] #[.pointer (some ⟨w.heap.size, 0, none⟩)]) (.func (.func 60) #[] #[.pointer (some ⟨w.heap.size, 0, none⟩)]) (.func (.func 61) #[] #[.pointer (some ⟨w.heap.size, 0, none⟩)]) := ⟨_, rfl⟩
  rw [← hwz] at hset hbs hos
  unfold set4 at hwz
  rw [← hwz]
  clear hwz
  obtain ⟨y0, y1, y2, y3, _, _, _, _⟩ := hset.cells
  (try simp only [Exit.inBlock, Exit.then])
  refine bodyPost_ret (v := .agg #[.int .u8 8, .func (.func 59) #[] #[.pointer (some ⟨w.heap.size, 0, none⟩)], .func (.func 60) #[] #[.pointer (some ⟨w.heap.size, 0, none⟩)], .func (.func 61) #[] #[.pointer (some ⟨w.heap.size, 0, none⟩)]]) (by simp [results, Try.results48, go_sem, y0, y1, y2, y3]; try rfl) rfl ?_
  exact ⟨rfl, hos, hbs⟩

set_option maxRecDepth 100000 in
set_option maxHeartbeats 2000000 in
theorem parts_c (w : World) : Calls Try.prog 39 #[] w fun e w' => ∃ p k1 k2 k3, e = .returned (.slice (some ⟨p, 0, none⟩) 4 4) ∧ PartsAt w' p k1 k2 k3 ∧ Below w.heap.size w w' ∧ w.heap.size ≤ p ∧ w.heap.size ≤ k1 ∧ w.heap.size ≤ k2 ∧ w.heap.size ≤ k3 := by
  go_enter Try.func39, Try.ntmps39
  go_wp2_with fail
  refine (number1_c _).mono ?_
  rintro e w1 ⟨rfl, h1, hb1⟩
  go_wp2_with fail
  refine (number2_c _).mono ?_
  rintro e w2 ⟨rfl, h2, hb2⟩
  go_wp2_with fail
  refine (number3_c _).mono ?_
  rintro e w3 ⟨rfl, h3, hb3⟩
  have hb13 := bon (bon hb1 hb2) hb3
  have H1 := Lib.hid ((h1.under hb2 h1.lt).under hb3 (by have := h1.lt; have := hb2.size; omega))
  have H2 := Lib.hid (h2.under hb3 h2.lt)
  have H3 := Lib.hid h3
  have HB := Lib.hid hb13
  have HS := Lib.hid (show w.heap.size ≤ w1.heap.size ∧ w1.heap.size ≤ w2.heap.size ∧ w2.heap.size ≤ w3.heap.size from ⟨hb1.size, hb2.size, hb3.size⟩)
  clear h1 h2 h3 hb1 hb2 hb3 hb13
  go_wp2_with fail
  go_ret
  refine ⟨w3.heap.size, w.heap.size, w1.heap.size, w2.heap.size, rfl, ⟨heap_at rfl, H1.out.under (below_alloc _ _) H1.out.lt, H2.out.under (below_alloc _ _) H2.out.lt, H3.out.under (below_alloc _ _) H3.out.lt⟩, HB.out.alloc HB.out.size _, ?_⟩
  obtain ⟨s1, s2, s3⟩ := HS.out
  omega
end Go.Proofs.Ythgbafhfeblhaaa
