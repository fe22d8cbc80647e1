/-
  The parts of an edit's form: a row of structs of functions; what each tells, puts and takes.
-/
import Derived.Test.YthgbafhfeblhaaaEd4
namespace Go.Proofs.Ythgbafhfeblhaaa
set_option maxRecDepth 100000
open Go.RowKit Go.Shelf
set_option linter.unusedSimpArgs false
set_option linter.unusedVariables false

def numE (i : Nat) (e : Ed) : Nat := match i with | 1 => e.a | 2 => e.b | _ => e.c
/-- An edit as its four cells. -/
def edO (A : Option Addr) (n c : Nat) (e : Ed) : Obj := .cells #[.slice A n c, .int .u64 (e.a : Int), .int .u64 (e.b : Int), .int .u64 (e.c : Int)] 25
def ofN (i : Nat) : Nat := match i with | 1 => 49 | 2 => 50 | _ => 51
/-- The box of the function that tells where a number lies. -/
structure OfAt (w : World) (i k : Nat) : Prop where
  h : w.heap[k]? = some (.cells #[.func (.func (ofN i)) #[] #[]] 86 (0, 0))
theorem OfAt.lt {w : World} {i k : Nat} (h : OfAt w i k) : k < w.heap.size := (Array.getElem?_eq_some_iff.1 h.h).1
theorem OfAt.under {w w' : World} {i k B : Nat} (h : OfAt w i k) (hb : Below B w w') (hk : k < B) : OfAt w' i k := ⟨by rw [hb.block k hk]; exact h.h⟩
theorem OfAt.only {w w' : World} {i k g : Nat} (h : OfAt w i k) (hb : Only g w w') (hk : k ≠ g) : OfAt w' i k := ⟨by rw [hb.block k h.lt hk]; exact h.h⟩
theorem OfAt.cell {w : World} {i k : Nat} (h : OfAt w i k) : w.cell? ⟨k, 0, none⟩ = some (.func (.func (ofN i)) #[] #[]) := by simp only [World.cell?, h.h]; rfl

set_option maxRecDepth 100000 in
theorem of1_c (w : World) (g : Nat) : Calls Try.prog 49 #[.pointer (some ⟨g, 0, none⟩)] w fun e w' => e = .returned (.pointer (some ⟨g, 1, none⟩)) ∧ w = w' := by
  go_enter Try.func49, Try.ntmps49
  go_wp2
  go_ret
  exact ⟨rfl, rfl⟩

set_option maxRecDepth 100000 in
set_option maxHeartbeats 1000000 in
theorem said1_c {w : World} {k n c : Nat} {A : Option Addr} {e : Ed} (h : OfAt w 1 k) : Calls Try.prog 59 #[edV A n c e, .pointer (some ⟨k, 0, none⟩)] w (RetVl w (.bool (sayB 1 e))) := by
  have q0 := (h.under (below_alloc w (edO A n c e)) h.lt).cell
  obtain ⟨x0, x1, x2, x3, _, _, _, _⟩ := (B4.new w 25 (.slice A n c) (.int .u64 (e.a : Int)) (.int .u64 (e.b : Int)) (.int .u64 (e.c : Int)) rfl).cells
  have hb := below_alloc w (edO A n c e)
  unfold edO at q0 hb
  simp only [ofN] at q0
  have d : decide (0 < numE 1 e) = decide ((0 : Int) < (numE 1 e : Int)) := by simp
  have HS := Lib.hid (show sayB 1 e = decide (0 < numE 1 e) from rfl)
  unfold numE at d
  simp only at d
  have HD := Lib.hid d
  clear d h
  unfold edV
  go_enter Try.func59, Try.ntmps59
  go_wp2_with fail
  refine (of1_c _ _).mono ?_
  rintro e w1 ⟨rfl, rfl⟩
  go_wp2_with fail
  all_goals go_ret
  all_goals exact RetVl.bool (by rw [HS.out]; simp [numE, HD.out]) hb

set_option maxRecDepth 100000 in
set_option maxHeartbeats 1000000 in
theorem put1_c {w : World} {k n c B n1 c1 : Nat} {A A1 : Option Addr} {l : List UInt8} {e : Ed} (h : OfAt w 1 k) (hl : Rd w B A1 n1 c1 (bv l)) (hB : B ≤ w.heap.size) (hn : n1 ≤ 1000000) (he : NumsOk e) :
    Calls Try.prog 60 #[.slice A1 n1 c1, edV A n c e, .pointer (some ⟨k, 0, none⟩)] w (RetB w (l ++ putL 1 e)) := by
  have q0 := (h.under (below_alloc w (edO A n c e)) h.lt).cell
  obtain ⟨x0, x1, x2, x3, _, _, _, _⟩ := (B4.new w 25 (.slice A n c) (.int .u64 (e.a : Int)) (.int .u64 (e.b : Int)) (.int .u64 (e.c : Int)) rfl).cells
  have hb := below_alloc w (edO A n c e)
  have HP := Lib.hid (put_c (w := w.alloc (edO A n c e)) (hl.under hb hB) (Nat.le_trans hB hb.size) (by omega) (numE 1 e : Int) (by omega) (by obtain ⟨h1, h2, h3⟩ := he; simpa only [numE] using (by first | exact h1 | exact h2 | exact h3)))
  rw [Int.toNat_natCast] at HP
  unfold edO numE at HP
  unfold edO at q0 hb
  simp only [ofN] at q0
  have HB := Lib.hid hb
  clear h he hl hB hn hb
  unfold edV
  go_enter Try.func60, Try.ntmps60
  go_wp2_with fail
  refine (of1_c _ _).mono ?_
  rintro e' w1 ⟨rfl, rfl⟩
  go_wp2_with fail
  refine HP.out.mono ?_
  rintro e' w2 ⟨A2, n2, c2, rfl, hf2, hb2⟩
  go_wp2_with fail
  go_ret
  exact ⟨A2, n2, c2, rfl, hf2.mono (by simp), bon HB.out hb2⟩

set_option maxRecDepth 100000 in
set_option maxHeartbeats 2000000 in
theorem take1_c {w : World} {k n c B g : Nat} {A : Option Addr} {l : List UInt8} {v0 v1 v2 v3 : Value} (h : OfAt w 1 k) (hl : Rd w B A n c (bv l)) (hB : B ≤ g) (hn : n ≤ 1000000) (hg : B4 w g 25 v0 v1 v2 v3) (hk : k ≠ g) :
    Calls Try.prog 61 #[.pointer (some ⟨g, 0, none⟩), .slice A n c, .pointer (some ⟨k, 0, none⟩)] w fun e w' =>
      ∃ A' n' c', e = .returned (.tuple #[.slice A' n' c', .bool (numP l).2.2]) ∧ Rd w' B A' n' c' (bv (numP l).2.1) ∧ B4 w' g 25 v0 (.int .u64 ((numP l).1 : Int)) v2 v3 ∧ Only g w w' := by
  have hlt := hg.lt
  have HT := Lib.hid (takeNumber_c hl (by omega) hn)
  have HO := Lib.hid h
  have HG := Lib.hid hg
  have hkl := h.lt
  obtain ⟨⟨x, r, ok⟩, hx⟩ : ∃ x, x = numP l := ⟨_, rfl⟩
  rw [← hx] at HT ⊢
  clear hx hl hn hg h
  go_enter Try.func61, Try.ntmps61
  go_wp2_with fail
  refine HT.out.mono ?_
  rintro e w1 ⟨A1, n1, c1, rfl, hr1, hb1⟩
  have q0 := (HO.out.under hb1 hkl).cell
  simp only [ofN] at q0
  have hg1 := HG.out.now hb1
  obtain ⟨x0, x1, x2, x3, z0, z1, z2, z3⟩ := hg1.cells
  have HG1 := Lib.hid hg1
  have HR1 := Lib.hid hr1
  have HB1 := Lib.hid hb1
  clear hg1 hr1 hb1
  go_wp2_with fail
  refine (of1_c _ _).mono ?_
  rintro e w2 ⟨rfl, rfl⟩
  go_wp2_with fail
  go_returns
  exact ⟨A1, n1, c1, rfl, HR1.out.setCell hB _, HG1.out.set1 _, (Only.of HB1.out).trans (Only.set _ _ _ _)⟩

set_option maxRecDepth 100000 in
theorem of2_c (w : World) (g : Nat) : Calls Try.prog 50 #[.pointer (some ⟨g, 0, none⟩)] w fun e w' => e = .returned (.pointer (some ⟨g, 2, none⟩)) ∧ w = w' := by
  go_enter Try.func50, Try.ntmps50
  go_wp2
  go_ret
  exact ⟨rfl, rfl⟩

set_option maxRecDepth 100000 in
set_option maxHeartbeats 1000000 in
theorem said2_c {w : World} {k n c : Nat} {A : Option Addr} {e : Ed} (h : OfAt w 2 k) : Calls Try.prog 59 #[edV A n c e, .pointer (some ⟨k, 0, none⟩)] w (RetVl w (.bool (sayB 2 e))) := by
  have q0 := (h.under (below_alloc w (edO A n c e)) h.lt).cell
  obtain ⟨x0, x1, x2, x3, _, _, _, _⟩ := (B4.new w 25 (.slice A n c) (.int .u64 (e.a : Int)) (.int .u64 (e.b : Int)) (.int .u64 (e.c : Int)) rfl).cells
  have hb := below_alloc w (edO A n c e)
  unfold edO at q0 hb
  simp only [ofN] at q0
  have d : decide (0 < numE 2 e) = decide ((0 : Int) < (numE 2 e : Int)) := by simp
  have HS := Lib.hid (show sayB 2 e = decide (0 < numE 2 e) from rfl)
  unfold numE at d
  simp only at d
  have HD := Lib.hid d
  clear d h
  unfold edV
  go_enter Try.func59, Try.ntmps59
  go_wp2_with fail
  refine (of2_c _ _).mono ?_
  rintro e w1 ⟨rfl, rfl⟩
  go_wp2_with fail
  all_goals go_ret
  all_goals exact RetVl.bool (by rw [HS.out]; simp [numE, HD.out]) hb

set_option maxRecDepth 100000 in
set_option maxHeartbeats 1000000 in
theorem put2_c {w : World} {k n c B n1 c1 : Nat} {A A1 : Option Addr} {l : List UInt8} {e : Ed} (h : OfAt w 2 k) (hl : Rd w B A1 n1 c1 (bv l)) (hB : B ≤ w.heap.size) (hn : n1 ≤ 1000000) (he : NumsOk e) :
    Calls Try.prog 60 #[.slice A1 n1 c1, edV A n c e, .pointer (some ⟨k, 0, none⟩)] w (RetB w (l ++ putL 2 e)) := by
  have q0 := (h.under (below_alloc w (edO A n c e)) h.lt).cell
  obtain ⟨x0, x1, x2, x3, _, _, _, _⟩ := (B4.new w 25 (.slice A n c) (.int .u64 (e.a : Int)) (.int .u64 (e.b : Int)) (.int .u64 (e.c : Int)) rfl).cells
  have hb := below_alloc w (edO A n c e)
  have HP := Lib.hid (put_c (w := w.alloc (edO A n c e)) (hl.under hb hB) (Nat.le_trans hB hb.size) (by omega) (numE 2 e : Int) (by omega) (by obtain ⟨h1, h2, h3⟩ := he; simpa only [numE] using (by first | exact h1 | exact h2 | exact h3)))
  rw [Int.toNat_natCast] at HP
  unfold edO numE at HP
  unfold edO at q0 hb
  simp only [ofN] at q0
  have HB := Lib.hid hb
  clear h he hl hB hn hb
  unfold edV
  go_enter Try.func60, Try.ntmps60
  go_wp2_with fail
  refine (of2_c _ _).mono ?_
  rintro e' w1 ⟨rfl, rfl⟩
  go_wp2_with fail
  refine HP.out.mono ?_
  rintro e' w2 ⟨A2, n2, c2, rfl, hf2, hb2⟩
  go_wp2_with fail
  go_ret
  exact ⟨A2, n2, c2, rfl, hf2.mono (by simp), bon HB.out hb2⟩

set_option maxRecDepth 100000 in
set_option maxHeartbeats 2000000 in
theorem take2_c {w : World} {k n c B g : Nat} {A : Option Addr} {l : List UInt8} {v0 v1 v2 v3 : Value} (h : OfAt w 2 k) (hl : Rd w B A n c (bv l)) (hB : B ≤ g) (hn : n ≤ 1000000) (hg : B4 w g 25 v0 v1 v2 v3) (hk : k ≠ g) :
    Calls Try.prog 61 #[.pointer (some ⟨g, 0, none⟩), .slice A n c, .pointer (some ⟨k, 0, none⟩)] w fun e w' =>
      ∃ A' n' c', e = .returned (.tuple #[.slice A' n' c', .bool (numP l).2.2]) ∧ Rd w' B A' n' c' (bv (numP l).2.1) ∧ B4 w' g 25 v0 v1 (.int .u64 ((numP l).1 : Int)) v3 ∧ Only g w w' := by
  have hlt := hg.lt
  have HT := Lib.hid (takeNumber_c hl (by omega) hn)
  have HO := Lib.hid h
  have HG := Lib.hid hg
  have hkl := h.lt
  obtain ⟨⟨x, r, ok⟩, hx⟩ : ∃ x, x = numP l := ⟨_, rfl⟩
  rw [← hx] at HT ⊢
  clear hx hl hn hg h
  go_enter Try.func61, Try.ntmps61
  go_wp2_with fail
  refine HT.out.mono ?_
  rintro e w1 ⟨A1, n1, c1, rfl, hr1, hb1⟩
  have q0 := (HO.out.under hb1 hkl).cell
  simp only [ofN] at q0
  have hg1 := HG.out.now hb1
  obtain ⟨x0, x1, x2, x3, z0, z1, z2, z3⟩ := hg1.cells
  have HG1 := Lib.hid hg1
  have HR1 := Lib.hid hr1
  have HB1 := Lib.hid hb1
  clear hg1 hr1 hb1
  go_wp2_with fail
  refine (of2_c _ _).mono ?_
  rintro e w2 ⟨rfl, rfl⟩
  go_wp2_with fail
  go_returns
  exact ⟨A1, n1, c1, rfl, HR1.out.setCell hB _, HG1.out.set2 _, (Only.of HB1.out).trans (Only.set _ _ _ _)⟩

set_option maxRecDepth 100000 in
theorem of3_c (w : World) (g : Nat) : Calls Try.prog 51 #[.pointer (some ⟨g, 0, none⟩)] w fun e w' => e = .returned (.pointer (some ⟨g, 3, none⟩)) ∧ w = w' := by
  go_enter Try.func51, Try.ntmps51
  go_wp2
  go_ret
  exact ⟨rfl, rfl⟩

set_option maxRecDepth 100000 in
set_option maxHeartbeats 1000000 in
theorem said3_c {w : World} {k n c : Nat} {A : Option Addr} {e : Ed} (h : OfAt w 3 k) : Calls Try.prog 59 #[edV A n c e, .pointer (some ⟨k, 0, none⟩)] w (RetVl w (.bool (sayB 3 e))) := by
  have q0 := (h.under (below_alloc w (edO A n c e)) h.lt).cell
  obtain ⟨x0, x1, x2, x3, _, _, _, _⟩ := (B4.new w 25 (.slice A n c) (.int .u64 (e.a : Int)) (.int .u64 (e.b : Int)) (.int .u64 (e.c : Int)) rfl).cells
  have hb := below_alloc w (edO A n c e)
  unfold edO at q0 hb
  simp only [ofN] at q0
  have d : decide (0 < numE 3 e) = decide ((0 : Int) < (numE 3 e : Int)) := by simp
  have HS := Lib.hid (show sayB 3 e = decide (0 < numE 3 e) from rfl)
  unfold numE at d
  simp only at d
  have HD := Lib.hid d
  clear d h
  unfold edV
  go_enter Try.func59, Try.ntmps59
  go_wp2_with fail
  refine (of3_c _ _).mono ?_
  rintro e w1 ⟨rfl, rfl⟩
  go_wp2_with fail
  all_goals go_ret
  all_goals exact RetVl.bool (by rw [HS.out]; simp [numE, HD.out]) hb

set_option maxRecDepth 100000 in
set_option maxHeartbeats 1000000 in
theorem put3_c {w : World} {k n c B n1 c1 : Nat} {A A1 : Option Addr} {l : List UInt8} {e : Ed} (h : OfAt w 3 k) (hl : Rd w B A1 n1 c1 (bv l)) (hB : B ≤ w.heap.size) (hn : n1 ≤ 1000000) (he : NumsOk e) :
    Calls Try.prog 60 #[.slice A1 n1 c1, edV A n c e, .pointer (some ⟨k, 0, none⟩)] w (RetB w (l ++ putL 3 e)) := by
  have q0 := (h.under (below_alloc w (edO A n c e)) h.lt).cell
  obtain ⟨x0, x1, x2, x3, _, _, _, _⟩ := (B4.new w 25 (.slice A n c) (.int .u64 (e.a : Int)) (.int .u64 (e.b : Int)) (.int .u64 (e.c : Int)) rfl).cells
  have hb := below_alloc w (edO A n c e)
  have HP := Lib.hid (put_c (w := w.alloc (edO A n c e)) (hl.under hb hB) (Nat.le_trans hB hb.size) (by omega) (numE 3 e : Int) (by omega) (by obtain ⟨h1, h2, h3⟩ := he; simpa only [numE] using (by first | exact h1 | exact h2 | exact h3)))
  rw [Int.toNat_natCast] at HP
  unfold edO numE at HP
  unfold edO at q0 hb
  simp only [ofN] at q0
  have HB := Lib.hid hb
  clear h he hl hB hn hb
  unfold edV
  go_enter Try.func60, Try.ntmps60
  go_wp2_with fail
  refine (of3_c _ _).mono ?_
  rintro e' w1 ⟨rfl, rfl⟩
  go_wp2_with fail
  refine HP.out.mono ?_
  rintro e' w2 ⟨A2, n2, c2, rfl, hf2, hb2⟩
  go_wp2_with fail
  go_ret
  exact ⟨A2, n2, c2, rfl, hf2.mono (by simp), bon HB.out hb2⟩

set_option maxRecDepth 100000 in
set_option maxHeartbeats 2000000 in
theorem take3_c {w : World} {k n c B g : Nat} {A : Option Addr} {l : List UInt8} {v0 v1 v2 v3 : Value} (h : OfAt w 3 k) (hl : Rd w B A n c (bv l)) (hB : B ≤ g) (hn : n ≤ 1000000) (hg : B4 w g 25 v0 v1 v2 v3) (hk : k ≠ g) :
    Calls Try.prog 61 #[.pointer (some ⟨g, 0, none⟩), .slice A n c, .pointer (some ⟨k, 0, none⟩)] w fun e w' =>
      ∃ A' n' c', e = .returned (.tuple #[.slice A' n' c', .bool (numP l).2.2]) ∧ Rd w' B A' n' c' (bv (numP l).2.1) ∧ B4 w' g 25 v0 v1 v2 (.int .u64 ((numP l).1 : Int)) ∧ Only g w w' := by
  have hlt := hg.lt
  have HT := Lib.hid (takeNumber_c hl (by omega) hn)
  have HO := Lib.hid h
  have HG := Lib.hid hg
  have hkl := h.lt
  obtain ⟨⟨x, r, ok⟩, hx⟩ : ∃ x, x = numP l := ⟨_, rfl⟩
  rw [← hx] at HT ⊢
  clear hx hl hn hg h
  go_enter Try.func61, Try.ntmps61
  go_wp2_with fail
  refine HT.out.mono ?_
  rintro e w1 ⟨A1, n1, c1, rfl, hr1, hb1⟩
  have q0 := (HO.out.under hb1 hkl).cell
  simp only [ofN] at q0
  have hg1 := HG.out.now hb1
  obtain ⟨x0, x1, x2, x3, z0, z1, z2, z3⟩ := hg1.cells
  have HG1 := Lib.hid hg1
  have HR1 := Lib.hid hr1
  have HB1 := Lib.hid hb1
  clear hg1 hr1 hb1
  go_wp2_with fail
  refine (of3_c _ _).mono ?_
  rintro e w2 ⟨rfl, rfl⟩
  go_wp2_with fail
  go_returns
  exact ⟨A1, n1, c1, rfl, HR1.out.setCell hB _, HG1.out.set3 _, (Only.of HB1.out).trans (Only.set _ _ _ _)⟩
end Go.Proofs.Ythgbafhfeblhaaa
