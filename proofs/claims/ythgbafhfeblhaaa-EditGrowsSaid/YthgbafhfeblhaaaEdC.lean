/-
  The contracts of Right, Bytes and Parse.
-/
import Derived.Test.YthgbafhfeblhaaaEdA
namespace Go.Proofs.Ythgbafhfeblhaaa
set_option maxRecDepth 100000
open Go.RowKit Go.Shelf
set_option linter.unusedSimpArgs false
set_option linter.unusedVariables false

/-- What comes in, of a note and of an edit. -/
structure MtIn (x : Mt) : Prop where
  n : (x.n : Int) ≤ 18446744073709551615
  z : (x.z : Int) ≤ 18446744073709551615
structure EdIn (e : Ed) : Prop where
  L : ∀ x ∈ e.L, MtIn x
  N : NumsOk e
theorem EdIn.ok {e : Ed} (h : EdIn e) (hr : rightE e = true) : EdOk e :=
  ⟨fun x hx => ⟨(h.L x hx).n, (h.L x hx).z, ((notesB_sizes (rightE_notes hr)).2 x hx).1, ((notesB_sizes (rightE_notes hr)).2 x hx).2⟩, h.N⟩
theorem EdOk.in_ {e : Ed} (h : EdOk e) : EdIn e := ⟨fun x hx => ⟨(h.L x hx).n, (h.L x hx).z⟩, h.N⟩

set_option maxRecDepth 100000 in
set_option maxHeartbeats 4000000 in
theorem right_c {w : World} {B n c : Nat} {A : Option Addr} {e : Ed} (h : RdM w B A n c e.L) (hB : B ≤ w.heap.size) (hn : (n : Int) ≤ 70368744000000) :
    Calls Try.prog 17 #[edV A n c e] w (RetVl w (.bool (rightE e))) := by
  have hl := h.len
  have HRE := Lib.hid (show rightE e = (decide (firstN e ≠ 0) && notesB e.L && decide ((e.b : Int) ≤ 72057594037927935)) from rfl)
  have HF := Lib.hid (fun W => first_c (w := W) (c := c) (A := A) hl)
  obtain ⟨w1, hw1⟩ : ∃ w1, w1 = w.alloc (edO A n c e) := ⟨_, rfl⟩
  have hb1 : Below w.heap.size w w1 := by rw [hw1]; exact below_alloc w _
  have hg1 : B4 w1 w.heap.size 25 (.slice A n c) (.int .u64 (e.a : Int)) (.int .u64 (e.b : Int)) (.int .u64 (e.c : Int)) := by rw [hw1]; exact B4.new _ _ _ _ _ _ rfl
  have HG1 := Lib.hid hg1
  have HB1 := Lib.hid hb1
  have HR := Lib.hid h
  have HN := Lib.hid hn
  obtain ⟨q0, q1, q2, q3, _, _, _, _⟩ := hg1.cells
  clear h hl hb1 hg1 hn
  unfold edO at hw1
  unfold edV at HF
  unfold edV
  go_enter Try.func17, Try.ntmps17
  go_upto_region 1 with (fail)
  rw [← hw1]
  clear hw1
  go_wp2_with fail
  refine (HF.out _).mono ?_
  rintro e' w2 ⟨rfl, hb2⟩
  obtain ⟨r0, r1, r2, r3, _, _, _, _⟩ := (HG1.out.now hb2).cells
  have HB2 := Lib.hid (bon HB1.out hb2)
  have HG2 := Lib.hid (HG1.out.now hb2)
  have HRN := Lib.hid (rightNotes_c (HR.out.below (bon HB1.out hb2) hB) (Nat.le_trans hB (bon HB1.out hb2).size) HN.out)
  have hlt := firstN_lt e
  have HLT := Lib.hid hlt
  clear q0 q1 q2 q3 hb2 hlt
  by_cases h0 : firstN e = 0
  · have d1 : ((firstN e : Int) != 0) = false := by simp; omega
    have d2 : (firstN e != 0) = false := by simp; omega
    have HNO := Lib.hid (show rightE e = false by rw [HRE.out]; simp [h0])
    clear h0
    go_wp2_with fail
    go_ret
    exact RetVl.bool HNO.out.symm HB2.out
  · have d1 : ((firstN e : Int) != 0) = true := by simp; omega
    have d2 : (firstN e != 0) = true := by simp; omega
    have HRE2 := Lib.hid (show rightE e = (notesB e.L && decide ((e.b : Int) ≤ 72057594037927935)) by rw [HRE.out]; simp [h0])
    clear h0
    go_wp2_with fail
    refine HRN.out.mono ?_
    rintro e' w3 ⟨rfl, hb3⟩
    obtain ⟨s0, s1, s2, s3, _, _, _, _⟩ := (HG2.out.now hb3).cells
    have HB3 := Lib.hid (bon HB2.out hb3)
    clear hb3 r0 r1 r2 r3
    cases hnb : notesB e.L with
    | false =>
      rw [hnb] at HRE2
      go_wp2_with fail
      go_ret
      exact RetVl.bool (by rw [HRE2.out]; simp) HB3.out
    | true =>
      rw [hnb] at HRE2
      go_wp2_with fail
      go_ret
      exact RetVl.bool (by rw [HRE2.out]; simp) HB3.out

def bytesL (e : Ed) : List UInt8 := if rightE e = true then formE e else []
def BytesR (w : World) (e : Ed) (e' : Ending) (w' : World) : Prop :=
  ∃ A n c, e' = .returned (.tuple #[.slice A n c, .int .i64 (errE (rightE e))]) ∧ Fr w' w.heap.size 5 A n c (bv (bytesL e)) ∧ Below w.heap.size w w'

set_option maxRecDepth 100000 in
set_option maxHeartbeats 4000000 in
theorem bytes_c {w : World} {B n c : Nat} {A : Option Addr} {e : Ed} (h : RdM w B A n c e.L) (hB : B ≤ w.heap.size) (hn : (n : Int) ≤ 70368744000000) (he : EdIn e) :
    Calls Try.prog 11 #[edV A n c e] w (BytesR w e) := by
  have hl := h.len
  obtain ⟨w1, hw1⟩ : ∃ w1, w1 = w.alloc (edO A n c e) := ⟨_, rfl⟩
  have hb1 : Below w.heap.size w w1 := by rw [hw1]; exact below_alloc w _
  have hg1 : B4 w1 w.heap.size 25 (.slice A n c) (.int .u64 (e.a : Int)) (.int .u64 (e.b : Int)) (.int .u64 (e.c : Int)) := by rw [hw1]; exact B4.new _ _ _ _ _ _ rfl
  have HRC := Lib.hid (right_c (h.below hb1 hB) (Nat.le_trans hB hb1.size) hn)
  have HFC := Lib.hid (fun W (hW : Below w.heap.size w W) (hr : rightE e = true) => form_c (c := c) (A := A) (h.below hW hB) (Nat.le_trans hB hW.size) (by have := (notesB_sizes (rightE_notes hr)).1; omega) (he.ok hr))
  have HG1 := Lib.hid hg1
  have HB1 := Lib.hid hb1
  obtain ⟨q0, q1, q2, q3, _, _, _, _⟩ := hg1.cells
  clear h hl hb1 hg1 hn he
  unfold edO at hw1
  unfold edV at HRC HFC
  unfold edV
  go_enter Try.func11, Try.ntmps11
  go_upto_region 1 with (fail)
  rw [← hw1]
  clear hw1
  go_wp2_with fail
  refine HRC.out.mono ?_
  rintro e' w2 ⟨rfl, hb2⟩
  obtain ⟨r0, r1, r2, r3, _, _, _, _⟩ := (HG1.out.now hb2).cells
  have HB2 := Lib.hid (bon HB1.out hb2)
  clear q0 q1 q2 q3 hb2
  cases hr : rightE e with
  | false =>
    have HR := Lib.hid hr
    clear hr
    go_wp2_with fail
    go_returns
    exact ⟨none, 0, 0, by simp [HR.out, errE], by unfold bytesL; rw [HR.out]; exact Fr.nil, HB2.out⟩
  | true =>
    have HR := Lib.hid hr
    have HF := Lib.hid (HFC.out _ HB2.out hr)
    clear hr
    go_wp2_with fail
    refine HF.out.mono ?_
    rintro e' w3 ⟨A3, n3, c3, rfl, hf3, hb3⟩
    have HF3 := Lib.hid (hf3.mono HB2.out.size)
    have HB3 := Lib.hid (bon HB2.out hb3)
    clear hf3 hb3
    go_wp2_with fail
    go_returns
    exact ⟨A3, n3, c3, by simp [HR.out, errE], by unfold bytesL; rw [HR.out, if_pos rfl]; exact HF3.out, HB3.out⟩

set_option maxRecDepth 100000 in
theorem equal_c {w : World} {B1 B2 n1 c1 n2 c2 : Nat} {A1 A2 : Option Addr} {l1 l2 : List UInt8} (h1 : Rd w B1 A1 n1 c1 (bv l1)) (h2 : Rd w B2 A2 n2 c2 (bv l2)) :
    Calls Try.prog 28 #[.slice A1 n1 c1, .slice A2 n2 c2] w fun e w' => e = .returned (.bool (l1 == l2)) ∧ w = w' := by
  have r1 := run_str (P := Try.prog) h1 26 9 5 Try.underlying26 Try.underlying5 Try.underlying9
  have r2 := run_str (P := Try.prog) h2 26 9 5 Try.underlying26 Try.underlying5 Try.underlying9
  clear h1 h2
  go_enter Try.func28, Try.ntmps28
  go_wp2
  go_ret
  exact ⟨rfl, rfl⟩

theorem partP_len {i : Nat} {e e' : Ed} {l r : List UInt8} (he : e.L.length ≤ 64) (h : partP i e l = some (e', r)) : e'.L.length ≤ 64 := by
  unfold partP at h
  split at h
  · split at h
    · split at h
      · split at h
        · rename_i K r1 hK
          simp only [Option.some.injEq, Prod.mk.injEq] at h
          obtain ⟨rfl, rfl⟩ := h
          have := (notesP_ok _ _ _ _ hK).1
          simp only; omega
        · cases h
      · cases h
    all_goals
      simp only [Option.some.injEq, Prod.mk.injEq] at h
      obtain ⟨rfl, rfl⟩ := h
      exact he
  · cases h
theorem stepsP_len {c : UInt8} {l : List UInt8} : ∀ {i : Nat} {e : Ed} {r : List UInt8}, stepsP c l i = some (e, r) → e.L.length ≤ 64
  | 0, e, r, h => by
    simp only [stepsP, Option.some.injEq, Prod.mk.injEq] at h
    obtain ⟨rfl, rfl⟩ := h
    exact Nat.zero_le _
  | i + 1, e, r, h => by
    simp only [stepsP] at h
    cases hx : stepsP c l i with
    | none => rw [hx] at h; cases h
    | some y =>
      obtain ⟨e1, l1⟩ := y
      rw [hx] at h
      have h1 := stepsP_len hx
      simp only [stepP] at h
      split at h
      · simp only [Option.some.injEq, Prod.mk.injEq] at h
        obtain ⟨rfl, rfl⟩ := h
        exact h1
      · exact partP_len h1 h
theorem readE_len {l : List UInt8} {e : Ed} (h : readE l = some e) : e.L.length ≤ 64 := by
  cases l with
  | nil => cases h
  | cons c l =>
    simp only [readE] at h
    cases hx : stepsP c l 4 with
    | none => rw [hx] at h; cases h
    | some y =>
      obtain ⟨e1, l1⟩ := y
      rw [hx] at h
      simp only [Option.some.injEq] at h
      subst h
      exact stepsP_len hx
def prsV (l : List UInt8) : Ed := (parseE l).getD Ed.nil
def prsK (l : List UInt8) : Bool := (parseE l).isSome
def ParseR (w : World) (l : List UInt8) (e' : Ending) (w' : World) : Prop :=
  ∃ A n c, e' = .returned (.tuple #[edV A n c (prsV l), .int .i64 (errE (prsK l))]) ∧ FrM w' w.heap.size A n c (prsV l).L ∧ Below w.heap.size w w'
theorem ParseR.bad {w w' : World} {l : List UInt8} (h : parseE l = none) (hb : Below w.heap.size w w') : ParseR w l (.returned (.tuple #[edV none 0 0 Ed.nil, .int .i64 90])) w' := by
  refine ⟨none, 0, 0, ?_, ?_, hb⟩
  · simp [prsV, prsK, h, errE]
  · simp only [prsV, h]; exact FrM.nil
theorem ParseR.good {w w' : World} {l : List UInt8} {y : Ed} {A : Option Addr} {n c : Nat} (h : parseE l = some y) (hf : FrM w' w.heap.size A n c y.L) (hb : Below w.heap.size w w') : ParseR w l (.returned (.tuple #[edV A n c y, .int .i64 0])) w' := by
  refine ⟨A, n, c, ?_, ?_, hb⟩
  · simp [prsV, prsK, h, errE]
  · simp only [prsV, h]; exact hf

set_option maxRecDepth 100000 in
set_option maxHeartbeats 8000000 in
theorem parse_c {w : World} {B n c : Nat} {A : Option Addr} {l : List UInt8} (h : Rd w B A n c (bv l)) (hB : B ≤ w.heap.size) (hn : n ≤ 1000000) :
    Calls Try.prog 13 #[.slice A n c] w (ParseR w l) := by
  obtain ⟨o, ho⟩ : ∃ o, o = (Obj.cells #[.slice none 0 0, .int .u64 0, .int .u64 0, .int .u64 0] 25) := ⟨_, rfl⟩
  obtain ⟨w1, hw1⟩ : ∃ w1, w1 = w.alloc o := ⟨_, rfl⟩
  have hb1 : Below w.heap.size w w1 := by rw [hw1]; exact below_alloc w _
  have hg1 : B4 w1 w.heap.size 25 (.slice none 0 0) (.int .u64 0) (.int .u64 0) (.int .u64 0) := by rw [hw1, ho]; exact B4.new _ _ _ _ _ _ rfl
  have HRC := Lib.hid (read_c (h.under hb1 hB) (Nat.le_trans hB hb1.size) hn)
  have HG1 := Lib.hid hg1
  have HB1 := Lib.hid hb1
  have HR := Lib.hid h
  have HPE := Lib.hid (show parseE l = match readE l with | some e => if rightE e = true ∧ formE e = l then some e else none | none => none from rfl)
  have HOK := Lib.hid (fun e (h : readE l = some e) => readE_ok h)
  clear hb1 hg1 h hn
  subst ho
  go_enter Try.func13, Try.ntmps13
  go_upto_region 1 with (fail)
  rw [← hw1]
  clear hw1
  go_wp2_with fail
  refine HRC.out.mono ?_
  intro e' w2 hp
  unfold ReadR at hp
  cases hre : readE l with
  | none =>
    rw [hre] at hp
    obtain ⟨rfl, hb2⟩ := hp
    have HNO := Lib.hid (show parseE l = none by rw [HPE.out, hre])
    obtain ⟨wb, hwb⟩ : ∃ wb, wb = w2.alloc (.cells #[.slice none 0 0, .int .u64 0, .int .u64 0, .int .u64 0] 25) := ⟨_, rfl⟩
    have HG2 := Lib.hid (show B4 wb w.heap.size 25 (.slice none 0 0) (.int .u64 0) (.int .u64 0) (.int .u64 0) by rw [hwb]; exact (HG1.out.now hb2).alloc _)
    have HB2 := Lib.hid (show Below w.heap.size w wb by rw [hwb]; exact blit (bon HB1.out hb2) _)
    obtain ⟨q0, q1, q2, q3, z0, z1, z2, z3⟩ := HG2.out.cells
    clear hre hb2
    unfold edV Ed.nil
    go_upto_region 2 with (fail)
    have hwb2 : wb = w2.alloc (.cells #[.slice none 0 0, .int .u64 ((0 : Nat) : Int), .int .u64 ((0 : Nat) : Int), .int .u64 ((0 : Nat) : Int)] 25) := hwb
    first | rw [← hwb] | rw [← hwb2]
    clear hwb hwb2
    go_wp2_with fail
    have HS := Lib.hid (HG2.out.set (.slice none 0 0) (.int .u64 0) (.int .u64 0) (.int .u64 0))
    have HB := Lib.hid (set4_below HB2.out (Nat.le_refl w.heap.size) (.slice none 0 0) (.int .u64 0) (.int .u64 0) (.int .u64 0))
    obtain ⟨wz, hwz⟩ : ∃ wz, wz = set4 wb w.heap.size (.slice none 0 0) (.int .u64 0) (.int .u64 0) (.int .u64 0) := ⟨_, rfl⟩
    rw [← hwz] at HS HB
    unfold set4 at hwz
    rw [← hwz]
    clear hwz q0 q1 q2 q3 z0 z1 z2 z3
    obtain ⟨y0, y1, y2, y3, _, _, _, _⟩ := HS.out.cells
    (try simp only [Exit.inBlock, Exit.then])
    refine bodyPost_ret (v := .tuple #[edV none 0 0 Ed.nil, .int .i64 90]) (by simp [edV, Ed.nil, results, Try.results13, go_sem, y0, y1, y2, y3]; try rfl) rfl ?_
    exact ParseR.bad HNO.out HB.out
  | some y =>
    rw [hre] at hp
    obtain ⟨A2, n2, c2, rfl, hf2, hb2⟩ := hp
    have hok := HOK.out y hre
    have HIFF := Lib.hid (show parseE l = if rightE y = true ∧ formE y = l then some y else none by rw [HPE.out, hre])
    obtain ⟨wb, hwb⟩ : ∃ wb, wb = w2.alloc (edO A2 n2 c2 y) := ⟨_, rfl⟩
    have hbb : Below w2.heap.size w2 wb := by rw [hwb]; exact below_alloc _ _
    have hg2 := (HG1.out.now hb2).now hbb
    have hgb : B4 wb w2.heap.size 25 (.slice A2 n2 c2) (.int .u64 (y.a : Int)) (.int .u64 (y.b : Int)) (.int .u64 (y.c : Int)) := by rw [hwb]; exact B4.new _ _ _ _ _ _ rfl
    have HF2 := Lib.hid ((hf2.mono (b' := w.heap.size + 1) HG1.out.lt).below hbb)
    have HB2 := Lib.hid (bon (bon HB1.out hb2) hbb)
    have HG2 := Lib.hid hg2
    have HGB := Lib.hid hgb
    have HLN := Lib.hid (show w2.heap.size < wb.heap.size from hgb.lt)
    obtain ⟨r0, r1, r2, r3, _, _, _, _⟩ := hgb.cells
    have hn2 := readE_len hre
    have hlen : y.L.length = n2 := hf2.len
    have HLEN := Lib.hid hlen
    have HOKY := Lib.hid hok
    have HNB : (n2 : Int) ≤ 70368744000000 := by omega
    have HN64 := Lib.hid (show n2 ≤ 64 by omega)
    have HRT := Lib.hid (right_c (HF2.out.rd (Nat.le_refl _)) (Nat.le_refl _) HNB)
    clear hre hb2 hf2 hbb hg2 hgb hlen hok hn2
    unfold edO at hwb
    unfold edV at HRT
    unfold edV
    go_upto_region 2 with (fail)
    rw [← hwb]
    clear hwb
    go_wp2_with fail
    refine HRT.out.mono ?_
    rintro e' w3 ⟨rfl, hb3⟩
    have HG3 := Lib.hid (HG2.out.now hb3)
    have HGB3 := Lib.hid (HGB.out.now hb3)
    have HB3 := Lib.hid (bon HB2.out hb3)
    have HF3 := Lib.hid (HF2.out.below hb3)
    obtain ⟨s0, s1, s2, s3, _, _, _, _⟩ := HGB3.out.cells
    clear hb3 r0 r1 r2 r3
    cases hr : rightE y with
    | false =>
      have HNO := Lib.hid (show parseE l = none by rw [HIFF.out, hr]; simp)
      clear hr
      obtain ⟨q0, q1, q2, q3, z0, z1, z2, z3⟩ := HG3.out.cells
      clear s0 s1 s2 s3
      go_wp2_with fail
      have HS := Lib.hid (HG3.out.set (.slice none 0 0) (.int .u64 0) (.int .u64 0) (.int .u64 0))
      have HB := Lib.hid (set4_below HB3.out (Nat.le_refl w.heap.size) (.slice none 0 0) (.int .u64 0) (.int .u64 0) (.int .u64 0))
      obtain ⟨wz, hwz⟩ : ∃ wz, wz = set4 w3 w.heap.size (.slice none 0 0) (.int .u64 0) (.int .u64 0) (.int .u64 0) := ⟨_, rfl⟩
      rw [← hwz] at HS HB
      unfold set4 at hwz
      rw [← hwz]
      clear hwz q0 q1 q2 q3 z0 z1 z2 z3
      obtain ⟨y0, y1, y2, y3, _, _, _, _⟩ := HS.out.cells
      (try simp only [Exit.inBlock, Exit.then])
      refine bodyPost_ret (v := .tuple #[edV none 0 0 Ed.nil, .int .i64 90]) (by simp [edV, Ed.nil, results, Try.results13, go_sem, y0, y1, y2, y3]; try rfl) rfl ?_
      exact ParseR.bad HNO.out HB.out
    | true =>
      have HRY := Lib.hid hr
      have HFC := Lib.hid (form_c (c := c2) (A := A2) (HF3.out.rd (Nat.le_refl _)) (Nat.le_refl _) HN64.out HOKY.out)
      unfold edV at HFC
      clear hr
      go_wp2_with fail
      refine HFC.out.mono ?_
      rintro e' w4 ⟨A4, n4, c4, rfl, hf4, hb4⟩
      have HG4 := Lib.hid (HG3.out.now hb4)
      have HGB4 := Lib.hid (HGB3.out.now hb4)
      have HB4 := Lib.hid (bon HB3.out hb4)
      have HF4 := Lib.hid (HF3.out.below hb4)
      have HEQ := Lib.hid (equal_c (hf4.rd (Nat.le_refl _)) (HR.out.under HB4.out hB))
      obtain ⟨u0, u1, u2, u3, _, _, _, _⟩ := HGB4.out.cells
      clear hb4 hf4 s0 s1 s2 s3
      go_wp2_with fail
      refine HEQ.out.mono ?_
      rintro e' w5 ⟨rfl, rfl⟩
      cases hq : formE y == l with
      | false =>
        have HNO := Lib.hid (show parseE l = none by rw [HIFF.out, if_neg]; rintro ⟨_, h2⟩; rw [h2] at hq; simp at hq)
        clear hq
        obtain ⟨q0, q1, q2, q3, z0, z1, z2, z3⟩ := HG4.out.cells
        clear u0 u1 u2 u3
        go_wp2_with fail
        have HS := Lib.hid (HG4.out.set (.slice none 0 0) (.int .u64 0) (.int .u64 0) (.int .u64 0))
        have HB := Lib.hid (set4_below HB4.out (Nat.le_refl w.heap.size) (.slice none 0 0) (.int .u64 0) (.int .u64 0) (.int .u64 0))
        obtain ⟨wz, hwz⟩ : ∃ wz, wz = set4 w4 w.heap.size (.slice none 0 0) (.int .u64 0) (.int .u64 0) (.int .u64 0) := ⟨_, rfl⟩
        rw [← hwz] at HS HB
        unfold set4 at hwz
        rw [← hwz]
        clear hwz q0 q1 q2 q3 z0 z1 z2 z3
        obtain ⟨y0, y1, y2, y3, _, _, _, _⟩ := HS.out.cells
        (try simp only [Exit.inBlock, Exit.then])
        refine bodyPost_ret (v := .tuple #[edV none 0 0 Ed.nil, .int .i64 90]) (by simp [edV, Ed.nil, results, Try.results13, go_sem, y0, y1, y2, y3]; try rfl) rfl ?_
        exact ParseR.bad HNO.out HB.out
      | true =>
        have HYES := Lib.hid (show parseE l = some y by rw [HIFF.out, if_pos ⟨HRY.out, by simpa using hq⟩])
        obtain ⟨q0, q1, q2, q3, z0, z1, z2, z3⟩ := HG4.out.cells
        clear hq
        go_wp2_with fail
        have HSS := Lib.hid (HG4.out.set (.slice A2 n2 c2) (.int .u64 (y.a : Int)) (.int .u64 (y.b : Int)) (.int .u64 (y.c : Int)))
        have HB := Lib.hid (set4_below HB4.out (Nat.le_refl w.heap.size) (.slice A2 n2 c2) (.int .u64 (y.a : Int)) (.int .u64 (y.b : Int)) (.int .u64 (y.c : Int)))
        have HFF := Lib.hid ((HF4.out.offset4 (k := w.heap.size) (fun g' off sp e => by have := HF4.out.block_ge g' off sp e; omega) (.slice A2 n2 c2) (.int .u64 (y.a : Int)) (.int .u64 (y.b : Int)) (.int .u64 (y.c : Int))).mono (Nat.le_succ _))
        obtain ⟨wz, hwz⟩ : ∃ wz, wz = set4 w4 w.heap.size (.slice A2 n2 c2) (.int .u64 (y.a : Int)) (.int .u64 (y.b : Int)) (.int .u64 (y.c : Int)) := ⟨_, rfl⟩
        rw [← hwz] at HSS HB HFF
        unfold set4 at hwz
        rw [← hwz]
        clear hwz q0 q1 q2 q3 z0 z1 z2 z3 u0 u1 u2 u3
        obtain ⟨y0, y1, y2, y3, _, _, _, _⟩ := HSS.out.cells
        (try simp only [Exit.inBlock, Exit.then])
        refine bodyPost_ret (v := .tuple #[edV A2 n2 c2 y, .int .i64 0]) (by simp [edV, results, Try.results13, go_sem, y0, y1, y2, y3]; try rfl) rfl ?_
        exact ParseR.good HYES.out HFF.out HB.out
end Go.Proofs.Ythgbafhfeblhaaa
