/-
  The chapter's examples.
-/
import Derived.Test.YthgbafhfeblhaaaEdH
namespace Go.Proofs.Ythgbafhfeblhaaa
set_option maxRecDepth 100000
open Go.RowKit Go.Shelf
set_option linter.unusedSimpArgs false
set_option linter.unusedVariables false

def exA : Ed := ⟨[], 3, 9, 0⟩
def exM : Mt := ⟨2, 48, ⟨#[97]⟩, ⟨#[99]⟩⟩
def exB : Ed := ⟨[exM], 3, 9, 0⟩
def exC : Ed := ⟨[], 2, 0, 0⟩
theorem exM_note : noteB exM = true := by
  unfold noteB leS keyB exM
  simp only [Lib.toList_data]
  decide
theorem exA_right : rightE exA = true := by decide
theorem exB_right : rightE exB = true := by
  unfold rightE notesB
  simp only [exB, List.all_cons, exM_note]
  decide
theorem exA_form : bytesL exA = [6, 3, 9] := by unfold bytesL; rw [if_pos exA_right]; decide
theorem exB_form : bytesL exB = [7, 1, 2, 48, 1, 97, 1, 99, 3, 9] := by unfold bytesL; rw [if_pos exB_right]; decide
theorem exB_ok : okB Ed.nil exB = true := by unfold okB; rw [exB_right]; decide
theorem exB_apply : applyE Ed.nil exB = exB := by unfold applyE; rw [if_pos exB_ok]; rfl
theorem exB_no : okB exB exB = false := by unfold okB; rw [exB_right]; decide
theorem exC_no : okB exB exC = false := by
  have : follB exB exC = false := by decide
  unfold okB; rw [this]; simp
theorem ex0 : prsK [0] = false := by decide
theorem ex20 : prsK [2, 0] = false := by decide

/-- What the calls of the examples leave. -/
def ByR (w : World) (l : List UInt8) (e : Ending) (w' : World) : Prop := ∃ A n c, e = .returned (.tuple #[.slice A n c, .int .i64 0]) ∧ Fr w' w.heap.size 5 A n c (bv l) ∧ Below w.heap.size w w'
def NoR (w : World) (e : Ending) (w' : World) : Prop := ∃ (A : Option Addr) (n c x y z : Nat), e = .returned (.tuple #[.agg #[.slice A n c, .int .u64 (x : Int), .int .u64 (y : Int), .int .u64 (z : Int)], .int .i64 90]) ∧ Below w.heap.size w w'
theorem mtIn_ex : ∀ x ∈ [exM], MtIn x := by
  intro x hx
  simp only [List.mem_singleton] at hx
  subst hx
  exact ⟨by decide, by decide⟩
theorem ex_by1 (w : World) : Calls Try.prog 11 #[.agg #[.slice none 0 0, .int .u64 3, .int .u64 9, .int .u64 0]] w (ByR w [6, 3, 9]) := by
  refine (bytes_c (w := w) (B := 0) (A := none) (n := 0) (c := 0) (e := exA) RdM.nilv (Nat.zero_le _) (by decide) ⟨fun x hx => (by cases hx), by decide, by decide, by decide⟩).mono ?_
  rintro e w' ⟨A, n, c, rfl, hf, hb⟩
  rw [exA_form] at hf
  rw [exA_right]
  exact ⟨A, n, c, rfl, hf, hb⟩
theorem ex_by2 {w : World} {B n c : Nat} {A : Option Addr} (h : RdM w B A n c [exM]) (hB : B ≤ w.heap.size) : Calls Try.prog 11 #[.agg #[.slice A n c, .int .u64 3, .int .u64 9, .int .u64 0]] w (ByR w [7, 1, 2, 48, 1, 97, 1, 99, 3, 9]) := by
  refine (bytes_c (e := exB) h hB (by have := h.len; simp at this; omega) ⟨mtIn_ex, by decide, by decide, by decide⟩).mono ?_
  rintro e w' ⟨A, n, c, rfl, hf, hb⟩
  rw [exB_form] at hf
  rw [exB_right]
  exact ⟨A, n, c, rfl, hf, hb⟩
theorem ex_ap1 {w : World} {B n c : Nat} {A : Option Addr} (h : RdM w B A n c [exM]) (hB : B ≤ w.heap.size) : Calls Try.prog 15 #[.agg #[.slice none 0 0, .int .u64 0, .int .u64 0, .int .u64 0], .agg #[.slice A n c, .int .u64 3, .int .u64 9, .int .u64 0]] w fun e w' =>
    ∃ A' n' c', e = .returned (.tuple #[.agg #[.slice A' n' c', .int .u64 3, .int .u64 9, .int .u64 0], .int .i64 0]) ∧ FrM w' w.heap.size A' n' c' [exM] ∧ Below w.heap.size w w' := by
  refine (apply_c (v := Ed.nil) (e := exB) RdM.nilv h hB (by decide) (by have := h.len; simp at this; omega)).mono ?_
  rintro e w' ⟨A, n, c, rfl, hf, hb⟩
  rw [exB_apply] at hf ⊢
  rw [exB_ok]
  exact ⟨A, n, c, rfl, hf, hb⟩
theorem ex_ap2 {w : World} {B n c n2 c2 : Nat} {A A2 : Option Addr} (h : RdM w B A n c [exM]) (h2 : RdM w B A2 n2 c2 [exM]) (hB : B ≤ w.heap.size) : Calls Try.prog 15 #[.agg #[.slice A n c, .int .u64 3, .int .u64 9, .int .u64 0], .agg #[.slice A2 n2 c2, .int .u64 3, .int .u64 9, .int .u64 0]] w (NoR w) := by
  refine (apply_c (v := exB) (e := exB) h h2 hB (by have := h.len; simp at this; omega) (by have := h2.len; simp at this; omega)).mono ?_
  rintro e w' ⟨A, n, c, rfl, hf, hb⟩
  rw [exB_no]
  exact ⟨A, n, c, _, _, _, rfl, hb⟩
theorem ex_ap3 {w : World} {B n c : Nat} {A : Option Addr} (h : RdM w B A n c [exM]) (hB : B ≤ w.heap.size) : Calls Try.prog 15 #[.agg #[.slice A n c, .int .u64 3, .int .u64 9, .int .u64 0], .agg #[.slice none 0 0, .int .u64 2, .int .u64 0, .int .u64 0]] w (NoR w) := by
  refine (apply_c (v := exB) (e := exC) h RdM.nilv hB (by have := h.len; simp at this; omega) (by decide)).mono ?_
  rintro e w' ⟨A, n, c, rfl, hf, hb⟩
  rw [exC_no]
  exact ⟨A, n, c, _, _, _, rfl, hb⟩
theorem ex_pa {w : World} {B n c : Nat} {A : Option Addr} {l : List UInt8} (h : Rd w B A n c (bv l)) (hB : B ≤ w.heap.size) (hl : l.length ≤ 10) (hk : prsK l = false) : Calls Try.prog 13 #[.slice A n c] w (NoR w) := by
  refine (parse_c h hB (by have := rd_n h; omega)).mono ?_
  rintro e w' ⟨A, n, c, rfl, hf, hb⟩
  rw [hk]
  exact ⟨A, n, c, _, _, _, rfl, hb⟩

set_option maxRecDepth 100000 in
set_option maxHeartbeats 8000000 in
theorem awake9_c (w : World) : Calls Try.prog 10 #[] w (RetVl w (.bool true)) := by
  obtain ⟨wa, hwa⟩ : ∃ wa, wa = ((w.alloc (.cells #[.slice none 0 0, .int .u64 3, .int .u64 9, .int .u64 0] 25)).alloc (.cells #[.slice (some ⟨w.heap.size + 1 + 1, 0, none⟩) 1 1, .int .u64 3, .int .u64 9, .int .u64 0] 25)).alloc (.cells #[.int .u64 2, .int .u64 48, .string ⟨#[97]⟩, .string ⟨#[99]⟩] 47) := ⟨_, rfl⟩
  have ha1 : B4 wa w.heap.size 25 (.slice none 0 0) (.int .u64 3) (.int .u64 9) (.int .u64 0) := by rw [hwa]; exact ((B4.new _ _ _ _ _ _ rfl).alloc _).alloc _
  have ha2 : B4 wa (w.heap.size + 1) 25 (.slice (some ⟨w.heap.size + 1 + 1, 0, none⟩) 1 1) (.int .u64 3) (.int .u64 9) (.int .u64 0) := by rw [hwa]; exact (B4.new _ _ _ _ _ _ (by simp)).alloc _
  have hm : RdM wa wa.heap.size (some ⟨w.heap.size + 1 + 1, 0, none⟩) 1 1 [exM] := by
    rw [hwa]
    exact (FrM.one _ exM (b := 0) (by simp) (Nat.zero_le _)).rd (Nat.le_refl _)
  have hba : Below w.heap.size w wa := by rw [hwa]; exact blit (blit (below_alloc w _) _) _
  have HM := Lib.hid (fun W (hW : Below wa.heap.size wa W) => hm.below hW (Nat.le_refl _))
  have H1 := Lib.hid (fun W (hW : Below wa.heap.size wa W) => ha1.now hW)
  have H2 := Lib.hid (fun W (hW : Below wa.heap.size wa W) => ha2.now hW)
  have HBA := Lib.hid hba
  obtain ⟨q0, q1, q2, q3, _, _, _, _⟩ := ha1.cells
  obtain ⟨r0, r1, r2, r3, _, _, _, _⟩ := ha2.cells
  clear ha1 ha2 hm hba
  go_enter Try.func10, Try.ntmps10
  go_upto_region 4 with (fail)
  rw [← hwa]
  clear hwa
  go_wp2_with fail
  refine (ex_by1 _).mono ?_
  rintro e w1 ⟨A1, n1, c1, rfl, hf1, hb1⟩
  have HF1 := Lib.hid (hf1.rd (Nat.le_refl _))
  have HB1 := Lib.hid hb1
  obtain ⟨s0, s1, s2, s3, _, _, _, _⟩ := (H2.out w1 hb1).cells
  clear q0 q1 q2 q3 r0 r1 r2 r3 hf1 hb1
  go_wp2_with fail
  refine (ex_by2 (HM.out w1 HB1.out) HB1.out.size).mono ?_
  rintro e w2 ⟨A2, n2, c2, rfl, hf2, hb2⟩
  have HF1b := Lib.hid (HF1.out.now hb2)
  have HF2 := Lib.hid (hf2.rd (Nat.le_refl _))
  have HB2 := Lib.hid (bon HB1.out hb2)
  obtain ⟨t0, t1, t2, t3, _, _, _, _⟩ := (H2.out w2 HB2.out).cells
  clear s0 s1 s2 s3 hf2 hb2 HF1
  go_wp2_with fail
  refine (ex_ap1 (HM.out w2 HB2.out) HB2.out.size).mono ?_
  rintro e w3 ⟨A3, n3, c3, rfl, hf3, hb3⟩
  obtain ⟨wb, hwb⟩ : ∃ wb, wb = w3.alloc (.cells #[.slice A3 n3 c3, .int .u64 3, .int .u64 9, .int .u64 0] 28) := ⟨_, rfl⟩
  have hbb : Below w3.heap.size w3 wb := by rw [hwb]; exact below_alloc _ _
  have hv : B4 wb w3.heap.size 28 (.slice A3 n3 c3) (.int .u64 3) (.int .u64 9) (.int .u64 0) := by rw [hwb]; exact B4.new _ _ _ _ _ _ rfl
  have HV := Lib.hid (fun W (hW : Below wb.heap.size wb W) => hv.now hW)
  have HMV := Lib.hid (fun W (hW : Below wb.heap.size wb W) => (((hf3.below hbb).rd (Nat.le_refl _)).below hW (Nat.le_refl _)))
  have HB3 := Lib.hid (bon (bon HB2.out hb3) hbb)
  have HF1c := Lib.hid ((HF1b.out.now hb3).now hbb)
  have HF2c := Lib.hid ((HF2.out.now hb3).now hbb)
  have hn3 : n3 = 1 := by have := hf3.len; simpa using this.symm
  have HN3 := Lib.hid hn3
  have hvl := hv.lt
  have HVL := Lib.hid hvl
  obtain ⟨u0, u1, u2, u3, _, _, _, _⟩ := hv.cells
  obtain ⟨p0, p1, p2, p3, _, _, _, _⟩ := (H2.out wb HB3.out).cells
  clear t0 t1 t2 t3 hf3 hb3 hbb hv HF1b HF2 hn3 hvl
  go_upto_region 7 with (fail)
  rw [← hwb]
  clear hwb
  go_wp2_with fail
  refine (ex_ap2 (HMV.out wb (Below.refl _ _)) ((HM.out wb HB3.out).more HB3.out.size) (Nat.le_refl _)).mono ?_
  rintro e w4 ⟨A4, n4, c4, x4, y4, z4, rfl, hb4⟩
  obtain ⟨wc, hwc⟩ : ∃ wc, wc = w4.alloc (.cells #[.slice A4 n4 c4, .int .u64 (x4 : Int), .int .u64 (y4 : Int), .int .u64 (z4 : Int)] 28) := ⟨_, rfl⟩
  have HB4 := Lib.hid (show Below wb.heap.size wb wc by rw [hwc]; exact blit hb4 _)
  obtain ⟨v0, v1, v2, v3, _, _, _, _⟩ := (HV.out wc HB4.out).cells
  clear u0 u1 u2 u3 p0 p1 p2 p3 hb4
  go_upto_region 8 with (fail)
  rw [← hwc]
  clear hwc
  go_wp2_with fail
  refine (ex_ap3 (HMV.out wc HB4.out) HB4.out.size).mono ?_
  rintro e w5 ⟨A5, n5, c5, x5, y5, z5, rfl, hb5⟩
  obtain ⟨wd, hwd⟩ : ∃ wd, wd = w5.alloc (.cells #[.slice A5 n5 c5, .int .u64 (x5 : Int), .int .u64 (y5 : Int), .int .u64 (z5 : Int)] 28) := ⟨_, rfl⟩
  have HB5 := Lib.hid (show Below wb.heap.size wb wd by rw [hwd]; exact blit (bon HB4.out hb5) _)
  clear v0 v1 v2 v3 hb5
  go_upto_region 9 with (fail)
  rw [← hwd]
  clear hwd
  have HL0 := Lib.hid (Rd.litb wd [0] (vs := #[.int .u8 0]) (g := wd.heap.size) rfl rfl rfl (by decide))
  go_wp2_with fail
  refine (ex_pa HL0.out (by simp) (by decide) ex0).mono ?_
  rintro e w6 ⟨A6, n6, c6, x6, y6, z6, rfl, hb6⟩
  obtain ⟨we, hwe⟩ : ∃ we, we = w6.alloc (.cells #[.slice A6 n6 c6, .int .u64 (x6 : Int), .int .u64 (y6 : Int), .int .u64 (z6 : Int)] 25) := ⟨_, rfl⟩
  have HB6 := Lib.hid (show Below wb.heap.size wb we by rw [hwe]; exact blit (bon (blit HB5.out _) hb6) _)
  clear hb6
  go_upto_region 10 with (fail)
  rw [← hwe]
  clear hwe
  have HL1 := Lib.hid (Rd.litb we [2, 0] (vs := #[.int .u8 2, .int .u8 0]) (g := we.heap.size) rfl rfl rfl (by decide))
  go_wp2_with fail
  refine (ex_pa HL1.out (by simp) (by decide) ex20).mono ?_
  rintro e w7 ⟨A7, n7, c7, x7, y7, z7, rfl, hb7⟩
  obtain ⟨wf, hwf⟩ : ∃ wf, wf = w7.alloc (.cells #[.slice A7 n7 c7, .int .u64 (x7 : Int), .int .u64 (y7 : Int), .int .u64 (z7 : Int)] 25) := ⟨_, rfl⟩
  have HB7 := Lib.hid (show Below wb.heap.size wb wf by rw [hwf]; exact blit (bon (blit HB6.out _) hb7) _)
  clear hb7
  go_upto_region 11 with (fail)
  rw [← hwf]
  clear hwf
  obtain ⟨lz, hlz⟩ : ∃ lz, lz = wf.alloc (.cells #[.int .u8 6, .int .u8 3, .int .u8 9] 5) := ⟨_, rfl⟩
  have HLZ := Lib.hid (show Rd lz (wf.heap.size + 1) (some ⟨wf.heap.size, 0, none⟩) 3 3 (bv [6, 3, 9]) by rw [hlz]; exact Rd.litb wf [6, 3, 9] (g := wf.heap.size) rfl rfl rfl (by decide))
  have HB8 := Lib.hid (show Below wb.heap.size wb lz by rw [hlz]; exact blit HB7.out _)
  have HSA := Lib.hid (same_t (HF1c.out.now HB8.out) HLZ.out rfl)
  have d1 : ((n3 : Int) == 1) = true := by rw [HN3.out]; rfl
  have d2 : (n3 == 1) = true := by rw [HN3.out]; rfl
  obtain ⟨v0, v1, v2, v3, _, _, _, _⟩ := (HV.out lz HB8.out).cells
  go_wp2_with (rw [← hlz])
  clear hlz
  refine HSA.out.mono ?_
  rintro e w9 ⟨rfl, rfl⟩
  obtain ⟨ly, hly⟩ : ∃ ly, ly = lz.alloc (.cells #[.int .u8 7, .int .u8 1, .int .u8 2, .int .u8 48, .int .u8 1, .int .u8 97, .int .u8 1, .int .u8 99, .int .u8 3, .int .u8 9] 5) := ⟨_, rfl⟩
  have HLY := Lib.hid (show Rd ly (lz.heap.size + 1) (some ⟨lz.heap.size, 0, none⟩) 10 10 (bv [7, 1, 2, 48, 1, 97, 1, 99, 3, 9]) by rw [hly]; exact Rd.litb lz [7, 1, 2, 48, 1, 97, 1, 99, 3, 9] (g := lz.heap.size) rfl rfl rfl (by decide))
  have HB9 := Lib.hid (show Below wb.heap.size wb ly by rw [hly]; exact blit HB8.out _)
  have HSB := Lib.hid (same_t (HF2c.out.now HB9.out) HLY.out rfl)
  clear v0 v1 v2 v3
  obtain ⟨v0, v1, v2, v3, _, _, _, _⟩ := (HV.out ly HB9.out).cells
  go_wp2_with (rw [← hly])
  clear hly
  refine HSB.out.mono ?_
  rintro e w9 ⟨rfl, rfl⟩
  go_wp2_with fail
  go_ret
  exact ⟨rfl, HBA.out.trans ((HB3.out.trans (HB9.out.mono HB3.out.size)).mono HBA.out.size)⟩
end Go.Proofs.Ythgbafhfeblhaaa
