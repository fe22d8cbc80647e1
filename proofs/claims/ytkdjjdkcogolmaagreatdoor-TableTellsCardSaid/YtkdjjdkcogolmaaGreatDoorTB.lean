/-
  What is sought, and what is told of a table: the contracts of Seek and Meta.
-/
import Derived.Test.YtkdjjdkcogolmaaGreatDoorTA
import Derived.BigRegion
namespace Go.Proofs.YtkdjjdkcogolmaaGreatDoor
set_option maxRecDepth 100000
open Go.RowKit Go.Shelf
set_option linter.unusedVariables false

def RetEB (w : World) (x : Ent) (ok : Bool) (e0 : Int) (e : Ending) (w' : World) : Prop :=
  e = .returned (.tuple #[en x.s x.q x.k x.v, .bool ok, .int .i64 e0]) ∧ Below w.heap.size w w'
theorem results_en3 {fn : Func} {p u v : Tmp} {tmps : Array Value} {w : World} {g : Nat} {x : Ent} (h : fn.results = #[.cell p 40, .tmp u, .tmp v])
    (hp : tmps.getD p undef = .pointer (some ⟨g, 0, none⟩)) (hg : EnAt w g x) :
    (results fn tmps).run Tryz.prog w = .ok (.tuple #[en x.s x.q x.k x.v, tmps.getD u undef, tmps.getD v undef]) w := by
  have hp' : tmps[p]?.getD undef = .pointer (some ⟨g, 0, none⟩) := by simpa using hp
  have hl := run_loadVar_row (P := Tryz.prog) w g 40 40 _ (0, 0) _ hg.h Tryz.underlying40 rfl (by kernel_rfl)
  simp [results, h, hp', asAddr, hl, en]
theorem ret_en3 {fn : Func} {p u v : Tmp} {R : Ending → World → Prop} {a : Act} {w : World} {g : Nat} {x : Ent} (h : fn.results = #[.cell p 40, .tmp u, .tmp v]) (hd : a.defers = [])
    (hp : a.tmps.getD p undef = .pointer (some ⟨g, 0, none⟩)) (hg : EnAt w g x) (hR : R (.returned (.tuple #[en x.s x.q x.k x.v, a.tmps.getD u undef, a.tmps.getD v undef])) w) : bodyPost Tryz.prog fn R .ret a w :=
  bodyPost_ret (results_en3 h hp hg) hd hR
theorem below_set4 {w w' : World} {B b : Nat} (h : Below B w w') (hb : B ≤ b) (u0 u1 u2 u3 : Value) :
    Below B w ((((w'.setCell ⟨b, 0, none⟩ u0).setCell ⟨b, 1, none⟩ u1).setCell ⟨b, 2, none⟩ u2).setCell ⟨b, 3, none⟩ u3) := (((h.setCell hb _).setCell hb _).setCell hb _).setCell hb _

set_option maxRecDepth 100000 in
set_option maxHeartbeats 4000000 in
theorem tseek_c {w : World} {B n c : Nat} {A : Option Addr} {l : List UInt8} (h : Rd w B A n c (bv l)) (hB : B ≤ w.heap.size) (hn : n ≤ 1000000000) (s : ByteArray) (q k : Nat) :
    Calls Tryz.prog 16 #[.slice A n c, ik s q k] w (RetEB w (skT l s q k) (skTB l s q k) (prtE l)) := by
  obtain ⟨gk, hgk⟩ : ∃ gk, w.heap.size = gk := ⟨_, rfl⟩
  obtain ⟨w2, hw2⟩ : ∃ w2, (w.alloc (.cells #[.string s, .int .u64 (q : Int), .int .u8 (k : Int)] 26)).alloc (.cells #[.string ⟨#[]⟩, .int .u64 0, .int .u8 0, .string ⟨#[]⟩] 40) = w2 := ⟨_, rfl⟩
  have hk0 : IkAt w2 gk s q k := by rw [← hw2, ← hgk]; exact (IkAt.new w s q k).alloc _
  have he0 : EnAt w2 (gk + 1) noE := by
    rw [← hw2, ← hgk]
    have := EnAt.new (w.alloc (.cells #[.string s, .int .u64 (q : Int), .int .u8 (k : Int)] 26)) noE
    rw [show (w.alloc (.cells #[.string s, .int .u64 (q : Int), .int .u8 (k : Int)] 26)).heap.size = w.heap.size + 1 by simp] at this
    exact this
  have hb0 : Below w.heap.size w w2 := by rw [← hw2]; exact blit (below_alloc w _) _
  have HP := Lib.hid (tparse_c (h.under hb0 hB) (Nat.le_trans hB hb0.size) hn)
  have hg1 : gk + 1 ≥ w.heap.size := by omega
  have HK0 := Lib.hid hk0
  have HE0 := Lib.hid he0
  have HB0 := Lib.hid hb0
  have HPC := Lib.hid (prt_cases l)
  have HV := Lib.hid (show skT l s q k = (match seekE (prtL l) s q k with | some x => x | none => noE) ∧ skTB l s q k = (seekE (prtL l) s q k).isSome from ⟨rfl, rfl⟩)
  generalize skT l s q k = V at HV ⊢
  generalize skTB l s q k = VB at HV ⊢
  generalize prtL l = L at *
  generalize prtE l = E at *
  clear h hk0 he0 hb0 hn
  unfold ik
  go_enter Tryz.func16, Tryz.ntmps16
  go_wp2_with fail
  refine HP.out.mono ?_
  rintro e w3 ⟨A3, n3, c3, rfl, hf3, hb3⟩
  have hk3 := HK0.out.below hb3 (Nat.le_refl _)
  have he3 := HE0.out.below hb3
  have hg3 := bon HB0.out hb3
  have hl3 := hf3.len
  have HK3 := Lib.hid hk3
  have HE4 := Lib.hid he3
  have HG4 := Lib.hid hg3
  have HF3 := Lib.hid hf3
  obtain ⟨i0, i1, i2, i3⟩ := he3.cells
  obtain ⟨j0, j1, j2, j3⟩ := he3.frozen
  clear he3 hg3 hf3 hb3 HP HK0 HE0 HB0 hw2
  by_cases hE : E = 0
  case neg =>
    have hL : L = [] ∧ E = 80 := by
      rcases HPC.out with h | h
      · exact ⟨h.2.1, h.1⟩
      · exact absurd h.1 hE
    obtain ⟨rfl, hE7⟩ := hL
    have HVN := Lib.hid HV.out
    simp only [seekE, List.find?] at HVN
    have d1 : (E != 0) = true := by simpa using hE
    have HFIN := Lib.hid (And.intro (HE4.out.set4 (y := noE)) (below_set4 HG4.out hg1 (.string noE.s) (.int .u64 (noE.q : Int)) (.int .u8 (noE.k : Int)) (.string noE.v)))
    clear hE7 hE HV HPC hk3
    go_wp2_with fail
    exact ret_en3 rfl rfl rfl HFIN.out.1 ⟨by rw [HVN.out.1, HVN.out.2]; rfl, HFIN.out.2⟩
  subst hE
  have hblk : tblB L = true := by
    rcases HPC.out with h | h
    · exact absurd h.1 (by decide)
    · exact h.2.1
  obtain ⟨b1, b2, b3, b4⟩ := tblB_iff.1 hblk
  have hn3 : n3 ≤ 8192 := by omega
  have hn3i : (n3 : Int) ≤ 8192 := by omega
  have HS := Lib.hid (bsearch_c (s := s) (q := q) (k := k) (HF3.out.rd (Nat.le_refl _)) (Nat.le_refl _) hn3 b4)
  unfold ik at HS
  have HL3 := Lib.hid hl3
  obtain ⟨l0, l1, l2⟩ := hk3.cells
  clear hblk b1 b2 b3 b4 HPC hl3 hk3
  go_wp2_with fail
  refine HS.out.mono ?_
  rintro e w5 ⟨m, fd, rfl, hmn, hlo, hhi, hb5⟩
  have F5 := Lib.hid (HF3.out.below hb5)
  have E5 := Lib.hid (HE4.out.below hb5)
  have G5 := Lib.hid (bon HG4.out hb5)
  have HLO := Lib.hid hlo
  have HHI := Lib.hid hhi
  clear hb5 HS hlo hhi l0 l1 l2 HE4 HG4 i0 i1 i2 i3 j0 j1 j2 j3
  obtain ⟨i0, i1, i2, i3⟩ := E5.out.cells
  obtain ⟨j0, j1, j2, j3⟩ := E5.out.frozen
  by_cases hm : m = n3
  · have d1 : ((m : Int) == (n3 : Int)) = true := by simp; omega
    have d2 : (m == n3) = true := by simpa using hm
    have hfn : seekE L s q k = none := find_no _ _ (fun i x hx => HLO.out i x (by
      have : i < L.length := by
        rcases Nat.lt_or_ge i L.length with h1 | h1
        · exact h1
        · rw [List.getElem?_eq_none h1] at hx; cases hx
      have := HL3.out; omega) hx)
    have HVN := Lib.hid HV.out
    rw [hfn] at HVN
    have HFIN := Lib.hid (And.intro (E5.out.set4 (y := noE)) (below_set4 G5.out hg1 (.string noE.s) (.int .u64 (noE.q : Int)) (.int .u8 (noE.k : Int)) (.string noE.v)))
    clear hfn HV hm
    go_wp2_with fail
    exact ret_en3 rfl rfl rfl HFIN.out.1 ⟨by rw [HVN.out.1, HVN.out.2]; rfl, HFIN.out.2⟩
  · have d1 : ((m : Int) == (n3 : Int)) = false := by simp; omega
    have d2 : (m == n3) = false := by simpa using hm
    have hml : m < L.length := by have := HL3.out; omega
    obtain ⟨x, hx⟩ : ∃ x, L[m]? = some x := ⟨_, List.getElem?_eq_getElem hml⟩
    have hfn : seekE L s q k = some x := find_at _ L m x (fun i y hi hy => HLO.out i y hi hy) hx (HHI.out m x (Nat.le_refl _) hx)
    have HVN := Lib.hid HV.out
    rw [hfn] at HVN
    obtain ⟨b, off, hA, hbB, hcell⟩ := (F5.out.rd (Nat.le_refl _)).form (by omega)
    subst hA
    obtain ⟨x0, x1, x2, x3⟩ := hcell m x hx
    have hmi : (m : Int) < (n3 : Int) := by omega
    have hm0 : (0 : Int) ≤ (m : Int) := by omega
    have HFIN := Lib.hid (And.intro (E5.out.set4 (y := x)) (below_set4 G5.out hg1 (.string x.s) (.int .u64 (x.q : Int)) (.int .u8 (x.k : Int)) (.string x.v)))
    clear hfn HV hm hx hml hcell
    go_wp2_with fail
    exact ret_en3 rfl rfl rfl HFIN.out.1 ⟨by rw [HVN.out.1, HVN.out.2]; rfl, HFIN.out.2⟩

/-! ## Meta -/
structure Mt where
  num : Nat
  size : Nat
  lo : ByteArray
  hi : ByteArray
def noM : Mt := ⟨0, 0, noS, noS⟩
def mtv (m : Mt) : Value := .agg #[.int .u64 (m.num : Int), .int .u64 (m.size : Int), .string m.lo, .string m.hi]
structure MtAt (w : World) (b : Nat) (m : Mt) : Prop where
  lt : b < w.heap.size
  h : w.heap[b]? = some (.cells #[.int .u64 (m.num : Int), .int .u64 (m.size : Int), .string m.lo, .string m.hi] 44 (0, 0))
theorem MtAt.cells {w : World} {b : Nat} {m : Mt} (h : MtAt w b m) : w.cell? ⟨b, 0, none⟩ = some (.int .u64 (m.num : Int)) ∧ w.cell? ⟨b, 1, none⟩ = some (.int .u64 (m.size : Int)) ∧ w.cell? ⟨b, 2, none⟩ = some (.string m.lo) ∧ w.cell? ⟨b, 3, none⟩ = some (.string m.hi) := by
  refine ⟨?_, ?_, ?_, ?_⟩ <;> (simp only [World.cell?, h.h]; rfl)
theorem MtAt.frozen {w : World} {b : Nat} {m : Mt} (h : MtAt w b m) : w.frozen? ⟨b, 0, none⟩ = false ∧ w.frozen? ⟨b, 1, none⟩ = false ∧ w.frozen? ⟨b, 2, none⟩ = false ∧ w.frozen? ⟨b, 3, none⟩ = false := by
  refine ⟨?_, ?_, ?_, ?_⟩ <;> simp [World.frozen?, h.h]
theorem MtAt.below {w w' : World} {b : Nat} {m : Mt} (h : MtAt w b m) (hb : Below w.heap.size w w') : MtAt w' b m :=
  ⟨by have := h.lt; have := hb.size; omega, by rw [hb.block b h.lt]; exact h.h⟩
theorem MtAt.new (w : World) (m : Mt) : MtAt (w.alloc (.cells #[.int .u64 (m.num : Int), .int .u64 (m.size : Int), .string m.lo, .string m.hi] 44)) w.heap.size m := ⟨by simp, heap_alloc_new w _⟩
theorem MtAt.set4 {w : World} {b : Nat} {m y : Mt} (h : MtAt w b m) : MtAt ((((w.setCell ⟨b, 0, none⟩ (.int .u64 (y.num : Int))).setCell ⟨b, 1, none⟩ (.int .u64 (y.size : Int))).setCell ⟨b, 2, none⟩ (.string y.lo)).setCell ⟨b, 3, none⟩ (.string y.hi)) b y := by
  have hlt := h.lt
  refine ⟨by simp [World.setCell]; omega, ?_⟩
  simp only [World.setCell, Array.getElem?_modify, if_pos, h.h]
  rfl
def RetMt (w : World) (m : Mt) (e0 : Int) (e : Ending) (w' : World) : Prop := e = .returned (.tuple #[mtv m, .int .i64 e0]) ∧ Below w.heap.size w w'
theorem results_mt {fn : Func} {p u : Tmp} {tmps : Array Value} {w : World} {g : Nat} {m : Mt} (h : fn.results = #[.cell p 44, .tmp u])
    (hp : tmps.getD p undef = .pointer (some ⟨g, 0, none⟩)) (hg : MtAt w g m) :
    (results fn tmps).run Tryz.prog w = .ok (.tuple #[mtv m, tmps.getD u undef]) w := by
  have hp' : tmps[p]?.getD undef = .pointer (some ⟨g, 0, none⟩) := by simpa using hp
  have hl := run_loadVar_row (P := Tryz.prog) w g 44 44 _ (0, 0) _ hg.h Tryz.underlying44 rfl (by kernel_rfl)
  simp [results, h, hp', asAddr, hl, mtv]
theorem ret_mt {fn : Func} {p u : Tmp} {R : Ending → World → Prop} {a : Act} {w : World} {g : Nat} {m : Mt} (h : fn.results = #[.cell p 44, .tmp u]) (hd : a.defers = [])
    (hp : a.tmps.getD p undef = .pointer (some ⟨g, 0, none⟩)) (hg : MtAt w g m) (hR : R (.returned (.tuple #[mtv m, a.tmps.getD u undef])) w) : bodyPost Tryz.prog fn R .ret a w :=
  bodyPost_ret (results_mt h hp hg) hd hR
noncomputable def metE (num : Nat) (b : List UInt8) : Int := if num = 0 then 2 else prtE b
noncomputable def metM (num : Nat) (b : List UInt8) : Mt := if num = 0 ∨ prtE b ≠ 0 then noM else ⟨num, b.length, ((prtL b)[0]?.getD noE).s, (lastE (prtL b)).s⟩

set_option maxRecDepth 100000 in
set_option maxHeartbeats 4000000 in
theorem tmeta_c {w : World} {B n c : Nat} {A : Option Addr} {l : List UInt8} (h : Rd w B A n c (bv l)) (hB : B ≤ w.heap.size) (hn : n ≤ 1000000000) (num : Nat) :
    Calls Tryz.prog 18 #[.int .u64 (num : Int), .slice A n c] w (RetMt w (metM num l) (metE num l)) := by
  have hl : l.length = n := by simpa using h.len
  obtain ⟨g, hg⟩ : ∃ g, w.heap.size = g := ⟨_, rfl⟩
  have hni : (n : Int) ≤ 1000000000 := by omega
  obtain ⟨w2, hw2⟩ : ∃ w2, w.alloc (.cells #[.int .u64 0, .int .u64 0, .string ⟨#[]⟩, .string ⟨#[]⟩] 44) = w2 := ⟨_, rfl⟩
  have hm0 : MtAt w2 g noM := by rw [← hw2, ← hg]; exact MtAt.new w noM
  have hb0 : Below w.heap.size w w2 := by rw [← hw2]; exact below_alloc w _
  have HP := Lib.hid (tparse_c (h.under hb0 hB) (Nat.le_trans hB hb0.size) hn)
  have HM0 := Lib.hid hm0
  have HB0 := Lib.hid hb0
  have HPC := Lib.hid (prt_cases l)
  have hgw : g ≥ w.heap.size := by omega
  by_cases h0 : num = 0
  · subst h0
    have e1 : metM 0 l = noM := if_pos (.inl rfl)
    have e2 : metE 0 l = 2 := if_pos rfl
    rw [e1, e2]
    obtain ⟨i0, i1, i2, i3⟩ := hm0.cells
    obtain ⟨j0, j1, j2, j3⟩ := hm0.frozen
    have HFIN := Lib.hid (And.intro (hm0.set4 (y := noM)) (below_set4 hb0 hgw (.int .u64 (noM.num : Int)) (.int .u64 (noM.size : Int)) (.string noM.lo) (.string noM.hi)))
    clear h hl hm0 hb0 hn e1 e2 HP HPC
    go_enter Tryz.func18, Tryz.ntmps18
    go_wp2_with fail
    exact ret_mt rfl rfl rfl HFIN.out.1 ⟨rfl, HFIN.out.2⟩
  have d0 : ((num : Int) == 0) = false := by simp; omega
  have d0' : (num == 0) = false := by simpa using h0
  have e2 : metE num l = prtE l := if_neg h0
  have HV := Lib.hid (show metM num l = if num = 0 ∨ prtE l ≠ 0 then noM else ⟨num, l.length, ((prtL l)[0]?.getD noE).s, (lastE (prtL l)).s⟩ from rfl)
  rw [e2]
  generalize metM num l = V at HV ⊢
  generalize prtL l = L at *
  generalize prtE l = E at *
  have HH0 := Lib.hid h0
  have HL := Lib.hid hl
  clear h hl hm0 hb0 hn e2 h0
  go_enter Tryz.func18, Tryz.ntmps18
  go_wp2_with fail
  refine HP.out.mono ?_
  rintro e w3 ⟨A3, n3, c3, rfl, hf3, hb3⟩
  have hm3 := HM0.out.below hb3
  have hg3 := bon HB0.out hb3
  have hl3 := hf3.len
  have HM3 := Lib.hid hm3
  have HG3 := Lib.hid hg3
  have HF3 := Lib.hid hf3
  obtain ⟨i0, i1, i2, i3⟩ := hm3.cells
  obtain ⟨j0, j1, j2, j3⟩ := hm3.frozen
  clear hm3 hg3 hf3 hb3 HP HM0 HB0 hw2
  by_cases hE : E = 0
  case neg =>
    have hV : V = noM := by rw [HV.out, if_pos (.inr hE)]
    have d1 : (E != 0) = true := by simpa using hE
    have HFIN := Lib.hid (And.intro (HM3.out.set4 (y := noM)) (below_set4 HG3.out hgw (.int .u64 (noM.num : Int)) (.int .u64 (noM.size : Int)) (.string noM.lo) (.string noM.hi)))
    have HVV := Lib.hid hV
    clear hV hE HV HPC
    go_wp2_with fail
    exact ret_mt rfl rfl rfl HFIN.out.1 ⟨by rw [HVV.out]; rfl, HFIN.out.2⟩
  subst hE
  have htb : tblB L = true := by
    rcases HPC.out with h | h
    · exact absurd h.1 (by decide)
    · exact h.2.1
  obtain ⟨b1, b2, b3, b4⟩ := tblB_iff.1 htb
  obtain ⟨N, rfl⟩ : ∃ N, n3 = N + 1 := ⟨n3 - 1, by omega⟩
  obtain ⟨b, off, hA, hbB, hcell⟩ := (HF3.out.rd (Nat.le_refl _)).form (by omega)
  subst hA
  obtain ⟨x, hx⟩ : ∃ x, L[0]? = some x := ⟨_, List.getElem?_eq_getElem (by omega)⟩
  obtain ⟨y, hy⟩ : ∃ y, lastE L = y := ⟨_, rfl⟩
  have hyat : L[N]? = some y := by have := lastE_of b1; rw [hl3] at this; rw [← hy]; exact this
  obtain ⟨x0, _⟩ := hcell 0 x hx
  rw [Nat.zero_mul, Nat.add_zero] at x0
  obtain ⟨y0, _⟩ := hcell N y hyat
  have hV : V = ⟨num, n, x.s, y.s⟩ := by rw [HV.out, if_neg (by have := HH0.out; simp; omega), hx, hy, HL.out]; rfl
  have HVV := Lib.hid hV
  have hN0 : (0 : Int) ≤ (N : Int) := by omega
  have hNl : (N : Int) < (N : Int) + 1 := by omega
  have hN1 : (0 : Int) < (N : Int) + 1 := by omega
  have hni3 : (N : Int) + 1 ≤ 8192 := by omega
  have hw1 : IntKind.i64.wrap (N : Int) = (N : Int) := wrapi _ (by omega) (by omega)
  have hw4 : IntKind.u64.wrap (n : Int) = (n : Int) := by rw [wrapu]; omega
  have HFIN := Lib.hid (fun q => And.intro ((show MtAt (w3.drewN q) g noM from ⟨HM3.out.lt, HM3.out.h⟩).set4 (y := ⟨num, n, x.s, y.s⟩)) (below_set4 (below_drewN HG3.out q) hgw (.int .u64 (num : Int)) (.int .u64 (n : Int)) (.string x.s) (.string y.s)))
  clear hcell hx hy hyat hV HV HPC b1 b2 b3 b4 htb hl3
  go_wp2_with fail
  go_region
  all_goals (
    go_wp2_with fail
    exact ret_mt rfl rfl rfl (HFIN.out 1).1 ⟨by rw [HVV.out]; rfl, (HFIN.out 1).2⟩)
end Go.Proofs.YtkdjjdkcogolmaaGreatDoor
