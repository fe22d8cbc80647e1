/-
  What is sought: the contract of Seek.
-/
import Derived.Test.YtfbmphaabdhphaaBF
namespace Go.Proofs.Ytfbmphaabdhphaa
set_option maxRecDepth 100000
open Go.RowKit Go.Shelf
set_option linter.unusedVariables false

/-- What Seek answers: the entry, whether, the error. -/
def skV (b : List UInt8) (s : ByteArray) (q k : Nat) : Ent := match seekE (prsL b) s q k with | some x => x | none => noE
def skB (b : List UInt8) (s : ByteArray) (q k : Nat) : Bool := (seekE (prsL b) s q k).isSome
theorem prs_block {b : List UInt8} (h : prsE b = 0) : blkB (prsL b) = true := by
  unfold prsE at h
  unfold prsL
  cases hp : parseB b with
  | none => rw [hp] at h; exact absurd h (by decide)
  | some L => exact (parse_iff.1 hp).1
theorem prs_none {b : List UInt8} (h : prsE b ≠ 0) : prsL b = [] ∧ prsE b = 70 := by
  unfold prsE at h ⊢
  unfold prsL
  cases hp : parseB b with
  | none => exact ⟨rfl, rfl⟩
  | some L => rw [hp] at h; exact absurd rfl h
def RetEB (w : World) (x : Ent) (ok : Bool) (e0 : Int) (e : Ending) (w' : World) : Prop :=
  e = .returned (.tuple #[en x.s x.q x.k x.v, .bool ok, .int .i64 e0]) ∧ Below w.heap.size w w'
theorem results_en3 {fn : Func} {p u v : Tmp} {tmps : Array Value} {w : World} {g : Nat} {x : Ent} (h : fn.results = #[.cell p 38, .tmp u, .tmp v])
    (hp : tmps.getD p undef = .pointer (some ⟨g, 0, none⟩)) (hg : EnAt w g x) :
    (results fn tmps).run Try.prog w = .ok (.tuple #[en x.s x.q x.k x.v, tmps.getD u undef, tmps.getD v undef]) w := by
  have hp' : tmps[p]?.getD undef = .pointer (some ⟨g, 0, none⟩) := by simpa using hp
  have hl := run_loadVar_row (P := Try.prog) w g 38 38 _ (0, 0) _ hg.h Try.underlying38 rfl (by kernel_rfl)
  simp [results, h, hp', asAddr, hl, en]
theorem ret_en3 {fn : Func} {p u v : Tmp} {R : Ending → World → Prop} {a : Act} {w : World} {g : Nat} {x : Ent} (h : fn.results = #[.cell p 38, .tmp u, .tmp v]) (hd : a.defers = [])
    (hp : a.tmps.getD p undef = .pointer (some ⟨g, 0, none⟩)) (hg : EnAt w g x) (hR : R (.returned (.tuple #[en x.s x.q x.k x.v, a.tmps.getD u undef, a.tmps.getD v undef])) w) : bodyPost Try.prog fn R .ret a w :=
  bodyPost_ret (results_en3 h hp hg) hd hR
theorem below_set4 {w w' : World} {B b : Nat} (h : Below B w w') (hb : B ≤ b) (u0 u1 u2 u3 : Value) :
    Below B w ((((w'.setCell ⟨b, 0, none⟩ u0).setCell ⟨b, 1, none⟩ u1).setCell ⟨b, 2, none⟩ u2).setCell ⟨b, 3, none⟩ u3) := (((h.setCell hb _).setCell hb _).setCell hb _).setCell hb _

set_option maxRecDepth 100000 in
set_option maxHeartbeats 4000000 in
theorem seek_c {w : World} {B n c : Nat} {A : Option Addr} {l : List UInt8} (h : Rd w B A n c (bv l)) (hB : B ≤ w.heap.size) (hn : n ≤ 1000000000) (s : ByteArray) (q k : Nat) :
    Calls Try.prog 16 #[.slice A n c, ik s q k] w (RetEB w (skV l s q k) (skB l s q k) (prsE l)) := by
  obtain ⟨gk, hgk⟩ : ∃ gk, w.heap.size = gk := ⟨_, rfl⟩
  obtain ⟨w2, hw2⟩ : ∃ w2, (w.alloc (.cells #[.string s, .int .u64 (q : Int), .int .u8 (k : Int)] 26)).alloc (.cells #[.string ⟨#[]⟩, .int .u64 0, .int .u8 0, .string ⟨#[]⟩] 38) = w2 := ⟨_, rfl⟩
  have hk0 : IkAt w2 gk s q k := by rw [← hw2, ← hgk]; exact (IkAt.new w s q k).alloc _
  have he0 : EnAt w2 (gk + 1) noE := by
    rw [← hw2, ← hgk]
    have := EnAt.new (w.alloc (.cells #[.string s, .int .u64 (q : Int), .int .u8 (k : Int)] 26)) noE
    rw [show (w.alloc (.cells #[.string s, .int .u64 (q : Int), .int .u8 (k : Int)] 26)).heap.size = w.heap.size + 1 by simp] at this
    exact this
  have hb0 : Below w.heap.size w w2 := by rw [← hw2]; exact blit (below_alloc w _) _
  have HP := Lib.hid (parse_c (h.under hb0 hB) (Nat.le_trans hB hb0.size) hn)
  have hg1 : gk + 1 ≥ w.heap.size := by omega
  have HK0 := Lib.hid hk0
  have HE0 := Lib.hid he0
  have HB0 := Lib.hid hb0
  have HPB := Lib.hid (fun h => prs_block (b := l) h)
  have HPN := Lib.hid (fun h => prs_none (b := l) h)
  have HV := Lib.hid (show skV l s q k = (match seekE (prsL l) s q k with | some x => x | none => noE) ∧ skB l s q k = (seekE (prsL l) s q k).isSome from ⟨rfl, rfl⟩)
  generalize skV l s q k = V at HV ⊢
  generalize skB l s q k = VB at HV ⊢
  generalize prsL l = L at *
  generalize prsE l = E at *
  clear h hk0 he0 hb0 hn
  unfold ik
  go_enter Try.func16, Try.ntmps16
  go_wp2_with fail
  refine HP.out.mono ?_
  rintro e w3 ⟨A3, n3, c3, rfl, hf3, hb3⟩
  have hk3 := HK0.out.below hb3 (Nat.le_refl _)
  have he3 := HE0.out.below hb3
  have hg3 := bon HB0.out hb3
  have hl3 := hf3.len
  obtain ⟨gl, hgl⟩ : ∃ gl, w3.heap.size = gl := ⟨_, rfl⟩
  have hsk : SkAt (w3.alloc (.cells #[.slice A3 n3 c3] 22)) gl gk A3 n3 c3 L s q k := by
    subst hgl
    exact ⟨by simp, heap_alloc_new w3 _, (hf3.alloc _).rd (Nat.le_refl _), hk3.alloc _⟩
  have he4 : EnAt (w3.alloc (.cells #[.slice A3 n3 c3] 22)) (gk + 1) noE := he3.below (below_alloc w3 _)
  have hg4 := blit hg3 (.cells #[.slice A3 n3 c3] 22)
  have HSK := Lib.hid hsk
  have HE4 := Lib.hid he4
  have HG4 := Lib.hid hg4
  clear hk3 he3 hg3 hf3 hb3 HP HK0 HE0 HB0 hsk he4 hg4 hw2
  by_cases hE : E = 0
  case neg =>
    obtain ⟨rfl, hE7⟩ := HPN.out hE
    have HVN := Lib.hid HV.out
    simp only [seekE, List.find?] at HVN
    have d1 : (E != 0) = true := by simpa using hE
    have HE7 := Lib.hid hE7
    clear hE7 hE HV HPB HPN
    go_upto_region 3 with (fail)
    generalize hwz : w3.alloc (.cells #[.slice A3 n3 c3] 22) = wz at *
    clear hwz
    obtain ⟨i0, i1, i2, i3⟩ := HE4.out.cells
    obtain ⟨j0, j1, j2, j3⟩ := HE4.out.frozen
    have HFIN := Lib.hid (And.intro (HE4.out.set4 (y := noE)) (below_set4 HG4.out hg1 (.string noE.s) (.int .u64 (noE.q : Int)) (.int .u8 (noE.k : Int)) (.string noE.v)))
    go_wp2_with fail
    exact ret_en3 rfl rfl rfl HFIN.out.1 ⟨by rw [HVN.out.1, HVN.out.2]; rfl, HFIN.out.2⟩
  subst hE
  have hblk := HPB.out rfl
  obtain ⟨b1, b2, b3, b4⟩ := blkB_iff.1 hblk
  have hn3 : n3 ≤ 64 := by omega
  have hn3i : (n3 : Int) ≤ 64 := by omega
  have HS := Lib.hid (search_c HSK.out hn3 b4)
  have HL3 := Lib.hid hl3
  have l0 := HSK.out.cell
  clear hblk b1 b2 b3 b4 HPB HPN hl3
  go_wp2_with fail
  refine HS.out.mono ?_
  rintro e w5 ⟨m, rfl, hmn, hlo, hhi, hb5⟩
  have S5 := Lib.hid (HSK.out.below hb5)
  have E5 := Lib.hid (HE4.out.below hb5)
  have G5 := Lib.hid (bon HG4.out hb5)
  have HLO := Lib.hid hlo
  have HHI := Lib.hid hhi
  clear hb5 HS hlo hhi l0 HSK HE4 HG4
  have l0 := S5.out.cell
  obtain ⟨i0, i1, i2, i3⟩ := E5.out.cells
  obtain ⟨j0, j1, j2, j3⟩ := E5.out.frozen
  by_cases hm : m = n3
  · have d1 : ((m : Int) == (n3 : Int)) = true := by simp; omega
    have d2 : (m == n3) = true := by simpa using hm
    have hfn : seekE L s q k = none := find_no _ _ (fun i x hx => HLO.out i x (by
      have : i < L.length := by
        rcases Nat.lt_or_ge i L.length with h1 | h1
        · exact h1
        · rw [List.getElem?_eq_none h1] at hx; cases hx
      have := HL3.out; omega) hx)
    have HVN := Lib.hid HV.out
    rw [hfn] at HVN
    have HFIN := Lib.hid (And.intro (E5.out.set4 (y := noE)) (below_set4 G5.out hg1 (.string noE.s) (.int .u64 (noE.q : Int)) (.int .u8 (noE.k : Int)) (.string noE.v)))
    clear hfn HV hm
    go_wp2_with fail
    exact ret_en3 rfl rfl rfl HFIN.out.1 ⟨by rw [HVN.out.1, HVN.out.2]; rfl, HFIN.out.2⟩
  · have d1 : ((m : Int) == (n3 : Int)) = false := by simp; omega
    have d2 : (m == n3) = false := by simpa using hm
    have hml : m < L.length := by have := HL3.out; omega
    obtain ⟨x, hx⟩ : ∃ x, L[m]? = some x := ⟨_, List.getElem?_eq_getElem hml⟩
    have hfn : seekE L s q k = some x := find_at _ L m x (fun i y hi hy => HLO.out i y hi hy) hx (HHI.out m x (Nat.le_refl _) hx)
    have HVN := Lib.hid HV.out
    rw [hfn] at HVN
    obtain ⟨b, off, hA, hbB, hcell⟩ := S5.out.rd.form (by omega)
    subst hA
    obtain ⟨x0, x1, x2, x3⟩ := hcell m x hx
    have hmi : (m : Int) < (n3 : Int) := by omega
    have hm0 : (0 : Int) ≤ (m : Int) := by omega
    have HFIN := Lib.hid (And.intro (E5.out.set4 (y := x)) (below_set4 G5.out hg1 (.string x.s) (.int .u64 (x.q : Int)) (.int .u8 (x.k : Int)) (.string x.v)))
    clear hfn HV hm hx hml hcell
    go_wp2_with fail
    exact ret_en3 rfl rfl rfl HFIN.out.1 ⟨by rw [HVN.out.1, HVN.out.2]; rfl, HFIN.out.2⟩
end Go.Proofs.Ytfbmphaabdhphaa
