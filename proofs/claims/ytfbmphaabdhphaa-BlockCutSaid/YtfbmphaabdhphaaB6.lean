/-
  The form that grows: the contracts of restart and sharing.
-/
import Derived.Test.YtfbmphaabdhphaaB5
import Derived.Test.YtfbmphaabdhphaaIter4
namespace Go.Proofs.Ytfbmphaabdhphaa
set_option maxRecDepth 100000
open Go.RowKit Go.Shelf
set_option linter.unusedVariables false

theorem wrap32 (x : Int) (h0 : 0 ≤ x) (h1 : x ≤ 4294967295) : IntKind.u32.wrap x = x := by
  simp [IntKind.wrap, IntKind.bits, IntKind.signed]; omega
def WPost (w : World) (g : Nat) (E P : List UInt8) (s : ByteArray) (e : Ending) (w' : World) : Prop :=
  e = .returned (.tuple #[]) ∧ ∃ r1 r2 : Row, WrAt w' g r1 r2 E P s ∧ Below g w w'
def PutAt2 (w : World) (g : Nat) (r1 : Row) (E P : List UInt8) (s : ByteArray) (b : Nat) (x : Ent) (wx : World) : Prop :=
  ∃ r2 : Row, WrAt wx g r1 r2 E P s ∧ EnAt wx b x ∧ Below g w wx
theorem PutAt2.of {w w2 w3 : World} {g b : Nat} {r1 r2 : Row} {E P T : List UInt8} {s : ByteArray} {x : Ent} {A : Option Addr} {n2 c' : Nat} (H2 : WrAt w2 g r1 r2 E P s) (E2 : EnAt w2 b x) (B0 : Below g w w2)
    (hap : App w2 w3 (g + 1) 5 (.slice r2.A r2.n r2.c) A (r2.n + n2) c' (bv P ++ bv T)) (hne : b ≠ g) : PutAt2 w g r1 E (P ++ T) s b x (w3.setCell ⟨g, 1, none⟩ (.slice A (r2.n + n2) c')) :=
  ⟨⟨A, r2.n + n2, c'⟩, (H2.put2 hap).1, E2.grown H2.f2 hap.grown hne 1 _, B0.trans (H2.put2 hap).2⟩
set_option maxRecDepth 100000 in
set_option maxHeartbeats 4000000 in
theorem wrestart_c {w : World} {g : Nat} {r1 r2 : Row} {E P : List UInt8} {s : ByteArray} (h : WrAt w g r1 r2 E P s) {x : Ent} (hx : entB x = true) (hE : E.length ≤ 90000) (hP : P.length ≤ 1000) :
    Calls Try.prog 39 #[.pointer (some ⟨g, 0, none⟩), en x.s x.q x.k x.v] w (WPost w g (E ++ entL 0 x) (P ++ fourL E.length) x.s) := by
  have hlt := h.lt
  have hwg : w.heap.size ≠ g := by omega
  have hl1 : E.length = r1.n := by have := h.f1.len; simpa using this
  have h0 : WrAt (w.alloc (.cells #[.string x.s, .int .u64 (x.q : Int), .int .u8 (x.k : Int), .string x.v] 38)) g r1 r2 E P s := h.alloc _
  have e0 := EnAt.new w x
  have b0 : Below g w (w.alloc (.cells #[.string x.s, .int .u64 (x.q : Int), .int .u8 (x.k : Int), .string x.v] 38)) := (below_alloc w _).mono (by omega)
  have hw1 : IntKind.u32.wrap (r1.n : Int) = (r1.n : Int) := wrap32 _ (by omega) (by omega)
  have HP1 := Lib.hid fun W => putFour_c (w := W) (B := 0) (l := []) Rd.nilv (Nat.zero_le _) (by decide) (r1.n : Int) (by omega) (by omega)
  have n1 : ([] ++ fourL (r1.n : Int).toNat : List UInt8) = fourL r1.n := by rw [Int.toNat_natCast, List.nil_append]
  simp only [n1] at HP1
  have HPUT := Lib.hid fun W r2' P' (hh : WrAt W g r1 r2' E P' s) => wput_c hh hx (n := 0) (by omega) (by omega)
  unfold en at HPUT
  simp only [Int.natCast_zero] at HPUT
  have hr2 : r2.n ≤ 1000 := ret_len h.f2 hP
  have HL1 := Lib.hid (Nat.le_of_eq (fourL_len r1.n))
  rw [hl1]
  have HE := Lib.hid hE
  clear n1 hx hE hP h hl1
  unfold en
  go_enter Try.func39, Try.ntmps39
  obtain ⟨x0, x1, x2⟩ := h0.cells
  go_upto_region 2 with (fail)
  generalize hwa : w.alloc (.cells #[.string x.s, .int .u64 (x.q : Int), .int .u8 (x.k : Int), .string x.v] 38) = wa at *
  clear hwa
  go_cut [] from 11 to 20 (fun wx => PutAt2 w g r1 E (P ++ fourL r1.n) s w.heap.size x wx)
  case first =>
    clear x0 x1 x2
    obtain ⟨x0, x1, x2⟩ := h0.drew.cells
    obtain ⟨y0, y1, y2, y3⟩ := e0.drew.cells
    have H0 := Lib.hid h0.drew
    have E0 := Lib.hid e0.drew
    have B0 := Lib.hid (Below.drew b0)
    clear h0 e0 b0
    go_region_law (first
      | (refine step_app rfl (.tmp 15) (.tmp 17) rfl H2.out.f2 (by rfl) (HF2.out.rd (Nat.le_refl _)) (by rfl) (bv_one _) (by omega) H2.out.lt ?_; intro A' c' w3 hap; obtain ⟨⟨z0, z1, z2⟩, t0, t1, t2⟩ := H2.out.far hap.grown H2.out.ne2; have HPA := Lib.hid (PutAt2.of (T := fourL r1.n) H2.out E2.out B2.out hap hwg); clear hap)
      | (go_simp; go_at_call 41; refine (HP1.out _).mono ?_; rintro e w2 ⟨A2, n2, c2, rfl, hf2, hb2⟩; have hn2 := ret_len hf2 HL1.out; have H2 := Lib.hid (H0.out.below hb2); have E2 := Lib.hid (E0.out.below hb2); have B2 := Lib.hid (B0.out.trans (hb2.mono (Nat.le_of_lt H0.out.lt))); have HF2 := Lib.hid hf2; obtain ⟨x0, x1, x2⟩ := H2.out.cells; obtain ⟨y0, y1, y2, y3⟩ := E2.out.cells; clear hb2 hf2))
    all_goals (go_wp2_with fail; go_meet; exact HPA.out)
  case rest =>
  obtain ⟨rb, h2, e2, b2⟩ := hcut
  clear x0 x1 x2 h0 e0 b0 HP1
  obtain ⟨y0, y1, y2, y3⟩ := e2.cells
  have HC := Lib.hid (HPUT.out _ _ _ h2)
  have HB := Lib.hid b2
  clear h2 e2 b2 HPUT
  go_wp2_with fail
  refine HC.out.mono ?_
  rintro e w4 ⟨rfl, r1', h4, b4⟩
  go_wp2_with fail
  first | refine bodyPost_end (results_none rfl _ _ _) rfl ?_ | refine bodyPost_ret (results_none rfl _ _ _) rfl ?_
  exact ⟨rfl, r1', rb, h4, HB.out.trans b4⟩
set_option maxRecDepth 100000 in
set_option maxHeartbeats 4000000 in
theorem wsharing_c {w : World} {g : Nat} {r1 r2 : Row} {E P : List UInt8} {s : ByteArray} (h : WrAt w g r1 r2 E P s) (hs : s.size ≤ 64) {x : Ent} (hx : entB x = true) (hE : E.length ≤ 90000) :
    Calls Try.prog 38 #[.pointer (some ⟨g, 0, none⟩), en x.s x.q x.k x.v] w (WPost w g (E ++ entL (com s x.s) x) P x.s) := by
  have hlt := h.lt
  have hxs := (entB_parts hx).2.1
  have h0 : WrAt (w.alloc (.cells #[.string x.s, .int .u64 (x.q : Int), .int .u8 (x.k : Int), .string x.v] 38)) g r1 r2 E P s := h.alloc _
  have e0 := EnAt.new w x
  have b0 : Below g w (w.alloc (.cells #[.string x.s, .int .u64 (x.q : Int), .int .u8 (x.k : Int), .string x.v] 38)) := (below_alloc w _).mono (by omega)
  have HC1 := Lib.hid fun W => common_c W s x.s (by omega) (by omega)
  have HPUT := Lib.hid fun W (hh : WrAt W g r1 r2 E P s) => wput_c hh hx (n := com s x.s) (com_le s x.s).2 (by omega)
  unfold en at HPUT
  clear hx hE hs hxs h
  unfold en
  go_enter Try.func38, Try.ntmps38
  go_upto_region 1 with (fail)
  generalize hwa : w.alloc (.cells #[.string x.s, .int .u64 (x.q : Int), .int .u8 (x.k : Int), .string x.v] 38) = wa at *
  clear hwa
  obtain ⟨x0, x1, x2⟩ := h0.drew.cells
  obtain ⟨y0, y1, y2, y3⟩ := e0.drew.cells
  have H0 := Lib.hid h0.drew
  have E0 := Lib.hid e0.drew
  have B0 := Lib.hid (Below.drew b0)
  clear h0 e0 b0
  go_region_law (first
    | (go_simp; go_at_call 53; refine (HC1.out _).mono ?_; rintro e w2 ⟨rfl, q2, hq2⟩; have hb2 : Below wa.drew.heap.size wa.drew w2 := (by rw [hq2]; exact below_drewN (Below.refl _ _) q2); have H2 := Lib.hid (H0.out.below hb2); have E2 := Lib.hid (E0.out.below hb2); have B2 := Lib.hid (B0.out.trans (hb2.mono (Nat.le_of_lt H0.out.lt))); obtain ⟨x0, x1, x2⟩ := H2.out.cells; obtain ⟨y0, y1, y2, y3⟩ := E2.out.cells; clear hb2 hq2)
    | (go_simp; go_at_call 52; refine (HPUT.out _ H2.out).mono ?_; rintro e w4 ⟨rfl, r1', h4, b4⟩))
  all_goals (
    go_wp2_with fail
    first | refine bodyPost_end (results_none rfl _ _ _) rfl ?_ | refine bodyPost_ret (results_none rfl _ _ _) rfl ?_
    exact ⟨rfl, r1', r2, h4, B2.out.trans b4⟩)
end Go.Proofs.Ytfbmphaabdhphaa
