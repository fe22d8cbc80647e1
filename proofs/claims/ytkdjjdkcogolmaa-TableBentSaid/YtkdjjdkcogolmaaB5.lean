/-
  The form that grows: the contract of put.
-/
import Derived.Test.YtkdjjdkcogolmaaB4
import Derived.Lib.PathFns
namespace Go.Proofs.Ytkdjjdkcogolmaa
set_option maxRecDepth 100000
open Go.RowKit Go.Shelf
set_option linter.unusedVariables false

theorem run_from {s : ByteArray} {k : Nat} (h : k ≤ s.size) (W : World) : (Instr.slice 9 (.string s) (some (.int .i64 (k : Int))) none none).run Try.prog W = .ok (.string (dropS s k)) W := by
  refine (run_slice_string_l W 9 s Try.underlying9 .i64 (k : Int) (by omega) (by omega)).trans ?_
  rw [Int.toNat_natCast, Lib.Pa.extract_from]; rfl
/-- What a step of put leaves. -/
def PutAt (w : World) (g : Nat) (r2 : Row) (E P : List UInt8) (s : ByteArray) (b : Nat) (x : Ent) (wx : World) : Prop :=
  ∃ r1 : Row, WrAt wx g r1 r2 E P s ∧ EnAt wx b x ∧ Below g w wx
theorem PutAt.of {w w2 w3 : World} {g b : Nat} {r1 r2 : Row} {E P T : List UInt8} {s : ByteArray} {x : Ent} {A : Option Addr} {n2 c' : Nat} (H2 : WrAt w2 g r1 r2 E P s) (E2 : EnAt w2 b x) (B0 : Below g w w2)
    (hap : App w2 w3 (g + 1) 5 (.slice r1.A r1.n r1.c) A (r1.n + n2) c' (bv E ++ bv T)) (hne : b ≠ g) : PutAt w g r2 (E ++ T) P s b x (w3.setCell ⟨g, 0, none⟩ (.slice A (r1.n + n2) c')) :=
  ⟨⟨A, r1.n + n2, c'⟩, (H2.put1 hap).1, E2.grown H2.f1 hap.grown hne 0 _, B0.trans (H2.put1 hap).2⟩
theorem ret_len {w : World} {b n c : Nat} {e : TypeId} {A : Option Addr} {l : List UInt8} {m : Nat} (h : Fr w b e A n c (bv l)) (hl : l.length ≤ m) : n ≤ m := by
  have := h.len; simp at this; omega
set_option maxRecDepth 100000 in
set_option maxHeartbeats 4000000 in
theorem wput_c {w : World} {g : Nat} {r1 r2 : Row} {E P : List UInt8} {s : ByteArray} (h : WrAt w g r1 r2 E P s) {x : Ent} (hx : entB x = true) {n : Nat} (hn : n ≤ x.s.size) (hE : E.length ≤ 100000) :
    Calls Try.prog 73 #[.pointer (some ⟨g, 0, none⟩), en x.s x.q x.k x.v, .int .i64 (n : Int)] w (fun e w' => e = .returned (.tuple #[]) ∧ ∃ r1' : Row, WrAt w' g r1' r2 (E ++ entL n x) P x.s ∧ Below g w w') := by
  obtain ⟨p1, p2, p3, p4, p5, p6⟩ := entB_parts hx
  have hlt := h.lt
  have hwg : w.heap.size ≠ g := by omega
  have h0 : WrAt (w.alloc (.cells #[.string x.s, .int .u64 (x.q : Int), .int .u8 (x.k : Int), .string x.v] 45)) g r1 r2 E P s := h.alloc _
  have e0 := EnAt.new w x
  have b0 : Below g w (w.alloc (.cells #[.string x.s, .int .u64 (x.q : Int), .int .u8 (x.k : Int), .string x.v] 45)) := (below_alloc w _).mono (by omega)
  have hn64 : (n : Int) ≤ 64 := by omega
  have hw1 : IntKind.u64.wrap (n : Int) = (n : Int) := by rw [wrapu]; omega
  have hw2 : IntKind.u64.wrap (2 * (x.q : Int)) = 2 * (x.q : Int) := by rw [wrapu]; omega
  have hw3 : IntKind.u64.wrap (x.k : Int) = (x.k : Int) := by rw [wrapu]; omega
  have hw4 : IntKind.u64.wrap (2 * (x.q : Int) + (x.k : Int)) = 2 * (x.q : Int) + (x.k : Int) := by rw [wrapu]; omega
  have hsl := fun W => run_from hn W
  have HP1 := Lib.hid fun W => put_c (w := W) (B := 0) (l := []) Rd.nilv (Nat.zero_le _) (by decide) (n : Int) (by omega) (by omega)
  have HP2 := Lib.hid fun W => putText_c (w := W) (B := 0) (l := []) Rd.nilv (Nat.zero_le _) (by decide) (dropS x.s n) (by rw [dropS_size]; omega)
  have HP3 := Lib.hid fun W => put_c (w := W) (B := 0) (l := []) Rd.nilv (Nat.zero_le _) (by decide) (2 * (x.q : Int) + (x.k : Int)) (by omega) (by omega)
  have HP4 := Lib.hid fun W => putText_c (w := W) (B := 0) (l := []) Rd.nilv (Nat.zero_le _) (by decide) x.v (by omega)
  have n1 : ([] ++ shortL (n : Int).toNat : List UInt8) = shortL n := by rw [Int.toNat_natCast, List.nil_append]
  have n3 : ([] ++ shortL (2 * (x.q : Int) + (x.k : Int)).toNat : List UInt8) = shortL (2 * x.q + x.k) := by rw [List.nil_append, show (2 * (x.q : Int) + (x.k : Int)).toNat = 2 * x.q + x.k by omega]
  simp only [n1] at HP1
  simp only [n3] at HP3
  simp only [List.nil_append] at HP2 HP4
  have HL1 := Lib.hid (shortL_len n)
  have HL2 := Lib.hid (show (textL (dropS x.s n)).length ≤ 80 by have := textL_len' (dropS x.s n); rw [dropS_size] at this; omega)
  have HL3 := Lib.hid (shortL_len (2 * x.q + x.k))
  have HL4 := Lib.hid (show (textL x.v).length ≤ 300 by have := textL_len' x.v; omega)
  have HE := Lib.hid hE
  have HK : x.k = 1 ∨ x.k = 0 := by omega
  have HK := Lib.hid HK
  have HEN := Lib.hid (show entL n x = shortL n ++ (textL (dropS x.s n) ++ (shortL (2 * x.q + x.k) ++ (if x.k = 1 then textL x.v else []))) from rfl)
  clear p1 p2 p3 p4 p5 p6 n1 n3 hE hx hn hn64 h
  unfold en
  go_enter Try.func73, Try.ntmps73
  go_upto_region 1 with (fail)
  generalize hwa : w.alloc (.cells #[.string x.s, .int .u64 (x.q : Int), .int .u8 (x.k : Int), .string x.v] 45) = wa at *
  clear hwa
  go_cut [] from 6 to 16 (fun wx => PutAt w g r2 (E ++ shortL n) P s w.heap.size x wx)
  case first =>
    obtain ⟨x0, x1, x2⟩ := h0.drew.cells
    obtain ⟨y0, y1, y2, y3⟩ := e0.drew.cells
    have hr1 : r1.n ≤ 100000 := ret_len h0.f1 (by have := HE.out; have := HL1.out; have := HL2.out; have := HL3.out; (try simp only [List.length_append]); omega)
    have H0 := Lib.hid h0.drew
    have E0 := Lib.hid e0.drew
    have B0 := Lib.hid (Below.drew b0)
    clear h0 e0 b0
    go_region_law (first
      | (refine step_app rfl (.tmp 10) (.tmp 13) rfl H2.out.f1 (by rfl) (HF2.out.rd (Nat.le_refl _)) (by rfl) (bv_one _) (by omega) H2.out.lt ?_; intro A' c' w3 hap; obtain ⟨⟨z0, z1, z2⟩, t0, t1, t2⟩ := H2.out.far hap.grown H2.out.ne1; have HPA := Lib.hid (PutAt.of (T := shortL n) H2.out E2.out B2.out hap hwg); clear hap)
      | (go_simp; go_at_call 28; refine (HP1.out _).mono ?_; rintro e w2 ⟨A2, n2, c2, rfl, hf2, hb2⟩; have hn2 := ret_len hf2 HL1.out; have H2 := Lib.hid (H0.out.below hb2); have E2 := Lib.hid (E0.out.below hb2); have B2 := Lib.hid (B0.out.trans (hb2.mono (Nat.le_of_lt H0.out.lt))); have HF2 := Lib.hid hf2; obtain ⟨x0, x1, x2⟩ := H2.out.cells; obtain ⟨y0, y1, y2, y3⟩ := E2.out.cells; clear hb2 hf2))
    all_goals (go_wp2_with fail; go_meet; exact HPA.out)
  case rest =>
  obtain ⟨ra, h1, e1, b1⟩ := hcut
  go_upto_region 2 with (fail)
  go_cut [] from 17 to 30 (fun wx => PutAt w g r2 (E ++ shortL n ++ textL (dropS x.s n)) P s w.heap.size x wx)
  case first =>
    obtain ⟨x0, x1, x2⟩ := h1.drew.cells
    obtain ⟨y0, y1, y2, y3⟩ := e1.drew.cells
    have hr1 : ra.n ≤ 100010 := ret_len h1.f1 (by have := HE.out; have := HL1.out; have := HL2.out; have := HL3.out; (try simp only [List.length_append]); omega)
    have H0 := Lib.hid h1.drew
    have E0 := Lib.hid e1.drew
    have B0 := Lib.hid (Below.drew b1)
    clear h1 e1 b1
    go_region_law (first
      | (refine step_app rfl (.tmp 21) (.tmp 27) rfl H2.out.f1 (by rfl) (HF2.out.rd (Nat.le_refl _)) (by rfl) (bv_one _) (by omega) H2.out.lt ?_; intro A' c' w3 hap; obtain ⟨⟨z0, z1, z2⟩, t0, t1, t2⟩ := H2.out.far hap.grown H2.out.ne1; have HPA := Lib.hid (PutAt.of (T := textL (dropS x.s n)) H2.out E2.out B2.out hap hwg); clear hap)
      | (go_simp; go_at_call 56; refine (HP2.out _).mono ?_; rintro e w2 ⟨A2, n2, c2, rfl, hf2, hb2⟩; have hn2 := ret_len hf2 HL2.out; have H2 := Lib.hid (H0.out.below hb2); have E2 := Lib.hid (E0.out.below hb2); have B2 := Lib.hid (B0.out.trans (hb2.mono (Nat.le_of_lt H0.out.lt))); have HF2 := Lib.hid hf2; obtain ⟨x0, x1, x2⟩ := H2.out.cells; obtain ⟨y0, y1, y2, y3⟩ := E2.out.cells; clear hb2 hf2))
    all_goals (go_wp2_with fail; go_meet; exact HPA.out)
  case rest =>
  obtain ⟨rb, h2, e2, b2⟩ := hcut
  go_upto_region 3 with (fail)
  go_cut [] from 31 to 48 (fun wx => PutAt w g r2 (E ++ shortL n ++ textL (dropS x.s n) ++ shortL (2 * x.q + x.k)) P s w.heap.size x wx)
  case first =>
    obtain ⟨x0, x1, x2⟩ := h2.drew.cells
    obtain ⟨y0, y1, y2, y3⟩ := e2.drew.cells
    have hr1 : rb.n ≤ 100090 := ret_len h2.f1 (by have := HE.out; have := HL1.out; have := HL2.out; have := HL3.out; (try simp only [List.length_append]); omega)
    have H0 := Lib.hid h2.drew
    have E0 := Lib.hid e2.drew
    have B0 := Lib.hid (Below.drew b2)
    clear h2 e2 b2
    go_region_law (first
      | (refine step_app rfl (.tmp 35) (.tmp 45) rfl H2.out.f1 (by rfl) (HF2.out.rd (Nat.le_refl _)) (by rfl) (bv_one _) (by omega) H2.out.lt ?_; intro A' c' w3 hap; obtain ⟨⟨z0, z1, z2⟩, t0, t1, t2⟩ := H2.out.far hap.grown H2.out.ne1; have HPA := Lib.hid (PutAt.of (T := shortL (2 * x.q + x.k)) H2.out E2.out B2.out hap hwg); clear hap)
      | (go_simp; go_at_call 28; refine (HP3.out _).mono ?_; rintro e w2 ⟨A2, n2, c2, rfl, hf2, hb2⟩; have hn2 := ret_len hf2 HL3.out; have H2 := Lib.hid (H0.out.below hb2); have E2 := Lib.hid (E0.out.below hb2); have B2 := Lib.hid (B0.out.trans (hb2.mono (Nat.le_of_lt H0.out.lt))); have HF2 := Lib.hid hf2; obtain ⟨x0, x1, x2⟩ := H2.out.cells; obtain ⟨y0, y1, y2, y3⟩ := E2.out.cells; clear hb2 hf2))
    all_goals (go_wp2_with fail; go_meet; exact HPA.out)
  case rest =>
  obtain ⟨rc, h3, e3, b3⟩ := hcut
  obtain ⟨y0, y1, y2, y3⟩ := e3.cells
  rcases HK.out with hk | hk
  · have d1 : ((x.k : Int) == 1) = true := by simp; omega
    have HK1 := Lib.hid hk
    clear hk
    have H3 := Lib.hid h3
    have E3 := Lib.hid e3
    have B3 := Lib.hid b3
    clear h3 e3 b3
    go_upto_region 5 with (fail)
    have h3 := H3.out
    have e3 := E3.out
    have b3 := B3.out
    clear y0 y1 y2 y3
    go_cut [] from 53 to 63 (fun wx => PutAt w g r2 (E ++ shortL n ++ textL (dropS x.s n) ++ shortL (2 * x.q + x.k) ++ textL x.v) P s w.heap.size x wx)
    case first =>
      obtain ⟨x0, x1, x2⟩ := h3.drew.cells
      obtain ⟨y0, y1, y2, y3⟩ := e3.drew.cells
      have hr1 : rc.n ≤ 100100 := ret_len h3.f1 (by have := HE.out; have := HL1.out; have := HL2.out; have := HL3.out; (try simp only [List.length_append]); omega)
      have H0 := Lib.hid h3.drew
      have E0 := Lib.hid e3.drew
      have B0 := Lib.hid (Below.drew b3)
      clear h3 e3 b3
      go_region_law (first
        | (refine step_app rfl (.tmp 57) (.tmp 60) rfl H2.out.f1 (by rfl) (HF2.out.rd (Nat.le_refl _)) (by rfl) (bv_one _) (by omega) H2.out.lt ?_; intro A' c' w3 hap; obtain ⟨⟨z0, z1, z2⟩, t0, t1, t2⟩ := H2.out.far hap.grown H2.out.ne1; have HPA := Lib.hid (PutAt.of (T := textL x.v) H2.out E2.out B2.out hap hwg); clear hap)
        | (go_simp; go_at_call 56; refine (HP4.out _).mono ?_; rintro e w2 ⟨A2, n2, c2, rfl, hf2, hb2⟩; have hn2 := ret_len hf2 HL4.out; have H2 := Lib.hid (H0.out.below hb2); have E2 := Lib.hid (E0.out.below hb2); have B2 := Lib.hid (B0.out.trans (hb2.mono (Nat.le_of_lt H0.out.lt))); have HF2 := Lib.hid hf2; obtain ⟨x0, x1, x2⟩ := H2.out.cells; obtain ⟨y0, y1, y2, y3⟩ := E2.out.cells; clear hb2 hf2))
      all_goals (go_wp2_with fail; go_meet; exact HPA.out)
    case rest =>
    obtain ⟨rd, h4, e4, b4⟩ := hcut

    obtain ⟨y0, y1, y2, y3⟩ := e4.cells
    obtain ⟨x0, x1, x2⟩ := h4.cells
    obtain ⟨z0, z1, z2⟩ := h4.frozen
    have HF := Lib.hid (h4.put3 x.s)
    have HB := Lib.hid b4
    clear h4 e4 b4
    go_wp2_with fail
    first | refine bodyPost_end (results_none rfl _ _ _) rfl ?_ | refine bodyPost_ret (results_none rfl _ _ _) rfl ?_
    refine ⟨rfl, rd, ?_, HB.out.trans HF.out.2⟩
    have hf := HF.out.1
    rw [HEN.out, if_pos HK1.out]
    simpa only [List.append_assoc] using hf
  · have d1 : ((x.k : Int) == 1) = false := by simp; omega
    have HK1 := Lib.hid hk
    clear hk y0 y1 y2 y3
    obtain ⟨y0, y1, y2, y3⟩ := e3.cells
    obtain ⟨x0, x1, x2⟩ := h3.cells
    obtain ⟨z0, z1, z2⟩ := h3.frozen
    have HF := Lib.hid (h3.put3 x.s)
    have HB := Lib.hid b3
    clear h3 e3 b3
    go_wp2_with fail
    first | refine bodyPost_end (results_none rfl _ _ _) rfl ?_ | refine bodyPost_ret (results_none rfl _ _ _) rfl ?_
    refine ⟨rfl, rc, ?_, HB.out.trans HF.out.2⟩
    have hf := HF.out.1
    rw [HEN.out, if_neg (by rw [HK1.out]; decide)]
    simpa only [List.append_assoc, List.append_nil] using hf
end Go.Proofs.Ytkdjjdkcogolmaa
