/-
  What entries are as a block, what bytes say, and what is sought, is exactly as the document defines. No condition.
-/
import Derived.Test.YtfbmphaabdhphaaRows
import Derived.Test.YtfbmphaabdhphaaR5
import Derived.WalkKit
import Derived.ProofKit
import Derived.OpenShut
import Derived.ShutString
import Derived.ChangeOld
import Derived.Below
namespace Go.Proofs.Ytfbmphaabdhphaa.blockTells
set_option maxRecDepth 100000
open Go.ChangeShapes Go.WideShapes Go.ChangeAt Go.RowKit
open Go.ChangeMaps (open_string shut_string)
set_option linter.unusedVariables false

theorem own : ownKnob Try.prog.godebug = none := by kernel_rfl
theorem laidOut : laidOutB Try.prog = true := by kernel_rfl

open Go.Shelf
theorem few_n {L : List Ent} {n : Nat} (hl : L.length = n) (h : fewB L 70 = true) : n ≤ 70 := by
  unfold fewB at h
  simp only [Bool.and_eq_true, decide_eq_true_eq] at h
  omega
theorem bldL_len (L : List Ent) : (bldL L).length ≤ 24000 := by
  unfold bldL
  split
  · next h => exact blkL_len h
  · simp
/-- Two rows of bytes beside each other. -/
structure TwoB (w : World) (g : Nat) (A1 : Option Addr) (n1 c1 : Nat) (l1 : List UInt8) (A2 : Option Addr) (n2 c2 : Nat) (l2 : List UInt8) : Prop where
  lt : g < w.heap.size
  h : w.heap[g]? = some (.cells #[.slice A1 n1 c1, .slice A2 n2 c2] 23 (0, 0))
  r1 : Rd w w.heap.size A1 n1 c1 (bv l1)
  r2 : Rd w w.heap.size A2 n2 c2 (bv l2)
section
variable {w w' : World} {g n1 c1 n2 c2 : Nat} {A1 A2 : Option Addr} {l1 l2 : List UInt8}
theorem TwoB.now (h : TwoB w g A1 n1 c1 l1 A2 n2 c2 l2) (hb : Below w.heap.size w w') : TwoB w' g A1 n1 c1 l1 A2 n2 c2 l2 :=
  ⟨by have := h.lt; have := hb.size; omega, by rw [hb.block g h.lt]; exact h.h, h.r1.now hb, h.r2.now hb⟩
theorem TwoB.at_ (h : TwoB w g A1 n1 c1 l1 A2 n2 c2 l2) {k : Nat} (hk : k < 2) : ∃ (A : Option Addr) (n c : Nat) (l : List UInt8), w.cell? ⟨g, k, none⟩ = some (.slice A n c) ∧ Rd w w.heap.size A n c (bv l) ∧ (n = n1 ∨ n = n2) := by
  have h2 : k = 0 ∨ k = 1 := by omega
  rcases h2 with rfl | rfl
  · exact ⟨A1, n1, c1, l1, by simp only [World.cell?, h.h]; rfl, h.r1, .inl rfl⟩
  · exact ⟨A2, n2, c2, l2, by simp only [World.cell?, h.h]; rfl, h.r2, .inr rfl⟩
end

set_option maxRecDepth 100000 in
set_option maxHeartbeats 8000000 in
theorem walk (A0 : Option Addr) (n0 c0 : Nat) (L0 : List Ent) (A1 : Option Addr) (n1 c1 : Nat) (l1 : List UInt8) (s2 : ByteArray) (q2 k2 : Nat) (w : World) (r0 : RdE w w.heap.size A0 n0 c0 L0) (o0 : ∀ x ∈ L0, EntOk x) (w1 : l1.length = n1) (r1 : Rd w w.heap.size A1 n1 c1 (bv l1)) (w2 : s2.size ≤ maxLen) (x2 : (q2 : Int) ≤ 18446744073709551615) (y2 : (k2 : Int) ≤ 255) :
    Calls Try.prog 3 #[.slice A0 n0 c0, .slice A1 n1 c1, ik s2 q2 k2] w fun e w' => e = .returned (.bool true) ∧ Below w.heap.size w w' := by
  unfold ik
  have i0 := IkAt.new w s2 q2 k2
  have rr := r0.now (below_alloc w (.cells #[.string s2, .int .u64 (q2 : Int), .int .u8 (k2 : Int)] 26))
  have rb := r1.now (below_alloc w (.cells #[.string s2, .int .u64 (q2 : Int), .int .u8 (k2 : Int)] 26))
  have g0 := below_alloc w (.cells #[.string s2, .int .u64 (q2 : Int), .int .u8 (k2 : Int)] 26)
  have hl0 := r0.len
  have HL0 := Lib.hid hl0
  have HL1 := Lib.hid w1
  clear r0 o0 r1 w1 w2 x2 y2 hl0
  go_enter Try.func3, Try.ntmps3
  go_upto_region 1 with (fail)
  generalize hwa : w.alloc (.cells #[.string s2, .int .u64 (q2 : Int), .int .u8 (k2 : Int)] 26) = wa at *
  generalize hgk : w.heap.size = gk at i0 ⊢
  clear hwa
  obtain ⟨a0, a1, a2⟩ := i0.cells
  go_wp2_with fail
  refine (few_c rr (Nat.le_refl _) 70).mono ?_
  rintro e w2 ⟨rfl, hb2⟩
  replace rr := rr.now hb2
  replace rb := rb.now hb2
  replace i0 := i0.below hb2 (Nat.le_refl _)
  replace g0 := bon g0 hb2
  clear hb2 a0 a1 a2
  obtain ⟨a0, a1, a2⟩ := i0.cells
  cases hfew : fewB L0 70 with
  | false =>
    have G0 := Lib.hid g0
    clear g0 rr rb i0 hfew
    go_wp2_with fail
    refine (awake7_c _).mono ?_
    rintro e w99 ⟨rfl, hb99⟩
    go_wp2_with fail
    go_ret
    exact ⟨rfl, bon G0.out hb99⟩
  | true =>
  have hn := few_n HL0.out hfew
  clear hfew
  by_cases hrl : 1000 < n1
  · have d1 : decide ((1000 : Int) < (n1 : Int)) = true := by simp; omega
    have d1' : decide (1000 < n1) = true := by simpa using hrl
    have G0 := Lib.hid g0
    clear g0 rr rb i0 hrl
    go_wp2_with fail
    refine (awake7_c _).mono ?_
    rintro e w99 ⟨rfl, hb99⟩
    go_wp2_with fail
    go_ret
    exact ⟨rfl, bon G0.out hb99⟩
  have d1 : decide ((1000 : Int) < (n1 : Int)) = false := by simp; omega
  have d1' : decide (1000 < n1) = false := by simpa using hrl
  by_cases hks : 70 < s2.size
  · have d2 : decide ((70 : Int) < (s2.size : Int)) = true := by simp; omega
    have d2' : decide (70 < s2.size) = true := by simpa using hks
    have G0 := Lib.hid g0
    clear g0 rr rb i0 hks
    go_wp2_with fail
    refine (awake7_c _).mono ?_
    rintro e w99 ⟨rfl, hb99⟩
    go_wp2_with fail
    go_ret
    exact ⟨rfl, bon G0.out hb99⟩
  have d2 : decide ((70 : Int) < (s2.size : Int)) = false := by simp; omega
  have d2' : decide (70 < s2.size) = false := by simpa using hks
  have hn1 : n1 ≤ 1000 := by omega
  have HB := Lib.hid (build_c rr (Nat.le_refl _) (by omega))
  have HBL := Lib.hid (bldL_len L0)
  have RR := Lib.hid rr
  have RB := Lib.hid rb
  have I0 := Lib.hid i0
  have G0 := Lib.hid g0
  clear rr rb i0 g0 hrl hks
  go_wp2_with fail
  refine HB.out.mono ?_
  rintro e w5 ⟨A5, n5, c5, rfl, hf5, hb5⟩
  have HB2 := Lib.hid (refBuild_c (RR.out.now hb5) (Nat.le_refl _) (by omega))
  have R5 := Lib.hid (hf5.rd (Nat.le_refl _))
  have RB2 := Lib.hid (RB.out.now hb5)
  have I2 := Lib.hid (I0.out.below hb5 (Nat.le_refl _))
  have G2 := Lib.hid (bon G0.out hb5)
  clear hf5 hb5 HB RR RB I0 G0 a0 a1 a2
  go_wp2_with fail
  refine HB2.out.mono ?_
  rintro e w6 ⟨A6, n6, c6, rfl, hf6, hb6⟩
  have hn6 : n6 ≤ 24000 := ret_len hf6 HBL.out
  have R6 := Lib.hid (hf6.rd (Nat.le_refl _))
  have R5b := Lib.hid (R5.out.now hb6)
  have HP := Lib.hid (parse_c (RB2.out.now hb6) (Nat.le_refl _) (by omega))
  have RB3 := Lib.hid (RB2.out.now hb6)
  have I3 := Lib.hid (I2.out.below hb6 (Nat.le_refl _))
  have G3 := Lib.hid (bon G2.out hb6)
  clear hf6 hb6 HB2 R5 RB2 I2 G2
  go_wp2_with fail
  refine HP.out.mono ?_
  rintro e w7 ⟨A7, n7, c7, rfl, hf7, hb7⟩
  have h7 : n7 ≤ 64 := by
    have := hf7.len
    have h8 : (prsL l1).length ≤ 64 := by
      by_cases hE : prsE l1 = 0
      · exact (blkB_iff.1 (prs_block hE)).2.1
      · rw [(prs_none hE).1]; simp
    omega
  have R7 := Lib.hid (hf7.rd (Nat.le_refl _))
  have R6b := Lib.hid (R6.out.now hb7)
  have R5c := Lib.hid (R5b.out.now hb7)
  have HP2 := Lib.hid (refParse_c (RB3.out.now hb7) (by omega))
  have RB4 := Lib.hid (RB3.out.now hb7)
  have I4 := Lib.hid (I3.out.below hb7 (Nat.le_refl _))
  have G4 := Lib.hid (bon G3.out hb7)
  clear hf7 hb7 HP R6 R5b RB3 I3 G3
  go_wp2_with fail
  refine HP2.out.mono ?_
  rintro e w8 ⟨A8, n8, c8, rfl, hf8, hb8⟩
  have h8 : n8 ≤ 64 := by have := hf8.len; have := R7.out.len; omega
  have HSE := Lib.hid (sameE_c (R7.out.now hb8) (hf8.rd (Nat.le_refl _)) (by omega) (by omega))
  have hse : sameEs (prsL l1) (prsL l1) = true := sameEs_iff.2 rfl
  rw [hse] at HSE
  have HS := Lib.hid (same_t (R5c.out.now hb8) (R6b.out.now hb8) rfl)
  have R6c := Lib.hid (R6b.out.now hb8)
  have RB5 := Lib.hid (RB4.out.now hb8)
  have I5 := Lib.hid (I4.out.below hb8 (Nat.le_refl _))
  have G5 := Lib.hid (bon G4.out hb8)
  obtain ⟨E1, hE1⟩ : ∃ E1, bldE L0 = E1 := ⟨_, rfl⟩
  obtain ⟨E2, hE2⟩ : ∃ E2, prsE l1 = E2 := ⟨_, rfl⟩
  rw [hE1, hE2]
  have o1 : (E1 != E1) = false := by simp
  have o2 : (E2 != E2) = false := by simp
  clear hf8 hb8 HP2 R7 R6b R5c RB4 I4 G4 hse hE1 hE2
  go_wp2_with fail
  refine HS.out.mono ?_
  rintro e w9 ⟨rfl, rfl⟩
  go_wp2_with fail
  refine HSE.out.mono ?_
  intro e w10 hq
  obtain ⟨rfl, hb10⟩ := hq.below
  have tw : TwoB (w10.alloc (.cells #[.slice A1 n1 c1, .slice A6 n6 c6] 23)) w10.heap.size A1 n1 c1 l1 A6 n6 c6 (bldL L0) :=
    ⟨by simp, heap_alloc_new w10 _, (RB5.out.now hb10).now (below_alloc w10 _), (R6c.out.now hb10).now (below_alloc w10 _)⟩
  have bb : Below w8.heap.size w8 (w10.alloc (.cells #[.slice A1 n1 c1, .slice A6 n6 c6] 23)) := blit hb10 _
  have I6 := Lib.hid (I5.out.below bb (Nat.le_refl _))
  have G6 := Lib.hid (bon G5.out bb)
  obtain ⟨gt, hgt⟩ : ∃ gt, w10.heap.size = gt := ⟨_, rfl⟩
  rw [hgt] at tw
  have TW := Lib.hid tw
  clear hb10 hq bb tw HSE HS R6c RB5 I5 G5
  go_wp2_with fail
  go_loopw [82] (fun iv wr => ∃ k : Nat, iv = .int .i64 (k : Int) ∧ k ≤ 2 ∧ TwoB wr gt A1 n1 c1 l1 A6 n6 c6 (bldL L0) ∧ IkAt wr gk s2 q2 k2 ∧ Below w.heap.size w wr) (fun iv _ => ((2 : Int) - intOf iv).toNat)
  case atStart => exact ⟨0, rfl, by omega, TW.out, I6.out, G6.out⟩
  case round =>
    clear TW I6 G6 hgt
    obtain ⟨k, rfl, hk2, tw, i0, g0⟩ := hrel
    by_cases hlt : k < 2
    · obtain ⟨Ax, nx, cx, lx, z0, rx, hnx⟩ := tw.at_ hlt
      have hnx2 : nx ≤ 24000 := by omega
      have hki : (k : Int) < 2 := by omega
      have hk0 : (0 : Int) ≤ (k : Int) := by omega
      obtain ⟨X, hX⟩ : ∃ X, skV lx s2 q2 k2 = X := ⟨_, rfl⟩
      obtain ⟨ok, hok⟩ : ∃ ok, skB lx s2 q2 k2 = ok := ⟨_, rfl⟩
      obtain ⟨E, hE⟩ : ∃ E, prsE lx = E := ⟨_, rfl⟩
      have HS1 := Lib.hid (seek_t rx (Nat.le_refl _) (by omega) s2 q2 k2 hX hok hE)
      have HS2 := fun W (hW : Below wr.heap.size wr W) => refSeek_c (rx.now hW) (by omega) s2 q2 k2
      simp only [hX, hok, hE] at HS2
      unfold ik at HS1 HS2
      have HS2 := Lib.hid HS2
      obtain ⟨a0, a1, a2⟩ := i0.cells
      have I0 := Lib.hid i0
      have TW := Lib.hid tw
      have G0 := Lib.hid g0
      clear hX hok hE hnx rx i0 tw g0
      go_wp2_with fail
      refine HS1.out.mono ?_
      rintro e w11 ⟨rfl, hb11⟩
      unfold en
      have bb : Below wr.heap.size wr (w11.alloc (.cells #[.string X.s, .int .u64 (X.q : Int), .int .u8 (X.k : Int), .string X.v] 38)) := blit hb11 _
      have z11 := EnAt.new w11 X
      have i1 := I0.out.below bb (Nat.le_refl _)
      have BB := Lib.hid bb
      clear hb11 HS1 z0 a0 a1 a2 bb
      go_upto_region 13 with (fail)
      generalize hwb : w11.alloc (.cells #[.string X.s, .int .u64 (X.q : Int), .int .u8 (X.k : Int), .string X.v] 38) = wb at *
      generalize hg1 : w11.heap.size = bx at *
      clear hwb hg1
      obtain ⟨a0, a1, a2⟩ := i1.cells
      have HS3 := Lib.hid (HS2.out wb BB.out)
      have Z11 := Lib.hid z11
      clear i1 z11 HS2
      go_wp2_with fail
      refine HS3.out.mono ?_
      rintro e w12 ⟨rfl, hb12⟩
      unfold en
      have bc : Below wb.heap.size wb (w12.alloc (.cells #[.string X.s, .int .u64 (X.q : Int), .int .u8 (X.k : Int), .string X.v] 38)) := blit hb12 _
      have z12 := EnAt.new w12 X
      have z11 := Z11.out.below bc
      have b2 : Below wr.heap.size wr (w12.alloc (.cells #[.string X.s, .int .u64 (X.q : Int), .int .u8 (X.k : Int), .string X.v] 38)) := bon BB.out bc
      have I2 := Lib.hid (I0.out.below b2 (Nat.le_refl _))
      have TW2 := Lib.hid (TW.out.now b2)
      have G2 := Lib.hid (bon G0.out b2)
      clear hb12 HS3 Z11 a0 a1 a2 bc b2 BB I0 TW G0
      go_upto_region 14 with (fail)
      generalize hwc : w12.alloc (.cells #[.string X.s, .int .u64 (X.q : Int), .int .u8 (X.k : Int), .string X.v] 38) = wc at *
      generalize hg2 : w12.heap.size = by2 at *
      clear hwc hg2
      obtain ⟨x0, x1, x2, x3⟩ := z11.cells
      obtain ⟨y0, y1, y2, y3⟩ := z12.cells
      have EQ := fun W => run_same_en (x := X) (y := X) rfl W
      unfold en at EQ
      have o1 : (ok != ok) = false := by simp
      have o2 : (E != E) = false := by simp
      clear z11 z12
      go_wp2_with fail
      go_roundw
      case rel => exact ⟨k + 1, by simp, by omega, TW2.out, I2.out, G2.out⟩
      case measure => simp [intOf]; omega
    · have hki : ¬ (k : Int) < 2 := by omega
      have G0 := Lib.hid g0
      clear tw i0 g0
      go_wp2_with fail
      refine (awake7_c _).mono ?_
      rintro e w99 ⟨rfl, hb99⟩
      go_wp2_with fail
      go_ret
      exact ⟨rfl, bon G0.out hb99⟩

set_option maxRecDepth 100000 in
theorem lifted (os : Os) (started : os.Started) (H : Type) (enc : TypeId × Value → H) :
    ReturnsInHanded {} Try.checked os 3 .any (Rows.blockTellsSpec.pre6 enc Try.prog Try.f3 Rows.blockTellsRow.domain false) (Rows.blockTellsSpec.post enc Try.prog Try.f3 false true false false) := by
  refine returnsInHanded_of_change (C := Try.checked) own started (by kernel_rfl) Try.func3
    (ChangeSpec.witness6 (enc := enc) (C := Try.checked) false ⟨#[], #[.slice none 0 0, .slice none 0 0, .agg #[.string ByteArray.empty, .int .u64 0, .int .u8 0]], []⟩ 8 (by kernel_rfl) (by kernel_rfl) (by kernel_rfl) (by kernel_rfl)) ?_
  intro W base args ds gs before hval0 hW hcnd _
  have hval : ∀ (j : Nat) t v, Try.f3.params[j]? = some t → args[j]? = some v → Value.okWide Try.prog W .any base t v := hval0
  have hW' := hW
  obtain ⟨p, q, hA0, hV, rfl, hfz, hnd⟩ := hW
  have hA : DataW.TrodAll enc Try.prog W 0 (fun _ => true) true Try.f3.params.toList args.toList ds p := hA0
  rw [Try.params3] at hA hval
  obtain ⟨v0, vs0, d0, ds0, p0, q0_, hargs, rfl, rfl, h0, r0_⟩ := trodAll_cons hA
  obtain ⟨v1, vs1, d1, ds1, p1, q1_, rfl, rfl, rfl, h1, r1_⟩ := trodAll_cons r0_
  obtain ⟨v2, vs2, d2, ds2, p2, q2_, rfl, rfl, rfl, h2, r2_⟩ := trodAll_cons r1_
  obtain ⟨rfl, rfl, rfl⟩ := trodAll_nil r2_
  obtain rfl : args = #[v0, v1, v2] := by cases args; simp_all
  obtain ⟨rfl, rfl⟩ := trodVars_none hV
  have kk0 := h0
  have lt0 : ∀ x ∈ p0, x.block < W.heap.size := by obtain ⟨m, hm⟩ := kk0; exact DataW.trod_lt m _ _ _ hm
  have kk1 := h1
  have lt1 : ∀ x ∈ p1, x.block < W.heap.size := by obtain ⟨m, hm⟩ := kk1; exact DataW.trod_lt m _ _ _ hm
  have kk2 := h2
  have lt2 : ∀ x ∈ p2, x.block < W.heap.size := by obtain ⟨m, hm⟩ := kk2; exact DataW.trod_lt m _ _ _ hm
  obtain ⟨A0, n0, c0, L0, e0, r0, o0⟩ := open_ents h0 (hval 0 _ v0 rfl rfl)
  subst e0
  obtain ⟨A1, n1, c1, l1, e1, w1, r1⟩ := open_bytes h1 (hval 1 _ v1 rfl rfl)
  subst e1
  obtain ⟨s2, q2, k2, e2, w2, x2, y2⟩ := open_ik (hval 2 _ v2 rfl rfl) h2
  subst e2
  clear hA0 hval0
  refine (walk A0 n0 c0 L0 A1 n1 c1 l1 s2 q2 k2 W r0 o0 w1 r1 w2 x2 y2).mono fun e W' ⟨he, bel⟩ => ?_
  subst he
  exact ⟨_, rfl, _, _, _, [], _, [], hW', trodAll_mk1 (shut_bool Try.underlying4 _), (trodAll_cons_mk (Below.trod laidOut (by kernel_rfl) (of_decide_eq_true (by kernel_rfl)) kk0 bel lt0) (trodAll_cons_mk (Below.trod laidOut (by kernel_rfl) (of_decide_eq_true (by kernel_rfl)) kk1 bel lt1) (trodAll_cons_mk (Below.trod laidOut (by kernel_rfl) (of_decide_eq_true (by kernel_rfl)) kk2 bel lt2) trodAll_mk0))), rfl, bel.frame _, fun h => by cases h⟩

theorem over : Rows.blockTellsRow.holds Try.pinned (OpenSpec.ofChange Rows.blockTellsSpec) :=
  OpenClaim.holds_of_wide 3 Try.f3 rfl rfl rfl rfl rfl rfl rfl ⟨rfl, rfl, rfl, rfl, rfl⟩ rfl rfl rfl rfl rfl (by kernel_rfl) Try.func3 (by kernel_rfl)
    (of_decide_eq_true (by kernel_rfl)) (by unfold Func.isWrapper; first | (rw [if_pos (by decide +kernel)]; kernel_rfl) | (rw [if_neg (by decide +kernel)]; exact ⟨rfl, rfl⟩))
    (fun os started H enc _ => lifted os started H enc)

/-- The statement. -/
theorem proved : Rows.BlockTellsSaid := over
#print axioms proved
end Go.Proofs.Ytfbmphaabdhphaa.blockTells
