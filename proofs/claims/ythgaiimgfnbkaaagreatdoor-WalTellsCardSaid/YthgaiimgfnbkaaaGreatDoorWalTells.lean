/-
  WalTells: logs' names and numbers, what records are as bytes, and what is read of a log, is as the reference says. The package variables of the library that are read hold what their own initialisers lay.
-/
import Derived.Test.YthgaiimgfnbkaaaGreatDoorV6
import Derived.Test.YthgaiimgfnbkaaaGreatDoorCards
import Derived.Test.YthgaiimgfnbkaaaGreatDoorTie
import Derived.WalkKit
import Derived.ProofKit
import Derived.OpenShut
import Derived.ShutString
import Derived.ChangeOld
import Derived.Below
import Derived.Deep.DeepHandedRow
namespace Go.Proofs.YthgaiimgfnbkaaaGreatDoor.walTells
set_option maxRecDepth 100000
open Go.ChangeShapes Go.WideShapes Go.ChangeAt Go.RowKit
open Go.ChangeMaps (open_string shut_string)
set_option linter.unusedVariables false
set_option maxRecDepth 100000

theorem own : ownKnob Tryz.prog.godebug = none := by kernel_rfl
theorem laidOut : laidOutB Tryz.prog = true := by kernel_rfl

theorem few_x (x : WR) : fewW [x] 1 = fewB x.L 140 := by unfold fewW; simp
theorem rec_recs {w : World} {g : Nat} {x : WR} (h : RecAt w g x.q x.A x.n x.c) (r : RdO w w.heap.size x.A x.n x.c x.L) : Recs w (some ⟨g, 0, none⟩) 1 1 [x] :=
  ⟨FrW.here (b := 0) ⟨⟨rfl, .inr ⟨g, 1, #[.int .u64 (x.q : Int), .slice x.A x.n x.c], rfl, Nat.zero_le _, h.h, Nat.le_refl _, by decide, rfl, rfl⟩⟩⟩, fun y hy => by
    simp only [List.mem_singleton] at hy
    subst hy
    exact r⟩
theorem rd_recs {w : World} {b n c u : Nat} {A : Option Addr} {R : List WR} {l : List UInt8} (h : RecsF w b A n c R) (hi : IsRead l (recsOf R) u) : Recs w A n c R ∧ ∀ x ∈ R, (x.n : Int) ≤ 70368744000000 :=
  ⟨⟨h.fr.here, fun x hx => (h.ops x hx).here⟩, fun x hx => by
    have h3 := chain_mem hi.ch x.r (List.mem_map.2 ⟨x, hx, rfl⟩)
    have h4 := (grpB_iff.1 (recB_iff.1 h3).1).2.1
    have h5 := (h.ops x hx).len
    have h6 : x.r.2.length = x.n := h5
    omega⟩
theorem rd_few {l : List UInt8} {R : List WR} {u n : Nat} (hi : IsRead l (recsOf R) u) (hl : l.length = n) : 8 * R.length ≤ n := by
  have h1 := (catW_len hi.ch).1
  have h2 := hi.len
  have h3 := hi.le
  rw [recsOf_len] at h1
  omega
theorem two_same (w : World) (x : WR) : RecAt ((w.alloc (.cells #[.int .u64 (x.q : Int), .slice x.A x.n x.c] 25)).alloc (.cells #[.int .u64 (x.q : Int), .slice x.A x.n x.c] 25)) w.heap.size x.q x.A x.n x.c ∧ RecAt ((w.alloc (.cells #[.int .u64 (x.q : Int), .slice x.A x.n x.c] 25)).alloc (.cells #[.int .u64 (x.q : Int), .slice x.A x.n x.c] 25)) (w.heap.size + 1) x.q x.A x.n x.c ∧ Below w.heap.size w ((w.alloc (.cells #[.int .u64 (x.q : Int), .slice x.A x.n x.c] 25)).alloc (.cells #[.int .u64 (x.q : Int), .slice x.A x.n x.c] 25)) := by
  have h := RecAt.new (w.alloc (.cells #[.int .u64 (x.q : Int), .slice x.A x.n x.c] 25)) x.q x.A x.n x.c
  rw [World.size_alloc] at h
  exact ⟨(RecAt.new w x.q x.A x.n x.c).alloc _, h, blit (below_alloc w _) _⟩

set_option maxHeartbeats 8000000 in
theorem walk (a0 : Nat) (a1 : ByteArray) (x2 : WR) (A3 : Option Addr) (n3 c3 : Nat) (l3 : List UInt8) (w : World) (w0 : (a0 : Int) ≤ 18446744073709551615) (w1 : a1.size ≤ maxLen) (q2 : (x2.q : Int) ≤ 18446744073709551615) (r2 : RdO w w.heap.size x2.A x2.n x2.c x2.L) (w3 : l3.length = n3) (r3 : Rd w w.heap.size A3 n3 c3 (bv l3)) (hv : Vars w) :
    Calls Tryz.prog 3 #[.int .u64 (a0 : Int), .string a1, wrv x2, .slice A3 n3 c3] w fun e w' => e = .returned (.bool true) ∧ Below w.heap.size w w' := by
  have HW3 := Lib.hid w3
  have HR3 := Lib.hid r3
  have HR2 := Lib.hid r2
  clear w3 r3 r2
  unfold wrv
  by_cases hlen : 60 < a1.size
  · have d1 : decide ((60 : Int) < (a1.size : Int)) = true := by simp; omega
    have d2 : decide (60 < a1.size) = true := by simpa using hlen
    have hb0 := below_alloc w (.cells #[.int .u64 (x2.q : Int), .slice x2.A x2.n x2.c] 25)
    have hv0 := hv.now hb0
    clear hlen
    go_enter Tryz.func3, Tryz.ntmps3
    go_wp2_with fail
    refine (awake6_c hv0).mono ?_
    rintro e w99 ⟨rfl, hb99⟩
    go_wp2_with fail
    go_ret
    exact ⟨rfl, bon hb0 hb99⟩
  have d1 : decide ((60 : Int) < (a1.size : Int)) = false := by simp; omega
  have d2 : decide (60 < a1.size) = false := by simpa using hlen
  have hni : (a1.size : Int) ≤ 60 := by omega
  have HA1 := Lib.hid (show a1.size ≤ 60 by omega)
  obtain ⟨ra, rb, g0⟩ := two_same w x2
  have hb0 := below_alloc w (.cells #[.int .u64 (x2.q : Int), .slice x2.A x2.n x2.c] 25)
  obtain ⟨y0, y1⟩ := (RecAt.new w x2.q x2.A x2.n x2.c).cells
  obtain ⟨W1, hW1⟩ : ∃ W1, (w.alloc (.cells #[.int .u64 (x2.q : Int), .slice x2.A x2.n x2.c] 25)).alloc (.cells #[.int .u64 (x2.q : Int), .slice x2.A x2.n x2.c] 25) = W1 := ⟨_, rfl⟩
  rw [hW1] at ra rb g0
  have HW1 := Lib.hid hW1
  have s2 := HR2.out.now g0
  have HF := Lib.hid (fewW_c (rec_recs rb s2) 1)
  rw [few_x] at HF
  have hv1 := hv.now g0
  have HV1 := Lib.hid hv1
  clear hW1 hlen hv hv1 rb hb0
  cases hfb : fewB x2.L 140 with
  | false =>
    rw [hfb] at HF
    clear hfb ra s2
    go_enter Tryz.func3, Tryz.ntmps3
    go_wp2_with fail
    rw [HW1.out]
    refine HF.out.mono ?_
    rintro e w1 ⟨rfl, hb1⟩
    have hv := HV1.out.now hb1
    replace g0 := bon g0 hb1
    clear hb1 HF HV1 HW1
    go_wp2_with fail
    refine (awake6_c hv).mono ?_
    rintro e w99 ⟨rfl, hb99⟩
    go_wp2_with fail
    go_ret
    exact ⟨rfl, bon g0 hb99⟩
  | true =>
    rw [hfb] at HF
    have hx140 : (x2.n : Int) ≤ 140 := by
      unfold fewB at hfb
      simp only [Bool.and_eq_true, decide_eq_true_eq] at hfb
      rw [s2.len] at hfb
      exact hfb.2
    clear hfb
    by_cases h1000 : 1000 < n3
    · have e1 : decide ((1000 : Int) < (n3 : Int)) = true := by simp; omega
      have e2 : decide (1000 < n3) = true := by simp; omega
      clear ra s2 h1000
      go_enter Tryz.func3, Tryz.ntmps3
      go_wp2_with fail
      rw [HW1.out]
      refine HF.out.mono ?_
      rintro e w1 ⟨rfl, hb1⟩
      have hv := HV1.out.now hb1
      replace g0 := bon g0 hb1
      clear hb1 HF HV1 HW1
      go_wp2_with fail
      refine (awake6_c hv).mono ?_
      rintro e w99 ⟨rfl, hb99⟩
      go_wp2_with fail
      go_ret
      exact ⟨rfl, bon g0 hb99⟩
    have e1 : decide ((1000 : Int) < (n3 : Int)) = false := by simp; omega
    have e2 : decide (1000 < n3) = false := by simp; omega
    have hn3 : (n3 : Int) ≤ 1000 := by omega
    clear h1000
    go_enter Tryz.func3, Tryz.ntmps3
    go_wp2_with fail
    rw [HW1.out]
    refine HF.out.mono ?_
    rintro e w1 ⟨rfl, hb1⟩
    have hv := HV1.out.now hb1
    replace g0 := bon g0 hb1
    replace ra := ra.below hb1 (Nat.le_refl _)
    replace s2 := s2.now hb1
    clear hb1 HF HV1 HW1 y0 y1
    go_wp2_with fail
    refine (number_c hv a1 (by have := HA1.out; omega)).mono ?_
    rintro e w2 ⟨m, is, rfl, hm1, hb2⟩
    replace hv := hv.now hb2
    replace g0 := bon g0 hb2
    replace ra := ra.below hb2 (Nat.le_refl _)
    replace s2 := s2.now hb2
    clear hb2
    have HM1 := Lib.hid hm1
    clear hm1
    go_wp2_with fail
    refine (refNumber_c w2 a1 HA1.out).mono ?_
    rintro e w3 ⟨m2, is2, rfl, hm2, hb3⟩
    obtain ⟨rfl, rfl⟩ := hm2.one HM1.out
    replace hv := hv.now hb3
    replace g0 := bon g0 hb3
    replace ra := ra.below hb3 (Nat.le_refl _)
    replace s2 := s2.now hb3
    clear hb3 hm2 HM1
    obtain ⟨y0, y1⟩ := ra.cells
    obtain ⟨lb, hlb⟩ : ∃ lb, walL x2.q x2.L = lb := ⟨_, rfl⟩
    obtain ⟨ke, hke⟩ : ∃ ke, walE x2.q x2.L = ke := ⟨_, rfl⟩
    have HB1 := Lib.hid (walBytes_t s2 q2 (by omega) hlb hke)
    go_wp2_with fail
    clear y0 y1
    refine HB1.out.mono ?_
    rintro e w4 ⟨A4, n4, c4, rfl, hf4, hb4⟩
    replace hv := hv.now hb4
    replace g0 := bon g0 hb4
    replace ra := ra.below hb4 (Nat.le_refl _)
    replace s2 := s2.now hb4
    have f4 := hf4.here
    clear hb4 hf4 HB1
    obtain ⟨y0, y1⟩ := ra.cells
    have hB2 := refBytes6_c s2 q2 (by omega)
    rw [hlb, hke] at hB2
    have HB2 := Lib.hid hB2
    clear hB2 hlb hke
    go_wp2_with fail
    clear y0 y1
    refine HB2.out.mono ?_
    rintro e w5 ⟨A5, n5, c5, rfl, hf5, hb5⟩
    replace hv := hv.now hb5
    replace g0 := bon g0 hb5
    replace f4 := f4.now hb5
    have f5 := hf5.here
    clear hb5 hf5 HB2 ra s2
    have HRD := Lib.hid (read_c6 (HR3.out.now g0) (by omega))
    go_wp2_with fail
    refine HRD.out.mono ?_
    rintro e w6 ⟨A6, n6, c6, R6, u6, rfl, hi6, hf6, hb6⟩
    obtain ⟨t6, ts6⟩ := rd_recs hf6 hi6
    have hfw6 := rd_few hi6 HW3.out
    have hl6 := t6.len
    have hn6 : (n6 : Int) ≤ 1000 := by omega
    have hu6 : (u6 : Int) ≤ 1000 := by have := hi6.le; rw [HW3.out] at this; omega
    have HI6 := Lib.hid hi6
    have HT6 := Lib.hid ts6
    replace hv := hv.now hb6
    replace g0 := bon g0 hb6
    replace f4 := f4.now hb6
    replace f5 := f5.now hb6
    clear hb6 HRD hf6 hi6 ts6 hfw6 hl6
    have HRD := Lib.hid (refRead_c (HR3.out.now g0) (by omega))
    go_wp2_with fail
    refine HRD.out.mono ?_
    rintro e w7 ⟨A7, n7, c7, R7, u7, rfl, hi7, hf7, hb7⟩
    obtain ⟨t7, ts7⟩ := rd_recs hf7 hi7
    obtain ⟨hP, rfl⟩ := hi7.one HI6.out
    replace hv := hv.now hb7
    replace g0 := bon g0 hb7
    replace f4 := f4.now hb7
    replace f5 := f5.now hb7
    replace t6 := t6.now hb7
    clear hb7 HRD hf7 hi7 HI6
    obtain ⟨tb, htb⟩ : ∃ tb, decide (u7 < l3.length) = tb := ⟨_, rfl⟩
    have HS02 := Lib.hid (fun (W : World) (hW : Below w7.heap.size w7 W) => same_c (f4.now hW) (f5.now hW))
    have HS06 := Lib.hid (fun (W : World) (hW : Below w7.heap.size w7 W) => sameW_t (t6.now hW) (t7.now hW) HT6.out ts7 (by omega) (b := true) (by rw [hP]; exact sameRs_iff.2 rfl))
    obtain ⟨s, hs⟩ : ∃ s : ByteArray, (⟨(nameL a0).toArray⟩ : ByteArray) = s := ⟨_, rfl⟩
    have HN1 := Lib.hid (name_c hv a0 (by omega))
    have HN2 := Lib.hid (fun (W : World) => refName_c W a0 w0)
    rw [hs] at HN1 HN2
    have HV := Lib.hid hv
    have HG := Lib.hid g0
    rw [htb]
    have t1 : (s.toList == s.toList) = true := by simp
    have t2 : ((m2 : Int) == (m2 : Int)) = true := by simp
    have t3 : (is2 == is2) = true := by simp
    have t4 : (lb == lb) = true := by simp
    have t5 : (ke == ke) = true := by simp
    have t8 : ((u7 : Int) == (u7 : Int)) = true := by simp
    have t9 : (tb == tb) = true := by simp
    rw [t4] at HS02
    clear hs htb hP hv g0 f4 f5 t6 t7 ts7 HT6
    go_wp2_with fail
    refine HN1.out.mono ?_
    rintro e w8 ⟨rfl, hb8⟩
    have h8 := hb8
    clear hb8
    go_wp2_with fail
    refine (HN2.out _).mono ?_
    rintro e w9 ⟨rfl, hb9⟩
    replace h8 := bon h8 hb9
    clear hb9
    go_wp2_with fail
    refine (HS02.out _ h8).mono ?_
    rintro e w10 ⟨rfl, rfl⟩
    go_wp2_with fail
    refine (HS06.out _ h8).mono ?_
    rintro e w11 ⟨rfl, hb11⟩
    replace h8 := bon h8 hb11
    clear hb11
    go_wp2_with fail
    refine (awake6_c (HV.out.now h8)).mono ?_
    rintro e w99 ⟨rfl, hb99⟩
    go_wp2_with fail
    go_ret
    exact ⟨rfl, bon (bon HG.out h8) hb99⟩

theorem contract (H : Type) (enc : TypeId × Value → H) (W : World) (base : Nat) (args : Array Value) (ds gs : List (DataW H)) (before : List MemPlace)
    (hval0 : ∀ (j : Nat) t v, Tryz.f3.params[j]? = some t → args[j]? = some v → Value.okWide Tryz.prog W .any base t v)
    (hW : DataW.Whole enc Tryz.prog Tryz.f3.params.toList Rows.walTellsSpec.vars false W args.toList ds gs before) (hL : laidMetH Tryz.prog Rows.walTellsRow.laid W) :
    Calls Tryz.prog 3 args W fun e W' => ∃ v, e = .returned v ∧ Rows.walTellsSpec.post enc Tryz.prog Tryz.f3 false true false false W args v W' := by
  have hval : ∀ (j : Nat) t v, Tryz.f3.params[j]? = some t → args[j]? = some v → Value.okWide Tryz.prog W .any base t v := hval0
  have hW' := hW
  obtain ⟨p, q, hA0, hV, rfl, hfz, hnd⟩ := hW
  have hA : DataW.TrodAll enc Tryz.prog W 0 (fun _ => true) true Tryz.f3.params.toList args.toList ds p := hA0
  rw [Tryz.params3] at hA hval
  obtain ⟨v0, vs0, d0, ds0, p0, q0_, hargs, rfl, rfl, h0, r0_⟩ := trodAll_cons hA
  obtain ⟨v1, vs1, d1, ds1, p1, q1_, rfl, rfl, rfl, h1, r1_⟩ := trodAll_cons r0_
  obtain ⟨v2, vs2, d2, ds2, p2, q2_, rfl, rfl, rfl, h2, r2_⟩ := trodAll_cons r1_
  obtain ⟨v3, vs3, d3, ds3, p3, q3_, rfl, rfl, rfl, h3, r3_⟩ := trodAll_cons r2_
  obtain ⟨rfl, rfl, rfl⟩ := trodAll_nil r3_
  obtain rfl : args = #[v0, v1, v2, v3] := by cases args; simp_all
  obtain ⟨rfl, rfl⟩ := trodVars_none hV
  have kk0 := h0
  have lt0 : ∀ x ∈ p0, x.block < W.heap.size := by obtain ⟨m, hm⟩ := kk0; exact DataW.trod_lt m _ _ _ hm
  have kk1 := h1
  have lt1 : ∀ x ∈ p1, x.block < W.heap.size := by obtain ⟨m, hm⟩ := kk1; exact DataW.trod_lt m _ _ _ hm
  have kk2 := h2
  have lt2 : ∀ x ∈ p2, x.block < W.heap.size := by obtain ⟨m, hm⟩ := kk2; exact DataW.trod_lt m _ _ _ hm
  have kk3 := h3
  have lt3 : ∀ x ∈ p3, x.block < W.heap.size := by obtain ⟨m, hm⟩ := kk3; exact DataW.trod_lt m _ _ _ hm
  obtain ⟨a0, e0, _, _, w0⟩ := open_int Tryz.underlying22 (hval 0 _ v0 rfl rfl) h0
  subst e0
  replace w0 := bounds_u64 w0
  obtain ⟨a0, rfl⟩ := Int.eq_ofNat_of_zero_le w0.1
  obtain ⟨a1, e1, _, _, w1⟩ := open_string Tryz.underlying9 (hval 1 _ v1 rfl rfl) h1
  subst e1
  obtain ⟨x2, e2, q2, r2⟩ := open_rec (hval 2 _ v2 rfl rfl) h2
  subst e2
  obtain ⟨A3, n3, c3, l3, e3, w3, r3⟩ := open_bytes h3 (hval 3 _ v3 rfl rfl)
  subst e3
  clear hA0 hval0
  refine (walk a0 a1 x2 A3 n3 c3 l3 W w0.2 w1 q2 r2 w3 r3 (vars_of hL)).mono fun e W' ⟨he, bel⟩ => ?_
  subst he
  exact ⟨_, rfl, _, _, _, [], _, [], hW', trodAll_mk1 (shut_bool Tryz.underlying4 _), (trodAll_cons_mk (Below.trod laidOut (by kernel_rfl) (of_decide_eq_true (by kernel_rfl)) kk0 bel lt0) (trodAll_cons_mk (Below.trod laidOut (by kernel_rfl) (of_decide_eq_true (by kernel_rfl)) kk1 bel lt1) (trodAll_cons_mk (Below.trod laidOut (by kernel_rfl) (of_decide_eq_true (by kernel_rfl)) kk2 bel lt2) (trodAll_cons_mk (Below.trod laidOut (by kernel_rfl) (of_decide_eq_true (by kernel_rfl)) kk3 bel lt3) trodAll_mk0)))), rfl, bel.frame _, fun h => by cases h⟩

theorem laid_met (os : Os) : laidMet Tryz.prog Rows.walTellsRow.laid ((laidWorld os).forCall (fun _ _ => 0) ⟨#[], #[.int .u64 0, .string ByteArray.empty, .agg #[.int .u64 0, .slice none 0 0], .slice none 0 0], []⟩).memory :=
  laidMet_of_run' 8 (by kernel_rfl) (by kernel_rfl)
theorem reads (os : Os) {H : Type} (enc : TypeId × Value → H) : ∃ places, DataW.whole enc Tryz.prog ((laidWorld os).forCall (fun _ _ => 0) ⟨#[], #[.int .u64 0, .string ByteArray.empty, .agg #[.int .u64 0, .slice none 0 0], .slice none 0 0], []⟩).memory Tryz.f3.params.toList Rows.walTellsSpec.vars false (#[.int .u64 0, .string ByteArray.empty, .agg #[.int .u64 0, .slice none 0 0], .slice none 0 0] : Array Value).toList 8 = some ([.lit (.int .u64 0), .lit (.string []), .agg [.lit (.int .u64 0), .nil], .nil], [], places) :=
  ⟨[], by kernel_rfl⟩
theorem lifted (os : Os) (started : os.Started) (H : Type) (enc : TypeId × Value → H) (F0 : Stop.Interp) :
    ReturnsInHanded {} Tryz.checked os 3 .any ((OpenSpec.ofChange Rows.walTellsSpec).preRow enc Tryz.prog Tryz.f3 Rows.walTellsRow.domain false Rows.walTellsRow.laid) (((OpenSpec.ofChange Rows.walTellsSpec).at F0).post enc Tryz.prog Tryz.f3 false true false false) := by
  obtain ⟨places, hx⟩ := reads os enc
  refine returnsInHanded_of_row (C := Tryz.checked) (s := OpenSpec.ofChange Rows.walTellsSpec) own started (by kernel_rfl) Tryz.func3
    (witness_row_at (enc := enc) (C := Tryz.checked) false (laidWorld os) #[.int .u64 0, .string ByteArray.empty, .agg #[.int .u64 0, .slice none 0 0], .slice none 0 0] rfl (by kernel_rfl) (by kernel_rfl) (by kernel_rfl)
      (OpenSpec.preRow_of_cond 8 hx (by kernel_rfl) (fun k hk => by cases hk) (by kernel_rfl) (laid_met os))) ?_
  intro W base args ds gs before hval hW _ _ _ hL _ _
  exact contract H enc W base args ds gs before hval hW hL

theorem said : Rows.WalTellsSaid :=
  OpenClaim.holds_of_cond 3 Tryz.f3 rfl rfl rfl rfl rfl rfl rfl ⟨rfl, rfl, rfl, rfl, rfl⟩ rfl rfl rfl rfl rfl (by kernel_rfl) Tryz.func3 (by kernel_rfl)
    (of_decide_eq_true (by kernel_rfl)) (by unfold Func.isWrapper; first | (rw [if_pos (by decide +kernel)]; kernel_rfl) | (rw [if_neg (by decide +kernel)]; exact ⟨rfl, rfl⟩))
    (fun os started H enc _ F0 => by rw [OpenClaim.pre_eq_preRow]; exact lifted os started H enc F0)

theorem plain (f : FuncId) (fn : Func) (hf : Tryz.pinned.checked.prog.funcNamed Tryz.f3.name = some f) (hfn : Tryz.pinned.checked.prog.funcs[f]? = some fn) :
    true = Tryz.pinned.checked.prog.looks [] ∧ ∀ (j : Nat) t, fn.params[j]? = some t → Tryz.pinned.checked.prog.wantsStandIn t = false := by
  obtain rfl : f = 3 := Option.some.inj ((show Tryz.prog.funcNamed Tryz.f3.name = some 3 by kernel_rfl).symm.trans hf) |>.symm
  obtain rfl : fn = Tryz.f3 := (Option.some.inj (Tryz.func3.symm.trans hfn)).symm
  refine ⟨by kernel_rfl, fun j t ht => ?_⟩
  rw [Tryz.params3] at ht
  have hm := Array.mem_of_getElem? ht
  simp only [List.mem_toArray, List.mem_cons, List.not_mem_nil, or_false] at hm
  rcases hm with rfl | rfl | rfl | rfl
  · exact (show Tryz.prog.wantsStandIn 22 = false by kernel_rfl)
  · exact (show Tryz.prog.wantsStandIn 9 = false by kernel_rfl)
  · exact (show Tryz.prog.wantsStandIn 25 = false by kernel_rfl)
  · exact (show Tryz.prog.wantsStandIn 26 = false by kernel_rfl)

/-- The statement: the card. -/
theorem proved : Rows.WalTellsCardSaid :=
  Claim7.holds_tied_plain_at .later [] _ _ _ _ said (fun _ h => by cases h) (by kernel_rfl) (fun _ h => by cases h) walTells_row_tie rfl ⟨rfl, rfl⟩ (by kernel_rfl) rfl plain (by kernel_rfl)
#print axioms proved
end Go.Proofs.YthgaiimgfnbkaaaGreatDoor.walTells
