/-
  DiskPlan: just the calls whose numbers the plan has are refused; without a plan none is; two disks of the same capacity have the same files as long as nothing that was done by the one was refused to the other. No condition.
-/
import Derived.Test.YtkabgebfbbkioaaRows
import Derived.Test.YtkabgebfbbkioaaDkQ
import Derived.Test.YtkabgebfbbkioaaDk23
import Derived.WalkKit
import Derived.ProofKit
import Derived.OpenShut
import Derived.ShutString
import Derived.ChangeOld
import Derived.Below
import Derived.Deep.RegionHeld3
import Derived.Deep.RegionWith
import Derived.BigRegion
namespace Go.Proofs.Ytkabgebfbbkioaa.diskPlan
open Go.ChangeShapes Go.WideShapes Go.ChangeAt Go.RowKit
open Go.ChangeMaps (open_string shut_string)
set_option linter.unusedVariables false

theorem own : ownKnob Try.prog.godebug = none := by kernel_rfl
theorem laidOut : laidOutB Try.prog = true := by kernel_rfl

theorem lokD {w w' : World} {B : Nat} {x : LOp} (h : LOk w B x) (hb : Below B w w') : LOk w' B x := ⟨h.what, h.s, h.t, h.b.below hb, h.k.below hb⟩
/-- Both disks, ahead of an operation. -/
structure PlanR (w wr : World) (dp n1 : Nat) (z1 : List Int) (k : Nat) (Sd Sf : DiskS) (m f : MD) : Prop where
  dp : Sd.dp = dp
  ad : At w wr Sd m
  af : At w wr Sf f
  apart : ∀ k ∈ foot Sd, k ∉ foot Sf
  im : Inv m k
  jf : Inv f k
  like : Like m f
  plan : m.plan = partsD z1 [] n1

set_option maxRecDepth 100000 in
set_option maxHeartbeats 8000000 in
theorem walk (a0 : Int) (A1 : Option Addr) (n1 c1 : Nat) (z1 : List Int) (A2 : Option Addr) (n2 c2 : Nat) (L2 : List LOp) (w : World) (w0 : -9223372036854775808 ≤ a0 ∧ a0 ≤ 9223372036854775807) (r1 : Rd w w.heap.size A1 n1 c1 (iv z1)) (x1 : ∀ y ∈ z1, (Lit.int .i64 y).wf = true) (r2 : RdL w w.heap.size A2 n2 c2 L2) :
    Calls Try.prog 6 #[.int .i64 a0, .slice A1 n1 c1, .slice A2 n2 c2] w fun e w' => e = .returned (.bool true) ∧ Below w.heap.size w w' := by
  have hl2 := r2.len
  have hl1 : z1.length = n1 := by have := r1.len; simpa [iv] using this
  have HF := Lib.hid (fewL_c r2 (Nat.le_refl _) 60)
  have HFN := Lib.hid (fun (h : fewL L2 60 = true) => fewL_iff.1 h)
  have HW0 := Lib.hid w0
  clear w0
  go_enter Try.func6, Try.ntmps6
  go_wp2_with fail
  refine HF.out.mono ?_
  rintro e wq ⟨rfl, hg⟩
  cases hf : fewL L2 60 with
  | false =>
    go_wp2_with fail
    refine awake_c.mono ?_
    rintro e w99 ⟨rfl, hb99⟩
    go_wp2_with fail
    go_ret
    exact ⟨rfl, bonD hg hb99⟩
  | true =>
    obtain ⟨hsm, hn60⟩ := HFN.out hf
    have hn2 : n2 ≤ 60 := by rw [hl2] at hn60; omega
    have hn2i : (n2 : Int) ≤ 60 := by omega
    have HSM := Lib.hid hsm
    have hcap1 := r1.cap
    have hmax1 := r1.max
    unfold maxLen at hmax1
    have hn1i0 : (n1 : Int) ≤ 9223372036854775807 := by omega
    clear hf HF HFN hsm hn60 hmax1
    by_cases g1 : 60 < n1
    · have e1 : decide ((60 : Int) < (n1 : Int)) = true := by simp; omega
      clear g1
      go_wp2_with fail
      refine awake_c.mono ?_
      rintro e w99 ⟨rfl, hb99⟩
      go_wp2_with fail
      go_ret
      exact ⟨rfl, bonD hg hb99⟩
    have e1 : decide ((60 : Int) < (n1 : Int)) = false := by simp; omega
    have hn1i : (n1 : Int) ≤ 60 := by omega
    have HNEW := Lib.hid (new_c (w := wq) (parts := []) a0 (r1.below hg) (Rd.nilv (B := 0)) hg.size (Nat.zero_le _) (by omega) x1 (fun _ h => by cases h))
    have hinv0 := inv_plan HW0.out.2 z1 [] n1
    go_wp2_with fail
    refine HNEW.out.mono ?_
    rintro e wn ⟨S, rfl, hd3, hsee, hb3, hold⟩
    have hat0 : At w wn S ⟨max a0 0, 0, 0, partsD z1 [] n1, []⟩ := ⟨hd3, hsee, fun k hk => Nat.le_trans hg.size (hold k hk), bonD hg hb3⟩
    have HNEW2 := Lib.hid (new_c (w := wn) (fails := []) (parts := []) a0 (Rd.nilv (B := 0)) (Rd.nilv (B := 0)) (Nat.zero_le _) (Nat.zero_le _) (by omega) (fun _ h => by cases h) (fun _ h => by cases h))
    have hinvf := inv_new HW0.out.2
    clear HNEW hd3 hsee hb3 hold
    go_wp2_with fail
    refine HNEW2.out.mono ?_
    rintro e wm ⟨Sf, rfl, hd4, hsee4, hb4, hold4⟩
    have hatf : At w wm Sf ⟨max a0 0, 0, 0, .map [], []⟩ := ⟨hd4, hsee4, fun k hk => Nat.le_trans hat0.below.size (hold4 k hk), bonD hat0.below hb4⟩
    have hap0 : ∀ k ∈ foot S, k ∉ foot Sf := fun k hk hm => by have := hat0.disk.there k hk; have := hold4 k hm; omega
    have hat0 := hat0.below_next hb4
    have hlike : Like ⟨max a0 0, 0, 0, partsD z1 [] n1, []⟩ ⟨max a0 0, 0, 0, .map [], []⟩ := ⟨rfl, rfl, rfl, rfl, fun k => parts_zero z1 k n1⟩
    obtain ⟨dp, hdp⟩ : ∃ dp, S.dp = dp := ⟨_, rfl⟩
    have hR0 : PlanR w wm dp n1 z1 0 S Sf ⟨max a0 0, 0, 0, partsD z1 [] n1, []⟩ ⟨max a0 0, 0, 0, .map [], []⟩ := ⟨hdp, hat0, hatf, hap0, hinv0, hinvf, hlike, rfl⟩
    rw [hdp]
    have HR0 := Lib.hid hR0
    clear HNEW2 hd4 hsee4 hb4 hold4 hat0 hatf hap0 hlike hinv0 hinvf hR0 hdp hg g1
    go_wp2_with fail
    go_loopw [8, 35] (fun fv iv wr => ∃ (k : Nat) (Sd Sf : DiskS) (m f : MD), iv = .int .i64 (k : Int) ∧ k ≤ n2 ∧ fv = .pointer (some ⟨Sf.dp, 0, none⟩) ∧ PlanR w wr dp n1 z1 k Sd Sf m f) (fun _ iv _ => ((n2 : Int) - intOf iv).toNat)
    case atStart => exact ⟨0, S, Sf, _, _, rfl, Nat.zero_le _, rfl, HR0.out⟩
    case round =>
      clear HR0
      obtain ⟨k, Sd, Sf, m, f, rfl, hk, rfl, hR⟩ := hrel
      by_cases hlt : k < n2
      · obtain ⟨b, off, hA, hbB, hcell⟩ := r2.form (by omega)
        subst hA
        obtain ⟨x, hx⟩ : ∃ x, L2[k]? = some x := ⟨L2[k]'(by omega), List.getElem?_eq_getElem _⟩
        obtain ⟨x0, x1', x2, x3, x4⟩ := hcell k x hx
        have hkc (i : Nat) : wr.cell? ⟨b, i, none⟩ = w.cell? ⟨b, i, none⟩ := hR.ad.below.cell hbB
        rw [← hkc] at x0 x1' x2 x3 x4
        have hki : (k : Int) < (n2 : Int) := by omega
        have hk0 : (0 : Int) ≤ (k : Int) := by omega
        have hxm := List.mem_of_getElem? hx
        have hxok := r2.ok x hxm
        have hwh := hxok.what
        have hxn : x.n ≤ 60 := ((smallL_iff x).1 (HSM.out x hxm)).2.2.1
        obtain ⟨r, hr⟩ : ∃ r, x.what % 7 = r := ⟨_, rfl⟩
        have hri : (x.what : Int) % 7 = (r : Int) := by omega
        have HR := Lib.hid hR
        by_cases hr4 : 4 < r
        · have hr4i : (4 : Int) < (r : Int) := by omega
          clear hR hxok hcell hkc hxm hx
          go_wp2_with fail
          go_roundw
          case rel =>
            obtain ⟨p1, p2, p3, p4, p5, p6, p7, p8⟩ := HR.out
            exact ⟨k + 1, Sd, Sf, m, f, by simp, by omega, rfl, ⟨p1, p2.boxed _, p3.boxed _, p4, p5.more (Nat.le_succ _), p6.more (Nat.le_succ _), p7, p8⟩⟩
          case measure => simp [intOf]; omega
        · have hr4i : ¬ (4 : Int) < (r : Int) := by omega
          obtain ⟨p1, p2, p3, p4, p5, p6, p7, p8⟩ := hR
          have hatd1 := p2.boxed (.cells #[.int .u8 (x.what : Int), .string x.s, .string x.t, .slice x.A x.n x.c, .slice x.A2 x.n2 x.c2] 36)
          have hatf1 := p3.boxed (.cells #[.int .u8 (x.what : Int), .string x.s, .string x.t, .slice x.A x.n x.c, .slice x.A2 x.n2 x.c2] 36)
          have hop1 := OpC.new wr x
          have HC := Lib.hid (copy_a hatf1 (p6.good (by omega)))
          have hxb : x.b.length = x.n := by have := hxok.b.len; simpa using this
          have hB := both_does p7 (o := x.op) (show x.what % 7 ≤ 4 by omega)
          have HI2 := p5.does p2.nodup (o := x.op) (by show x.b.length ≤ 60; omega)
          have HJ2 := p6.does p3.nodup (o := x.op) (by show x.b.length ≤ 60; omega)
          have hDID := did (m := m) (o := x.op) (show x.what % 7 ≤ 4 by omega)
          have hgd : wr.heap.size ∉ foot Sd := fun hm => by have := p2.disk.there _ hm; omega
          have hgf : wr.heap.size ∉ foot Sf := fun hm => by have := p3.disk.there _ hm; omega
          obtain ⟨gz, hgz⟩ : ∃ gz, wr.heap.size = gz := ⟨_, rfl⟩
          rw [hgz] at hop1 hgd hgf
          clear hcell hkc hxm hx
          go_wp2_with fail
          refine HC.out.mono ?_
          rintro e w2 ⟨Sc, rfl, hcp⟩
          have hatd2 := hatd1.below_next hcp.below
          have hgs : gz < w2.heap.size := by have := hcp.below.size; simp at this; omega
          have hop2 := hop1.below hcp.below (by simp; omega)
          have hdc : ∀ k ∈ foot Sd, k ∉ foot Sc := hcp.apart hatd1.disk.there
          have hcf : ∀ k ∈ foot Sf, k ∉ foot Sc := hcp.apart hatf1.disk.there
          have hgc : gz ∉ foot Sc := fun hm => by have := hcp.new _ hm; simp at this; omega
          have hfd : ∀ k ∈ foot Sc, k ∉ foot Sf := apart_symm hcf
          obtain ⟨dc, hdc'⟩ : ∃ dc, Sc.dp = dc := ⟨_, rfl⟩
          obtain ⟨m', hm'⟩ : ∃ m', m' = (doesM m x.op).1 := ⟨_, rfl⟩
          obtain ⟨er, her⟩ : ∃ er, er = (doesM m x.op).2 := ⟨_, rfl⟩
          obtain ⟨f', hf'⟩ : ∃ f', f' = (doesM f x.op).1 := ⟨_, rfl⟩
          obtain ⟨es, hes⟩ : ∃ es, es = (doesM f x.op).2 := ⟨_, rfl⟩
          have hrr : doesM m x.op = (m', er) := by rw [hm', her]
          have hss : doesM f x.op = (f', es) := by rw [hf', hes]
          have HPLX := Lib.hid (show m'.plan = m.plan from by have := doesM_plan m x.op; rw [hrr] at this; exact this)
          rw [hrr] at hB HI2 hDID
          rw [hss] at hB HJ2
          have hatd3 := hatd2.below_next (Below.refl _ _).drew
          have hatc3 := hcp.copy.below_next (Below.refl _ _).drew
          have hatf3 := hcp.orig.below_next (Below.refl _ _).drew
          have hop3 : OpC w2.drew gz x := hop2
          have hgs3 : gz < w2.drew.heap.size := hgs
          have HD1 := does_a hatd3 (p5.good (by omega)) x hxok hxn
          rw [hrr, p1] at HD1
          unfold lv at HD1
          have HD1 := Lib.hid HD1
          have HD2 := Lib.hid (fun (W : World) (hW : At w W Sc f) => show Calls Try.prog 13 #[.agg #[.int .u8 (x.what : Int), .string x.s, .string x.t, .slice x.A x.n x.c, .slice x.A2 x.n2 x.c2], .pointer (some ⟨dc, 0, none⟩)] W (NextP w W Sc (f', es)) from by
            have := does_a hW (p6.good (by omega)) x hxok hxn
            rw [hss, hdc'] at this
            exact this)
          have HOP3 := Lib.hid hop3
          have HHD := Lib.hid hatd3
          have HHC := Lib.hid hatc3
          have HHF := Lib.hid hatf3
          have HB := Lib.hid hB
          have HDD0 := Lib.hid hDID
          have HP7 := Lib.hid p7
          have HPL0 := Lib.hid p8
          have HDPD := Lib.hid p1
          have HDC := Lib.hid hdc'
          obtain ⟨o0, o1, o2, o3, o4⟩ := hop3
          rw [hdc']
          clear HC HR hop1 hop2 hatd1 hatf1 hatd2 hcp p2 p3 hatd3 hatc3 hatf3 hrr hss hm' her hf' hes hgs hcf hB p7 hDID x0 x1' x2 x3 x4 p8 p1 hdc'
          go_wp2_with fail
          go_region_held3 (fun w' => w'.cell? ⟨gz, 0, none⟩ = some (.int .u8 (x.what : Int)) ∧ w'.cell? ⟨gz, 1, none⟩ = some (.string x.s) ∧ w'.cell? ⟨gz, 2, none⟩ = some (.string x.t) ∧ w'.cell? ⟨gz, 3, none⟩ = some (.slice x.A x.n x.c) ∧ w'.cell? ⟨gz, 4, none⟩ = some (.slice x.A2 x.n2 x.c2))
            ((first | assumption | exact hop6 | exact hop5 | exact HOP3.out))
            (first
              | (go_at_call_of 13 dp; refine HD1.out.mono ?_; intro e w5 hp; obtain ⟨rfl, Sd', hN⟩ := hp; have hop5 := HOP3.out.off hN.off hgs3 hgd; have hgs5 := Nat.lt_of_lt_of_le hgs3 hN.off.size; have hBc := hN.beside HHD.out HHC.out hdc; have hBf := hN.beside HHD.out HHF.out p4)
              | (go_at_call_of 13 dc; refine (HD2.out _ hBc.1).mono ?_; intro e w6 hp; obtain ⟨rfl, Sc', hN2⟩ := hp; have hop6 := hop5.off hN2.off hgs5 hgc))
          have hA1 := hN2.beside hBc.1 hN.at_ (apart_symm hBc.2)
          have hA2 := hN2.beside hBc.1 hBf.1 hfd
          have HAD := Lib.hid hA1.1
          have HAC := Lib.hid hN2.at_
          have HAF := Lib.hid hA2.1
          have HX1 := Lib.hid (apart_symm hA1.2)
          have HX2 := Lib.hid hBf.2
          have HDD := Lib.hid (hN.dp.trans HDPD.out)
          have HDE := Lib.hid (hN2.dp.trans HDC.out)
          have r6 := r1.below hA1.1.below
          have HCA := Lib.hid (calls_a hA1.1)
          rw [HDD.out] at HCA
          clear hA1 hA2 hN hN2 hBc hBf hop5 hop6 hgs5 HHD HHC HHF HD1 HD2 HOP3 hfd hdc hgd hgf hgc hgz hgs3 o0 o1 o2 o3 o4
          go_wp2_with fail
          go_loopw [14, 53] (fun bv iv wr => ∃ (j : Nat) (bo : Bool), bv = .bool bo ∧ iv = .int .i64 (j : Int) ∧ j ≤ n1 ∧ (bo = true ↔ m'.calls ∈ z1.take j) ∧ wr = w6) (fun _ iv _ => ((n1 : Int) - intOf iv).toNat)
          case atStart => exact ⟨0, false, rfl, rfl, Nat.zero_le _, by simp, rfl⟩
          case round =>
            obtain ⟨j, bo, rfl, rfl, hj, hbo, hwr6⟩ := hrel
            subst hwr6
            by_cases hlj : j < n1
            · have hji : (j : Int) < (n1 : Int) := by omega
              have hj0 : (0 : Int) ≤ (j : Int) := by omega
              obtain ⟨y, hy⟩ : ∃ y, z1[j]? = some y := ⟨z1[j]'(by omega), List.getElem?_eq_getElem _⟩
              obtain ⟨b1, off1, rfl, hb1B, hcell1⟩ := r6.form (by omega)
              have hcl := hcell1 j (.int .i64 y) (by simp [iv, hy])
              have hstep : z1.take (j + 1) = z1.take j ++ [y] := by rw [List.take_add_one, hy]; rfl
              cases bo with
              | true =>
                have HM := Lib.hid (show (true = true ↔ m'.calls ∈ z1.take (j + 1)) from ⟨fun _ => by rw [hstep, List.mem_append]; exact .inl (hbo.1 rfl), fun _ => rfl⟩)
                clear hbo hcell1 hy hstep
                go_wp2_with fail
                go_roundw
                case rel => exact ⟨j + 1, true, rfl, by simp, by omega, HM.out, trivial⟩
                case measure => simp [intOf]; omega
              | false =>
                have HM := Lib.hid (show (decide (y = m'.calls) = true ↔ m'.calls ∈ z1.take (j + 1)) from by
                  rw [hstep, List.mem_append, List.mem_singleton, decide_eq_true_iff]
                  exact ⟨fun h => .inr h.symm, fun h => h.elim (fun h => absurd (hbo.2 h) (by simp)) Eq.symm⟩)
                clear hbo hcell1 hy hstep
                go_wp2_with fail
                refine HCA.out.mono ?_
                rintro e w7 ⟨rfl, rfl⟩
                go_wp2_with fail
                go_roundw
                case rel => exact ⟨j + 1, decide (y = m'.calls), rfl, by simp, by omega, HM.out, trivial⟩
                case measure => simp [intOf]; omega
            · obtain rfl : j = n1 := by omega
              have hnj : ¬ (j : Int) < (j : Int) := by omega
              have HBO := Lib.hid (hbo.trans (by rw [HDD0.out.calls, ← fails_iff z1 [] (m.calls + 1) j (by omega), ← HPL0.out]) : bo = true ↔ failsAt m.plan (m.calls + 1) = true)
              clear hbo
              have hes12 : ¬ es = 12 := HB.out.free
              have HJF := p6.more (Nat.le_succ k)
              clear r6 x1 hat0 hwh hri hr hk0 hki
              by_cases h12 : er = 12
              · obtain ⟨hbf, hs, hl⟩ := HB.out.refused h12
                have hs : es = 0 ∨ es = 13 := hs
                have HLK := Lib.hid hl
                have HAP := Lib.hid HX2.out
                obtain rfl : bo = true := HBO.out.2 hbf
                clear hl hbf HB HBO HDD0 HX1
                subst h12
                rcases hs with rfl | rfl
                · have HFA := Lib.hid (by have := files_a HAD.out (HI2.good (by omega)); rwa [HDD.out] at this)
                  go_wp2_with fail
                  refine HFA.out.mono ?_
                  rintro e w8 ⟨b8, q8, rfl, hown8, hb81, hb8⟩
                  have HAD8 := Lib.hid (HAD.out.below_next hb8)
                  have HAF8 := Lib.hid ((HAF).out.below_next hb8)
                  have HFB := Lib.hid (by have := files_a HAF8.out (HJF.good (by omega)); exact this)
                  clear HFA
                  go_wp2_with fail
                  refine HFB.out.mono ?_
                  rintro e w9 ⟨b9, q9, rfl, hown9, hb91, hb9⟩
                  have HAD9 := Lib.hid (HAD8.out.below_next hb9)
                  have HAF9 := Lib.hid (HAF8.out.below_next hb9)
                  have hown8' := ownsMap_kept hown8 (hb9.block b8 hown8.lt)
                  rw [HLK.out.files] at hown8'
                  have HSM2 := Lib.hid (same_c hown8' hown9)
                  clear HFB hown8 hown9 hown8' hb8 hb9 hb81 hb91
                  go_wp2_with fail
                  refine HSM2.out.mono ?_
                  rintro e w10 ⟨rfl, hb10⟩
                  have HAD10 := Lib.hid (HAD9.out.below_next hb10)
                  have HAF10 := Lib.hid (HAF9.out.below_next hb10)
                  clear HSM2 hb10
                  go_wp2_with fail
                  go_roundw
                  case rel => exact ⟨k + 1, Sd', Sf, m', f, by simp, by omega, rfl, ⟨HDD.out, HAD10.out, HAF10.out, HAP.out, HI2, HJF, HLK.out, HPLX.out.trans HPL0.out⟩⟩
                  case measure => simp [intOf]; omega
                · have HFA := Lib.hid (by have := files_a HAD.out (HI2.good (by omega)); rwa [HDD.out] at this)
                  go_wp2_with fail
                  refine HFA.out.mono ?_
                  rintro e w8 ⟨b8, q8, rfl, hown8, hb81, hb8⟩
                  have HAD8 := Lib.hid (HAD.out.below_next hb8)
                  have HAF8 := Lib.hid ((HAF).out.below_next hb8)
                  have HFB := Lib.hid (by have := files_a HAF8.out (HJF.good (by omega)); exact this)
                  clear HFA
                  go_wp2_with fail
                  refine HFB.out.mono ?_
                  rintro e w9 ⟨b9, q9, rfl, hown9, hb91, hb9⟩
                  have HAD9 := Lib.hid (HAD8.out.below_next hb9)
                  have HAF9 := Lib.hid (HAF8.out.below_next hb9)
                  have hown8' := ownsMap_kept hown8 (hb9.block b8 hown8.lt)
                  rw [HLK.out.files] at hown8'
                  have HSM2 := Lib.hid (same_c hown8' hown9)
                  clear HFB hown8 hown9 hown8' hb8 hb9 hb81 hb91
                  go_wp2_with fail
                  refine HSM2.out.mono ?_
                  rintro e w10 ⟨rfl, hb10⟩
                  have HAD10 := Lib.hid (HAD9.out.below_next hb10)
                  have HAF10 := Lib.hid (HAF9.out.below_next hb10)
                  clear HSM2 hb10
                  go_wp2_with fail
                  go_roundw
                  case rel => exact ⟨k + 1, Sd', Sf, m', f, by simp, by omega, rfl, ⟨HDD.out, HAD10.out, HAF10.out, HAP.out, HI2, HJF, HLK.out, HPLX.out.trans HPL0.out⟩⟩
                  case measure => simp [intOf]; omega
              · obtain ⟨he, hpl, hl⟩ := HB.out.done h12
                have he : er = es := he
                have HLK := Lib.hid hl
                have HAP := Lib.hid HX1.out
                have hz : bo = true → ¬ er = 0 ∧ ¬ er = 13 := fun h => hpl (HBO.out.1 h)
                clear hl hpl HB HBO HDD0 HX2
                subst he
                cases bo with
                | true =>
                  obtain ⟨hz0, hz13⟩ := hz rfl
                  clear hz
                  go_wp2_with fail
                  · rcases ‹(er == 0) = true ∨ (er == 13) = true› with h | h
                    · exact (hz0 (by simpa using h)).elim
                    · exact (hz13 (by simpa using h)).elim
                  have HFA := Lib.hid (by have := files_a HAD.out (HI2.good (by omega)); rwa [HDD.out] at this)
                  refine HFA.out.mono ?_
                  rintro e w8 ⟨b8, q8, rfl, hown8, hb81, hb8⟩
                  have HAD8 := Lib.hid (HAD.out.below_next hb8)
                  have HAF8 := Lib.hid ((HAC).out.below_next hb8)
                  have HFB := Lib.hid (by have := files_a HAF8.out (HJ2.good (by omega)); rwa [HDE.out] at this)
                  clear HFA
                  go_wp2_with fail
                  refine HFB.out.mono ?_
                  rintro e w9 ⟨b9, q9, rfl, hown9, hb91, hb9⟩
                  have HAD9 := Lib.hid (HAD8.out.below_next hb9)
                  have HAF9 := Lib.hid (HAF8.out.below_next hb9)
                  have hown8' := ownsMap_kept hown8 (hb9.block b8 hown8.lt)
                  rw [HLK.out.files] at hown8'
                  have HSM2 := Lib.hid (same_c hown8' hown9)
                  clear HFB hown8 hown9 hown8' hb8 hb9 hb81 hb91
                  go_wp2_with fail
                  refine HSM2.out.mono ?_
                  rintro e w10 ⟨rfl, hb10⟩
                  have HAD10 := Lib.hid (HAD9.out.below_next hb10)
                  have HAF10 := Lib.hid (HAF9.out.below_next hb10)
                  clear HSM2 hb10
                  go_wp2_with fail
                  go_roundw
                  case rel => exact ⟨k + 1, Sd', Sc', m', f', by simp, by omega, by rw [HDE.out], ⟨HDD.out, HAD10.out, HAF10.out, HAP.out, HI2, HJ2, HLK.out, HPLX.out.trans HPL0.out⟩⟩
                  case measure => simp [intOf]; omega
                | false =>
                  clear hz
                  have HFA := Lib.hid (by have := files_a HAD.out (HI2.good (by omega)); rwa [HDD.out] at this)
                  go_wp2_with fail
                  refine HFA.out.mono ?_
                  rintro e w8 ⟨b8, q8, rfl, hown8, hb81, hb8⟩
                  have HAD8 := Lib.hid (HAD.out.below_next hb8)
                  have HAF8 := Lib.hid ((HAC).out.below_next hb8)
                  have HFB := Lib.hid (by have := files_a HAF8.out (HJ2.good (by omega)); rwa [HDE.out] at this)
                  clear HFA
                  go_wp2_with fail
                  refine HFB.out.mono ?_
                  rintro e w9 ⟨b9, q9, rfl, hown9, hb91, hb9⟩
                  have HAD9 := Lib.hid (HAD8.out.below_next hb9)
                  have HAF9 := Lib.hid (HAF8.out.below_next hb9)
                  have hown8' := ownsMap_kept hown8 (hb9.block b8 hown8.lt)
                  rw [HLK.out.files] at hown8'
                  have HSM2 := Lib.hid (same_c hown8' hown9)
                  clear HFB hown8 hown9 hown8' hb8 hb9 hb81 hb91
                  go_wp2_with fail
                  refine HSM2.out.mono ?_
                  rintro e w10 ⟨rfl, hb10⟩
                  have HAD10 := Lib.hid (HAD9.out.below_next hb10)
                  have HAF10 := Lib.hid (HAF9.out.below_next hb10)
                  clear HSM2 hb10
                  go_wp2_with fail
                  go_roundw
                  case rel => exact ⟨k + 1, Sd', Sc', m', f', by simp, by omega, by rw [HDE.out], ⟨HDD.out, HAD10.out, HAF10.out, HAP.out, HI2, HJ2, HLK.out, HPLX.out.trans HPL0.out⟩⟩
                  case measure => simp [intOf]; omega
      · have hki : ¬ (k : Int) < (n2 : Int) := by omega
        have gz := hR.ad.below
        clear hR
        go_wp2_with fail
        refine awake_c.mono ?_
        rintro e w99 ⟨rfl, hb99⟩
        go_wp2_with fail
        go_ret
        exact ⟨rfl, bonD gz hb99⟩

set_option maxRecDepth 100000 in
theorem lifted (os : Os) (started : os.Started) (H : Type) (enc : TypeId × Value → H) :
    ReturnsInHanded {} Try.checked os 6 .any (Rows.diskPlanSpec.pre6 enc Try.prog Try.f6 Rows.diskPlanRow.domain false) (Rows.diskPlanSpec.post enc Try.prog Try.f6 false true false false) := by
  refine returnsInHanded_of_change (C := Try.checked) own started (by kernel_rfl) Try.func6
    (ChangeSpec.witness6 (enc := enc) (C := Try.checked) false ⟨#[], #[.int .i64 0, .slice none 0 0, .slice none 0 0], []⟩ 8 (by kernel_rfl) (by kernel_rfl) (by kernel_rfl) (by kernel_rfl)) ?_
  intro W base args ds gs before hval0 hW hcnd _
  have hval : ∀ (j : Nat) t v, Try.f6.params[j]? = some t → args[j]? = some v → Value.okWide Try.prog W .any base t v := hval0
  have hW' := hW
  obtain ⟨p, q, hA0, hV, rfl, hfz, hnd⟩ := hW
  have hA : DataW.TrodAll enc Try.prog W 0 (fun _ => true) true Try.f6.params.toList args.toList ds p := hA0
  rw [Try.params6] at hA hval
  obtain ⟨v0, vs0, d0, ds0, p0, q0_, hargs, rfl, rfl, h0, r0_⟩ := trodAll_cons hA
  obtain ⟨v1, vs1, d1, ds1, p1, q1_, rfl, rfl, rfl, h1, r1_⟩ := trodAll_cons r0_
  obtain ⟨v2, vs2, d2, ds2, p2, q2_, rfl, rfl, rfl, h2, r2_⟩ := trodAll_cons r1_
  obtain ⟨rfl, rfl, rfl⟩ := trodAll_nil r2_
  obtain rfl : args = #[v0, v1, v2] := by cases args; simp_all
  obtain ⟨rfl, rfl⟩ := trodVars_none hV
  have kk0 := h0
  have lt0 : ∀ x ∈ p0, x.block < W.heap.size := by obtain ⟨m, hm⟩ := kk0; exact DataW.trod_lt m _ _ _ hm
  have kk1 := h1
  have lt1 : ∀ x ∈ p1, x.block < W.heap.size := by obtain ⟨m, hm⟩ := kk1; exact DataW.trod_lt m _ _ _ hm
  have kk2 := h2
  have lt2 : ∀ x ∈ p2, x.block < W.heap.size := by obtain ⟨m, hm⟩ := kk2; exact DataW.trod_lt m _ _ _ hm
  obtain ⟨a0, e0, _, _, w0⟩ := open_int Try.underlying3 (hval 0 _ v0 rfl rfl) h0
  subst e0
  replace w0 := bounds_i64 w0
  obtain ⟨A1, n1, c1, z1, e1, r1, x1⟩ := open_intsP h1 (hval 1 _ v1 rfl rfl)
  subst e1
  obtain ⟨A2, n2, c2, L2, e2, r2⟩ := open_lops h2 (hval 2 _ v2 rfl rfl)
  subst e2
  clear hA0 hval0
  refine (walk a0 A1 n1 c1 z1 A2 n2 c2 L2 W w0 r1 x1 r2).mono fun e W' ⟨he, bel⟩ => ?_
  subst he
  exact ⟨_, rfl, _, _, _, [], _, [], hW', trodAll_mk1 (shut_bool Try.underlying4 _), (trodAll_cons_mk (Below.trod laidOut (by kernel_rfl) (of_decide_eq_true (by kernel_rfl)) kk0 bel lt0) (trodAll_cons_mk (Below.trod laidOut (by kernel_rfl) (of_decide_eq_true (by kernel_rfl)) kk1 bel lt1) (trodAll_cons_mk (Below.trod laidOut (by kernel_rfl) (of_decide_eq_true (by kernel_rfl)) kk2 bel lt2) trodAll_mk0))), rfl, bel.frame _, fun h => by cases h⟩

theorem over : Rows.diskPlanRow.holds Try.pinned (OpenSpec.ofChange Rows.diskPlanSpec) :=
  OpenClaim.holds_of_wide 6 Try.f6 rfl rfl rfl rfl rfl rfl rfl ⟨rfl, rfl, rfl, rfl, rfl⟩ rfl rfl rfl rfl rfl (by kernel_rfl) Try.func6 (by kernel_rfl)
    (of_decide_eq_true (by kernel_rfl)) (by unfold Func.isWrapper; first | (rw [if_pos (by decide +kernel)]; kernel_rfl) | (rw [if_neg (by decide +kernel)]; exact ⟨rfl, rfl⟩))
    (fun os started H enc _ => lifted os started H enc)

/-- The statement. -/
theorem proved : Rows.DiskPlanSaid := over
#print axioms proved
end Go.Proofs.Ytkabgebfbbkioaa.diskPlan
