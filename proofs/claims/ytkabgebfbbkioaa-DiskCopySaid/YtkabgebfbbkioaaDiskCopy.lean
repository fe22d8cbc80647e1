/-
  DiskCopy: a copy is its own, and what Read gives too: for every input.
-/
import Derived.Test.YtkabgebfbbkioaaRows
import Derived.Test.YtkabgebfbbkioaaDkR
import Derived.Test.YtkabgebfbbkioaaDk23
import Derived.WalkKit
import Derived.ProofKit
import Derived.OpenShut
import Derived.ShutString
import Derived.ChangeOld
import Derived.Below
import Derived.Deep.RegionHeld3
import Derived.Deep.RegionWith
import Derived.Deep.QuietTactic
import Derived.BigQuiet
import Derived.RegionTactic
import Derived.BigRegion
namespace Go.Proofs.Ytkabgebfbbkioaa.diskCopy
open Go.ChangeShapes Go.WideShapes Go.ChangeAt Go.RowKit
open Go.ChangeMaps (open_string shut_string)
set_option linter.unusedVariables false

theorem own : ownKnob Try.prog.godebug = none := by kernel_rfl
theorem laidOut : laidOutB Try.prog = true := by kernel_rfl

theorem drewN_addD (w : World) (a b : Nat) : (w.drewN a).drewN b = w.drewN (a + b) := by simp [World.drewN, Nat.add_assoc]
theorem lokD {w w' : World} {B : Nat} {x : LOp} (h : LOk w B x) (hb : Below B w w') : LOk w' B x := ⟨h.what, h.s, h.t, h.b.below hb, h.k.below hb⟩
theorem rdLD {w w' : World} {B n c : Nat} {A : Option Addr} {L : List LOp} (h : RdL w B A n c L) (hb : Below B w w') : RdL w' B A n c L :=
  ⟨h.len, h.cap, h.max, h.nil, fun hn => by
    obtain ⟨b, off, e, hB, hc⟩ := h.form hn
    refine ⟨b, off, e, hB, fun i x hx => ?_⟩
    have hk (j : Nat) : w'.cell? ⟨b, j, none⟩ = w.cell? ⟨b, j, none⟩ := hb.cell hB
    rw [hk, hk, hk, hk, hk]
    exact hc i x hx, fun x hx => lokD (h.ok x hx) hb⟩
theorem size_FM (fs : MF) : Maps.size (FM fs) = fs.length := by simp [FM, Maps.size]
theorem fr_off {w w' : World} {b n c : Nat} {e : TypeId} {A : Option Addr} {xs : List Value} {F : List Nat} (h : Fr w b e A n c xs) (ho : Off F w w') (hF : ∀ k ∈ F, k < b) : Fr w' b e A n c xs := by
  cases A with
  | none => exact Fr.kept (r := none) h (fun g hg => by cases hg)
  | some ad =>
    obtain ⟨h1, h2, h3, h4, -⟩ := h.frozen ad rfl
    obtain ⟨g, o, sp⟩ := ad
    simp only at h1 h2 h3 h4
    subst h3 h4
    exact Fr.kept (r := some g) h (fun g' hg => by cases hg; exact ho.block g h2 (fun hm => by have := hF g hm; omega))
theorem iwf {l : List Int} (h : ∀ y ∈ l, (Lit.int .i64 y).wf = true) {y : Int} (hy : y ∈ l) : -9223372036854775808 ≤ y ∧ y ≤ 9223372036854775807 := bounds_i64 (h y hy)
theorem allocD (w : World) (o : Obj) : Below w.heap.size w (w.alloc o) := (Below.refl _ w).alloc (Nat.le_refl _) o

set_option maxRecDepth 100000 in
set_option maxHeartbeats 8000000 in
theorem walk (a0 : Int) (A1 B1 : Option Addr) (n1 c1 k1 d1 : Nat) (y1 z1 : List Int) (A2 : Option Addr) (n2 c2 : Nat) (L2 : List LOp) (A3 : Option Addr) (n3 c3 : Nat) (L3 : List LOp) (w : World) (w0 : -9223372036854775808 ≤ a0 ∧ a0 ≤ 9223372036854775807) (r1 : Rd w w.heap.size A1 n1 c1 (iv y1)) (x1 : ∀ y ∈ y1, (Lit.int .i64 y).wf = true) (s1 : Rd w w.heap.size B1 k1 d1 (iv z1)) (t1 : ∀ y ∈ z1, (Lit.int .i64 y).wf = true) (r2 : RdL w w.heap.size A2 n2 c2 L2) (r3 : RdL w w.heap.size A3 n3 c3 L3) :
    Calls Try.prog 7 #[.int .i64 a0, .agg #[.slice A1 n1 c1, .slice B1 k1 d1], .slice A2 n2 c2, .slice A3 n3 c3] w fun e w' => e = .returned (.bool true) ∧ Below w.heap.size w w' := by
  have hl2 := r2.len
  have hl3 := r3.len
  obtain ⟨wA, hwA⟩ : ∃ wA, wA = w.alloc (.cells #[.slice A1 n1 c1, .slice B1 k1 d1] 24) := ⟨_, rfl⟩
  have hgA : Below w.heap.size w wA := by rw [hwA]; exact allocD _ _
  have hF := fewL_c (rdLD r2 hgA) hgA.size 40
  rw [hwA] at hF
  have HF := Lib.hid hF
  have HFN := Lib.hid (fun (h : fewL L2 40 = true) => fewL_iff.1 h)
  have HFN3 := Lib.hid (fun (h : fewL L3 20 = true) => fewL_iff.1 h)
  have HW0 := Lib.hid w0
  have hsA : wA.heap.size = w.heap.size + 1 := by rw [hwA]; simp
  have q0 : wA.cell? ⟨w.heap.size, 0, none⟩ = some (.slice A1 n1 c1) := by rw [hwA, World.cell?_alloc_at _ _ _ _ rfl]; rfl
  have q1 : wA.cell? ⟨w.heap.size, 1, none⟩ = some (.slice B1 k1 d1) := by rw [hwA, World.cell?_alloc_at _ _ _ _ rfl]; rfl
  have HWA := Lib.hid hwA
  clear w0 hF hwA
  go_enter Try.func7, Try.ntmps7
  go_wp2_with fail
  refine HF.out.mono ?_
  rw [← HWA.out]
  rintro e wp ⟨rfl, hbp⟩
  have hgp := bonD hgA hbp
  have kp (j : Nat) : wp.cell? ⟨w.heap.size, j, none⟩ = wA.cell? ⟨w.heap.size, j, none⟩ := hbp.cell (by simp; omega)
  rw [← kp] at q0 q1
  have hsp : w.heap.size < wp.heap.size := by have := hbp.size; omega
  clear hbp hgA hsA kp HWA
  cases hf : fewL L2 40 with
  | false =>
    go_wp2_with fail
    refine awake_c.mono ?_
    rintro e w99 ⟨rfl, hb99⟩
    go_wp2_with fail
    go_ret
    exact ⟨rfl, bonD hgp hb99⟩
  | true =>
    obtain ⟨hsm, hn40⟩ := HFN.out hf
    have hn2 : n2 ≤ 40 := by rw [hl2] at hn40; omega
    have hn2i : (n2 : Int) ≤ 40 := by omega
    have HSM := Lib.hid hsm
    have HF3 := Lib.hid (fewL_c (rdLD r3 hgp) hgp.size 20)
    clear hf HF HFN hsm hn40
    go_wp2_with fail
    refine HF3.out.mono ?_
    rintro e wq ⟨rfl, hbq⟩
    have hg := bonD hgp hbq
    have kq (j : Nat) : wq.cell? ⟨w.heap.size, j, none⟩ = wp.cell? ⟨w.heap.size, j, none⟩ := hbq.cell (by simp; omega)
    rw [← kq] at q0 q1
    have hsq : w.heap.size < wq.heap.size := by have := hbq.size; omega
    clear hbq hgp hsp kq HF3
    cases hf : fewL L3 20 with
    | false =>
      go_wp2_with fail
      refine awake_c.mono ?_
      rintro e w99 ⟨rfl, hb99⟩
      go_wp2_with fail
      go_ret
      exact ⟨rfl, bonD hg hb99⟩
    | true =>
      obtain ⟨hsm, hn20⟩ := HFN3.out hf
      have hn3 : n3 ≤ 20 := by rw [hl3] at hn20; omega
      have hn3i : (n3 : Int) ≤ 20 := by omega
      have HSM3 := Lib.hid hsm
      clear hf HFN3 hsm hn20
      by_cases g1 : 60 < n1
      · have e1 : (60 : Int) < (n1 : Int) := by omega
        clear g1
        go_wp2_with fail
        refine awake_c.mono ?_
        rintro e w99 ⟨rfl, hb99⟩
        go_wp2_with fail
        go_ret
        exact ⟨rfl, bonD hg hb99⟩
      have e1 : ¬ (60 : Int) < (n1 : Int) := by omega
      by_cases g2 : 60 < k1
      · have e2 : (60 : Int) < (k1 : Int) := by omega
        clear g2
        go_wp2_with fail
        refine awake_c.mono ?_
        rintro e w99 ⟨rfl, hb99⟩
        go_wp2_with fail
        go_ret
        exact ⟨rfl, bonD hg hb99⟩
      have e2 : ¬ (60 : Int) < (k1 : Int) := by omega
      have HNEW := Lib.hid (new_c (w := wq) a0 (r1.below hg) (s1.below hg) hg.size hg.size (by omega) x1 t1)
      have hinv0 := inv_plan HW0.out.2 y1 z1 n1
      go_wp2_with fail
      refine HNEW.out.mono ?_
      rintro e wn ⟨S, rfl, hd3, hsee, hb3, hold⟩
      have hat0 : At w wn S ⟨max a0 0, 0, 0, partsD y1 z1 n1, []⟩ := ⟨hd3, hsee, fun k hk => Nat.le_trans hg.size (hold k hk), bonD hg hb3⟩
      obtain ⟨m0, hm0⟩ : ∃ m0 : MD, m0 = ⟨max a0 0, 0, 0, partsD y1 z1 n1, []⟩ := ⟨_, rfl⟩
      rw [← hm0] at hat0 hinv0
      obtain ⟨dp, hdp⟩ : ∃ dp, S.dp = dp := ⟨_, rfl⟩
      rw [hdp]
      clear hd3 hsee hb3 hold HNEW hg hm0 q0 q1 r1 s1 x1 t1 g1 g2 e1 e2 hsq
      go_wp2_with fail
      go_loopw [51] (fun iv wr => ∃ (k : Nat) (S' : DiskS), iv = .int .i64 (k : Int) ∧ k ≤ n2 ∧ S'.dp = dp ∧ At w wr S' (runM m0 ((L2.take k).map LOp.op)) ∧ Inv (runM m0 ((L2.take k).map LOp.op)) k) (fun iv _ => ((n2 : Int) - intOf iv).toNat)
      case atStart => exact ⟨0, S, rfl, Nat.zero_le _, hdp, hat0, hinv0⟩
      case round =>
        clear hat0 hinv0 hdp
        obtain ⟨k, S', rfl, hk, hdpk, hatk, hinvk⟩ := hrel
        by_cases hlt : k < n2
        · obtain ⟨b, off, hA, hbB, hcell⟩ := r2.form (by omega)
          subst hA
          obtain ⟨x, hx⟩ : ∃ x, L2[k]? = some x := ⟨L2[k]'(by omega), List.getElem?_eq_getElem _⟩
          obtain ⟨x0, x1, x2, x3, x4⟩ := hcell k x hx
          have hkc (i : Nat) : wr.cell? ⟨b, i, none⟩ = w.cell? ⟨b, i, none⟩ := hatk.below.cell hbB
          rw [← hkc] at x0 x1 x2 x3 x4
          have hki : (k : Int) < (n2 : Int) := by omega
          have hk0 : (0 : Int) ≤ (k : Int) := by omega
          have hxm := List.mem_of_getElem? hx
          have hxok := r2.ok x hxm
          have hxn : x.n ≤ 60 := ((smallL_iff x).1 (HSM.out x hxm)).2.2.1
          have hrun : runM m0 ((L2.take (k + 1)).map LOp.op) = (doesM (runM m0 ((L2.take k).map LOp.op)) x.op).1 := by
            rw [List.take_add_one, hx, Option.toList_some, List.map_append, List.map_singleton, runM_snoc]
          have HINV := Lib.hid (hinvk.does hatk.nodup (o := x.op) (by show x.b.length ≤ 60; have := hxok.b.len; simp at this; omega))
          have HD := does_a (hatk.boxed (.cells #[.int .u8 (x.what : Int), .string x.s, .string x.t, .slice x.A x.n x.c, .slice x.A2 x.n2 x.c2] 36)) (hinvk.good (by omega)) x hxok hxn
          unfold lv at HD
          rw [hdpk] at HD
          have HD := Lib.hid HD
          have HRUN := Lib.hid hrun
          have HDP := Lib.hid hdpk
          clear hrun hxok hxn hxm hkc hcell hx hatk hinvk hdpk r2 hl2 r3 hl3
          go_wp2_with fail
          refine HD.out.mono ?_
          intro e w5 hp
          obtain ⟨rfl, S2, hN⟩ := hp
          have HN := Lib.hid hN.box
          clear hN HD x0 x1 x2 x3 x4
          go_wp2_with fail
          go_roundw
          case rel => exact ⟨k + 1, S2, by simp, by omega, HN.out.dp.trans HDP.out, by rw [HRUN.out]; exact HN.out.at_, by rw [HRUN.out]; exact HINV.out⟩
          case measure => simp [intOf]; omega
        · have hki : ¬ (k : Int) < (n2 : Int) := by omega
          obtain rfl : k = n2 := by omega
          rw [List.take_of_length_le (by omega)] at hatk hinvk
          generalize runM m0 (L2.map LOp.op) = m at *
          have hinvm := hinvk.more (show k ≤ 40 by omega)
          have HCP := copy_a hatk (hinvm.good (by omega))
          rw [hdpk] at HCP
          have HCP := Lib.hid HCP
          clear hl2 r2 HSM hinvk hk hki hlt
          go_wp2_with fail
          refine HCP.out.mono ?_
          rintro e w2 ⟨Sc, rfl, hcp⟩
          have hsc : ∀ k ∈ foot S', k ∉ foot Sc := hcp.apart hatk.disk.there
          have hcs := apart_symm hsc
          have hatd2 := hcp.orig
          have hatc2 := hcp.copy
          obtain ⟨cp, hcpp⟩ : ∃ cp, Sc.dp = cp := ⟨_, rfl⟩
          rw [hcpp]
          have HFD := files_a hatd2 (hinvm.good (by omega))
          rw [hdpk] at HFD
          have HFD := Lib.hid HFD
          clear HCP hcp hatk
          go_wp2_with fail
          refine HFD.out.mono ?_
          rintro e w3 ⟨b3, q3, rfl, hown3, hb31, hb3⟩
          have hatd3 := hatd2.below_next hb3
          have hatc3 := hatc2.below_next hb3
          have hnd3 : b3 ∉ foot S' := fun hm => by have := hatd2.disk.there _ hm; omega
          have hnc3 : b3 ∉ foot Sc := fun hm => by have := hatc2.disk.there _ hm; omega
          have HFC := files_a hatc3 (hinvm.good (by omega))
          rw [hcpp] at HFC
          have HFC := Lib.hid HFC
          clear HFD hatd2 hatc2 hb3 hb31
          go_wp2_with fail
          refine HFC.out.mono ?_
          rintro e w4 ⟨b4, q4, rfl, hown4, hb41, hb4⟩
          have hatd4 := hatd3.below_next hb4
          have hatc4 := hatc3.below_next hb4
          have hown34 := ownsMap_kept hown3 (hb4.block b3 hown3.lt)
          have HSM1 := Lib.hid (same_c hown4 hown34)
          clear HFC hatd3 hatc3 hb4 hb41 hown3
          go_wp2_with fail
          refine HSM1.out.mono ?_
          rintro e w5 ⟨rfl, hb5⟩
          have hatd5 := hatd4.below_next hb5
          have hatc5 := hatc4.below_next hb5
          have hown5 := ownsMap_kept hown34 (hb5.block b3 hown34.lt)
          have HCC := calls_a hatc5
          have HCD := calls_a hatd5
          have HUC := used_a hatc5
          have HUD := used_a hatd5
          rw [hcpp] at HCC HUC
          rw [hdpk] at HCD HUD
          have HCC := Lib.hid HCC
          have HCD := Lib.hid HCD
          have HUC := Lib.hid HUC
          have HUD := Lib.hid HUD
          have HATD := Lib.hid hatd5
          have HATC := Lib.hid hatc5
          have HOWN := Lib.hid hown5
          clear HSM1 hatd4 hatc4 hown4 hown34 hb5 hatd5 hatc5 hown5
          go_wp2_with fail
          refine HCC.out.mono ?_
          rintro e w5' ⟨rfl, rfl⟩
          go_wp2_with fail
          refine HCD.out.mono ?_
          rintro e w5' ⟨rfl, rfl⟩
          go_wp2_with fail
          refine HUC.out.mono ?_
          rintro e w5' ⟨rfl, rfl⟩
          go_wp2_with fail
          refine HUD.out.mono ?_
          rintro e w5' ⟨rfl, rfl⟩
          go_wp2_with fail
          clear HFC HCC HCD HUC HUD HCP HFD
          go_loopw [14, 88] (fun gv iv wr => ∃ (k : Nat) (T : DiskS) (A : Option Addr) (c : Nat) (xs : List Int), gv = .slice A k c ∧ iv = .int .i64 (k : Int) ∧ k ≤ n3 ∧ GotR w wr w5.heap.size m L3 b3 q3 cp S' T k A c xs) (fun _ iv _ => ((n3 : Int) - intOf iv).toNat)
          case atStart => exact ⟨0, Sc, none, 0, [], rfl, rfl, Nat.zero_le _, HATC.out, hinvm, hcpp, HATD.out, HOWN.out, hcs, hnc3, Fr.nil, (fun _ h => by cases h), (fun i x h => absurd h (Nat.not_lt_zero _)), HATD.out.disk.there, HOWN.out.lt, HATD.out.below.size, Nat.le_refl _⟩
          case round =>
            obtain ⟨k, T, A, c, xs, rfl, rfl, hk, hgot⟩ := hrel
            by_cases hlt : k < n3
            · have hatk := hgot.ac
              have hinvk := hgot.ic
              obtain ⟨b, off, hA, hbB, hcell⟩ := r3.form (by omega)
              subst hA
              obtain ⟨x, hx⟩ : ∃ x, L3[k]? = some x := ⟨L3[k]'(by omega), List.getElem?_eq_getElem _⟩
              obtain ⟨x0, x1, x2, x3, x4⟩ := hcell k x hx
              have hkc (i : Nat) : wr.cell? ⟨b, i, none⟩ = w.cell? ⟨b, i, none⟩ := hatk.below.cell hbB
              rw [← hkc] at x0 x1 x2 x3 x4
              have hki : (k : Int) < (n3 : Int) := by omega
              have hk0 : (0 : Int) ≤ (k : Int) := by omega
              have hxm := List.mem_of_getElem? hx
              have hxok := r3.ok x hxm
              have hxn : x.n ≤ 60 := ((smallL_iff x).1 (HSM3.out x hxm)).2.2.1
              have hrun : runM m ((L3.take (k + 1)).map LOp.op) = (doesM (runM m ((L3.take k).map LOp.op)) x.op).1 := by
                rw [List.take_add_one, hx, Option.toList_some, List.map_append, List.map_singleton, runM_snoc]
              have HINV := Lib.hid (hinvk.does hatk.nodup (o := x.op) (by show x.b.length ≤ 60; have := hxok.b.len; simp at this; omega))
              have HD := does_a (hatk.boxed (.cells #[.int .u8 (x.what : Int), .string x.s, .string x.t, .slice x.A x.n x.c, .slice x.A2 x.n2 x.c2] 36)) (hinvk.good (by omega)) x hxok hxn
              obtain ⟨er, her⟩ : ∃ er, er = (doesM (runM m ((L3.take k).map LOp.op)) x.op).2 := ⟨_, rfl⟩
              obtain ⟨m2, hm2⟩ : ∃ m2, m2 = (doesM (runM m ((L3.take k).map LOp.op)) x.op).1 := ⟨_, rfl⟩
              rw [show doesM (runM m ((L3.take k).map LOp.op)) x.op = (m2, er) by rw [hm2, her]] at HD
              unfold lv at HD
              rw [hgot.dp] at HD
              have HD := Lib.hid HD
              have HGOT := Lib.hid hgot
              have HX := Lib.hid hx
              have HRUN := Lib.hid hrun
              have HER := Lib.hid her
              have HM2 := Lib.hid hm2
              have hHs := hgot.high
              clear hrun hxok hxn hxm hkc hcell hx hatk hinvk hgot r3 hl3 her hm2
              go_wp2_with fail
              refine HD.out.mono ?_
              intro e w6 hp
              obtain ⟨rfl, T2, hN⟩ := hp
              have HN := Lib.hid hN.box
              have hf6 := (fr_off2 HGOT.out.fr HN.out.off HGOT.out.out).alloc (.cells #[.int .i64 er] 37)
              have hH6 : w5.heap.size ≤ (w6.alloc (.cells #[.int .i64 er] 37)).heap.size := by have := HN.out.off.size; simp; omega
              clear hN HD x0 x1 x2 x3 x4
              go_wp2_with (at_builtin; refine wpList_app rfl (.tmp 92) (.tmp 96) _ rfl Try.underlying64 info_err rfl rfl hf6 rfl (Rd.lit w6 37 [.int .i64 er] (k := 1) rfl (by decide) (Nat.lt_succ_self _)) (fun u hu => by rw [List.mem_singleton] at hu; subst hu; rfl) (by omega) (by omega) hH6 ?_; intro A' c' w7 hap; have HAP := Lib.hid hap; clear hap)
              go_roundw
              case rel => exact ⟨k + 1, T2, A', c', xs ++ [er], by simp, by simp, by omega, HGOT.out.step HX.out HRUN.out (by rw [HRUN.out]; exact HINV.out) (by rw [← HM2.out]; exact HN.out) HER.out HAP.out⟩
              case measure => simp [intOf]; omega
            · have hki : ¬ (k : Int) < (n3 : Int) := by omega
              obtain rfl : n3 = k := by omega
              obtain ⟨mE, hmE⟩ : ∃ mE, runM m (L3.map LOp.op) = mE := ⟨_, rfl⟩
              have htk : L3.take n3 = L3 := List.take_of_length_le (by omega)
              have hE : runM m ((L3.take n3).map LOp.op) = mE := by rw [htk, hmE]
              have hIE := hgot.ic
              rw [hE] at hIE
              have HFD := files_a hgot.ad (hinvm.good (by omega))
              rw [hdpk] at HFD
              have HFD := Lib.hid HFD
              have HGOT := Lib.hid hgot
              have hown := hgot.own
              clear hgot htk HATD HATC HOWN HCC HCD HUC HUD hnd3 hnc3 hcs hsc
              go_wp2_with fail
              refine HFD.out.mono ?_
              rintro e w8 ⟨b8, q8, rfl, hown8, hb81, hb8⟩
              have hown38 := ownsMap_kept hown (hb8.block b3 hown.lt)
              have HSM2 := Lib.hid (same_c hown8 hown38)
              clear HFD hown hown8 hown38 hb81
              go_wp2_with fail
              refine HSM2.out.mono ?_
              rintro e w9 ⟨rfl, hb9⟩
              have HB9 := Lib.hid (hb8.trans (hb9.mono hb8.size))
              clear HSM2 hb8 hb9
              go_wp2_with fail
              have HR0 := Lib.hid (HGOT.out.run hE hdpk hinvm HB9.out)
              clear HFD
              go_loopw [106] (fun iv wr => ∃ (k : Nat) (S3 : DiskS), iv = .int .i64 (k : Int) ∧ k ≤ n3 ∧ RunR w wr m mE L3 dp T S3 k A n3 c xs) (fun iv _ => ((n3 : Int) - intOf iv).toNat)
              case atStart => exact ⟨0, S', rfl, Nat.zero_le _, HR0.out⟩
              case round =>
                clear HR0 hk hlt hki
                obtain ⟨k, S3, rfl, hk, hR⟩ := hrel
                by_cases hlt : k < n3
                · have hatk := hR.ad
                  have hinvk := hR.id
                  obtain ⟨b, off, hA, hbB, hcell⟩ := r3.form (by omega)
                  subst hA
                  obtain ⟨x, hx⟩ : ∃ x, L3[k]? = some x := ⟨L3[k]'(by omega), List.getElem?_eq_getElem _⟩
                  obtain ⟨x0, x1, x2, x3, x4⟩ := hcell k x hx
                  have hkc (i : Nat) : wr.cell? ⟨b, i, none⟩ = w.cell? ⟨b, i, none⟩ := hatk.below.cell hbB
                  rw [← hkc] at x0 x1 x2 x3 x4
                  have hki : (k : Int) < (n3 : Int) := by omega
                  have hk0 : (0 : Int) ≤ (k : Int) := by omega
                  have hxm := List.mem_of_getElem? hx
                  have hxok := r3.ok x hxm
                  have hxn : x.n ≤ 60 := ((smallL_iff x).1 (HSM3.out x hxm)).2.2.1
                  have hrun : runM m ((L3.take (k + 1)).map LOp.op) = (doesM (runM m ((L3.take k).map LOp.op)) x.op).1 := by
                    rw [List.take_add_one, hx, Option.toList_some, List.map_append, List.map_singleton, runM_snoc]
                  have HINV := Lib.hid (hinvk.does hatk.nodup (o := x.op) (by show x.b.length ≤ 60; have := hxok.b.len; simp at this; omega))
                  obtain ⟨er, her⟩ : ∃ er, er = (doesM (runM m ((L3.take k).map LOp.op)) x.op).2 := ⟨_, rfl⟩
                  obtain ⟨m2, hm2⟩ : ∃ m2, m2 = (doesM (runM m ((L3.take k).map LOp.op)) x.op).1 := ⟨_, rfl⟩
                  have HY := HGOT.out.got k x hlt hx
                  rw [← her] at HY
                  have HR0 := Lib.hid (hR.below (((Below.refl wr.heap.size wr).alloc (Nat.le_refl _) (.cells #[.int .u8 (x.what : Int), .string x.s, .string x.t, .slice x.A x.n x.c, .slice x.A2 x.n2 x.c2] 36)).drew))
                  obtain ⟨gb, goff, hA', hgbl, hgbn, hgc⟩ := HR0.out.cell hlt HY
                  subst hA'
                  have hop1 := OpC.new wr x
                  have hgd : wr.heap.size ∉ foot S3 := fun hm => by have := hatk.disk.there _ hm; omega
                  have hgs : wr.heap.size < ((wr.alloc (.cells #[.int .u8 (x.what : Int), .string x.s, .string x.t, .slice x.A x.n x.c, .slice x.A2 x.n2 x.c2] 36)).drew).heap.size := by show wr.heap.size < (wr.alloc _).heap.size; simp
                  have HD := does_a HR0.out.ad (HR0.out.id.good (by omega)) x hxok hxn
                  rw [show doesM (runM m ((L3.take k).map LOp.op)) x.op = (m2, er) by rw [hm2, her]] at HD
                  unfold lv at HD
                  rw [HR0.out.dp] at HD
                  have HD := Lib.hid HD
                  have HRUN := Lib.hid (hrun.trans hm2.symm)
                  have HRUN2 := Lib.hid hrun
                  obtain ⟨gz, hgz⟩ : ∃ gz, wr.heap.size = gz := ⟨_, rfl⟩
                  rw [hgz] at hop1 hgd hgs
                  have hop3 : OpC ((wr.alloc (.cells #[.int .u8 (x.what : Int), .string x.s, .string x.t, .slice x.A x.n x.c, .slice x.A2 x.n2 x.c2] 36)).drew) gz x := hop1
                  have HOP3 := Lib.hid hop3
                  obtain ⟨o0, o1, o2, o3, o4⟩ := hop3
                  have HS0 := Lib.hid (And.intro o0 (And.intro o1 (And.intro o2 (And.intro o3 (And.intro o4 hgc)))))
                  have HGC := Lib.hid hgc
                  have HLT := Lib.hid (And.intro hgbl (And.intro hgbn (And.intro hgs hgd)))
                  have hg0 : (0 : Int) ≤ (k : Int) := by omega
                  clear hrun hxok hxn hxm hkc hcell hx hatk hinvk hR r3 hl3 her hm2 hop1 hgbl hgbn hgs hgd hgc o0 o1 o2 o3 o4
                  go_wp2_with fail
                  go_region_held3 (fun w' => w'.cell? ⟨gz, 0, none⟩ = some (.int .u8 (x.what : Int)) ∧ w'.cell? ⟨gz, 1, none⟩ = some (.string x.s) ∧ w'.cell? ⟨gz, 2, none⟩ = some (.string x.t) ∧ w'.cell? ⟨gz, 3, none⟩ = some (.slice x.A x.n x.c) ∧ w'.cell? ⟨gz, 4, none⟩ = some (.slice x.A2 x.n2 x.c2) ∧ w'.cell? ⟨gb, goff + k, none⟩ = some (.int .i64 er))
                    ((first | assumption | exact hS6 | exact HS0.out))
                    (first | (go_at_call_of 13 dp; refine HD.out.mono ?_; intro e w6 hp; obtain ⟨rfl, S4, hN⟩ := hp; have HN := Lib.hid hN; have hS6 := opC_more (HOP3.out.off HN.out.off HLT.out.2.2.1 HLT.out.2.2.2) ((HN.out.off.cell (p := ⟨gb, goff + k, none⟩) HLT.out.1 HLT.out.2.1).trans HGC.out)))
                  go_wp2_with fail
                  go_roundw
                  case rel => exact ⟨k + 1, S4, by simp, by omega, HR0.out.step HRUN.out (by rw [HRUN2.out]; exact HINV.out) HN.out⟩
                  case measure => simp [intOf]; omega
                · have hki : ¬ (k : Int) < (n3 : Int) := by omega
                  obtain rfl : n3 = k := by omega
                  obtain ⟨hS, hI, hD, hT, hap, -, -⟩ := hR
                  rw [hE] at hS hI
                  have hG := Lib.hid ((hI.more (show 40 + n3 ≤ 60 by omega)).good (by omega))
                  have HN := Lib.hid hI.few
                  have HTC := Lib.hid HGOT.out.dp
                  have HFE := files_a hS hG.out
                  rw [hD] at HFE
                  have HFE := Lib.hid HFE
                  clear HGOT hE hmE hIE hI HB9 r3 hl3 hinvm hdpk hcpp HSM3 hlt hk
                  go_wp2_with fail
                  refine HFE.out.mono ?_
                  rintro e w10 ⟨b10, q10, rfl, hown10, hb101, hb10⟩
                  have hS10 := hS.below_next hb10
                  have hT10 := hT.below_next hb10
                  have HLI := list_a hS10 hG.out
                  rw [hD] at HLI
                  have HLI := Lib.hid HLI
                  clear HFE hb101 hb10 hS hT
                  go_wp2_with fail
                  refine HLI.out.mono ?_
                  rintro e w11 ⟨A9, n9, c9, rfl, hf9, hb9⟩
                  have hS11 := Lib.hid (hS10.below_next hb9)
                  have hT11 := Lib.hid (hT10.below_next hb9)
                  have hown11 := Lib.hid (ownsMap_kept hown10 (hb9.block b10 hown10.lt))
                  have hlen9 : mE.files.length = n9 := by have := hf9.len; simpa using this
                  have hn9i : (n9 : Int) ≤ 60 := by have := HN.out; omega
                  have HF9 := Lib.hid hf9
                  clear HLI hS10 hT10 hown10 hb9 hf9
                  go_wp2_with fail
                  go_loopw [125] (fun iv wr => ∃ k : Nat, iv = .int .i64 (k : Int) ∧ k ≤ n9 ∧ Below w11.heap.size w11 wr) (fun iv _ => ((n9 : Int) - intOf iv).toNat)
                  case atStart => exact ⟨0, rfl, Nat.zero_le _, Below.refl _ _⟩
                  case round =>
                    obtain ⟨k, rfl, hk, hbr⟩ := hrel
                    by_cases hlt : k < n9
                    · obtain ⟨gb, off, hA9, hgb, hcell⟩ := (HF9.out.rd (Nat.le_refl _)).form (by omega)
                      subst hA9
                      obtain ⟨p, hp⟩ : ∃ p, mE.files[k]? = some p := ⟨mE.files[k]'(by omega), List.getElem?_eq_getElem _⟩
                      have x0 : wr.cell? ⟨gb, off + k, none⟩ = some (.string ⟨p.1.toArray⟩) := (hbr.cell hgb).trans (hcell k (encStr p.1) (by rw [List.getElem?_map, List.getElem?_map, hp]; rfl))
                      have hki : (k : Int) < (n9 : Int) := by omega
                      have hk0 : (0 : Int) ≤ (k : Int) := by omega
                      obtain ⟨nm, hnm⟩ : ∃ nm : ByteArray, nm = ⟨p.1.toArray⟩ := ⟨_, rfl⟩
                      rw [← hnm] at x0
                      have HR := read_a (hS11.out.below_next hbr) hG.out nm
                      rw [hD] at HR
                      have HR := Lib.hid HR
                      have HB := Lib.hid hbr
                      have hsz : w11.heap.size ≤ wr.heap.size := hbr.size
                      clear hbr hcell hp hnm
                      go_wp2_with fail
                      refine HR.out.mono ?_
                      rintro e w12 ⟨A, n, c, rfl, hf12, hb12, -⟩
                      have hr12 := hf12.rd (Nat.le_refl _)
                      have hcap := hr12.cap
                      have hmax := hr12.max
                      have hni : (n : Int) ≤ 9223372036854775807 := by
                        have : maxLen ≤ 9223372036854775807 := by decide
                        omega
                      have hfree := Lib.hid ((Free.of_fr hf12).more hsz)
                      have hb12' := Lib.hid (HB.out.trans (hb12.mono hsz))
                      clear HR hr12 hmax hf12 hb12 hcap
                      go_wp2_with fail
                      go_loopw [137] (fun iv wi => ∃ j : Nat, iv = .int .i64 (j : Int) ∧ j ≤ n ∧ Below w11.heap.size w11 wi ∧ Free wi w11.heap.size A n) (fun iv _ => ((n : Int) - intOf iv).toNat)
                      case atStart => exact ⟨0, rfl, Nat.zero_le _, hb12'.out, hfree.out⟩
                      case round =>
                        clear hfree hb12' x0
                        obtain ⟨j, rfl, hj, hi, hfr⟩ := hrel
                        by_cases hjn : j < n
                        · have hji : (j : Int) < (n : Int) := by omega
                          have hj0 : (0 : Int) ≤ (j : Int) := by omega
                          obtain ⟨g, rfl, hg, ⟨v, hv0, hv1, hv⟩, hfz, cur, hh⟩ := hfr.cell hjn
                          have HI := Lib.hid hi
                          have HFR := Lib.hid hfr
                          clear hh hi hfr
                          go_wp2_with fail
                          go_roundw
                          case rel => exact ⟨j + 1, by simp, by omega, HI.out.setCell (p := ⟨g, j, none⟩) hg _, HFR.out.set g j (by omega) (by omega)⟩
                          case measure => simp [intOf]; omega
                        · have hji : ¬ (j : Int) < (n : Int) := by omega
                          have HI := Lib.hid hi
                          clear hfr hi
                          go_wp2_with fail
                          go_roundw
                          case rel => exact ⟨k + 1, by simp, by omega, HI.out⟩
                          case measure => simp [intOf]; omega
                    · have hki : ¬ (k : Int) < (n9 : Int) := by omega
                      have hT12 := hT11.out.below_next hbr
                      have hS12 := hS11.out.below_next hbr
                      have hown12 := ownsMap_kept hown11.out (hbr.block b10 hown11.out.lt)
                      have HFC := files_a hT12 hG.out
                      rw [HTC.out] at HFC
                      have HFC := Lib.hid HFC
                      clear hbr HF9
                      go_wp2_with fail
                      refine HFC.out.mono ?_
                      rintro e w13 ⟨b13, q13, rfl, hown13, hb131, hb13⟩
                      have hS13 := hS12.below_next hb13
                      have hownA := ownsMap_kept hown12 (hb13.block b10 hown12.lt)
                      have HSMA := Lib.hid (same_c hown13 hownA)
                      clear HFC hT12 hS12 hown12 hown13 hb13 hb131
                      go_wp2_with fail
                      refine HSMA.out.mono ?_
                      rintro e w14 ⟨rfl, hb14⟩
                      have hS14 := hS13.below_next hb14
                      have hownB := ownsMap_kept hownA (hb14.block b10 hownA.lt)
                      have HFD := files_a hS14 hG.out
                      rw [hD] at HFD
                      have HFD := Lib.hid HFD
                      clear HSMA hS13 hownA hb14
                      go_wp2_with fail
                      refine HFD.out.mono ?_
                      rintro e w15 ⟨b15, q15, rfl, hown15, hb151, hb15⟩
                      have hgA := bonD hS14.below hb15
                      have hownC := ownsMap_kept hownB (hb15.block b10 hownB.lt)
                      have HSMB := Lib.hid (same_c hown15 hownC)
                      clear HFD hS14 hownB hown15 hownC hb15 hb151
                      go_wp2_with fail
                      refine HSMB.out.mono ?_
                      rintro e w16 ⟨rfl, hb16⟩
                      have hgX := bonD hgA hb16
                      clear HSMB hgA hb16
                      go_wp2_with fail
                      refine awake_c.mono ?_
                      rintro e w99 ⟨rfl, hb99⟩
                      go_wp2_with fail
                      go_ret
                      exact ⟨rfl, bonD hgX hb99⟩

set_option maxRecDepth 100000 in
theorem lifted (os : Os) (started : os.Started) (H : Type) (enc : TypeId × Value → H) :
    ReturnsInHanded {} Try.checked os 7 .any (Rows.diskCopySpec.pre6 enc Try.prog Try.f7 Rows.diskCopyRow.domain false) (Rows.diskCopySpec.post enc Try.prog Try.f7 false true false false) := by
  refine returnsInHanded_of_change (C := Try.checked) own started (by kernel_rfl) Try.func7
    (ChangeSpec.witness6 (enc := enc) (C := Try.checked) false ⟨#[], #[.int .i64 0, .agg #[.slice none 0 0, .slice none 0 0], .slice none 0 0, .slice none 0 0], []⟩ 8 (by kernel_rfl) (by kernel_rfl) (by kernel_rfl) (by kernel_rfl)) ?_
  intro W base args ds gs before hval0 hW hcnd _
  have hval : ∀ (j : Nat) t v, Try.f7.params[j]? = some t → args[j]? = some v → Value.okWide Try.prog W .any base t v := hval0
  have hW' := hW
  obtain ⟨p, q, hA0, hV, rfl, hfz, hnd⟩ := hW
  have hA : DataW.TrodAll enc Try.prog W 0 (fun _ => true) true Try.f7.params.toList args.toList ds p := hA0
  rw [Try.params7] at hA hval
  obtain ⟨v0, vs0, d0, ds0, p0, q0_, hargs, rfl, rfl, h0, r0_⟩ := trodAll_cons hA
  obtain ⟨v1, vs1, d1, ds1, p1, q1_, rfl, rfl, rfl, h1, r1_⟩ := trodAll_cons r0_
  obtain ⟨v2, vs2, d2, ds2, p2, q2_, rfl, rfl, rfl, h2, r2_⟩ := trodAll_cons r1_
  obtain ⟨v3, vs3, d3, ds3, p3, q3_, rfl, rfl, rfl, h3, r3_⟩ := trodAll_cons r2_
  obtain ⟨rfl, rfl, rfl⟩ := trodAll_nil r3_
  obtain rfl : args = #[v0, v1, v2, v3] := by cases args; simp_all
  obtain ⟨rfl, rfl⟩ := trodVars_none hV
  have kk0 := h0
  have lt0 : ∀ x ∈ p0, x.block < W.heap.size := by obtain ⟨m, hm⟩ := kk0; exact DataW.trod_lt m _ _ _ hm
  have kk1 := h1
  have lt1 : ∀ x ∈ p1, x.block < W.heap.size := by obtain ⟨m, hm⟩ := kk1; exact DataW.trod_lt m _ _ _ hm
  have kk2 := h2
  have lt2 : ∀ x ∈ p2, x.block < W.heap.size := by obtain ⟨m, hm⟩ := kk2; exact DataW.trod_lt m _ _ _ hm
  have kk3 := h3
  have lt3 : ∀ x ∈ p3, x.block < W.heap.size := by obtain ⟨m, hm⟩ := kk3; exact DataW.trod_lt m _ _ _ hm
  obtain ⟨a0, e0, _, _, w0⟩ := open_int Try.underlying3 (hval 0 _ v0 rfl rfl) h0
  subst e0
  replace w0 := bounds_i64 w0
  obtain ⟨A1, B1, n1, c1, k1, d1, y1, z1, e1, r1, x1, s1, t1⟩ := open_plan h1 (hval 1 _ v1 rfl rfl)
  subst e1
  obtain ⟨A2, n2, c2, L2, e2, r2⟩ := open_lops h2 (hval 2 _ v2 rfl rfl)
  subst e2
  obtain ⟨A3, n3, c3, L3, e3, r3⟩ := open_lops h3 (hval 3 _ v3 rfl rfl)
  subst e3
  clear hA0 hval0
  refine (walk a0 A1 B1 n1 c1 k1 d1 y1 z1 A2 n2 c2 L2 A3 n3 c3 L3 W w0 r1 x1 s1 t1 r2 r3).mono fun e W' ⟨he, bel⟩ => ?_
  subst he
  exact ⟨_, rfl, _, _, _, [], _, [], hW', trodAll_mk1 (shut_bool Try.underlying4 _), (trodAll_cons_mk (Below.trod laidOut (by kernel_rfl) (of_decide_eq_true (by kernel_rfl)) kk0 bel lt0) (trodAll_cons_mk (Below.trod laidOut (by kernel_rfl) (of_decide_eq_true (by kernel_rfl)) kk1 bel lt1) (trodAll_cons_mk (Below.trod laidOut (by kernel_rfl) (of_decide_eq_true (by kernel_rfl)) kk2 bel lt2) (trodAll_cons_mk (Below.trod laidOut (by kernel_rfl) (of_decide_eq_true (by kernel_rfl)) kk3 bel lt3) trodAll_mk0)))), rfl, bel.frame _, fun h => by cases h⟩

theorem over : Rows.diskCopyRow.holds Try.pinned (OpenSpec.ofChange Rows.diskCopySpec) :=
  OpenClaim.holds_of_wide 7 Try.f7 rfl rfl rfl rfl rfl rfl rfl ⟨rfl, rfl, rfl, rfl, rfl⟩ rfl rfl rfl rfl rfl (by kernel_rfl) Try.func7 (by kernel_rfl)
    (of_decide_eq_true (by kernel_rfl)) (by unfold Func.isWrapper; first | (rw [if_pos (by decide +kernel)]; kernel_rfl) | (rw [if_neg (by decide +kernel)]; exact ⟨rfl, rfl⟩))
    (fun os started H enc _ => lifted os started H enc)

/-- The statement. -/
theorem proved : Rows.DiskCopySaid := over
#print axioms proved
end Go.Proofs.Ytkabgebfbbkioaa.diskCopy
