/-
  DiskSafe: what is synced is there behind any crash, and of what is loose a front; a second crash changes nothing: for every input.
-/
import Derived.Test.YtkabgebfbbkioaaRows
import Derived.Test.YtkabgebfbbkioaaDkG
import Derived.Test.YtkabgebfbbkioaaDk23
import Derived.WalkKit
import Derived.ProofKit
import Derived.OpenShut
import Derived.ShutString
import Derived.ChangeOld
import Derived.Below
import Derived.Deep.QuietTactic
import Derived.BigQuiet
import Derived.RegionTactic
import Derived.BigRegion
namespace Go.Proofs.Ytkabgebfbbkioaa.diskSafe
open Go.Maps Go.Sort Go.ChangeShapes Go.WideShapes Go.ChangeAt Go.RowKit
open Go.ChangeMaps (open_string shut_string)
set_option linter.unusedVariables false

theorem own : ownKnob Try.prog.godebug = none := by kernel_rfl
theorem laidOut : laidOutB Try.prog = true := by kernel_rfl

theorem drewN_addD (w : World) (a b : Nat) : (w.drewN a).drewN b = w.drewN (a + b) := by simp [World.drewN, Nat.add_assoc]
theorem lokD {w w' : World} {B : Nat} {x : LOp} (h : LOk w B x) (hb : Below B w w') : LOk w' B x := ⟨h.what, h.s, h.t, h.b.below hb, h.k.below hb⟩
theorem rdLD {w w' : World} {B n c : Nat} {A : Option Addr} {L : List LOp} (h : RdL w B A n c L) (hb : Below B w w') : RdL w' B A n c L :=
  ⟨h.len, h.cap, h.max, h.nil, fun hn => by
    obtain ⟨b, off, e, hB, hc⟩ := h.form hn
    refine ⟨b, off, e, hB, fun i x hx => ?_⟩
    have hk (j : Nat) : w'.cell? ⟨b, j, none⟩ = w.cell? ⟨b, j, none⟩ := hb.cell hB
    rw [hk, hk, hk, hk, hk]
    exact hc i x hx, fun x hx => lokD (h.ok x hx) hb⟩
theorem size_FM (fs : MF) : Maps.size (FM fs) = fs.length := by simp [FM, Maps.size]
theorem fr_off {w w' : World} {b n c : Nat} {e : TypeId} {A : Option Addr} {xs : List Value} {F : List Nat} (h : Fr w b e A n c xs) (ho : Off F w w') (hF : ∀ k ∈ F, k < b) : Fr w' b e A n c xs := by
  cases A with
  | none => exact Fr.kept (r := none) h (fun g hg => by cases hg)
  | some ad =>
    obtain ⟨h1, h2, h3, h4, -⟩ := h.frozen ad rfl
    obtain ⟨g, o, sp⟩ := ad
    simp only at h1 h2 h3 h4
    subst h3 h4
    exact Fr.kept (r := some g) h (fun g' hg => by cases hg; exact ho.block g h2 (fun hm => by have := hF g hm; omega))
theorem two_boxes (w : World) (g : Nat) (hg : w.heap.size = g) (a b c d : Value) (t : TypeId) :
    (((w.alloc (.cells #[a, b] t)).alloc (.cells #[c, d] t)).drew).cell? ⟨g, 0, none⟩ = some a ∧ (((w.alloc (.cells #[a, b] t)).alloc (.cells #[c, d] t)).drew).cell? ⟨g, 1, none⟩ = some b ∧ (((w.alloc (.cells #[a, b] t)).alloc (.cells #[c, d] t)).drew).cell? ⟨g + 1, 0, none⟩ = some c ∧ (((w.alloc (.cells #[a, b] t)).alloc (.cells #[c, d] t)).drew).cell? ⟨g + 1, 1, none⟩ = some d := by
  subst hg
  have e (p : Addr) : (((w.alloc (.cells #[a, b] t)).alloc (.cells #[c, d] t)).drew).cell? p = ((w.alloc (.cells #[a, b] t)).alloc (.cells #[c, d] t)).cell? p := rfl
  refine ⟨?_, ?_, ?_, ?_⟩
  · rw [e, World.cell?_alloc_lt _ _ _ (by simp), World.cell?_alloc_at _ _ _ _ rfl]; rfl
  · rw [e, World.cell?_alloc_lt _ _ _ (by simp), World.cell?_alloc_at _ _ _ _ rfl]; rfl
  · rw [e, World.cell?_alloc_at _ _ _ _ (by simp)]; rfl
  · rw [e, World.cell?_alloc_at _ _ _ _ (by simp)]; rfl
structure Two (w11 wz : World) (fb gv : ByteArray) (u : Int) (F G : Nat) : Prop where
  below : Below w11.heap.size w11 wz
  f0 : wz.cell? ⟨F, 0, none⟩ = some (.string fb)
  f1 : wz.cell? ⟨F, 1, none⟩ = some (.int .i64 u)
  g0 : wz.cell? ⟨G, 0, none⟩ = some (.string gv)
  g1 : wz.cell? ⟨G, 1, none⟩ = some (.int .i64 0)
theorem two_at1 {w11 wr : World} (h : Below w11.heap.size w11 wr) (gz : Nat) (hg : wr.heap.size = gz) (fb gv : ByteArray) (u : Int) :
    Two w11 ((wr.alloc (Obj.cells #[.string fb, .int .i64 u] 58)).alloc (Obj.cells #[.string gv, .int .i64 0] 58)).drew fb gv u gz (gz + 1) := by
  obtain ⟨y0, y1, y2, y3⟩ := two_boxes wr gz hg (.string fb) (.int .i64 u) (.string gv) (.int .i64 0) 58
  exact ⟨((h.alloc h.size _).alloc (by have := h.size; simp; omega) _).drew, y0, y1, y2, y3⟩
theorem two_at2 {w11 wr : World} (h : Below w11.heap.size w11 wr) (gz : Nat) (hg : wr.heap.size = gz) (fb gv : ByteArray) (u : Int) :
    Two w11 ((wr.alloc (Obj.cells #[.string gv, .int .i64 0] 58)).alloc (Obj.cells #[.string fb, .int .i64 u] 58)).drew fb gv u (gz + 1) gz := by
  obtain ⟨y0, y1, y2, y3⟩ := two_boxes wr gz hg (.string gv) (.int .i64 0) (.string fb) (.int .i64 u) 58
  exact ⟨((h.alloc h.size _).alloc (by have := h.size; simp; omega) _).drew, y2, y3, y0, y1⟩
theorem front_str {l : List UInt8} {n : Nat} {fb gv : ByteArray} (hf : fb = ⟨l.toArray⟩) (hg : gv = ⟨(l.take (l.length - n)).toArray⟩) (hs : gv.size = l.length - n) : fb.extract 0 gv.size = gv := by
  rw [hs, hf, hg]
  apply ByteArray.ext
  apply Array.toList_inj.1
  simp [ByteArray.data_extract]
set_option maxRecDepth 100000 in
theorem run_front (fb gv : ByteArray) (hle : (gv.size : Int) ≤ (fb.size : Int)) (hex : fb.extract 0 gv.size = gv) (W : World) : (Instr.slice 9 (.string fb) none (some (.int .i64 (gv.size : Int))) none).run Try.prog W = .ok (.string gv) W := by
  rw [run_slice_string_h W 9 fb Try.underlying9 .i64 (gv.size : Int) (by omega) hle, Int.toNat_natCast, hex]
theorem iwf {l : List Int} (h : ∀ y ∈ l, (Lit.int .i64 y).wf = true) {y : Int} (hy : y ∈ l) : -9223372036854775808 ≤ y ∧ y ≤ 9223372036854775807 := bounds_i64 (h y hy)
theorem allocD (w : World) (o : Obj) : Below w.heap.size w (w.alloc o) := (Below.refl _ w).alloc (Nat.le_refl _) o

set_option maxRecDepth 100000 in
set_option maxHeartbeats 8000000 in
theorem walk (a0 : Int) (A1 B1 : Option Addr) (n1 c1 k1 d1 : Nat) (y1 z1 : List Int) (A2 : Option Addr) (n2 c2 : Nat) (L2 : List LOp) (A3 : Option Addr) (n3 c3 : Nat) (z3 : List Int) (w : World) (w0 : -9223372036854775808 ≤ a0 ∧ a0 ≤ 9223372036854775807) (r1 : Rd w w.heap.size A1 n1 c1 (iv y1)) (x1 : ∀ y ∈ y1, (Lit.int .i64 y).wf = true) (s1 : Rd w w.heap.size B1 k1 d1 (iv z1)) (t1 : ∀ y ∈ z1, (Lit.int .i64 y).wf = true) (r2 : RdL w w.heap.size A2 n2 c2 L2) (r3 : Rd w w.heap.size A3 n3 c3 (iv z3)) (x3 : ∀ y ∈ z3, (Lit.int .i64 y).wf = true) :
    Calls Try.prog 4 #[.int .i64 a0, .agg #[.slice A1 n1 c1, .slice B1 k1 d1], .slice A2 n2 c2, .slice A3 n3 c3] w fun e w' => e = .returned (.bool true) ∧ Below w.heap.size w w' := by
  have hl2 := r2.len
  obtain ⟨wA, hwA⟩ : ∃ wA, wA = w.alloc (.cells #[.slice A1 n1 c1, .slice B1 k1 d1] 24) := ⟨_, rfl⟩
  have hgA : Below w.heap.size w wA := by rw [hwA]; exact allocD _ _
  have hF := fewL_c (rdLD r2 hgA) hgA.size 60
  rw [hwA] at hF
  have HF := Lib.hid hF
  have HFN := Lib.hid (fun (h : fewL L2 60 = true) => fewL_iff.1 h)
  have HW0 := Lib.hid w0
  have hsA : wA.heap.size = w.heap.size + 1 := by rw [hwA]; simp
  have q0 : wA.cell? ⟨w.heap.size, 0, none⟩ = some (.slice A1 n1 c1) := by rw [hwA, World.cell?_alloc_at _ _ _ _ rfl]; rfl
  have q1 : wA.cell? ⟨w.heap.size, 1, none⟩ = some (.slice B1 k1 d1) := by rw [hwA, World.cell?_alloc_at _ _ _ _ rfl]; rfl
  have HWA := Lib.hid hwA
  clear w0 hF hwA
  go_enter Try.func4, Try.ntmps4
  go_wp2_with fail
  refine HF.out.mono ?_
  rw [← HWA.out]
  rintro e wq ⟨rfl, hbq⟩
  have hg := bonD hgA hbq
  have kq (j : Nat) : wq.cell? ⟨w.heap.size, j, none⟩ = wA.cell? ⟨w.heap.size, j, none⟩ := hbq.cell (by simp; omega)
  rw [← kq] at q0 q1
  have hsq : w.heap.size < wq.heap.size := by have := hbq.size; omega
  clear hbq hgA hsA kq HWA
  cases hf : fewL L2 60 with
  | false =>
    go_wp2_with fail
    refine awake_c.mono ?_
    rintro e w99 ⟨rfl, hb99⟩
    go_wp2_with fail
    go_ret
    exact ⟨rfl, bonD hg hb99⟩
  | true =>
    obtain ⟨hsm, hn60⟩ := HFN.out hf
    have hn2 : n2 ≤ 60 := by rw [hl2] at hn60; omega
    have hn2i : (n2 : Int) ≤ 60 := by omega
    have HSM := Lib.hid hsm
    clear hf HF HFN hsm hn60
    by_cases g1 : 60 < n1
    · have e1 : (60 : Int) < (n1 : Int) := by omega
      clear g1
      go_wp2_with fail
      refine awake_c.mono ?_
      rintro e w99 ⟨rfl, hb99⟩
      go_wp2_with fail
      go_ret
      exact ⟨rfl, bonD hg hb99⟩
    have e1 : ¬ (60 : Int) < (n1 : Int) := by omega
    by_cases g2 : 60 < k1
    · have e2 : (60 : Int) < (k1 : Int) := by omega
      clear g2
      go_wp2_with fail
      refine awake_c.mono ?_
      rintro e w99 ⟨rfl, hb99⟩
      go_wp2_with fail
      go_ret
      exact ⟨rfl, bonD hg hb99⟩
    have e2 : ¬ (60 : Int) < (k1 : Int) := by omega
    by_cases g3 : 60 < n3
    · have e3 : (60 : Int) < (n3 : Int) := by omega
      clear g3
      go_wp2_with fail
      refine awake_c.mono ?_
      rintro e w99 ⟨rfl, hb99⟩
      go_wp2_with fail
      go_ret
      exact ⟨rfl, bonD hg hb99⟩
    have e3 : ¬ (60 : Int) < (n3 : Int) := by omega
    have HNEW := Lib.hid (new_c (w := wq) a0 (r1.below hg) (s1.below hg) hg.size hg.size (by omega) x1 t1)
    have hinv0 := inv_plan HW0.out.2 y1 z1 n1
    go_wp2_with fail
    refine HNEW.out.mono ?_
    rintro e wn ⟨S, rfl, hd3, hsee, hb3, hold⟩
    have hat0 : At w wn S ⟨max a0 0, 0, 0, partsD y1 z1 n1, []⟩ := ⟨hd3, hsee, fun k hk => Nat.le_trans hg.size (hold k hk), bonD hg hb3⟩
    obtain ⟨m0, hm0⟩ : ∃ m0 : MD, m0 = ⟨max a0 0, 0, 0, partsD y1 z1 n1, []⟩ := ⟨_, rfl⟩
    rw [← hm0] at hat0 hinv0
    obtain ⟨dp, hdp⟩ : ∃ dp, S.dp = dp := ⟨_, rfl⟩
    rw [hdp]
    clear hd3 hsee hb3 hold HNEW hg hm0 q0 q1 r1 s1 x1 t1 g1 g2 e1 e2 hsq
    go_wp2_with fail
    go_loopw [47] (fun iv wr => ∃ (k : Nat) (S' : DiskS), iv = .int .i64 (k : Int) ∧ k ≤ n2 ∧ S'.dp = dp ∧ At w wr S' (runM m0 ((L2.take k).map LOp.op)) ∧ Inv (runM m0 ((L2.take k).map LOp.op)) k) (fun iv _ => ((n2 : Int) - intOf iv).toNat)
    case atStart => exact ⟨0, S, rfl, Nat.zero_le _, hdp, hat0, hinv0⟩
    case round =>
      clear hat0 hinv0 hdp
      obtain ⟨k, S', rfl, hk, hdpk, hatk, hinvk⟩ := hrel
      by_cases hlt : k < n2
      · obtain ⟨b, off, hA, hbB, hcell⟩ := r2.form (by omega)
        subst hA
        obtain ⟨x, hx⟩ : ∃ x, L2[k]? = some x := ⟨L2[k]'(by omega), List.getElem?_eq_getElem _⟩
        obtain ⟨x0, x1, x2, x3, x4⟩ := hcell k x hx
        have hkc (i : Nat) : wr.cell? ⟨b, i, none⟩ = w.cell? ⟨b, i, none⟩ := hatk.below.cell hbB
        rw [← hkc] at x0 x1 x2 x3 x4
        have hki : (k : Int) < (n2 : Int) := by omega
        have hk0 : (0 : Int) ≤ (k : Int) := by omega
        have hxm := List.mem_of_getElem? hx
        have hxok := r2.ok x hxm
        have hxn : x.n ≤ 60 := ((smallL_iff x).1 (HSM.out x hxm)).2.2.1
        have hrun : runM m0 ((L2.take (k + 1)).map LOp.op) = (doesM (runM m0 ((L2.take k).map LOp.op)) x.op).1 := by
          rw [List.take_add_one, hx, Option.toList_some, List.map_append, List.map_singleton, runM_snoc]
        have HINV := Lib.hid (hinvk.does hatk.nodup (o := x.op) (by show x.b.length ≤ 60; have := hxok.b.len; simp at this; omega))
        have HD := does_a (hatk.boxed (.cells #[.int .u8 (x.what : Int), .string x.s, .string x.t, .slice x.A x.n x.c, .slice x.A2 x.n2 x.c2] 36)) (hinvk.good (by omega)) x hxok hxn
        unfold lv at HD
        rw [hdpk] at HD
        have HD := Lib.hid HD
        have HRUN := Lib.hid hrun
        have HDP := Lib.hid hdpk
        clear hrun hxok hxn hxm hkc hcell hx hatk hinvk hdpk r2 hl2 r3 g3 e3
        go_wp2_with fail
        refine HD.out.mono ?_
        intro e w5 hp
        obtain ⟨rfl, S2, hN⟩ := hp
        have HN := Lib.hid hN.box
        clear hN HD x0 x1 x2 x3 x4
        go_wp2_with fail
        go_roundw
        case rel => exact ⟨k + 1, S2, by simp, by omega, HN.out.dp.trans HDP.out, by rw [HRUN.out]; exact HN.out.at_, by rw [HRUN.out]; exact HINV.out⟩
        case measure => simp [intOf]; omega
      · have hki : ¬ (k : Int) < (n2 : Int) := by omega
        obtain rfl : k = n2 := by omega
        rw [List.take_of_length_le (by omega)] at hatk hinvk
        generalize runM m0 (L2.map LOp.op) = m at *
        have HF1 := files_a hatk (hinvk.good (by omega))
        rw [hdpk] at HF1
        have HF1 := Lib.hid HF1
        clear hl2 r2 HSM
        go_wp2_with fail
        refine HF1.out.mono ?_
        rintro e w8 ⟨b8, q8, rfl, hown8, hb81, hb8⟩
        have hat8 := hatk.below_next hb8
        have hn8 : b8 ∉ foot S' := fun hm => by have := hatk.disk.there _ hm; omega
        have HC := calls_a hat8
        rw [hdpk] at HC
        have HC := Lib.hid HC
        clear hatk HF1 hb81 hb8
        go_wp2_with fail
        refine HC.out.mono ?_
        rintro e w8' ⟨rfl, rfl⟩
        have HL := list_a hat8 (hinvk.good (by omega))
        rw [hdpk] at HL
        have HL := Lib.hid HL
        clear HC
        go_wp2_with fail
        refine HL.out.mono ?_
        rintro e w9 ⟨A9, n9, c9, rfl, hf9, hb9⟩
        have hat9 := hat8.below_next hb9
        have hown9 := ownsMap_kept hown8 (hb9.block b8 hown8.lt)
        have hlen9 : m.files.length = n9 := by have := hf9.len; simpa using this
        have HCR := crash_a hat9 (hinvk.good (by omega)) (A := A3) (n := n3) (c := c3) (keeps := z3) (fun w' ho => r3.keep fun p hp => ((ho.below hat9.below.size hat9.old).cell hp).trans (hat9.below.cell hp))
        rw [hdpk] at HCR
        have HCR := Lib.hid HCR
        have hat8' := hat8
        have HND := Lib.hid hat8.nodup
        have hsafe := hat8.safe
        clear HL hat8 hown8 hb9
        have hs9 : ∀ k ∈ foot S', k < w8.heap.size := hat8'.disk.there
        clear hat8'
        go_wp2_with fail
        refine HCR.out.mono ?_
        rintro e w10 ⟨rfl, S9, hN⟩
        have hown10 := ownsMap_kept hown9 (hN.off.block b8 hown9.lt hn8)
        have hf10 := fr_off hf9 hN.off hs9
        have hat10 := hN.at_
        have hdp10 := hN.dp.trans hdpk
        have hinv10 := hinvk.crash z3
        have HF2 := files_a hat10 (hinv10.good (by omega))
        rw [hdp10] at HF2
        have HF2 := Lib.hid HF2
        clear HCR hat9 hown9 hf9 hN hn8 hs9
        go_wp2_with fail
        refine HF2.out.mono ?_
        rintro e w11 ⟨b11, q11, rfl, hown11, hb111, hb11⟩
        have hat11 := hat10.below_next hb11
        have hn11 : b11 ∉ foot S9 := fun hm => by have := hat10.disk.there _ hm; omega
        have hn9i : (n9 : Int) ≤ 60 := by have := hinvk.few; omega
        have ho8 := ownsMap_kept hown10 (hb11.block b8 hown10.lt)
        have hf11 := hf10.below hb11
        have hlen11 : (crashM m z3).files.length = n9 := by rw [← hlen9]; exact crashMF_len z3 0 m.files
        have HC := calls_a hat11
        rw [hdp10] at HC
        have HC := Lib.hid HC
        have l1 := fun ty => ho8.len Try.underlying51 ty
        have l2 := fun ty => hown11.len Try.underlying51 ty
        rw [size_FM, hlen9] at l1
        rw [size_FM, hlen11] at l2
        clear hat10 hown10 hf10 HF2 hb11 hb111
        go_wp2_with fail
        refine HC.out.mono ?_
        rintro e w11' ⟨rfl, rfl⟩
        rw [show (crashM m z3).calls = m.calls from rfl]
        have HND11 := Lib.hid hat11.nodup
        have HNM11 := Lib.hid hinv10.names
        have HSF := Lib.hid hsafe
        have HB11 := Lib.hid hat11.below
        have HBG := Lib.hid (show ∀ p ∈ m.files, (p.2.1.length : Int) ≤ 1000000 from fun p hp => by
          have h1 := hinvk.sum
          have h2 := hinvk.small
          obtain ⟨a, b, e⟩ := List.append_of_mem hp
          rw [e, sumM_app, sumM_cons] at h1
          omega)
        clear HC
        clear hsafe
        go_wp2_with fail
        go_loopw [86] (fun iv wr => ∃ j : Nat, iv = .int .i64 (j : Int) ∧ j ≤ n9 ∧ Below w11.heap.size w11 wr) (fun iv _ => ((n9 : Int) - intOf iv).toNat)
        case atStart => exact ⟨0, rfl, Nat.zero_le _, Below.refl _ _⟩
        case round =>
          obtain ⟨j, rfl, hj, hbr⟩ := hrel
          by_cases hjl : j < n9
          · have hji : (j : Int) < (n9 : Int) := by omega
            have hj0 : (0 : Int) ≤ (j : Int) := by omega
            obtain ⟨gb, off, rfl, hgb, hcell⟩ := (hf11.rd (Nat.le_refl _)).form (by omega)
            obtain ⟨p, hp⟩ : ∃ p, m.files[j]? = some p := ⟨m.files[j]'(by omega), List.getElem?_eq_getElem _⟩
            have x0 : wr.cell? ⟨gb, off + j, none⟩ = some (.string ⟨p.1.toArray⟩) := (hbr.cell hgb).trans (hcell j (encStr p.1) (by rw [List.getElem?_map, List.getElem?_map, hp]; rfl))
            have hp2 : (crashM m z3).files[j]? = some (p.1, p.2.1.take (p.2.1.length - goneN p.2 (numD z3 j).toNat), p.2.1.length - goneN p.2 (numD z3 j).toNat) := by
              have := crashMF_get z3 m.files 0 j p hp
              rwa [Nat.zero_add] at this
            have hk1 := look_at HND.out hp
            have hk2 := look_at HND11.out hp2
            have hnm := HNM11.out _ (List.mem_of_getElem? hp2)
            have hsz : (⟨p.1.toArray⟩ : ByteArray).size ≤ maxLen := by
              simp only [validB, Bool.and_eq_true, decide_eq_true_eq] at hnm
              exact Nat.le_trans hnm.2 (by decide)
            simp only [] at hk2
            have hlf := fun W (hW : Below w11.heap.size w11 W) => run_lookM (ownsMap_kept ho8 (hW.block b8 ho8.lt)) hsz
            have hlg := fun W (hW : Below w11.heap.size w11 W) => run_lookM (ownsMap_kept hown11 (hW.block b11 hown11.lt)) hsz
            simp only [hk1, hk2, lookV, fileV] at hlf hlg
            obtain ⟨u, hu⟩ : ∃ u, u = ((p.2.1.length - p.2.2 : Nat) : Int) := ⟨_, rfl⟩
            obtain ⟨fb, hfb⟩ : ∃ fb : ByteArray, fb = ⟨p.2.1.toArray⟩ := ⟨_, rfl⟩
            obtain ⟨gn, hgn⟩ : ∃ gn, gn = goneN p.2 (numD z3 j).toNat := ⟨_, rfl⟩
            obtain ⟨gv, hgv⟩ : ∃ gv : ByteArray, gv = ⟨(p.2.1.take (p.2.1.length - gn)).toArray⟩ := ⟨_, rfl⟩
            have hz0 : (((p.2.1.take (p.2.1.length - gn)).length - (p.2.1.length - gn) : Nat) : Int) = 0 := by rw [List.length_take]; omega
            rw [← hu, ← hfb] at hlf
            rw [← hgn, hz0, ← hgv] at hlg
            have hps := HSF.out p (List.mem_of_getElem? hp)
            generalize (⟨p.1.toArray⟩ : ByteArray) = nm at *
            have HU := Lib.hid hu
            have HFB := Lib.hid hfb
            have HGN := Lib.hid hgn
            have HGV := Lib.hid hgv
            have HPS := Lib.hid hps
            have HBIG := Lib.hid (HBG.out p (List.mem_of_getElem? hp))
            have HLF := Lib.hid hlf
            have HLG := Lib.hid hlg
            have HW11 := Lib.hid hbr
            obtain ⟨oF, hoF⟩ : ∃ oF : Obj, oF = .cells #[.string ⟨#[]⟩, .int .i64 0] 58 := ⟨_, rfl⟩
            have hbr1 : Below w11.heap.size w11 (wr.alloc oF).drew := (hbr.alloc hbr.size oF).drew
            have hbr2 : Below w11.heap.size w11 ((wr.alloc oF).alloc oF).drew := ((hbr.alloc hbr.size oF).alloc (by have := hbr.size; simp; omega) oF).drew
            have hlf1 := hlf _ hbr.drew
            have hlg1 := hlg _ hbr.drew
            have hlf2 := hlf _ hbr1
            have hlg2 := hlg _ hbr1
            have hlf3 := hlf _ hbr2
            have hlg3 := hlg _ hbr2
            obtain ⟨oU, hoU⟩ : ∃ oU : Obj, oU = .cells #[.string fb, .int .i64 u] 58 := ⟨_, rfl⟩
            have hbr3 : Below w11.heap.size w11 ((wr.alloc oF).alloc oU).drew := ((hbr.alloc hbr.size oF).alloc (by have := hbr.size; simp; omega) oU).drew
            have hbr4 : Below w11.heap.size w11 ((wr.alloc oU).alloc oF).drew := ((hbr.alloc hbr.size oU).alloc (by have := hbr.size; simp; omega) oF).drew
            have hlg4 := hlg _ hbr3
            have hlg5 := hlg _ hbr4
            rw [hoF] at hlf2 hlf3 hlg2 hlg3 hlg4 hlg5
            rw [hoU] at hlg4 hlg5
            have hszg : w11.heap.size ≤ wr.heap.size := hbr.size
            clear hlf hlg hk1 hk2 hnm hp2 hp hcell hu hfb hgn hgv hps hz0 hsz hf11 ho8 hown11 hinv10 hinvk hlen9 hlen11 hat11 hbr hbr1 hbr2 hoF hbr3 hbr4 hoU
            go_wp2_with fail
            obtain ⟨gz, hgz⟩ : ∃ gz, wr.heap.size = gz := ⟨_, rfl⟩
            refine' (fun (key : ∀ (wz : World) (F G : Nat), Two w11 wz fb gv u F G → (_ : World → Nat → Nat → Prop) wz F G) => ?main) ?kp
            case main =>
              go_region
              all_goals
                first
                  | (have hTW := two_at1 HW11.out gz hgz fb gv u; generalize ((wr.alloc (Obj.cells #[.string fb, .int .i64 u] 58)).alloc (Obj.cells #[.string gv, .int .i64 0] 58)).drew = wz at hTW ⊢; generalize gz + 1 = G at hTW ⊢; generalize gz = F at hTW ⊢; exact key wz F G hTW)
                  | (have hTW := two_at2 HW11.out gz hgz fb gv u; generalize ((wr.alloc (Obj.cells #[.string gv, .int .i64 0] 58)).alloc (Obj.cells #[.string fb, .int .i64 u] 58)).drew = wz at hTW ⊢; generalize gz + 1 = F at hTW ⊢; generalize gz = G at hTW ⊢; exact key wz F G hTW)
            case kp =>
              clear hlf1 hlf2 hlf3 hlg1 hlg2 hlg3 hlg4 hlg5 x0 hgz
              intro wz F G hTW
              obtain ⟨hbW, y0, y1, y2, y3⟩ := hTW
              by_cases hk3 : j < n3
              · have hk3i : (j : Int) < (n3 : Int) := by omega
                obtain ⟨b3, o3, hA3, hb3, hc3⟩ := r3.form (by omega)
                subst hA3
                obtain ⟨kv, hkv⟩ : ∃ kv, z3[j]? = some kv := ⟨z3[j]'(by have := r3.len; simp at this; omega), List.getElem?_eq_getElem _⟩
                have hn3 : numD z3 j = max kv 0 := by unfold numD; rw [List.getD_eq_getElem?_getD, hkv]; rfl
                have xk : wz.cell? ⟨b3, o3 + j, none⟩ = some (.int .i64 kv) := ((hbW.cell (Nat.lt_of_lt_of_le hb3 HB11.out.size)).trans (HB11.out.cell hb3)).trans (hc3 j (.int .i64 kv) (by unfold iv; rw [List.getElem?_map, hkv]; rfl))
                obtain ⟨nv, hnv⟩ : ∃ nv : Int, nv = min (max kv 0) u := ⟨_, rfl⟩
                have hu := HU.out
                have hps := HPS.out
                have hgn := HGN.out
                have hfs : fb.size = p.2.1.length := by rw [HFB.out]; rfl
                have hgs : gv.size = p.2.1.length - gn := by rw [HGV.out]; show (p.2.1.take _).toArray.size = _; rw [List.size_toArray, List.length_take]; omega
                have hNV := Lib.hid hnv
                have hkb := iwf x3 (List.mem_of_getElem? hkv)
                unfold goneN at hgn
                rw [hn3] at hgn
                have hle : (gv.size : Int) ≤ (fb.size : Int) := by omega
                have hsm : (fb.size : Int) ≤ 1000000 := by have := HBIG.out; omega
                have hu0 : 0 ≤ u := by omega
                have hw1 : IntKind.i64.wrap ((fb.size : Int) - u) = (fb.size : Int) - u := by rw [IntKind.wrap_i64]; omega
                have hw2 : IntKind.i64.wrap ((fb.size : Int) - u + nv) = (gv.size : Int) := by rw [IntKind.wrap_i64]; omega
                have hw3 : (fb.size : Int) - u + nv = (gv.size : Int) := by omega
                rw [hnv] at hw2 hw3
                have hex : fb.extract 0 gv.size = gv := front_str HFB.out HGV.out hgs
                clear hu hps hgn hfs hgs hnv hkb hn3 hkv hc3
                go_wp2_with fail
                go_quiet (fail)
                go_wp2_with fail
                have hbY : Below w11.heap.size w11 (wz.drewN nq) := below_drewN hbW _
                have z0 : (wz.drewN nq).cell? ⟨F, 0, none⟩ = some (.string fb) := y0
                have z1 : (wz.drewN nq).cell? ⟨F, 1, none⟩ = some (.int .i64 u) := y1
                have z2 : (wz.drewN nq).cell? ⟨G, 0, none⟩ = some (.string gv) := y2
                have z3' : (wz.drewN nq).cell? ⟨G, 1, none⟩ = some (.int .i64 0) := y3
                clear y0 y1 y2 y3 hbW
                change Code.wp _ _ _ _ (wz.drewN nq)
                generalize wz.drewN nq = wy at hbY z0 z1 z2 z3' ⊢
                have hsl := fun W => run_front fb gv hle hex W
                have HBY := Lib.hid hbY
                clear hbY
                go_quiet (fail)
                go_wp2_with fail
                go_roundw
                case rel => exact ⟨j + 1, by simp, by omega, below_drewN HBY.out _⟩
                case measure => simp [intOf]; omega
              · have hk3i : ¬ (j : Int) < (n3 : Int) := by omega
                have hn3 : numD z3 j = 0 := by
                  have := r3.len
                  unfold numD; rw [List.getD_eq_getElem?_getD, List.getElem?_eq_none (by simp at this; omega)]; rfl
                have hu := HU.out
                have hps := HPS.out
                have hgn := HGN.out
                have hfs : fb.size = p.2.1.length := by rw [HFB.out]; rfl
                have hgs : gv.size = p.2.1.length - gn := by rw [HGV.out]; show (p.2.1.take _).toArray.size = _; rw [List.size_toArray, List.length_take]; omega
                unfold goneN at hgn
                rw [hn3] at hgn
                have hle : (gv.size : Int) ≤ (fb.size : Int) := by omega
                have hsm : (fb.size : Int) ≤ 1000000 := by have := HBIG.out; omega
                have hu0 : 0 ≤ u := by omega
                have hw1 : IntKind.i64.wrap ((fb.size : Int) - u) = (fb.size : Int) - u := by rw [IntKind.wrap_i64]; omega
                have hw2 : IntKind.i64.wrap ((fb.size : Int) - u + 0) = (gv.size : Int) := by rw [IntKind.wrap_i64]; omega
                have hw3 : (fb.size : Int) - u + 0 = (gv.size : Int) := by omega
                have hw4 : (fb.size : Int) - u = (gv.size : Int) := by omega
                have hex : fb.extract 0 gv.size = gv := front_str HFB.out HGV.out hgs
                clear hu hps hgn hfs hgs hn3
                obtain ⟨nv, hnv⟩ : ∃ nv : Int, nv = 0 := ⟨_, rfl⟩
                go_wp2_with fail
                have hbY : Below w11.heap.size w11 (wz.drewN 0) := below_drewN hbW _
                have z0 : (wz.drewN 0).cell? ⟨F, 0, none⟩ = some (.string fb) := y0
                have z1 : (wz.drewN 0).cell? ⟨F, 1, none⟩ = some (.int .i64 u) := y1
                have z2 : (wz.drewN 0).cell? ⟨G, 0, none⟩ = some (.string gv) := y2
                have z3' : (wz.drewN 0).cell? ⟨G, 1, none⟩ = some (.int .i64 0) := y3
                clear y0 y1 y2 y3 hbW
                change Code.wp _ _ _ _ (wz.drewN 0)
                generalize wz.drewN 0 = wy at hbY z0 z1 z2 z3' ⊢
                have hsl := fun W => run_front fb gv hle hex W
                have HBY := Lib.hid hbY
                clear hbY
                go_quiet (fail)
                go_wp2_with fail
                go_roundw
                case rel => exact ⟨j + 1, by simp, by omega, below_drewN HBY.out _⟩
                case measure => simp [intOf]; omega
          · have hji : ¬ (j : Int) < (n9 : Int) := by omega
            have hatZ := hat11.below_next hbr
            have hownZ := ownsMap_kept hown11 (hbr.block b11 hown11.lt)
            have HCZ := crash_a hatZ (hinv10.good (by omega)) (A := none) (n := 0) (c := 0) (keeps := []) (fun w' _ => (Rd.nilv : Rd w' 0 none 0 0 []))
            rw [hdp10, crash_again] at HCZ
            have HCZ := Lib.hid HCZ
            clear hf11 ho8 hown11 hat11 hbr HB11 HBG
            go_wp2_with fail
            refine HCZ.out.mono ?_
            rintro e w12 ⟨rfl, S12, hN12⟩
            have hown12 := ownsMap_kept hownZ (hN12.off.block b11 hownZ.lt hn11)
            have hat12 := hN12.at_
            have hdp12 := hN12.dp.trans hdp10
            have HF3 := files_a hat12 (hinv10.good (by omega))
            rw [hdp12] at HF3
            have HF3 := Lib.hid HF3
            clear HCZ hN12 hownZ hatZ
            go_wp2_with fail
            refine HF3.out.mono ?_
            rintro e w13 ⟨b13, q13, rfl, hown13, hb131, hb13⟩
            have hownY := ownsMap_kept hown12 (hb13.block b11 hown12.lt)
            have HSM := Lib.hid (same_c hown13 hownY)
            have hgY := bonD hat12.below hb13
            clear hown12 hown13 hownY hb13 hb131 HF3 hat12
            go_wp2_with fail
            refine HSM.out.mono ?_
            rintro e w14 ⟨rfl, hb14⟩
            have hgX := bonD hgY hb14
            clear HSM hgY hb14
            go_wp2_with fail
            refine awake_c.mono ?_
            rintro e w99 ⟨rfl, hb99⟩
            go_wp2_with fail
            go_ret
            exact ⟨rfl, bonD hgX hb99⟩

set_option maxRecDepth 100000 in
theorem lifted (os : Os) (started : os.Started) (H : Type) (enc : TypeId × Value → H) :
    ReturnsInHanded {} Try.checked os 4 .any (Rows.diskSafeSpec.pre6 enc Try.prog Try.f4 Rows.diskSafeRow.domain false) (Rows.diskSafeSpec.post enc Try.prog Try.f4 false true false false) := by
  refine returnsInHanded_of_change (C := Try.checked) own started (by kernel_rfl) Try.func4
    (ChangeSpec.witness6 (enc := enc) (C := Try.checked) false ⟨#[], #[.int .i64 0, .agg #[.slice none 0 0, .slice none 0 0], .slice none 0 0, .slice none 0 0], []⟩ 8 (by kernel_rfl) (by kernel_rfl) (by kernel_rfl) (by kernel_rfl)) ?_
  intro W base args ds gs before hval0 hW hcnd _
  have hval : ∀ (j : Nat) t v, Try.f4.params[j]? = some t → args[j]? = some v → Value.okWide Try.prog W .any base t v := hval0
  have hW' := hW
  obtain ⟨p, q, hA0, hV, rfl, hfz, hnd⟩ := hW
  have hA : DataW.TrodAll enc Try.prog W 0 (fun _ => true) true Try.f4.params.toList args.toList ds p := hA0
  rw [Try.params4] at hA hval
  obtain ⟨v0, vs0, d0, ds0, p0, q0_, hargs, rfl, rfl, h0, r0_⟩ := trodAll_cons hA
  obtain ⟨v1, vs1, d1, ds1, p1, q1_, rfl, rfl, rfl, h1, r1_⟩ := trodAll_cons r0_
  obtain ⟨v2, vs2, d2, ds2, p2, q2_, rfl, rfl, rfl, h2, r2_⟩ := trodAll_cons r1_
  obtain ⟨v3, vs3, d3, ds3, p3, q3_, rfl, rfl, rfl, h3, r3_⟩ := trodAll_cons r2_
  obtain ⟨rfl, rfl, rfl⟩ := trodAll_nil r3_
  obtain rfl : args = #[v0, v1, v2, v3] := by cases args; simp_all
  obtain ⟨rfl, rfl⟩ := trodVars_none hV
  have kk0 := h0
  have lt0 : ∀ x ∈ p0, x.block < W.heap.size := by obtain ⟨m, hm⟩ := kk0; exact DataW.trod_lt m _ _ _ hm
  have kk1 := h1
  have lt1 : ∀ x ∈ p1, x.block < W.heap.size := by obtain ⟨m, hm⟩ := kk1; exact DataW.trod_lt m _ _ _ hm
  have kk2 := h2
  have lt2 : ∀ x ∈ p2, x.block < W.heap.size := by obtain ⟨m, hm⟩ := kk2; exact DataW.trod_lt m _ _ _ hm
  have kk3 := h3
  have lt3 : ∀ x ∈ p3, x.block < W.heap.size := by obtain ⟨m, hm⟩ := kk3; exact DataW.trod_lt m _ _ _ hm
  obtain ⟨a0, e0, _, _, w0⟩ := open_int Try.underlying3 (hval 0 _ v0 rfl rfl) h0
  subst e0
  replace w0 := bounds_i64 w0
  obtain ⟨A1, B1, n1, c1, k1, d1, y1, z1, e1, r1, x1, s1, t1⟩ := open_plan h1 (hval 1 _ v1 rfl rfl)
  subst e1
  obtain ⟨A2, n2, c2, L2, e2, r2⟩ := open_lops h2 (hval 2 _ v2 rfl rfl)
  subst e2
  obtain ⟨A3, n3, c3, z3, e3, r3, x3⟩ := open_intsP h3 (hval 3 _ v3 rfl rfl)
  subst e3
  clear hA0 hval0
  refine (walk a0 A1 B1 n1 c1 k1 d1 y1 z1 A2 n2 c2 L2 A3 n3 c3 z3 W w0 r1 x1 s1 t1 r2 r3 x3).mono fun e W' ⟨he, bel⟩ => ?_
  subst he
  exact ⟨_, rfl, _, _, _, [], _, [], hW', trodAll_mk1 (shut_bool Try.underlying4 _), (trodAll_cons_mk (Below.trod laidOut (by kernel_rfl) (of_decide_eq_true (by kernel_rfl)) kk0 bel lt0) (trodAll_cons_mk (Below.trod laidOut (by kernel_rfl) (of_decide_eq_true (by kernel_rfl)) kk1 bel lt1) (trodAll_cons_mk (Below.trod laidOut (by kernel_rfl) (of_decide_eq_true (by kernel_rfl)) kk2 bel lt2) (trodAll_cons_mk (Below.trod laidOut (by kernel_rfl) (of_decide_eq_true (by kernel_rfl)) kk3 bel lt3) trodAll_mk0)))), rfl, bel.frame _, fun h => by cases h⟩

theorem over : Rows.diskSafeRow.holds Try.pinned (OpenSpec.ofChange Rows.diskSafeSpec) :=
  OpenClaim.holds_of_wide 4 Try.f4 rfl rfl rfl rfl rfl rfl rfl ⟨rfl, rfl, rfl, rfl, rfl⟩ rfl rfl rfl rfl rfl (by kernel_rfl) Try.func4 (by kernel_rfl)
    (of_decide_eq_true (by kernel_rfl)) (by unfold Func.isWrapper; first | (rw [if_pos (by decide +kernel)]; kernel_rfl) | (rw [if_neg (by decide +kernel)]; exact ⟨rfl, rfl⟩))
    (fun os started H enc _ => lifted os started H enc)

/-- The statement. -/
theorem proved : Rows.DiskSafeSaid := over
#print axioms proved
end Go.Proofs.Ytkabgebfbbkioaa.diskSafe
