/-
  DiskErrors: a call that has an error changes nothing but how many there were, and an Append that is refused puts a front; a call that has none changes its own file alone: for every input.
-/
import Derived.Test.YtkabgebfbbkioaaRows
import Derived.Test.YtkabgebfbbkioaaDkH
import Derived.Test.YtkabgebfbbkioaaDk23
import Derived.WalkKit
import Derived.ProofKit
import Derived.OpenShut
import Derived.ShutString
import Derived.ChangeOld
import Derived.Below
import Derived.Deep.QuietTactic
import Derived.BigQuiet
import Derived.RegionTactic
import Derived.BigRegion
namespace Go.Proofs.Ytkabgebfbbkioaa.diskErrors
open Go.Maps Go.Sort Go.ChangeShapes Go.WideShapes Go.ChangeAt Go.RowKit
open Go.ChangeMaps (open_string shut_string)
set_option linter.unusedVariables false

theorem own : ownKnob Try.prog.godebug = none := by kernel_rfl
theorem laidOut : laidOutB Try.prog = true := by kernel_rfl

theorem drewN_addD (w : World) (a b : Nat) : (w.drewN a).drewN b = w.drewN (a + b) := by simp [World.drewN, Nat.add_assoc]
theorem lokD {w w' : World} {B : Nat} {x : LOp} (h : LOk w B x) (hb : Below B w w') : LOk w' B x := ⟨h.what, h.s, h.t, h.b.below hb, h.k.below hb⟩
theorem rdLD {w w' : World} {B n c : Nat} {A : Option Addr} {L : List LOp} (h : RdL w B A n c L) (hb : Below B w w') : RdL w' B A n c L :=
  ⟨h.len, h.cap, h.max, h.nil, fun hn => by
    obtain ⟨b, off, e, hB, hc⟩ := h.form hn
    refine ⟨b, off, e, hB, fun i x hx => ?_⟩
    have hk (j : Nat) : w'.cell? ⟨b, j, none⟩ = w.cell? ⟨b, j, none⟩ := hb.cell hB
    rw [hk, hk, hk, hk, hk]
    exact hc i x hx, fun x hx => lokD (h.ok x hx) hb⟩
theorem size_FM (fs : MF) : Maps.size (FM fs) = fs.length := by simp [FM, Maps.size]
theorem fr_off {w w' : World} {b n c : Nat} {e : TypeId} {A : Option Addr} {xs : List Value} {F : List Nat} (h : Fr w b e A n c xs) (ho : Off F w w') (hF : ∀ k ∈ F, k < b) : Fr w' b e A n c xs := by
  cases A with
  | none => exact Fr.kept (r := none) h (fun g hg => by cases hg)
  | some ad =>
    obtain ⟨h1, h2, h3, h4, -⟩ := h.frozen ad rfl
    obtain ⟨g, o, sp⟩ := ad
    simp only at h1 h2 h3 h4
    subst h3 h4
    exact Fr.kept (r := some g) h (fun g' hg => by cases hg; exact ho.block g h2 (fun hm => by have := hF g hm; omega))
theorem two_boxes (w : World) (g : Nat) (hg : w.heap.size = g) (a b c d : Value) (t : TypeId) :
    (((w.alloc (.cells #[a, b] t)).alloc (.cells #[c, d] t)).drew).cell? ⟨g, 0, none⟩ = some a ∧ (((w.alloc (.cells #[a, b] t)).alloc (.cells #[c, d] t)).drew).cell? ⟨g, 1, none⟩ = some b ∧ (((w.alloc (.cells #[a, b] t)).alloc (.cells #[c, d] t)).drew).cell? ⟨g + 1, 0, none⟩ = some c ∧ (((w.alloc (.cells #[a, b] t)).alloc (.cells #[c, d] t)).drew).cell? ⟨g + 1, 1, none⟩ = some d := by
  subst hg
  have e (p : Addr) : (((w.alloc (.cells #[a, b] t)).alloc (.cells #[c, d] t)).drew).cell? p = ((w.alloc (.cells #[a, b] t)).alloc (.cells #[c, d] t)).cell? p := rfl
  refine ⟨?_, ?_, ?_, ?_⟩
  · rw [e, World.cell?_alloc_lt _ _ _ (by simp), World.cell?_alloc_at _ _ _ _ rfl]; rfl
  · rw [e, World.cell?_alloc_lt _ _ _ (by simp), World.cell?_alloc_at _ _ _ _ rfl]; rfl
  · rw [e, World.cell?_alloc_at _ _ _ _ (by simp)]; rfl
  · rw [e, World.cell?_alloc_at _ _ _ _ (by simp)]; rfl
structure Two (w11 wz : World) (fb gv : ByteArray) (u u2 : Int) (F G : Nat) : Prop where
  below : Below w11.heap.size w11 wz
  f0 : wz.cell? ⟨F, 0, none⟩ = some (.string fb)
  f1 : wz.cell? ⟨F, 1, none⟩ = some (.int .i64 u)
  g0 : wz.cell? ⟨G, 0, none⟩ = some (.string gv)
  g1 : wz.cell? ⟨G, 1, none⟩ = some (.int .i64 u2)
theorem two_at1 {w11 wr : World} (h : Below w11.heap.size w11 wr) (gz : Nat) (hg : wr.heap.size = gz) (fb gv : ByteArray) (u u2 : Int) :
    Two w11 ((wr.alloc (Obj.cells #[.string fb, .int .i64 u] 58)).alloc (Obj.cells #[.string gv, .int .i64 u2] 58)).drew fb gv u u2 gz (gz + 1) := by
  obtain ⟨y0, y1, y2, y3⟩ := two_boxes wr gz hg (.string fb) (.int .i64 u) (.string gv) (.int .i64 u2) 58
  exact ⟨((h.alloc h.size _).alloc (by have := h.size; simp; omega) _).drew, y0, y1, y2, y3⟩
theorem two_at2 {w11 wr : World} (h : Below w11.heap.size w11 wr) (gz : Nat) (hg : wr.heap.size = gz) (fb gv : ByteArray) (u u2 : Int) :
    Two w11 ((wr.alloc (Obj.cells #[.string gv, .int .i64 u2] 58)).alloc (Obj.cells #[.string fb, .int .i64 u] 58)).drew fb gv u u2 (gz + 1) gz := by
  obtain ⟨y0, y1, y2, y3⟩ := two_boxes wr gz hg (.string gv) (.int .i64 u2) (.string fb) (.int .i64 u) 58
  exact ⟨((h.alloc h.size _).alloc (by have := h.size; simp; omega) _).drew, y2, y3, y0, y1⟩
theorem front_str {l : List UInt8} {n : Nat} {fb gv : ByteArray} (hf : fb = ⟨l.toArray⟩) (hg : gv = ⟨(l.take (l.length - n)).toArray⟩) (hs : gv.size = l.length - n) : fb.extract 0 gv.size = gv := by
  rw [hs, hf, hg]
  apply ByteArray.ext
  apply Array.toList_inj.1
  simp [ByteArray.data_extract]
set_option maxRecDepth 100000 in
theorem run_front (fb gv : ByteArray) (hle : (gv.size : Int) ≤ (fb.size : Int)) (hex : fb.extract 0 gv.size = gv) (W : World) : (Instr.slice 9 (.string fb) none (some (.int .i64 (gv.size : Int))) none).run Try.prog W = .ok (.string gv) W := by
  rw [run_slice_string_h W 9 fb Try.underlying9 .i64 (gv.size : Int) (by omega) hle, Int.toNat_natCast, hex]
theorem run_cat {w : World} {a b c : ByteArray} (h : ¬ 9223372036854775807 < a.size + b.size) (e : a ++ b = c) : (Op.stringOp .add a b).run Try.prog w = .ok (.string c) w := by
  rw [run_string_add_sum w a b (by omega), e]
theorem own_tight {w : World} {b n : Nat} {fs : MF} (h : w.ownsMap Try.prog 9 fileR b n (FM fs)) : w.ownsMap Try.prog 9 fileR b fs.length (FM fs) := by
  have hz := size_FM fs
  obtain ⟨es, clock, hb, F, hs, e⟩ := h
  rw [e] at hz
  have e1 : es.size ≤ fs.length := by rw [← hz]; simp [Maps.size, DataW.length_sorted]
  exact ⟨es, clock, hb, F, e1, e⟩
theorem look_mem {fs : MF} {s : List UInt8} {f : List UInt8 × Nat} (h : lookM fs s = some f) : (s, f) ∈ fs := by
  unfold lookM at h
  simp only [Option.map_eq_some_iff] at h
  obtain ⟨p, hp, rfl⟩ := h
  have h2 : p.1 = s := by simpa using List.find?_some hp
  rw [← h2]
  exact List.mem_of_find?_eq_some hp
def Others (fs2 fs : MF) (x : LOp) (r : Nat) : Prop := ∀ s, s ≠ x.s.data.toList → ¬ (r = 3 ∧ s = x.t.data.toList) → lookM fs2 s = lookM fs s
theorem lookV_form (o : Option (List UInt8 × Nat)) : ∃ b n, lookV o = .agg #[.string b, .int .i64 n] := by
  cases o with
  | none => exact ⟨_, _, rfl⟩
  | some f => exact ⟨_, _, rfl⟩
theorem strs_ne {s t : ByteArray} (h : s ≠ t) : (s.toList == t.toList) = false ∧ (s.toList != t.toList) = true ∧ ¬ s.toList = t.toList := by
  have h1 : ¬ s.toList = t.toList := fun e => h (by
    apply ByteArray.ext
    apply Array.toList_inj.1
    rw [← Lib.toList_data, ← Lib.toList_data, e])
  exact ⟨by simpa using h1, by simpa using h1, h1⟩
theorem iwf {l : List Int} (h : ∀ y ∈ l, (Lit.int .i64 y).wf = true) {y : Int} (hy : y ∈ l) : -9223372036854775808 ≤ y ∧ y ≤ 9223372036854775807 := bounds_i64 (h y hy)
theorem allocD (w : World) (o : Obj) : Below w.heap.size w (w.alloc o) := (Below.refl _ w).alloc (Nat.le_refl _) o

set_option maxRecDepth 100000 in
set_option maxHeartbeats 8000000 in
theorem walk (a0 : Int) (A1 B1 : Option Addr) (n1 c1 k1 d1 : Nat) (y1 z1 : List Int) (A2 : Option Addr) (n2 c2 : Nat) (L2 : List LOp) (w : World) (w0 : -9223372036854775808 ≤ a0 ∧ a0 ≤ 9223372036854775807) (r1 : Rd w w.heap.size A1 n1 c1 (iv y1)) (x1 : ∀ y ∈ y1, (Lit.int .i64 y).wf = true) (s1 : Rd w w.heap.size B1 k1 d1 (iv z1)) (t1 : ∀ y ∈ z1, (Lit.int .i64 y).wf = true) (r2 : RdL w w.heap.size A2 n2 c2 L2) :
    Calls Try.prog 5 #[.int .i64 a0, .agg #[.slice A1 n1 c1, .slice B1 k1 d1], .slice A2 n2 c2] w fun e w' => e = .returned (.bool true) ∧ Below w.heap.size w w' := by
  have hl2 := r2.len
  obtain ⟨wA, hwA⟩ : ∃ wA, wA = w.alloc (.cells #[.slice A1 n1 c1, .slice B1 k1 d1] 24) := ⟨_, rfl⟩
  have hgA : Below w.heap.size w wA := by rw [hwA]; exact allocD _ _
  have hF := fewL_c (rdLD r2 hgA) hgA.size 60
  rw [hwA] at hF
  have HF := Lib.hid hF
  have HFN := Lib.hid (fun (h : fewL L2 60 = true) => fewL_iff.1 h)
  have HW0 := Lib.hid w0
  have hsA : wA.heap.size = w.heap.size + 1 := by rw [hwA]; simp
  have q0 : wA.cell? ⟨w.heap.size, 0, none⟩ = some (.slice A1 n1 c1) := by rw [hwA, World.cell?_alloc_at _ _ _ _ rfl]; rfl
  have q1 : wA.cell? ⟨w.heap.size, 1, none⟩ = some (.slice B1 k1 d1) := by rw [hwA, World.cell?_alloc_at _ _ _ _ rfl]; rfl
  have HWA := Lib.hid hwA
  clear w0 hF hwA
  go_enter Try.func5, Try.ntmps5
  go_wp2_with fail
  refine HF.out.mono ?_
  rw [← HWA.out]
  rintro e wq ⟨rfl, hbq⟩
  have hg := bonD hgA hbq
  have kq (j : Nat) : wq.cell? ⟨w.heap.size, j, none⟩ = wA.cell? ⟨w.heap.size, j, none⟩ := hbq.cell (by simp; omega)
  rw [← kq] at q0 q1
  have hsq : w.heap.size < wq.heap.size := by have := hbq.size; omega
  clear hbq hgA hsA kq HWA
  cases hf : fewL L2 60 with
  | false =>
    go_wp2_with fail
    refine awake_c.mono ?_
    rintro e w99 ⟨rfl, hb99⟩
    go_wp2_with fail
    go_ret
    exact ⟨rfl, bonD hg hb99⟩
  | true =>
    obtain ⟨hsm, hn60⟩ := HFN.out hf
    have hn2 : n2 ≤ 60 := by rw [hl2] at hn60; omega
    have hn2i : (n2 : Int) ≤ 60 := by omega
    have HSM := Lib.hid hsm
    clear hf HF HFN hsm hn60
    by_cases g1 : 60 < n1
    · have e1 : (60 : Int) < (n1 : Int) := by omega
      clear g1
      go_wp2_with fail
      refine awake_c.mono ?_
      rintro e w99 ⟨rfl, hb99⟩
      go_wp2_with fail
      go_ret
      exact ⟨rfl, bonD hg hb99⟩
    have e1 : ¬ (60 : Int) < (n1 : Int) := by omega
    by_cases g2 : 60 < k1
    · have e2 : (60 : Int) < (k1 : Int) := by omega
      clear g2
      go_wp2_with fail
      refine awake_c.mono ?_
      rintro e w99 ⟨rfl, hb99⟩
      go_wp2_with fail
      go_ret
      exact ⟨rfl, bonD hg hb99⟩
    have e2 : ¬ (60 : Int) < (k1 : Int) := by omega
    have HNEW := Lib.hid (new_c (w := wq) a0 (r1.below hg) (s1.below hg) hg.size hg.size (by omega) x1 t1)
    have hinv0 := inv_plan HW0.out.2 y1 z1 n1
    go_wp2_with fail
    refine HNEW.out.mono ?_
    rintro e wn ⟨S, rfl, hd3, hsee, hb3, hold⟩
    have hat0 : At w wn S ⟨max a0 0, 0, 0, partsD y1 z1 n1, []⟩ := ⟨hd3, hsee, fun k hk => Nat.le_trans hg.size (hold k hk), bonD hg hb3⟩
    obtain ⟨m0, hm0⟩ : ∃ m0 : MD, m0 = ⟨max a0 0, 0, 0, partsD y1 z1 n1, []⟩ := ⟨_, rfl⟩
    rw [← hm0] at hat0 hinv0
    have hcap0 : m0.cap = max a0 0 := by rw [hm0]
    obtain ⟨dp, hdp⟩ : ∃ dp, S.dp = dp := ⟨_, rfl⟩
    rw [hdp]
    clear hd3 hsee hb3 hold HNEW hg hm0 q0 q1 r1 s1 x1 t1 g1 g2 e1 e2 hsq
    go_wp2_with fail
    go_loopw [42] (fun iv wr => ∃ (k : Nat) (S' : DiskS) (m : MD), iv = .int .i64 (k : Int) ∧ k ≤ n2 ∧ S'.dp = dp ∧ m.cap = max a0 0 ∧ At w wr S' m ∧ Inv m k) (fun iv _ => ((n2 : Int) - intOf iv).toNat)
    case atStart => exact ⟨0, S, m0, rfl, Nat.zero_le _, hdp, hcap0, hat0, hinv0⟩
    case round =>
      clear hat0 hinv0 hdp hcap0
      obtain ⟨k, S', m, rfl, hk, hdpk, hcapk, hatk, hinvk⟩ := hrel
      by_cases hlt : k < n2
      · obtain ⟨b, off, hA, hbB, hcell⟩ := r2.form (by omega)
        subst hA
        obtain ⟨x, hx⟩ : ∃ x, L2[k]? = some x := ⟨L2[k]'(by omega), List.getElem?_eq_getElem _⟩
        obtain ⟨x0, x1, x2, x3, x4⟩ := hcell k x hx
        have hkc (i : Nat) : wr.cell? ⟨b, i, none⟩ = w.cell? ⟨b, i, none⟩ := hatk.below.cell hbB
        rw [← hkc] at x0 x1 x2 x3 x4
        have hki : (k : Int) < (n2 : Int) := by omega
        have hk0 : (0 : Int) ≤ (k : Int) := by omega
        have hxm := List.mem_of_getElem? hx
        have hxok := r2.ok x hxm
        have hwh := hxok.what
        have hxn : x.n ≤ 60 := ((smallL_iff x).1 (HSM.out x hxm)).2.2.1
        obtain ⟨r, hr⟩ : ∃ r, x.what % 7 = r := ⟨_, rfl⟩
        have hri : (x.what : Int) % 7 = (r : Int) := by omega
        have HATK := Lib.hid hatk
        have HINVK := Lib.hid hinvk
        have HDP := Lib.hid hdpk
        by_cases hr4 : 4 < r
        · have hr4i : (4 : Int) < (r : Int) := by omega
          clear hatk hinvk hdpk hxok hcell hkc hxm hx
          go_wp2_with fail
          go_roundw
          case rel => exact ⟨k + 1, S', m, by simp, by omega, HDP.out, hcapk, HATK.out.boxed _, HINVK.out.more (Nat.le_succ _)⟩
          case measure => simp [intOf]; omega
        · have hr4i : ¬ (4 : Int) < (r : Int) := by omega
          have hat1 := hatk.boxed (.cells #[.int .u8 (x.what : Int), .string x.s, .string x.t, .slice x.A x.n x.c, .slice x.A2 x.n2 x.c2] 36)
          have HF1 := files_a hat1 (hinvk.good (by omega))
          rw [hdpk] at HF1
          have HF1 := Lib.hid HF1
          have hxb : x.b.length = x.n := by have := hxok.b.len; simpa using this
          have hDID := did (m := m) (o := x.op) (show x.what % 7 ≤ 4 by omega)
          have HINV2 := hinvk.does hatk.nodup (o := x.op) (by show x.b.length ≤ 60; omega)
          have hgz : wr.heap.size ∉ foot S' := fun hm => by have := hatk.disk.there _ hm; omega
          clear hcell hkc hxm hx hatk
          go_wp2_with fail
          refine HF1.out.mono ?_
          rintro e w8 ⟨b8, q8, rfl, hown8, hb81, hb8⟩
          have hat8 := hat1.below_next hb8
          have hn8 : b8 ∉ foot S' := fun hm => by have := hat1.disk.there _ hm; omega
          have HC := calls_a hat8
          rw [hdpk] at HC
          have HC := Lib.hid HC
          clear HF1
          go_wp2_with fail
          refine HC.out.mono ?_
          rintro e w8' ⟨rfl, rfl⟩
          have HD := does_a hat8 (hinvk.good (by omega)) x hxok hxn
          unfold lv at HD
          rw [hdpk] at HD
          have HD := Lib.hid HD
          have o0 := (hb8.cell (p := ⟨wr.heap.size, 0, none⟩) (by simp)).trans (World.cell?_alloc_at _ _ _ _ rfl)
          have o1 := (hb8.cell (p := ⟨wr.heap.size, 1, none⟩) (by simp)).trans (World.cell?_alloc_at _ _ _ _ rfl)
          have o2 := (hb8.cell (p := ⟨wr.heap.size, 2, none⟩) (by simp)).trans (World.cell?_alloc_at _ _ _ _ rfl)
          have o3 := (hb8.cell (p := ⟨wr.heap.size, 3, none⟩) (by simp)).trans (World.cell?_alloc_at _ _ _ _ rfl)
          have o4 := (hb8.cell (p := ⟨wr.heap.size, 4, none⟩) (by simp)).trans (World.cell?_alloc_at _ _ _ _ rfl)
          replace o0 : w8.cell? ⟨wr.heap.size, 0, none⟩ = some (.int .u8 (x.what : Int)) := o0
          replace o1 : w8.cell? ⟨wr.heap.size, 1, none⟩ = some (.string x.s) := o1
          replace o2 : w8.cell? ⟨wr.heap.size, 2, none⟩ = some (.string x.t) := o2
          replace o3 : w8.cell? ⟨wr.heap.size, 3, none⟩ = some (.slice x.A x.n x.c) := o3
          replace o4 : w8.cell? ⟨wr.heap.size, 4, none⟩ = some (.slice x.A2 x.n2 x.c2) := o4
          have hsz8 : wr.heap.size < w8.heap.size := by have := hb8.size; simp at this; omega
          clear HC
          clear x0 x1 x2 x3 x4 hat1 hb8 hb81
          go_wp2_with fail
          refine HD.out.mono ?_
          intro e w5 hp
          obtain ⟨rfl, S2, hN⟩ := hp
          have oo (i : Nat) : w5.cell? ⟨wr.heap.size, i, none⟩ = w8.cell? ⟨wr.heap.size, i, none⟩ := hN.off.cell hsz8 hgz
          rw [← oo] at o0 o1 o2 o3 o4
          have hown5 := ownsMap_kept hown8 (hN.off.block b8 hown8.lt hn8)
          have hat5 := hN.at_
          have hdp5 := hN.dp.trans hdpk
          have HF2 := files_a hat5 (HINV2.good (by omega))
          rw [hdp5] at HF2
          have HF2 := Lib.hid HF2
          have hsz5 : wr.heap.size < w5.heap.size := Nat.lt_of_lt_of_le hsz8 hN.off.size
          obtain ⟨m', hm'⟩ : ∃ m', m' = (doesM m x.op).1 := ⟨_, rfl⟩
          obtain ⟨er, her⟩ : ∃ er, er = (doesM m x.op).2 := ⟨_, rfl⟩
          rw [← hm'] at hat5 HF2 HINV2
          rw [← her]
          have hrr : doesM m x.op = (m', er) := by rw [hm', her]
          rw [hrr] at hDID
          have hinv5 := HINV2
          clear HD hN oo hown8 hn8 hgz hat8 hsz8 hm' her hrr HINV2
          go_wp2_with fail
          refine HF2.out.mono ?_
          rintro e w11 ⟨b11, q11, rfl, hown11, hb111, hb11⟩
          have hat11 := hat5.below_next hb11
          have oo (i : Nat) : w11.cell? ⟨wr.heap.size, i, none⟩ = w5.cell? ⟨wr.heap.size, i, none⟩ := hb11.cell hsz5
          rw [← oo] at o0 o1 o2 o3 o4
          have ho8 := ownsMap_kept hown5 (hb11.block b8 hown5.lt)
          have HN11 := Lib.hid (show b11 ∉ foot S2 from fun hm => by have := hat5.disk.there _ hm; omega)
          have HW11 := Lib.hid (show w.heap.size ≤ b11 from Nat.le_trans hat5.below.size hb111)
          have HGB := Lib.hid (show ¬ wr.heap.size = b11 from fun e => by omega)
          have HNE := Lib.hid (show b8 ≠ b11 from by have := hown5.lt; omega)
          have hne : b8 ≠ b11 := by have := hown5.lt; omega
          have hsz11 : wr.heap.size < w11.heap.size := Nat.lt_of_lt_of_le hsz5 hb11.size
          have HC := calls_a hat11
          rw [hdp5] at HC
          have HC := Lib.hid HC
          have HU := used_a hat11
          rw [hdp5] at HU
          have HU := Lib.hid HU
          have hcl : m'.calls = m.calls + 1 := hDID.calls
          have hcp : m'.cap = max a0 0 := hDID.cap.trans hcapk
          have hus : m'.used ≤ max a0 0 := by have := hinv5.cap; omega
          have hc0 := hinvk.calls0
          have hc1 := hinvk.calls
          have hDN := hDID.did
          rw [hcl] at HC
          obtain ⟨cl, hcl2⟩ : ∃ cl, cl = m.calls := ⟨_, rfl⟩
          rw [← hcl2] at HC hc0 hc1 hcl ⊢
          obtain ⟨us, hus2⟩ : ∃ us, us = m'.used := ⟨_, rfl⟩
          rw [← hus2] at HU hus
          have hus3 : ¬ max a0 0 < us := by omega
          have hwc : IntKind.i64.wrap (cl + 1) = cl + 1 := by rw [IntKind.wrap_i64]; omega
          clear HF2 hat5 hown5 oo hb11 hb111 hDID hcl2 hus2 hsz5
          go_wp2_with fail
          refine HC.out.mono ?_
          rintro e w11' ⟨rfl, rfl⟩
          clear HC
          go_wp2_with fail
          refine HU.out.mono ?_
          rintro e w11' ⟨rfl, rfl⟩
          clear HU
          obtain ⟨gz, hgz⟩ : ∃ gz, gz = wr.heap.size := ⟨_, rfl⟩
          rw [← hgz] at o0 o1 o2 o3 o4 hsz11 HGB
          rw [← hgz]
          have HI5 := Lib.hid hinv5
          have HRI := Lib.hid HATK.out.rise
          have HNDM := Lib.hid HATK.out.nodup
          have HSAFE := Lib.hid HATK.out.safe
          have HXOK := Lib.hid hxok
          have HXB := Lib.hid hxb
          have HBIG := Lib.hid (show ∀ p ∈ m.files, (p.2.1.length : Int) ≤ 1000000 from fun p hp => by
            have h1 := hinvk.sum
            have h2 := hinvk.small
            obtain ⟨a, b, e⟩ := List.append_of_mem hp
            rw [e, sumM_app, sumM_cons] at h1
            omega)
          have HD5 := Lib.hid hdp5
          have HCP := Lib.hid hcp
          have HWH := Lib.hid hwh
          clear HATK HINVK hinvk hdpk hcapk HDP hinv5 hdp5 hcp hcl hus hc0 hc1 hgz r2 hl2 HF1
          rcases hDN with ⟨h0, h12, hfs⟩ | ⟨f, kk, h12, hw1, hkl, hlk, hfs⟩ | ⟨h0, hoth⟩
          · -- refused
            replace h0 : er ≠ 0 := h0
            replace hfs : m'.files = m.files := hfs
            rw [hfs] at hown11
            have HSM2 := Lib.hid (same_c ho8 hown11)
            have h12 : ¬ (er = 12 ∧ r = 1) := fun h => h12 ⟨h.1, by show x.what % 7 = 1; omega⟩
            by_cases e12 : er = 12
            · subst e12
              have hr1 : ¬ (r : Int) = 1 := by omega
              go_wp2_with fail
              refine HSM2.out.mono ?_
              rintro e w12 ⟨rfl, hb12⟩
              have hA := ownsMap_kept ho8 (hb12.block b8 ho8.lt)
              have hB := ownsMap_kept hown11 (hb12.block b11 hown11.lt)
              have hatz := hat11.below_next hb12
              have oo (i : Nat) : w12.cell? ⟨gz, i, none⟩ = w11.cell? ⟨gz, i, none⟩ := hb12.cell hsz11
              rw [← oo] at o0 o1 o2 o3 o4
              have hszz : gz < w12.heap.size := Nat.lt_of_lt_of_le hsz11 hb12.size
              have HOTH := Lib.hid (show Others m.files m.files x r from fun _ _ _ => rfl)
              clear oo hb12 ho8 hown11 hat11 HSM2 hsz11
              have HAT := Lib.hid hatz
              have HSZ := Lib.hid hszz
              have HLB := Lib.hid hB.lt
              go_wp2_with (at_range; refine wpList_range_own _ rfl _ 51 rfl 9 58 keyed_s Try.underlying51 fileR b8 q8 _ rfl hA ?_; intro w0 hrg0 hg0 hs0)
              go_frame
              go_loopw [19] (fun _ wr => ∃ (left : Lit → Bool) (cnt : Nat), wr.ranges Try.prog 9 fileR b8 w12.heap.size q8 (FM m.files) left cnt ∧ wr.ownsMap Try.prog 9 fileR b11 q11 (FM m.files) ∧ Below w12.heap.size w12 wr) (fun _ wr => wr.rangeLeft b8 w12.heap.size)
              case atStart => exact ⟨_, _, hrg0, hB.kept hg0 (by simp), (Below.refl _ _).grown hg0 (Nat.le_refl _) (fun j hj => by cases hj)⟩
              case round =>
                clear hrg0 hg0 hs0 hA hB hatz hszz hwc hus3
                obtain ⟨left, cnt, hrg, ho2, hbw⟩ := hrel
                have HRG := Lib.hid hrg
                have HO2 := Lib.hid ho2
                have HBW := Lib.hid hbw
                have oo (i : Nat) : wr.cell? ⟨gz, i, none⟩ = w12.cell? ⟨gz, i, none⟩ := hbw.cell HSZ.out
                rw [← oo] at o0 o1 o2 o3 o4
                clear oo ho2 hbw
                go_wp2_with (at_next; refine wpList_next_ranges _ rfl _ rfl 9 keyed_s fileR Value.string mkF (fun key kl hk => Go.Maps.keyOf_string_inv Try.underlying9 hk) (fun v y hv => mkF_inv hv) b8 w12.heap.size q8 _ _ _ rfl hrg ?_ ?_)
                · intro _ _
                  clear hrg o0 o1 o2 o3 o4
                  go_wp2_with fail
                  go_roundw
                  case rel => exact ⟨k + 1, S2, m', by simp, by omega, HD5.out, HCP.out, HAT.out.below_next HBW.out, HI5.out⟩
                  case measure => simp [intOf]; omega
                · intro nm cb cn kl y1 y2 w1 cnt1 hkx hlx hy hat hrg1 hlt2 hg1 hs1 hen
                  obtain ⟨hsx, rfl, f, hf, hc⟩ := meets hkx hy hat
                  rw [hc] at hen ⊢
                  obtain ⟨n, hn⟩ : ∃ n, n = ((f.1.length - f.2 : Nat) : Int) := ⟨_, rfl⟩
                  rw [← hn] at hen ⊢
                  have ho3 := HO2.out.kept hg1 (fun e => by have e := Option.some.inj e; have := HLB.out; omega)
                  have hlk := run_lookM_ok (ho3.alloc (.cells #[.string ⟨f.1.toArray⟩, .int .i64 n] 58)) hsx
                  have hE := fun W => eq_fileT W ⟨f.1.toArray⟩ n
                  have hb1 := HBW.out.grown hg1 HBW.out.size (fun j hj => by cases hj; exact Nat.le_refl _)
                  have oo (i : Nat) : w1.cell? ⟨gz, i, none⟩ = w12.cell? ⟨gz, i, none⟩ := hb1.cell HSZ.out
                  have oo2 (i : Nat) : wr.cell? ⟨gz, i, none⟩ = w12.cell? ⟨gz, i, none⟩ := HBW.out.cell HSZ.out
                  rw [oo2, ← oo] at o0 o1 o2 o3 o4
                  have hgz1 : gz < w1.heap.size := Nat.lt_of_lt_of_le HSZ.out hb1.size
                  have HB := Lib.hid hb1
                  have HO := Lib.hid ho3
                  have HL := Lib.hid hlt2
                  have HR := Lib.hid hrg1
                  unfold fileV at hen ⊢
                  clear hc hy hat hkx hsx hlx hrg ho3 hb1 hg1 hs1 hlt2 hrg1 oo oo2
                  by_cases h1 : nm = x.s
                  · obtain ⟨gb, gn, hgf⟩ := lookV_form (lookM m.files nm.data.toList)
                    rw [hgf] at hlk
                    generalize (lookM m.files nm.data.toList).isSome = isb at hlk
                    clear hgf hf hn
                    subst h1
                    go_wp2_with fail
                    go_roundw
                    case rel => exact ⟨_, cnt1, (HR.out.alloc _).alloc _, (HO.out.alloc _).alloc _, (HB.out.alloc HB.out.size _).alloc (by have := HB.out.size; simp; omega) _⟩
                    case measure => rw [((HR.out.alloc _).alloc _).left_eq, HRG.out.left_eq]; exact HL.out
                  · obtain ⟨s1, s2, s3⟩ := strs_ne h1
                    have h1d : nm.data.toList ≠ x.s.data.toList := by have := data_ne h1; simpa using this
                    by_cases hr3 : r = 3
                    · have hri3 : (x.what : Int) % 7 = 3 := by omega
                      clear hri
                      by_cases h2 : nm = x.t
                      · obtain ⟨gb, gn, hgf⟩ := lookV_form (lookM m.files nm.data.toList)
                        rw [hgf] at hlk
                        generalize (lookM m.files nm.data.toList).isSome = isb at hlk
                        clear hgf hf h1 h1d hn
                        subst h2
                        go_wp2_with fail
                        go_roundw
                        case rel => exact ⟨_, cnt1, (HR.out.alloc _).alloc _, (HO.out.alloc _).alloc _, (HB.out.alloc HB.out.size _).alloc (by have := HB.out.size; simp; omega) _⟩
                        case measure => rw [((HR.out.alloc _).alloc _).left_eq, HRG.out.left_eq]; exact HL.out
                      · obtain ⟨t1, t2, t3⟩ := strs_ne h2
                        have h2d : nm.data.toList ≠ x.t.data.toList := by have := data_ne h2; simpa using this
                        rw [HOTH.out _ h1d (fun h => h2d h.2), hf] at hlk
                        simp only [lookV, fileV, Option.isSome_some] at hlk
                        rw [← hn] at hlk
                        clear hf h1 h1d h2 h2d hn
                        go_wp2_with fail
                        go_roundw
                        case rel => exact ⟨_, cnt1, (HR.out.alloc _).alloc _, (HO.out.alloc _).alloc _, (HB.out.alloc HB.out.size _).alloc (by have := HB.out.size; simp; omega) _⟩
                        case measure => rw [((HR.out.alloc _).alloc _).left_eq, HRG.out.left_eq]; exact HL.out
                    · have hri3 : ¬ (r : Int) = 3 := by omega
                      rw [HOTH.out _ h1d (fun h => hr3 h.1), hf] at hlk
                      simp only [lookV, fileV, Option.isSome_some] at hlk
                      rw [← hn] at hlk
                      clear hf h1 h1d hn
                      go_wp2_with fail
                      go_roundw
                      case rel => exact ⟨_, cnt1, (HR.out.alloc _).alloc _, (HO.out.alloc _).alloc _, (HB.out.alloc HB.out.size _).alloc (by have := HB.out.size; simp; omega) _⟩
                      case measure => rw [((HR.out.alloc _).alloc _).left_eq, HRG.out.left_eq]; exact HL.out
            · go_wp2_with fail
              refine HSM2.out.mono ?_
              rintro e w12 ⟨rfl, hb12⟩
              have hA := ownsMap_kept ho8 (hb12.block b8 ho8.lt)
              have hB := ownsMap_kept hown11 (hb12.block b11 hown11.lt)
              have hatz := hat11.below_next hb12
              have oo (i : Nat) : w12.cell? ⟨gz, i, none⟩ = w11.cell? ⟨gz, i, none⟩ := hb12.cell hsz11
              rw [← oo] at o0 o1 o2 o3 o4
              have hszz : gz < w12.heap.size := Nat.lt_of_lt_of_le hsz11 hb12.size
              have HOTH := Lib.hid (show Others m.files m.files x r from fun _ _ _ => rfl)
              clear oo hb12 ho8 hown11 hat11 HSM2 hsz11
              have HAT := Lib.hid hatz
              have HSZ := Lib.hid hszz
              have HLB := Lib.hid hB.lt
              go_wp2_with (at_range; refine wpList_range_own _ rfl _ 51 rfl 9 58 keyed_s Try.underlying51 fileR b8 q8 _ rfl hA ?_; intro w0 hrg0 hg0 hs0)
              go_frame
              go_loopw [19] (fun _ wr => ∃ (left : Lit → Bool) (cnt : Nat), wr.ranges Try.prog 9 fileR b8 w12.heap.size q8 (FM m.files) left cnt ∧ wr.ownsMap Try.prog 9 fileR b11 q11 (FM m.files) ∧ Below w12.heap.size w12 wr) (fun _ wr => wr.rangeLeft b8 w12.heap.size)
              case atStart => exact ⟨_, _, hrg0, hB.kept hg0 (by simp), (Below.refl _ _).grown hg0 (Nat.le_refl _) (fun j hj => by cases hj)⟩
              case round =>
                clear hrg0 hg0 hs0 hA hB hatz hszz hwc hus3
                obtain ⟨left, cnt, hrg, ho2, hbw⟩ := hrel
                have HRG := Lib.hid hrg
                have HO2 := Lib.hid ho2
                have HBW := Lib.hid hbw
                have oo (i : Nat) : wr.cell? ⟨gz, i, none⟩ = w12.cell? ⟨gz, i, none⟩ := hbw.cell HSZ.out
                rw [← oo] at o0 o1 o2 o3 o4
                clear oo ho2 hbw
                go_wp2_with (at_next; refine wpList_next_ranges _ rfl _ rfl 9 keyed_s fileR Value.string mkF (fun key kl hk => Go.Maps.keyOf_string_inv Try.underlying9 hk) (fun v y hv => mkF_inv hv) b8 w12.heap.size q8 _ _ _ rfl hrg ?_ ?_)
                · intro _ _
                  clear hrg o0 o1 o2 o3 o4
                  go_wp2_with fail
                  go_roundw
                  case rel => exact ⟨k + 1, S2, m', by simp, by omega, HD5.out, HCP.out, HAT.out.below_next HBW.out, HI5.out⟩
                  case measure => simp [intOf]; omega
                · intro nm cb cn kl y1 y2 w1 cnt1 hkx hlx hy hat hrg1 hlt2 hg1 hs1 hen
                  obtain ⟨hsx, rfl, f, hf, hc⟩ := meets hkx hy hat
                  rw [hc] at hen ⊢
                  obtain ⟨n, hn⟩ : ∃ n, n = ((f.1.length - f.2 : Nat) : Int) := ⟨_, rfl⟩
                  rw [← hn] at hen ⊢
                  have ho3 := HO2.out.kept hg1 (fun e => by have e := Option.some.inj e; have := HLB.out; omega)
                  have hlk := run_lookM_ok (ho3.alloc (.cells #[.string ⟨f.1.toArray⟩, .int .i64 n] 58)) hsx
                  have hE := fun W => eq_fileT W ⟨f.1.toArray⟩ n
                  have hb1 := HBW.out.grown hg1 HBW.out.size (fun j hj => by cases hj; exact Nat.le_refl _)
                  have oo (i : Nat) : w1.cell? ⟨gz, i, none⟩ = w12.cell? ⟨gz, i, none⟩ := hb1.cell HSZ.out
                  have oo2 (i : Nat) : wr.cell? ⟨gz, i, none⟩ = w12.cell? ⟨gz, i, none⟩ := HBW.out.cell HSZ.out
                  rw [oo2, ← oo] at o0 o1 o2 o3 o4
                  have hgz1 : gz < w1.heap.size := Nat.lt_of_lt_of_le HSZ.out hb1.size
                  have HB := Lib.hid hb1
                  have HO := Lib.hid ho3
                  have HL := Lib.hid hlt2
                  have HR := Lib.hid hrg1
                  unfold fileV at hen ⊢
                  clear hc hy hat hkx hsx hlx hrg ho3 hb1 hg1 hs1 hlt2 hrg1 oo oo2
                  by_cases h1 : nm = x.s
                  · obtain ⟨gb, gn, hgf⟩ := lookV_form (lookM m.files nm.data.toList)
                    rw [hgf] at hlk
                    generalize (lookM m.files nm.data.toList).isSome = isb at hlk
                    clear hgf hf hn
                    subst h1
                    go_wp2_with fail
                    go_roundw
                    case rel => exact ⟨_, cnt1, (HR.out.alloc _).alloc _, (HO.out.alloc _).alloc _, (HB.out.alloc HB.out.size _).alloc (by have := HB.out.size; simp; omega) _⟩
                    case measure => rw [((HR.out.alloc _).alloc _).left_eq, HRG.out.left_eq]; exact HL.out
                  · obtain ⟨s1, s2, s3⟩ := strs_ne h1
                    have h1d : nm.data.toList ≠ x.s.data.toList := by have := data_ne h1; simpa using this
                    by_cases hr3 : r = 3
                    · have hri3 : (x.what : Int) % 7 = 3 := by omega
                      clear hri
                      by_cases h2 : nm = x.t
                      · obtain ⟨gb, gn, hgf⟩ := lookV_form (lookM m.files nm.data.toList)
                        rw [hgf] at hlk
                        generalize (lookM m.files nm.data.toList).isSome = isb at hlk
                        clear hgf hf h1 h1d hn
                        subst h2
                        go_wp2_with fail
                        go_roundw
                        case rel => exact ⟨_, cnt1, (HR.out.alloc _).alloc _, (HO.out.alloc _).alloc _, (HB.out.alloc HB.out.size _).alloc (by have := HB.out.size; simp; omega) _⟩
                        case measure => rw [((HR.out.alloc _).alloc _).left_eq, HRG.out.left_eq]; exact HL.out
                      · obtain ⟨t1, t2, t3⟩ := strs_ne h2
                        have h2d : nm.data.toList ≠ x.t.data.toList := by have := data_ne h2; simpa using this
                        rw [HOTH.out _ h1d (fun h => h2d h.2), hf] at hlk
                        simp only [lookV, fileV, Option.isSome_some] at hlk
                        rw [← hn] at hlk
                        clear hf h1 h1d h2 h2d hn
                        go_wp2_with fail
                        go_roundw
                        case rel => exact ⟨_, cnt1, (HR.out.alloc _).alloc _, (HO.out.alloc _).alloc _, (HB.out.alloc HB.out.size _).alloc (by have := HB.out.size; simp; omega) _⟩
                        case measure => rw [((HR.out.alloc _).alloc _).left_eq, HRG.out.left_eq]; exact HL.out
                    · have hri3 : ¬ (r : Int) = 3 := by omega
                      rw [HOTH.out _ h1d (fun h => hr3 h.1), hf] at hlk
                      simp only [lookV, fileV, Option.isSome_some] at hlk
                      rw [← hn] at hlk
                      clear hf h1 h1d hn
                      go_wp2_with fail
                      go_roundw
                      case rel => exact ⟨_, cnt1, (HR.out.alloc _).alloc _, (HO.out.alloc _).alloc _, (HB.out.alloc HB.out.size _).alloc (by have := HB.out.size; simp; omega) _⟩
                      case measure => rw [((HR.out.alloc _).alloc _).left_eq, HRG.out.left_eq]; exact HL.out
          · skip
            replace h12 : er = 12 := h12
            subst h12
            replace hw1 : x.what % 7 = 1 := hw1
            obtain rfl : r = 1 := by omega
            replace hri : (x.what : Int) % 7 = 1 := hri
            replace hkl : kk ≤ x.b.length := hkl
            replace hlk : lookM m.files x.s.data.toList = some f := hlk
            replace hfs : m'.files = setM m.files x.s.data.toList (f.1 ++ x.b.take kk, f.2) := hfs
            have hb0 : Below w11.heap.size w11 w11 := Below.refl _ _
            have hlk2 : lookM m'.files x.s.data.toList = some (f.1 ++ x.b.take kk, f.2) := by rw [hfs]; exact lookM_set_self hlk
            have hback : putM m'.files x.s.data.toList f = m.files := by rw [hfs]; exact put_back HRI.out HNDM.out hlk
            have hso : x.s.size ≤ maxLen := HXOK.out.s
            have hsf := HSAFE.out _ (look_mem hlk)
            have hbig := HBIG.out _ (look_mem hlk)
            simp only [] at hsf hbig
            have hlf := fun W (hW : Below w11.heap.size w11 W) => run_lookM (ownsMap_kept ho8 (hW.block b8 ho8.lt)) hso
            have hlg := fun W (hW : Below w11.heap.size w11 W) => run_lookM (ownsMap_kept hown11 (hW.block b11 hown11.lt)) hso
            simp only [hlk, hlk2, lookV, fileV] at hlf hlg
            obtain ⟨u, hu⟩ : ∃ u, u = ((f.1.length - f.2 : Nat) : Int) := ⟨_, rfl⟩
            obtain ⟨u2, hu2⟩ : ∃ u2, u2 = (((f.1 ++ x.b.take kk).length - f.2 : Nat) : Int) := ⟨_, rfl⟩
            obtain ⟨fb, hfb⟩ : ∃ fb : ByteArray, fb = ⟨f.1.toArray⟩ := ⟨_, rfl⟩
            obtain ⟨gv, hgv⟩ : ∃ gv : ByteArray, gv = ⟨(f.1 ++ x.b.take kk).toArray⟩ := ⟨_, rfl⟩
            rw [← hu, ← hfb] at hlf
            rw [← hu2, ← hgv] at hlg
            have hfs1 : fb.size = f.1.length := by rw [hfb]; rfl
            have hgs1 : gv.size = f.1.length + kk := by rw [hgv]; show (f.1 ++ x.b.take kk).toArray.size = _; rw [List.size_toArray, List.length_append, List.length_take]; omega
            have hu2' : u2 = u + (kk : Int) := by rw [hu2, hu, List.length_append, List.length_take]; omega
            have HU := Lib.hid hu
            have HFB := Lib.hid hfb
            have HGV := Lib.hid hgv
            have HFS1 := Lib.hid hfs1
            have HGS1 := Lib.hid hgs1
            have HU2 := Lib.hid hu2'
            have HSF := Lib.hid hsf
            have HBG := Lib.hid hbig
            have HKL := Lib.hid hkl
            have HBACK := Lib.hid hback
            obtain ⟨oF, hoF⟩ : ∃ oF : Obj, oF = .cells #[.string ⟨#[]⟩, .int .i64 0] 58 := ⟨_, rfl⟩
            obtain ⟨oU, hoU⟩ : ∃ oU : Obj, oU = .cells #[.string fb, .int .i64 u] 58 := ⟨_, rfl⟩
            have bA (o : Obj) : Below w11.heap.size w11 (w11.alloc o).drew := (hb0.alloc hb0.size o).drew
            have bB (o p : Obj) : Below w11.heap.size w11 ((w11.alloc o).alloc p).drew := ((hb0.alloc hb0.size o).alloc (by simp) p).drew
            have hlf1 := hlf _ hb0.drew
            have hlg1 := hlg _ hb0.drew
            have hlf2 := hlf _ (bA oF)
            have hlg2 := hlg _ (bA oF)
            have hlf3 := hlf _ (bB oF oF)
            have hlg3 := hlg _ (bB oF oF)
            have hlg4 := hlg _ (bB oF oU)
            have hlg5 := hlg _ (bB oU oF)
            have cA (o : Obj) : (w11.alloc o).cell? ⟨gz, 1, none⟩ = some (.string x.s) := by rw [World.cell?_alloc_lt _ _ _ hsz11]; exact o1
            have cB (o p : Obj) : ((w11.alloc o).alloc p).cell? ⟨gz, 1, none⟩ = some (.string x.s) := by rw [World.cell?_alloc_lt _ _ _ (by simp; omega)]; exact cA o
            have ca1 := cA oF
            have ca2 := cB oF oF
            have ca3 := cB oF oU
            have ca4 := cB oU oF
            rw [hoF] at hlf2 hlf3 hlg2 hlg3 hlg4 hlg5 ca1 ca2 ca3 ca4
            rw [hoU] at hlg4 hlg5 ca3 ca4
            clear cA cB
            have HO8 := Lib.hid ho8
            have HOWN := Lib.hid (own_tight hown11)
            have HAT := Lib.hid hat11
            clear hlf hlg bA bB hoF hoU hu hu2 hu2' hfb hgv hfs1 hgs1 hsf hbig hkl hback hlk hlk2 hfs ho8 hown11 hat11 hso hw1 hr
            go_wp2_with fail
            obtain ⟨gq, hgq⟩ : ∃ gq, w11.heap.size = gq := ⟨_, rfl⟩
            have hszq : gz < gq := by omega
            have hszq2 : gz < gq + 1 := by omega
            refine' (fun (key : ∀ (wz : World) (F G : Nat), Two w11 wz fb gv u u2 F G → (_ : World → Nat → Nat → Prop) wz F G) => ?main) ?kp
            case main =>
              go_region
              all_goals
                first
                  | (have hTW := two_at1 hb0 gq hgq fb gv u u2; generalize ((w11.alloc (Obj.cells #[.string fb, .int .i64 u] 58)).alloc (Obj.cells #[.string gv, .int .i64 u2] 58)).drew = wz at hTW ⊢; generalize gq + 1 = G at hTW ⊢; generalize gq = F at hTW ⊢; exact key wz F G hTW)
                  | (have hTW := two_at2 hb0 gq hgq fb gv u u2; generalize ((w11.alloc (Obj.cells #[.string gv, .int .i64 u2] 58)).alloc (Obj.cells #[.string fb, .int .i64 u] 58)).drew = wz at hTW ⊢; generalize gq + 1 = F at hTW ⊢; generalize gq = G at hTW ⊢; exact key wz F G hTW)
            case kp =>
              clear hlf1 hlf2 hlf3 hlg1 hlg2 hlg3 hlg4 hlg5 ca1 ca2 ca3 ca4 hszq hszq2 hgq hb0
              intro wz F G hTW
              obtain ⟨hbW, y0, y1, y2, y3⟩ := hTW
              have oo (i : Nat) : wz.cell? ⟨gz, i, none⟩ = w11.cell? ⟨gz, i, none⟩ := hbW.cell hsz11
              rw [← oo] at o0 o1 o2 o3 o4
              have hszz : gz < wz.heap.size := Nat.lt_of_lt_of_le hsz11 hbW.size
              clear oo
              have hkk := HKL.out
              have hkn : kk ≤ x.n := by have := HXB.out; omega
              have hkki : (kk : Int) ≤ (x.n : Int) := by omega
              have hxni : (x.n : Int) ≤ 60 := by omega
              have hkk0 : (0 : Int) ≤ (kk : Int) := by omega
              have hkk60 : (kk : Int) ≤ 60 := by omega
              have hsub : (gv.size : Int) - (fb.size : Int) = (kk : Int) := by have := HFS1.out; have := HGS1.out; omega
              have dk1 : decide ((kk : Int) < 0) = false := by simp
              have dk2 : decide ((x.n : Int) < (kk : Int)) = false := by simp; omega
              have dk3 : decide (x.n < kk) = false := by simp; omega
              have dk4 : ¬ x.n < kk := by omega
              have hu2' := HU2.out
              have hu0 : 0 ≤ u := by rw [HU.out]; omega
              have hu3 : u ≤ 1000000 := by rw [HU.out]; have := HBG.out; omega
              have hadd : u + (kk : Int) = u2 := hu2'.symm
              have hwadd : IntKind.i64.wrap (u + (kk : Int)) = u2 := by rw [IntKind.wrap_i64]; omega
              obtain ⟨sk, hsk⟩ : ∃ sk : ByteArray, sk = ⟨(x.b.take kk).toArray⟩ := ⟨_, rfl⟩
              have hcat : fb ++ sk = gv := by
                rw [hsk, HFB.out, HGV.out]
                apply ByteArray.ext
                apply Array.toList_inj.1
                simp
              have hbgs : ¬ ((fb.size + sk.size : Nat) : Int) > IntKind.i64.max := by
                have h1 : sk.size = kk := by rw [hsk]; show (x.b.take kk).toArray.size = _; rw [List.size_toArray, List.length_take]; omega
                have := HFS1.out
                have := HBG.out
                rw [h1]; simp [IntKind.max, IntKind.bits, IntKind.signed]; omega
              have hb1 : ¬ 9223372036854775807 < fb.size + sk.size := by
                have h1 : sk.size = kk := by rw [hsk]; show (x.b.take kk).toArray.size = _; rw [List.size_toArray, List.length_take]; omega
                have := HFS1.out
                have := HBG.out
                rw [h1]; omega
              have hcs := fun W => run_cat (w := W) hb1 hcat
              have hb2 : ¬ (9223372036854775807 : Int) < (fb.size : Int) + (sk.size : Int) := by omega
              have hbw : Below w.heap.size w wz := bonD HAT.out.below hbW
              have hxc : kk ≤ x.c := by have := HXOK.out.b.cap; omega
              have hfr := HXOK.out.b.front (k := kk) hkn
              have hfr : Rd w w.heap.size x.A kk x.c (bv (x.b.take kk)) := by have e : (bv x.b).take kk = bv (x.b.take kk) := by unfold bv; rw [List.map_take]
                                                                              rwa [e] at hfr
              have hs := fun W => run_slice_hi_gen (P := Try.prog) (n := x.n) (A := x.A) 34 5 Try.underlying34 info_u8 .i64 (k := kk) (c := x.c) hxc W
              have hcv := fun q => run_str (P := Try.prog) (hfr.below (below_drewN hbw q)) 34 9 5 Try.underlying34 Try.underlying5 Try.underlying9
              rw [← hsk] at hcv
              have hcv0 : (convert 34 9 (.slice x.A kk x.c)).run Try.prog wz = .ok (.string sk) wz := hcv 0
              have hcv1 : (convert 34 9 (.slice x.A kk x.c)).run Try.prog wz.drew = .ok (.string sk) wz.drew := hcv 1
              have HKEY := Lib.hid (key_s HXOK.out.s)
              have HBW := Lib.hid hbW
              have HW5 := Lib.hid hwadd
              clear hkk hkn hsk hfr hbw hbW hu2'
              go_wp2_with fail
              go_big_quiet (fail)
              have hbZ : Below w11.heap.size w11 (wz.drewN nq) := below_drewN HBW.out _
              have z0 : (wz.drewN nq).cell? ⟨F, 0, none⟩ = some (.string fb) := y0
              have z1 : (wz.drewN nq).cell? ⟨F, 1, none⟩ = some (.int .i64 u) := y1
              have p0 : (wz.drewN nq).cell? ⟨gz, 0, none⟩ = some (.int .u8 (x.what : Int)) := o0
              have p1 : (wz.drewN nq).cell? ⟨gz, 1, none⟩ = some (.string x.s) := o1
              have p2 : (wz.drewN nq).cell? ⟨gz, 2, none⟩ = some (.string x.t) := o2
              clear y0 y1 y2 y3 o0 o1 o2 o3 o4 hs hcv hcv0 hcv1 hcat hbgs hb1 hb2 hcs hwadd hadd hsub dk1 dk2 dk3 dk4 hu0 hu3
              generalize wz.drewN nq = wy at hbZ z0 z1 p0 p1 p2 ⊢
              have hA0 := ownsMap_kept HO8.out (hbZ.block b8 HO8.out.lt)
              have hB0 := ownsMap_kept HOWN.out (hbZ.block b11 HOWN.out.lt)
              have hat0 := HAT.out.below_next hbZ
              have hml : m'.files.length < maxLen := by have := HI5.out.few; have : 100 < maxLen := by decide
                                                        omega
              obtain ⟨qm, hqm⟩ : ∃ qm, qm = m'.files.length := ⟨_, rfl⟩
              rw [← hqm] at hB0 hml
              have hszy : gz < wy.heap.size := Nat.lt_of_lt_of_le hsz11 hbZ.size
              go_wp2_with (at_mapUpdate; refine wpList_mapUpdate_own _ rfl _ _ _ 51 rfl 9 58 keyed_s Try.underlying51 fileR b11 qm _ rfl hB0 hml _ _ _ rfl rfl HKEY.out (fileD f) [] (by rw [HFB.out, HU.out]; rfl) ?_; intro w7 hown7 hgrow7)
              rw [put_FM, HBACK.out] at hown7
              have hA7 := hA0.kept hgrow7 (fun e => HNE.out (Option.some.inj e))
              have ho7 := Off.of_grown hgrow7
              have hat7 := hat0.off ho7 (fun j hj => by rw [List.mem_singleton.1 hj]; exact ⟨HN11.out, HW11.out⟩)
              have oo (i : Nat) : w7.cell? ⟨gz, i, none⟩ = wy.cell? ⟨gz, i, none⟩ := ho7.cell hszy (fun h => HGB.out (List.mem_singleton.1 h))
              rw [← oo] at p0 p1 p2
              have hsz7 : gz < w7.heap.size := Nat.lt_of_lt_of_le hszy ho7.size
              have HSM2 := Lib.hid (same_c hA7 hown7)
              clear oo z0 z1 hA0 hB0 hat0 hgrow7 ho7 hszy
              go_wp2_with fail
              refine HSM2.out.mono ?_
              rintro e w12 ⟨rfl, hb12⟩
              have hA := ownsMap_kept hA7 (hb12.block b8 hA7.lt)
              have hB := ownsMap_kept hown7 (hb12.block b11 hown7.lt)
              have hatz := hat7.below_next hb12
              have oo (i : Nat) : w12.cell? ⟨gz, i, none⟩ = w7.cell? ⟨gz, i, none⟩ := hb12.cell hsz7
              have o0 : w12.cell? ⟨gz, 0, none⟩ = some (.int .u8 (x.what : Int)) := (oo 0).trans p0
              have o1 : w12.cell? ⟨gz, 1, none⟩ = some (.string x.s) := (oo 1).trans p1
              have o2 : w12.cell? ⟨gz, 2, none⟩ = some (.string x.t) := (oo 2).trans p2
              have o3 : True := trivial
              have o4 : True := trivial
              have hszz : gz < w12.heap.size := Nat.lt_of_lt_of_le hsz7 hb12.size
              have HOTH := Lib.hid (show Others m.files m.files x 1 from fun _ _ _ => rfl)
              clear oo hb12 hA7 hown7 hat7 HSM2 hsz7 p0 p1 p2
              have HAT := Lib.hid hatz
              have HSZ := Lib.hid hszz
              have HLB := Lib.hid hB.lt
              go_wp2_with (at_range; refine wpList_range_own _ rfl _ 51 rfl 9 58 keyed_s Try.underlying51 fileR b8 q8 _ rfl hA ?_; intro w0 hrg0 hg0 hs0)
              go_frame
              go_loopw [19] (fun _ wr => ∃ (left : Lit → Bool) (cnt : Nat), wr.ranges Try.prog 9 fileR b8 w12.heap.size q8 (FM m.files) left cnt ∧ wr.ownsMap Try.prog 9 fileR b11 (qm + 1) (FM m.files) ∧ Below w12.heap.size w12 wr) (fun _ wr => wr.rangeLeft b8 w12.heap.size)
              case atStart => exact ⟨_, _, hrg0, hB.kept hg0 (by simp), (Below.refl _ _).grown hg0 (Nat.le_refl _) (fun j hj => by cases hj)⟩
              case round =>
                clear hrg0 hg0 hs0 hA hB hatz hszz
                obtain ⟨left, cnt, hrg, ho2, hbw⟩ := hrel
                have HRG := Lib.hid hrg
                have HO2 := Lib.hid ho2
                have HBW := Lib.hid hbw
                have oo (i : Nat) : wr.cell? ⟨gz, i, none⟩ = w12.cell? ⟨gz, i, none⟩ := hbw.cell HSZ.out
                rw [← oo] at o0 o1 o2
                clear oo ho2 hbw
                go_wp2_with (at_next; refine wpList_next_ranges _ rfl _ rfl 9 keyed_s fileR Value.string mkF (fun key kl hk => Go.Maps.keyOf_string_inv Try.underlying9 hk) (fun v y hv => mkF_inv hv) b8 w12.heap.size q8 _ _ _ rfl hrg ?_ ?_)
                · intro _ _
                  clear hrg o0 o1 o2 o3 o4
                  go_wp2_with fail
                  go_roundw
                  case rel => exact ⟨k + 1, S2, m', by simp, by omega, HD5.out, HCP.out, HAT.out.below_next HBW.out, HI5.out⟩
                  case measure => simp [intOf]; omega
                · intro nm cb cn kl y1 y2 w1 cnt1 hkx hlx hy hat hrg1 hlt2 hg1 hs1 hen
                  obtain ⟨hsx, rfl, f, hf, hc⟩ := meets hkx hy hat
                  rw [hc] at hen ⊢
                  obtain ⟨n, hn⟩ : ∃ n, n = ((f.1.length - f.2 : Nat) : Int) := ⟨_, rfl⟩
                  rw [← hn] at hen ⊢
                  have ho3 := HO2.out.kept hg1 (fun e => by have e := Option.some.inj e; have := HLB.out; omega)
                  have hlk := run_lookM_ok (ho3.alloc (.cells #[.string ⟨f.1.toArray⟩, .int .i64 n] 58)) hsx
                  have hE := fun W => eq_fileT W ⟨f.1.toArray⟩ n
                  have hb1 := HBW.out.grown hg1 HBW.out.size (fun j hj => by cases hj; exact Nat.le_refl _)
                  have oo (i : Nat) : w1.cell? ⟨gz, i, none⟩ = w12.cell? ⟨gz, i, none⟩ := hb1.cell HSZ.out
                  have oo2 (i : Nat) : wr.cell? ⟨gz, i, none⟩ = w12.cell? ⟨gz, i, none⟩ := HBW.out.cell HSZ.out
                  rw [oo2, ← oo] at o0 o1 o2
                  have hgz1 : gz < w1.heap.size := Nat.lt_of_lt_of_le HSZ.out hb1.size
                  have HB := Lib.hid hb1
                  have HO := Lib.hid ho3
                  have HL := Lib.hid hlt2
                  have HR := Lib.hid hrg1
                  unfold fileV at hen ⊢
                  clear hc hy hat hkx hsx hlx hrg ho3 hb1 hg1 hs1 hlt2 hrg1 oo oo2
                  by_cases h1 : nm = x.s
                  · obtain ⟨gb, gn, hgf⟩ := lookV_form (lookM m.files nm.data.toList)
                    rw [hgf] at hlk
                    generalize (lookM m.files nm.data.toList).isSome = isb at hlk
                    clear hgf hf hn
                    subst h1
                    go_wp2_with fail
                    go_roundw
                    case rel => exact ⟨_, cnt1, (HR.out.alloc _).alloc _, (HO.out.alloc _).alloc _, (HB.out.alloc HB.out.size _).alloc (by have := HB.out.size; simp; omega) _⟩
                    case measure => rw [((HR.out.alloc _).alloc _).left_eq, HRG.out.left_eq]; exact HL.out
                  · obtain ⟨s1, s2, s3⟩ := strs_ne h1
                    have h1d : nm.data.toList ≠ x.s.data.toList := by have := data_ne h1; simpa using this
                    by_cases hr3 : (1 : Nat) = 3
                    · exact absurd hr3 (by decide)
                    · skip
                      rw [HOTH.out _ h1d (fun h => hr3 h.1), hf] at hlk
                      simp only [lookV, fileV, Option.isSome_some] at hlk
                      rw [← hn] at hlk
                      clear hf h1 h1d hn
                      go_wp2_with fail
                      go_roundw
                      case rel => exact ⟨_, cnt1, (HR.out.alloc _).alloc _, (HO.out.alloc _).alloc _, (HB.out.alloc HB.out.size _).alloc (by have := HB.out.size; simp; omega) _⟩
                      case measure => rw [((HR.out.alloc _).alloc _).left_eq, HRG.out.left_eq]; exact HL.out
          · replace h0 : er = 0 := h0
            subst h0
            replace hoth : Others m'.files m.files x r := fun s h1 h2 => hoth s h1 (fun h => h2 ⟨by have : x.what % 7 = 3 := h.1; omega, h.2⟩)
            have HOTH := Lib.hid hoth
            clear hoth
            have HAT := Lib.hid hat11
            have HSZ := Lib.hid hsz11
            have HLB := Lib.hid hown11.lt
            go_wp2_with (at_range; refine wpList_range_own _ rfl _ 51 rfl 9 58 keyed_s Try.underlying51 fileR b8 q8 _ rfl ho8 ?_; intro w0 hrg0 hg0 hs0)
            go_frame
            go_loopw [19] (fun _ wr => ∃ (left : Lit → Bool) (cnt : Nat), wr.ranges Try.prog 9 fileR b8 w11.heap.size q8 (FM m.files) left cnt ∧ wr.ownsMap Try.prog 9 fileR b11 q11 (FM m'.files) ∧ Below w11.heap.size w11 wr) (fun _ wr => wr.rangeLeft b8 w11.heap.size)
            case atStart => exact ⟨_, _, hrg0, hown11.kept hg0 (by simp), (Below.refl _ _).grown hg0 (Nat.le_refl _) (fun j hj => by cases hj)⟩
            case round =>
              clear hrg0 hg0 hs0 ho8 hown11 hat11 hsz11 hwc hus3
              obtain ⟨left, cnt, hrg, ho2, hbw⟩ := hrel
              have HRG := Lib.hid hrg
              have HO2 := Lib.hid ho2
              have HBW := Lib.hid hbw
              have oo (i : Nat) : wr.cell? ⟨gz, i, none⟩ = w11.cell? ⟨gz, i, none⟩ := hbw.cell HSZ.out
              rw [← oo] at o0 o1 o2 o3 o4
              clear oo ho2 hbw
              go_wp2_with (at_next; refine wpList_next_ranges _ rfl _ rfl 9 keyed_s fileR Value.string mkF (fun key kl hk => Go.Maps.keyOf_string_inv Try.underlying9 hk) (fun v y hv => mkF_inv hv) b8 w11.heap.size q8 _ _ _ rfl hrg ?_ ?_)
              · intro _ _
                clear hrg o0 o1 o2 o3 o4
                go_wp2_with fail
                go_roundw
                case rel => exact ⟨k + 1, S2, m', by simp, by omega, HD5.out, HCP.out, HAT.out.below_next HBW.out, HI5.out⟩
                case measure => simp [intOf]; omega
              · intro nm cb cn kl y1 y2 w1 cnt1 hkx hlx hy hat hrg1 hlt2 hg1 hs1 hen
                obtain ⟨hsx, rfl, f, hf, hc⟩ := meets hkx hy hat
                rw [hc] at hen ⊢
                obtain ⟨n, hn⟩ : ∃ n, n = ((f.1.length - f.2 : Nat) : Int) := ⟨_, rfl⟩
                rw [← hn] at hen ⊢
                have ho3 := HO2.out.kept hg1 (fun e => by have e := Option.some.inj e; have := HLB.out; omega)
                have hlk := run_lookM_ok (ho3.alloc (.cells #[.string ⟨f.1.toArray⟩, .int .i64 n] 58)) hsx
                have hE := fun W => eq_fileT W ⟨f.1.toArray⟩ n
                have hb1 := HBW.out.grown hg1 HBW.out.size (fun j hj => by cases hj; exact Nat.le_refl _)
                have oo (i : Nat) : w1.cell? ⟨gz, i, none⟩ = w11.cell? ⟨gz, i, none⟩ := hb1.cell HSZ.out
                have oo2 (i : Nat) : wr.cell? ⟨gz, i, none⟩ = w11.cell? ⟨gz, i, none⟩ := HBW.out.cell HSZ.out
                rw [oo2, ← oo] at o0 o1 o2 o3 o4
                have hgz1 : gz < w1.heap.size := Nat.lt_of_lt_of_le HSZ.out hb1.size
                have HB := Lib.hid hb1
                have HO := Lib.hid ho3
                have HL := Lib.hid hlt2
                have HR := Lib.hid hrg1
                unfold fileV at hen ⊢
                clear hc hy hat hkx hsx hlx hrg ho3 hb1 hg1 hs1 hlt2 hrg1 oo oo2
                by_cases h1 : nm = x.s
                · obtain ⟨gb, gn, hgf⟩ := lookV_form (lookM m'.files nm.data.toList)
                  rw [hgf] at hlk
                  generalize (lookM m'.files nm.data.toList).isSome = isb at hlk
                  clear hgf hf hn
                  subst h1
                  go_wp2_with fail
                  go_roundw
                  case rel => exact ⟨_, cnt1, (HR.out.alloc _).alloc _, (HO.out.alloc _).alloc _, (HB.out.alloc HB.out.size _).alloc (by have := HB.out.size; simp; omega) _⟩
                  case measure => rw [((HR.out.alloc _).alloc _).left_eq, HRG.out.left_eq]; exact HL.out
                · obtain ⟨s1, s2, s3⟩ := strs_ne h1
                  have h1d : nm.data.toList ≠ x.s.data.toList := by have := data_ne h1; simpa using this
                  by_cases hr3 : r = 3
                  · have hri3 : (x.what : Int) % 7 = 3 := by omega
                    clear hri
                    by_cases h2 : nm = x.t
                    · obtain ⟨gb, gn, hgf⟩ := lookV_form (lookM m'.files nm.data.toList)
                      rw [hgf] at hlk
                      generalize (lookM m'.files nm.data.toList).isSome = isb at hlk
                      clear hgf hf h1 h1d hn
                      subst h2
                      go_wp2_with fail
                      go_roundw
                      case rel => exact ⟨_, cnt1, (HR.out.alloc _).alloc _, (HO.out.alloc _).alloc _, (HB.out.alloc HB.out.size _).alloc (by have := HB.out.size; simp; omega) _⟩
                      case measure => rw [((HR.out.alloc _).alloc _).left_eq, HRG.out.left_eq]; exact HL.out
                    · obtain ⟨t1, t2, t3⟩ := strs_ne h2
                      have h2d : nm.data.toList ≠ x.t.data.toList := by have := data_ne h2; simpa using this
                      rw [HOTH.out _ h1d (fun h => h2d h.2), hf] at hlk
                      simp only [lookV, fileV, Option.isSome_some] at hlk
                      rw [← hn] at hlk
                      clear hf h1 h1d h2 h2d hn
                      go_wp2_with fail
                      go_roundw
                      case rel => exact ⟨_, cnt1, (HR.out.alloc _).alloc _, (HO.out.alloc _).alloc _, (HB.out.alloc HB.out.size _).alloc (by have := HB.out.size; simp; omega) _⟩
                      case measure => rw [((HR.out.alloc _).alloc _).left_eq, HRG.out.left_eq]; exact HL.out
                  · have hri3 : ¬ (r : Int) = 3 := by omega
                    rw [HOTH.out _ h1d (fun h => hr3 h.1), hf] at hlk
                    simp only [lookV, fileV, Option.isSome_some] at hlk
                    rw [← hn] at hlk
                    clear hf h1 h1d hn
                    go_wp2_with fail
                    go_roundw
                    case rel => exact ⟨_, cnt1, (HR.out.alloc _).alloc _, (HO.out.alloc _).alloc _, (HB.out.alloc HB.out.size _).alloc (by have := HB.out.size; simp; omega) _⟩
                    case measure => rw [((HR.out.alloc _).alloc _).left_eq, HRG.out.left_eq]; exact HL.out
      · have hki : ¬ (k : Int) < (n2 : Int) := by omega
        have hgX := hatk.below
        clear hatk hinvk r2 hl2 HSM
        go_wp2_with fail
        refine awake_c.mono ?_
        rintro e w99 ⟨rfl, hb99⟩
        go_wp2_with fail
        go_ret
        exact ⟨rfl, bonD hgX hb99⟩

set_option maxRecDepth 100000 in
theorem lifted (os : Os) (started : os.Started) (H : Type) (enc : TypeId × Value → H) :
    ReturnsInHanded {} Try.checked os 5 .any (Rows.diskErrorsSpec.pre6 enc Try.prog Try.f5 Rows.diskErrorsRow.domain false) (Rows.diskErrorsSpec.post enc Try.prog Try.f5 false true false false) := by
  refine returnsInHanded_of_change (C := Try.checked) own started (by kernel_rfl) Try.func5
    (ChangeSpec.witness6 (enc := enc) (C := Try.checked) false ⟨#[], #[.int .i64 0, .agg #[.slice none 0 0, .slice none 0 0], .slice none 0 0], []⟩ 8 (by kernel_rfl) (by kernel_rfl) (by kernel_rfl) (by kernel_rfl)) ?_
  intro W base args ds gs before hval0 hW hcnd _
  have hval : ∀ (j : Nat) t v, Try.f5.params[j]? = some t → args[j]? = some v → Value.okWide Try.prog W .any base t v := hval0
  have hW' := hW
  obtain ⟨p, q, hA0, hV, rfl, hfz, hnd⟩ := hW
  have hA : DataW.TrodAll enc Try.prog W 0 (fun _ => true) true Try.f5.params.toList args.toList ds p := hA0
  rw [Try.params5] at hA hval
  obtain ⟨v0, vs0, d0, ds0, p0, q0_, hargs, rfl, rfl, h0, r0_⟩ := trodAll_cons hA
  obtain ⟨v1, vs1, d1, ds1, p1, q1_, rfl, rfl, rfl, h1, r1_⟩ := trodAll_cons r0_
  obtain ⟨v2, vs2, d2, ds2, p2, q2_, rfl, rfl, rfl, h2, r2_⟩ := trodAll_cons r1_
  obtain ⟨rfl, rfl, rfl⟩ := trodAll_nil r2_
  obtain rfl : args = #[v0, v1, v2] := by cases args; simp_all
  obtain ⟨rfl, rfl⟩ := trodVars_none hV
  have kk0 := h0
  have lt0 : ∀ x ∈ p0, x.block < W.heap.size := by obtain ⟨m, hm⟩ := kk0; exact DataW.trod_lt m _ _ _ hm
  have kk1 := h1
  have lt1 : ∀ x ∈ p1, x.block < W.heap.size := by obtain ⟨m, hm⟩ := kk1; exact DataW.trod_lt m _ _ _ hm
  have kk2 := h2
  have lt2 : ∀ x ∈ p2, x.block < W.heap.size := by obtain ⟨m, hm⟩ := kk2; exact DataW.trod_lt m _ _ _ hm
  obtain ⟨a0, e0, _, _, w0⟩ := open_int Try.underlying3 (hval 0 _ v0 rfl rfl) h0
  subst e0
  replace w0 := bounds_i64 w0
  obtain ⟨A1, B1, n1, c1, k1, d1, y1, z1, e1, r1, x1, s1, t1⟩ := open_plan h1 (hval 1 _ v1 rfl rfl)
  subst e1
  obtain ⟨A2, n2, c2, L2, e2, r2⟩ := open_lops h2 (hval 2 _ v2 rfl rfl)
  subst e2
  clear hA0 hval0
  refine (walk a0 A1 B1 n1 c1 k1 d1 y1 z1 A2 n2 c2 L2 W w0 r1 x1 s1 t1 r2).mono fun e W' ⟨he, bel⟩ => ?_
  subst he
  exact ⟨_, rfl, _, _, _, [], _, [], hW', trodAll_mk1 (shut_bool Try.underlying4 _), (trodAll_cons_mk (Below.trod laidOut (by kernel_rfl) (of_decide_eq_true (by kernel_rfl)) kk0 bel lt0) (trodAll_cons_mk (Below.trod laidOut (by kernel_rfl) (of_decide_eq_true (by kernel_rfl)) kk1 bel lt1) (trodAll_cons_mk (Below.trod laidOut (by kernel_rfl) (of_decide_eq_true (by kernel_rfl)) kk2 bel lt2) trodAll_mk0))), rfl, bel.frame _, fun h => by cases h⟩

theorem over : Rows.diskErrorsRow.holds Try.pinned (OpenSpec.ofChange Rows.diskErrorsSpec) :=
  OpenClaim.holds_of_wide 5 Try.f5 rfl rfl rfl rfl rfl rfl rfl ⟨rfl, rfl, rfl, rfl, rfl⟩ rfl rfl rfl rfl rfl (by kernel_rfl) Try.func5 (by kernel_rfl)
    (of_decide_eq_true (by kernel_rfl)) (by unfold Func.isWrapper; first | (rw [if_pos (by decide +kernel)]; kernel_rfl) | (rw [if_neg (by decide +kernel)]; exact ⟨rfl, rfl⟩))
    (fun os started H enc _ => lifted os started H enc)

/-- The statement. -/
theorem proved : Rows.DiskErrorsSaid := over
#print axioms proved
end Go.Proofs.Ytkabgebfbbkioaa.diskErrors
