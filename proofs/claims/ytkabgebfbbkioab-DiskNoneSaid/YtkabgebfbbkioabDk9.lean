/-
  Contracts: Append.
-/
import Derived.Test.YtkabgebfbbkioabDk8
import Derived.Deep.RegionWith
import Derived.Lib.MinMax
import Derived.StillTailTactics
namespace Go.Proofs.Ytkabgebfbbkioab
open Go.RowKit Go.Maps

def appendM (m : MD) (s : ByteArray) (l : List UInt8) : MD × Int :=
  changeM m s fun f =>
    if failsAt m.plan (m.calls + 1) then
      let k := (min (min (partOf m.plan (m.calls + 1)) l.length) (m.cap - m.used)).toNat
      ({ m.tick with files := setM m.files s.data.toList (f.1 ++ l.take k, f.2), used := m.used + k }, 12)
    else if m.cap - m.used < l.length then (m.tick, 13)
    else ({ m.tick with files := setM m.files s.data.toList (f.1 ++ l, f.2), used := m.used + l.length }, 0)

/-- Behind a growth: the step. -/
theorem step_grow {w w2 w' : World} {S : DiskS} {e : Ending} {s : List UInt8} {f : FileS} {l : List UInt8} (h2 : DiskAt w2 S.tick) (o2 : Off [S.dp] w w2) (hl : lookF S.files s = some f) (hg : GrowP S.tick s f l w2 e w') :
    e = .returned (.tuple #[]) ∧ Step S w { (see S).tick with files := setM (see S).files s (f.bytes ++ l, f.safe), used := S.used + (l.length : Int) } w' := by
  obtain ⟨he, r', hd, ho, hr⟩ := hg
  refine ⟨he, _, hd, rfl, ?_, ?_, ?_⟩
  · simp only [see, DiskS.tick, MD.tick, set_see]
  · have hfe := h2.file (S := S.tick) (s := s) hl
    refine Off.trans (F := foot S) (o2.wide fun k hk => by rw [List.mem_singleton.1 hk]; simp [foot]) ho ?_
    intro k hk
    rcases List.mem_cons.1 hk with rfl | hk
    · exact .inl (by simp [foot, DiskS.tick])
    rcases List.mem_cons.1 hk with rfl | hk
    · exact .inl hfe.2.1
    · exact .inl (hfe.2.2.1 k (by simpa using hk))
  · obtain ⟨a, b, e, -, hs⟩ := lookF_parts hl
    intro k hk
    have hk' : k ∈ S.dp :: S.mb :: S.fb :: feet (setF S.files s ⟨f.blk, r', f.bytes ++ l, f.safe⟩) := hk
    rw [hs, feet_append, feet_cons] at hk'
    have hsz := o2.size
    show k ∈ S.dp :: S.mb :: S.fb :: feet S.files ∨ _
    rw [e, feet_append, feet_cons]
    rcases hr with hr | ⟨g, hg, hg1⟩
    · rw [hr] at hk'; exact .inl hk'
    · rw [hg] at hk'
      by_cases e : k = g
      · right; omega
      · left
        simp only [List.mem_cons, List.mem_append, Option.toList_some, List.cons_append] at hk' ⊢
        grind

theorem run_min3 {P : Program} (w : World) (ts : Array TypeId) (t : TypeId) (k : IntKind) (x y z : Int) :
    (Builtin.min_ ts t #[.int k x, .int k y, .int k z]).run P w = .ok (.int k (min (min x y) z)) w := by
  have h2 : ∀ a b : Int, Builtin.min2 (.int k a) (.int k b) = pure (.int k (min a b)) := by
    intro a b
    rw [Builtin.min2.eq_1]
    congr 2
    split <;> omega
  rw [Builtin.min_.eq_1]
  simp only [List.foldlM_cons, List.foldlM_nil, h2, pure_bind]
  rfl

theorem Step.drew {S : DiskS} {w w' : World} {m : MD} (h : Step S w m w') : Step S w m w'.drew := by
  obtain ⟨S1, h1, h2, h3, h4, h5⟩ := h
  exact ⟨S1, h1.drew, h2, h3, h4.drew, h5⟩
theorem Step.up {S : DiskS} {w w1 w' : World} {m : MD} (h : Step S w1 m w') (ho : Off (foot S) w w1) : Step S w m w' := by
  obtain ⟨S1, h1, h2, h3, h4, h5⟩ := h
  exact ⟨S1, h1, h2, h3, ho.trans h4 (fun _ hk => .inl hk), fun k hk => (h5 k hk).imp id (fun h => Nat.le_trans ho.size h)⟩

set_option maxRecDepth 100000 in
set_option maxHeartbeats 400000 in
theorem append_c {w : World} {S : DiskS} (h : DiskAt w S) (hc : S.calls ≤ 70368744177664) (s : ByteArray) {B n c : Nat} {A : Option Addr} {l : List UInt8}
    (hr : ∀ w', Off (foot S) w w' → Rd w' B A n c (bv l)) (hn : n ≤ 35184372088832) (hu0 : 0 ≤ S.used) (hu : S.used ≤ 35184372088832) (huc : S.used ≤ S.cap) (hcap : S.cap ≤ 9223372036854775807)
    (hfl : ∀ f, lookF S.files s.data.toList = some f → (f.bytes.length : Int) ≤ S.used) (hpart : 0 ≤ partOf S.plan (S.calls + 1)) :
    Calls Try.prog 10 #[.pointer (some ⟨S.dp, 0, none⟩), .string s, .slice A n c] w (ErrR (OpR S w (appendM (see S) s l))) := by
  have hmf : ∀ (fn : Fn) (first cap : Array Value) (w : World), (Instr.makeFunc fn first cap).run Try.prog w = .ok (.func fn first cap) w := fun _ _ _ _ => rfl
  obtain ⟨w3, hw3⟩ : ∃ w3, w3 = (w.alloc (.cells #[.pointer (some ⟨S.dp, 0, none⟩)] 24)).alloc (.cells #[.slice A n c] 22) := ⟨_, rfl⟩
  have hll : l.length = n := by simpa using (hr w (Off.refl _ _)).len
  have hdp : S.dp < w.heap.size := h.there _ (by simp [foot])
  have h3 : DiskAt w3 S := by rw [hw3]; exact (h.alloc _).alloc _
  have o3 : Off [S.dp] w w3 := by rw [hw3]; exact ((Off.refl _ _).alloc _).alloc _
  have hs3 : w3.heap.size = w.heap.size + 2 := by rw [hw3]; simp
  have b0 : w3.cell? ⟨w.heap.size, 0, none⟩ = some (.pointer (some ⟨S.dp, 0, none⟩)) := by rw [hw3, World.cell?_alloc_past _ _ _ (by simp), World.cell?_alloc_at _ _ _ _ rfl]; rfl
  have b1 : w3.cell? ⟨w.heap.size + 1, 0, none⟩ = some (.slice A n c) := by rw [hw3, World.cell?_alloc_at _ _ _ _ (by simp)]; rfl
  have C := Lib.hid (change_m h3 hc (s := s) (fn := 31) (cs := #[.pointer (some ⟨w.heap.size, 0, none⟩), .pointer (some ⟨w.heap.size + 1, 0, none⟩)]) (act := fun f =>
    if failsAt S.plan (S.calls + 1) then
      let k := (min (min (partOf S.plan (S.calls + 1)) l.length) (S.cap - S.used)).toNat
      ({ (see S).tick with files := setM (see S).files s.data.toList (f.1 ++ l.take k, f.2), used := S.used + k }, 12)
    else if S.cap - S.used < l.length then ((see S).tick, 13)
    else ({ (see S).tick with files := setM (see S).files s.data.toList (f.1 ++ l, f.2), used := S.used + l.length }, 0))
    (enters_of Try.func31 (by kernel_rfl) rfl) (by
      intro w1 f h1 o1 hv hl
      show Calls Try.prog 31 #[.pointer (some ⟨f.blk, 0, none⟩), .agg #[.bool (failsAt S.plan (S.calls + 1)), .int .i64 (partOf S.plan (S.calls + 1))], .pointer (some ⟨w.heap.size, 0, none⟩), .pointer (some ⟨w.heap.size + 1, 0, none⟩)] w1 _
      obtain ⟨w2, hw2⟩ : ∃ w2, w2 = w1.alloc (.cells #[.bool (failsAt S.plan (S.calls + 1)), .int .i64 (partOf S.plan (S.calls + 1))] 57) := ⟨_, rfl⟩
      have h2 : DiskAt w2 S.tick := by rw [hw2]; exact h1.alloc _
      have ow2 : Off [S.dp] w3 w2 := by rw [hw2]; exact o1.alloc _
      have hs1 := ow2.size
      have e0 : w2.cell? ⟨w.heap.size, 0, none⟩ = some (.pointer (some ⟨S.dp, 0, none⟩)) := (ow2.cell (show _ < w3.heap.size by simp only []; omega) (by simp only [List.mem_singleton]; omega)).trans b0
      have e1 : w2.cell? ⟨w.heap.size + 1, 0, none⟩ = some (.slice A n c) := (ow2.cell (show _ < w3.heap.size by simp only []; omega) (by simp only [List.mem_singleton]; omega)).trans b1
      have d1 : w2.cell? ⟨S.dp, 1, none⟩ = some (.int .i64 S.cap) := h2.cells.c1
      have d2 : w2.cell? ⟨S.dp, 2, none⟩ = some (.int .i64 S.used) := h2.cells.c2
      have l1 : w.heap.size + 1 < w1.heap.size := by have := o1.size; omega
      have hfl1 := hfl f hl
      have room : IntKind.i64.wrap (S.cap - S.used) = S.cap - S.used := IntWalk.i64_in _ (by omega)
      have ST := Lib.hid (step_tick h2 ow2)
      have hrw : Rd w2 B A n c (bv l) := hr w2 ((o3.trans ow2 (fun k hk => .inl hk)).wide fun k hk => by rw [List.mem_singleton.1 hk]; simp [foot])
      have h2d := h2.drew
      have ow2d := ow2.drew
      have hfs : (f.bytes.length : Int) ≤ 35184372088832 := by omega
      cases hfls : failsAt S.plan (S.calls + 1) with
      | true =>
        simp only [hfls] at hw2 ⊢
        obtain ⟨k, hk⟩ : ∃ k, k = (min (min (partOf S.plan (S.calls + 1)) l.length) (S.cap - S.used)).toNat := ⟨_, rfl⟩
        have hki : min (min (partOf S.plan (S.calls + 1)) (n : Int)) (S.cap - S.used) = (k : Int) := by rw [hk, hll]; omega
        have hkn : k ≤ n := by omega
        have hrf : Rd w2.drew.drew B A k c (bv (l.take k)) := by
          have := hrw.drew.drew.front hkn
          rwa [show (bv l).take k = bv (l.take k) by simp [bv]] at this
        have hlk : (l.take k).length = k := by rw [List.length_take]; omega
        have G := Lib.hid (grow_c h2d.drew (S := S.tick) hl hrf (by omega) (by omega) hu0 hu)
        have hGS := Lib.hid fun e w' hg => step_grow (l := l.take k) (e := e) (w' := w') h2d.drew ow2d.drew hl hg
        have hsl := fun W => run_slice_hi_gen (P := Try.prog) (n := n) (A := A) 22 5 Try.underlying22 info_u8 .i64 (k := k) (c := c) (by have := hrw.cap; omega) W
        have hm3 : ∀ (W : World) (ts : Array TypeId) (t : TypeId), (Builtin.min_ ts t #[.int .i64 (partOf S.plan (S.calls + 1)), .int .i64 (n : Int), .int .i64 (S.cap - S.used)]).run Try.prog W = .ok (.int .i64 (k : Int)) W := by
          intro W ts t; rw [run_min3, hki]
        rw [hlk] at hGS
        rw [← hk]
        clear h2 ow2 h1 o1 hr h3 o3 h hrw b0 b1 hfl hw3 h2d ow2d hrf hk hn hu hu0 huc hcap hpart hfs hfl1 hkn hki hc hs3 hs1 hll hlk hdp
        have g0 : w2.drew.cell? ⟨w.heap.size, 0, none⟩ = some (.pointer (some ⟨S.dp, 0, none⟩)) := e0
        have g1 : w2.drew.cell? ⟨w.heap.size + 1, 0, none⟩ = some (.slice A n c) := e1
        have g2 : w2.drew.cell? ⟨w1.heap.size, 1, none⟩ = some (.int .i64 (partOf S.plan (S.calls + 1))) := by
          show w2.cell? _ = _
          rw [hw2, World.cell?_alloc_at _ _ _ _ rfl]; rfl
        rw [hw2] at e0 e1 d1 d2
        go_enter Try.func31, Try.ntmps31
        go_wp2_with fail
        go_region
        go_wp2_with fail
        rw [← hw2]
        generalize hw5 : w2.drew = w5 at g0 g1 g2 G hGS ⊢
        clear e0 e1 d1 d2 hw5 ST
        go_still_tail 10, (by kernel_rfl)
        change wpList _ _ _ _ _ w5.drew
        go_wp2_with fail
        refine G.out.mono ?_
        intro e w4 hg
        obtain ⟨rfl, hst⟩ := hGS.out e w4 hg
        go_wp2
        go_ret
        exact ⟨12, rfl, hst, rfl⟩
      | false =>
        simp only [hfls] at hw2 ⊢
        by_cases hroom : S.cap - S.used < (l.length : Int)
        · have hdec : decide ((n : Int) > S.cap - S.used) = true := by simp; omega
          simp only [hroom]
          clear h2 ow2 h1 o1 hr h3 o3 h hrw b0 b1 hfl hw3 h2d ow2d
          subst hw2
          go_enter Try.func31, Try.ntmps31
          go_wp2_with fail
          go_region
          go_wp2
          go_ret
          exact ⟨13, rfl, ST.out.drew, rfl⟩
        · have hdec : decide ((n : Int) > S.cap - S.used) = false := by simp; omega
          have G := Lib.hid (grow_c h2d (S := S.tick) hl hrw.drew (by omega) hn hu0 hu)
          have hGS := Lib.hid fun e w' hg => step_grow (l := l) (e := e) (w' := w') h2d ow2d hl hg
          simp only [hroom]
          clear h2 ow2 h1 o1 hr h3 o3 h hrw b0 b1 hfl hw3 h2d ow2d
          subst hw2
          go_enter Try.func31, Try.ntmps31
          go_wp2_with fail
          go_region
          go_wp2_with fail
          refine G.out.mono ?_
          intro e w4 hg
          obtain ⟨rfl, hst⟩ := hGS.out e w4 hg
          go_wp2
          go_ret
          rw [hll] at hst
          exact ⟨0, rfl, hst, rfl⟩))
  clear b0 b1 h3 h hr
  have HO := Lib.hid (o3.wide (G := foot S) fun k hk => by rw [List.mem_singleton.1 hk]; simp [foot])
  clear o3
  subst hw3
  go_enter Try.func10, Try.ntmps10
  go_wp2_with fail
  refine C.out.mono ?_
  rintro e w4 ⟨i, rfl, hR⟩
  go_wp2
  go_ret
  exact ⟨i, rfl, hR.1.up HO.out, hR.2⟩
end Go.Proofs.Ytkabgebfbbkioab
