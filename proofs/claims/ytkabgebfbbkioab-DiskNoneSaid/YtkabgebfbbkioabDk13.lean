/-
  Contracts: drop, Remove.
-/
import Derived.Test.YtkabgebfbbkioabDk12
namespace Go.Proofs.Ytkabgebfbbkioab
open Go.RowKit Go.Maps

def dropS (S : DiskS) (s : List UInt8) : DiskS :=
  match lookF S.files s with
  | none => S
  | some f => { S with files := cutF S.files s, used := S.used - (f.bytes.length : Int) }

def DropP (S : DiskS) (s : List UInt8) (w : World) (e : Ending) (w' : World) : Prop := e = .returned (.tuple #[]) ∧ DiskAt w' (dropS S s) ∧ Off [S.dp, S.fb] w w'

set_option maxRecDepth 100000 in
set_option maxHeartbeats 1000000 in
theorem drop_c {w : World} {S : DiskS} (h : DiskAt w S) {s : ByteArray} (hs : s.size ≤ maxLen) (hu0 : 0 ≤ S.used) (hu : S.used ≤ 70368744177664) (hfl : ∀ f, lookF S.files s.data.toList = some f → (f.bytes.length : Int) ≤ S.used) :
    Calls Try.prog 36 #[.pointer (some ⟨S.dp, 0, none⟩), .string s] w (DropP S s.data.toList w) := by
  have c5 := h.cells.c5
  have c2 := h.cells.c2
  have hl := run_file h hs
  cases hf : lookF S.files s.data.toList with
  | none =>
    rw [hf] at hl
    simp only [ptrV] at hl
    have hFin : Hid (DropP S s.data.toList w (.returned (.tuple #[])) w) := Lib.hid ⟨rfl, by unfold dropS; rw [hf]; exact h, Off.refl _ _⟩
    clear h hfl c2
    go_enter Try.func36, Try.ntmps36
    go_wp2
    go_end0
    exact hFin.out
  | some f =>
    rw [hf] at hl
    simp only [ptrV] at hl
    obtain ⟨c, t⟩ := (h.file hf).1.two
    have c0 := t.c0
    have f2 := h.cells.fz 2
    have wr : IntKind.i64.wrap (S.used - (f.bytes.length : Int)) = S.used - (f.bytes.length : Int) := IntWalk.i64_in _ (by have := hfl f hf; omega)
    have h1 := (h.setUsed (S.used - (f.bytes.length : Int))).drew
    obtain ⟨W, hW⟩ : ∃ W, W = (w.setCell ⟨S.dp, 2, none⟩ (.int .i64 (S.used - (f.bytes.length : Int)))).drew := ⟨_, rfl⟩
    rw [← hW] at h1
    have oW : Off [S.dp] w W := by rw [hW]; exact ((Off.refl _ _).setCell (.inl (by simp)) _).drew
    have d5 : W.cell? ⟨S.dp, 5, none⟩ = some (.map (some S.fb)) := h1.cells.c5
    have hfb : S.fb ≠ S.dp := h.dp_ne.2.1
    have hown : W.ownsMap Try.prog 9 ptrR S.fb S.fn (FD S.files) := h1.names
    have hFin : Hid (∀ w', w'.ownsMap Try.prog 9 ptrR S.fb S.fn ((FD S.files).del (.string s.data.toList)) → W.mapTurned w' S.fb → DropP S s.data.toList w (.returned (.tuple #[])) w') := by
      refine Lib.hid fun w' hm ht => ⟨rfl, ?_, ?_⟩
      · have hd := h1.cut (s := s.data.toList) (w' := w') (by rw [← del_FD]; exact hm) (fun k hk hne => (off_of_turned ht).block k (h1.there k hk) (by simpa using hne)) (off_of_turned ht).size
        unfold dropS; rw [hf]; exact hd
      · exact Off.trans (F := [S.dp, S.fb]) (oW.wide (by simp)) (off_of_turned ht) (by simp)
    clear h hfl h1 oW hfb t
    go_enter Try.func36, Try.ntmps36
    go_wp2_with fail
    go_region
    rw [← hW]
    clear hW hl c5 c2 c0 f2 wr
    go_wp2_with (at_delete; refine wpList_delete_own _ rfl _ _ 26 9 rfl 50 keyed_s Try.underlying26 ptrR S.fb S.fn (FD S.files) rfl hown _ _ rfl (key_s hs) ?_; intro w1 hown1 hturn1)
    go_end0
    exact hFin.out w1 hown1 hturn1

def dropM (m : MD) (s : List UInt8) : MD :=
  match lookM m.files s with
  | none => m
  | some f => { m with files := cutM m.files s, used := m.used - (f.1.length : Int) }
theorem see_drop (S : DiskS) (s : List UInt8) : see (dropS S s) = dropM (see S) s := by
  have hl : lookM (see S).files s = _ := look_see S.files s
  unfold dropS dropM
  rw [hl]
  cases lookF S.files s with
  | none => rfl
  | some f => simp only [see, Option.map_some, cut_see]
theorem dp_drop (S : DiskS) (s : List UInt8) : (dropS S s).dp = S.dp := by unfold dropS; split <;> rfl
theorem feet_cut {fs : List (List UInt8 × FileS)} {s : List UInt8} {k : Nat} (h : k ∈ feet (cutF fs s)) : k ∈ feet fs := by
  obtain ⟨p, hp, hk⟩ := List.mem_flatMap.1 h
  exact List.mem_flatMap.2 ⟨p, (List.filter_sublist.subset hp), hk⟩
theorem foot_drop {S : DiskS} {s : List UInt8} {k : Nat} (h : k ∈ foot (dropS S s)) : k ∈ foot S := by
  unfold dropS at h
  split at h
  · exact h
  · simp only [foot, List.mem_cons] at h ⊢
    rcases h with h | h | h | h
    · exact .inl h
    · exact .inr (.inl h)
    · exact .inr (.inr (.inl h))
    · exact .inr (.inr (.inr (feet_cut h)))

def removeM (m : MD) (s : ByteArray) : MD × Int :=
  changeM m s fun _ => if failsAt m.plan (m.calls + 1) then (m.tick, 12) else (dropM m.tick s.data.toList, 0)

set_option maxRecDepth 100000 in
set_option maxHeartbeats 1000000 in
theorem remove_c {w : World} {S : DiskS} (h : DiskAt w S) (hc : S.calls ≤ 70368744177664) (s : ByteArray) (hu0 : 0 ≤ S.used) (hu : S.used ≤ 70368744177664) (hfl : ∀ f, lookF S.files s.data.toList = some f → (f.bytes.length : Int) ≤ S.used) :
    Calls Try.prog 13 #[.pointer (some ⟨S.dp, 0, none⟩), .string s] w (ErrR (OpR S w (removeM (see S) s))) := by
  have hmf : ∀ (fn : Fn) (first cap : Array Value) (w : World), (Instr.makeFunc fn first cap).run Try.prog w = .ok (.func fn first cap) w := fun _ _ _ _ => rfl
  obtain ⟨w3, hw3⟩ : ∃ w3, w3 = (w.alloc (.cells #[.pointer (some ⟨S.dp, 0, none⟩)] 24)).alloc (.cells #[.string s] 9) := ⟨_, rfl⟩
  have hdp : S.dp < w.heap.size := h.there _ (by simp [foot])
  have h3 : DiskAt w3 S := by rw [hw3]; exact (h.alloc _).alloc _
  have o3 : Off [S.dp] w w3 := by rw [hw3]; exact ((Off.refl _ _).alloc _).alloc _
  have hs3 : w3.heap.size = w.heap.size + 2 := by rw [hw3]; simp
  have b0 : w3.cell? ⟨w.heap.size, 0, none⟩ = some (.pointer (some ⟨S.dp, 0, none⟩)) := by rw [hw3, World.cell?_alloc_past _ _ _ (by simp), World.cell?_alloc_at _ _ _ _ rfl]; rfl
  have b1 : w3.cell? ⟨w.heap.size + 1, 0, none⟩ = some (.string s) := by rw [hw3, World.cell?_alloc_at _ _ _ _ (by simp)]; rfl
  have C := Lib.hid (change_m h3 hc (s := s) (fn := 37) (cs := #[.pointer (some ⟨w.heap.size, 0, none⟩), .pointer (some ⟨w.heap.size + 1, 0, none⟩)]) (act := fun _ => if failsAt S.plan (S.calls + 1) then ((see S).tick, 12) else (dropM (see S).tick s.data.toList, 0))
    (enters_of Try.func37 (by kernel_rfl) rfl) (by
      intro w1 f h1 o1 hv hl
      show Calls Try.prog 37 #[.pointer (some ⟨f.blk, 0, none⟩), .agg #[.bool (failsAt S.plan (S.calls + 1)), .int .i64 (partOf S.plan (S.calls + 1))], .pointer (some ⟨w.heap.size, 0, none⟩), .pointer (some ⟨w.heap.size + 1, 0, none⟩)] w1 _
      obtain ⟨w2, hw2⟩ : ∃ w2, w2 = w1.alloc (.cells #[.bool (failsAt S.plan (S.calls + 1)), .int .i64 (partOf S.plan (S.calls + 1))] 57) := ⟨_, rfl⟩
      have h2 : DiskAt w2 S.tick := by rw [hw2]; exact h1.alloc _
      have ow2 : Off [S.dp] w3 w2 := by rw [hw2]; exact o1.alloc _
      have hs1 := ow2.size
      have e0 : w2.cell? ⟨w.heap.size, 0, none⟩ = some (.pointer (some ⟨S.dp, 0, none⟩)) := (ow2.cell (show _ < w3.heap.size by simp only []; omega) (by simp only [List.mem_singleton]; omega)).trans b0
      have e1 : w2.cell? ⟨w.heap.size + 1, 0, none⟩ = some (.string s) := (ow2.cell (show _ < w3.heap.size by simp only []; omega) (by simp only [List.mem_singleton]; omega)).trans b1
      have l1 : w.heap.size + 1 < w1.heap.size := by have := o1.size; omega
      have hs : s.size ≤ maxLen := by
        simp [validB] at hv
        unfold maxLen; omega
      have ST := Lib.hid (step_tick h2 ow2)
      have D := Lib.hid (drop_c h2 (s := s) hs hu0 hu hfl)
      have SD : Hid (∀ w', DiskAt w' (dropS S.tick s.data.toList) → Off [S.dp, S.fb] w2 w' → Step S w3 (dropM (see S).tick s.data.toList) w') :=
        Lib.hid fun w' hd ho => ⟨_, hd, dp_drop _ _, see_drop S.tick _, Off.trans (ow2.wide fun k hk => by rw [List.mem_singleton.1 hk]; simp [foot]) ho (fun k hk => .inl (by simp only [List.mem_cons] at hk; simp only [foot, List.mem_cons]; grind)), fun k hk => .inl (foot_drop (S := S.tick) hk)⟩
      clear h2 ow2 h1 o1 h3 o3 h b0 b1 hw3 hs1 hs3 hdp hfl hu0 hu
      cases hfls : failsAt S.plan (S.calls + 1) with
      | true =>
        rw [hfls] at hw2
        subst hw2
        go_enter Try.func37, Try.ntmps37
        go_wp2
        go_ret
        exact ⟨12, rfl, ST.out, rfl⟩
      | false =>
        rw [hfls] at hw2
        subst hw2
        go_enter Try.func37, Try.ntmps37
        go_wp2_with fail
        refine D.out.mono ?_
        rintro e w4 ⟨rfl, hd, ho⟩
        have hst := Lib.hid (SD.out w4 hd ho)
        clear hd ho
        go_wp2
        go_ret
        exact ⟨0, rfl, hst.out, rfl⟩))
  clear b0 b1 h3 h hfl
  have HO := Lib.hid (o3.wide (G := foot S) fun k hk => by rw [List.mem_singleton.1 hk]; simp [foot])
  clear o3
  subst hw3
  go_enter Try.func13, Try.ntmps13
  go_wp2_with fail
  refine C.out.mono ?_
  rintro e w4 ⟨i, rfl, hR⟩
  go_wp2
  go_ret
  exact ⟨i, rfl, hR.1.up HO.out, hR.2⟩
end Go.Proofs.Ytkabgebfbbkioab
