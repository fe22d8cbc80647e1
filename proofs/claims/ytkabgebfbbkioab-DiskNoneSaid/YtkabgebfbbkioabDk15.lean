/-
  Contract: Rename, the walk.
-/
import Derived.Test.YtkabgebfbbkioabDk14
namespace Go.Proofs.Ytkabgebfbbkioab
open Go.RowKit Go.Maps

set_option maxRecDepth 100000 in
set_option maxHeartbeats 1000000 in
/-- What a renaming does with its file. -/
theorem renameIn_c {w w2 : World} {S : DiskS} (hf0 : (S.fn : Int) ≤ S.calls) (hc : S.calls ≤ 70368744177664) (h2 : DiskAt w2 S.tick) (o2 : Off [S.dp] w w2) {old name : ByteArray} {f : FileS} (hl : lookF S.files old.data.toList = some f)
    (hos : old.size ≤ maxLen) (hns : name.size ≤ maxLen) (hu0 : 0 ≤ S.used) (hu : S.used ≤ 70368744177664) (hfl : ∀ t f, lookF S.files t = some f → (f.bytes.length : Int) ≤ S.used)
    {cb db ob nb : Nat} (c0 : w2.cell? ⟨cb, 0, none⟩ = some (.bool (failsAt S.plan (S.calls + 1)))) (c1 : w2.cell? ⟨db, 0, none⟩ = some (.pointer (some ⟨S.dp, 0, none⟩))) (c2 : w2.cell? ⟨ob, 0, none⟩ = some (.string old)) (c3 : w2.cell? ⟨nb, 0, none⟩ = some (.string name))
    (n1 : ∀ k, k = db ∨ k = ob ∨ k = nb → k ∉ foot S ∧ k < w2.heap.size) {act : MD × Int}
    (ha : act = if failsAt S.plan (S.calls + 1) then ((see S).tick, 12) else ({ dropM { (see S).tick with files := cutM (see S).files old.data.toList } name.data.toList with files := putM (dropM { (see S).tick with files := cutM (see S).files old.data.toList } name.data.toList).files name.data.toList (f.bytes, f.safe) }, 0)) :
    Calls Try.prog 35 #[.pointer (some ⟨f.blk, 0, none⟩), .pointer (some ⟨cb, 0, none⟩), .pointer (some ⟨db, 0, none⟩), .pointer (some ⟨ob, 0, none⟩), .pointer (some ⟨nb, 0, none⟩)] w2 (ErrR (OpR S w act)) := by
  cases hfls : failsAt S.plan (S.calls + 1) with
  | true =>
    rw [hfls] at ha c0
    rw [if_pos rfl] at ha
    subst ha
    have ST := Lib.hid (step_tick h2 o2)
    clear h2 o2 hfl n1
    go_enter Try.func35, Try.ntmps35
    go_wp2
    go_ret
    exact ⟨12, rfl, ST.out, rfl⟩
  | false =>
    rw [hfls] at ha c0
    rw [if_neg (by simp)] at ha
    subst ha
    have d5 : w2.cell? ⟨S.dp, 5, none⟩ = some (.map (some S.fb)) := h2.cells.c5
    have hown : w2.drew.ownsMap Try.prog 9 ptrR S.fb S.fn (FD S.files) := h2.drew.names
    obtain ⟨w3, hrun, hown3, hturn3⟩ := hown.drop keyed_s Try.underlying26 (key_s hos) 0
    rw [del_FD] at hown3
    have o3 := off_of_turned hturn3
    have h3 : DiskAt w3 { S.tick with files := cutF S.files old.data.toList } := h2.drew.cut (s := old.data.toList) hown3 (fun k hk hne => o3.block k (h2.there k hk) (fun e => hne (List.mem_singleton.1 e))) o3.size
    have o23 : Off [S.dp, S.fb] w2 w3 := Off.trans (Off.refl _ _).drew o3 (by simp)
    have D := Lib.hid (drop_c h3 (s := name) hns hu0 hu (fun g hg => hfl _ g (lookF_cut_some hg)))
    have g1 : w3.cell? ⟨db, 0, none⟩ = some (.pointer (some ⟨S.dp, 0, none⟩)) := (o23.cell (n1 db (by simp)).2 (by have := (n1 db (by simp)).1; simp [foot] at this; simp [this])).trans c1
    have g3 : w3.cell? ⟨nb, 0, none⟩ = some (.string name) := (o23.cell (n1 nb (by simp)).2 (by have := (n1 nb (by simp)).1; simp [foot] at this; simp [this])).trans c3
    clear hown hturn3
    go_enter Try.func35, Try.ntmps35
    go_wp2_with fail
    go_region
    go_wp2_with fail
    refine D.out.mono ?_
    rintro e w4 ⟨rfl, h4, o4⟩
    have x : ∀ S' : DiskS, (dropS S' name.data.toList).dp = S'.dp ∧ (dropS S' name.data.toList).fb = S'.fb ∧ (dropS S' name.data.toList).fn = S'.fn := by
      intro S'; unfold dropS; split <;> exact ⟨rfl, rfl, rfl⟩
    have o24 : Off [S.dp, S.fb] w2 w4 := Off.trans o23 o4 (fun k hk => .inl hk)
    have g5 : w4.cell? ⟨S.dp, 5, none⟩ = some (.map (some S.fb)) := by
      have := h4.cells.c5
      rw [(x _).1, (x _).2.1] at this
      exact this
    have k1 : w4.cell? ⟨db, 0, none⟩ = some (.pointer (some ⟨S.dp, 0, none⟩)) := (o24.cell (n1 db (by simp)).2 (by have := (n1 db (by simp)).1; simp [foot] at this; simp [this])).trans c1
    have k3 : w4.cell? ⟨nb, 0, none⟩ = some (.string name) := (o24.cell (n1 nb (by simp)).2 (by have := (n1 nb (by simp)).1; simp [foot] at this; simp [this])).trans c3
    have hown4 : w4.drew.ownsMap Try.prog 9 ptrR S.fb S.fn (FD (dropS { S.tick with files := cutF S.files old.data.toList } name.data.toList).files) := by
      have := h4.drew.names
      rw [(x _).2.1, (x _).2.2] at this
      exact this
    obtain ⟨w6, hrun6, hown6, hturn6⟩ := hown4.store keyed_s Try.underlying26 (by show S.fn < maxLen; unfold maxLen; omega) (key_s hns) (val := .pointer (some ⟨f.blk, 0, none⟩)) (d := .lit (.int .i64 (f.blk : Int))) (ps := []) rfl
    rw [put_FD] at hown6
    have hst := Lib.hid (step_rename hf0 h2 o2 hl h4 o24 hown6 (Off.trans (F := [S.fb]) (Off.refl _ _).drew (off_of_turned hturn6) (fun k hk => .inl hk)))
    clear hown4 hown6 hturn6 h4 o4 o24 h3 o23 o3 hown3 h2 o2 D hfl n1 g1 g3 hrun c0 c1 c2 c3 d5 x
    go_wp2_with fail
    go_region
    go_wp2
    go_ret
    exact ⟨0, rfl, hst.out, rfl⟩

set_option maxRecDepth 100000 in
set_option maxHeartbeats 1000000 in
theorem rename_c {w : World} {S : DiskS} (h : DiskAt w S) (hc : S.calls ≤ 70368744177664) (old name : ByteArray) (hu0 : 0 ≤ S.used) (hu : S.used ≤ 70368744177664) (hfl : ∀ t f, lookF S.files t = some f → (f.bytes.length : Int) ≤ S.used) :
    Calls Try.prog 12 #[.pointer (some ⟨S.dp, 0, none⟩), .string old, .string name] w (ErrR (OpR S w (renameM (see S) old name))) := by
  have hmf : ∀ (fn : Fn) (first cap : Array Value) (w : World), (Instr.makeFunc fn first cap).run Try.prog w = .ok (.func fn first cap) w := fun _ _ _ _ => rfl
  obtain ⟨w3, hw3⟩ : ∃ w3, w3 = ((w.alloc (.cells #[.pointer (some ⟨S.dp, 0, none⟩)] 24)).alloc (.cells #[.string old] 9)).alloc (.cells #[.string name] 9) := ⟨_, rfl⟩
  have hfoot := h.there
  have hdp : S.dp < w.heap.size := hfoot _ (by simp [foot])
  have h3 : DiskAt w3 S := by rw [hw3]; exact ((h.alloc _).alloc _).alloc _
  have o3 : Off [S.dp] w w3 := by rw [hw3]; exact (((Off.refl _ _).alloc _).alloc _).alloc _
  have hs3 : w3.heap.size = w.heap.size + 3 := by rw [hw3]; simp
  have b0 : w3.cell? ⟨w.heap.size, 0, none⟩ = some (.pointer (some ⟨S.dp, 0, none⟩)) := by rw [hw3, World.cell?_alloc_past _ _ _ (by simp; omega), World.cell?_alloc_past _ _ _ (by simp), World.cell?_alloc_at _ _ _ _ rfl]; rfl
  have b1 : w3.cell? ⟨w.heap.size + 1, 0, none⟩ = some (.string old) := by rw [hw3, World.cell?_alloc_past _ _ _ (by simp), World.cell?_alloc_at _ _ _ _ (by simp)]; rfl
  have b2 : w3.cell? ⟨w.heap.size + 2, 0, none⟩ = some (.string name) := by rw [hw3, World.cell?_alloc_at _ _ _ _ (by simp)]; rfl
  have hlk : lookM (see S).files old.data.toList = _ := look_see S.files old.data.toList
  have hfew := h.few
  have C := Lib.hid (count_c (R := OpR S w3 (renameM (see S) old name)) h3 hc (fn := 34) (cs := #[.pointer (some ⟨w.heap.size + 2, 0, none⟩), .pointer (some ⟨w.heap.size, 0, none⟩), .pointer (some ⟨w.heap.size + 1, 0, none⟩)])
    (enters_of Try.func34 (by kernel_rfl) rfl) (by
      intro w1 h1 o1
      show Calls Try.prog 34 #[.agg #[.bool (failsAt S.plan (S.calls + 1)), .int .i64 (partOf S.plan (S.calls + 1))], .pointer (some ⟨w.heap.size + 2, 0, none⟩), .pointer (some ⟨w.heap.size, 0, none⟩), .pointer (some ⟨w.heap.size + 1, 0, none⟩)] w1 _
      obtain ⟨w2, hw2⟩ : ∃ w2, w2 = w1.alloc (.cells #[.bool (failsAt S.plan (S.calls + 1)), .int .i64 (partOf S.plan (S.calls + 1))] 57) := ⟨_, rfl⟩
      have h2 : DiskAt w2 S.tick := by rw [hw2]; exact DiskAt.alloc (S := S.tick) h1 _
      have ow2 : Off [S.dp] w3 w2 := by rw [hw2]; exact o1.alloc _
      have hs1 := ow2.size
      have e0 : w2.cell? ⟨w.heap.size, 0, none⟩ = some (.pointer (some ⟨S.dp, 0, none⟩)) := (ow2.cell (show _ < w3.heap.size by simp only []; omega) (by simp only [List.mem_singleton]; omega)).trans b0
      have e1 : w2.cell? ⟨w.heap.size + 1, 0, none⟩ = some (.string old) := (ow2.cell (show _ < w3.heap.size by simp only []; omega) (by simp only [List.mem_singleton]; omega)).trans b1
      have e2 : w2.cell? ⟨w.heap.size + 2, 0, none⟩ = some (.string name) := (ow2.cell (show _ < w3.heap.size by simp only []; omega) (by simp only [List.mem_singleton]; omega)).trans b2
      have ec : w2.cell? ⟨w1.heap.size, 0, none⟩ = some (.bool (failsAt S.plan (S.calls + 1))) := by rw [hw2, World.cell?_alloc_at _ _ _ _ rfl]; rfl
      have l1 : w.heap.size + 2 < w1.heap.size := by have := o1.size; omega
      have l2 : w.heap.size < w1.heap.size := by omega
      have l3 : w.heap.size + 1 < w1.heap.size := by omega
      have ST := Lib.hid (step_tick h2 ow2)
      cases hv : validB name with
      | false =>
        have E : renameM (see S) old name = ((see S).tick, 2) := by simp [renameM, hv]
        rw [E]
        clear h2 ow2 h1 o1 h3 o3 h b0 b1 b2 hw3 hs1 hs3 hdp hfl hu0 hu hfoot
        subst hw2
        go_enter Try.func34, Try.ntmps34
        go_wp2_with fail
        refine valid_c.mono ?_
        rintro e w4 ⟨rfl, rfl⟩
        rw [hv]
        go_wp2
        go_ret
        exact ⟨2, rfl, ST.out, rfl⟩
      | true =>
        have hns : name.size ≤ maxLen := by
          simp [validB] at hv
          unfold maxLen; omega
        have n1 : ∀ k, k = w.heap.size ∨ k = w.heap.size + 1 ∨ k = w.heap.size + 2 → k ∉ foot S ∧ k < w2.heap.size := by
          intro k hk
          refine ⟨fun hm => ?_, by omega⟩
          have := hfoot k hm
          omega
        have W := Lib.hid (with_c (R := OpR S w3 (renameM (see S) old name)) h2 (s := old) (fn := 35) (cs := #[.pointer (some ⟨w1.heap.size, 0, none⟩), .pointer (some ⟨w.heap.size, 0, none⟩), .pointer (some ⟨w.heap.size + 1, 0, none⟩), .pointer (some ⟨w.heap.size + 2, 0, none⟩)])
          (enters_of Try.func35 (by kernel_rfl) rfl)
          (fun hvo => ⟨by rw [show renameM (see S) old name = ((see S).tick, 2) by simp [renameM, changeM, hv, hvo]]; exact ST.out, by simp [renameM, changeM, hv, hvo]⟩)
          (fun hvo hlo => by
            have hlo' : lookF S.files old.data.toList = none := hlo
            rw [hlo'] at hlk
            have E : renameM (see S) old name = ((see S).tick, 10) := by unfold renameM changeM; rw [hv, hvo, hlk]; rfl
            rw [E]
            exact ⟨ST.out, rfl⟩)
          (fun f hvo hlo => by
            have hlo' : lookF S.files old.data.toList = some f := hlo
            rw [hlo'] at hlk
            refine renameIn_c hfew hc h2 ow2 hlo' (by simp [validB] at hvo; unfold maxLen; omega) hns hu0 hu hfl ec e0 e1 e2 n1 ?_
            unfold renameM changeM
            rw [hv, hvo, hlk]
            rfl))
        clear h2 ow2 h1 o1 h3 o3 h b0 b1 b2 hw3 hs1 hs3 hdp hfl hu0 hu hfoot n1 ec ST
        subst hw2
        go_enter Try.func34, Try.ntmps34
        go_wp2_with fail
        refine valid_c.mono ?_
        rintro e w4 ⟨rfl, rfl⟩
        rw [hv]
        go_wp2_with fail
        refine W.out.mono ?_
        rintro e w4 ⟨i, rfl, hR⟩
        go_wp2
        go_ret
        exact ⟨i, rfl, hR⟩))
  clear b0 b1 b2 h3 h hfl hlk
  have HO := Lib.hid (o3.wide (G := foot S) fun k hk => by rw [List.mem_singleton.1 hk]; simp [foot])
  clear o3 hfoot
  subst hw3
  go_enter Try.func12, Try.ntmps12
  go_wp2_with fail
  refine C.out.mono ?_
  rintro e w4 ⟨i, rfl, hR⟩
  go_wp2
  go_ret
  exact ⟨i, rfl, hR.1.up HO.out, hR.2⟩
end Go.Proofs.Ytkabgebfbbkioab
