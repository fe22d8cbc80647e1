/-
  A disk's files: one that comes, one that goes. Contract: Create.
-/
import Derived.Test.YtkabgebfbbkioabDk9
import Derived.OwnWalk
import Derived.Maps.Own
namespace Go.Proofs.Ytkabgebfbbkioab
open Go.RowKit Go.Maps

theorem cutF_none {fs : List (List UInt8 × FileS)} {s : List UInt8} (h : lookF fs s = none) : cutF fs s = fs := by
  unfold lookF at h
  rw [Option.map_eq_none_iff, List.find?_eq_none] at h
  unfold cutF
  rw [List.filter_eq_self]
  intro p hp
  simpa using h p hp
theorem insF_perm (q : List UInt8 × FileS) (fs : List (List UInt8 × FileS)) : (insF q fs).Perm (q :: fs) := by
  induction fs with
  | nil => exact List.Perm.refl _
  | cons p r ih =>
    unfold insF
    split
    · exact List.Perm.refl _
    · exact (List.Perm.cons p ih).trans (List.Perm.swap q p r)
theorem feet_perm {a b : List (List UInt8 × FileS)} (h : a.Perm b) : (feet a).Perm (feet b) := List.Perm.flatMap_right _ h

theorem DiskAt.put {w w' : World} {S : DiskS} (h : DiskAt w S) {s : List UInt8} {f : FileS} (hn : lookF S.files s = none)
    (hm : w'.ownsMap Try.prog 9 ptrR S.fb (S.fn + 1) (FD (putF S.files s f))) (hk : ∀ k ∈ foot S, k ≠ S.fb → w'.heap[k]? = w.heap[k]?) (hs : w.heap.size ≤ w'.heap.size)
    (hf : FileAt w' f) (hb : f.blk ∉ foot S) (hr : ∀ g, f.row = some g → g ∉ foot S ∧ g ≠ f.blk ∧ g < w'.heap.size) (hfew : (S.fn : Int) + 1 ≤ S.calls) :
    DiskAt w' { S with fn := S.fn + 1, files := putF S.files s f } := by
  obtain ⟨n1, n2, n3, n4⟩ := h.dp_ne
  have hput : putF S.files s f = insF (s, f) S.files := by unfold putF; rw [cutF_none hn]
  have hpf := feet_perm (insF_perm (s, f) S.files)
  rw [feet_cons] at hpf
  have hfp : (foot { S with fn := S.fn + 1, files := putF S.files s f }).Perm (S.dp :: S.mb :: S.fb :: (f.blk :: f.row.toList ++ feet S.files)) := by
    show (S.dp :: S.mb :: S.fb :: feet (putF S.files s f)).Perm _
    rw [hput]
    exact ((hpf.cons _).cons _).cons _
  have hblt : f.blk < w'.heap.size := by
    obtain ⟨⟨c, hc, _⟩, _⟩ := hf
    exact (Array.getElem?_eq_some_iff.1 hc).1
  refine ⟨(hk _ (by simp [foot]) (fun e => n2 e.symm)).trans h.head, ownsMap_kept h.parts (hk _ (by simp [foot]) (fun e => n3 e.symm)), hm, ?_, ?_, ?_, by show ((S.fn + 1 : Nat) : Int) ≤ S.calls; omega⟩
  · intro p hp
    have hp' : p ∈ insF (s, f) S.files := by rw [← hput]; exact hp
    rcases List.mem_cons.1 ((insF_perm _ _).mem_iff.1 hp') with rfl | hp'
    · exact hf
    · have := mem_feet hp'
      exact (h.each p hp').kept (hk _ (by simp [foot, this.1]) (n4 _ this.1).2.2) (fun g e => hk _ (by simp [foot, this.2 g e]) (n4 _ (this.2 g e)).2.2)
  · refine hfp.nodup_iff.2 ?_
    have hap := h.apart
    simp only [foot] at hap hb hr
    cases hrow : f.row with
    | none =>
      simp only [Option.toList_none, List.nodup_cons, List.mem_cons, not_or, List.cons_append, List.nil_append] at hap hb ⊢
      grind
    | some g =>
      have := hr g hrow
      simp only [Option.toList_some, List.nodup_cons, List.mem_cons, not_or, List.cons_append, List.nil_append] at hap hb this ⊢
      grind
  · intro k hk'
    have hk2 := hfp.mem_iff.1 hk'
    have hth := h.there
    simp only [foot] at hth
    simp only [List.mem_cons, List.mem_append, List.cons_append] at hk2 hth
    by_cases e1 : k = f.blk
    · rw [e1]; exact hblt
    · by_cases e2 : f.row = some k
      · exact (hr k e2).2.2
      · refine Nat.lt_of_lt_of_le (hth k ?_) hs
        have : k ∉ f.row.toList := by simpa using e2
        grind

theorem lookF_mem {fs : List (List UInt8 × FileS)} {s : List UInt8} {f : FileS} (h : lookF fs s = some f) : (s, f) ∈ fs := by
  obtain ⟨a, b, e, _⟩ := lookF_parts h
  rw [e]; simp

/-- A file goes. -/
theorem DiskAt.cut {w w' : World} {S : DiskS} (h : DiskAt w S) {s : List UInt8} (hm : w'.ownsMap Try.prog 9 ptrR S.fb S.fn (FD (cutF S.files s)))
    (hk : ∀ k ∈ foot S, k ≠ S.fb → w'.heap[k]? = w.heap[k]?) (hs : w.heap.size ≤ w'.heap.size) : DiskAt w' { S with files := cutF S.files s } := by
  obtain ⟨n1, n2, n3, n4⟩ := h.dp_ne
  have hsub : (cutF S.files s).Sublist S.files := List.filter_sublist
  have hfs : (feet (cutF S.files s)).Sublist (feet S.files) := by
    have : ∀ {a b : List (List UInt8 × FileS)}, a.Sublist b → (feet a).Sublist (feet b) := by
      intro a b hab
      induction hab with
      | slnil => exact List.Sublist.refl _
      | cons p _ ih => rw [feet_cons]; exact ih.trans (List.sublist_append_right _ _)
      | cons_cons p _ ih => rw [feet_cons, feet_cons]; exact (List.Sublist.refl _).append ih
    exact this hsub
  have hft : (foot { S with files := cutF S.files s }).Sublist (foot S) := ((hfs.cons_cons _).cons_cons _).cons_cons _
  refine ⟨(hk _ (by simp [foot]) (fun e => n2 e.symm)).trans h.head, ownsMap_kept h.parts (hk _ (by simp [foot]) (fun e => n3 e.symm)), hm, ?_, h.apart.sublist hft, ?_, h.few⟩
  · intro p hp
    have hp' : p ∈ S.files := hsub.subset hp
    have := mem_feet hp'
    exact (h.each p hp').kept (hk _ (by simp [foot, this.1]) (n4 _ this.1).2.2) (fun g e => hk _ (by simp [foot, this.2 g e]) (n4 _ (this.2 g e)).2.2)
  · intro k hk'
    exact Nat.lt_of_lt_of_le (h.there k (hft.subset hk')) hs

/-! ## Create -/
def createM (m : MD) (s : ByteArray) : MD × Int :=
  if validB s then
    if (lookM m.files s.data.toList).isSome then (m.tick, 11)
    else if failsAt m.plan (m.calls + 1) then (m.tick, 12)
    else ({ m.tick with files := putM m.files s.data.toList ([], 0) }, 0)
  else (m.tick, 2)

theorem off_of_turned {w w' : World} {b : Nat} (h : w.mapTurned w' b) : Off [b] w w' := by
  obtain ⟨es, cl, es', cl', h1, rfl⟩ := h
  refine ⟨rfl, rfl, rfl, by simp [ChangeMaps.setBlock], fun k hk hn => ?_⟩
  have : b ≠ k := fun e => hn (by simp [e])
  simp [ChangeMaps.setBlock, this]

/-- Behind a store of a new file. -/
theorem step_put {w w1 w' : World} {S : DiskS} (hf0 : (S.fn : Int) ≤ S.calls) (h1 : DiskAt w1 S.tick) (o1 : Off [S.dp] w w1) {s : List UInt8} {f : FileS} (hn : lookF S.files s = none)
    (hm : w'.ownsMap Try.prog 9 ptrR S.fb (S.fn + 1) (FD (putF S.files s f))) (ho : Off [S.fb] w1 w') (hf : FileAt w' f) (hb : w1.heap.size ≤ f.blk) (hr : f.row = none) :
    Step S w { (see S).tick with files := putM (see S).files s (f.bytes, f.safe) } w' := by
  have hth := h1.there
  have hd := h1.put (S := S.tick) (s := s) (f := f) hn hm (fun k hkf hne => ho.block k (hth k hkf) (fun e => hne (List.mem_singleton.1 e))) ho.size hf (fun e => by have := hth _ e; omega) (fun g e => by rw [hr] at e; cases e) (by simp only [DiskS.tick]; omega)
  refine ⟨_, hd, rfl, ?_, ?_, ?_⟩
  · simp only [see, DiskS.tick, MD.tick, put_see]
  · exact Off.trans (F := foot S) (o1.wide fun k hk => by rw [List.mem_singleton.1 hk]; simp [foot]) ho (fun k hk => .inl (by rw [List.mem_singleton.1 hk]; simp [foot]))
  · intro k hk
    have hk' : k ∈ S.dp :: S.mb :: S.fb :: feet (putF S.files s f) := hk
    have hput : putF S.files s f = insF (s, f) S.files := by unfold putF; rw [cutF_none hn]
    have hpf := feet_perm (insF_perm (s, f) S.files)
    rw [feet_cons, hr] at hpf
    rw [hput] at hk'
    have hsz := o1.size
    simp only [List.mem_cons, hpf.mem_iff, Option.toList_none, List.nil_append, List.cons_append] at hk'
    simp only [foot, List.mem_cons]
    by_cases e : k = f.blk
    · right; omega
    · left; grind

set_option maxRecDepth 100000 in
set_option maxHeartbeats 1000000 in
theorem create_c {w : World} {S : DiskS} (h : DiskAt w S) (hc : S.calls ≤ 70368744177664) (s : ByteArray) :
    Calls Try.prog 9 #[.pointer (some ⟨S.dp, 0, none⟩), .string s] w (ErrR (OpR S w (createM (see S) s))) := by
  have hmf : ∀ (fn : Fn) (first cap : Array Value) (w : World), (Instr.makeFunc fn first cap).run Try.prog w = .ok (.func fn first cap) w := fun _ _ _ _ => rfl
  obtain ⟨w3, hw3⟩ : ∃ w3, w3 = (w.alloc (.cells #[.pointer (some ⟨S.dp, 0, none⟩)] 24)).alloc (.cells #[.string s] 9) := ⟨_, rfl⟩
  have hdp : S.dp < w.heap.size := h.there _ (by simp [foot])
  have h3 : DiskAt w3 S := by rw [hw3]; exact (h.alloc _).alloc _
  have o3 : Off [S.dp] w w3 := by rw [hw3]; exact ((Off.refl _ _).alloc _).alloc _
  have hs3 : w3.heap.size = w.heap.size + 2 := by rw [hw3]; simp
  have b0 : w3.cell? ⟨w.heap.size, 0, none⟩ = some (.pointer (some ⟨S.dp, 0, none⟩)) := by rw [hw3, World.cell?_alloc_past _ _ _ (by simp), World.cell?_alloc_at _ _ _ _ rfl]; rfl
  have b1 : w3.cell? ⟨w.heap.size + 1, 0, none⟩ = some (.string s) := by rw [hw3, World.cell?_alloc_at _ _ _ _ (by simp)]; rfl
  have hlk : lookM (see S).files s.data.toList = _ := look_see S.files s.data.toList
  have hfew := h.few
  have C := Lib.hid (count_c (R := OpR S w3 (createM (see S) s)) h3 hc (fn := 28) (cs := #[.pointer (some ⟨w.heap.size + 1, 0, none⟩), .pointer (some ⟨w.heap.size, 0, none⟩)])
    (enters_of Try.func28 (by kernel_rfl) rfl) (by
      intro w1 h1 o1
      show Calls Try.prog 28 #[.agg #[.bool (failsAt S.plan (S.calls + 1)), .int .i64 (partOf S.plan (S.calls + 1))], .pointer (some ⟨w.heap.size + 1, 0, none⟩), .pointer (some ⟨w.heap.size, 0, none⟩)] w1 _
      obtain ⟨w2, hw2⟩ : ∃ w2, w2 = w1.alloc (.cells #[.bool (failsAt S.plan (S.calls + 1)), .int .i64 (partOf S.plan (S.calls + 1))] 57) := ⟨_, rfl⟩
      have h2 : DiskAt w2 S.tick := by rw [hw2]; exact DiskAt.alloc (S := S.tick) h1 _
      have ow2 : Off [S.dp] w3 w2 := by rw [hw2]; exact o1.alloc _
      have hs1 := ow2.size
      have e0 : w2.cell? ⟨w.heap.size, 0, none⟩ = some (.pointer (some ⟨S.dp, 0, none⟩)) := (ow2.cell (show _ < w3.heap.size by simp only []; omega) (by simp only [List.mem_singleton]; omega)).trans b0
      have e1 : w2.cell? ⟨w.heap.size + 1, 0, none⟩ = some (.string s) := (ow2.cell (show _ < w3.heap.size by simp only []; omega) (by simp only [List.mem_singleton]; omega)).trans b1
      have d5 : w2.cell? ⟨S.dp, 5, none⟩ = some (.map (some S.fb)) := h2.cells.c5
      have l1 : w.heap.size + 1 < w1.heap.size := by have := o1.size; omega
      have ST := Lib.hid (step_tick h2 ow2)
      clear h1 o1 h3 o3 h b0 b1 hw3 hs1 hs3 hdp
      cases hv : validB s with
      | false =>
        have E : createM (see S) s = ((see S).tick, 2) := by simp [createM, hv]
        rw [E]
        clear h2 ow2
        subst hw2
        go_enter Try.func28, Try.ntmps28
        go_wp2_with fail
        refine valid_c.mono ?_
        rintro e w4 ⟨rfl, rfl⟩
        rw [hv]
        go_wp2
        go_ret
        exact ⟨2, rfl, ST.out, rfl⟩
      | true =>
        have hs : s.size ≤ maxLen := by
          simp [validB] at hv
          unfold maxLen; omega
        have hl : (Instr.lookup 26 (.map (some S.fb)) (.string s) false).run Try.prog w2.drew = .ok (ptrV (lookF S.files s.data.toList)) w2.drew := run_file h2.drew hs
        cases hf : lookF S.files s.data.toList with
        | some f =>
          have E : createM (see S) s = ((see S).tick, 11) := by simp [createM, hv, hlk, hf]
          rw [E]
          rw [hf] at hl
          simp only [ptrV] at hl
          clear h2 ow2
          subst hw2
          go_enter Try.func28, Try.ntmps28
          go_wp2_with fail
          refine valid_c.mono ?_
          rintro e w4 ⟨rfl, rfl⟩
          rw [hv]
          go_wp2_with fail
          go_region
          go_wp2
          go_ret
          exact ⟨11, rfl, ST.out.drew, rfl⟩
        | none =>
          rw [hf] at hl
          simp only [ptrV] at hl
          cases hfls : failsAt S.plan (S.calls + 1) with
          | true =>
            have E : createM (see S) s = ((see S).tick, 12) := by unfold createM; rw [hv, hlk, hf, show (see S).plan = S.plan from rfl, show (see S).calls = S.calls from rfl, hfls]; rfl
            rw [E]
            rw [hfls] at hw2
            clear h2 ow2
            subst hw2
            go_enter Try.func28, Try.ntmps28
            go_wp2_with fail
            refine valid_c.mono ?_
            rintro e w4 ⟨rfl, rfl⟩
            rw [hv]
            go_wp2_with fail
            go_region
            go_wp2
            go_ret
            exact ⟨12, rfl, ST.out.drew, rfl⟩
          | false =>
            have E : createM (see S) s = ({ (see S).tick with files := putM (see S).files s.data.toList ([], 0) }, 0) := by unfold createM; rw [hv, hlk, hf, show (see S).plan = S.plan from rfl, show (see S).calls = S.calls from rfl, hfls]; rfl
            rw [E]
            rw [hfls] at hw2
            have h2d := h2.drew
            have ow2d := ow2.drew
            have g0 : w2.drew.cell? ⟨w.heap.size, 0, none⟩ = some (.pointer (some ⟨S.dp, 0, none⟩)) := e0
            have g1 : w2.drew.cell? ⟨w.heap.size + 1, 0, none⟩ = some (.string s) := e1
            have g5 : w2.drew.cell? ⟨S.dp, 5, none⟩ = some (.map (some S.fb)) := d5
            clear h2 ow2
            rw [hw2] at e0 e1 d5 hl
            go_enter Try.func28, Try.ntmps28
            go_wp2_with fail
            refine valid_c.mono ?_
            rintro e w4 ⟨rfl, rfl⟩
            rw [hv]
            go_wp2_with fail
            go_region
            go_wp2_with fail
            rw [← hw2]
            have l5 : w.heap.size + 1 < w2.drew.heap.size := by rw [hw2]; show _ < (w1.alloc _).heap.size; simp; omega
            have l6 : S.dp < w2.drew.heap.size := h2d.there _ (by simp [foot, DiskS.tick])
            generalize hw5 : w2.drew = w5 at g0 g1 g5 h2d ow2d l5 l6 ⊢
            have l7 : w.heap.size < w5.heap.size := by omega
            clear e0 e1 d5 hw5 ST hl hw2
            obtain ⟨W, hW⟩ : ∃ W, W = (w5.alloc (.cells #[.slice none 0 0, .int .i64 0] 52)).drew := ⟨_, rfl⟩
            have hWd : DiskAt W S.tick := by rw [hW]; exact DiskAt.drew (S := S.tick) (DiskAt.alloc (S := S.tick) h2d _)
            have hno : W.ownsMap Try.prog 9 ptrR S.fb S.fn (FD S.files) := hWd.names
            have hfnm : S.fn < maxLen := by unfold maxLen; omega
            obtain ⟨w6, hrun, hown, hturn⟩ := hno.store keyed_s Try.underlying26 hfnm (key_s hs) (val := .pointer (some ⟨w5.heap.size, 0, none⟩)) (d := .lit (.int .i64 (w5.heap.size : Int))) (ps := []) rfl
            have hpd : (FD S.files).put (.string s.data.toList) (.lit (.int .i64 (w5.heap.size : Int))) = FD (putF S.files s.data.toList ⟨w5.heap.size, none, [], 0⟩) := put_FD S.files s.data.toList ⟨w5.heap.size, none, [], 0⟩
            rw [hpd] at hown
            have hofm := off_of_turned hturn
            have hW1 : W.heap[w5.heap.size]? = some (.cells #[.slice none 0 0, .int .i64 0] 52 (0, 0)) := by rw [hW]; exact heap_alloc_new w5 _
            have hWs : W.heap.size = w5.heap.size + 1 := by rw [hW]; show (w5.alloc _).heap.size = _; simp
            have hfbl : S.fb < w5.heap.size := h2d.there _ (by simp [foot, DiskS.tick])
            have hoff : Off [S.fb] w5 w6 := Off.trans (F := [S.fb]) (by rw [hW]; exact ((Off.refl _ _).alloc _).drew) hofm (fun _ h => .inl h)
            have hfile : FileAt w6 ⟨w5.heap.size, none, [], 0⟩ := ⟨⟨0, (hofm.block w5.heap.size (by omega) (by simp only [List.mem_singleton]; omega)).trans hW1, Fr.nil⟩, Nat.le_refl _⟩
            have hFin : Hid (Step S w3 { (see S).tick with files := putM (see S).files s.data.toList ([], 0) } w6) :=
              Lib.hid (step_put hfew h2d ow2d hf hown hoff hfile (Nat.le_refl _) rfl)
            rw [hW] at hrun
            clear hWd hno hown hturn hW hpd h2d ow2d hofm hW1 hWs hfbl hoff hfile
            go_region
            go_wp2
            go_ret
            exact ⟨0, rfl, hFin.out, rfl⟩))
  clear b0 b1 h3 h hlk
  have HO := Lib.hid (o3.wide (G := foot S) fun k hk => by rw [List.mem_singleton.1 hk]; simp [foot])
  clear o3
  subst hw3
  go_enter Try.func9, Try.ntmps9
  go_wp2_with fail
  refine C.out.mono ?_
  rintro e w4 ⟨i, rfl, hR⟩
  go_wp2
  go_ret
  exact ⟨i, rfl, hR.1.up HO.out, hR.2⟩
end Go.Proofs.Ytkabgebfbbkioab
