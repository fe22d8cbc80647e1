/-
  Contracts: Sync.
-/
import Derived.Test.YtkabgebfbbkioabDk6
namespace Go.Proofs.Ytkabgebfbbkioab
open Go.RowKit Go.Maps

/-- The answer and the disk behind a call. -/
def OpR (S : DiskS) (w : World) (m : MD × Int) (i : Int) (w' : World) : Prop := Step S w m.1 w' ∧ i = m.2

/-- A call that changes a file that must be there: what it does with the file, of a call that fails, or doesn't. -/
def changeM (m : MD) (s : ByteArray) (act : List UInt8 × Nat → MD × Int) : MD × Int :=
  if validB s then
    match lookM m.files s.data.toList with
    | none => (m.tick, 10)
    | some f => act f
  else (m.tick, 2)

structure File2 (w : World) (f : FileS) (c : Nat) : Prop where
  c0 : w.cell? ⟨f.blk, 0, none⟩ = some (.slice (rowAt f.row) f.bytes.length c)
  c1 : w.cell? ⟨f.blk, 1, none⟩ = some (.int .i64 (f.safe : Int))
  fz : ∀ o, w.frozen? ⟨f.blk, o, none⟩ = false
  fr : Fr w 0 5 (rowAt f.row) f.bytes.length c (bv f.bytes)
theorem FileAt.two {w : World} {f : FileS} (h : FileAt w f) : ∃ c, File2 w f c := by
  obtain ⟨⟨c, h1, h2⟩, _⟩ := h
  refine ⟨c, ?_, ?_, ?_, h2⟩
  · simp [World.cell?, h1]
  · simp [World.cell?, h1]
  · intro o; simp [World.frozen?, h1]

theorem change_m {w : World} {S : DiskS} (h : DiskAt w S) (hc : S.calls ≤ 70368744177664) {s : ByteArray} {fn : Nat} {cs : Array Value} {act : List UInt8 × Nat → MD × Int}
    (eg : ∀ args w, (callFunc fn args).run Try.prog w = .ok (.enter fn args) w)
    (hyes : ∀ w1 f, DiskAt w1 S.tick → Off [S.dp] w w1 → validB s = true → lookF S.files s.data.toList = some f →
      Calls Try.prog fn (#[.pointer (some ⟨f.blk, 0, none⟩), callV S.plan (S.calls + 1)] ++ cs) w1 (ErrR (OpR S w (act (f.bytes, f.safe))))) :
    Calls Try.prog 30 #[.pointer (some ⟨S.dp, 0, none⟩), .string s, .func (.func fn) #[] cs] w (ErrR (OpR S w (changeM (see S) s act))) := by
  have hl : lookM (see S).files s.data.toList = _ := look_see S.files s.data.toList
  refine change_c h hc eg ?_ ?_ ?_
  · intro w1 h1 o1 hv
    exact ⟨by simp only [changeM, hv]; exact step_tick h1 o1, by simp [changeM, hv]⟩
  · intro w1 h1 o1 hv hf
    rw [hf] at hl
    exact ⟨by simp only [changeM, hv, hl]; exact step_tick h1 o1, by simp [changeM, hv, hl]⟩
  · intro w1 f h1 o1 hv hf
    rw [hf] at hl
    have := hyes w1 f h1 o1 hv hf
    rw [show changeM (see S) s act = act (f.bytes, f.safe) by simp [changeM, hv, hl]]
    exact this

/-- Behind a file's turn. -/
theorem step_file {w w1 w' : World} {S : DiskS} (h1 : DiskAt w1 S.tick) (o1 : Off [S.dp] w w1) {s : List UInt8} {f f' : FileS} (hl : lookF S.files s = some f) (hb : f'.blk = f.blk)
    (hr : f'.row = f.row ∨ ∃ g, f'.row = some g ∧ w1.heap.size ≤ g ∧ g < w'.heap.size) (ho : Off (f.blk :: f.row.toList) w1 w') (hf : FileAt w' f') :
    Step S w { (see S).tick with files := setM (see S).files s (f'.bytes, f'.safe) } w' := by
  have hd := h1.setFile (S := S.tick) (s := s) hl hb hr ho hf
  have hfe := h1.file (S := S.tick) (s := s) hl
  refine ⟨_, hd, rfl, ?_, ?_, ?_⟩
  · simp only [see, DiskS.tick, MD.tick, set_see]
  · refine Off.trans (F := foot S) ⟨o1.os, o1.tape, o1.output, o1.size, fun k hk hn => o1.block k hk (fun e => hn (by rw [List.mem_singleton.1 e]; simp [foot]))⟩ ho ?_
    intro k hk
    rcases List.mem_cons.1 hk with rfl | hk
    · exact .inl hfe.2.1
    · exact .inl (hfe.2.2.1 k (by simpa using hk))
  · obtain ⟨a, b, e, -, hs⟩ := lookF_parts hl
    intro k hk
    have hk' : k ∈ S.dp :: S.mb :: S.fb :: feet (setF S.files s f') := hk
    rw [hs, feet_append, feet_cons, hb] at hk'
    have hsz := o1.size
    show k ∈ S.dp :: S.mb :: S.fb :: feet S.files ∨ _
    rw [e, feet_append, feet_cons]
    rcases hr with hr | ⟨g, hg, hg1, hg2⟩
    · rw [hr] at hk'; exact .inl hk'
    · rw [hg] at hk'
      by_cases e : k = g
      · right; omega
      · left
        simp only [List.mem_cons, List.mem_append, Option.toList_some, List.cons_append] at hk' ⊢
        grind

theorem Fr.kept {w w' : World} {b n c : Nat} {e : TypeId} {r : Option Nat} {xs : List Value} (h : Fr w b e (rowAt r) n c xs) (h2 : ∀ g, r = some g → w'.heap[g]? = w.heap[g]?) : Fr w' b e (rowAt r) n c xs := by
  obtain ⟨o1, o2⟩ := h.own
  refine ⟨o1, ?_⟩
  rcases o2 with o2 | ⟨g, cap, cur, e, hg, hhh, q⟩
  · exact .inl o2
  · refine .inr ⟨g, cap, cur, e, hg, ?_, q⟩
    injection e with e1 _ _
    have : r = some g := by
      cases hr : r with
      | none => rw [hr] at e1; cases e1
      | some g' => rw [hr] at e1; injection e1 with e1; injection e1 with e1; rw [e1]
    exact (h2 g this).trans hhh

theorem FileAt.setSafe {w : World} {f : FileS} (h : FileAt w f) (hn : ∀ g, f.row = some g → g ≠ f.blk) {k : Nat} (hk : k ≤ f.bytes.length) :
    FileAt (w.setCell ⟨f.blk, 1, none⟩ (.int .i64 (k : Int))) { f with safe := k } := by
  obtain ⟨⟨c, h1, h2⟩, _⟩ := h
  refine ⟨⟨c, ?_, h2.kept fun g e => heap_setCell_other _ _ _ (hn g e)⟩, hk⟩
  simp only [World.setCell, Array.getElem?_modify, if_pos, h1]
  rfl

/-! ## Sync -/
def syncM (m : MD) (s : ByteArray) : MD × Int :=
  changeM m s fun f => if failsAt m.plan (m.calls + 1) then (m.tick, 12) else ({ m.tick with files := setM m.files s.data.toList (f.1, f.1.length) }, 0)

set_option maxRecDepth 100000 in
theorem sync_c {w : World} {S : DiskS} (h : DiskAt w S) (hc : S.calls ≤ 70368744177664) (s : ByteArray) :
    Calls Try.prog 11 #[.pointer (some ⟨S.dp, 0, none⟩), .string s] w (ErrR (OpR S w (syncM (see S) s))) := by
  have C := Lib.hid (change_m h hc (s := s) (fn := 33) (cs := #[]) (act := fun f => if failsAt S.plan (S.calls + 1) then ((see S).tick, 12) else ({ (see S).tick with files := setM (see S).files s.data.toList (f.1, f.1.length) }, 0))
    (enters_of Try.func33 (by kernel_rfl) rfl) (by
      intro w1 f h1 o1 hv hl
      show Calls Try.prog 33 #[.pointer (some ⟨f.blk, 0, none⟩), .agg #[.bool (failsAt S.plan (S.calls + 1)), .int .i64 (partOf S.plan (S.calls + 1))]] w1 _
      obtain ⟨w2, hw2⟩ : ∃ w2, w2 = w1.alloc (.cells #[.bool (failsAt S.plan (S.calls + 1)), .int .i64 (partOf S.plan (S.calls + 1))] 57) := ⟨_, rfl⟩
      have h2 : DiskAt w2 S.tick := by rw [hw2]; exact h1.alloc _
      have ow2 : Off [S.dp] w w2 := by rw [hw2]; exact o1.alloc _
      obtain ⟨hf, hm, hrow, hlt⟩ := h2.file (S := S.tick) hl
      obtain ⟨c, t⟩ := hf.two
      have ST := Lib.hid (step_tick h2 ow2)
      have SF : Hid (Step S w { (see S).tick with files := setM (see S).files s.data.toList (f.bytes, f.bytes.length) } (w2.setCell ⟨f.blk, 1, none⟩ (.int .i64 (f.bytes.length : Int)))) := by
        refine Lib.hid (step_file h2 ow2 (f' := { f with safe := f.bytes.length }) hl rfl (.inl rfl) (Off.setCell (Off.refl _ _) (.inl (by simp)) _) (hf.setSafe (h2.row_ne (S := S.tick) hl) (Nat.le_refl _)))
      have c0 := t.c0
      have c1 := t.c1
      have f1 := t.fz 1
      clear h2 ow2 hf hm hrow t h h1 o1
      cases hfl : failsAt S.plan (S.calls + 1) with
      | true =>
        rw [hfl] at hw2
        subst hw2
        go_enter Try.func33, Try.ntmps33
        go_wp2
        go_ret
        exact ⟨12, rfl, ST.out, rfl⟩
      | false =>
        rw [hfl] at hw2
        subst hw2
        go_enter Try.func33, Try.ntmps33
        go_wp2
        go_ret
        exact ⟨0, rfl, SF.out, rfl⟩))
  clear h
  go_enter Try.func11, Try.ntmps11
  go_wp2_with fail
  refine C.out.mono ?_
  rintro e w4 ⟨i, rfl, hR⟩
  go_wp2
  go_ret
  exact ⟨i, rfl, hR⟩
end Go.Proofs.Ytkabgebfbbkioab
