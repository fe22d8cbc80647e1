/-
  Contracts: made, with, count of a disk.
-/
import Derived.Test.YtkabgebfbbkioabDk3
namespace Go.Proofs.Ytkabgebfbbkioab
open Go.RowKit Go.Maps

theorem info_disk : ∃ j, Try.prog.info? 28 = some j := by
  have : (Try.prog.info? 28).map (fun i => i.size) = some 6 := by kernel_rfl
  obtain ⟨j, hj, _⟩ := Option.map_eq_some_iff.1 this
  exact ⟨j, hj⟩

/-- The cells of a disk's head. -/
structure Cells6 (w : World) (S : DiskS) : Prop where
  c0 : w.cell? ⟨S.dp, 0, none⟩ = some (.pointer (some ⟨S.dp, 0, none⟩))
  c1 : w.cell? ⟨S.dp, 1, none⟩ = some (.int .i64 S.cap)
  c2 : w.cell? ⟨S.dp, 2, none⟩ = some (.int .i64 S.used)
  c3 : w.cell? ⟨S.dp, 3, none⟩ = some (.int .i64 S.calls)
  c4 : w.cell? ⟨S.dp, 4, none⟩ = some (.map (some S.mb))
  c5 : w.cell? ⟨S.dp, 5, none⟩ = some (.map (some S.fb))
  fz : ∀ o, w.frozen? ⟨S.dp, o, none⟩ = false
theorem DiskAt.cells {w : World} {S : DiskS} (h : DiskAt w S) : Cells6 w S := by
  constructor <;> first | (simp [World.cell?, h.head]; done) | (intro o; simp [World.frozen?, h.head])

def ErrR (R : Int → World → Prop) (e : Ending) (w' : World) : Prop := ∃ i, e = .returned (.int .i64 i) ∧ R i w'

set_option maxRecDepth 100000 in
theorem made_c {w : World} {S : DiskS} (h : DiskAt w S) :
    Calls Try.prog 38 #[.pointer (some ⟨S.dp, 0, none⟩)] w fun e w' => e = .returned (.bool true) ∧ w = w' := by
  obtain ⟨j, hj⟩ := info_disk
  have c0 := h.cells.c0
  have q := fun (w : World) (a : Addr) => run_eql_ptr_same w a Try.underlying24 hj
  clear hj h
  go_enter Try.func38, Try.ntmps38
  go_wp2
  go_ret
  exact ⟨rfl, rfl⟩

/-- The look-up of a file. -/
theorem run_file {w : World} {S : DiskS} (h : DiskAt w S) {s : ByteArray} (hs : s.size ≤ maxLen) :
    (Instr.lookup 26 (.map (some S.fb)) (.string s) false).run Try.prog w = .ok (ptrV (lookF S.files s.data.toList)) w := by
  obtain ⟨v, ps, hr, hv⟩ := h.names.lookup keyed_s Try.underlying26 (zero_file w) (zd := .nil) (zp := []) rfl (key_s hs)
  rw [hr]
  rw [at_FD] at hv
  cases hl : lookF S.files s.data.toList with
  | none => rw [hl] at hv; rw [ptrR_nil hv]; rfl
  | some f => rw [hl] at hv; rw [ptrR_some hv]; rfl

set_option maxRecDepth 100000 in
theorem with_c {w : World} {S : DiskS} (h : DiskAt w S) {s : ByteArray} {fn : Nat} {cs : Array Value} {R : Int → World → Prop}
    (eg : ∀ args w, (callFunc fn args).run Try.prog w = .ok (.enter fn args) w)
    (hno : validB s = false → R 2 w) (hnf : validB s = true → lookF S.files s.data.toList = none → R 10 w)
    (hyes : ∀ f, validB s = true → lookF S.files s.data.toList = some f → Calls Try.prog fn (#[.pointer (some ⟨f.blk, 0, none⟩)] ++ cs) w (ErrR R)) :
    Calls Try.prog 20 #[.pointer (some ⟨S.dp, 0, none⟩), .string s, .func (.func fn) #[] cs] w (ErrR R) := by
  have c5 := h.cells.c5
  go_enter Try.func20, Try.ntmps20
  go_wp2_with fail
  refine (made_c h).mono ?_
  rintro e w1 ⟨rfl, rfl⟩
  go_wp2_with fail
  refine valid_c.mono ?_
  rintro e w1 ⟨rfl, rfl⟩
  cases hv : validB s with
  | false =>
    go_wp2
    go_ret
    exact ⟨2, rfl, hno hv⟩
  | true =>
    have hs : s.size ≤ maxLen := by
      simp [validB] at hv
      unfold maxLen; omega
    have hl := run_file h hs
    cases hf : lookF S.files s.data.toList with
    | none =>
      rw [hf] at hl
      simp only [ptrV] at hl
      have r := hnf hv hf
      clear hnf hyes h hno
      go_wp2
      go_ret
      exact ⟨10, rfl, r⟩
    | some f =>
      rw [hf] at hl
      simp only [ptrV] at hl
      have r := hyes f hv hf
      clear hnf hyes h hno
      go_wp2_with fail
      refine r.mono ?_
      rintro e w1 ⟨i, rfl, hR⟩
      go_wp2
      go_ret
      exact ⟨i, rfl, hR⟩

theorem heap_setCell_other (w : World) (p : Addr) (v : Value) {k : Nat} (hk : k ≠ p.block) : (w.setCell p v).heap[k]? = w.heap[k]? := by
  simp only [World.setCell, Array.getElem?_modify]
  rw [if_neg (fun e => hk e.symm)]
theorem size_setCell (w : World) (p : Addr) (v : Value) : (w.setCell p v).heap.size = w.heap.size := by simp [World.setCell]
theorem Off.setCell {F : List Nat} {a b : World} (h : Off F a b) {p : Addr} (hp : p.block ∈ F ∨ a.heap.size ≤ p.block) (v : Value) : Off F a (b.setCell p v) :=
  ⟨h.os, h.tape, h.output, by rw [size_setCell]; exact h.size, fun k hk hn => (heap_setCell_other b p v (fun e => by subst e; rcases hp with hp | hp; exact hn hp; omega)).trans (h.block k hk hn)⟩

theorem DiskAt.dp_ne {w : World} {S : DiskS} (h : DiskAt w S) : S.mb ≠ S.dp ∧ S.fb ≠ S.dp ∧ S.fb ≠ S.mb ∧ (∀ k ∈ feet S.files, k ≠ S.dp ∧ k ≠ S.mb ∧ k ≠ S.fb) := by
  have := h.apart
  simp only [foot, List.nodup_cons, List.mem_cons, not_or] at this
  obtain ⟨⟨a, b, c⟩, ⟨d, e⟩, f, g⟩ := this
  exact ⟨fun e => a e.symm, fun e => b e.symm, fun e => d e.symm, fun k hk => ⟨fun x => c (x ▸ hk), fun x => e (x ▸ hk), fun x => f (x ▸ hk)⟩⟩

theorem DiskAt.setCalls {w : World} {S : DiskS} (h : DiskAt w S) {k : Int} (hk : S.calls ≤ k) : DiskAt (w.setCell ⟨S.dp, 3, none⟩ (.int .i64 k)) { S with calls := k } := by
  obtain ⟨n1, n2, _, n4⟩ := h.dp_ne
  refine ⟨?_, ownsMap_kept h.parts (heap_setCell_other _ _ _ n1), ownsMap_kept h.names (heap_setCell_other _ _ _ n2), ?_, h.apart, fun k hm => by rw [size_setCell]; exact h.there k hm, Int.le_trans h.few hk⟩
  · simp only [World.setCell, Array.getElem?_modify, if_pos, h.head]
    rfl
  · intro p hp
    have := mem_feet hp
    exact (h.each p hp).kept (heap_setCell_other _ _ _ (n4 _ this.1).1) (fun g e => heap_setCell_other _ _ _ (n4 _ (this.2 g e)).1)

theorem DiskAt.setUsed {w : World} {S : DiskS} (h : DiskAt w S) (k : Int) : DiskAt (w.setCell ⟨S.dp, 2, none⟩ (.int .i64 k)) { S with used := k } := by
  obtain ⟨n1, n2, _, n4⟩ := h.dp_ne
  refine ⟨?_, ownsMap_kept h.parts (heap_setCell_other _ _ _ n1), ownsMap_kept h.names (heap_setCell_other _ _ _ n2), ?_, h.apart, fun k hm => by rw [size_setCell]; exact h.there k hm, h.few⟩
  · simp only [World.setCell, Array.getElem?_modify, if_pos, h.head]
    rfl
  · intro p hp
    have := mem_feet hp
    exact (h.each p hp).kept (heap_setCell_other _ _ _ (n4 _ this.1).1) (fun g e => heap_setCell_other _ _ _ (n4 _ (this.2 g e)).1)

def failsAt (pl : DataW Unit) (k : Int) : Bool := has pl (.int .i64 k)
def partOf (pl : DataW Unit) (k : Int) : Int := match pl.atKey (.int .i64 k) (.lit (.int .i64 0)) with | .lit (.int _ c) => c | _ => 0

set_option maxRecDepth 100000 in
theorem run_part {w : World} {S : DiskS} (h : DiskAt w S) {k : Int} (hk : (Lit.int .i64 k).wf = true) :
    (Instr.lookup 25 (.map (some S.mb)) (.int .i64 k) true).run Try.prog w = .ok (.tuple #[.int .i64 (partOf S.plan k), .bool (failsAt S.plan k)]) w := by
  obtain ⟨v, ps, hr, hv⟩ := h.parts.look_ok keyed_i Try.underlying25 (zero_int w) (zd := .lit (.int .i64 0)) (zp := []) (by simp [plainElem, Try.underlying3]; decide) (kl := .int .i64 k) (key := .int .i64 k) (keyOf_int_mk Try.underlying3 hk)
  rw [hr]
  unfold partOf failsAt
  unfold plainElem at hv
  rw [Try.underlying3] at hv
  cases v <;> simp at hv
  obtain ⟨⟨rfl, h1⟩, h2, h3⟩ := hv
  rw [← h2]

def callV (pl : DataW Unit) (k : Int) : Value := .agg #[.bool (failsAt pl k), .int .i64 (partOf pl k)]

set_option maxRecDepth 100000 in
theorem count_c {w : World} {S : DiskS} (h : DiskAt w S) (hc : S.calls ≤ 70368744177664) {fn : Nat} {cs : Array Value} {R : Int → World → Prop}
    (eg : ∀ args w, (callFunc fn args).run Try.prog w = .ok (.enter fn args) w)
    (hyes : ∀ w1, DiskAt w1 { S with calls := S.calls + 1 } → Off [S.dp] w w1 → Calls Try.prog fn (#[callV S.plan (S.calls + 1)] ++ cs) w1 (ErrR R)) :
    Calls Try.prog 27 #[.pointer (some ⟨S.dp, 0, none⟩), .func (.func fn) #[] cs] w (ErrR R) := by
  have hc0 : 0 ≤ S.calls := by have := h.few; omega
  have c3 := h.cells.c3
  have c4 := h.cells.c4
  have f3 := h.cells.fz 3
  have h1 := h.setCalls (k := S.calls + 1) (by omega)
  have c3' := h1.cells.c3
  have c4' := h1.cells.c4
  have rp := run_part h1.drew (k := S.calls + 1) (by simp [Lit.wf, IntKind.min, IntKind.max, IntKind.bits, IntKind.signed]; omega)
  go_enter Try.func27, Try.ntmps27
  go_wp2_with fail
  refine (made_c h).mono ?_
  rintro e w1 ⟨rfl, rfl⟩
  have HY := Lib.hid (hyes _ h1.drew (Off.setCell (Off.refl _ _) (.inl (by simp)) _).drew)
  clear hyes h1 h
  go_wp2_with fail
  go_region
  go_wp2_with fail
  refine HY.out.mono ?_
  rintro e w1 ⟨i, rfl, hR⟩
  go_wp2
  go_ret
  exact ⟨i, rfl, hR⟩
end Go.Proofs.Ytkabgebfbbkioab
