/-
  A disk in memory: its state, what of it stands where, and how it reads.
-/
import Derived.Test.YtkabgebfbbkioabDk2
import Derived.Maps.OwnSet
import Derived.Maps.OwnOps
import Derived.Maps.Ext
import Derived.StringKeys
namespace Go.Proofs.Ytkabgebfbbkioab
open Go.RowKit Go.Maps

theorem info_u8 : (Try.prog.info? 5).map (fun i => (i.zero, i.size, i.bytes)) = some (some (.int .u8 0), 1, 1) := by kernel_rfl
theorem keyed_s : Keyed Try.prog 9 := string_keyed Try.underlying9
theorem keyed_i : Keyed Try.prog 3 := int_keyed Try.underlying3
theorem zero_int (w : World) : (zeroValue 3).run Try.prog w = .ok (.int .i64 0) w := by kernel_rfl
theorem zero_file (w : World) : (zeroValue 50).run Try.prog w = .ok (.pointer none) w := by kernel_rfl

/-! ## The state -/
structure FileS where
  blk : Nat
  row : Option Nat
  bytes : List UInt8
  safe : Nat

structure DiskS where
  dp : Nat
  mb : Nat
  fb : Nat
  mn : Nat
  fn : Nat
  cap : Int
  used : Int
  calls : Int
  plan : DataW Unit
  files : List (List UInt8 × FileS)

def rowAt (r : Option Nat) : Option Addr := r.map (fun g => ⟨g, 0, none⟩)
def feet (fs : List (List UInt8 × FileS)) : List Nat := fs.flatMap (fun p => p.2.blk :: p.2.row.toList)
def foot (S : DiskS) : List Nat := S.dp :: S.mb :: S.fb :: feet S.files
def FD (fs : List (List UInt8 × FileS)) : DataW Unit := .map (fs.map fun p => (.string p.1, .lit (.int .i64 (p.2.blk : Int))))
def lookF (fs : List (List UInt8 × FileS)) (s : List UInt8) : Option FileS := (fs.find? (·.1 == s)).map (·.2)
def cutF (fs : List (List UInt8 × FileS)) (s : List UInt8) : List (List UInt8 × FileS) := fs.filter (fun p => !(p.1 == s))
def insF (q : List UInt8 × FileS) : List (List UInt8 × FileS) → List (List UInt8 × FileS)
  | [] => [q]
  | p :: r => if bytesBefore q.1 p.1 then q :: p :: r else p :: insF q r
def putF (fs : List (List UInt8 × FileS)) (s : List UInt8) (f : FileS) : List (List UInt8 × FileS) := insF (s, f) (cutF fs s)
def ptrV : Option FileS → Value
  | none => .pointer none
  | some f => .pointer (some ⟨f.blk, 0, none⟩)
def ptrR : Value → Option (DataW Unit × List MemPlace)
  | .pointer none => some (.nil, [])
  | .pointer (some ⟨b, 0, none⟩) => some (.lit (.int .i64 (b : Int)), [])
  | _ => none

/-! ## Lists of files as data -/
theorem sk (a s : List UInt8) : (Lit.string a).sameKey (.string s) = (a == s) := rfl

theorem has_FD (fs : List (List UInt8 × FileS)) (s : List UInt8) : has (FD fs) (.string s) = (lookF fs s).isSome := by
  show (fs.map fun p => ((.string p.1 : Lit), (.lit (.int .i64 (p.2.blk : Int)) : DataW Unit))).any (fun p => p.1.sameKey (.string s)) = ((fs.find? (·.1 == s)).map (·.2)).isSome
  induction fs with
  | nil => rfl
  | cons p r ih =>
    simp only [List.map_cons, List.any_cons, List.find?_cons, ih, sk]
    by_cases h : p.1 == s <;> simp [h]

theorem at_FD (fs : List (List UInt8 × FileS)) (s : List UInt8) : (FD fs).atKey (.string s) .nil = match lookF fs s with | none => .nil | some f => .lit (.int .i64 (f.blk : Int)) := by
  have h0 : ∀ es : List (Lit × DataW Unit), (DataW.map es).atKey (.string s) .nil = match es.find? (fun p => p.1.sameKey (.string s)) with | some p => p.2 | none => .nil := by intro es; simp only [DataW.atKey]; cases List.find? (fun p => p.1.sameKey (.string s)) es <;> rfl
  unfold FD lookF
  rw [h0]
  clear h0
  induction fs with
  | nil => rfl
  | cons p r ih =>
    simp only [List.map_cons, List.find?_cons, sk]
    by_cases h : p.1 == s
    · simp only [h]; rfl
    · simp only [h]; exact ih

theorem del_FD (fs : List (List UInt8 × FileS)) (s : List UInt8) : (FD fs).del (.string s) = FD (cutF fs s) := by
  simp only [DataW.del, FD, cutF, List.filter_map]
  rfl

theorem ins_FD (q : List UInt8 × FileS) (fs : List (List UInt8 × FileS)) :
    DataW.insert ((.string q.1 : Lit), (.lit (.int .i64 (q.2.blk : Int)) : DataW Unit)) (fs.map fun p => (.string p.1, .lit (.int .i64 (p.2.blk : Int)))) = (insF q fs).map fun p => (.string p.1, .lit (.int .i64 (p.2.blk : Int))) := by
  induction fs with
  | nil => rfl
  | cons p r ih =>
    simp only [List.map_cons, DataW.insert, insF, Lit.before]
    split <;> simp_all

theorem put_FD (fs : List (List UInt8 × FileS)) (s : List UInt8) (f : FileS) : (FD fs).put (.string s) (.lit (.int .i64 (f.blk : Int))) = FD (putF fs s f) := by
  simp only [DataW.put, FD, putF, ← ins_FD (s, f)]
  congr 2
  simp only [cutF, List.filter_map]
  rfl

theorem ptrR_nil {v : Value} {ps : List MemPlace} (h : ptrR v = some (.nil, ps)) : v = .pointer none := by
  unfold ptrR at h
  split at h <;> simp_all
theorem ptrR_some {v : Value} {b : Nat} {ps : List MemPlace} (h : ptrR v = some (.lit (.int .i64 (b : Int)), ps)) : v = .pointer (some ⟨b, 0, none⟩) := by
  unfold ptrR at h
  split at h
  · simp at h
  · simp only [Option.some.injEq, Prod.mk.injEq, DataW.lit.injEq, Lit.int.injEq, true_and] at h
    obtain ⟨h1, _⟩ := h
    have : _ = b := Int.ofNat.inj h1
    subst this
    rfl
  · cases h

theorem key_s {s : ByteArray} (h : s.size ≤ maxLen) : keyOf Try.prog 9 (.string s) = some (.string s.data.toList) := by
  exact WideMaps.keyOf_string_mk Try.underlying9 h

/-! ## Memory -/
/-- A file: its two cells, its row. -/
structure FileAt (w : World) (f : FileS) : Prop where
  head : ∃ c, w.heap[f.blk]? = some (.cells #[.slice (rowAt f.row) f.bytes.length c, .int .i64 (f.safe : Int)] 52 (0, 0)) ∧ Fr w 0 5 (rowAt f.row) f.bytes.length c (bv f.bytes)
  safe : f.safe ≤ f.bytes.length

/-- A disk: its head, its two maps, its files; all in blocks of their own. -/
structure DiskAt (w : World) (S : DiskS) : Prop where
  head : w.heap[S.dp]? = some (.cells #[.pointer (some ⟨S.dp, 0, none⟩), .int .i64 S.cap, .int .i64 S.used, .int .i64 S.calls, .map (some S.mb), .map (some S.fb)] 28 (0, 0))
  parts : w.ownsMap Try.prog 3 (plainElem Try.prog 3) S.mb S.mn S.plan
  names : w.ownsMap Try.prog 9 ptrR S.fb S.fn (FD S.files)
  each : ∀ p ∈ S.files, FileAt w p.2
  apart : (foot S).Nodup
  there : ∀ k ∈ foot S, k < w.heap.size
  few : (S.fn : Int) ≤ S.calls

theorem FileAt.kept {w w' : World} {f : FileS} (h : FileAt w f) (h1 : w'.heap[f.blk]? = w.heap[f.blk]?) (h2 : ∀ g, f.row = some g → w'.heap[g]? = w.heap[g]?) : FileAt w' f := by
  obtain ⟨⟨c, hh, hf⟩, hs⟩ := h
  refine ⟨⟨c, h1.trans hh, ⟨?_⟩⟩, hs⟩
  obtain ⟨o1, o2⟩ := hf.own
  refine ⟨o1, ?_⟩
  rcases o2 with o2 | ⟨g, cap, cur, e, hg, hhh, r⟩
  · exact .inl o2
  · refine .inr ⟨g, cap, cur, e, hg, ?_, r⟩
    injection e with e1 _ _
    have : f.row = some g := by
      cases hr : f.row with
      | none => rw [hr] at e1; cases e1
      | some g' => rw [hr] at e1; injection e1 with e1; injection e1 with e1; rw [e1]
    exact (h2 g this).trans hhh

theorem mem_feet {fs : List (List UInt8 × FileS)} {p : List UInt8 × FileS} (h : p ∈ fs) : p.2.blk ∈ feet fs ∧ ∀ g, p.2.row = some g → g ∈ feet fs := by
  refine ⟨List.mem_flatMap.2 ⟨p, h, by simp⟩, fun g e => List.mem_flatMap.2 ⟨p, h, by simp [e]⟩⟩

theorem ownsMap_kept {H : Type} {P : Program} {k : TypeId} {R : Value → Option (DataW H × List MemPlace)} {w w' : World} {b n : Nat} {D : DataW H}
    (h : w.ownsMap P k R b n D) (hk : w'.heap[b]? = w.heap[b]?) : w'.ownsMap P k R b n D := by
  obtain ⟨es, cl, h1, h2⟩ := h
  exact ⟨es, cl, hk.trans h1, h2⟩

theorem DiskAt.kept {w w' : World} {S : DiskS} (h : DiskAt w S) (hk : ∀ k ∈ foot S, w'.heap[k]? = w.heap[k]?) (hs : w.heap.size ≤ w'.heap.size) : DiskAt w' S := by
  refine ⟨(hk _ (by simp [foot])).trans h.head, ownsMap_kept h.parts (hk _ (by simp [foot])), ownsMap_kept h.names (hk _ (by simp [foot])), ?_, h.apart, fun k hm => Nat.lt_of_lt_of_le (h.there k hm) hs, h.few⟩
  intro p hp
  have := mem_feet hp
  exact (h.each p hp).kept (hk _ (by simp [foot, this.1])) (fun g e => hk _ (by simp [foot, this.2 g e]))

theorem DiskAt.alloc {w : World} {S : DiskS} (h : DiskAt w S) (o : Obj) : DiskAt (w.alloc o) S :=
  h.kept (fun k hm => heap_alloc_old w o (h.there k hm)) (by simp)
theorem DiskAt.drewN {w : World} {S : DiskS} (h : DiskAt w S) (n : Nat) : DiskAt (w.drewN n) S := h.kept (fun _ _ => rfl) (Nat.le_refl _)

theorem DiskAt.drew {w : World} {S : DiskS} (h : DiskAt w S) : DiskAt w.drew S := h.kept (fun _ _ => rfl) (Nat.le_refl _)

/-- What turns is of the disk alone, or new. -/
structure Off (F : List Nat) (w w' : World) : Prop where
  os : w'.os = w.os
  tape : w'.tape = w.tape
  output : w'.output = w.output
  size : w.heap.size ≤ w'.heap.size
  block : ∀ k, k < w.heap.size → k ∉ F → w'.heap[k]? = w.heap[k]?

theorem Off.refl (F : List Nat) (w : World) : Off F w w := ⟨rfl, rfl, rfl, Nat.le_refl _, fun _ _ _ => rfl⟩
theorem Off.trans {F G : List Nat} {a b c : World} (h : Off F a b) (h2 : Off G b c) (hs : ∀ k ∈ G, k ∈ F ∨ a.heap.size ≤ k) : Off F a c :=
  ⟨h2.os.trans h.os, h2.tape.trans h.tape, h2.output.trans h.output, Nat.le_trans h.size h2.size, fun k hk hn =>
    (h2.block k (Nat.lt_of_lt_of_le hk h.size) (fun hm => by rcases hs k hm with h | h; exact hn h; omega)).trans (h.block k hk hn)⟩
theorem Off.of_below {F : List Nat} {a b : World} (h : Below a.heap.size a b) : Off F a b := ⟨h.os, h.tape, h.output, h.size, fun k hk _ => h.block k hk⟩
theorem Off.alloc {F : List Nat} {a b : World} (h : Off F a b) (o : Obj) : Off F a (b.alloc o) :=
  ⟨h.os, h.tape, h.output, Nat.le_trans h.size (by simp), fun k hk hn => (heap_alloc_old b o (Nat.lt_of_lt_of_le hk h.size)).trans (h.block k hk hn)⟩
theorem Off.drew {F : List Nat} {a b : World} (h : Off F a b) : Off F a b.drew := ⟨h.os, h.tape, h.output, h.size, h.block⟩
theorem Off.below {F : List Nat} {a b : World} {B : Nat} (h : Off F a b) (hB : B ≤ a.heap.size) (hF : ∀ k ∈ F, B ≤ k) : Below B a b :=
  ⟨h.os, h.tape, h.output, h.size, fun k hk => h.block k (by omega) (fun hm => by have := hF k hm; omega)⟩
end Go.Proofs.Ytkabgebfbbkioab
