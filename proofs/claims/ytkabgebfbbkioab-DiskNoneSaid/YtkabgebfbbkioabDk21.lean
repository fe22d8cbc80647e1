/-
  The contracts once more, of the disk as it is seen.
-/
import Derived.Test.YtkabgebfbbkioabDk20
namespace Go.Proofs.Ytkabgebfbbkioab
open Go.RowKit Go.Maps

/-- What always holds of a disk. -/
structure Good (m : MD) : Prop where
  sum : m.used = (sumM m.files : Int)
  cap : m.used ≤ m.cap
  small : m.used ≤ 35184372088832
  max : m.cap ≤ 9223372036854775807
  calls0 : 0 ≤ m.calls
  calls : m.calls ≤ 70368744177664
  part : 0 ≤ partOf m.plan (m.calls + 1)
  names : ∀ p ∈ m.files, validB ⟨p.1.toArray⟩ = true
  few : m.files.length ≤ 8000000

/-- A disk that was made behind w0. -/
structure At (w0 w : World) (S : DiskS) (m : MD) : Prop where
  disk : DiskAt w S
  see : see S = m
  old : ∀ k ∈ foot S, w0.heap.size ≤ k
  below : Below w0.heap.size w0 w

structure Next (w0 w : World) (S : DiskS) (m' : MD) (w' : World) (S' : DiskS) : Prop where
  at_ : At w0 w' S' m'
  dp : S'.dp = S.dp
  off : Off (foot S) w w'
  grow : ∀ k ∈ foot S', k ∈ foot S ∨ w.heap.size ≤ k

theorem At.step {w0 w w' : World} {S : DiskS} {m m' : MD} (h : At w0 w S m) (hs : Step S w m' w') : ∃ S', Next w0 w S m' w' S' := by
  obtain ⟨S', h1, h2, h3, h4, h5⟩ := hs
  refine ⟨S', ⟨h1, h3, fun k hk => ?_, h.below.trans (h4.below h.below.size h.old)⟩, h2, h4, h5⟩
  rcases h5 k hk with h6 | h6
  · exact h.old k h6
  · exact Nat.le_trans h.below.size h6

theorem At.below_next {w0 w w' : World} {S : DiskS} {m : MD} (h : At w0 w S m) (hb : Below w.heap.size w w') : At w0 w' S m :=
  ⟨h.disk.kept (fun k hk => hb.block k (h.disk.there k hk)) hb.size, h.see, h.old, h.below.trans (hb.mono h.below.size)⟩

theorem Good.pre {w0 w : World} {S : DiskS} {m : MD} (h : At w0 w S m) (g : Good m) :
    S.used = (sumF S.files : Int) ∧ 0 ≤ S.used ∧ S.used ≤ 35184372088832 ∧ S.used ≤ S.cap ∧ S.cap ≤ 9223372036854775807 ∧ S.calls ≤ 70368744177664 ∧ 0 ≤ partOf S.plan (S.calls + 1) ∧
    (∀ t f, lookF S.files t = some f → (f.bytes.length : Int) ≤ S.used) ∧ S.files.length ≤ 8000000 ∧ ∀ p ∈ S.files, validB ⟨p.1.toArray⟩ = true := by
  have e := h.see
  subst e
  have h1 : S.used = (sumF S.files : Int) := by have := g.sum; rwa [show (see S).files = seeF S.files from rfl, sum_see] at this
  refine ⟨h1, by omega, g.small, g.cap, g.max, g.calls, g.part, fun t f hl => ?_, by have := g.few; simpa [see, seeF] using this, fun p hp => ?_⟩
  · obtain ⟨a, b, e, -, -⟩ := lookF_parts hl
    rw [h1, e, sum_append]
    simp only [sumF, List.map_cons, List.sum_cons]
    omega
  · exact g.names (p.1, p.2.bytes, p.2.safe) (List.mem_map.2 ⟨p, hp, rfl⟩)

/-- A number comes back, and the disk is another one. -/
def NextP (w0 w : World) (S : DiskS) (r : MD × Int) (e : Ending) (w' : World) : Prop := e = .returned (.int .i64 r.2) ∧ ∃ S', Next w0 w S r.1 w' S'

theorem nextP_of {w0 w w' : World} {S : DiskS} {m : MD} {r : MD × Int} {e : Ending} (h : At w0 w S m) (hp : ErrR (OpR S w r) e w') : NextP w0 w S r e w' := by
  obtain ⟨i, rfl, hs, rfl⟩ := hp
  exact ⟨rfl, h.step hs⟩

section
variable {w0 w : World} {S : DiskS} {m : MD}
theorem create_a (h : At w0 w S m) (g : Good m) (s : ByteArray) : Calls Try.prog 9 #[.pointer (some ⟨S.dp, 0, none⟩), .string s] w (NextP w0 w S (createM m s)) := by
  obtain ⟨p1, p2, p3, p4, p5, p6, p7, p8, p9, p10⟩ := g.pre h
  have := (create_c h.disk p6 s).mono fun e w' hp => nextP_of h hp
  rwa [h.see] at this
theorem sync_a (h : At w0 w S m) (g : Good m) (s : ByteArray) : Calls Try.prog 11 #[.pointer (some ⟨S.dp, 0, none⟩), .string s] w (NextP w0 w S (syncM m s)) := by
  obtain ⟨p1, p2, p3, p4, p5, p6, p7, p8, p9, p10⟩ := g.pre h
  have := (sync_c h.disk p6 s).mono fun e w' hp => nextP_of h hp
  rwa [h.see] at this
theorem remove_a (h : At w0 w S m) (g : Good m) (s : ByteArray) : Calls Try.prog 13 #[.pointer (some ⟨S.dp, 0, none⟩), .string s] w (NextP w0 w S (removeM m s)) := by
  obtain ⟨p1, p2, p3, p4, p5, p6, p7, p8, p9, p10⟩ := g.pre h
  have := (remove_c h.disk p6 s p2 (by omega) (fun f hf => p8 _ f hf)).mono fun e w' hp => nextP_of h hp
  rwa [h.see] at this
theorem rename_a (h : At w0 w S m) (g : Good m) (s t : ByteArray) : Calls Try.prog 12 #[.pointer (some ⟨S.dp, 0, none⟩), .string s, .string t] w (NextP w0 w S (renameM m s t)) := by
  obtain ⟨p1, p2, p3, p4, p5, p6, p7, p8, p9, p10⟩ := g.pre h
  have := (rename_c h.disk p6 s t p2 (by omega) p8).mono fun e w' hp => nextP_of h hp
  rwa [h.see] at this
theorem append_a (h : At w0 w S m) (g : Good m) (s : ByteArray) {B n c : Nat} {A : Option Addr} {l : List UInt8} (hr : ∀ w', Off (foot S) w w' → Rd w' B A n c (bv l)) (hn : n ≤ 35184372088832) :
    Calls Try.prog 10 #[.pointer (some ⟨S.dp, 0, none⟩), .string s, .slice A n c] w (NextP w0 w S (appendM m s l)) := by
  obtain ⟨p1, p2, p3, p4, p5, p6, p7, p8, p9, p10⟩ := g.pre h
  have := (append_c h.disk p6 s hr hn p2 p3 p4 p5 (fun f hf => p8 _ f hf) p7).mono fun e w' hp => nextP_of h hp
  rwa [h.see] at this
/-- An append of a literal. -/
theorem append_lit (h : At w0 w S m) (g : Good m) (s : ByteArray) {n : Nat} {l : List UInt8} {vs : Array Value} {fz : Nat × Nat} (hv : vs = (bv l).toArray) (hl : l.length = n) (hn : n ≤ 35184372088832) :
    Calls Try.prog 10 #[.pointer (some ⟨S.dp, 0, none⟩), .string s, .slice (some ⟨w.heap.size, 0, none⟩) n n] (w.alloc (.cells vs 5 fz)) (NextP w0 (w.alloc (.cells vs 5 fz)) S (appendM m s l)) := by
  subst hv
  have hat : At w0 (w.alloc (.cells (bv l).toArray 5 fz)) S m := h.below_next ((Below.refl _ _).alloc (Nat.le_refl _) _)
  refine append_a hat g s (B := w.heap.size + 1) (fun w' ho => ?_) hn
  have hx : (w.alloc (.cells (bv l).toArray 5 fz)).heap[w.heap.size]? = some (.cells (bv l).toArray 5 fz) := heap_alloc_new w _
  refine ⟨by simpa using hl, Nat.le_refl _, by unfold maxLen; omega, (fun e => by cases e), (fun _ ad e => by cases e; exact Nat.lt_succ_self _), fun ad e j u hu => ?_⟩
  cases e
  have hb : ((⟨w.heap.size, 0, none⟩ : Addr).add j) = ⟨w.heap.size, j, none⟩ := by unfold Addr.add; split <;> simp_all
  rw [hb]
  refine (ho.cell (by simp) (fun hm => by have := h.disk.there _ hm; simp only [] at this; omega)).trans ?_
  simp only [World.cell?, hx]
  simpa using hu
theorem crash_a (h : At w0 w S m) (g : Good m) {B n c : Nat} {A : Option Addr} {keeps : List Int} (hk : ∀ w', Off (foot S) w w' → Rd w' B A n c (iv keeps)) :
    Calls Try.prog 5 #[.pointer (some ⟨S.dp, 0, none⟩), .slice A n c] w fun e w' => e = .returned (.tuple #[]) ∧ ∃ S', Next w0 w S (crashM m keeps) w' S' := by
  obtain ⟨p1, p2, p3, p4, p5, p6, p7, p8, p9, p10⟩ := g.pre h
  have := (crash_c h.disk hk p9 p1 (by omega) p10).mono (R' := fun e w' => e = .returned (.tuple #[]) ∧ ∃ S', Next w0 w S (crashM (see S) keeps) w' S') fun e w' hp => ⟨hp.1, h.step hp.2⟩
  rwa [h.see] at this
theorem read_a (h : At w0 w S m) (g : Good m) (s : ByteArray) : Calls Try.prog 6 #[.pointer (some ⟨S.dp, 0, none⟩), .string s] w fun e w' => ∃ A n c, e = .returned (.tuple #[.slice A n c, .int .i64 (readM m s).2]) ∧ Fr w' w.heap.size 5 A n c (bv (readM m s).1) ∧ Below w.heap.size w w' ∧ At w0 w' S m := by
  obtain ⟨p1, p2, p3, p4, p5, p6, p7, p8, p9, p10⟩ := g.pre h
  refine (read_c h.disk s (fun f hf => by have := p8 _ f hf; omega)).mono fun e w' hp => ?_
  rw [h.see] at hp
  obtain ⟨A, n, c, h1, h2, h3⟩ := hp
  exact ⟨A, n, c, h1, h2, h3, h.below_next h3⟩
theorem size_a (h : At w0 w S m) (s : ByteArray) : Calls Try.prog 7 #[.pointer (some ⟨S.dp, 0, none⟩), .string s] w fun e w' => e = .returned (.tuple #[.int .i64 ((sizeM m s).1 : Int), .int .i64 (sizeM m s).2]) ∧ Below w.heap.size w w' ∧ At w0 w' S m := by
  refine (size_c h.disk s).mono fun e w' hp => ?_
  rw [h.see] at hp
  exact ⟨hp.1, hp.2, h.below_next hp.2⟩
theorem loose_a (h : At w0 w S m) (g : Good m) (s : ByteArray) : Calls Try.prog 8 #[.pointer (some ⟨S.dp, 0, none⟩), .string s] w fun e w' => e = .returned (.tuple #[.int .i64 ((looseM m s).1 : Int), .int .i64 (looseM m s).2]) ∧ Below w.heap.size w w' ∧ At w0 w' S m := by
  obtain ⟨p1, p2, p3, p4, p5, p6, p7, p8, p9, p10⟩ := g.pre h
  refine (loose_c h.disk s (fun f hf => by have := p8 _ f hf; omega)).mono fun e w' hp => ?_
  rw [h.see] at hp
  exact ⟨hp.1, hp.2, h.below_next hp.2⟩
theorem used_a (h : At w0 w S m) : Calls Try.prog 14 #[.pointer (some ⟨S.dp, 0, none⟩)] w fun e w' => e = .returned (.int .i64 m.used) ∧ w = w' := by
  have := used_c h.disk
  rwa [show S.used = m.used by rw [← h.see]; rfl] at this
theorem calls_a (h : At w0 w S m) : Calls Try.prog 15 #[.pointer (some ⟨S.dp, 0, none⟩)] w fun e w' => e = .returned (.int .i64 m.calls) ∧ w = w' := by
  have := calls_c h.disk
  rwa [show S.calls = m.calls by rw [← h.see]; rfl] at this
end

/-- A slice that is read stays, whatever becomes of the disk. -/
structure Keep (w : World) (S : DiskS) (A : Option Addr) (n c : Nat) (l : List UInt8) : Prop where
  rd : Rd w w.heap.size A n c (bv l)
  out : ∀ ad, A = some ad → 0 < n → ad.block ∉ foot S
theorem Keep.next {w0 w w' : World} {S S' : DiskS} {m' : MD} {A : Option Addr} {n c : Nat} {l : List UInt8} (h : Keep w S A n c l) (hn : Next w0 w S m' w' S') : Keep w' S' A n c l := by
  refine ⟨⟨h.rd.len, h.rd.cap, h.rd.max, h.rd.nil, fun h0 ad e => Nat.lt_of_lt_of_le (h.rd.blk h0 ad e) hn.off.size, fun ad e j u hu => ?_⟩, fun ad e h0 hm => ?_⟩
  · have hb : (ad.add j).block = ad.block := block_of_add _ _
    have h0 := h.rd.pos_of hu
    exact (hn.off.cell (by rw [hb]; exact h.rd.blk h0 ad e) (by rw [hb]; exact h.out ad e h0)).trans (h.rd.at_ ad e j u hu)
  · rcases hn.grow _ hm with h1 | h1
    · exact h.out ad e h0 h1
    · have := h.rd.blk h0 ad e; omega
theorem Keep.below {w w' : World} {S : DiskS} {A : Option Addr} {n c : Nat} {l : List UInt8} (h : Keep w S A n c l) (hb : Below w.heap.size w w') : Keep w' S A n c l :=
  ⟨(h.rd.below hb).more hb.size, h.out⟩
theorem Keep.of_fr {w w' : World} {S : DiskS} (hd : DiskAt w S) {A : Option Addr} {n c : Nat} {l : List UInt8} (h : Fr w' w.heap.size 5 A n c (bv l)) : Keep w' S A n c l :=
  ⟨h.rd (Nat.le_refl _), fun ad e _ hm => by have := (h.frozen ad e).1; have := hd.there _ hm; omega⟩
end Go.Proofs.Ytkabgebfbbkioab
