/-
  Two disks beside each other in memory; Copy once more, of a disk as it is seen.
-/
import Derived.Test.YtkabgebfbbkioaaDkO
namespace Go.Proofs.Ytkabgebfbbkioaa
open Go.RowKit Go.Maps

theorem Next.beside {w0 w w' : World} {S S' T : DiskS} {m m' f : MD} (hn : Next w0 w S m' w' S') (h : At w0 w S m) (ho : At w0 w T f) (ha : ∀ k ∈ foot S, k ∉ foot T) : At w0 w' T f ∧ ∀ k ∈ foot S', k ∉ foot T :=
  ⟨ho.off hn.off (fun k hk => ⟨ha k hk, h.old k hk⟩), fun k hk hm => by
    rcases hn.grow k hk with h1 | h1
    · exact ha k h1 hm
    · have := ho.disk.there k hm; omega⟩
theorem apart_symm {S T : DiskS} (h : ∀ k ∈ foot S, k ∉ foot T) : ∀ k ∈ foot T, k ∉ foot S := fun k hk hm => h k hm hk
/-- What a copy is. -/
structure Copied (w0 w : World) (S : DiskS) (m : MD) (w' : World) (S' : DiskS) : Prop where
  copy : At w0 w' S' m
  orig : At w0 w' S m
  new : ∀ k ∈ foot S', w.heap.size ≤ k
  below : Below w.heap.size w w'
theorem copy_a {w0 w : World} {S : DiskS} {m : MD} (h : At w0 w S m) (g : Good m) :
    Calls Try.prog 25 #[.pointer (some ⟨S.dp, 0, none⟩)] w fun e w' => ∃ S', e = .returned (.pointer (some ⟨S'.dp, 0, none⟩)) ∧ Copied w0 w S m w' S' := by
  obtain ⟨p1, p2, p3, p4, p5, p6, p7, p8, p9, p10⟩ := g.pre h
  refine (copy_c h.disk (fun p hp => ?_) p9).mono fun e w' hp => ?_
  · obtain ⟨b, hb⟩ : ∃ b, lookF S.files p.1 = some b := by
      have : (lookF S.files p.1).isSome = true := by
        unfold lookF
        simp only [Option.isSome_map, List.find?_isSome]
        exact ⟨p, hp, by simp⟩
      exact Option.isSome_iff_exists.1 this
    have hs : p.2.bytes.length ≤ sumF S.files := by
      obtain ⟨a, c, e⟩ := List.append_of_mem hp
      rw [e, sum_append]
      simp only [sumF, List.map_cons, List.sum_cons]
      omega
    omega
  · rw [h.see] at hp
    obtain ⟨S', rfl, h1, h2, h3, h4⟩ := hp
    exact ⟨S', rfl, ⟨h1, h2, fun k hk => Nat.le_trans h.below.size (h4 k hk), bonD h.below h3⟩, h.below_next h3, h4, h3⟩
theorem Copied.apart {w0 w w' : World} {S S' T : DiskS} {m : MD} (h : Copied w0 w S m w' S') (hT : ∀ k ∈ foot T, k < w.heap.size) : ∀ k ∈ foot T, k ∉ foot S' :=
  fun k hk hm => by have := hT k hk; have := h.new k hm; omega
/-- An operation's cells. -/
def OpC (w : World) (g : Nat) (x : LOp) : Prop := w.cell? ⟨g, 0, none⟩ = some (.int .u8 (x.what : Int)) ∧ w.cell? ⟨g, 1, none⟩ = some (.string x.s) ∧ w.cell? ⟨g, 2, none⟩ = some (.string x.t) ∧ w.cell? ⟨g, 3, none⟩ = some (.slice x.A x.n x.c) ∧ w.cell? ⟨g, 4, none⟩ = some (.slice x.A2 x.n2 x.c2)
theorem OpC.new (w : World) (x : LOp) : OpC (w.alloc (.cells #[.int .u8 (x.what : Int), .string x.s, .string x.t, .slice x.A x.n x.c, .slice x.A2 x.n2 x.c2] 36)) w.heap.size x :=
  ⟨World.cell?_alloc_at _ _ _ _ rfl, World.cell?_alloc_at _ _ _ _ rfl, World.cell?_alloc_at _ _ _ _ rfl, World.cell?_alloc_at _ _ _ _ rfl, World.cell?_alloc_at _ _ _ _ rfl⟩
theorem OpC.off {w w' : World} {g : Nat} {x : LOp} {F : List Nat} (h : OpC w g x) (ho : Off F w w') (hg : g < w.heap.size) (hF : g ∉ F) : OpC w' g x := by
  have k (i : Nat) : w'.cell? ⟨g, i, none⟩ = w.cell? ⟨g, i, none⟩ := ho.cell hg hF
  unfold OpC
  rw [k, k, k, k, k]
  exact h
theorem OpC.below {w w' : World} {g : Nat} {x : LOp} (h : OpC w g x) (hb : Below w.heap.size w w') (hg : g < w.heap.size) : OpC w' g x := h.off (Off.of_below (F := []) hb) hg (fun h => by cases h)
end Go.Proofs.Ytkabgebfbbkioaa
