/-
  What a copy gave, kept in a list: the states of DiskCopy's loops.
-/
import Derived.Test.YtkabgebfbbkioaaDkQ
import Derived.Test.YtkabgebfbbkioaaDkG
namespace Go.Proofs.Ytkabgebfbbkioaa
open Go.RowKit Go.Maps

theorem info_err : (Try.prog.info? 37).map (fun i => (i.zero, i.size, i.bytes)) = some (some (.int .i64 0), 1, 8) := by kernel_rfl
theorem fr_off2 {w w' : World} {b n c : Nat} {e : TypeId} {A : Option Addr} {xs : List Value} {F : List Nat} (h : Fr w b e A n c xs) (ho : Off F w w') (hF : ∀ ad, A = some ad → ad.block ∉ F) : Fr w' b e A n c xs := by
  cases A with
  | none => exact Fr.kept (r := none) h (fun g hg => by cases hg)
  | some ad =>
    obtain ⟨h1, h2, h3, h4, -⟩ := h.frozen ad rfl
    obtain ⟨g, o, sp⟩ := ad
    simp only at h1 h2 h3 h4
    subst h3 h4
    exact Fr.kept (r := some g) h (fun g' hg => by cases hg; exact ho.block g h2 (hF _ rfl))
theorem fr_own {w : World} {b n c : Nat} {e : TypeId} {A : Option Addr} {xs : List Value} (h : Fr w b e A n c xs) {ad : Addr} (hA : A = some ad) : (Value.slice A n c).ownBlock = some ad.block := by
  subst hA
  obtain ⟨h1, h2, h3, h4, -⟩ := h.frozen ad rfl
  obtain ⟨g, o, sp⟩ := ad
  simp only at h1 h2 h3 h4
  subst h3 h4
  exact ownBlock_row (some g) n c
theorem app_off {w w' : World} {b n c n' c' : Nat} {e : TypeId} {A A' : Option Addr} {xs xs' : List Value} (h : App w w' b e (.slice A n c) A' n' c' xs') (hf : Fr w b e A n c xs) : ∃ F, Off F w w' ∧ ∀ k ∈ F, b ≤ k ∧ ∃ ad, A = some ad ∧ ad.block = k := by
  have g := h.grown
  cases hA : A with
  | none =>
    subst hA
    refine ⟨[], ⟨g.os, g.tape, g.output, g.size, fun k hk _ => g.block k hk (fun e => by rw [show (Value.slice none n c).ownBlock = none from ownBlock_row none n c] at e; cases e)⟩, fun k hk => by cases hk⟩
  | some ad =>
    have ho := fr_own hf hA
    rw [ho] at g
    refine ⟨[ad.block], Off.of_grown g, fun k hk => ?_⟩
    rw [List.mem_singleton] at hk
    subst hk
    exact ⟨(hf.frozen ad hA).1, ad, rfl, rfl⟩
theorem app_out {w w' : World} {b n c n' c' : Nat} {e : TypeId} {A A' : Option Addr} {xs xs' : List Value} {F : List Nat} (h : App w w' b e (.slice A n c) A' n' c' xs') (hf : Fr w b e A n c xs) (hF : ∀ k ∈ F, k < w.heap.size) (ho : ∀ ad, A = some ad → ad.block ∉ F) : ∀ ad, A' = some ad → ad.block ∉ F := by
  intro ad hA hm
  have h1 := fr_own h.fr hA
  rcases h.at_ with h2 | h2
  · rw [h1] at h2
    cases A with
    | none => rw [show (Value.slice none n c).ownBlock = none from ownBlock_row none n c] at h2; cases h2
    | some a0 =>
      rw [fr_own hf rfl] at h2
      injection h2 with h2
      exact ho a0 rfl (by rw [← h2]; exact hm)
  · rw [h1] at h2
    injection h2 with h2
    have := hF _ hm
    omega

/-- What the copy answered so far, and both disks. -/
structure GotR (w wr : World) (H : Nat) (m : MD) (L : List LOp) (b3 q3 cp : Nat) (S T : DiskS) (k : Nat) (A : Option Addr) (c : Nat) (xs : List Int) : Prop where
  ac : At w wr T (runM m ((L.take k).map LOp.op))
  ic : Inv (runM m ((L.take k).map LOp.op)) (40 + k)
  dp : T.dp = cp
  ad : At w wr S m
  own : wr.ownsMap Try.prog 9 fileR b3 q3 (FM m.files)
  apart : ∀ k ∈ foot T, k ∉ foot S
  out3 : b3 ∉ foot T
  fr : Fr wr H 37 A k c (iv xs)
  out : ∀ ad, A = some ad → ad.block ∉ foot T
  got : ∀ i x, i < k → L[i]? = some x → xs[i]? = some (doesM (runM m ((L.take i).map LOp.op)) x.op).2
  old : ∀ k ∈ foot S, k < H
  old3 : b3 < H
  low : w.heap.size ≤ H
  high : H ≤ wr.heap.size

theorem GotR.step {w wr w6 w7 : World} {H : Nat} {m : MD} {L : List LOp} {b3 q3 cp : Nat} {S T T2 : DiskS} {k : Nat} {A A' : Option Addr} {c c' : Nat} {xs : List Int} {x : LOp} {o : Obj} {er : Int}
    (h : GotR w wr H m L b3 q3 cp S T k A c xs) (hx : L[k]? = some x) (hr : runM m ((L.take (k + 1)).map LOp.op) = (doesM (runM m ((L.take k).map LOp.op)) x.op).1)
    (hi : Inv (runM m ((L.take (k + 1)).map LOp.op)) (40 + (k + 1))) (hn : Next w wr T (doesM (runM m ((L.take k).map LOp.op)) x.op).1 w6 T2) (he : er = (doesM (runM m ((L.take k).map LOp.op)) x.op).2)
    (ha : App (w6.alloc o) w7 H 37 (.slice A k c) A' (k + 1) c' (iv xs ++ [.int .i64 er])) : GotR w w7 H m L b3 q3 cp S T2 (k + 1) A' c' (xs ++ [er]) := by
  have f6 := (fr_off2 h.fr hn.off h.out).alloc o
  obtain ⟨F, hF, hF2⟩ := app_off ha f6
  have hs6 : wr.heap.size ≤ w6.heap.size := hn.off.size
  have hs7 : (w6.alloc o).heap.size ≤ w7.heap.size := hF.size
  have hs61 : (w6.alloc o).heap.size = w6.heap.size + 1 := by simp
  have hlen : xs.length = k := by have := h.fr.len; simpa [iv] using this
  obtain ⟨aS, apS⟩ := hn.beside h.ac h.ad h.apart
  have hout2 : ∀ ad, A = some ad → ad.block ∉ foot T2 := fun ad hA hm => by
    rcases hn.grow _ hm with h1 | h1
    · exact h.out ad hA h1
    · have := (h.fr.frozen ad hA).2.1; omega
  have hFw : ∀ k ∈ F, w.heap.size ≤ k := fun k hk => Nat.le_trans h.low (hF2 k hk).1
  have hFT : ∀ k ∈ F, k ∉ foot T2 := fun k hk hm => by
    obtain ⟨-, ad, hA, rfl⟩ := hF2 k hk
    exact hout2 ad hA hm
  have hFS : ∀ k ∈ F, k ∉ foot S := fun k hk hm => by have := (hF2 k hk).1; have := h.old k hm; omega
  refine ⟨?_, hi, hn.dp.trans h.dp, (aS.boxed o).off hF (fun k hk => ⟨hFS k hk, hFw k hk⟩), ?_, apS, ?_, ?_, ?_, ?_, h.old, h.old3, h.low, by have := h.high; omega⟩
  · rw [hr]
    exact (hn.at_.boxed o).off hF (fun k hk => ⟨hFT k hk, hFw k hk⟩)
  · have hl3 := h.own.lt
    refine ownsMap_kept h.own ?_
    rw [hF.block b3 (by omega) (fun hm => by have := (hF2 _ hm).1; have := h.old3; omega), heap_alloc_old _ _ (by omega)]
    exact hn.off.block b3 hl3 h.out3
  · intro hm
    rcases hn.grow _ hm with h1 | h1
    · exact h.out3 h1
    · have := h.own.lt; omega
  · have := ha.fr
    rwa [show iv xs ++ [.int .i64 er] = iv (xs ++ [er]) by simp [iv]] at this
  · exact app_out ha f6 (fun k hk => by have := hn.at_.disk.there k hk; omega) hout2
  · intro i y hik hy
    by_cases e : i = k
    · subst e
      rw [hx] at hy
      cases hy
      rw [List.getElem?_append_right (by omega), hlen, Nat.sub_self, he]
      rfl
    · rw [List.getElem?_append_left (by omega)]
      exact h.got i y (by omega) hy
end Go.Proofs.Ytkabgebfbbkioaa
