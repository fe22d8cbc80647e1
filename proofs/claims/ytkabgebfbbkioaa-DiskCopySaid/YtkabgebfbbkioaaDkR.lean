/-
  The disk runs once more beside its copy; rows of bytes that may be written over.
-/
import Derived.Test.YtkabgebfbbkioaaDkP
namespace Go.Proofs.Ytkabgebfbbkioaa
open Go.RowKit Go.Maps

/-- A slice of bytes at or beyond block b, each cell of which is a byte and may be written. -/
structure Free (w : World) (b : Nat) (A : Option Addr) (n : Nat) : Prop where
  at_ : 0 < n → ∃ g, A = some ⟨g, 0, none⟩ ∧ b ≤ g ∧ ∃ cur, w.heap[g]? = some (.cells cur 5 (0, 0)) ∧ ∀ i, i < n → ∃ v : Int, 0 ≤ v ∧ v ≤ 255 ∧ cur[i]? = some (.int .u8 v)

theorem Free.of_fr {w : World} {b n c : Nat} {A : Option Addr} {l : List UInt8} (h : Fr w b 5 A n c (bv l)) : Free w b A n := by
  refine ⟨fun hn => ?_⟩
  rcases h.own.2 with ⟨_, h0⟩ | ⟨g, cap, cur, e, hg, hh, hnc, hm, hs, ht⟩
  · omega
  · injection e with e1 e2 e3
    refine ⟨g, e1, hg, cur, hh, fun i hi => ?_⟩
    have hl : (bv l).length = n := h.len
    have hil : i < l.length := by simp at hl; omega
    obtain ⟨d, hd⟩ : ∃ d, l[i] = d := ⟨_, rfl⟩
    have h1 : (bv l)[i]? = some (b8 d) := by simp [bv, hil, hd]
    rw [← ht, List.getElem?_take_of_lt (by omega)] at h1
    have hd8 := d.toNat_lt
    exact ⟨(d.toNat : Int), by omega, by omega, by simpa [b8] using h1⟩
theorem Free.below {w w' : World} {b n : Nat} {A : Option Addr} (h : Free w b A n) (hb : Below w.heap.size w w') : Free w' b A n := by
  refine ⟨fun hn => ?_⟩
  obtain ⟨g, e, hg, cur, hh, hc⟩ := h.at_ hn
  exact ⟨g, e, hg, cur, (hb.block g (Array.getElem?_eq_some_iff.1 hh).1).trans hh, hc⟩
theorem Free.more {w : World} {b b' n : Nat} {A : Option Addr} (h : Free w b A n) (hb : b' ≤ b) : Free w b' A n := by
  refine ⟨fun hn => ?_⟩
  obtain ⟨g, e, hg, r⟩ := h.at_ hn
  exact ⟨g, e, Nat.le_trans hb hg, r⟩
theorem Free.set {w : World} {b n : Nat} {A : Option Addr} (h : Free w b A n) (g' i : Nat) {v : Int} (h0 : 0 ≤ v) (h1 : v ≤ 255) : Free (w.setCell ⟨g', i, none⟩ (.int .u8 v)) b A n := by
  refine ⟨fun hn => ?_⟩
  obtain ⟨g, e, hg, cur, hh, hc⟩ := h.at_ hn
  by_cases hgg : g = g'
  · subst hgg
    refine ⟨g, e, hg, cur.setIfInBounds i (.int .u8 v), ?_, fun j hj => ?_⟩
    · simp [World.setCell, Array.getElem?_modify, hh]
    · obtain ⟨u, u0, u1, hu⟩ := hc j hj
      by_cases hij : i = j
      · subst hij
        refine ⟨v, h0, h1, ?_⟩
        rw [Array.getElem?_setIfInBounds_self_of_lt]
        exact (Array.getElem?_eq_some_iff.1 hu).1
      · exact ⟨u, u0, u1, by rw [Array.getElem?_setIfInBounds_ne hij]; exact hu⟩
  · exact ⟨g, e, hg, cur, (Below.heap_setCell w ⟨g', i, none⟩ _ g hgg).trans hh, hc⟩
theorem Free.cell {w : World} {b n : Nat} {A : Option Addr} (h : Free w b A n) {i : Nat} (hi : i < n) :
    ∃ g, A = some ⟨g, 0, none⟩ ∧ b ≤ g ∧ (∃ v : Int, 0 ≤ v ∧ v ≤ 255 ∧ w.cell? ⟨g, i, none⟩ = some (.int .u8 v)) ∧ w.frozen? ⟨g, i, none⟩ = false ∧ ∃ cur, w.heap[g]? = some (.cells cur 5 (0, 0)) := by
  obtain ⟨g, e, hg, cur, hh, hc⟩ := h.at_ (by omega)
  obtain ⟨v, v0, v1, hv⟩ := hc i hi
  exact ⟨g, e, hg, ⟨v, v0, v1, by simp [World.cell?, hh, hv]⟩, by simp [World.frozen?, hh], cur, hh⟩


/-- The disk runs beside its copy, and what the copy answered is read. -/
structure RunR (w wr : World) (m mE : MD) (L : List LOp) (dp : Nat) (T S : DiskS) (k : Nat) (A : Option Addr) (n c : Nat) (xs : List Int) : Prop where
  ad : At w wr S (runM m ((L.take k).map LOp.op))
  id : Inv (runM m ((L.take k).map LOp.op)) (40 + k)
  dp : S.dp = dp
  ac : At w wr T mE
  apart : ∀ k ∈ foot S, k ∉ foot T
  fr : Fr wr 0 37 A n c (iv xs)
  out : ∀ ad, A = some ad → ad.block ∉ foot S
theorem RunR.step {w wr w6 : World} {m mE m2 : MD} {L : List LOp} {dp : Nat} {T S S2 : DiskS} {k : Nat} {A : Option Addr} {n c : Nat} {xs : List Int}
    (h : RunR w wr m mE L dp T S k A n c xs) (hr : runM m ((L.take (k + 1)).map LOp.op) = m2) (hi : Inv (runM m ((L.take (k + 1)).map LOp.op)) (40 + (k + 1)))
    (hn : Next w wr S m2 w6 S2) : RunR w w6 m mE L dp T S2 (k + 1) A n c xs := by
  obtain ⟨aT, apT⟩ := hn.beside h.ad h.ac h.apart
  refine ⟨by rw [hr]; exact hn.at_, hi, hn.dp.trans h.dp, aT, apT, fr_off2 h.fr hn.off h.out, fun ad hA hm => ?_⟩
  rcases hn.grow _ hm with h1 | h1
  · exact h.out ad hA h1
  · have := (h.fr.frozen ad hA).2.1; omega
theorem RunR.below {w wr w6 : World} {m mE : MD} {L : List LOp} {dp : Nat} {T S : DiskS} {k : Nat} {A : Option Addr} {n c : Nat} {xs : List Int}
    (h : RunR w wr m mE L dp T S k A n c xs) (hb : Below wr.heap.size wr w6) : RunR w w6 m mE L dp T S k A n c xs :=
  ⟨h.ad.below_next hb, h.id, h.dp, h.ac.below_next hb, h.apart, h.fr.below hb, h.out⟩
theorem opC_more {w : World} {g : Nat} {x : LOp} {p : Addr} {v : Value} (h : OpC w g x) (h2 : w.cell? p = some v) : w.cell? ⟨g, 0, none⟩ = some (.int .u8 (x.what : Int)) ∧ w.cell? ⟨g, 1, none⟩ = some (.string x.s) ∧ w.cell? ⟨g, 2, none⟩ = some (.string x.t) ∧ w.cell? ⟨g, 3, none⟩ = some (.slice x.A x.n x.c) ∧ w.cell? ⟨g, 4, none⟩ = some (.slice x.A2 x.n2 x.c2) ∧ w.cell? p = some v := by
  obtain ⟨e0, e1, e2, e3, e4⟩ := h
  exact ⟨e0, e1, e2, e3, e4, h2⟩
theorem RunR.cell {w wr : World} {m mE : MD} {L : List LOp} {dp : Nat} {T S : DiskS} {k : Nat} {A : Option Addr} {n c : Nat} {xs : List Int}
    (h : RunR w wr m mE L dp T S k A n c xs) {i : Nat} (hi : i < n) {v : Int} (hv : xs[i]? = some v) : ∃ b off, A = some ⟨b, off, none⟩ ∧ b < wr.heap.size ∧ b ∉ foot S ∧ wr.cell? ⟨b, off + i, none⟩ = some (.int .i64 v) := by
  obtain ⟨b, off, e, hb, hc⟩ := (h.fr.rd (Nat.le_refl _)).form (by omega)
  exact ⟨b, off, e, hb, h.out _ e, hc i _ (by simp [iv, hv])⟩
theorem GotR.run {w wr w9 : World} {H : Nat} {m mE : MD} {L : List LOp} {b3 q3 cp dp : Nat} {S T : DiskS} {k : Nat} {A : Option Addr} {c : Nat} {xs : List Int}
    (h : GotR w wr H m L b3 q3 cp S T k A c xs) (hE : runM m ((L.take k).map LOp.op) = mE) (hd : S.dp = dp) (hi : Inv m 40) (hb : Below wr.heap.size wr w9) : RunR w w9 m mE L dp T S 0 A k c xs :=
  ⟨h.ad.below_next hb, hi, hd, by rw [← hE]; exact h.ac.below_next hb, apart_symm h.apart, (h.fr.mono (Nat.zero_le _)).below hb, fun ad hA hm => by
    have := (h.fr.frozen ad hA).1
    have := h.old _ hm
    omega⟩
end Go.Proofs.Ytkabgebfbbkioaa
