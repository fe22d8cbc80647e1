/-
  What comes in: an internal key by value; a slice of entries.
-/
import Derived.Test.YtkdjjdkcogolmaaIk5
import Derived.WalkKit
import Derived.ProofKit
import Derived.OpenShut
import Derived.Deep.Slices
import Derived.Deep.Strs
namespace Go.Proofs.Ytkdjjdkcogolmaa
set_option maxRecDepth 100000
open Go.RowKit Go.Shelf Go.ChangeShapes Go.WideShapes Go.ChangeAt Go.Deep

section
variable {H : Type} {enc : TypeId × Value → H} {w : World} {base : Nat} {spare : Nat → Bool} {held : Bool}
theorem ik_cells {fuel : Nat} {cs : List Value} {x : DataW H × List MemPlace} (h : DataW.trod enc Try.prog w base spare held fuel 43 cs = some x) :
    ∃ (s : ByteArray) (q k : Nat), cs = [.string s, .int .u64 (q : Int), .int .u8 (k : Int)] ∧ s.size ≤ maxLen ∧ (q : Int) ≤ 18446744073709551615 ∧ (k : Int) ≤ 255 := by
  obtain ⟨y0, y1, y2, n, _, hl, h0, h1, h2⟩ := trod_struct3 Try.underlying43 h
  have hc : Try.prog.cellsOf 43 = 3 := by kernel_rfl
  have hs : Try.prog.cellsOf 9 = 1 := by kernel_rfl
  have hu : Try.prog.cellsOf 41 = 1 := by kernel_rfl
  have hb : Try.prog.cellsOf 5 = 1 := by kernel_rfl
  rw [hc] at hl
  match cs, hl with
  | [c0, c1, c2], _ =>
    simp only [hs, hu, hb, List.drop_zero, List.drop_succ_cons, List.take_succ_cons, List.take_zero] at h0 h1 h2
    obtain ⟨s, e0, _, hs⟩ := DataW.trod_string Try.underlying9 h0
    obtain ⟨q, e1, _, hq⟩ := DataW.trod_int Try.underlying41 h1
    obtain ⟨k, e2, _, hk⟩ := DataW.trod_int Try.underlying5 h2
    cases e0; cases e1; cases e2
    have hq := bounds_u64 hq
    have hk := bounds_u8 hk
    obtain ⟨q, rfl⟩ := Int.eq_ofNat_of_zero_le hq.1
    obtain ⟨k, rfl⟩ := Int.eq_ofNat_of_zero_le hk.1
    exact ⟨s, q, k, rfl, hs, hq.2, hk.2⟩
theorem open_ik {r : Reach} {b0 : Nat} {v : Value} {d : DataW H} {p : List MemPlace} (hv : Value.okWide Try.prog w r b0 43 v) (h : DataW.Trod enc Try.prog w base spare held 43 v d p) :
    ∃ (s : ByteArray) (q k : Nat), v = ik s q k ∧ s.size ≤ maxLen ∧ (q : Int) ≤ 18446744073709551615 ∧ (k : Int) ≤ 255 := by
  obtain ⟨cs, rfl, hsz⟩ := okWide_struct Try.underlying43 hv
  obtain ⟨fuel, hf⟩ := h
  obtain ⟨s, q, k, hc, hb⟩ := ik_cells hf
  refine ⟨s, q, k, ?_, hb⟩
  simp only [Value.cells] at hc
  unfold ik
  rw [← hc]

theorem en_cells {fuel : Nat} {cs : List Value} {x : DataW H × List MemPlace} (h : DataW.trod enc Try.prog w base spare held fuel 45 cs = some x) :
    ∃ (s : ByteArray) (q k : Nat) (v : ByteArray), cs = [.string s, .int .u64 (q : Int), .int .u8 (k : Int), .string v] ∧ s.size ≤ maxLen ∧ (q : Int) ≤ 18446744073709551615 ∧ (k : Int) ≤ 255 ∧ v.size ≤ maxLen := by
  obtain ⟨xs, n, _, _, hl, _, hf⟩ := DataW.trod_struct Try.underlying45 h
  have h0 : DataW.trod enc Try.prog w base spare held n 43 ((cs.drop 0).take (Try.prog.cellsOf 43)) = xs[0]? := hf 0 _ rfl
  have h1 : DataW.trod enc Try.prog w base spare held n 9 ((cs.drop 3).take (Try.prog.cellsOf 9)) = xs[1]? := hf 1 _ rfl
  have hc : Try.prog.cellsOf 45 = 4 := by kernel_rfl
  have hs : Try.prog.cellsOf 9 = 1 := by kernel_rfl
  have hk : Try.prog.cellsOf 43 = 3 := by kernel_rfl
  rw [hc] at hl
  match cs, hl with
  | [c0, c1, c2, c3], _ =>
    rw [hk] at h0
    rw [hs] at h1
    have hx0 : ∃ y, xs[0]? = some y := by
      cases e : xs[0]? with
      | none => simp_all
      | some y => exact ⟨y, rfl⟩
    have hx1 : ∃ y, xs[1]? = some y := by
      cases e : xs[1]? with
      | none => simp_all
      | some y => exact ⟨y, rfl⟩
    obtain ⟨y0, hy0⟩ := hx0
    obtain ⟨y1, hy1⟩ := hx1
    obtain ⟨s, q, k, e0, b0⟩ := ik_cells (h0.trans hy0)
    obtain ⟨v, e1, _, b1⟩ := DataW.trod_string Try.underlying9 (h1.trans hy1)
    cases e0; cases e1
    exact ⟨s, q, k, v, rfl, b0.1, b0.2.1, b0.2.2, b1⟩
end

/-- An entry's parts. -/
structure Ent where
  s : ByteArray
  q : Nat
  k : Nat
  v : ByteArray

/-- The slice value '.slice A n c' reads as the entries L, in blocks below B. -/
structure RdE (w : World) (B : Nat) (A : Option Addr) (n c : Nat) (L : List Ent) : Prop where
  len : L.length = n
  cap : n ≤ c
  max : c ≤ maxLen
  nil : A = none → n = 0 ∧ c = 0
  form : 0 < n → ∃ b off, A = some ⟨b, off, none⟩ ∧ b < B ∧ ∀ i x, L[i]? = some x →
    w.cell? ⟨b, off + i * 4, none⟩ = some (.string x.s) ∧ w.cell? ⟨b, off + i * 4 + 1, none⟩ = some (.int .u64 (x.q : Int)) ∧ w.cell? ⟨b, off + i * 4 + 2, none⟩ = some (.int .u8 (x.k : Int)) ∧ w.cell? ⟨b, off + i * 4 + 3, none⟩ = some (.string x.v)
structure EntOk (x : Ent) : Prop where
  s : x.s.size ≤ maxLen
  q : (x.q : Int) ≤ 18446744073709551615
  k : (x.k : Int) ≤ 255
  v : x.v.size ≤ maxLen
theorem RdE.nilv {w : World} {B : Nat} : RdE w B none 0 0 [] := ⟨rfl, Nat.le_refl _, Nat.zero_le _, fun _ => ⟨rfl, rfl⟩, fun h => absurd h (by decide)⟩
theorem RdE.keep {w w' : World} {B n c : Nat} {A : Option Addr} {L : List Ent} (h : RdE w B A n c L) (hk : ∀ p : Addr, p.block < B → w'.cell? p = w.cell? p) : RdE w' B A n c L :=
  ⟨h.len, h.cap, h.max, h.nil, fun hn => by
    obtain ⟨b, off, e, hb, hc⟩ := h.form hn
    refine ⟨b, off, e, hb, fun i x hx => ?_⟩
    obtain ⟨h0, h1, h2, h3⟩ := hc i x hx
    exact ⟨(hk _ hb).trans h0, (hk _ hb).trans h1, (hk _ hb).trans h2, (hk _ hb).trans h3⟩⟩
theorem RdE.more {w : World} {B B' n c : Nat} {A : Option Addr} {L : List Ent} (h : RdE w B A n c L) (hB : B ≤ B') : RdE w B' A n c L :=
  ⟨h.len, h.cap, h.max, h.nil, fun hn => by obtain ⟨b, off, e, hb, hc⟩ := h.form hn; exact ⟨b, off, e, by omega, hc⟩⟩
theorem RdE.below {w w' : World} {B B' n c : Nat} {A : Option Addr} {L : List Ent} (h : RdE w B A n c L) (hb : Below B' w w') (hB : B ≤ B') : RdE w' B A n c L := h.keep fun _ hp => (hb.mono hB).cell hp

section
variable {H : Type} {enc : TypeId × Value → H} {w : World} {base : Nat} {spare : Nat → Bool} {held : Bool}
theorem open_ents {r : Reach} {b0 : Nat} {v : Value} {d : DataW H} {p : List MemPlace} (h : DataW.Trod enc Try.prog w base spare held 22 v d p) (hv : Value.okWide Try.prog w r b0 22 v) :
    ∃ (A : Option Addr) (n c : Nat) (L : List Ent), v = .slice A n c ∧ RdE w w.heap.size A n c L ∧ ∀ x ∈ L, EntOk x := by
  obtain ⟨A, n, c, rfl⟩ := okWide_slice Try.underlying22 hv
  obtain ⟨fuel, hf⟩ := h
  have hC : Try.prog.cellsOf 45 = 4 := by kernel_rfl
  rcases open_slice Try.underlying22 hf with ⟨hcs, _⟩ | ⟨a, len, cap, m, n', D, Pl, hcs, hb, hl, hm, hmm, hx, hi⟩
  · simp [Value.cells] at hcs
    obtain ⟨rfl, rfl, rfl⟩ := hcs
    exact ⟨none, 0, 0, [], rfl, RdE.nilv, fun x hx => by cases hx⟩
  · simp [Value.cells] at hcs
    obtain ⟨rfl, rfl, rfl⟩ := hcs
    have hle : n ≤ m := by rw [hmm]; split <;> omega
    have he : ∀ i, i < n → ∃ x : Ent, EntOk x ∧ w.cell? (a.add (i * 4)) = some (.string x.s) ∧ w.cell? (a.add (i * 4 + 1)) = some (.int .u64 (x.q : Int)) ∧ w.cell? (a.add (i * 4 + 2)) = some (.int .u8 (x.k : Int)) ∧ w.cell? (a.add (i * 4 + 3)) = some (.string x.v) := by
      intro i hin
      obtain ⟨cs', hc, ht⟩ := hi i (by omega)
      rw [hC] at hc
      obtain ⟨s, q, k, v, hcs, b1, b2, b3, b4⟩ := en_cells ht
      subst hcs
      obtain ⟨_, _, hat⟩ := World.cells?_some hc
      have a0 := hat 0 (by omega)
      have a1 := hat 1 (by omega)
      have a2 := hat 2 (by omega)
      have a3 := hat 3 (by omega)
      rw [add_of_add] at a0 a1 a2 a3
      exact ⟨⟨s, q, k, v⟩, ⟨b1, b2, b3, b4⟩, a0, a1, a2, a3⟩
    have hlen : ∀ x : Addr, 0 < n → ∃ v, w.cell? (a.add (0 * 4)) = some v := fun _ hn => by obtain ⟨x, _, h, _⟩ := he 0 hn; exact ⟨_, h⟩
    refine ⟨some a, n, c, (List.range n).map fun i => if hi : i < n then (he i hi).choose else ⟨⟨#[]⟩, 0, 0, ⟨#[]⟩⟩, rfl, ⟨by simp, hl, hm, fun e => (by cases e), fun hn => ?_⟩, ?_⟩
    · obtain ⟨b, off, spot⟩ := a
      obtain ⟨v0, h0⟩ := hlen ⟨b, off, spot⟩ hn
      have hs : spot = none := by
        cases spot with
        | none => rfl
        | some s => simp [Addr.add, World.cell?] at h0; split at h0 <;> simp at h0
      subst hs
      have hlt : b < w.heap.size := by
        have := World.block_lt_of_cell? w _ h0
        rwa [block_of_add] at this
      refine ⟨b, off, rfl, hlt, fun i x hx => ?_⟩
      rw [List.getElem?_map] at hx
      by_cases hin : i < n
      · rw [List.getElem?_range hin] at hx
        simp only [Option.map_some, hin, dif_pos, Option.some.injEq] at hx
        subst hx
        have := (he i hin).choose_spec
        have hadd : ∀ j, (⟨b, off, none⟩ : Addr).add j = ⟨b, off + j, none⟩ := fun j => by unfold Addr.add; split <;> simp_all
        simpa only [hadd, Nat.add_assoc] using this.2
      · rw [List.getElem?_eq_none (by simpa using hin)] at hx; cases hx
    · intro x hx
      obtain ⟨i, hi', rfl⟩ := List.mem_map.1 hx
      have hin : i < n := by simpa using hi'
      simp only [hin, dif_pos]
      exact (he i hin).choose_spec.1
theorem open_bytes {r : Reach} {b0 : Nat} {v : Value} {d : DataW H} {p : List MemPlace} (h : DataW.Trod enc Try.prog w base (fun _ => true) held 23 v d p) (hv : Value.okWide Try.prog w r b0 23 v) :
    ∃ (A : Option Addr) (n c : Nat) (l : List UInt8), v = .slice A n c ∧ l.length = n ∧ Rd w w.heap.size A n c (bv l) := by
  obtain ⟨A, n, c, rfl⟩ := okWide_slice Try.underlying23 hv
  obtain ⟨fuel, hf⟩ := h
  rcases open_ints Try.underlying23 Try.underlying5 (by kernel_rfl) hf with ⟨hcs, _⟩ | ⟨x, l, c', zs, hcs, _, hl, hm, hz, _, hcell, hwz⟩
  · simp [Value.cells] at hcs
    obtain ⟨rfl, rfl, rfl⟩ := hcs
    exact ⟨none, 0, 0, [], rfl, rfl, Rd.nilv⟩
  · simp [Value.cells] at hcs
    obtain ⟨rfl, rfl, rfl⟩ := hcs
    obtain ⟨l, hl', hR⟩ := rd_of_row (w := w) (a := some x) (len := n) (cap := c) (zs := zs) (.inr ⟨_, rfl, hl, hm, by simpa using hz, hcell, hwz⟩)
    exact ⟨_, _, _, l, rfl, hl', hR⟩
end
end Go.Proofs.Ytkdjjdkcogolmaa
