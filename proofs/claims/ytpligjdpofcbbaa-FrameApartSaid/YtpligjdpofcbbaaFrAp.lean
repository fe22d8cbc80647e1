/-
  Words for FrameApart: rows of bytes that may be written over; a great row of zeroes behind a guard.
-/
import Derived.Test.YtpligjdpofcbbaaFrB
namespace Go.Proofs.Ytpligjdpofcbbaa
open Go.RowKit

theorem wpList_make_full_g {P : Program} (w : World) {ops : Array Oper} {rest : List Oper} {o : Oper} {a : Act} {Q : Exit → Act → World → Prop}
    (hg : Region.wanted o (yielded ops a.tmps) = true) (l c : Operand) (t : TypeId) (hop : o.op = Op.makeSlice t l c)
    (base : Nat) (e : TypeId) (i : TypeInfo) (z : Value) (size : Nat) (h1 : P.underlying t = some (.slice e)) (h2 : P.info? e = some i) (h3 : i.zero = some z) (h4 : i.size = size)
    (kl kc : IntKind) (L C : Int) (n : Nat) (hl : a.eval l = .int kl L) (hc : a.eval c = .int kc C) (hL : L = (n : Int)) (hC : C = (n : Int)) (b2 : i.bytes * n ≤ 281474976710656) (b3 : n ≤ maxLen) (b4 : base ≤ w.heap.size)
    (hK : ∀ w', w'.ownsRow base e size (.slice (some ⟨w.heap.size, 0, none⟩) n n) n (madeCells z.cells (n * size)).toList → w.grownBy w' none → wpList P ops Q rest (a.put o.dst (.slice (some ⟨w.heap.size, 0, none⟩) n n)) w') :
    wpList P ops Q (o :: rest) a w :=
  wpList_step fun K hK' => by
    rw [if_pos hg]
    obtain ⟨w', hrun, r1, r2⟩ := run_make_full (P := P) w base t e i z size h1 h2 h3 h4 kl kc n b2 b3 b4
    subst hL
    subst hC
    unfold Oper.wp
    simp [execOp, hop, hl, hc, hrun, Result.andThen]
    exact hK' _ _ (hK w' r1 r2)

/-- A slice of bytes at or beyond block b, each cell of which is a byte and may be written. -/
structure Free (w : World) (b : Nat) (A : Option Addr) (n : Nat) : Prop where
  at_ : 0 < n → ∃ g, A = some ⟨g, 0, none⟩ ∧ b ≤ g ∧ ∃ cur, w.heap[g]? = some (.cells cur 5 (0, 0)) ∧ ∀ i, i < n → ∃ v : Int, 0 ≤ v ∧ v ≤ 255 ∧ cur[i]? = some (.int .u8 v)

theorem Free.of_fr {w : World} {b n c : Nat} {A : Option Addr} {l : List UInt8} (h : Fr w b 5 A n c (bv l)) : Free w b A n := by
  refine ⟨fun hn => ?_⟩
  rcases h.own.2 with ⟨_, h0⟩ | ⟨g, cap, cur, e, hg, hh, hnc, hm, hs, ht⟩
  · omega
  · injection e with e1 e2 e3
    refine ⟨g, e1, hg, cur, hh, fun i hi => ?_⟩
    have hl : (bv l).length = n := h.len
    have hil : i < l.length := by simp at hl; omega
    obtain ⟨d, hd⟩ : ∃ d, l[i] = d := ⟨_, rfl⟩
    have h1 : (bv l)[i]? = some (b8 d) := by simp [bv, hil, hd]
    rw [← ht, List.getElem?_take_of_lt (by omega)] at h1
    have hd8 := d.toNat_lt
    exact ⟨(d.toNat : Int), by omega, by omega, by simpa [b8] using h1⟩
theorem Free.below {w w' : World} {b n : Nat} {A : Option Addr} (h : Free w b A n) (hb : Below w.heap.size w w') : Free w' b A n := by
  refine ⟨fun hn => ?_⟩
  obtain ⟨g, e, hg, cur, hh, hc⟩ := h.at_ hn
  exact ⟨g, e, hg, cur, (hb.block g (Array.getElem?_eq_some_iff.1 hh).1).trans hh, hc⟩
theorem Free.more {w : World} {b b' n : Nat} {A : Option Addr} (h : Free w b A n) (hb : b' ≤ b) : Free w b' A n := by
  refine ⟨fun hn => ?_⟩
  obtain ⟨g, e, hg, r⟩ := h.at_ hn
  exact ⟨g, e, Nat.le_trans hb hg, r⟩
theorem Free.set {w : World} {b n : Nat} {A : Option Addr} (h : Free w b A n) (g' i : Nat) {v : Int} (h0 : 0 ≤ v) (h1 : v ≤ 255) : Free (w.setCell ⟨g', i, none⟩ (.int .u8 v)) b A n := by
  refine ⟨fun hn => ?_⟩
  obtain ⟨g, e, hg, cur, hh, hc⟩ := h.at_ hn
  by_cases hgg : g = g'
  · subst hgg
    refine ⟨g, e, hg, cur.setIfInBounds i (.int .u8 v), ?_, fun j hj => ?_⟩
    · simp [World.setCell, Array.getElem?_modify, hh]
    · obtain ⟨u, u0, u1, hu⟩ := hc j hj
      by_cases hij : i = j
      · subst hij
        refine ⟨v, h0, h1, ?_⟩
        rw [Array.getElem?_setIfInBounds_self_of_lt]
        exact (Array.getElem?_eq_some_iff.1 hu).1
      · exact ⟨u, u0, u1, by rw [Array.getElem?_setIfInBounds_ne hij]; exact hu⟩
  · exact ⟨g, e, hg, cur, (Below.heap_setCell w ⟨g', i, none⟩ _ g hgg).trans hh, hc⟩
theorem Free.cell {w : World} {b n : Nat} {A : Option Addr} (h : Free w b A n) {i : Nat} (hi : i < n) :
    ∃ g, A = some ⟨g, 0, none⟩ ∧ b ≤ g ∧ (∃ v : Int, 0 ≤ v ∧ v ≤ 255 ∧ w.cell? ⟨g, i, none⟩ = some (.int .u8 v)) ∧ w.frozen? ⟨g, i, none⟩ = false ∧ ∃ cur, w.heap[g]? = some (.cells cur 5 (0, 0)) := by
  obtain ⟨g, e, hg, cur, hh, hc⟩ := h.at_ (by omega)
  obtain ⟨v, v0, v1, hv⟩ := hc i hi
  exact ⟨g, e, hg, ⟨v, v0, v1, by simp [World.cell?, hh, hv]⟩, by simp [World.frozen?, hh], cur, hh⟩

/-- What holds while the rows are written over: the list of the slices stands, each may be written, and nothing below block b has turned. -/
structure ApInv (a : World) (L N : Nat) (w : World) : Prop where
  below : Below a.heap.size a w
  lit : ∃ cs : Array Value, w.heap[L]? = some (.cells cs 22 (0, 0)) ∧ cs.size = N ∧ ∀ k, k < N → ∃ A n c, cs[k]? = some (.slice A n c) ∧ Free w a.heap.size A n ∧ n ≤ 400
  far : a.heap.size ≤ L

theorem ApInv.at_ {a w : World} {L N k : Nat} (h : ApInv a L N w) (hk : k < N) : ∃ A n c, w.cell? ⟨L, k, none⟩ = some (.slice A n c) ∧ Free w a.heap.size A n ∧ n ≤ 400 := by
  obtain ⟨cs, hl, hs, hc⟩ := h.lit
  obtain ⟨A, n, c, h1, h2, h3⟩ := hc k hk
  exact ⟨A, n, c, by simp [World.cell?, hl, h1], h2, h3⟩
theorem ApInv.set {a w : World} {L N : Nat} (h : ApInv a L N w) {g : Nat} (i : Nat) (hg : a.heap.size ≤ g) {cur : Array Value} (hh : w.heap[g]? = some (.cells cur 5 (0, 0))) {v : Int} (h0 : 0 ≤ v) (h1 : v ≤ 255) :
    ApInv a L N (w.setCell ⟨g, i, none⟩ (.int .u8 v)) := by
  obtain ⟨cs, hl, hs, hc⟩ := h.lit
  have hne : L ≠ g := by
    rintro rfl
    rw [hl] at hh
    injection hh with hh
    injection hh with _ ht
    exact absurd ht (by decide)
  refine ⟨h.below.setCell (p := ⟨g, i, none⟩) hg _, ⟨cs, (Below.heap_setCell w ⟨g, i, none⟩ _ L hne).trans hl, hs, fun k hk => ?_⟩, h.far⟩
  obtain ⟨A, n, c, h2, h3, h4⟩ := hc k hk
  exact ⟨A, n, c, h2, h3.set g i h0 h1, h4⟩
end Go.Proofs.Ytpligjdpofcbbaa
