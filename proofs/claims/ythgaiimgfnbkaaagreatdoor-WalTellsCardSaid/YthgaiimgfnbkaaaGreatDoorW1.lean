/-
  A log's records in memory: rows of them (two cells each); fresh ones; what an append of them gives.
-/
import Derived.Test.YthgaiimgfnbkaaaGreatDoorWm
namespace Go.Proofs.YthgaiimgfnbkaaaGreatDoor
set_option maxRecDepth 100000
open Go.RowKit Go.Shelf
set_option linter.unusedVariables false

/-- A record, with the slice of records that it has. -/
structure WR where
  q : Nat
  A : Option Addr
  n : Nat
  c : Nat
  L : List Bop
def wrv (x : WR) : Value := .agg #[.int .u64 (x.q : Int), .slice x.A x.n x.c]
def WR.r (x : WR) : Wr := (x.q, x.L)

/-- The slice value '.slice A n c' reads as the operations L, in blocks below B. -/
structure RdW (w : World) (B : Nat) (A : Option Addr) (n c : Nat) (L : List WR) : Prop where
  len : L.length = n
  cap : n ≤ c
  max : c ≤ maxLen
  nil : A = none → n = 0 ∧ c = 0
  form : 0 < n → ∃ b off, A = some ⟨b, off, none⟩ ∧ b < B ∧ ∀ i x, L[i]? = some x →
    w.cell? ⟨b, off + i * 2, none⟩ = some (.int .u64 (x.q : Int)) ∧ w.cell? ⟨b, off + i * 2 + 1, none⟩ = some (.slice x.A x.n x.c)
theorem RdW.nilv {w : World} {B : Nat} : RdW w B none 0 0 [] := ⟨rfl, Nat.le_refl _, Nat.zero_le _, fun _ => ⟨rfl, rfl⟩, fun h => absurd h (by decide)⟩
theorem RdW.keep {w w' : World} {B n c : Nat} {A : Option Addr} {L : List WR} (h : RdW w B A n c L) (hk : ∀ p : Addr, p.block < B → w'.cell? p = w.cell? p) : RdW w' B A n c L :=
  ⟨h.len, h.cap, h.max, h.nil, fun hn => by
    obtain ⟨b, off, e, hb, hc⟩ := h.form hn
    refine ⟨b, off, e, hb, fun i x hx => ?_⟩
    obtain ⟨h0, h1⟩ := hc i x hx
    exact ⟨(hk _ hb).trans h0, (hk _ hb).trans h1⟩⟩
theorem RdW.more {w : World} {B B' n c : Nat} {A : Option Addr} {L : List WR} (h : RdW w B A n c L) (hB : B ≤ B') : RdW w B' A n c L :=
  ⟨h.len, h.cap, h.max, h.nil, fun hn => by obtain ⟨b, off, e, hb, hc⟩ := h.form hn; exact ⟨b, off, e, by omega, hc⟩⟩
theorem RdW.below {w w' : World} {B B' n c : Nat} {A : Option Addr} {L : List WR} (h : RdW w B A n c L) (hb : Below B' w w') (hB : B ≤ B') : RdW w' B A n c L := h.keep fun _ hp => (hb.mono hB).cell hp

def wrl (x : WR) : List Value := [.int .u64 (x.q : Int), .slice x.A x.n x.c]
def wrs (L : List WR) : List Value := L.flatMap wrl
theorem wrs_len : ∀ L : List WR, (wrs L).length = L.length * 2
  | [] => rfl
  | x :: L => by
    have := wrs_len L
    simp only [wrs, List.flatMap_cons, List.length_append, List.length_cons] at *
    rw [this]; simp [wrl]; omega
theorem wrs_app (a b : List WR) : wrs (a ++ b) = wrs a ++ wrs b := by simp [wrs]
theorem wrs_one {L : List WR} : ∀ u ∈ wrs L, u.oneCell' = true := by
  intro u hu
  obtain ⟨x, _, hx⟩ := List.mem_flatMap.1 hu
  simp only [wrl, List.mem_cons, List.not_mem_nil, or_false] at hx
  rcases hx with rfl | rfl <;> rfl
theorem wrs_get : ∀ (L : List WR) (i : Nat) (x : WR) (j : Nat), L[i]? = some x → j < 2 → (wrs L)[i * 2 + j]? = (wrl x)[j]?
  | [], i, x, j, h, _ => by simp at h
  | y :: L, 0, x, j, h, hj => by
    simp at h; subst h
    simp only [wrs, List.flatMap_cons]
    rw [List.getElem?_append_left (by simp [wrl]; omega)]
    simp
  | y :: L, i + 1, x, j, h, hj => by
    have ih := wrs_get L i x j (by simpa using h) hj
    simp only [wrs, List.flatMap_cons] at *
    rw [List.getElem?_append_right (by simp [wrl]; omega), ← ih]
    congr 1
    simp [wrl]; omega

theorem info_wr : (Tryz.prog.info? 25).map (fun i => (i.zero, i.size, i.bytes)) = some (some (.agg #[.int .u64 0, .slice none 0 0]), 2, 32) := by kernel_rfl

section
variable {w w' : World} {b B n c : Nat} {A : Option Addr} {L : List WR}
theorem RdW.front (h : RdW w B A n c L) {k : Nat} (hk : k ≤ n) : RdW w B A k c (L.take k) :=
  ⟨by rw [List.length_take, h.len]; omega, Nat.le_trans hk h.cap, h.max, fun e => by have := h.nil e; omega, fun hk0 => by
    obtain ⟨bb, off, e, hb, hc⟩ := h.form (by omega)
    exact ⟨bb, off, e, hb, fun i x hx => hc i x (by rw [List.getElem?_take] at hx; split at hx <;> simp_all)⟩⟩
theorem RdW.back (h : RdW w B A n c L) {k : Nat} (hk : k ≤ n) : RdW w B (if c = k then A else A.map (·.add (k * 2))) (n - k) (c - k) (L.drop k) := by
  have hc := h.cap
  refine ⟨by rw [List.length_drop, h.len], by omega, by have := h.max; omega, fun e => ?_, fun hn => ?_⟩
  · split at e
    · omega
    · cases A with
      | none => have := h.nil rfl; omega
      | some a => cases e
  · obtain ⟨bb, off, rfl, hb, hcell⟩ := h.form (by omega)
    rw [if_neg (by omega)]
    refine ⟨bb, off + k * 2, ?_, hb, fun i x hx => ?_⟩
    · simp only [Option.map_some]
      congr 1
      unfold Addr.add
      split <;> simp_all
    · rw [List.getElem?_drop] at hx
      have := hcell _ x hx
      rw [show off + k * 2 + i * 2 = off + (k + i) * 2 by omega]
      exact this
theorem RdW.slice_lo (h : RdW w B A n c L) (kl : IntKind) {k : Nat} (hk : k ≤ n) :
    ∃ A', (∀ W, (Instr.slice 28 (.slice A n c) (some (.int kl (k : Int))) none none).run Tryz.prog W = .ok (.slice A' (n - k) (c - k)) W) ∧ RdW w B A' (n - k) (c - k) (L.drop k) := by
  refine ⟨_, fun W => ?_, h.back hk⟩
  obtain ⟨i, hi, hz0, hz1, hz2⟩ := info_parts info_wr
  have hc := h.cap
  simp [Instr.slice, Instr.sliceBounds, run_underlying Tryz.underlying28, run_sliceBound, hk, sizeOf, typeInfo, hi, hz1]
theorem run_slice_hi_wr (kl : IntKind) {k : Nat} (hk : k ≤ c) (W : World) :
    (Instr.slice 28 (.slice A n c) none (some (.int kl (k : Int))) none).run Tryz.prog W = .ok (.slice A k c) W := by
  obtain ⟨i, hi, hz0, hz1, hz2⟩ := info_parts info_wr
  simp [Instr.slice, Instr.sliceBounds, run_underlying Tryz.underlying28, run_sliceBound, hk, sizeOf, typeInfo, hi]
  cases A <;> simp [add_zero']

/-- A fresh row of records. -/
structure FrW (w : World) (b : Nat) (A : Option Addr) (n c : Nat) (L : List WR) : Prop where
  own : w.ownsRow b 25 2 (.slice A n c) n (wrs L)
theorem FrW.len (h : FrW w b A n c L) : L.length = n := by have := h.own.1; rw [wrs_len] at this; omega
theorem FrW.rd (h : FrW w b A n c L) (hB : w.heap.size ≤ B) : RdW w B A n c L := by
  obtain ⟨h1, h2⟩ := h.own
  have hl := h.len
  rcases h2 with ⟨e, h0⟩ | ⟨g, cap, cur, e, hg, hh, hnc, hm, hs, ht⟩
  · injection e with e1 e2 e3
    subst e1; subst e2; subst e3
    have : L = [] := List.eq_nil_of_length_eq_zero hl
    subst this
    exact RdW.nilv
  · injection e with e1 e2 e3
    subst e1; subst e3
    have hlt : g < w.heap.size := (Array.getElem?_eq_some_iff.1 hh).1
    have hadd : ∀ j, (⟨g, 0, none⟩ : Addr).add j = ⟨g, 0 + j, none⟩ := fun j => by unfold Addr.add; split <;> simp_all
    refine ⟨hl, hnc, hm, fun e => (by cases e), fun _ => ⟨g, 0, rfl, Nat.lt_of_lt_of_le hlt hB, fun i x hx => ?_⟩⟩
    have hc := fun j (hj : j < 2) u (hu : (wrl x)[j]? = some u) => h.own.cells (g := g) rfl (i * 2 + j) u ((wrs_get L i x j hx hj).trans hu)
    have c0 := hc 0 (by omega) _ rfl
    have c1 := hc 1 (by omega) _ rfl
    rw [hadd] at c0 c1
    exact ⟨c0, c1⟩
theorem FrW.mono {b' : Nat} (h : FrW w b A n c L) (hb : b' ≤ b) : FrW w b' A n c L := by
  obtain ⟨h1, h2⟩ := h.own
  refine ⟨h1, ?_⟩
  rcases h2 with h2 | ⟨g, cap, cur, e, hg, r⟩
  · exact .inl h2
  · exact .inr ⟨g, cap, cur, e, Nat.le_trans hb hg, r⟩
theorem FrW.below (h : FrW w b A n c L) (hb : Below w.heap.size w w') : FrW w' b A n c L := by
  obtain ⟨h1, h2⟩ := h.own
  refine ⟨h1, ?_⟩
  rcases h2 with h2 | ⟨g, cap, cur, e, hg, hh, r⟩
  · exact .inl h2
  · exact .inr ⟨g, cap, cur, e, hg, (hb.block g (Array.getElem?_eq_some_iff.1 hh).1).trans hh, r⟩
theorem FrW.alloc (h : FrW w b A n c L) (o : Obj) : FrW (w.alloc o) b A n c L := ⟨h.own.alloc o⟩
theorem FrW.nil : FrW w b none 0 0 [] := ⟨World.ownsRow_nil _ _ _ _⟩
theorem FrW.new (w : World) {b k : Nat} {cur : Array Value} {L : List WR} (hc : cur = (wrs L).toArray) (hk : L.length = k) (hb : b ≤ w.heap.size) (hm : k ≤ maxLen) : FrW (w.alloc (.cells cur 25)) b (some ⟨w.heap.size, 0, none⟩) k k L := by
  subst hc; subst hk
  refine ⟨⟨wrs_len L, .inr ⟨w.heap.size, L.length, (wrs L).toArray, rfl, hb, heap_alloc_new w _, Nat.le_refl _, hm, by simp [wrs_len], ?_⟩⟩⟩
  rw [← wrs_len]; simp
end

/-- What an append of records gives. -/
structure AppW (w w' : World) (b : Nat) (v : Value) (A' : Option Addr) (n' c' : Nat) (L' : List WR) : Prop where
  fr : FrW w' b A' n' c' L'
  below : Below b w w'
  grown : w.grownBy w' v.ownBlock

theorem run_append_wr_nil (w : World) (b : Nat) (ty : TypeId) {A : Option Addr} {n c : Nat} {L : List WR} (h : FrW w b A n c L) (c' : Nat) : (Builtin.append_ #[28, 28] ty #[.slice A n c, .slice none 0 c']).run Tryz.prog w = .ok (.slice A n c) w := by
  obtain ⟨i, hi, hz0, hz1, hz2⟩ := info_parts info_wr
  rcases h.own.2 with ⟨e, h0⟩ | ⟨g, cap, cur, e, _, _, hnc, _⟩
  · injection e with e1 e2 e3
    subst e1; subst e2; subst e3
    simp [Builtin.append_, run_underlying Tryz.underlying28, sizeOf, typeInfo, hi, Builtin.lenOf, Builtin.firstCells]
  · injection e with e1 e2 e3
    subst e1; subst e3
    simp [Builtin.append_, run_underlying Tryz.underlying28, sizeOf, typeInfo, hi, Builtin.lenOf, Builtin.firstCells, hnc, storeCells]

theorem run_appW (w : World) {b : Nat} (ty : TypeId) {A : Option Addr} {n c : Nat} {L : List WR} (h : FrW w b A n c L) {B m c2 : Nat} {A2 : Option Addr} {M : List WR} (hr : RdW w B A2 m c2 M)
    (hby : n + m ≤ 1000000000000) (hb : b ≤ w.heap.size) :
    ∃ A' c' w', (Builtin.append_ #[28, 28] ty #[.slice A n c, .slice A2 m c2]).run Tryz.prog w = .ok (.slice A' (n + m) c') w' ∧ AppW w w' b (.slice A n c) A' (n + m) c' (L ++ M) := by
  obtain ⟨i, hi, hz0, hz1, hz2⟩ := info_parts info_wr
  rcases A2 with _ | ad
  · obtain ⟨rfl, rfl⟩ := hr.nil rfl
    have hn : M = [] := List.eq_nil_of_length_eq_zero hr.len
    subst hn
    exact ⟨A, c, w, run_append_wr_nil w b ty h _, ⟨by simpa using h, Below.refl _ _, World.grownBy.refl w _⟩⟩
  · have hnews : ∀ j u, (wrs M)[j]? = some u → w.cell? (ad.add j) = some u := by
      intro j u hu
      have hj : j < M.length * 2 := by
        rcases Nat.lt_or_ge j (wrs M).length with h1 | h1
        · rwa [wrs_len] at h1
        · rw [List.getElem?_eq_none h1] at hu; cases hu
      obtain ⟨bb, off, e, _, hc⟩ := hr.form (by have := hr.len; omega)
      cases e
      have hx : M[j / 2]? = some (M[j / 2]'(by omega)) := List.getElem?_eq_getElem _
      have hg := wrs_get M (j / 2) _ (j % 2) hx (by omega)
      rw [show j / 2 * 2 + j % 2 = j by omega, hu] at hg
      obtain ⟨c0, c1⟩ := hc (j / 2) _ hx
      have hadd : (⟨bb, off, none⟩ : Addr).add j = ⟨bb, off + j, none⟩ := by unfold Addr.add; split <;> simp_all
      rw [hadd]
      have h4 : j % 2 = 0 ∨ j % 2 = 1 := by omega
      rcases h4 with h4 | h4 <;> rw [h4] at hg <;> simp only [wrl, List.getElem?_cons_zero, List.getElem?_cons_succ, Option.some.injEq] at hg <;> subst hg
      · rw [show off + j = off + j / 2 * 2 by omega]; exact c0
      · rw [show off + j = off + j / 2 * 2 + 1 by omega]; exact c1
    obtain ⟨v', w', hrun, h2, h3, _, h5⟩ := run_append_own_at (P := Tryz.prog) w b 28 ty 25 i _ 2 32 Tryz.underlying28 hi hz0 hz1 hz2 (by rfl) (by decide) _ n (wrs L) h.own ad m c2 (wrs M) (by rw [wrs_len, hr.len]) hnews wrs_one (by simp only [maxLen]; omega) (by omega) hb
    have hform : ∃ A' c', v' = .slice A' (n + m) c' := by
      rcases h2.2 with ⟨e, h0⟩ | ⟨g, cap, cur, e, _⟩
      · exact ⟨none, 0, by rw [e, h0]⟩
      · exact ⟨_, _, e⟩
    obtain ⟨A', c', rfl⟩ := hform
    refine ⟨A', c', w', hrun, ⟨⟨by rw [wrs_app]; exact h2⟩, ?_, h3⟩⟩
    refine (Below.refl b w).grown h3 hb fun k hk => ?_
    exact (h.own.lt k hk).1

theorem wpList_appW {ops : Array Oper} {rest : List Oper} {o : Oper} {a : Act} {Q : Exit → Act → World → Prop} {w : World} (hgd : o.guard = none) (s x : Operand)
    (ho : o.op = .call { callee := .builtin .append, args := #[s, x], argTypes := #[28, 28] })
    {b : Nat} {A : Option Addr} {n c : Nat} {L : List WR} (hs : a.eval s = .slice A n c) (h : FrW w b A n c L)
    {B m c2 : Nat} {A2 : Option Addr} {M : List WR} (hx : a.eval x = .slice A2 m c2) (hr : RdW w B A2 m c2 M) (hby : n + m ≤ 1000000000000) (hb : b ≤ w.heap.size)
    (hk : ∀ A' c' w', AppW w w' b (.slice A n c) A' (n + m) c' (L ++ M) → wpList Tryz.prog ops Q rest (a.put o.dst (.slice A' (n + m) c')) w') : wpList Tryz.prog ops Q (o :: rest) a w :=
  wpList_plain hgd fun K hK => by
    obtain ⟨A', c', w', hrun, h2⟩ := run_appW w o.type h hr hby hb
    unfold Oper.wp execOp
    simp only [ho, resolve, invoke, builtin, Sem.run_bind, Sem.run_pure, Result.andThen_ok, List.map_toArray, List.map_cons, List.map_nil, hs, hx, hrun]
    exact hK _ _ (hk A' c' w' h2)
/-- The same at a step of a region that draws its order. -/
theorem step_appW {ops : Array Oper} {o : Oper} {a : Act} {K : Act → World → Prop} {Q : Exit → Act → World → Prop} {E : Prop} {w : World} (hgd : o.guard = none) (s x : Operand)
    (ho : o.op = .call { callee := .builtin .append, args := #[s, x], argTypes := #[28, 28] })
    {b : Nat} {A : Option Addr} {n c : Nat} {L : List WR} (h : FrW w b A n c L) (hs : a.eval s = .slice A n c)
    {B m c2 : Nat} {A2 : Option Addr} {M : List WR} (hr : RdW w B A2 m c2 M) (hx : a.eval x = .slice A2 m c2) (hby : n + m ≤ 1000000000000) (hb : b ≤ w.heap.size)
    (hk : ∀ A' c' w', AppW w w' b (.slice A n c) A' (n + m) c' (L ++ M) → K (a.put o.dst (.slice A' (n + m) c')) w') :
    if Region.wanted o (yielded ops a.tmps) = true then Oper.wp Tryz.prog o a w K Q else E := by
  have hw : Region.wanted o (yielded ops a.tmps) = true := by simp [Region.wanted, hgd]
  rw [if_pos hw]
  obtain ⟨A', c', w', hrun, h2⟩ := run_appW w o.type h hr hby hb
  unfold Oper.wp execOp
  simp only [ho, resolve, invoke, builtin, Sem.run_bind, Sem.run_pure, Result.andThen_ok, List.map_toArray, List.map_cons, List.map_nil, hs, hx, hrun]
  exact hk A' c' w' h2
theorem RdW.grown {w w' : World} {B b off n c : Nat} {L : List WR} (h : RdW w B (some ⟨b, off, none⟩) n c L) {row : Option Nat} (hg : w.grownBy w' row) (hb : b < w.heap.size) (hn : row ≠ some b) : RdW w' B (some ⟨b, off, none⟩) n c L :=
  ⟨h.len, h.cap, h.max, h.nil, fun hn0 => by
    obtain ⟨b', off', e, hB, hc⟩ := h.form hn0
    cases e
    refine ⟨b, off, rfl, hB, fun i x hx => ?_⟩
    have hk (j : Nat) : w'.cell? ⟨b, j, none⟩ = w.cell? ⟨b, j, none⟩ := hg.cell_far ⟨b, j, none⟩ hb (Ne.symm hn)
    obtain ⟨h0, h1⟩ := hc i x hx
    exact ⟨(hk _).trans h0, (hk _).trans h1⟩⟩
/-- The row of one record, and of none, as literals. -/
theorem FrW.one (w : World) {b g : Nat} (x : WR) (hg : w.heap.size = g) (hb : b ≤ w.heap.size) : FrW (w.alloc (.cells #[.int .u64 (x.q : Int), .slice x.A x.n x.c] 25)) b (some ⟨g, 0, none⟩) 1 1 [x] := by
  subst hg
  exact FrW.new w (L := [x]) rfl rfl hb (by decide)
theorem FrW.zero (w : World) {b g : Nat} (hg : w.heap.size = g) (hb : b ≤ w.heap.size) : FrW (w.alloc (.cells #[] 25)) b (some ⟨g, 0, none⟩) 0 0 [] := by
  subst hg
  exact FrW.new w (L := []) rfl rfl hb (by decide)



theorem RdW.now {w w' : World} {n c : Nat} {A : Option Addr} {L : List WR} (h : RdW w w.heap.size A n c L) (hb : Below w.heap.size w w') : RdW w' w'.heap.size A n c L := (h.below hb (Nat.le_refl _)).more hb.size
theorem RdW.lay {w : World} {n c : Nat} {A : Option Addr} {L : List WR} (h : RdW w w.heap.size A n c L) (o : Obj) : RdW (w.alloc o) (w.alloc o).heap.size A n c L := h.now (below_alloc w o)
theorem FrW.here {w : World} {b : Nat} {A : Option Addr} {n c : Nat} {L : List WR} (h : FrW w b A n c L) : RdW w w.heap.size A n c L := h.rd (Nat.le_refl _)
/-- Records in memory: their row, and each one's operations. -/
structure Recs (w : World) (A : Option Addr) (n c : Nat) (L : List WR) : Prop where
  rd : RdW w w.heap.size A n c L
  ops : ∀ x ∈ L, RdO w w.heap.size x.A x.n x.c x.L
theorem Recs.now {w w' : World} {n c : Nat} {A : Option Addr} {L : List WR} (h : Recs w A n c L) (hb : Below w.heap.size w w') : Recs w' A n c L := ⟨h.rd.now hb, fun x hx => (h.ops x hx).now hb⟩
theorem Recs.lay {w : World} {n c : Nat} {A : Option Addr} {L : List WR} (h : Recs w A n c L) (o : Obj) : Recs (w.alloc o) A n c L := h.now (below_alloc w o)
theorem Recs.front {w : World} {n c : Nat} {A : Option Addr} {L : List WR} (h : Recs w A n c L) {k : Nat} (hk : k ≤ n) : Recs w A k c (L.take k) := ⟨h.rd.front hk, fun x hx => h.ops x (List.mem_of_mem_take hx)⟩
theorem Recs.len {w : World} {n c : Nat} {A : Option Addr} {L : List WR} (h : Recs w A n c L) : L.length = n := h.rd.len
theorem Recs.nilv {w : World} : Recs w none 0 0 [] := ⟨RdW.nilv, fun x hx => by cases hx⟩
/-- The records as mathematics. -/
def recsOf (L : List WR) : List Wr := L.map WR.r
@[simp] theorem recsOf_len (L : List WR) : (recsOf L).length = L.length := by simp [recsOf]
end Go.Proofs.YthgaiimgfnbkaaaGreatDoor
