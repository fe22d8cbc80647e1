/-
  Rows of operations (of three cells each): slices of them; fresh ones; what an append of them gives; what comes in.
-/
import Derived.Test.YthgaiimgfnbkaaaGreatDoorBtE
namespace Go.Proofs.YthgaiimgfnbkaaaGreatDoor
set_option maxRecDepth 100000
open Go.RowKit Go.Shelf

/-- The slice value '.slice A n c' reads as the operations L, in blocks below B. -/
structure RdO (w : World) (B : Nat) (A : Option Addr) (n c : Nat) (L : List Bop) : Prop where
  len : L.length = n
  cap : n ≤ c
  max : c ≤ maxLen
  nil : A = none → n = 0 ∧ c = 0
  form : 0 < n → ∃ b off, A = some ⟨b, off, none⟩ ∧ b < B ∧ ∀ i x, L[i]? = some x →
    w.cell? ⟨b, off + i * 3, none⟩ = some (.int .u8 (x.k : Int)) ∧ w.cell? ⟨b, off + i * 3 + 1, none⟩ = some (.string x.s) ∧ w.cell? ⟨b, off + i * 3 + 2, none⟩ = some (.string x.v)
theorem RdO.nilv {w : World} {B : Nat} : RdO w B none 0 0 [] := ⟨rfl, Nat.le_refl _, Nat.zero_le _, fun _ => ⟨rfl, rfl⟩, fun h => absurd h (by decide)⟩
theorem RdO.keep {w w' : World} {B n c : Nat} {A : Option Addr} {L : List Bop} (h : RdO w B A n c L) (hk : ∀ p : Addr, p.block < B → w'.cell? p = w.cell? p) : RdO w' B A n c L :=
  ⟨h.len, h.cap, h.max, h.nil, fun hn => by
    obtain ⟨b, off, e, hb, hc⟩ := h.form hn
    refine ⟨b, off, e, hb, fun i x hx => ?_⟩
    obtain ⟨h0, h1, h2⟩ := hc i x hx
    exact ⟨(hk _ hb).trans h0, (hk _ hb).trans h1, (hk _ hb).trans h2⟩⟩
theorem RdO.more {w : World} {B B' n c : Nat} {A : Option Addr} {L : List Bop} (h : RdO w B A n c L) (hB : B ≤ B') : RdO w B' A n c L :=
  ⟨h.len, h.cap, h.max, h.nil, fun hn => by obtain ⟨b, off, e, hb, hc⟩ := h.form hn; exact ⟨b, off, e, by omega, hc⟩⟩
theorem RdO.below {w w' : World} {B B' n c : Nat} {A : Option Addr} {L : List Bop} (h : RdO w B A n c L) (hb : Below B' w w') (hB : B ≤ B') : RdO w' B A n c L := h.keep fun _ hp => (hb.mono hB).cell hp

def ovl (x : Bop) : List Value := [.int .u8 (x.k : Int), .string x.s, .string x.v]
def ovs (L : List Bop) : List Value := L.flatMap ovl
theorem ovs_len : ∀ L : List Bop, (ovs L).length = L.length * 3
  | [] => rfl
  | x :: L => by
    have := ovs_len L
    simp only [ovs, List.flatMap_cons, List.length_append, List.length_cons] at *
    rw [this]; simp [ovl]; omega
theorem ovs_app (a b : List Bop) : ovs (a ++ b) = ovs a ++ ovs b := by simp [ovs]
theorem ovs_one {L : List Bop} : ∀ u ∈ ovs L, u.oneCell' = true := by
  intro u hu
  obtain ⟨x, _, hx⟩ := List.mem_flatMap.1 hu
  simp only [ovl, List.mem_cons, List.not_mem_nil, or_false] at hx
  rcases hx with rfl | rfl | rfl <;> rfl
theorem ovs_get : ∀ (L : List Bop) (i : Nat) (x : Bop) (j : Nat), L[i]? = some x → j < 3 → (ovs L)[i * 3 + j]? = (ovl x)[j]?
  | [], i, x, j, h, _ => by simp at h
  | y :: L, 0, x, j, h, hj => by
    simp at h; subst h
    simp only [ovs, List.flatMap_cons]
    rw [List.getElem?_append_left (by simp [ovl]; omega)]
    simp
  | y :: L, i + 1, x, j, h, hj => by
    have ih := ovs_get L i x j (by simpa using h) hj
    simp only [ovs, List.flatMap_cons] at *
    rw [List.getElem?_append_right (by simp [ovl]; omega), ← ih]
    congr 1
    simp [ovl]; omega

theorem info_op : (Tryz.prog.info? 43).map (fun i => (i.zero, i.size, i.bytes)) = some (some (.agg #[.int .u8 0, .string ⟨#[]⟩, .string ⟨#[]⟩]), 3, 40) := by kernel_rfl

section
variable {w w' : World} {b B n c : Nat} {A : Option Addr} {L : List Bop}
theorem RdO.front (h : RdO w B A n c L) {k : Nat} (hk : k ≤ n) : RdO w B A k c (L.take k) :=
  ⟨by rw [List.length_take, h.len]; omega, Nat.le_trans hk h.cap, h.max, fun e => by have := h.nil e; omega, fun hk0 => by
    obtain ⟨bb, off, e, hb, hc⟩ := h.form (by omega)
    exact ⟨bb, off, e, hb, fun i x hx => hc i x (by rw [List.getElem?_take] at hx; split at hx <;> simp_all)⟩⟩
theorem RdO.back (h : RdO w B A n c L) {k : Nat} (hk : k ≤ n) : RdO w B (if c = k then A else A.map (·.add (k * 3))) (n - k) (c - k) (L.drop k) := by
  have hc := h.cap
  refine ⟨by rw [List.length_drop, h.len], by omega, by have := h.max; omega, fun e => ?_, fun hn => ?_⟩
  · split at e
    · omega
    · cases A with
      | none => have := h.nil rfl; omega
      | some a => cases e
  · obtain ⟨bb, off, rfl, hb, hcell⟩ := h.form (by omega)
    rw [if_neg (by omega)]
    refine ⟨bb, off + k * 3, ?_, hb, fun i x hx => ?_⟩
    · simp only [Option.map_some]
      congr 1
      unfold Addr.add
      split <;> simp_all
    · rw [List.getElem?_drop] at hx
      have := hcell _ x hx
      rw [show off + k * 3 + i * 3 = off + (k + i) * 3 by omega]
      exact this
theorem RdO.slice_lo (h : RdO w B A n c L) (kl : IntKind) {k : Nat} (hk : k ≤ n) :
    ∃ A', (∀ W, (Instr.slice 23 (.slice A n c) (some (.int kl (k : Int))) none none).run Tryz.prog W = .ok (.slice A' (n - k) (c - k)) W) ∧ RdO w B A' (n - k) (c - k) (L.drop k) := by
  refine ⟨_, fun W => ?_, h.back hk⟩
  obtain ⟨i, hi, hz0, hz1, hz2⟩ := info_parts info_op
  have hc := h.cap
  simp [Instr.slice, Instr.sliceBounds, run_underlying Tryz.underlying23, run_sliceBound, hk, sizeOf, typeInfo, hi, hz1]
theorem run_slice_hi_op (kl : IntKind) {k : Nat} (hk : k ≤ c) (W : World) :
    (Instr.slice 23 (.slice A n c) none (some (.int kl (k : Int))) none).run Tryz.prog W = .ok (.slice A k c) W := by
  obtain ⟨i, hi, hz0, hz1, hz2⟩ := info_parts info_op
  simp [Instr.slice, Instr.sliceBounds, run_underlying Tryz.underlying23, run_sliceBound, hk, sizeOf, typeInfo, hi]
  cases A <;> simp [add_zero']

/-- A fresh row of operations. -/
structure FrO (w : World) (b : Nat) (A : Option Addr) (n c : Nat) (L : List Bop) : Prop where
  own : w.ownsRow b 43 3 (.slice A n c) n (ovs L)
theorem FrO.len (h : FrO w b A n c L) : L.length = n := by have := h.own.1; rw [ovs_len] at this; omega
theorem FrO.rd (h : FrO w b A n c L) (hB : w.heap.size ≤ B) : RdO w B A n c L := by
  obtain ⟨h1, h2⟩ := h.own
  have hl := h.len
  rcases h2 with ⟨e, h0⟩ | ⟨g, cap, cur, e, hg, hh, hnc, hm, hs, ht⟩
  · injection e with e1 e2 e3
    subst e1; subst e2; subst e3
    have : L = [] := List.eq_nil_of_length_eq_zero hl
    subst this
    exact RdO.nilv
  · injection e with e1 e2 e3
    subst e1; subst e3
    have hlt : g < w.heap.size := (Array.getElem?_eq_some_iff.1 hh).1
    have hadd : ∀ j, (⟨g, 0, none⟩ : Addr).add j = ⟨g, 0 + j, none⟩ := fun j => by unfold Addr.add; split <;> simp_all
    refine ⟨hl, hnc, hm, fun e => (by cases e), fun _ => ⟨g, 0, rfl, Nat.lt_of_lt_of_le hlt hB, fun i x hx => ?_⟩⟩
    have hc := fun j (hj : j < 3) u (hu : (ovl x)[j]? = some u) => h.own.cells (g := g) rfl (i * 3 + j) u ((ovs_get L i x j hx hj).trans hu)
    have c0 := hc 0 (by omega) _ rfl
    have c1 := hc 1 (by omega) _ rfl
    have c2 := hc 2 (by omega) _ rfl
    rw [hadd] at c0 c1 c2
    exact ⟨c0, c1, c2⟩
theorem FrO.mono {b' : Nat} (h : FrO w b A n c L) (hb : b' ≤ b) : FrO w b' A n c L := by
  obtain ⟨h1, h2⟩ := h.own
  refine ⟨h1, ?_⟩
  rcases h2 with h2 | ⟨g, cap, cur, e, hg, r⟩
  · exact .inl h2
  · exact .inr ⟨g, cap, cur, e, Nat.le_trans hb hg, r⟩
theorem FrO.below (h : FrO w b A n c L) (hb : Below w.heap.size w w') : FrO w' b A n c L := by
  obtain ⟨h1, h2⟩ := h.own
  refine ⟨h1, ?_⟩
  rcases h2 with h2 | ⟨g, cap, cur, e, hg, hh, r⟩
  · exact .inl h2
  · exact .inr ⟨g, cap, cur, e, hg, (hb.block g (Array.getElem?_eq_some_iff.1 hh).1).trans hh, r⟩
theorem FrO.alloc (h : FrO w b A n c L) (o : Obj) : FrO (w.alloc o) b A n c L := ⟨h.own.alloc o⟩
theorem FrO.nil : FrO w b none 0 0 [] := ⟨World.ownsRow_nil _ _ _ _⟩
theorem FrO.new (w : World) {b k : Nat} {cur : Array Value} {L : List Bop} (hc : cur = (ovs L).toArray) (hk : L.length = k) (hb : b ≤ w.heap.size) (hm : k ≤ maxLen) : FrO (w.alloc (.cells cur 43)) b (some ⟨w.heap.size, 0, none⟩) k k L := by
  subst hc; subst hk
  refine ⟨⟨ovs_len L, .inr ⟨w.heap.size, L.length, (ovs L).toArray, rfl, hb, heap_alloc_new w _, Nat.le_refl _, hm, by simp [ovs_len], ?_⟩⟩⟩
  rw [← ovs_len]; simp
end

/-- What an append of operations gives. -/
structure AppO (w w' : World) (b : Nat) (v : Value) (A' : Option Addr) (n' c' : Nat) (L' : List Bop) : Prop where
  fr : FrO w' b A' n' c' L'
  below : Below b w w'
  grown : w.grownBy w' v.ownBlock

theorem run_append_op_nil (w : World) (b : Nat) (ty : TypeId) {A : Option Addr} {n c : Nat} {L : List Bop} (h : FrO w b A n c L) (c' : Nat) : (Builtin.append_ #[23, 23] ty #[.slice A n c, .slice none 0 c']).run Tryz.prog w = .ok (.slice A n c) w := by
  obtain ⟨i, hi, hz0, hz1, hz2⟩ := info_parts info_op
  rcases h.own.2 with ⟨e, h0⟩ | ⟨g, cap, cur, e, _, _, hnc, _⟩
  · injection e with e1 e2 e3
    subst e1; subst e2; subst e3
    simp [Builtin.append_, run_underlying Tryz.underlying23, sizeOf, typeInfo, hi, Builtin.lenOf, Builtin.firstCells]
  · injection e with e1 e2 e3
    subst e1; subst e3
    simp [Builtin.append_, run_underlying Tryz.underlying23, sizeOf, typeInfo, hi, Builtin.lenOf, Builtin.firstCells, hnc, storeCells]

theorem run_appO (w : World) {b : Nat} (ty : TypeId) {A : Option Addr} {n c : Nat} {L : List Bop} (h : FrO w b A n c L) {B m c2 : Nat} {A2 : Option Addr} {M : List Bop} (hr : RdO w B A2 m c2 M)
    (hby : n + m ≤ 1000000000000) (hb : b ≤ w.heap.size) :
    ∃ A' c' w', (Builtin.append_ #[23, 23] ty #[.slice A n c, .slice A2 m c2]).run Tryz.prog w = .ok (.slice A' (n + m) c') w' ∧ AppO w w' b (.slice A n c) A' (n + m) c' (L ++ M) := by
  obtain ⟨i, hi, hz0, hz1, hz2⟩ := info_parts info_op
  rcases A2 with _ | ad
  · obtain ⟨rfl, rfl⟩ := hr.nil rfl
    have hn : M = [] := List.eq_nil_of_length_eq_zero hr.len
    subst hn
    exact ⟨A, c, w, run_append_op_nil w b ty h _, ⟨by simpa using h, Below.refl _ _, World.grownBy.refl w _⟩⟩
  · have hnews : ∀ j u, (ovs M)[j]? = some u → w.cell? (ad.add j) = some u := by
      intro j u hu
      have hj : j < M.length * 3 := by
        rcases Nat.lt_or_ge j (ovs M).length with h1 | h1
        · rwa [ovs_len] at h1
        · rw [List.getElem?_eq_none h1] at hu; cases hu
      obtain ⟨bb, off, e, _, hc⟩ := hr.form (by have := hr.len; omega)
      cases e
      have hx : M[j / 3]? = some (M[j / 3]'(by omega)) := List.getElem?_eq_getElem _
      have hg := ovs_get M (j / 3) _ (j % 3) hx (by omega)
      rw [show j / 3 * 3 + j % 3 = j by omega, hu] at hg
      obtain ⟨c0, c1, c2'⟩ := hc (j / 3) _ hx
      have hadd : (⟨bb, off, none⟩ : Addr).add j = ⟨bb, off + j, none⟩ := by unfold Addr.add; split <;> simp_all
      rw [hadd]
      have h4 : j % 3 = 0 ∨ j % 3 = 1 ∨ j % 3 = 2 := by omega
      rcases h4 with h4 | h4 | h4 <;> rw [h4] at hg <;> simp only [ovl, List.getElem?_cons_zero, List.getElem?_cons_succ, Option.some.injEq] at hg <;> subst hg
      · rw [show off + j = off + j / 3 * 3 by omega]; exact c0
      · rw [show off + j = off + j / 3 * 3 + 1 by omega]; exact c1
      · rw [show off + j = off + j / 3 * 3 + 2 by omega]; exact c2'
    obtain ⟨v', w', hrun, h2, h3, _, h5⟩ := run_append_own_at (P := Tryz.prog) w b 23 ty 43 i _ 3 40 Tryz.underlying23 hi hz0 hz1 hz2 (by rfl) (by decide) _ n (ovs L) h.own ad m c2 (ovs M) (by rw [ovs_len, hr.len]) hnews ovs_one (by simp only [maxLen]; omega) (by omega) hb
    have hform : ∃ A' c', v' = .slice A' (n + m) c' := by
      rcases h2.2 with ⟨e, h0⟩ | ⟨g, cap, cur, e, _⟩
      · exact ⟨none, 0, by rw [e, h0]⟩
      · exact ⟨_, _, e⟩
    obtain ⟨A', c', rfl⟩ := hform
    refine ⟨A', c', w', hrun, ⟨⟨by rw [ovs_app]; exact h2⟩, ?_, h3⟩⟩
    refine (Below.refl b w).grown h3 hb fun k hk => ?_
    exact (h.own.lt k hk).1

theorem wpList_appO {ops : Array Oper} {rest : List Oper} {o : Oper} {a : Act} {Q : Exit → Act → World → Prop} {w : World} (hgd : o.guard = none) (s x : Operand)
    (ho : o.op = .call { callee := .builtin .append, args := #[s, x], argTypes := #[23, 23] })
    {b : Nat} {A : Option Addr} {n c : Nat} {L : List Bop} (hs : a.eval s = .slice A n c) (h : FrO w b A n c L)
    {B m c2 : Nat} {A2 : Option Addr} {M : List Bop} (hx : a.eval x = .slice A2 m c2) (hr : RdO w B A2 m c2 M) (hby : n + m ≤ 1000000000000) (hb : b ≤ w.heap.size)
    (hk : ∀ A' c' w', AppO w w' b (.slice A n c) A' (n + m) c' (L ++ M) → wpList Tryz.prog ops Q rest (a.put o.dst (.slice A' (n + m) c')) w') : wpList Tryz.prog ops Q (o :: rest) a w :=
  wpList_plain hgd fun K hK => by
    obtain ⟨A', c', w', hrun, h2⟩ := run_appO w o.type h hr hby hb
    unfold Oper.wp execOp
    simp only [ho, resolve, invoke, builtin, Sem.run_bind, Sem.run_pure, Result.andThen_ok, List.map_toArray, List.map_cons, List.map_nil, hs, hx, hrun]
    exact hK _ _ (hk A' c' w' h2)
/-- The same at a step of a region that draws its order. -/
theorem step_appO {ops : Array Oper} {o : Oper} {a : Act} {K : Act → World → Prop} {Q : Exit → Act → World → Prop} {E : Prop} {w : World} (hgd : o.guard = none) (s x : Operand)
    (ho : o.op = .call { callee := .builtin .append, args := #[s, x], argTypes := #[23, 23] })
    {b : Nat} {A : Option Addr} {n c : Nat} {L : List Bop} (h : FrO w b A n c L) (hs : a.eval s = .slice A n c)
    {B m c2 : Nat} {A2 : Option Addr} {M : List Bop} (hr : RdO w B A2 m c2 M) (hx : a.eval x = .slice A2 m c2) (hby : n + m ≤ 1000000000000) (hb : b ≤ w.heap.size)
    (hk : ∀ A' c' w', AppO w w' b (.slice A n c) A' (n + m) c' (L ++ M) → K (a.put o.dst (.slice A' (n + m) c')) w') :
    if Region.wanted o (yielded ops a.tmps) = true then Oper.wp Tryz.prog o a w K Q else E := by
  have hw : Region.wanted o (yielded ops a.tmps) = true := by simp [Region.wanted, hgd]
  rw [if_pos hw]
  obtain ⟨A', c', w', hrun, h2⟩ := run_appO w o.type h hr hby hb
  unfold Oper.wp execOp
  simp only [ho, resolve, invoke, builtin, Sem.run_bind, Sem.run_pure, Result.andThen_ok, List.map_toArray, List.map_cons, List.map_nil, hs, hx, hrun]
  exact hk A' c' w' h2
theorem RdO.grown {w w' : World} {B b off n c : Nat} {L : List Bop} (h : RdO w B (some ⟨b, off, none⟩) n c L) {row : Option Nat} (hg : w.grownBy w' row) (hb : b < w.heap.size) (hn : row ≠ some b) : RdO w' B (some ⟨b, off, none⟩) n c L :=
  ⟨h.len, h.cap, h.max, h.nil, fun hn0 => by
    obtain ⟨b', off', e, hB, hc⟩ := h.form hn0
    cases e
    refine ⟨b, off, rfl, hB, fun i x hx => ?_⟩
    have hk (j : Nat) : w'.cell? ⟨b, j, none⟩ = w.cell? ⟨b, j, none⟩ := hg.cell_far ⟨b, j, none⟩ hb (Ne.symm hn)
    obtain ⟨h0, h1, h2⟩ := hc i x hx
    exact ⟨(hk _).trans h0, (hk _).trans h1, (hk _).trans h2⟩⟩
/-- The row of one operation, and of none, as literals. -/
theorem FrO.one (w : World) {b g : Nat} (x : Bop) (hg : w.heap.size = g) (hb : b ≤ w.heap.size) : FrO (w.alloc (.cells #[.int .u8 (x.k : Int), .string x.s, .string x.v] 43)) b (some ⟨g, 0, none⟩) 1 1 [x] := by
  subst hg
  exact FrO.new w (L := [x]) rfl rfl hb (by decide)
theorem FrO.zero (w : World) {b g : Nat} (hg : w.heap.size = g) (hb : b ≤ w.heap.size) : FrO (w.alloc (.cells #[] 43)) b (some ⟨g, 0, none⟩) 0 0 [] := by
  subst hg
  exact FrO.new w (L := []) rfl rfl hb (by decide)


open Go.ChangeShapes Go.WideShapes Go.ChangeAt Go.Deep
structure BopOk (x : Bop) : Prop where
  s : x.s.size ≤ maxLen
  k : (x.k : Int) ≤ 255
  v : x.v.size ≤ maxLen
section
variable {H : Type} {enc : TypeId × Value → H} {w : World} {base : Nat} {spare : Nat → Bool} {held : Bool}
theorem op_cells {fuel : Nat} {cs : List Value} {x : DataW H × List MemPlace} (h : DataW.trod enc Tryz.prog w base spare held fuel 43 cs = some x) :
    ∃ y : Bop, cs = [.int .u8 (y.k : Int), .string y.s, .string y.v] ∧ BopOk y := by
  obtain ⟨y0, y1, y2, n, _, hl, h0, h1, h2⟩ := trod_struct3 Tryz.underlying43 h
  have hc : Tryz.prog.cellsOf 43 = 3 := by kernel_rfl
  have hs : Tryz.prog.cellsOf 9 = 1 := by kernel_rfl
  have hb : Tryz.prog.cellsOf 5 = 1 := by kernel_rfl
  rw [hc] at hl
  match cs, hl with
  | [c0, c1, c2], _ =>
    simp only [hs, hb, List.drop_zero, List.drop_succ_cons, List.take_succ_cons, List.take_zero] at h0 h1 h2
    obtain ⟨k, e0, _, hk⟩ := DataW.trod_int Tryz.underlying5 h0
    obtain ⟨s, e1, _, hs⟩ := DataW.trod_string Tryz.underlying9 h1
    obtain ⟨v, e2, _, hv⟩ := DataW.trod_string Tryz.underlying9 h2
    cases e0; cases e1; cases e2
    have hk := bounds_u8 hk
    obtain ⟨k, rfl⟩ := Int.eq_ofNat_of_zero_le hk.1
    exact ⟨⟨k, s, v⟩, rfl, hs, hk.2, hv⟩
theorem open_ops {r : Reach} {b0 : Nat} {v : Value} {d : DataW H} {p : List MemPlace} (h : DataW.Trod enc Tryz.prog w base spare held 23 v d p) (hv : Value.okWide Tryz.prog w r b0 23 v) :
    ∃ (A : Option Addr) (n c : Nat) (L : List Bop), v = .slice A n c ∧ RdO w w.heap.size A n c L ∧ ∀ x ∈ L, BopOk x := by
  obtain ⟨A, n, c, rfl⟩ := okWide_slice Tryz.underlying23 hv
  obtain ⟨fuel, hf⟩ := h
  have hC : Tryz.prog.cellsOf 43 = 3 := by kernel_rfl
  rcases open_slice Tryz.underlying23 hf with ⟨hcs, _⟩ | ⟨a, len, cap, m, n', D, Pl, hcs, hb, hl, hm, hmm, hx, hi⟩
  · simp [Value.cells] at hcs
    obtain ⟨rfl, rfl, rfl⟩ := hcs
    exact ⟨none, 0, 0, [], rfl, RdO.nilv, fun x hx => by cases hx⟩
  · simp [Value.cells] at hcs
    obtain ⟨rfl, rfl, rfl⟩ := hcs
    have hle : n ≤ m := by rw [hmm]; split <;> omega
    have he : ∀ i, i < n → ∃ x : Bop, BopOk x ∧ w.cell? (a.add (i * 3)) = some (.int .u8 (x.k : Int)) ∧ w.cell? (a.add (i * 3 + 1)) = some (.string x.s) ∧ w.cell? (a.add (i * 3 + 2)) = some (.string x.v) := by
      intro i hin
      obtain ⟨cs', hc, ht⟩ := hi i (by omega)
      rw [hC] at hc
      obtain ⟨y, hcs, b1⟩ := op_cells ht
      subst hcs
      obtain ⟨_, _, hat⟩ := World.cells?_some hc
      have a0 := hat 0 (by omega)
      have a1 := hat 1 (by omega)
      have a2 := hat 2 (by omega)
      rw [add_of_add] at a0 a1 a2
      exact ⟨y, b1, a0, a1, a2⟩
    have hlen : ∀ x : Addr, 0 < n → ∃ v, w.cell? (a.add (0 * 3)) = some v := fun _ hn => by obtain ⟨x, _, h, _⟩ := he 0 hn; exact ⟨_, h⟩
    refine ⟨some a, n, c, (List.range n).map fun i => if hi : i < n then (he i hi).choose else ⟨0, ⟨#[]⟩, ⟨#[]⟩⟩, rfl, ⟨by simp, hl, hm, fun e => (by cases e), fun hn => ?_⟩, ?_⟩
    · obtain ⟨b, off, spot⟩ := a
      obtain ⟨v0, h0⟩ := hlen ⟨b, off, spot⟩ hn
      have hs : spot = none := by
        cases spot with
        | none => rfl
        | some s => simp [Addr.add, World.cell?] at h0; split at h0 <;> simp at h0
      subst hs
      have hlt : b < w.heap.size := by
        have := World.block_lt_of_cell? w _ h0
        rwa [block_of_add] at this
      refine ⟨b, off, rfl, hlt, fun i x hx => ?_⟩
      rw [List.getElem?_map] at hx
      by_cases hin : i < n
      · rw [List.getElem?_range hin] at hx
        simp only [Option.map_some, hin, dif_pos, Option.some.injEq] at hx
        subst hx
        have := (he i hin).choose_spec
        have hadd : ∀ j, (⟨b, off, none⟩ : Addr).add j = ⟨b, off + j, none⟩ := fun j => by unfold Addr.add; split <;> simp_all
        simpa only [hadd, Nat.add_assoc] using this.2
      · rw [List.getElem?_eq_none (by simpa using hin)] at hx; cases hx
    · intro x hx
      obtain ⟨i, hi', rfl⟩ := List.mem_map.1 hx
      have hin : i < n := by simpa using hi'
      simp only [hin, dif_pos]
      exact (he i hin).choose_spec.1
theorem open_bytes {r : Reach} {b0 : Nat} {v : Value} {d : DataW H} {p : List MemPlace} (h : DataW.Trod enc Tryz.prog w base (fun _ => true) held 26 v d p) (hv : Value.okWide Tryz.prog w r b0 26 v) :
    ∃ (A : Option Addr) (n c : Nat) (l : List UInt8), v = .slice A n c ∧ l.length = n ∧ Rd w w.heap.size A n c (bv l) := by
  obtain ⟨A, n, c, rfl⟩ := okWide_slice Tryz.underlying26 hv
  obtain ⟨fuel, hf⟩ := h
  rcases open_ints Tryz.underlying26 Tryz.underlying5 (by kernel_rfl) hf with ⟨hcs, _⟩ | ⟨x, l, c', zs, hcs, _, hl, hm, hz, _, hcell, hwz⟩
  · simp [Value.cells] at hcs
    obtain ⟨rfl, rfl, rfl⟩ := hcs
    exact ⟨none, 0, 0, [], rfl, rfl, Rd.nilv⟩
  · simp [Value.cells] at hcs
    obtain ⟨rfl, rfl, rfl⟩ := hcs
    obtain ⟨l, hl', hR⟩ := rd_of_row (w := w) (a := some x) (len := n) (cap := c) (zs := zs) (.inr ⟨_, rfl, hl, hm, by simpa using hz, hcell, hwz⟩)
    exact ⟨_, _, _, l, rfl, hl', hR⟩
end
end Go.Proofs.YthgaiimgfnbkaaaGreatDoor
