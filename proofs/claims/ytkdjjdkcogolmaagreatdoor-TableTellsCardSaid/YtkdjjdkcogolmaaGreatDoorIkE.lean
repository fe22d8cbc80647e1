/-
  The texts IkP, IkE, in one.
-/
import Derived.Test.YtkdjjdkcogolmaaGreatDoorIk3
import Derived.Test.YtkdjjdkcogolmaaGreatDoorIk7
section
/-
  The order of internal keys as mathematics: it is one, of all three parts.
-/
namespace Go.Proofs.YtkdjjdkcogolmaaGreatDoor
set_option maxRecDepth 100000
open Go.RowKit Go.Shelf

theorem trans_cmp : ∀ a b c : List UInt8, Lib.compareBytes a b ≤ 0 → Lib.compareBytes b c ≤ 0 → Lib.compareBytes a c ≤ 0
  | [], _, [] => by simp [Lib.compareBytes]
  | [], _, _ :: _ => by simp [Lib.compareBytes]
  | _ :: _, [], _ => by simp [Lib.compareBytes]
  | _ :: _, _ :: _, [] => by simp [Lib.compareBytes]
  | x :: a, y :: b, z :: c => by
    have ih := trans_cmp a b c
    simp only [Lib.compareBytes]
    simp only [UInt8.lt_iff_toNat_lt]
    intro h1 h2
    split at h1
    · split at h2
      · rw [if_pos (by omega)]; omega
      · split at h2
        · omega
        · rw [if_pos (by omega)]; omega
    · split at h1
      · omega
      · split at h2
        · rw [if_pos (by omega)]; omega
        · split at h2
          · omega
          · rw [if_neg (by omega), if_neg (by omega)]; exact ih h1 h2
theorem cmpS_trans {a b c : ByteArray} (h1 : cmpS a b ≤ 0) (h2 : cmpS b c ≤ 0) : cmpS a c ≤ 0 := trans_cmp _ _ _ h1 h2
theorem cmpI_lt (x y : Nat) : cmpI x y < 0 ↔ x < y := by unfold cmpI; split <;> (try split) <;> omega
theorem cmpI_eq (x y : Nat) : cmpI x y = 0 ↔ x = y := by unfold cmpI; split <;> (try split) <;> omega
theorem cmpI_gt (x y : Nat) : 0 < cmpI x y ↔ y < x := by unfold cmpI; split <;> (try split) <;> omega
theorem cmpI_three (x y : Nat) : cmpI x y = -1 ∨ cmpI x y = 0 ∨ cmpI x y = 1 := by unfold cmpI; split <;> (try split) <;> omega
theorem cmpI_swap (x y : Nat) : cmpI y x = - cmpI x y := by unfold cmpI; split <;> (try split) <;> (try split) <;> omega
section
variable (s : ByteArray) (q k : Nat) (t : ByteArray) (q' k' : Nat)
theorem cmpV_three : cmpV s q k t q' k' = -1 ∨ cmpV s q k t q' k' = 0 ∨ cmpV s q k t q' k' = 1 := by
  unfold cmpV
  have := cmpS_three s t; have := cmpI_three q' q; have := cmpI_three k' k
  split
  · assumption
  · split <;> assumption
theorem cmpV_swap : cmpV t q' k' s q k = - cmpV s q k t q' k' := by
  unfold cmpV
  rw [cmpS_swap s t, cmpI_swap q' q, cmpI_swap k' k]
  by_cases h : cmpS s t = 0
  · by_cases h2 : cmpI q' q = 0
    · simp [h, h2]
    · simp [h, h2]
  · simp [h]
theorem cmpV_zero : cmpV s q k t q' k' = 0 ↔ s = t ∧ q = q' ∧ k = k' := by
  unfold cmpV
  rw [← cmpS_eq]
  by_cases h : cmpS s t = 0
  · by_cases h2 : cmpI q' q = 0
    · have := (cmpI_eq _ _).1 h2
      simp [h, h2, cmpI_eq]; omega
    · have : q' ≠ q := fun e => h2 ((cmpI_eq _ _).2 e)
      simp [h, h2]; omega
  · simp [h]
theorem cmpV_le : cmpV s q k t q' k' ≤ 0 ↔ cmpS s t < 0 ∨ (cmpS s t = 0 ∧ (q' < q ∨ (q' = q ∧ k' ≤ k))) := by
  unfold cmpV
  by_cases h : cmpS s t = 0
  · by_cases h2 : cmpI q' q = 0
    · have h3 := (cmpI_eq _ _).1 h2
      have := cmpI_gt k' k
      simp [h, h2]; omega
    · have : q' ≠ q := fun e => h2 ((cmpI_eq _ _).2 e)
      have := cmpI_lt q' q
      simp [h, h2]; omega
  · simp [h]; omega
theorem cmpV_less (h : cmpS s t = -1) : cmpV s q k t q' k' = -1 := by unfold cmpV; simp [h]
end
theorem cmpV_trans {s t u : ByteArray} {q k q' k' q'' k'' : Nat} (h1 : cmpV s q k t q' k' ≤ 0) (h2 : cmpV t q' k' u q'' k'' ≤ 0) : cmpV s q k u q'' k'' ≤ 0 := by
  rw [cmpV_le] at h1 h2 ⊢
  have a1 : cmpS s t ≤ 0 := by omega
  have a2 : cmpS t u ≤ 0 := by omega
  have a3 := cmpS_trans a1 a2
  by_cases h : cmpS s u = 0
  · have e1 := (cmpS_eq _ _).1 h
    subst e1
    have := cmpS_swap s t
    omega
  · exact .inl (by omega)
end Go.Proofs.YtkdjjdkcogolmaaGreatDoor
end

section
/-
  Rows of entries (of four cells each): slices of them, and what an append of entries gives.
-/
namespace Go.Proofs.YtkdjjdkcogolmaaGreatDoor
set_option maxRecDepth 100000
open Go.RowKit Go.Shelf

def ev (x : Ent) : List Value := [.string x.s, .int .u64 (x.q : Int), .int .u8 (x.k : Int), .string x.v]
def evs (L : List Ent) : List Value := L.flatMap ev
theorem evs_len : ∀ L : List Ent, (evs L).length = L.length * 4
  | [] => rfl
  | x :: L => by
    have := evs_len L
    simp only [evs, List.flatMap_cons, List.length_append, List.length_cons] at *
    rw [this]; simp [ev]; omega
theorem evs_app (a b : List Ent) : evs (a ++ b) = evs a ++ evs b := by simp [evs]
theorem evs_one {L : List Ent} : ∀ u ∈ evs L, u.oneCell' = true := by
  intro u hu
  obtain ⟨x, _, hx⟩ := List.mem_flatMap.1 hu
  simp only [ev, List.mem_cons, List.not_mem_nil, or_false] at hx
  rcases hx with rfl | rfl | rfl | rfl <;> rfl
theorem evs_get : ∀ (L : List Ent) (i : Nat) (x : Ent) (j : Nat), L[i]? = some x → j < 4 → (evs L)[i * 4 + j]? = (ev x)[j]?
  | [], i, x, j, h, _ => by simp at h
  | y :: L, 0, x, j, h, hj => by
    simp at h; subst h
    simp only [evs, List.flatMap_cons]
    rw [List.getElem?_append_left (by simp [ev]; omega)]
    simp
  | y :: L, i + 1, x, j, h, hj => by
    have ih := evs_get L i x j (by simpa using h) hj
    simp only [evs, List.flatMap_cons] at *
    rw [List.getElem?_append_right (by simp [ev]; omega), ← ih]
    congr 1
    simp [ev]; omega

theorem info_en : (Tryz.prog.info? 40).map (fun i => (i.zero, i.size, i.bytes)) = some (some (.agg #[.string ⟨#[]⟩, .int .u64 0, .int .u8 0, .string ⟨#[]⟩]), 4, 48) := by kernel_rfl

section
variable {w w' : World} {b B n c : Nat} {A : Option Addr} {L : List Ent}
theorem RdE.front (h : RdE w B A n c L) {k : Nat} (hk : k ≤ n) : RdE w B A k c (L.take k) :=
  ⟨by rw [List.length_take, h.len]; omega, Nat.le_trans hk h.cap, h.max, fun e => by have := h.nil e; omega, fun hk0 => by
    obtain ⟨bb, off, e, hb, hc⟩ := h.form (by omega)
    exact ⟨bb, off, e, hb, fun i x hx => hc i x (by rw [List.getElem?_take] at hx; split at hx <;> simp_all)⟩⟩
theorem RdE.back (h : RdE w B A n c L) {k : Nat} (hk : k ≤ n) : RdE w B (if c = k then A else A.map (·.add (k * 4))) (n - k) (c - k) (L.drop k) := by
  have hc := h.cap
  refine ⟨by rw [List.length_drop, h.len], by omega, by have := h.max; omega, fun e => ?_, fun hn => ?_⟩
  · split at e
    · omega
    · cases A with
      | none => have := h.nil rfl; omega
      | some a => cases e
  · obtain ⟨bb, off, rfl, hb, hcell⟩ := h.form (by omega)
    rw [if_neg (by omega)]
    refine ⟨bb, off + k * 4, ?_, hb, fun i x hx => ?_⟩
    · simp only [Option.map_some]
      congr 1
      unfold Addr.add
      split <;> simp_all
    · rw [List.getElem?_drop] at hx
      have := hcell _ x hx
      rw [show off + k * 4 + i * 4 = off + (k + i) * 4 by omega]
      exact this
theorem RdE.slice_lo (h : RdE w B A n c L) (kl : IntKind) {k : Nat} (hk : k ≤ n) :
    ∃ A', (∀ W, (Instr.slice 23 (.slice A n c) (some (.int kl (k : Int))) none none).run Tryz.prog W = .ok (.slice A' (n - k) (c - k)) W) ∧ RdE w B A' (n - k) (c - k) (L.drop k) := by
  refine ⟨_, fun W => ?_, h.back hk⟩
  obtain ⟨i, hi, hz0, hz1, hz2⟩ := info_parts info_en
  have hc := h.cap
  simp [Instr.slice, Instr.sliceBounds, run_underlying Tryz.underlying23, run_sliceBound, hk, sizeOf, typeInfo, hi, hz1]
theorem run_slice_hi_en (kl : IntKind) {k : Nat} (hk : k ≤ c) (W : World) :
    (Instr.slice 23 (.slice A n c) none (some (.int kl (k : Int))) none).run Tryz.prog W = .ok (.slice A k c) W := by
  obtain ⟨i, hi, hz0, hz1, hz2⟩ := info_parts info_en
  simp [Instr.slice, Instr.sliceBounds, run_underlying Tryz.underlying23, run_sliceBound, hk, sizeOf, typeInfo, hi]
  cases A <;> simp [add_zero']

/-- A fresh row of entries. -/
structure FrE (w : World) (b : Nat) (A : Option Addr) (n c : Nat) (L : List Ent) : Prop where
  own : w.ownsRow b 40 4 (.slice A n c) n (evs L)
theorem FrE.len (h : FrE w b A n c L) : L.length = n := by have := h.own.1; rw [evs_len] at this; omega
theorem FrE.rd (h : FrE w b A n c L) (hB : w.heap.size ≤ B) : RdE w B A n c L := by
  obtain ⟨h1, h2⟩ := h.own
  have hl := h.len
  rcases h2 with ⟨e, h0⟩ | ⟨g, cap, cur, e, hg, hh, hnc, hm, hs, ht⟩
  · injection e with e1 e2 e3
    subst e1; subst e2; subst e3
    have : L = [] := List.eq_nil_of_length_eq_zero hl
    subst this
    exact RdE.nilv
  · injection e with e1 e2 e3
    subst e1; subst e3
    have hlt : g < w.heap.size := (Array.getElem?_eq_some_iff.1 hh).1
    have hadd : ∀ j, (⟨g, 0, none⟩ : Addr).add j = ⟨g, 0 + j, none⟩ := fun j => by unfold Addr.add; split <;> simp_all
    refine ⟨hl, hnc, hm, fun e => (by cases e), fun _ => ⟨g, 0, rfl, Nat.lt_of_lt_of_le hlt hB, fun i x hx => ?_⟩⟩
    have hc := fun j (hj : j < 4) u (hu : (ev x)[j]? = some u) => h.own.cells (g := g) rfl (i * 4 + j) u ((evs_get L i x j hx hj).trans hu)
    have c0 := hc 0 (by omega) _ rfl
    have c1 := hc 1 (by omega) _ rfl
    have c2 := hc 2 (by omega) _ rfl
    have c3 := hc 3 (by omega) _ rfl
    rw [hadd] at c0 c1 c2 c3
    exact ⟨c0, c1, c2, c3⟩
theorem FrE.mono {b' : Nat} (h : FrE w b A n c L) (hb : b' ≤ b) : FrE w b' A n c L := by
  obtain ⟨h1, h2⟩ := h.own
  refine ⟨h1, ?_⟩
  rcases h2 with h2 | ⟨g, cap, cur, e, hg, r⟩
  · exact .inl h2
  · exact .inr ⟨g, cap, cur, e, Nat.le_trans hb hg, r⟩
theorem FrE.below (h : FrE w b A n c L) (hb : Below w.heap.size w w') : FrE w' b A n c L := by
  obtain ⟨h1, h2⟩ := h.own
  refine ⟨h1, ?_⟩
  rcases h2 with h2 | ⟨g, cap, cur, e, hg, hh, r⟩
  · exact .inl h2
  · exact .inr ⟨g, cap, cur, e, hg, (hb.block g (Array.getElem?_eq_some_iff.1 hh).1).trans hh, r⟩
theorem FrE.alloc (h : FrE w b A n c L) (o : Obj) : FrE (w.alloc o) b A n c L := ⟨h.own.alloc o⟩
theorem FrE.nil : FrE w b none 0 0 [] := ⟨World.ownsRow_nil _ _ _ _⟩
theorem FrE.new (w : World) {b k : Nat} {cur : Array Value} {L : List Ent} (hc : cur = (evs L).toArray) (hk : L.length = k) (hb : b ≤ w.heap.size) (hm : k ≤ maxLen) : FrE (w.alloc (.cells cur 40)) b (some ⟨w.heap.size, 0, none⟩) k k L := by
  subst hc; subst hk
  refine ⟨⟨evs_len L, .inr ⟨w.heap.size, L.length, (evs L).toArray, rfl, hb, heap_alloc_new w _, Nat.le_refl _, hm, by simp [evs_len], ?_⟩⟩⟩
  rw [← evs_len]; simp
end

/-- What an append of entries gives. -/
structure AppE (w w' : World) (b : Nat) (v : Value) (A' : Option Addr) (n' c' : Nat) (L' : List Ent) : Prop where
  fr : FrE w' b A' n' c' L'
  below : Below b w w'
  grown : w.grownBy w' v.ownBlock

theorem run_append_en_nil (w : World) (b : Nat) (ty : TypeId) {A : Option Addr} {n c : Nat} {L : List Ent} (h : FrE w b A n c L) (c' : Nat) : (Builtin.append_ #[23, 23] ty #[.slice A n c, .slice none 0 c']).run Tryz.prog w = .ok (.slice A n c) w := by
  obtain ⟨i, hi, hz0, hz1, hz2⟩ := info_parts info_en
  rcases h.own.2 with ⟨e, h0⟩ | ⟨g, cap, cur, e, _, _, hnc, _⟩
  · injection e with e1 e2 e3
    subst e1; subst e2; subst e3
    simp [Builtin.append_, run_underlying Tryz.underlying23, sizeOf, typeInfo, hi, Builtin.lenOf, Builtin.firstCells]
  · injection e with e1 e2 e3
    subst e1; subst e3
    simp [Builtin.append_, run_underlying Tryz.underlying23, sizeOf, typeInfo, hi, Builtin.lenOf, Builtin.firstCells, hnc, storeCells]

theorem run_appE (w : World) {b : Nat} (ty : TypeId) {A : Option Addr} {n c : Nat} {L : List Ent} (h : FrE w b A n c L) {B m c2 : Nat} {A2 : Option Addr} {M : List Ent} (hr : RdE w B A2 m c2 M)
    (hby : n + m ≤ 1000000000000) (hb : b ≤ w.heap.size) :
    ∃ A' c' w', (Builtin.append_ #[23, 23] ty #[.slice A n c, .slice A2 m c2]).run Tryz.prog w = .ok (.slice A' (n + m) c') w' ∧ AppE w w' b (.slice A n c) A' (n + m) c' (L ++ M) := by
  obtain ⟨i, hi, hz0, hz1, hz2⟩ := info_parts info_en
  rcases A2 with _ | ad
  · obtain ⟨rfl, rfl⟩ := hr.nil rfl
    have hn : M = [] := List.eq_nil_of_length_eq_zero hr.len
    subst hn
    exact ⟨A, c, w, run_append_en_nil w b ty h _, ⟨by simpa using h, Below.refl _ _, World.grownBy.refl w _⟩⟩
  · have hnews : ∀ j u, (evs M)[j]? = some u → w.cell? (ad.add j) = some u := by
      intro j u hu
      have hj : j < M.length * 4 := by
        rcases Nat.lt_or_ge j (evs M).length with h1 | h1
        · rwa [evs_len] at h1
        · rw [List.getElem?_eq_none h1] at hu; cases hu
      obtain ⟨bb, off, e, _, hc⟩ := hr.form (by have := hr.len; omega)
      cases e
      have hx : M[j / 4]? = some (M[j / 4]'(by omega)) := List.getElem?_eq_getElem _
      have hg := evs_get M (j / 4) _ (j % 4) hx (by omega)
      rw [show j / 4 * 4 + j % 4 = j by omega, hu] at hg
      obtain ⟨c0, c1, c2', c3⟩ := hc (j / 4) _ hx
      have hadd : (⟨bb, off, none⟩ : Addr).add j = ⟨bb, off + j, none⟩ := by unfold Addr.add; split <;> simp_all
      rw [hadd]
      have h4 : j % 4 = 0 ∨ j % 4 = 1 ∨ j % 4 = 2 ∨ j % 4 = 3 := by omega
      rcases h4 with h4 | h4 | h4 | h4 <;> rw [h4] at hg <;> simp only [ev, List.getElem?_cons_zero, List.getElem?_cons_succ, Option.some.injEq] at hg <;> subst hg
      · rw [show off + j = off + j / 4 * 4 by omega]; exact c0
      · rw [show off + j = off + j / 4 * 4 + 1 by omega]; exact c1
      · rw [show off + j = off + j / 4 * 4 + 2 by omega]; exact c2'
      · rw [show off + j = off + j / 4 * 4 + 3 by omega]; exact c3
    obtain ⟨v', w', hrun, h2, h3, _, h5⟩ := run_append_own_at (P := Tryz.prog) w b 23 ty 40 i _ 4 48 Tryz.underlying23 hi hz0 hz1 hz2 (by rfl) (by decide) _ n (evs L) h.own ad m c2 (evs M) (by rw [evs_len, hr.len]) hnews evs_one (by simp only [maxLen]; omega) (by omega) hb
    have hform : ∃ A' c', v' = .slice A' (n + m) c' := by
      rcases h2.2 with ⟨e, h0⟩ | ⟨g, cap, cur, e, _⟩
      · exact ⟨none, 0, by rw [e, h0]⟩
      · exact ⟨_, _, e⟩
    obtain ⟨A', c', rfl⟩ := hform
    refine ⟨A', c', w', hrun, ⟨⟨by rw [evs_app]; exact h2⟩, ?_, h3⟩⟩
    refine (Below.refl b w).grown h3 hb fun k hk => ?_
    exact (h.own.lt k hk).1

theorem wpList_appE {ops : Array Oper} {rest : List Oper} {o : Oper} {a : Act} {Q : Exit → Act → World → Prop} {w : World} (hgd : o.guard = none) (s x : Operand)
    (ho : o.op = .call { callee := .builtin .append, args := #[s, x], argTypes := #[23, 23] })
    {b : Nat} {A : Option Addr} {n c : Nat} {L : List Ent} (hs : a.eval s = .slice A n c) (h : FrE w b A n c L)
    {B m c2 : Nat} {A2 : Option Addr} {M : List Ent} (hx : a.eval x = .slice A2 m c2) (hr : RdE w B A2 m c2 M) (hby : n + m ≤ 1000000000000) (hb : b ≤ w.heap.size)
    (hk : ∀ A' c' w', AppE w w' b (.slice A n c) A' (n + m) c' (L ++ M) → wpList Tryz.prog ops Q rest (a.put o.dst (.slice A' (n + m) c')) w') : wpList Tryz.prog ops Q (o :: rest) a w :=
  wpList_plain hgd fun K hK => by
    obtain ⟨A', c', w', hrun, h2⟩ := run_appE w o.type h hr hby hb
    unfold Oper.wp execOp
    simp only [ho, resolve, invoke, builtin, Sem.run_bind, Sem.run_pure, Result.andThen_ok, List.map_toArray, List.map_cons, List.map_nil, hs, hx, hrun]
    exact hK _ _ (hk A' c' w' h2)
/-- The same at a step of a region that draws its order. -/
theorem step_appE {ops : Array Oper} {o : Oper} {a : Act} {K : Act → World → Prop} {Q : Exit → Act → World → Prop} {E : Prop} {w : World} (hgd : o.guard = none) (s x : Operand)
    (ho : o.op = .call { callee := .builtin .append, args := #[s, x], argTypes := #[23, 23] })
    {b : Nat} {A : Option Addr} {n c : Nat} {L : List Ent} (h : FrE w b A n c L) (hs : a.eval s = .slice A n c)
    {B m c2 : Nat} {A2 : Option Addr} {M : List Ent} (hr : RdE w B A2 m c2 M) (hx : a.eval x = .slice A2 m c2) (hby : n + m ≤ 1000000000000) (hb : b ≤ w.heap.size)
    (hk : ∀ A' c' w', AppE w w' b (.slice A n c) A' (n + m) c' (L ++ M) → K (a.put o.dst (.slice A' (n + m) c')) w') :
    if Region.wanted o (yielded ops a.tmps) = true then Oper.wp Tryz.prog o a w K Q else E := by
  have hw : Region.wanted o (yielded ops a.tmps) = true := by simp [Region.wanted, hgd]
  rw [if_pos hw]
  obtain ⟨A', c', w', hrun, h2⟩ := run_appE w o.type h hr hby hb
  unfold Oper.wp execOp
  simp only [ho, resolve, invoke, builtin, Sem.run_bind, Sem.run_pure, Result.andThen_ok, List.map_toArray, List.map_cons, List.map_nil, hs, hx, hrun]
  exact hk A' c' w' h2
theorem RdE.grown {w w' : World} {B b off n c : Nat} {L : List Ent} (h : RdE w B (some ⟨b, off, none⟩) n c L) {row : Option Nat} (hg : w.grownBy w' row) (hb : b < w.heap.size) (hn : row ≠ some b) : RdE w' B (some ⟨b, off, none⟩) n c L :=
  ⟨h.len, h.cap, h.max, h.nil, fun hn0 => by
    obtain ⟨b', off', e, hB, hc⟩ := h.form hn0
    cases e
    refine ⟨b, off, rfl, hB, fun i x hx => ?_⟩
    have hk (j : Nat) : w'.cell? ⟨b, j, none⟩ = w.cell? ⟨b, j, none⟩ := hg.cell_far ⟨b, j, none⟩ hb (Ne.symm hn)
    obtain ⟨h0, h1, h2, h3⟩ := hc i x hx
    exact ⟨(hk _).trans h0, (hk _).trans h1, (hk _).trans h2, (hk _).trans h3⟩⟩
/-- The row of one entry, and of none, as literals. -/
theorem FrE.one (w : World) {b g : Nat} (x : Ent) (hg : w.heap.size = g) (hb : b ≤ w.heap.size) : FrE (w.alloc (.cells #[.string x.s, .int .u64 (x.q : Int), .int .u8 (x.k : Int), .string x.v] 40)) b (some ⟨g, 0, none⟩) 1 1 [x] := by
  subst hg
  exact FrE.new w (L := [x]) rfl rfl hb (by decide)
theorem FrE.zero (w : World) {b g : Nat} (hg : w.heap.size = g) (hb : b ≤ w.heap.size) : FrE (w.alloc (.cells #[] 40)) b (some ⟨g, 0, none⟩) 0 0 [] := by
  subst hg
  exact FrE.new w (L := []) rfl rfl hb (by decide)

/-! ## Lists that rise, in parts, twice, turned about -/
theorem ris_twice {L : List Ent} {k : Nat} {x : Ent} (hx : L[k]? = some x) : risB (L.take (k + 1) ++ [x] ++ L.drop (k + 1)) = false := by
  cases h : risB (L.take (k + 1) ++ [x] ++ L.drop (k + 1)) with
  | false => rfl
  | true =>
    have hk : k < L.length := by
      rcases Nat.lt_or_ge k L.length with h1 | h1
      · exact h1
      · rw [List.getElem?_eq_none h1] at hx; cases hx
    have hlen : (L.take (k + 1)).length = k + 1 := by rw [List.length_take]; omega
    have := (risB_iff _).1 h k x x (by
      rw [List.append_assoc, List.getElem?_append_left (by omega), List.getElem?_take, if_pos (by omega)]; exact hx) (by
      rw [List.append_assoc, List.getElem?_append_right (by omega), hlen]; simp)
    have h0 : cmpE x x = 0 := by unfold cmpE; simp [cmpV, cmpI, (cmpS_eq x.s x.s).2 rfl]
    omega
theorem ris_split {L : List Ent} {k : Nat} : risB L = (risB (L.take (k + 1)) && risB (L.drop k)) := by
  rw [Bool.eq_iff_iff, Bool.and_eq_true]
  simp only [risB_iff]
  constructor
  · intro h
    refine ⟨fun i a b ha hb => ?_, fun i a b ha hb => ?_⟩
    · rw [List.getElem?_take] at ha hb
      split at ha
      · split at hb
        · exact h i a b ha hb
        · cases hb
      · cases ha
    · rw [List.getElem?_drop] at ha hb
      exact h (k + i) a b ha hb
  · rintro ⟨h1, h2⟩ i a b ha hb
    rcases Nat.lt_or_ge i k with hlt | hge
    · exact h1 i a b (by rw [List.getElem?_take, if_pos (by omega)]; exact ha) (by rw [List.getElem?_take, if_pos (by omega)]; exact hb)
    · exact h2 (i - k) a b (by rw [List.getElem?_drop, show k + (i - k) = i by omega]; exact ha) (by rw [List.getElem?_drop, show k + (i - k + 1) = i + 1 by omega]; exact hb)
theorem ris_back {L : List Ent} (h2 : 2 ≤ L.length) (h : risB L = true) : risB L.reverse = false := by
  cases hr : risB L.reverse with
  | false => rfl
  | true =>
    have e0 : L[0]? = some (L[0]'(by omega)) := List.getElem?_eq_getElem _
    have e1 : L[1]? = some (L[1]'(by omega)) := List.getElem?_eq_getElem _
    have a1 := (risB_iff L).1 h 0 _ _ e0 e1
    have a2 := (risB_iff L.reverse).1 hr (L.length - 2) (L[1]'(by omega)) (L[0]'(by omega)) (by
      rw [List.getElem?_reverse (by omega), show L.length - 1 - (L.length - 2) = 1 by omega]; exact e1) (by
      rw [List.getElem?_reverse (by omega), show L.length - 1 - (L.length - 2 + 1) = 0 by omega]; exact e0)
    have hs := cmpV_swap (L[0]'(by omega)).s (L[0]'(by omega)).q (L[0]'(by omega)).k (L[1]'(by omega)).s (L[1]'(by omega)).q (L[1]'(by omega)).k
    unfold cmpE at a1 a2
    omega
end Go.Proofs.YtkdjjdkcogolmaaGreatDoor
end
