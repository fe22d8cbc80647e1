/-
  Rows of notes (of four cells each): slices of them; fresh ones; what an append of notes gives.
-/
import Derived.Test.YthgbafhfeblhaaaEd1
import Derived.WalkKit
import Derived.ProofKit
import Derived.OpenShut
import Derived.Deep.Slices
import Derived.Deep.Strs
import Derived.Deep.RegionHeld3
namespace Go.Proofs.Ythgbafhfeblhaaa
set_option maxRecDepth 100000
open Go.RowKit Go.Shelf


/-- The slice value '.slice A n c' reads as the notes L, in blocks below B. -/
structure RdM (w : World) (B : Nat) (A : Option Addr) (n c : Nat) (L : List Mt) : Prop where
  len : L.length = n
  cap : n ≤ c
  max : c ≤ maxLen
  nil : A = none → n = 0 ∧ c = 0
  form : 0 < n → ∃ b off, A = some ⟨b, off, none⟩ ∧ b < B ∧ ∀ i x, L[i]? = some x →
    w.cell? ⟨b, off + i * 4, none⟩ = some (.int .u64 (x.n : Int)) ∧ w.cell? ⟨b, off + i * 4 + 1, none⟩ = some (.int .u64 (x.z : Int)) ∧ w.cell? ⟨b, off + i * 4 + 2, none⟩ = some (.string x.s) ∧ w.cell? ⟨b, off + i * 4 + 3, none⟩ = some (.string x.t)
theorem RdM.nilv {w : World} {B : Nat} : RdM w B none 0 0 [] := ⟨rfl, Nat.le_refl _, Nat.zero_le _, fun _ => ⟨rfl, rfl⟩, fun h => absurd h (by decide)⟩
theorem RdM.keep {w w' : World} {B n c : Nat} {A : Option Addr} {L : List Mt} (h : RdM w B A n c L) (hk : ∀ p : Addr, p.block < B → w'.cell? p = w.cell? p) : RdM w' B A n c L :=
  ⟨h.len, h.cap, h.max, h.nil, fun hn => by
    obtain ⟨b, off, e, hb, hc⟩ := h.form hn
    refine ⟨b, off, e, hb, fun i x hx => ?_⟩
    obtain ⟨h0, h1, h2, h3⟩ := hc i x hx
    exact ⟨(hk _ hb).trans h0, (hk _ hb).trans h1, (hk _ hb).trans h2, (hk _ hb).trans h3⟩⟩
theorem RdM.more {w : World} {B B' n c : Nat} {A : Option Addr} {L : List Mt} (h : RdM w B A n c L) (hB : B ≤ B') : RdM w B' A n c L :=
  ⟨h.len, h.cap, h.max, h.nil, fun hn => by obtain ⟨b, off, e, hb, hc⟩ := h.form hn; exact ⟨b, off, e, by omega, hc⟩⟩
theorem RdM.below {w w' : World} {B B' n c : Nat} {A : Option Addr} {L : List Mt} (h : RdM w B A n c L) (hb : Below B' w w') (hB : B ≤ B') : RdM w' B A n c L := h.keep fun _ hp => (hb.mono hB).cell hp

def ml (x : Mt) : List Value := [.int .u64 (x.n : Int), .int .u64 (x.z : Int), .string x.s, .string x.t]
def mvs (L : List Mt) : List Value := L.flatMap ml
theorem mvs_len : ∀ L : List Mt, (mvs L).length = L.length * 4
  | [] => rfl
  | x :: L => by
    have := mvs_len L
    simp only [mvs, List.flatMap_cons, List.length_append, List.length_cons] at *
    rw [this]; simp [ml]; omega
theorem mvs_app (a b : List Mt) : mvs (a ++ b) = mvs a ++ mvs b := by simp [mvs]
theorem mvs_one {L : List Mt} : ∀ u ∈ mvs L, u.oneCell' = true := by
  intro u hu
  obtain ⟨x, _, hx⟩ := List.mem_flatMap.1 hu
  simp only [ml, List.mem_cons, List.not_mem_nil, or_false] at hx
  rcases hx with rfl | rfl | rfl | rfl <;> rfl
theorem mvs_get : ∀ (L : List Mt) (i : Nat) (x : Mt) (j : Nat), L[i]? = some x → j < 4 → (mvs L)[i * 4 + j]? = (ml x)[j]?
  | [], i, x, j, h, _ => by simp at h
  | y :: L, 0, x, j, h, hj => by
    simp at h; subst h
    simp only [mvs, List.flatMap_cons]
    rw [List.getElem?_append_left (by simp [ml]; omega)]
    simp
  | y :: L, i + 1, x, j, h, hj => by
    have ih := mvs_get L i x j (by simpa using h) hj
    simp only [mvs, List.flatMap_cons] at *
    rw [List.getElem?_append_right (by simp [ml]; omega), ← ih]
    congr 1
    simp [ml]; omega

theorem info_mt : (Try.prog.info? 47).map (fun i => (i.zero, i.size, i.bytes)) = some (some (.agg #[.int .u64 0, .int .u64 0, .string ⟨#[]⟩, .string ⟨#[]⟩]), 4, 48) := by kernel_rfl

section
variable {w w' : World} {b B n c : Nat} {A : Option Addr} {L : List Mt}
theorem RdM.front (h : RdM w B A n c L) {k : Nat} (hk : k ≤ n) : RdM w B A k c (L.take k) :=
  ⟨by rw [List.length_take, h.len]; omega, Nat.le_trans hk h.cap, h.max, fun e => by have := h.nil e; omega, fun hk0 => by
    obtain ⟨bb, off, e, hb, hc⟩ := h.form (by omega)
    exact ⟨bb, off, e, hb, fun i x hx => hc i x (by rw [List.getElem?_take] at hx; split at hx <;> simp_all)⟩⟩
theorem RdM.back (h : RdM w B A n c L) {k : Nat} (hk : k ≤ n) : RdM w B (if c = k then A else A.map (·.add (k * 4))) (n - k) (c - k) (L.drop k) := by
  have hc := h.cap
  refine ⟨by rw [List.length_drop, h.len], by omega, by have := h.max; omega, fun e => ?_, fun hn => ?_⟩
  · split at e
    · omega
    · cases A with
      | none => have := h.nil rfl; omega
      | some a => cases e
  · obtain ⟨bb, off, rfl, hb, hcell⟩ := h.form (by omega)
    rw [if_neg (by omega)]
    refine ⟨bb, off + k * 4, ?_, hb, fun i x hx => ?_⟩
    · simp only [Option.map_some]
      congr 1
      unfold Addr.add
      split <;> simp_all
    · rw [List.getElem?_drop] at hx
      have := hcell _ x hx
      rw [show off + k * 4 + i * 4 = off + (k + i) * 4 by omega]
      exact this
theorem RdM.slice_lo (h : RdM w B A n c L) (kl : IntKind) {k : Nat} (hk : k ≤ n) :
    ∃ A', (∀ W, (Instr.slice 22 (.slice A n c) (some (.int kl (k : Int))) none none).run Try.prog W = .ok (.slice A' (n - k) (c - k)) W) ∧ RdM w B A' (n - k) (c - k) (L.drop k) := by
  refine ⟨_, fun W => ?_, h.back hk⟩
  obtain ⟨i, hi, hz0, hz1, hz2⟩ := info_parts info_mt
  have hc := h.cap
  simp [Instr.slice, Instr.sliceBounds, run_underlying Try.underlying22, run_sliceBound, hk, sizeOf, typeInfo, hi, hz1]
theorem run_slice_hi_mt (kl : IntKind) {k : Nat} (hk : k ≤ c) (W : World) :
    (Instr.slice 22 (.slice A n c) none (some (.int kl (k : Int))) none).run Try.prog W = .ok (.slice A k c) W := by
  obtain ⟨i, hi, hz0, hz1, hz2⟩ := info_parts info_mt
  simp [Instr.slice, Instr.sliceBounds, run_underlying Try.underlying22, run_sliceBound, hk, sizeOf, typeInfo, hi]
  cases A <;> simp [add_zero']

/-- A fresh row of notes. -/
structure FrM (w : World) (b : Nat) (A : Option Addr) (n c : Nat) (L : List Mt) : Prop where
  own : w.ownsRow b 47 4 (.slice A n c) n (mvs L)
theorem FrM.len (h : FrM w b A n c L) : L.length = n := by have := h.own.1; rw [mvs_len] at this; omega
theorem FrM.rd (h : FrM w b A n c L) (hB : w.heap.size ≤ B) : RdM w B A n c L := by
  obtain ⟨h1, h2⟩ := h.own
  have hl := h.len
  rcases h2 with ⟨e, h0⟩ | ⟨g, cap, cur, e, hg, hh, hnc, hm, hs, ht⟩
  · injection e with e1 e2 e3
    subst e1; subst e2; subst e3
    have : L = [] := List.eq_nil_of_length_eq_zero hl
    subst this
    exact RdM.nilv
  · injection e with e1 e2 e3
    subst e1; subst e3
    have hlt : g < w.heap.size := (Array.getElem?_eq_some_iff.1 hh).1
    have hadd : ∀ j, (⟨g, 0, none⟩ : Addr).add j = ⟨g, 0 + j, none⟩ := fun j => by unfold Addr.add; split <;> simp_all
    refine ⟨hl, hnc, hm, fun e => (by cases e), fun _ => ⟨g, 0, rfl, Nat.lt_of_lt_of_le hlt hB, fun i x hx => ?_⟩⟩
    have hc := fun j (hj : j < 4) u (hu : (ml x)[j]? = some u) => h.own.cells (g := g) rfl (i * 4 + j) u ((mvs_get L i x j hx hj).trans hu)
    have c0 := hc 0 (by omega) _ rfl
    have c1 := hc 1 (by omega) _ rfl
    have c2 := hc 2 (by omega) _ rfl
    have c3 := hc 3 (by omega) _ rfl
    rw [hadd] at c0 c1 c2 c3
    exact ⟨c0, c1, c2, c3⟩
theorem FrM.mono {b' : Nat} (h : FrM w b A n c L) (hb : b' ≤ b) : FrM w b' A n c L := by
  obtain ⟨h1, h2⟩ := h.own
  refine ⟨h1, ?_⟩
  rcases h2 with h2 | ⟨g, cap, cur, e, hg, r⟩
  · exact .inl h2
  · exact .inr ⟨g, cap, cur, e, Nat.le_trans hb hg, r⟩
theorem FrM.below (h : FrM w b A n c L) (hb : Below w.heap.size w w') : FrM w' b A n c L := by
  obtain ⟨h1, h2⟩ := h.own
  refine ⟨h1, ?_⟩
  rcases h2 with h2 | ⟨g, cap, cur, e, hg, hh, r⟩
  · exact .inl h2
  · exact .inr ⟨g, cap, cur, e, hg, (hb.block g (Array.getElem?_eq_some_iff.1 hh).1).trans hh, r⟩
theorem FrM.alloc (h : FrM w b A n c L) (o : Obj) : FrM (w.alloc o) b A n c L := ⟨h.own.alloc o⟩
theorem FrM.nil : FrM w b none 0 0 [] := ⟨World.ownsRow_nil _ _ _ _⟩
theorem FrM.new (w : World) {b k : Nat} {cur : Array Value} {L : List Mt} (hc : cur = (mvs L).toArray) (hk : L.length = k) (hb : b ≤ w.heap.size) (hm : k ≤ maxLen) : FrM (w.alloc (.cells cur 47)) b (some ⟨w.heap.size, 0, none⟩) k k L := by
  subst hc; subst hk
  refine ⟨⟨mvs_len L, .inr ⟨w.heap.size, L.length, (mvs L).toArray, rfl, hb, heap_alloc_new w _, Nat.le_refl _, hm, by simp [mvs_len], ?_⟩⟩⟩
  rw [← mvs_len]; simp
end

/-- What an append of notes gives. -/
structure AppM (w w' : World) (b : Nat) (v : Value) (A' : Option Addr) (n' c' : Nat) (L' : List Mt) : Prop where
  fr : FrM w' b A' n' c' L'
  below : Below b w w'
  grown : w.grownBy w' v.ownBlock

theorem run_append_mt_nil (w : World) (b : Nat) (ty : TypeId) {A : Option Addr} {n c : Nat} {L : List Mt} (h : FrM w b A n c L) (c' : Nat) : (Builtin.append_ #[22, 22] ty #[.slice A n c, .slice none 0 c']).run Try.prog w = .ok (.slice A n c) w := by
  obtain ⟨i, hi, hz0, hz1, hz2⟩ := info_parts info_mt
  rcases h.own.2 with ⟨e, h0⟩ | ⟨g, cap, cur, e, _, _, hnc, _⟩
  · injection e with e1 e2 e3
    subst e1; subst e2; subst e3
    simp [Builtin.append_, run_underlying Try.underlying22, sizeOf, typeInfo, hi, Builtin.lenOf, Builtin.firstCells]
  · injection e with e1 e2 e3
    subst e1; subst e3
    simp [Builtin.append_, run_underlying Try.underlying22, sizeOf, typeInfo, hi, Builtin.lenOf, Builtin.firstCells, hnc, storeCells]

theorem run_appM (w : World) {b : Nat} (ty : TypeId) {A : Option Addr} {n c : Nat} {L : List Mt} (h : FrM w b A n c L) {B m c2 : Nat} {A2 : Option Addr} {M : List Mt} (hr : RdM w B A2 m c2 M)
    (hby : n + m ≤ 2932031007402) (hb : b ≤ w.heap.size) :
    ∃ A' c' w', (Builtin.append_ #[22, 22] ty #[.slice A n c, .slice A2 m c2]).run Try.prog w = .ok (.slice A' (n + m) c') w' ∧ AppM w w' b (.slice A n c) A' (n + m) c' (L ++ M) := by
  obtain ⟨i, hi, hz0, hz1, hz2⟩ := info_parts info_mt
  rcases A2 with _ | ad
  · obtain ⟨rfl, rfl⟩ := hr.nil rfl
    have hn : M = [] := List.eq_nil_of_length_eq_zero hr.len
    subst hn
    exact ⟨A, c, w, run_append_mt_nil w b ty h _, ⟨by simpa using h, Below.refl _ _, World.grownBy.refl w _⟩⟩
  · have hnews : ∀ j u, (mvs M)[j]? = some u → w.cell? (ad.add j) = some u := by
      intro j u hu
      have hj : j < M.length * 4 := by
        rcases Nat.lt_or_ge j (mvs M).length with h1 | h1
        · rwa [mvs_len] at h1
        · rw [List.getElem?_eq_none h1] at hu; cases hu
      obtain ⟨bb, off, e, _, hc⟩ := hr.form (by have := hr.len; omega)
      cases e
      have hx : M[j / 4]? = some (M[j / 4]'(by omega)) := List.getElem?_eq_getElem _
      have hg := mvs_get M (j / 4) _ (j % 4) hx (by omega)
      rw [show j / 4 * 4 + j % 4 = j by omega, hu] at hg
      obtain ⟨c0, c1, c2', c3⟩ := hc (j / 4) _ hx
      have hadd : (⟨bb, off, none⟩ : Addr).add j = ⟨bb, off + j, none⟩ := by unfold Addr.add; split <;> simp_all
      rw [hadd]
      have h4 : j % 4 = 0 ∨ j % 4 = 1 ∨ j % 4 = 2 ∨ j % 4 = 3 := by omega
      rcases h4 with h4 | h4 | h4 | h4 <;> rw [h4] at hg <;> simp only [ml, List.getElem?_cons_zero, List.getElem?_cons_succ, Option.some.injEq] at hg <;> subst hg
      · rw [show off + j = off + j / 4 * 4 by omega]; exact c0
      · rw [show off + j = off + j / 4 * 4 + 1 by omega]; exact c1
      · rw [show off + j = off + j / 4 * 4 + 2 by omega]; exact c2'
      · rw [show off + j = off + j / 4 * 4 + 3 by omega]; exact c3
    obtain ⟨v', w', hrun, h2, h3, _, h5⟩ := run_append_own_at (P := Try.prog) w b 22 ty 47 i _ 4 48 Try.underlying22 hi hz0 hz1 hz2 (by rfl) (by decide) _ n (mvs L) h.own ad m c2 (mvs M) (by rw [mvs_len, hr.len]) hnews mvs_one (by simp only [maxLen]; omega) (by omega) hb
    have hform : ∃ A' c', v' = .slice A' (n + m) c' := by
      rcases h2.2 with ⟨e, h0⟩ | ⟨g, cap, cur, e, _⟩
      · exact ⟨none, 0, by rw [e, h0]⟩
      · exact ⟨_, _, e⟩
    obtain ⟨A', c', rfl⟩ := hform
    refine ⟨A', c', w', hrun, ⟨⟨by rw [mvs_app]; exact h2⟩, ?_, h3⟩⟩
    refine (Below.refl b w).grown h3 hb fun k hk => ?_
    exact (h.own.lt k hk).1

theorem wpList_appM {ops : Array Oper} {rest : List Oper} {o : Oper} {a : Act} {Q : Exit → Act → World → Prop} {w : World} (hgd : o.guard = none) (s x : Operand)
    (ho : o.op = .call { callee := .builtin .append, args := #[s, x], argTypes := #[22, 22] })
    {b : Nat} {A : Option Addr} {n c : Nat} {L : List Mt} (hs : a.eval s = .slice A n c) (h : FrM w b A n c L)
    {B m c2 : Nat} {A2 : Option Addr} {M : List Mt} (hx : a.eval x = .slice A2 m c2) (hr : RdM w B A2 m c2 M) (hby : n + m ≤ 2932031007402) (hb : b ≤ w.heap.size)
    (hk : ∀ A' c' w', AppM w w' b (.slice A n c) A' (n + m) c' (L ++ M) → wpList Try.prog ops Q rest (a.put o.dst (.slice A' (n + m) c')) w') : wpList Try.prog ops Q (o :: rest) a w :=
  wpList_plain hgd fun K hK => by
    obtain ⟨A', c', w', hrun, h2⟩ := run_appM w o.type h hr hby hb
    unfold Oper.wp execOp
    simp only [ho, resolve, invoke, builtin, Sem.run_bind, Sem.run_pure, Result.andThen_ok, List.map_toArray, List.map_cons, List.map_nil, hs, hx, hrun]
    exact hK _ _ (hk A' c' w' h2)
/-- The same at a step of a region that draws its order. -/
theorem step_appM {ops : Array Oper} {o : Oper} {a : Act} {K : Act → World → Prop} {Q : Exit → Act → World → Prop} {E : Prop} {w : World} (hgd : o.guard = none) (s x : Operand)
    (ho : o.op = .call { callee := .builtin .append, args := #[s, x], argTypes := #[22, 22] })
    {b : Nat} {A : Option Addr} {n c : Nat} {L : List Mt} (h : FrM w b A n c L) (hs : a.eval s = .slice A n c)
    {B m c2 : Nat} {A2 : Option Addr} {M : List Mt} (hr : RdM w B A2 m c2 M) (hx : a.eval x = .slice A2 m c2) (hby : n + m ≤ 2932031007402) (hb : b ≤ w.heap.size)
    (hk : ∀ A' c' w', AppM w w' b (.slice A n c) A' (n + m) c' (L ++ M) → K (a.put o.dst (.slice A' (n + m) c')) w') :
    if Region.wanted o (yielded ops a.tmps) = true then Oper.wp Try.prog o a w K Q else E := by
  have hw : Region.wanted o (yielded ops a.tmps) = true := by simp [Region.wanted, hgd]
  rw [if_pos hw]
  obtain ⟨A', c', w', hrun, h2⟩ := run_appM w o.type h hr hby hb
  unfold Oper.wp execOp
  simp only [ho, resolve, invoke, builtin, Sem.run_bind, Sem.run_pure, Result.andThen_ok, List.map_toArray, List.map_cons, List.map_nil, hs, hx, hrun]
  exact hk A' c' w' h2
theorem RdM.grown {w w' : World} {B b off n c : Nat} {L : List Mt} (h : RdM w B (some ⟨b, off, none⟩) n c L) {row : Option Nat} (hg : w.grownBy w' row) (hb : b < w.heap.size) (hn : row ≠ some b) : RdM w' B (some ⟨b, off, none⟩) n c L :=
  ⟨h.len, h.cap, h.max, h.nil, fun hn0 => by
    obtain ⟨b', off', e, hB, hc⟩ := h.form hn0
    cases e
    refine ⟨b, off, rfl, hB, fun i x hx => ?_⟩
    have hk (j : Nat) : w'.cell? ⟨b, j, none⟩ = w.cell? ⟨b, j, none⟩ := hg.cell_far ⟨b, j, none⟩ hb (Ne.symm hn)
    obtain ⟨h0, h1, h2, h3⟩ := hc i x hx
    exact ⟨(hk _).trans h0, (hk _).trans h1, (hk _).trans h2, (hk _).trans h3⟩⟩
/-- The row of one note, and of none, as literals. -/
theorem FrM.one (w : World) {b g : Nat} (x : Mt) (hg : w.heap.size = g) (hb : b ≤ w.heap.size) : FrM (w.alloc (.cells #[.int .u64 (x.n : Int), .int .u64 (x.z : Int), .string x.s, .string x.t] 47)) b (some ⟨g, 0, none⟩) 1 1 [x] := by
  subst hg
  exact FrM.new w (L := [x]) rfl rfl hb (by decide)
theorem FrM.zero (w : World) {b g : Nat} (hg : w.heap.size = g) (hb : b ≤ w.heap.size) : FrM (w.alloc (.cells #[] 47)) b (some ⟨g, 0, none⟩) 0 0 [] := by
  subst hg
  exact FrM.new w (L := []) rfl rfl hb (by decide)

end Go.Proofs.Ythgbafhfeblhaaa
