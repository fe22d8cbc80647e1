/-
  Words for memory, of this prover's own: a slice of bytes that reads as a list; a fresh one; what a conversion of bytes to a string gives; what an append gives. No program is named here.
-/
import Derived.Below
import Derived.Laws.OwnMore
import Derived.Deep.AppendLies
import Derived.Deep.Draws
import Derived.Lib.Hide
import Derived.Maps.AppendAt
import Derived.RegionTactic
import Derived.OwnWalk
import Derived.Laws.BytesString
import Derived.Laws.BytesArg
import Derived.Laws.Cells
import Derived.RangeFuncBox
import Derived.Laws.Slices
import Derived.Lib.AppendStr
import Derived.OwnWalkIn
namespace Go.Proofs.Ythgbafhfeblhaaa
set_option maxRecDepth 100000
open Go.RowKit

theorem block_of_add (a : Addr) (n : Nat) : (a.add n).block = a.block := by unfold Addr.add; split <;> rfl
theorem add_of_add (a : Addr) (i j : Nat) : (a.add i).add j = a.add (i + j) := by
  unfold Addr.add
  by_cases hi : i = 0 <;> by_cases hj : j = 0 <;> simp [hi, hj, Nat.add_assoc]

theorem below_drewN {B : Nat} {a w : World} (h : Below B a w) (n : Nat) : Below B a (w.drewN n) := ⟨h.os, h.tape, h.output, h.size, h.block⟩

/-- A byte as a value. -/
def b8 (b : UInt8) : Value := .int .u8 (b.toNat : Int)
def bv (l : List UInt8) : List Value := l.map b8
@[simp] theorem bv_length (l : List UInt8) : (bv l).length = l.length := by simp [bv]
theorem bv_append (a b : List UInt8) : bv (a ++ b) = bv a ++ bv b := by simp [bv]
theorem bv_one (l : List UInt8) : ∀ u ∈ bv l, u.oneCell' = true := by
  intro u hu
  obtain ⟨b, _, rfl⟩ := List.mem_map.1 hu
  rfl

/-- The slice value '.slice A n c' reads as the cells xs (one cell each), in blocks below B. -/
structure Rd (w : World) (B : Nat) (A : Option Addr) (n c : Nat) (xs : List Value) : Prop where
  len : xs.length = n
  cap : n ≤ c
  max : c ≤ maxLen
  nil : A = none → n = 0 ∧ c = 0
  blk : 0 < n → ∀ ad, A = some ad → ad.block < B
  at_ : ∀ ad, A = some ad → ∀ j u, xs[j]? = some u → w.cell? (ad.add j) = some u

section
variable {w w' : World} {B B' n c : Nat} {A : Option Addr} {xs : List Value}
theorem Rd.pos_of (h : Rd w B A n c xs) {j : Nat} {u : Value} (hu : xs[j]? = some u) : 0 < n := by
  have := h.len
  rcases Nat.lt_or_ge j xs.length with h1 | h1
  · omega
  · rw [List.getElem?_eq_none h1] at hu; cases hu
theorem Rd.keep (h : Rd w B A n c xs) (hk : ∀ p : Addr, p.block < B → w'.cell? p = w.cell? p) : Rd w' B A n c xs :=
  ⟨h.len, h.cap, h.max, h.nil, h.blk, fun ad e j u hu => (hk _ (by rw [block_of_add]; exact h.blk (h.pos_of hu) ad e)).trans (h.at_ ad e j u hu)⟩
theorem Rd.more (h : Rd w B A n c xs) (hB : B ≤ B') : Rd w B' A n c xs :=
  ⟨h.len, h.cap, h.max, h.nil, fun hn ad e => Nat.lt_of_lt_of_le (h.blk hn ad e) hB, h.at_⟩
theorem Rd.below (h : Rd w B A n c xs) (hb : Below B w w') : Rd w' B A n c xs := h.keep fun _ hp => hb.cell hp
theorem Rd.under (h : Rd w B A n c xs) (hb : Below B' w w') (hB : B ≤ B') : Rd w' B A n c xs := h.below (hb.mono hB)
theorem Rd.drew (h : Rd w B A n c xs) : Rd w.drew B A n c xs := h.keep fun _ _ => rfl
theorem Rd.drewN (h : Rd w B A n c xs) (k : Nat) : Rd (w.drewN k) B A n c xs := h.keep fun _ _ => rfl
theorem Rd.alloc (h : Rd w B A n c xs) (hB : B ≤ w.heap.size) (o : Obj) : Rd (w.alloc o) B A n c xs := h.keep fun p hp => World.cell?_alloc_lt w o p (by omega)
theorem Rd.setCell (h : Rd w B A n c xs) {p : Addr} (hB : B ≤ p.block) (u : Value) : Rd (w.setCell p u) B A n c xs :=
  h.keep fun q hq => World.cell?_setCell_other w p q u (fun e => by subst e; omega)
theorem Rd.nilv : Rd w B none 0 0 [] := ⟨rfl, Nat.le_refl _, Nat.zero_le _, fun _ => ⟨rfl, rfl⟩, fun _ _ h => (by cases h), fun _ h => (by cases h)⟩
/-- A front of a slice ('b[:k]'). -/
theorem Rd.front (h : Rd w B A n c xs) {k : Nat} (hk : k ≤ n) : Rd w B A k c (xs.take k) :=
  ⟨by rw [List.length_take, h.len]; omega, Nat.le_trans hk h.cap, h.max, fun e => by have := h.nil e; omega, fun hk0 => h.blk (by omega),
   fun ad e j u hu => h.at_ ad e j u (by rw [List.getElem?_take] at hu; split at hu <;> simp_all)⟩
/-- What is behind ('b[k:]'). -/
theorem Rd.back (h : Rd w B A n c xs) {k : Nat} (hk : k ≤ n) : Rd w B (if c = k then A else A.map (·.add k)) (n - k) (c - k) (xs.drop k) := by
  have hc := h.cap
  refine ⟨by rw [List.length_drop, h.len], by omega, by have := h.max; omega, fun e => ?_, fun hn ad e => ?_, fun ad e j u hu => ?_⟩
  · split at e
    · omega
    · cases A with
      | none => have := h.nil rfl; omega
      | some a => cases e
  · split at e
    · exact h.blk (by omega) ad e
    · cases A with
      | none => cases e
      | some a => cases e; rw [block_of_add]; exact h.blk (by omega) a rfl
  · rw [List.getElem?_drop] at hu
    split at e
    · have : k + j < xs.length := by
        rcases Nat.lt_or_ge (k + j) xs.length with h1 | h1
        · exact h1
        · rw [List.getElem?_eq_none h1] at hu; cases hu
      have := h.len
      omega
    · cases A with
      | none => cases e
      | some a => cases e; rw [add_of_add]; exact h.at_ a rfl _ u hu
end

/-- A slice that has an element lies at a plain address. -/
theorem Rd.form {w : World} {B n c : Nat} {A : Option Addr} {xs : List Value} (h : Rd w B A n c xs) (hn : 0 < n) :
    ∃ b off, A = some ⟨b, off, none⟩ ∧ b < B ∧ ∀ j u, xs[j]? = some u → w.cell? ⟨b, off + j, none⟩ = some u := by
  cases A with
  | none => have := h.nil rfl; omega
  | some ad =>
    have hl := h.len
    have h0 := h.at_ ad rfl 0 (xs[0]'(by omega)) (List.getElem?_eq_getElem _)
    rw [show ad.add 0 = ad by simp [Addr.add]] at h0
    obtain ⟨b, off, spot⟩ := ad
    have hs : spot = none := by
      cases spot with
      | none => rfl
      | some s => simp [World.cell?] at h0; split at h0 <;> simp at h0
    subst hs
    refine ⟨b, off, rfl, h.blk hn _ rfl, fun j u hu => ?_⟩
    have := h.at_ _ rfl j u hu
    rwa [show (⟨b, off, none⟩ : Addr).add j = ⟨b, off + j, none⟩ by unfold Addr.add; split <;> simp_all] at this

/-- What the row's step tells of a slice of bytes that came in. -/
theorem rd_of_row {w : World} {a : Option Addr} {len cap : Nat} {zs : List Int}
    (h : (a = none ∧ len = 0 ∧ cap = 0 ∧ zs = []) ∨ ∃ x, a = some x ∧ len ≤ cap ∧ cap ≤ maxLen ∧ zs.length = cap ∧ (∀ i, i < zs.length → w.cell? (x.add i) = some (.int .u8 (zs.getD i 0))) ∧ ∀ n ∈ zs, (Lit.int .u8 n).wf = true) :
    ∃ l : List UInt8, l.length = len ∧ Rd w w.heap.size a len cap (bv l) := by
  rcases h with ⟨rfl, rfl, rfl, rfl⟩ | ⟨x, rfl, hl, hm, hz, hc, hw⟩
  · exact ⟨[], rfl, Rd.nilv⟩
  · refine ⟨(zs.take len).map (fun z => UInt8.ofNat z.toNat), by simp; omega, by simp; omega, hl, hm, (fun e => by cases e), ?_, ?_⟩
    · intro hn ad e
      cases e
      have := World.block_lt_of_cell? w _ (hc 0 (by omega))
      rwa [block_of_add] at this
    · intro ad e j u hu
      cases e
      have hj : j < len := by
        rcases Nat.lt_or_ge j len with h | h
        · exact h
        · rw [List.getElem?_eq_none (by simp; omega)] at hu; cases hu
      have h1 := hc j (by omega)
      have hb : 0 ≤ zs[j]'(by omega) ∧ zs[j]'(by omega) ≤ 255 := by
        have := hw (zs[j]'(by omega)) (List.getElem_mem _)
        simpa [Lit.wf, IntKind.min, IntKind.max, IntKind.bits, IntKind.signed] using this
      rw [h1]
      simp only [bv, List.map_map, List.getElem?_map, List.getElem?_take_of_lt hj, List.getElem?_eq_getElem (show j < zs.length by omega), Option.map_some, Function.comp, b8] at hu
      rw [← Option.some.inj hu]
      simp only [List.getD_eq_getElem?_getD, List.getElem?_eq_getElem (show j < zs.length by omega), Option.getD_some]
      rw [UInt8.toNat_ofNat']
      congr 2
      omega

/-- A fresh slice of elements of type e (one cell each): it owns its row, which lies at or beyond block b. -/
structure Fr (w : World) (b : Nat) (e : TypeId) (A : Option Addr) (n c : Nat) (xs : List Value) : Prop where
  own : w.ownsRow b e 1 (.slice A n c) n xs

section
variable {w w' : World} {b B n c : Nat} {e : TypeId} {A : Option Addr} {xs : List Value}
theorem Fr.rd (h : Fr w b e A n c xs) (hB : w.heap.size ≤ B) : Rd w B A n c xs := by
  obtain ⟨h1, h2⟩ := h.own
  rcases h2 with ⟨e, h0⟩ | ⟨g, cap, cur, e, hg, hh, hnc, hm, hs, ht⟩
  · injection e with e1 e2 e3
    subst e1; subst e2; subst e3
    have : xs = [] := List.eq_nil_of_length_eq_zero (by simpa using h1)
    subst this
    exact Rd.nilv
  · injection e with e1 e2 e3
    subst e1; subst e3
    have hlt : g < w.heap.size := (Array.getElem?_eq_some_iff.1 hh).1
    exact ⟨by simpa using h1, hnc, hm, fun e => (by cases e), fun _ ad e => (by cases e; exact Nat.lt_of_lt_of_le hlt hB),
      fun ad e j u hu => (by cases e; exact h.own.cells (g := g) rfl j u hu)⟩
theorem Fr.frozen (h : Fr w b e A n c xs) : ∀ ad, A = some ad → b ≤ ad.block ∧ ad.block < w.heap.size ∧ ad.off = 0 ∧ ad.spot = none ∧ ∀ j, w.frozen? (ad.add j) = false := by
  intro ad e
  subst e
  rcases h.own.2 with ⟨e, h0⟩ | ⟨g, cap, cur, e, hg, hh, hnc, hm, hs, ht⟩
  · cases e
  · injection e with e1 e2 e3
    cases e1
    refine ⟨hg, (Array.getElem?_eq_some_iff.1 hh).1, rfl, rfl, fun j => ?_⟩
    have hb : ((⟨g, 0, none⟩ : Addr).add j).block = g := block_of_add _ _
    simp [World.frozen?, hb, hh]
theorem Fr.len (h : Fr w b e A n c xs) : xs.length = n := by have := h.own.1; simpa using this
theorem Fr.mono {b' : Nat} (h : Fr w b e A n c xs) (hb : b' ≤ b) : Fr w b' e A n c xs := by
  obtain ⟨h1, h2⟩ := h.own
  refine ⟨h1, ?_⟩
  rcases h2 with h2 | ⟨g, cap, cur, e, hg, r⟩
  · exact .inl h2
  · exact .inr ⟨g, cap, cur, e, Nat.le_trans hb hg, r⟩
theorem Fr.below (h : Fr w b e A n c xs) (hb : Below w.heap.size w w') : Fr w' b e A n c xs := by
  obtain ⟨h1, h2⟩ := h.own
  refine ⟨h1, ?_⟩
  rcases h2 with h2 | ⟨g, cap, cur, e, hg, hh, r⟩
  · exact .inl h2
  · exact .inr ⟨g, cap, cur, e, hg, (hb.block g (Array.getElem?_eq_some_iff.1 hh).1).trans hh, r⟩
theorem Fr.alloc (h : Fr w b e A n c xs) (o : Obj) : Fr (w.alloc o) b e A n c xs := ⟨h.own.alloc o⟩
theorem Fr.nil : Fr w b e none 0 0 [] := ⟨World.ownsRow_nil _ _ _ _⟩
theorem Fr.new (w : World) {b : Nat} (e : TypeId) (cur : Array Value) {k : Nat} (hk : cur.size = k) (hb : b ≤ w.heap.size) (hm : k ≤ maxLen) : Fr (w.alloc (.cells cur e)) b e (some ⟨w.heap.size, 0, none⟩) k k cur.toList := by
  subst hk
  exact ⟨⟨by simp, .inr ⟨w.heap.size, cur.size, cur, rfl, hb, heap_alloc_new w _, Nat.le_refl _, hm, by simp, by rw [Nat.mul_one, ← Array.length_toList, List.take_length]⟩⟩⟩
end

/-- The new row of a literal, read. -/
theorem Rd.lit (w : World) (e : TypeId) (vs : List Value) {k B : Nat} (hk : vs.length = k) (hm : k ≤ maxLen) (hB : w.heap.size < B) : Rd (w.alloc (.cells vs.toArray e)) B (some ⟨w.heap.size, 0, none⟩) k k vs := by
  have := (Fr.new w e vs.toArray (k := k) (by simpa using hk) (Nat.le_refl _) hm).rd (B := B) (by simp; omega)
  simpa using this

/-- What an append gives, in one word: the slice value, the world. -/
structure App (w w' : World) (b : Nat) (e : TypeId) (v : Value) (A' : Option Addr) (n' c' : Nat) (xs' : List Value) : Prop where
  fr : Fr w' b e A' n' c' xs'
  below : Below b w w'
  grown : w.grownBy w' v.ownBlock
  at_ : (Value.slice A' n' c').ownBlock = v.ownBlock ∨ (Value.slice A' n' c').ownBlock = some w.heap.size

section
variable {P : Program}
theorem run_append_of_nil (w : World) (b : Nat) (t ty e : TypeId) (i : TypeInfo) (ht : P.underlying t = some (.slice e)) (hi : P.info? e = some i)
    {A : Option Addr} {n c : Nat} {xs : List Value} (h : Fr w b e A n c xs) (c' : Nat) : (Builtin.append_ #[t, t] ty #[.slice A n c, .slice none 0 c']).run P w = .ok (.slice A n c) w := by
  rcases h.own.2 with ⟨e, rfl⟩ | ⟨g, cap, cur, e, _, _, hnc, _⟩
  · injection e with e1 e2 e3
    subst e1; subst e3
    simp [Builtin.append_, run_underlying ht, sizeOf, typeInfo, hi, Builtin.lenOf, Builtin.firstCells]
  · injection e with e1 e2 e3
    subst e1; subst e3
    simp [Builtin.append_, run_underlying ht, sizeOf, typeInfo, hi, Builtin.lenOf, Builtin.firstCells, hnc, storeCells]

theorem run_app (w : World) {b : Nat} (t ty e : TypeId) {z : Value} {by_ : Nat} (ht : P.underlying t = some (.slice e)) (hinf : (P.info? e).map (fun i => (i.zero, i.size, i.bytes)) = some (some z, 1, by_)) (hz : z.cells.size = 1)
    {A : Option Addr} {n c : Nat} {xs : List Value} (h : Fr w b e A n c xs) {B m c2 : Nat} {A2 : Option Addr} {news : List Value} (hr : Rd w B A2 m c2 news) (h1 : ∀ u ∈ news, u.oneCell' = true)
    (hby : (n + m) * by_ ≤ 140737488355328) (h63 : n + m ≤ 140737488355328) (hb : b ≤ w.heap.size) :
    ∃ A' c' w', (Builtin.append_ #[t, t] ty #[.slice A n c, .slice A2 m c2]).run P w = .ok (.slice A' (n + m) c') w' ∧ App w w' b e (.slice A n c) A' (n + m) c' (xs ++ news) := by
  obtain ⟨i, hi, hz0, hz1, hz2⟩ := info_parts hinf
  rcases A2 with _ | ad
  · obtain ⟨rfl, rfl⟩ := hr.nil rfl
    have hn : news = [] := List.eq_nil_of_length_eq_zero (by simpa using hr.len)
    subst hn
    refine ⟨A, c, w, run_append_of_nil w b t ty e i ht hi h _, ⟨by simpa using h, Below.refl _ _, World.grownBy.refl w _, .inl rfl⟩⟩
  · obtain ⟨v', w', hrun, h2, h3, _, h5⟩ := run_append_own_at (P := P) w b t ty e i z 1 by_ ht hi hz0 hz1 hz2 hz (by decide) _ n xs h.own ad m c2 news (by have := hr.len; omega) (hr.at_ ad rfl) h1 (by simp only [maxLen]; omega) hby hb
    have hform : ∃ A' c', v' = .slice A' (n + m) c' := by
      rcases h2.2 with ⟨e, h0⟩ | ⟨g, cap, cur, e, _⟩
      · exact ⟨none, 0, by rw [e, h0]⟩
      · exact ⟨_, _, e⟩
    obtain ⟨A', c', rfl⟩ := hform
    refine ⟨A', c', w', hrun, ⟨⟨h2⟩, ?_, h3, h5⟩⟩
    refine (Below.refl b w).grown h3 hb fun k hk => ?_
    exact (h.own.lt k hk).1

theorem wpList_app {ops : Array Oper} {rest : List Oper} {o : Oper} {a : Act} {Q : Exit → Act → World → Prop} {w : World} (hgd : o.guard = none) (s x : Operand) (t : TypeId)
    (ho : o.op = .call { callee := .builtin .append, args := #[s, x], argTypes := #[t, t] })
    {b : Nat} {e : TypeId} {z : Value} {by_ : Nat} (ht : P.underlying t = some (.slice e)) (hinf : (P.info? e).map (fun i => (i.zero, i.size, i.bytes)) = some (some z, 1, by_)) (hz : z.cells.size = 1)
    {A : Option Addr} {n c : Nat} {xs : List Value} (hs : a.eval s = .slice A n c) (h : Fr w b e A n c xs)
    {B m c2 : Nat} {A2 : Option Addr} {news : List Value} (hx : a.eval x = .slice A2 m c2) (hr : Rd w B A2 m c2 news) (h1 : ∀ u ∈ news, u.oneCell' = true)
    (hby : (n + m) * by_ ≤ 140737488355328) (h63 : n + m ≤ 140737488355328) (hb : b ≤ w.heap.size)
    (hk : ∀ A' c' w', App w w' b e (.slice A n c) A' (n + m) c' (xs ++ news) → wpList P ops Q rest (a.put o.dst (.slice A' (n + m) c')) w') : wpList P ops Q (o :: rest) a w :=
  wpList_plain hgd fun K hK => by
    obtain ⟨A', c', w', hrun, h2⟩ := run_app (P := P) w t o.type e ht hinf hz h hr h1 hby h63 hb
    unfold Oper.wp execOp
    simp only [ho, resolve, invoke, builtin, Sem.run_bind, Sem.run_pure, Result.andThen_ok, List.map_toArray, List.map_cons, List.map_nil, hs, hx, hrun]
    exact hK _ _ (hk A' c' w' h2)
end

/-- The same inside a fence. -/
theorem wpListIn_app {F : Fence} {fuel : Nat} {P : Program} {ops : Array Oper} {rest : List Oper} {o : Oper} {a : Act} {Q : Exit → Act → World → Prop} {w : World} (hgd : o.guard = none) (s x : Operand) (t : TypeId)
    (ho : o.op = .call { callee := .builtin .append, args := #[s, x], argTypes := #[t, t] })
    {b : Nat} {e : TypeId} {z : Value} {by_ : Nat} (ht : P.underlying t = some (.slice e)) (hinf : (P.info? e).map (fun i => (i.zero, i.size, i.bytes)) = some (some z, 1, by_)) (hz : z.cells.size = 1)
    {A : Option Addr} {n c : Nat} {xs : List Value} (hs : a.eval s = .slice A n c) (h : Fr w b e A n c xs)
    {B m c2 : Nat} {A2 : Option Addr} {news : List Value} (hx : a.eval x = .slice A2 m c2) (hr : Rd w B A2 m c2 news) (h1 : ∀ u ∈ news, u.oneCell' = true)
    (hby : (n + m) * by_ ≤ 140737488355328) (h63 : n + m ≤ 140737488355328) (hb : b ≤ w.heap.size)
    (hk : ∀ A' c' w', App w w' b e (.slice A n c) A' (n + m) c' (xs ++ news) → wpListIn F fuel P ops Q rest (a.put o.dst (.slice A' (n + m) c')) w') : wpListIn F fuel P ops Q (o :: rest) a w :=
  wpListIn_plain hgd fun K hK => by
    obtain ⟨A', c', w', hrun, h2⟩ := run_app (P := P) w t o.type e ht hinf hz h hr h1 hby h63 hb
    unfold Oper.wpIn
    refine ⟨?_, ?_⟩
    · simp [Oper.about, ho, resolve, Target.leads, Sem.run_pure]
    · rw [Oper.semAt_plain F _ _ (by rw [ho]; intro c hc'; cases hc')]
      simp [execOp, ho, resolve, invoke, builtin, hs, hx, hrun, Result.andThen]
      exact hK _ _ (hk A' c' w' h2)

/-! ## An append of a string's bytes -/
section
variable {P : Program}
theorem strCells_bv (s : ByteArray) : Lib.strCells s = bv s.data.toList := rfl
theorem run_apps (w : World) {b : Nat} (t u ty e : TypeId) (ht : P.underlying t = some (.slice e)) (hu : P.underlying u = some .string) (hinf : (P.info? e).map (fun i => (i.zero, i.size, i.bytes)) = some (some (.int .u8 0), 1, 1))
    {A : Option Addr} {n c : Nat} {xs : List Value} (h : Fr w b e A n c xs) (s : ByteArray) (h63 : n + s.size ≤ 140737488355328) (hb : b ≤ w.heap.size) :
    ∃ A' c' w', (Builtin.append_ #[t, u] ty #[.slice A n c, .string s]).run P w = .ok (.slice A' (n + s.size) c') w' ∧ Fr w' b e A' (n + s.size) c' (xs ++ bv s.data.toList) ∧ Below b w w' ∧ w.grownBy w' (Value.slice A n c).ownBlock := by
  obtain ⟨i, hi, hz0, hz1, hz2⟩ := info_parts hinf
  obtain ⟨v', w', hrun, h2, h3, _⟩ := Lib.run_append_own_string (P := P) w b t u ty e i ht hu hi hz0 hz1 hz2 _ n xs h.own s (by simp only [maxLen]; omega) h63 hb
  have hform : ∃ A' c', v' = .slice A' (n + s.size) c' := by
    rcases h2.2 with ⟨e, h0⟩ | ⟨g, cap, cur, e, _⟩
    · exact ⟨none, 0, by rw [e, h0]⟩
    · exact ⟨_, _, e⟩
  obtain ⟨A', c', rfl⟩ := hform
  refine ⟨A', c', w', hrun, ⟨h2⟩, ?_, h3⟩
  refine (Below.refl b w).grown h3 hb fun k hk => ?_
  exact (h.own.lt k hk).1

theorem wpList_apps {ops : Array Oper} {rest : List Oper} {o : Oper} {a : Act} {Q : Exit → Act → World → Prop} {w : World} (hgd : o.guard = none) (s x : Operand) (t u : TypeId)
    (ho : o.op = .call { callee := .builtin .append, args := #[s, x], argTypes := #[t, u] })
    {b : Nat} {e : TypeId} (ht : P.underlying t = some (.slice e)) (hu : P.underlying u = some .string) (hinf : (P.info? e).map (fun i => (i.zero, i.size, i.bytes)) = some (some (.int .u8 0), 1, 1))
    {A : Option Addr} {n c : Nat} {xs : List Value} (hs : a.eval s = .slice A n c) (h : Fr w b e A n c xs) {str : ByteArray} (hx : a.eval x = .string str) (h63 : n + str.size ≤ 140737488355328) (hb : b ≤ w.heap.size)
    (hk : ∀ A' c' w', Fr w' b e A' (n + str.size) c' (xs ++ bv str.data.toList) → Below b w w' → w.grownBy w' (Value.slice A n c).ownBlock → wpList P ops Q rest (a.put o.dst (.slice A' (n + str.size) c')) w') : wpList P ops Q (o :: rest) a w :=
  wpList_plain hgd fun K hK => by
    obtain ⟨A', c', w', hrun, h2, h3, h4⟩ := run_apps (P := P) w t u o.type e ht hu hinf h str h63 hb
    unfold Oper.wp execOp
    simp only [ho, resolve, invoke, builtin, Sem.run_bind, Sem.run_pure, Result.andThen_ok, List.map_toArray, List.map_cons, List.map_nil, hs, hx, hrun]
    exact hK _ _ (hk A' c' w' h2 h3 h4)
end

/-! ## Slice expressions -/
section
variable {P : Program} {w : World} {B n c : Nat} {A : Option Addr} {xs : List Value}
theorem add_zero' (a : Addr) : a.add 0 = a := by simp [Addr.add]
theorem run_slice_gen (t e : TypeId) {z : Value} {by_ : Nat} (ht : P.underlying t = some (.slice e)) (hinf : (P.info? e).map (fun i => (i.zero, i.size, i.bytes)) = some (some z, 1, by_))
    (kl : IntKind) {k : Nat} (hk : k ≤ n) (W : World) :
    (Instr.slice t (.slice A n c) (some (.int kl (k : Int))) none none).run P W = .ok (.slice (if c = k then A else A.map (·.add k)) (n - k) (c - k)) W := by
  obtain ⟨i, hi, hz0, hz1, hz2⟩ := info_parts hinf
  have ht' : P.underlying t = some (.slice (P.elem t)) := by simp [Program.elem, ht]
  have he : P.elem t = e := by simp [Program.elem, ht]
  simp [Instr.slice, Instr.sliceBounds, run_underlying ht, run_sliceBound, hk, sizeOf, typeInfo, hi, hz1]
theorem Rd.slice_lo (h : Rd w B A n c xs) (t e : TypeId) {z : Value} {by_ : Nat} (ht : P.underlying t = some (.slice e)) (hinf : (P.info? e).map (fun i => (i.zero, i.size, i.bytes)) = some (some z, 1, by_))
    (kl : IntKind) {k : Nat} (hk : k ≤ n) :
    ∃ A', (∀ W, (Instr.slice t (.slice A n c) (some (.int kl (k : Int))) none none).run P W = .ok (.slice A' (n - k) (c - k)) W) ∧ Rd w B A' (n - k) (c - k) (xs.drop k) :=
  ⟨_, fun W => run_slice_gen t e ht hinf kl hk W, h.back hk⟩
theorem run_slice_hi_gen (t e : TypeId) {z : Value} {by_ : Nat} (ht : P.underlying t = some (.slice e)) (hinf : (P.info? e).map (fun i => (i.zero, i.size, i.bytes)) = some (some z, 1, by_))
    (kl : IntKind) {k : Nat} (hk : k ≤ c) (W : World) :
    (Instr.slice t (.slice A n c) none (some (.int kl (k : Int))) none).run P W = .ok (.slice A k c) W := by
  obtain ⟨i, hi, hz0, hz1, hz2⟩ := info_parts hinf
  simp [Instr.slice, Instr.sliceBounds, run_underlying ht, run_sliceBound, hk, sizeOf, typeInfo, hi]
  cases A <;> simp [add_zero']
end

/-! ## A conversion to a string -/
section
variable {P : Program}
theorem run_str {w : World} {B n c : Nat} {A : Option Addr} {l : List UInt8} (h : Rd w B A n c (bv l)) (src dst e : TypeId)
    (hs : P.underlying src = some (.slice e)) (he : P.underlying e = some (.int .u8)) (hd : P.underlying dst = some .string) :
    (convert src dst (.slice A n c)).run P w = .ok (.string ⟨l.toArray⟩) w := by
  cases A with
  | none =>
    have hn := h.nil rfl
    have : l = [] := List.eq_nil_of_length_eq_zero (by have := h.len; simp at this; omega)
    subst this
    exact run_convert_bytes_nil w src e hs he n c dst hd
  | some ad =>
    have hl : (loadCells ad n).run P w = .ok ((l.map fun b => (b.toNat : Int)).map (Value.int .u8)).toArray w := by
      have := run_loadCells_list (P := P) w ad (bv l) (fun j v hj => h.at_ ad rfl j v hj)
      rw [h.len] at this
      rw [List.map_map]; exact this
    rw [run_convert_bytes_string w src dst e _ n c hs he hd, run_bytesToString w _ n c _ hl, foldl_push_bytes]
    congr 2
    apply ByteArray.ext
    apply Array.toList_inj.1
    simp [ByteArray.empty, ByteArray.emptyWithCapacity, List.map_map]
    conv => rhs; rw [← List.map_id l]
    apply List.map_congr_left
    intro x _
    simp
end
end Go.Proofs.Ythgbafhfeblhaaa
