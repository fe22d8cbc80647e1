/-
  The texts B4, B5, in one.
-/
import Derived.Test.YtkdjjdkcogolmaaGreatDoorB3
import Derived.Deep.RegionLaw
import Derived.Deep.RegionWith
import Derived.Deep.Cut
import Derived.Deep.CutRange
import Derived.Lib.PathFns
section
/-
  The form that grows: the writer in memory; the contract of put.
-/
namespace Go.Proofs.YtkdjjdkcogolmaaGreatDoor
set_option maxRecDepth 100000
open Go.RowKit Go.Shelf
set_option linter.unusedVariables false

theorem Fr.drew {w : World} {b : Nat} {e : TypeId} {A : Option Addr} {n c : Nat} {xs : List Value} (h : Fr w b e A n c xs) : Fr w.drew b e A n c xs := ⟨h.own⟩
/-- An append at a step of a region that draws its order. -/
theorem step_app {ops : Array Oper} {o : Oper} {a : Act} {K : Act → World → Prop} {Q : Exit → Act → World → Prop} {E : Prop} {w : World} (hgd : o.guard = none) (s x : Operand)
    (ho : o.op = .call { callee := .builtin .append, args := #[s, x], argTypes := #[24, 24] })
    {b : Nat} {A : Option Addr} {n c : Nat} {xs : List Value} (h : Fr w b 5 A n c xs) (hs : a.eval s = .slice A n c)
    {B m c2 : Nat} {A2 : Option Addr} {news : List Value} (hr : Rd w B A2 m c2 news) (hx : a.eval x = .slice A2 m c2) (h1 : ∀ u ∈ news, u.oneCell' = true) (h63 : n + m ≤ 140737488355328) (hb : b ≤ w.heap.size)
    (hk : ∀ A' c' w', App w w' b 5 (.slice A n c) A' (n + m) c' (xs ++ news) → K (a.put o.dst (.slice A' (n + m) c')) w') :
    if Region.wanted o (yielded ops a.tmps) = true then Oper.wp Tryz.prog o a w K Q else E := by
  have hw : Region.wanted o (yielded ops a.tmps) = true := by simp [Region.wanted, hgd]
  rw [if_pos hw]
  obtain ⟨A', c', w', hrun, h2⟩ := run_app (P := Tryz.prog) w 24 o.type 5 Tryz.underlying24 info_u8 rfl h hr h1 (by omega) h63 hb
  unfold Oper.wp execOp
  simp only [ho, resolve, invoke, builtin, Sem.run_bind, Sem.run_pure, Result.andThen_ok, List.map_toArray, List.map_cons, List.map_nil, hs, hx, hrun]
  exact hk A' c' w' h2

/-- A row of bytes: where it lies. -/
structure Row where
  A : Option Addr
  n : Nat
  c : Nat
def Row.v (r : Row) : Value := .slice r.A r.n r.c
/-- The writer lies in block g, its two rows beyond it, apart from one another. -/
structure WrAt (w : World) (g : Nat) (r1 r2 : Row) (E P : List UInt8) (s : ByteArray) : Prop where
  lt : g < w.heap.size
  h : w.heap[g]? = some (.cells #[r1.v, r2.v, .string s] 138 (0, 0))
  f1 : Fr w (g + 1) 5 r1.A r1.n r1.c (bv E)
  f2 : Fr w (g + 1) 5 r2.A r2.n r2.c (bv P)
  ne : ∀ k, r1.v.ownBlock = some k → r2.v.ownBlock ≠ some k
section
variable {w w' : World} {g : Nat} {r1 r2 : Row} {E P : List UInt8} {s : ByteArray}
theorem WrAt.cells (h : WrAt w g r1 r2 E P s) : w.cell? ⟨g, 0, none⟩ = some (.slice r1.A r1.n r1.c) ∧ w.cell? ⟨g, 1, none⟩ = some (.slice r2.A r2.n r2.c) ∧ w.cell? ⟨g, 2, none⟩ = some (.string s) := by
  refine ⟨?_, ?_, ?_⟩ <;> (simp only [World.cell?, h.h]; rfl)
theorem WrAt.frozen (h : WrAt w g r1 r2 E P s) : w.frozen? ⟨g, 0, none⟩ = false ∧ w.frozen? ⟨g, 1, none⟩ = false ∧ w.frozen? ⟨g, 2, none⟩ = false := by
  refine ⟨?_, ?_, ?_⟩ <;> simp [World.frozen?, h.h]
theorem WrAt.below (h : WrAt w g r1 r2 E P s) (hb : Below w.heap.size w w') : WrAt w' g r1 r2 E P s :=
  ⟨by have := h.lt; have := hb.size; omega, by rw [hb.block g h.lt]; exact h.h, h.f1.below hb, h.f2.below hb, h.ne⟩
theorem WrAt.alloc (h : WrAt w g r1 r2 E P s) (o : Obj) : WrAt (w.alloc o) g r1 r2 E P s := h.below ((Below.refl _ _).alloc (Nat.le_refl _) _)
theorem WrAt.drew (h : WrAt w g r1 r2 E P s) : WrAt w.drew g r1 r2 E P s := h.below (below_drewN (Below.refl _ _) 1)
theorem WrAt.own1 (h : WrAt w g r1 r2 E P s) : ∀ k, r1.v.ownBlock = some k → g + 1 ≤ k ∧ k < w.heap.size := fun k hk => h.f1.own.lt k hk
theorem WrAt.own2 (h : WrAt w g r1 r2 E P s) : ∀ k, r2.v.ownBlock = some k → g + 1 ≤ k ∧ k < w.heap.size := fun k hk => h.f2.own.lt k hk
theorem own_block {w : World} {b n c : Nat} {e : TypeId} {A : Option Addr} {xs : List Value} (h : Fr w b e A n c xs) {k : Nat} (hk : (Value.slice A n c).ownBlock = some k) : ∃ cur, w.heap[k]? = some (.cells cur e (0, 0)) := by
  rcases h.own.2 with ⟨e1, _⟩ | ⟨g, cap, cur, e1, hg, hh, _⟩
  · injection e1 with e1 _ _; subst e1; cases hk
  · injection e1 with e1 _ _; subst e1
    obtain rfl : g = k := by simpa [Value.ownBlock] using hk
    exact ⟨_, hh⟩
theorem Fr.grown {w w' : World} {b n c : Nat} {e : TypeId} {A : Option Addr} {xs : List Value} {row : Option Nat} (h : Fr w b e A n c xs) (hg : w.grownBy w' row) (hne : ∀ k, (Value.slice A n c).ownBlock = some k → row ≠ some k) : Fr w' b e A n c xs := by
  obtain ⟨h1, h2⟩ := h.own
  refine ⟨h1, ?_⟩
  rcases h2 with h2 | ⟨k, cap, cur, e1, hk, hh, r⟩
  · exact .inl h2
  · have hk1 : (Value.slice A n c).ownBlock = some k := by rw [e1]; rfl
    exact .inr ⟨k, cap, cur, e1, hk, (hg.block k (Array.getElem?_eq_some_iff.1 hh).1 (fun e => hne k hk1 e.symm)).trans hh, r⟩
theorem Fr.setFar {w : World} {b n c : Nat} {e : TypeId} {A : Option Addr} {xs : List Value} (h : Fr w b e A n c xs) {p : Addr} (hp : p.block < b) (u : Value) : Fr (w.setCell p u) b e A n c xs := ⟨ownsRow_setCell_below h.own hp _⟩
/-- The entries' row has grown, and stands in the writer. -/
theorem WrAt.put1 (h : WrAt w g r1 r2 E P s) {news : List UInt8} {A' : Option Addr} {n' c' : Nat} (hap : App w w' (g + 1) 5 (.slice r1.A r1.n r1.c) A' n' c' (bv E ++ bv news)) :
    WrAt (w'.setCell ⟨g, 0, none⟩ (.slice A' n' c')) g ⟨A', n', c'⟩ r2 (E ++ news) P s ∧ Below g w (w'.setCell ⟨g, 0, none⟩ (.slice A' n' c')) := by
  have hne : ∀ k, r2.v.ownBlock = some k → r1.v.ownBlock ≠ some k := fun k h2 h1 => h.ne k h1 h2
  have hsz := hap.grown.size
  have hlt := h.lt
  have hgb : w'.heap[g]? = w.heap[g]? := hap.grown.block g h.lt (fun e => by have := h.own1 g e.symm; omega)
  refine ⟨⟨by simp [World.setCell]; omega, ?_, ?_, ?_, ?_⟩, ?_⟩
  · simp only [World.setCell, Array.getElem?_modify, if_pos, hgb, h.h]
    rfl
  · rw [bv_append]; exact hap.fr.setFar (by simp) _
  · exact (h.f2.grown hap.grown hne).setFar (by simp) _
  · intro k hk h2
    rcases hap.at_ with e | e
    · exact h.ne k (e ▸ hk) h2
    · have h3 := hk
      show False
      have h4 : (Value.slice A' n' c').ownBlock = some k := hk
      rw [e] at h4
      have h5 := h.own2 k h2
      injection h4 with h4
      omega
  · exact Below.setCell (show Below g w w' from hap.below.mono (by omega)) (show g ≤ (⟨g, 0, none⟩ : Addr).block from Nat.le_refl _) _
theorem WrAt.put2 (h : WrAt w g r1 r2 E P s) {news : List UInt8} {A' : Option Addr} {n' c' : Nat} (hap : App w w' (g + 1) 5 (.slice r2.A r2.n r2.c) A' n' c' (bv P ++ bv news)) :
    WrAt (w'.setCell ⟨g, 1, none⟩ (.slice A' n' c')) g r1 ⟨A', n', c'⟩ E (P ++ news) s ∧ Below g w (w'.setCell ⟨g, 1, none⟩ (.slice A' n' c')) := by
  have hsz := hap.grown.size
  have hlt := h.lt
  have hgb : w'.heap[g]? = w.heap[g]? := hap.grown.block g h.lt (fun e => by have := h.own2 g e.symm; omega)
  refine ⟨⟨by simp [World.setCell]; omega, ?_, ?_, ?_, ?_⟩, ?_⟩
  · simp only [World.setCell, Array.getElem?_modify, if_pos, hgb, h.h]
    rfl
  · exact (h.f1.grown hap.grown h.ne).setFar (by simp) _
  · rw [bv_append]; exact hap.fr.setFar (by simp) _
  · intro k hk h2
    have h4 : (Value.slice A' n' c').ownBlock = some k := h2
    rcases hap.at_ with e | e
    · exact h.ne k hk (e ▸ h4)
    · rw [e] at h4
      have h5 := h.own1 k hk
      injection h4 with h4
      omega
  · exact Below.setCell (show Below g w w' from hap.below.mono (by omega)) (show g ≤ (⟨g, 1, none⟩ : Addr).block from Nat.le_refl _) _
theorem WrAt.put3 (h : WrAt w g r1 r2 E P s) (s' : ByteArray) : WrAt (w.setCell ⟨g, 2, none⟩ (.string s')) g r1 r2 E P s' ∧ Below g w (w.setCell ⟨g, 2, none⟩ (.string s')) := by
  have hlt := h.lt
  refine ⟨⟨by simp [World.setCell]; omega, ?_, h.f1.setFar (by simp) _, h.f2.setFar (by simp) _, h.ne⟩, Below.setCell (Below.refl g w) (show g ≤ (⟨g, 2, none⟩ : Addr).block from Nat.le_refl _) _⟩
  simp only [World.setCell, Array.getElem?_modify, if_pos, h.h]
  rfl
end
/-- A box that lies beyond the rows and the writer stays. -/
structure EnAt (w : World) (b : Nat) (x : Ent) : Prop where
  lt : b < w.heap.size
  h : w.heap[b]? = some (.cells #[.string x.s, .int .u64 (x.q : Int), .int .u8 (x.k : Int), .string x.v] 40 (0, 0))
theorem EnAt.cells {w : World} {b : Nat} {x : Ent} (h : EnAt w b x) : w.cell? ⟨b, 0, none⟩ = some (.string x.s) ∧ w.cell? ⟨b, 1, none⟩ = some (.int .u64 (x.q : Int)) ∧ w.cell? ⟨b, 2, none⟩ = some (.int .u8 (x.k : Int)) ∧ w.cell? ⟨b, 3, none⟩ = some (.string x.v) := by
  refine ⟨?_, ?_, ?_, ?_⟩ <;> (simp only [World.cell?, h.h]; rfl)
theorem EnAt.frozen {w : World} {b : Nat} {x : Ent} (h : EnAt w b x) : w.frozen? ⟨b, 0, none⟩ = false ∧ w.frozen? ⟨b, 1, none⟩ = false ∧ w.frozen? ⟨b, 2, none⟩ = false ∧ w.frozen? ⟨b, 3, none⟩ = false := by
  refine ⟨?_, ?_, ?_, ?_⟩ <;> simp [World.frozen?, h.h]
theorem EnAt.new (w : World) (x : Ent) : EnAt (w.alloc (.cells #[.string x.s, .int .u64 (x.q : Int), .int .u8 (x.k : Int), .string x.v] 40)) w.heap.size x := ⟨by simp, heap_alloc_new w _⟩
theorem EnAt.below {w w' : World} {b : Nat} {x : Ent} (h : EnAt w b x) (hb : Below w.heap.size w w') : EnAt w' b x :=
  ⟨by have := h.lt; have := hb.size; omega, by rw [hb.block b h.lt]; exact h.h⟩
theorem EnAt.drew {w : World} {b : Nat} {x : Ent} (h : EnAt w b x) : EnAt w.drew b x := h.below (below_drewN (Below.refl _ _) 1)
/-- An entry's box has other cells than a row of bytes, and than a writer. -/
theorem EnAt.grown {w w' : World} {b g b0 n c : Nat} {A : Option Addr} {xs : List Value} {x : Ent} (h : EnAt w b x) (hf : Fr w b0 5 A n c xs) (hg : w.grownBy w' (Value.slice A n c).ownBlock) (hne : b ≠ g) (o : Nat) (u : Value) : EnAt (w'.setCell ⟨g, o, none⟩ u) b x := by
  have hsz := hg.size
  have hlt := h.lt
  refine ⟨by simp [World.setCell]; omega, ?_⟩
  have h1 : w'.heap[b]? = w.heap[b]? := hg.block b h.lt (fun e => by
    obtain ⟨cur, hc⟩ := own_block hf e.symm
    rw [h.h] at hc
    injection hc with hc
    injection hc with h1 h2
    exact absurd h2 (by decide))
  simp only [World.setCell]
  rw [Array.getElem?_modify, if_neg (Ne.symm hne), h1, h.h]
/-- Behind an append, ahead of its store: the writer's cells are as they were. -/
theorem WrAt.far {w w' : World} {g : Nat} {r1 r2 : Row} {E P : List UInt8} {s : ByteArray} (h : WrAt w g r1 r2 E P s) {row : Option Nat} (hg : w.grownBy w' row) (hr : row ≠ some g) :
    (w'.frozen? ⟨g, 0, none⟩ = false ∧ w'.frozen? ⟨g, 1, none⟩ = false ∧ w'.frozen? ⟨g, 2, none⟩ = false) ∧ w'.cell? ⟨g, 0, none⟩ = some (.slice r1.A r1.n r1.c) ∧ w'.cell? ⟨g, 1, none⟩ = some (.slice r2.A r2.n r2.c) ∧ w'.cell? ⟨g, 2, none⟩ = some (.string s) := by
  have hb : w'.heap[g]? = w.heap[g]? := hg.block g h.lt (fun e => hr e.symm)
  refine ⟨⟨?_, ?_, ?_⟩, ?_, ?_, ?_⟩
  · simp [World.frozen?, hb, h.h]
  · simp [World.frozen?, hb, h.h]
  · simp [World.frozen?, hb, h.h]
  · simp only [World.cell?, hb, h.h]; rfl
  · simp only [World.cell?, hb, h.h]; rfl
  · simp only [World.cell?, hb, h.h]; rfl
theorem WrAt.ne1 {w : World} {g : Nat} {r1 r2 : Row} {E P : List UInt8} {s : ByteArray} (h : WrAt w g r1 r2 E P s) : (Value.slice r1.A r1.n r1.c).ownBlock ≠ some g := fun e => by have := h.own1 g e; omega
theorem WrAt.ne2 {w : World} {g : Nat} {r1 r2 : Row} {E P : List UInt8} {s : ByteArray} (h : WrAt w g r1 r2 E P s) : (Value.slice r2.A r2.n r2.c).ownBlock ≠ some g := fun e => by have := h.own2 g e; omega
end Go.Proofs.YtkdjjdkcogolmaaGreatDoor
end

section
/-
  The form that grows: the contract of put.
-/
namespace Go.Proofs.YtkdjjdkcogolmaaGreatDoor
set_option maxRecDepth 100000
open Go.RowKit Go.Shelf
set_option linter.unusedVariables false

theorem run_from {s : ByteArray} {k : Nat} (h : k ≤ s.size) (W : World) : (Instr.slice 9 (.string s) (some (.int .i64 (k : Int))) none none).run Tryz.prog W = .ok (.string (dropS s k)) W := by
  refine (run_slice_string_l W 9 s Tryz.underlying9 .i64 (k : Int) (by omega) (by omega)).trans ?_
  rw [Int.toNat_natCast, Lib.Pa.extract_from]; rfl
/-- What a step of put leaves. -/
def PutAt (w : World) (g : Nat) (r2 : Row) (E P : List UInt8) (s : ByteArray) (b : Nat) (x : Ent) (wx : World) : Prop :=
  ∃ r1 : Row, WrAt wx g r1 r2 E P s ∧ EnAt wx b x ∧ Below g w wx
theorem PutAt.of {w w2 w3 : World} {g b : Nat} {r1 r2 : Row} {E P T : List UInt8} {s : ByteArray} {x : Ent} {A : Option Addr} {n2 c' : Nat} (H2 : WrAt w2 g r1 r2 E P s) (E2 : EnAt w2 b x) (B0 : Below g w w2)
    (hap : App w2 w3 (g + 1) 5 (.slice r1.A r1.n r1.c) A (r1.n + n2) c' (bv E ++ bv T)) (hne : b ≠ g) : PutAt w g r2 (E ++ T) P s b x (w3.setCell ⟨g, 0, none⟩ (.slice A (r1.n + n2) c')) :=
  ⟨⟨A, r1.n + n2, c'⟩, (H2.put1 hap).1, E2.grown H2.f1 hap.grown hne 0 _, B0.trans (H2.put1 hap).2⟩
theorem ret_len {w : World} {b n c : Nat} {e : TypeId} {A : Option Addr} {l : List UInt8} {m : Nat} (h : Fr w b e A n c (bv l)) (hl : l.length ≤ m) : n ≤ m := by
  have := h.len; simp at this; omega
set_option maxRecDepth 100000 in
set_option maxHeartbeats 4000000 in
theorem wput_c {w : World} {g : Nat} {r1 r2 : Row} {E P : List UInt8} {s : ByteArray} (h : WrAt w g r1 r2 E P s) {x : Ent} (hx : entB x = true) {n : Nat} (hn : n ≤ x.s.size) (hE : E.length ≤ 100000) :
    Calls Tryz.prog 133 #[.pointer (some ⟨g, 0, none⟩), en x.s x.q x.k x.v, .int .i64 (n : Int)] w (fun e w' => e = .returned (.tuple #[]) ∧ ∃ r1' : Row, WrAt w' g r1' r2 (E ++ entL n x) P x.s ∧ Below g w w') := by
  obtain ⟨p1, p2, p3, p4, p5, p6⟩ := entB_parts hx
  have hlt := h.lt
  have hwg : w.heap.size ≠ g := by omega
  have h0 : WrAt (w.alloc (.cells #[.string x.s, .int .u64 (x.q : Int), .int .u8 (x.k : Int), .string x.v] 40)) g r1 r2 E P s := h.alloc _
  have e0 := EnAt.new w x
  have b0 : Below g w (w.alloc (.cells #[.string x.s, .int .u64 (x.q : Int), .int .u8 (x.k : Int), .string x.v] 40)) := (below_alloc w _).mono (by omega)
  have hn64 : (n : Int) ≤ 64 := by omega
  have hw1 : IntKind.u64.wrap (n : Int) = (n : Int) := by rw [wrapu]; omega
  have hw2 : IntKind.u64.wrap (2 * (x.q : Int)) = 2 * (x.q : Int) := by rw [wrapu]; omega
  have hw3 : IntKind.u64.wrap (x.k : Int) = (x.k : Int) := by rw [wrapu]; omega
  have hw4 : IntKind.u64.wrap (2 * (x.q : Int) + (x.k : Int)) = 2 * (x.q : Int) + (x.k : Int) := by rw [wrapu]; omega
  have hsl := fun W => run_from hn W
  have HP1 := Lib.hid fun W => put_c (w := W) (B := 0) (l := []) Rd.nilv (Nat.zero_le _) (by decide) (n : Int) (by omega) (by omega)
  have HP2 := Lib.hid fun W => putText_c (w := W) (B := 0) (l := []) Rd.nilv (Nat.zero_le _) (by decide) (dropS x.s n) (by rw [dropS_size]; omega)
  have HP3 := Lib.hid fun W => put_c (w := W) (B := 0) (l := []) Rd.nilv (Nat.zero_le _) (by decide) (2 * (x.q : Int) + (x.k : Int)) (by omega) (by omega)
  have HP4 := Lib.hid fun W => putText_c (w := W) (B := 0) (l := []) Rd.nilv (Nat.zero_le _) (by decide) x.v (by omega)
  have n1 : ([] ++ shortL (n : Int).toNat : List UInt8) = shortL n := by rw [Int.toNat_natCast, List.nil_append]
  have n3 : ([] ++ shortL (2 * (x.q : Int) + (x.k : Int)).toNat : List UInt8) = shortL (2 * x.q + x.k) := by rw [List.nil_append, show (2 * (x.q : Int) + (x.k : Int)).toNat = 2 * x.q + x.k by omega]
  simp only [n1] at HP1
  simp only [n3] at HP3
  simp only [List.nil_append] at HP2 HP4
  have HL1 := Lib.hid (shortL_len n)
  have HL2 := Lib.hid (show (textL (dropS x.s n)).length ≤ 80 by have := textL_len' (dropS x.s n); rw [dropS_size] at this; omega)
  have HL3 := Lib.hid (shortL_len (2 * x.q + x.k))
  have HL4 := Lib.hid (show (textL x.v).length ≤ 300 by have := textL_len' x.v; omega)
  have HE := Lib.hid hE
  have HK : x.k = 1 ∨ x.k = 0 := by omega
  have HK := Lib.hid HK
  have HEN := Lib.hid (show entL n x = shortL n ++ (textL (dropS x.s n) ++ (shortL (2 * x.q + x.k) ++ (if x.k = 1 then textL x.v else []))) from rfl)
  clear p1 p2 p3 p4 p5 p6 n1 n3 hE hx hn hn64 h
  unfold en
  go_enter Tryz.func133, Tryz.ntmps133
  go_upto_region 1 with (fail)
  generalize hwa : w.alloc (.cells #[.string x.s, .int .u64 (x.q : Int), .int .u8 (x.k : Int), .string x.v] 40) = wa at *
  clear hwa
  go_cut [] from 6 to 16 (fun wx => PutAt w g r2 (E ++ shortL n) P s w.heap.size x wx)
  case first =>
    obtain ⟨x0, x1, x2⟩ := h0.drew.cells
    obtain ⟨y0, y1, y2, y3⟩ := e0.drew.cells
    have hr1 : r1.n ≤ 100000 := ret_len h0.f1 (by have := HE.out; have := HL1.out; have := HL2.out; have := HL3.out; (try simp only [List.length_append]); omega)
    have H0 := Lib.hid h0.drew
    have E0 := Lib.hid e0.drew
    have B0 := Lib.hid (Below.drew b0)
    clear h0 e0 b0
    go_region_law (first
      | (refine step_app rfl (.tmp 10) (.tmp 13) rfl H2.out.f1 (by rfl) (HF2.out.rd (Nat.le_refl _)) (by rfl) (bv_one _) (by omega) H2.out.lt ?_; intro A' c' w3 hap; obtain ⟨⟨z0, z1, z2⟩, t0, t1, t2⟩ := H2.out.far hap.grown H2.out.ne1; have HPA := Lib.hid (PutAt.of (T := shortL n) H2.out E2.out B2.out hap hwg); clear hap)
      | (go_simp; go_at_call 50; refine (HP1.out _).mono ?_; rintro e w2 ⟨A2, n2, c2, rfl, hf2, hb2⟩; have hn2 := ret_len hf2 HL1.out; have H2 := Lib.hid (H0.out.below hb2); have E2 := Lib.hid (E0.out.below hb2); have B2 := Lib.hid (B0.out.trans (hb2.mono (Nat.le_of_lt H0.out.lt))); have HF2 := Lib.hid hf2; obtain ⟨x0, x1, x2⟩ := H2.out.cells; obtain ⟨y0, y1, y2, y3⟩ := E2.out.cells; clear hb2 hf2))
    all_goals (go_wp2_with fail; go_meet; exact HPA.out)
  case rest =>
  obtain ⟨ra, h1, e1, b1⟩ := hcut
  go_upto_region 2 with (fail)
  go_cut [] from 17 to 30 (fun wx => PutAt w g r2 (E ++ shortL n ++ textL (dropS x.s n)) P s w.heap.size x wx)
  case first =>
    obtain ⟨x0, x1, x2⟩ := h1.drew.cells
    obtain ⟨y0, y1, y2, y3⟩ := e1.drew.cells
    have hr1 : ra.n ≤ 100010 := ret_len h1.f1 (by have := HE.out; have := HL1.out; have := HL2.out; have := HL3.out; (try simp only [List.length_append]); omega)
    have H0 := Lib.hid h1.drew
    have E0 := Lib.hid e1.drew
    have B0 := Lib.hid (Below.drew b1)
    clear h1 e1 b1
    go_region_law (first
      | (refine step_app rfl (.tmp 21) (.tmp 27) rfl H2.out.f1 (by rfl) (HF2.out.rd (Nat.le_refl _)) (by rfl) (bv_one _) (by omega) H2.out.lt ?_; intro A' c' w3 hap; obtain ⟨⟨z0, z1, z2⟩, t0, t1, t2⟩ := H2.out.far hap.grown H2.out.ne1; have HPA := Lib.hid (PutAt.of (T := textL (dropS x.s n)) H2.out E2.out B2.out hap hwg); clear hap)
      | (go_simp; go_at_call 100; refine (HP2.out _).mono ?_; rintro e w2 ⟨A2, n2, c2, rfl, hf2, hb2⟩; have hn2 := ret_len hf2 HL2.out; have H2 := Lib.hid (H0.out.below hb2); have E2 := Lib.hid (E0.out.below hb2); have B2 := Lib.hid (B0.out.trans (hb2.mono (Nat.le_of_lt H0.out.lt))); have HF2 := Lib.hid hf2; obtain ⟨x0, x1, x2⟩ := H2.out.cells; obtain ⟨y0, y1, y2, y3⟩ := E2.out.cells; clear hb2 hf2))
    all_goals (go_wp2_with fail; go_meet; exact HPA.out)
  case rest =>
  obtain ⟨rb, h2, e2, b2⟩ := hcut
  go_upto_region 3 with (fail)
  go_cut [] from 31 to 48 (fun wx => PutAt w g r2 (E ++ shortL n ++ textL (dropS x.s n) ++ shortL (2 * x.q + x.k)) P s w.heap.size x wx)
  case first =>
    obtain ⟨x0, x1, x2⟩ := h2.drew.cells
    obtain ⟨y0, y1, y2, y3⟩ := e2.drew.cells
    have hr1 : rb.n ≤ 100090 := ret_len h2.f1 (by have := HE.out; have := HL1.out; have := HL2.out; have := HL3.out; (try simp only [List.length_append]); omega)
    have H0 := Lib.hid h2.drew
    have E0 := Lib.hid e2.drew
    have B0 := Lib.hid (Below.drew b2)
    clear h2 e2 b2
    go_region_law (first
      | (refine step_app rfl (.tmp 35) (.tmp 45) rfl H2.out.f1 (by rfl) (HF2.out.rd (Nat.le_refl _)) (by rfl) (bv_one _) (by omega) H2.out.lt ?_; intro A' c' w3 hap; obtain ⟨⟨z0, z1, z2⟩, t0, t1, t2⟩ := H2.out.far hap.grown H2.out.ne1; have HPA := Lib.hid (PutAt.of (T := shortL (2 * x.q + x.k)) H2.out E2.out B2.out hap hwg); clear hap)
      | (go_simp; go_at_call 50; refine (HP3.out _).mono ?_; rintro e w2 ⟨A2, n2, c2, rfl, hf2, hb2⟩; have hn2 := ret_len hf2 HL3.out; have H2 := Lib.hid (H0.out.below hb2); have E2 := Lib.hid (E0.out.below hb2); have B2 := Lib.hid (B0.out.trans (hb2.mono (Nat.le_of_lt H0.out.lt))); have HF2 := Lib.hid hf2; obtain ⟨x0, x1, x2⟩ := H2.out.cells; obtain ⟨y0, y1, y2, y3⟩ := E2.out.cells; clear hb2 hf2))
    all_goals (go_wp2_with fail; go_meet; exact HPA.out)
  case rest =>
  obtain ⟨rc, h3, e3, b3⟩ := hcut
  obtain ⟨y0, y1, y2, y3⟩ := e3.cells
  rcases HK.out with hk | hk
  · have d1 : ((x.k : Int) == 1) = true := by simp; omega
    have HK1 := Lib.hid hk
    clear hk
    have H3 := Lib.hid h3
    have E3 := Lib.hid e3
    have B3 := Lib.hid b3
    clear h3 e3 b3
    go_upto_region 5 with (fail)
    have h3 := H3.out
    have e3 := E3.out
    have b3 := B3.out
    clear y0 y1 y2 y3
    go_cut [] from 53 to 63 (fun wx => PutAt w g r2 (E ++ shortL n ++ textL (dropS x.s n) ++ shortL (2 * x.q + x.k) ++ textL x.v) P s w.heap.size x wx)
    case first =>
      obtain ⟨x0, x1, x2⟩ := h3.drew.cells
      obtain ⟨y0, y1, y2, y3⟩ := e3.drew.cells
      have hr1 : rc.n ≤ 100100 := ret_len h3.f1 (by have := HE.out; have := HL1.out; have := HL2.out; have := HL3.out; (try simp only [List.length_append]); omega)
      have H0 := Lib.hid h3.drew
      have E0 := Lib.hid e3.drew
      have B0 := Lib.hid (Below.drew b3)
      clear h3 e3 b3
      go_region_law (first
        | (refine step_app rfl (.tmp 57) (.tmp 60) rfl H2.out.f1 (by rfl) (HF2.out.rd (Nat.le_refl _)) (by rfl) (bv_one _) (by omega) H2.out.lt ?_; intro A' c' w3 hap; obtain ⟨⟨z0, z1, z2⟩, t0, t1, t2⟩ := H2.out.far hap.grown H2.out.ne1; have HPA := Lib.hid (PutAt.of (T := textL x.v) H2.out E2.out B2.out hap hwg); clear hap)
        | (go_simp; go_at_call 100; refine (HP4.out _).mono ?_; rintro e w2 ⟨A2, n2, c2, rfl, hf2, hb2⟩; have hn2 := ret_len hf2 HL4.out; have H2 := Lib.hid (H0.out.below hb2); have E2 := Lib.hid (E0.out.below hb2); have B2 := Lib.hid (B0.out.trans (hb2.mono (Nat.le_of_lt H0.out.lt))); have HF2 := Lib.hid hf2; obtain ⟨x0, x1, x2⟩ := H2.out.cells; obtain ⟨y0, y1, y2, y3⟩ := E2.out.cells; clear hb2 hf2))
      all_goals (go_wp2_with fail; go_meet; exact HPA.out)
    case rest =>
    obtain ⟨rd, h4, e4, b4⟩ := hcut

    obtain ⟨y0, y1, y2, y3⟩ := e4.cells
    obtain ⟨x0, x1, x2⟩ := h4.cells
    obtain ⟨z0, z1, z2⟩ := h4.frozen
    have HF := Lib.hid (h4.put3 x.s)
    have HB := Lib.hid b4
    clear h4 e4 b4
    go_wp2_with fail
    first | refine bodyPost_end (results_none rfl _ _ _) rfl ?_ | refine bodyPost_ret (results_none rfl _ _ _) rfl ?_
    refine ⟨rfl, rd, ?_, HB.out.trans HF.out.2⟩
    have hf := HF.out.1
    rw [HEN.out, if_pos HK1.out]
    simpa only [List.append_assoc] using hf
  · have d1 : ((x.k : Int) == 1) = false := by simp; omega
    have HK1 := Lib.hid hk
    clear hk y0 y1 y2 y3
    obtain ⟨y0, y1, y2, y3⟩ := e3.cells
    obtain ⟨x0, x1, x2⟩ := h3.cells
    obtain ⟨z0, z1, z2⟩ := h3.frozen
    have HF := Lib.hid (h3.put3 x.s)
    have HB := Lib.hid b3
    clear h3 e3 b3
    go_wp2_with fail
    first | refine bodyPost_end (results_none rfl _ _ _) rfl ?_ | refine bodyPost_ret (results_none rfl _ _ _) rfl ?_
    refine ⟨rfl, rc, ?_, HB.out.trans HF.out.2⟩
    have hf := HF.out.1
    rw [HEN.out, if_neg (by rw [HK1.out]; decide)]
    simpa only [List.append_assoc, List.append_nil] using hf
end Go.Proofs.YtkdjjdkcogolmaaGreatDoor
end
