/-
  The texts Put, Refs, Short2, Refs2, Refs3, in one.
-/
import Derived.Test.YtkdjjdkcogolmaaSame
import Derived.Test.YtkdjjdkcogolmaaShort
import Derived.IntWalk
import Derived.Deep.QuietTactic
import Derived.BigQuiet
import Derived.LoopN
import Derived.Deep.RegionWith
section
/-
  Contracts: the reference's Put.
-/
namespace Go.Proofs.Ytkdjjdkcogolmaa
set_option maxRecDepth 100000
open Go.RowKit

theorem u8_byte (m : Nat) (h : m < 256) : Value.int .u8 (m : Int) = b8 (byteOf m) := by
  simp only [b8, byteOf_toNat h]

structure PutRel (w : World) (l : List UInt8) (x : Nat) (out xv : Value) (wr : World) (A : Option Addr) (n c y f : Nat) (p : List UInt8) : Prop where
  o : out = .slice A n c
  v : xv = .int .u64 (y : Int)
  fr : Fr wr w.heap.size 5 A n c (bv (l ++ p))
  below : Below w.heap.size w wr
  eq : p ++ shortF f y = shortL x
  lt : y < 128 ^ (f + 1)
  le : (y : Int) ≤ 18446744073709551615
  len : p.length + f = 9
  sm : n ≤ 70368744177674

theorem PutRel.step {w : World} {l : List UInt8} {x : Nat} {wr : World} {A : Option Addr} {n c y f : Nat} {p : List UInt8} {o v : Value} (h : PutRel w l x o v wr A n c y f p) (hl : l.length ≤ 70368744177664) (hge : 128 ≤ y)
    {A' : Option Addr} {c' : Nat} {w' : World} {e : Value} (he : e = b8 (byteOf (y % 128 + 128))) (hap : App (wr.alloc (.cells #[e] 5)) w' w.heap.size 5 (.slice A n c) A' (n + 1) c' (bv (l ++ p) ++ [e])) :
    PutRel w l x (.slice A' (n + 1) c') (.int .u64 ((y : Int) / 128)) w' A' (n + 1) c' (y / 128) (f - 1) (p ++ [byteOf (y % 128 + 128)]) := by
  have hf : ∃ g, f = g + 1 := by
    cases f with
    | zero => have := h.lt; simp at this; omega
    | succ g => exact ⟨g, rfl⟩
  obtain ⟨g, rfl⟩ := hf
  have hlen := h.len
  have hfl := h.fr.len
  simp at hfl
  have hE := h.eq
  simp only [shortF] at hE
  rw [if_neg (by omega)] at hE
  refine ⟨rfl, by simp, ?_, ?_, ?_, ?_, ?_, ?_, ?_⟩
  · subst he
    have := hap.fr
    simpa [bv, b8, List.append_assoc] using this
  · exact (h.below.alloc h.below.size _).trans hap.below
  · rw [← hE]; simp
  · have := h.lt
    rw [Nat.add_sub_cancel, Nat.div_lt_iff_lt_mul (by omega)]; rw [Nat.pow_succ] at this; exact this
  · have := h.le; omega
  · simp; omega
  · omega

theorem PutRel.last {w : World} {l : List UInt8} {x : Nat} {wr : World} {A : Option Addr} {n c y f : Nat} {p : List UInt8} {o v : Value} (h : PutRel w l x o v wr A n c y f p) (hge : y < 128)
    {A' : Option Addr} {c' : Nat} {w' : World} {e : Value} (he : e = b8 (byteOf y)) (hap : App (wr.alloc (.cells #[e] 5)) w' w.heap.size 5 (.slice A n c) A' (n + 1) c' (bv (l ++ p) ++ [e])) :
    RetB w (l ++ shortL x) (.returned (.slice A' (n + 1) c')) w' := by
  have hE := h.eq
  have hsf : shortF f y = [byteOf y] := by
    cases f with
    | zero => simp only [shortF]; rw [Nat.mod_eq_of_lt hge]
    | succ g => simp only [shortF]; rw [if_pos hge]
  rw [hsf] at hE
  subst he
  refine ⟨A', _, c', rfl, ?_, (h.below.alloc h.below.size _).trans hap.below⟩
  rw [← hE]
  have := hap.fr
  simpa [bv, b8, List.append_assoc] using this

end Go.Proofs.Ytkdjjdkcogolmaa
end

section
/-
  Contracts: the reference's same, Take, TakeText, PutText, PutFour, TakeFour.
-/
namespace Go.Proofs.Ytkdjjdkcogolmaa
set_option maxRecDepth 100000
open Go.RowKit

theorem take_beq_short {l hd : List UInt8} (h : l.length < hd.length) : (l.take hd.length == hd) = false := by
  rw [beq_eq_false_iff_ne]
  intro e
  have := congrArg List.length e
  simp at this; omega

/-! ## The reference's PutFour, TakeFour, PutText -/
/-- Bytes of a number, the lowest eight bits first. -/
def leL : Nat → Nat → List UInt8
  | 0, _ => []
  | k + 1, x => byteOf (x % 256) :: leL k (x / 256)
/-- The four bytes of a number below 2^32. -/
def fourL (x : Nat) : List UInt8 := leL 4 x

structure FourRel (w : World) (l : List UInt8) (x : Nat) (out xv iv : Value) (wr : World) (A : Option Addr) (n c y k : Nat) (p : List UInt8) : Prop where
  o : out = .slice A n c
  v : xv = .int .u32 (y : Int)
  i : iv = .int .i64 (k : Int)
  fr : Fr wr w.heap.size 5 A n c (bv (l ++ p))
  below : Below w.heap.size w wr
  eq : p ++ leL (4 - k) y = fourL x
  le : (y : Int) ≤ 4294967295
  kle : k ≤ 4
  sm : n ≤ 70368744177664 + k

theorem FourRel.step {w : World} {l : List UInt8} {x : Nat} {wr : World} {A : Option Addr} {n c y k : Nat} {p : List UInt8} {o v i : Value} (h : FourRel w l x o v i wr A n c y k p) (hk : k < 4)
    {A' : Option Addr} {c' : Nat} {w' : World} {e : Value} (he : e = b8 (byteOf (y % 256))) (hap : App (wr.alloc (.cells #[e] 5)) w' w.heap.size 5 (.slice A n c) A' (n + 1) c' (bv (l ++ p) ++ [e])) :
    FourRel w l x (.slice A' (n + 1) c') (.int .u32 ((y : Int) / 256)) (.int .i64 ((k : Int) + 1)) w' A' (n + 1) c' (y / 256) (k + 1) (p ++ [byteOf (y % 256)]) := by
  have hE := h.eq
  rw [show 4 - k = (4 - (k + 1)) + 1 by omega] at hE
  simp only [leL] at hE
  refine ⟨rfl, by simp, by simp, ?_, ?_, ?_, ?_, by omega, by have := h.sm; omega⟩
  · subst he
    have := hap.fr
    simpa [bv, b8, List.append_assoc] using this
  · exact (h.below.alloc h.below.size _).trans hap.below
  · rw [← hE]; simp
  · have := h.le; omega

end Go.Proofs.Ytkdjjdkcogolmaa
end

section
/-
  Plain mathematics of short forms, more: the first byte below 128 ends a form.
-/
namespace Go.Proofs.Ytkdjjdkcogolmaa
set_option maxRecDepth 100000

theorem Formed.high {p : List UInt8} (h : Formed p) : ∀ i c, p[i]? = some c → i + 1 < p.length → 128 ≤ c.toNat := by
  induction p with
  | nil => exact h.elim
  | cons a p ih =>
    intro i c hc hi
    match p, h with
    | [], _ => simp at hi
    | d :: q, h =>
      cases i with
      | zero => simp at hc; subst hc; exact h.1
      | succ i => exact ih h.2.1 i c (by simpa using hc) (by simpa using hi)
theorem Formed.low {p : List UInt8} (h : Formed p) : ∀ c, p[p.length - 1]? = some c → c.toNat < 128 := by
  induction p with
  | nil => exact h.elim
  | cons a p ih =>
    intro c hc
    match p, h with
    | [], h => simp at hc; subst hc; exact h
    | d :: q, h => exact ih h.2.1 c (by simpa using hc)
theorem Formed.pos {p : List UInt8} (h : Formed p) : 0 < p.length := by
  match p, h with
  | [c], _ => simp
  | c :: d :: q, _ => simp

theorem prefix_get {p l : List UInt8} (h : p <+: l) {i : Nat} (hi : i < p.length) : l[i]? = p[i]? := by
  obtain ⟨t, rfl⟩ := h
  rw [List.getElem?_append_left hi]

/-- A form that bytes begin with ends at the first byte below 128. -/
theorem formed_end {l p : List UInt8} (hp : Formed p) (hpre : p <+: l) {k : Nat} (hall : ∀ i c, i < k → l[i]? = some c → 128 ≤ c.toNat) : k < p.length := by
  rcases Nat.lt_or_ge k p.length with h | h
  · exact h
  · have hpos := hp.pos
    have h1 : p.length - 1 < p.length := by omega
    have h2 := hp.low p[p.length - 1] (List.getElem?_eq_getElem h1)
    have h3 := hall (p.length - 1) p[p.length - 1] (by omega) (by rw [prefix_get hpre h1]; exact List.getElem?_eq_getElem h1)
    omega
theorem formed_at {l p : List UInt8} (hp : Formed p) (hpre : p <+: l) {k : Nat} {c : UInt8} (hc : l[k]? = some c) (hc8 : c.toNat < 128) : p.length ≤ k + 1 := by
  rcases Nat.lt_or_ge (k + 1) p.length with h | h
  · have h1 : k < p.length := by omega
    have := hp.high k c (by rw [← prefix_get hpre h1]; exact hc) h
    omega
  · exact h

theorem takeN_none_of_all {l : List UInt8} {k : Nat} (hall : ∀ i c, i < k → l[i]? = some c → 128 ≤ c.toNat) (hk : l.length ≤ k ∨ 10 ≤ k) : takeN l = none := by
  cases h : takeN l with
  | none => rfl
  | some r =>
    obtain ⟨v, m⟩ := r
    obtain ⟨h1, h2, h3⟩ := (takeN_iff _ _ _).1 h
    have := formed_end (formed_shortL v h1) h3 hall
    have h4 := h3.length_le
    have h5 := shortL_len v
    omega

theorem takeN_at {l : List UInt8} {k : Nat} {c : UInt8} (hall : ∀ i c, i < k → l[i]? = some c → 128 ≤ c.toNat) (hc : l[k]? = some c) (hc8 : c.toNat < 128) (_hk : k < 10) :
    takeN l = if l.take (k + 1) = shortL (valL (l.take (k + 1)) % 2 ^ 64) then some (valL (l.take (k + 1)) % 2 ^ 64, k + 1) else none := by
  have hkl : k < l.length := by
    rcases Nat.lt_or_ge k l.length with h | h
    · exact h
    · rw [List.getElem?_eq_none h] at hc; cases hc
  split
  · rename_i e
    rw [takeN_iff]
    refine ⟨Nat.mod_lt _ (by decide), ?_, ?_⟩
    · rw [← e]; simp; omega
    · rw [← e]; exact List.take_prefix _ _
  · rename_i e
    cases h : takeN l with
    | none => rfl
    | some r =>
      exfalso
      obtain ⟨v, m⟩ := r
      obtain ⟨h1, h2, h3⟩ := (takeN_iff _ _ _).1 h
      have g1 := formed_end (formed_shortL v h1) h3 hall
      have g2 := formed_at (formed_shortL v h1) h3 hc hc8
      have g3 : (shortL v).length = k + 1 := by omega
      have g4 : l.take (k + 1) = shortL v := by rw [← g3]; exact (List.prefix_iff_eq_take.1 h3).symm
      apply e
      rw [g4, valL_shortL v h1, Nat.mod_eq_of_lt h1]

theorem valL_snoc (p : List UInt8) (c : UInt8) : valL (p ++ [c]) = valL p + 128 ^ p.length * (c.toNat % 128) := by
  induction p with
  | nil => simp [valL]
  | cons d p ih =>
    simp only [List.cons_append, valL, ih, List.length_cons, Nat.pow_succ]
    rw [Nat.mul_add, ← Nat.add_assoc]
    congr 1
    ac_rfl
theorem take_snoc' {l : List UInt8} {k : Nat} {c : UInt8} (hc : l[k]? = some c) : l.take (k + 1) = l.take k ++ [c] := by
  rw [List.take_add_one, hc]; rfl
end Go.Proofs.Ytkdjjdkcogolmaa
end

section
/-
  Contracts: the reference's TakeFour, Take, TakeText, PutText.
-/
namespace Go.Proofs.Ytkdjjdkcogolmaa
set_option maxRecDepth 100000
open Go.RowKit

/-- What bytes say, eight bits each, the lowest first. -/
def leV : List UInt8 → Nat
  | [] => 0
  | c :: l => c.toNat + 256 * leV l

theorem tup3 {k : IntKind} {a b : Int} {y z : Value} (h : a = b) : Ending.returned (.tuple #[.int k a, y, z]) = .returned (.tuple #[.int k b, y, z]) := by rw [h]

/-- A tuple of a number, a fresh row of bytes, and a bool. -/
def RetNB (w : World) (k : IntKind) (x : Nat) (l : List UInt8) (ok : Bool) (e : Ending) (w' : World) : Prop :=
  ∃ A n c, e = .returned (.tuple #[.int k (x : Int), .slice A n c, .bool ok]) ∧ Fr w' w.heap.size 5 A n c (bv l) ∧ Below w.heap.size w w'

theorem four_form {l : List UInt8} (h : 4 ≤ l.length) : ∃ x0 x1 x2 x3 r, l = x0 :: x1 :: x2 :: x3 :: r := by
  match l, h with
  | x0 :: x1 :: x2 :: x3 :: r, _ => exact ⟨_, _, _, _, _, rfl⟩
/-- The first four cells of a row. -/
structure Four (w : World) (b off : Nat) (x0 x1 x2 x3 : UInt8) : Prop where
  c0 : w.cell? ⟨b, off, none⟩ = some (.int .u8 (x0.toNat : Int))
  c1 : w.cell? ⟨b, off + 1, none⟩ = some (.int .u8 (x1.toNat : Int))
  c2 : w.cell? ⟨b, off + 2, none⟩ = some (.int .u8 (x2.toNat : Int))
  c3 : w.cell? ⟨b, off + 3, none⟩ = some (.int .u8 (x3.toNat : Int))
theorem Rd.four {w : World} {B n c : Nat} {A : Option Addr} {x0 x1 x2 x3 : UInt8} {r : List UInt8} (h : Rd w B A n c (bv (x0 :: x1 :: x2 :: x3 :: r))) : ∃ b off, A = some ⟨b, off, none⟩ ∧ Four w b off x0 x1 x2 x3 := by
  obtain ⟨b, off, rfl, _, hc⟩ := h.form (by have := h.len; simp at this; omega)
  exact ⟨b, off, rfl, hc 0 _ rfl, hc 1 _ rfl, hc 2 _ rfl, hc 3 _ rfl⟩

/-! ## The reference's Take -/
def TakePost (w : World) (l : List UInt8) (e : Ending) (w' : World) : Prop :=
  match takeN l with
  | some (v, m) => RetNB w .u64 v (l.drop m) true e w'
  | none => RetNB w .u64 0 [] false e w'
theorem TakePost.some {w : World} {l : List UInt8} {v m : Nat} {e : Ending} {w' : World} (h : takeN l = some (v, m)) (hp : RetNB w .u64 v (l.drop m) true e w') : TakePost w l e w' := by
  simp only [TakePost, h]; exact hp
theorem TakePost.none {w : World} {l : List UInt8} {e : Ending} {w' : World} (h : takeN l = none) (hp : RetNB w .u64 0 [] false e w') : TakePost w l e w' := by
  simp only [TakePost, h]; exact hp

structure TkRel (l : List UInt8) (n k X Y : Nat) : Prop where
  kn : k ≤ n
  k10 : k ≤ 10
  x : X = valL (l.take k) % 2 ^ 64
  y : Y = 128 ^ k % 2 ^ 64
  hall : ∀ i c, i < k → l[i]? = some c → 128 ≤ c.toNat

theorem wrapu (x : Int) : IntKind.u64.wrap x = x % 18446744073709551616 := by
  simp [IntKind.wrap, IntKind.bits, IntKind.signed]

theorem TkRel.xnext {l : List UInt8} {n k X Y : Nat} (h : TkRel l n k X Y) {c : UInt8} (hc : l[k]? = some c) :
    IntKind.u64.wrap ((X : Int) + IntKind.u64.wrap ((c.toNat : Int) % 128 * (Y : Int))) = ((valL (l.take (k + 1)) % 2 ^ 64 : Nat) : Int) := by
  have hk : k < l.length := by
    rcases Nat.lt_or_ge k l.length with h | h
    · exact h
    · rw [List.getElem?_eq_none h] at hc; cases hc
  rw [take_snoc' hc, valL_snoc, List.length_take, Nat.min_eq_left (by omega), wrapu, wrapu, h.x, h.y]
  have key : ∀ V M D : Nat, (V % 18446744073709551616 + (D * (M % 18446744073709551616)) % 18446744073709551616) % 18446744073709551616 = (V + M * D) % 18446744073709551616 := by
    intro V M D
    rw [Nat.mul_mod_mod, ← Nat.add_mod, Nat.mul_comm]
  have := congrArg (fun t : Nat => (t : Int)) (key (valL (l.take k)) (128 ^ k) (c.toNat % 128))
  refine Eq.trans ?_ this
  simp
  rw [Int.add_emod, Int.mul_emod, ← Int.mul_emod, ← Int.add_emod, Int.add_emod, Int.mul_emod, Int.emod_emod, ← Int.mul_emod, ← Int.add_emod]

theorem TkRel.ynext {l : List UInt8} {n k X Y : Nat} (h : TkRel l n k X Y) : IntKind.u64.wrap ((Y : Int) * 128) = ((128 ^ (k + 1) % 2 ^ 64 : Nat) : Int) := by
  rw [wrapu, h.y, show (128 : Nat) ^ (k + 1) = 128 ^ k * 128 from rfl, show (2 : Nat) ^ 64 = 18446744073709551616 from rfl]
  simp
  rw [Int.mul_emod, Int.emod_emod, ← Int.mul_emod]

theorem TkRel.next {l : List UInt8} {n k X Y : Nat} (h : TkRel l n k X Y) {c : UInt8} (hl : l.length = n) (hc : l[k]? = some c) (h8 : 128 ≤ c.toNat) (hk : k < 10) :
    TkRel l n (k + 1) (valL (l.take (k + 1)) % 2 ^ 64) (128 ^ (k + 1) % 2 ^ 64) := by
  have hkn : k < l.length := by
    rcases Nat.lt_or_ge k l.length with h | h
    · exact h
    · rw [List.getElem?_eq_none h] at hc; cases hc
  refine ⟨by omega, by omega, rfl, rfl, fun i d hi hd => ?_⟩
  by_cases e : i = k
  · subst e; rw [hc] at hd; cases hd; exact h8
  · exact h.hall i d (by omega) hd

end Go.Proofs.Ytkdjjdkcogolmaa
end

section
/-
  Contracts: the reference's PutText, TakeText.
-/
namespace Go.Proofs.Ytkdjjdkcogolmaa
set_option maxRecDepth 100000
open Go.RowKit

def textL (s : ByteArray) : List UInt8 := shortL s.size ++ s.data.toList

/-- The text that bytes begin with, of at most so many bytes; and the rest. -/
def textTake (l : List UInt8) (most : Int) : Option (List UInt8 × List UInt8) :=
  match takeN l with
  | some (v, m) => if 0 ≤ most ∧ (v : Int) ≤ most ∧ v ≤ (l.drop m).length then some ((l.drop m).take v, (l.drop m).drop v) else none
  | none => none

def RetSB (w : World) (s l : List UInt8) (ok : Bool) (e : Ending) (w' : World) : Prop :=
  ∃ A n c, e = .returned (.tuple #[.string ⟨s.toArray⟩, .slice A n c, .bool ok]) ∧ Fr w' w.heap.size 5 A n c (bv l) ∧ Below w.heap.size w w'
def TextPost (w : World) (l : List UInt8) (most : Int) (e : Ending) (w' : World) : Prop :=
  match textTake l most with
  | some (s, r) => RetSB w s r true e w'
  | none => RetSB w [] [] false e w'
theorem TextPost.some {w : World} {l s r : List UInt8} {most : Int} {e : Ending} {w' : World} (h : textTake l most = some (s, r)) (hp : RetSB w s r true e w') : TextPost w l most e w' := by
  simp only [TextPost, h]; exact hp
theorem TextPost.none {w : World} {l : List UInt8} {most : Int} {e : Ending} {w' : World} (h : textTake l most = none) (hp : RetSB w [] [] false e w') : TextPost w l most e w' := by
  simp only [TextPost, h]; exact hp

end Go.Proofs.Ytkdjjdkcogolmaa
end
