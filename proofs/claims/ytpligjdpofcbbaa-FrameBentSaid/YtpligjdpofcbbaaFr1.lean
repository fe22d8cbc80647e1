/-
  Words and plain mathematics for four bytes. No contract of the program stands here.
-/
import Derived.Test.YtpligjdpofcbbaaSame
import Derived.IntWalk
import Derived.Deep.QuietTactic
import Derived.BigQuiet
import Derived.LoopN
import Derived.Deep.RegionWith
import Derived.Lib.MinMax
import Derived.Laws.BitsAllLaws
namespace Go.Proofs.Ytpligjdpofcbbaa
open Go.RowKit

def byteOf (n : Nat) : UInt8 := UInt8.ofNat n
theorem byteOf_toNat {n : Nat} (h : n < 256) : (byteOf n).toNat = n := by simp [byteOf, UInt8.toNat_ofNat']; omega
theorem u8_byte (m : Nat) (h : m < 256) : Value.int .u8 (m : Int) = b8 (byteOf m) := by
  simp only [b8, byteOf_toNat h]
/-- Bytes of a number, the lowest eight bits first. -/
def leL : Nat → Nat → List UInt8
  | 0, _ => []
  | k + 1, x => byteOf (x % 256) :: leL k (x / 256)
/-- The four bytes of a number below 2^32. -/
def fourL (x : Nat) : List UInt8 := leL 4 x
structure FourRel (w : World) (l : List UInt8) (x : Nat) (out xv iv : Value) (wr : World) (A : Option Addr) (n c y k : Nat) (p : List UInt8) : Prop where
  o : out = .slice A n c
  v : xv = .int .u32 (y : Int)
  i : iv = .int .i64 (k : Int)
  fr : Fr wr w.heap.size 5 A n c (bv (l ++ p))
  below : Below w.heap.size w wr
  eq : p ++ leL (4 - k) y = fourL x
  le : (y : Int) ≤ 4294967295
  kle : k ≤ 4
  sm : n ≤ 70368744177664 + k
theorem FourRel.step {w : World} {l : List UInt8} {x : Nat} {wr : World} {A : Option Addr} {n c y k : Nat} {p : List UInt8} {o v i : Value} (h : FourRel w l x o v i wr A n c y k p) (hk : k < 4)
    {A' : Option Addr} {c' : Nat} {w' : World} {e : Value} (he : e = b8 (byteOf (y % 256))) (hap : App (wr.alloc (.cells #[e] 5)) w' w.heap.size 5 (.slice A n c) A' (n + 1) c' (bv (l ++ p) ++ [e])) :
    FourRel w l x (.slice A' (n + 1) c') (.int .u32 ((y : Int) / 256)) (.int .i64 ((k : Int) + 1)) w' A' (n + 1) c' (y / 256) (k + 1) (p ++ [byteOf (y % 256)]) := by
  have hE := h.eq
  rw [show 4 - k = (4 - (k + 1)) + 1 by omega] at hE
  simp only [leL] at hE
  refine ⟨rfl, by simp, by simp, ?_, ?_, ?_, ?_, by omega, by have := h.sm; omega⟩
  · subst he
    have := hap.fr
    simpa [bv, b8, List.append_assoc] using this
  · exact (h.below.alloc h.below.size _).trans hap.below
  · rw [← hE]; simp
  · have := h.le; omega
/-- What bytes say, eight bits each, the lowest first. -/
def leV : List UInt8 → Nat
  | [] => 0
  | c :: l => c.toNat + 256 * leV l
theorem tup3 {k : IntKind} {a b : Int} {y z : Value} (h : a = b) : Ending.returned (.tuple #[.int k a, y, z]) = .returned (.tuple #[.int k b, y, z]) := by rw [h]
/-- A tuple of a number, a fresh row of bytes, and a bool. -/
def RetNB (w : World) (k : IntKind) (x : Nat) (l : List UInt8) (ok : Bool) (e : Ending) (w' : World) : Prop :=
  ∃ A n c, e = .returned (.tuple #[.int k (x : Int), .slice A n c, .bool ok]) ∧ Fr w' w.heap.size 5 A n c (bv l) ∧ Below w.heap.size w w'
theorem four_form {l : List UInt8} (h : 4 ≤ l.length) : ∃ x0 x1 x2 x3 r, l = x0 :: x1 :: x2 :: x3 :: r := by
  match l, h with
  | x0 :: x1 :: x2 :: x3 :: r, _ => exact ⟨_, _, _, _, _, rfl⟩
/-- The first four cells of a row. -/
structure Four (w : World) (b off : Nat) (x0 x1 x2 x3 : UInt8) : Prop where
  c0 : w.cell? ⟨b, off, none⟩ = some (.int .u8 (x0.toNat : Int))
  c1 : w.cell? ⟨b, off + 1, none⟩ = some (.int .u8 (x1.toNat : Int))
  c2 : w.cell? ⟨b, off + 2, none⟩ = some (.int .u8 (x2.toNat : Int))
  c3 : w.cell? ⟨b, off + 3, none⟩ = some (.int .u8 (x3.toNat : Int))
theorem Rd.four {w : World} {B n c : Nat} {A : Option Addr} {x0 x1 x2 x3 : UInt8} {r : List UInt8} (h : Rd w B A n c (bv (x0 :: x1 :: x2 :: x3 :: r))) : ∃ b off, A = some ⟨b, off, none⟩ ∧ Four w b off x0 x1 x2 x3 := by
  obtain ⟨b, off, rfl, _, hc⟩ := h.form (by have := h.len; simp at this; omega)
  exact ⟨b, off, rfl, hc 0 _ rfl, hc 1 _ rfl, hc 2 _ rfl, hc 3 _ rfl⟩
theorem bv_drop (l : List UInt8) (k : Nat) : (bv l).drop k = bv (l.drop k) := by simp [bv]
theorem bv_take (l : List UInt8) (k : Nat) : (bv l).take k = bv (l.take k) := by simp [bv]
theorem u32_or_add (a b i : Nat) (ha : a < 2 ^ i) (hb : a + b * 2 ^ i < 4294967296) : bits .or .u32 (a : Int) ((b * 2 ^ i : Nat) : Int) = ((a + b * 2 ^ i : Nat) : Int) := by
  have h1 : 0 ≤ b * 2 ^ i := Nat.zero_le _
  rw [u32_or_nat _ _ (by omega) (by omega)]
  congr 1
  rw [Nat.or_comm, Nat.mul_comm b, ← Nat.two_pow_add_eq_or_of_lt ha]
  omega
theorem four_or (x0 x1 x2 x3 : UInt8) : bits .or .u32 (bits .or .u32 (bits .or .u32 (bits .or .u32 0 (x0.toNat : Int)) ((x1.toNat : Int) * 256)) ((x2.toNat : Int) * 65536)) ((x3.toNat : Int) * 16777216) = ((leV [x0, x1, x2, x3] : Nat) : Int) := by
  have b0 : x0.toNat < 256 := x0.toNat_lt
  have b1 : x1.toNat < 256 := x1.toNat_lt
  have b2 : x2.toNat < 256 := x2.toNat_lt
  have b3 : x3.toNat < 256 := x3.toNat_lt
  have e0 : bits .or .u32 0 (x0.toNat : Int) = (x0.toNat : Int) := by
    have := u32_or_nat 0 x0.toNat (by omega) (by omega)
    simpa using this
  have e1 := u32_or_add x0.toNat x1.toNat 8 (by omega) (by omega)
  have e2 := u32_or_add (x0.toNat + x1.toNat * 2 ^ 8) x2.toNat 16 (by omega) (by omega)
  have e3 := u32_or_add (x0.toNat + x1.toNat * 2 ^ 8 + x2.toNat * 2 ^ 16) x3.toNat 24 (by omega) (by omega)
  rw [e0, show (x1.toNat : Int) * 256 = ((x1.toNat * 2 ^ 8 : Nat) : Int) by omega, e1, show (x2.toNat : Int) * 65536 = ((x2.toNat * 2 ^ 16 : Nat) : Int) by omega, e2,
    show (x3.toNat : Int) * 16777216 = ((x3.toNat * 2 ^ 24 : Nat) : Int) by omega, e3]
  simp only [leV]
  omega
theorem wpList_app_g {P : Program} {ops : Array Oper} {rest : List Oper} {o : Oper} {a : Act} {Q : Exit → Act → World → Prop} {w : World} (hgd : Region.wanted o (yielded ops a.tmps) = true) (s x : Operand) (t : TypeId)
    (ho : o.op = .call { callee := .builtin .append, args := #[s, x], argTypes := #[t, t] })
    {b : Nat} {e : TypeId} {z : Value} {by_ : Nat} (ht : P.underlying t = some (.slice e)) (hinf : (P.info? e).map (fun i => (i.zero, i.size, i.bytes)) = some (some z, 1, by_)) (hz : z.cells.size = 1)
    {A : Option Addr} {n c : Nat} {xs : List Value} (hs : a.eval s = .slice A n c) (h : Fr w b e A n c xs)
    {B m c2 : Nat} {A2 : Option Addr} {news : List Value} (hx : a.eval x = .slice A2 m c2) (hr : Rd w B A2 m c2 news) (h1 : ∀ u ∈ news, u.oneCell' = true)
    (hby : (n + m) * by_ ≤ 140737488355328) (h63 : n + m ≤ 140737488355328) (hb : b ≤ w.heap.size)
    (hk : ∀ A' c' w', App w w' b e (.slice A n c) A' (n + m) c' (xs ++ news) → wpList P ops Q rest (a.put o.dst (.slice A' (n + m) c')) w') : wpList P ops Q (o :: rest) a w :=
  wpList_step fun K hK => by
    rw [if_pos hgd]
    obtain ⟨A', c', w', hrun, h2⟩ := run_app (P := P) w t o.type e ht hinf hz h hr h1 hby h63 hb
    unfold Oper.wp execOp
    simp only [ho, resolve, invoke, builtin, Sem.run_bind, Sem.run_pure, Result.andThen_ok, List.map_toArray, List.map_cons, List.map_nil, hs, hx, hrun]
    exact hK _ _ (hk A' c' w' h2)
theorem leV_leL : ∀ (k x : Nat), x < 256 ^ k → leV (leL k x) = x := by
  intro k
  induction k with
  | zero => intro x h; simp at h; subst h; rfl
  | succ k ih =>
    intro x h
    simp only [leL, leV, byteOf_toNat (show x % 256 < 256 by omega)]
    rw [ih (x / 256) (by rw [Nat.div_lt_iff_lt_mul (by omega)]; rw [Nat.pow_succ] at h; exact h)]
    omega
theorem leL_leV : ∀ (l : List UInt8), leL l.length (leV l) = l := by
  intro l
  induction l with
  | nil => rfl
  | cons c l ih =>
    have hc : c.toNat < 256 := c.toNat_lt
    simp only [List.length_cons, leL, leV]
    rw [show (c.toNat + 256 * leV l) / 256 = leV l by omega, ih]
    congr 1
    apply UInt8.toNat_inj.1
    rw [byteOf_toNat (by omega)]; omega
theorem leV_lt : ∀ (l : List UInt8), leV l < 256 ^ l.length := by
  intro l
  induction l with
  | nil => simp [leV]
  | cons c l ih =>
    have hc : c.toNat < 256 := c.toNat_lt
    simp only [leV, List.length_cons, Nat.pow_succ]
    omega
theorem fourL_len (x : Nat) : (fourL x).length = 4 := rfl
theorem four_take (x : Nat) (h : x < 4294967296) (r : List UInt8) : leV ((fourL x ++ r).take 4) = x ∧ (fourL x ++ r).drop 4 = r ∧ 4 ≤ (fourL x ++ r).length := by
  refine ⟨?_, ?_, by rw [List.length_append, fourL_len]; omega⟩
  · rw [show (4 : Nat) = (fourL x).length from rfl, List.take_left]
    exact leV_leL 4 x (by simpa using h)
  · rw [show (4 : Nat) = (fourL x).length from rfl, List.drop_left]
theorem four_put {l : List UInt8} (h : 4 ≤ l.length) : fourL (leV (l.take 4)) ++ l.drop 4 = l ∧ leV (l.take 4) ≤ 4294967295 := by
  have hl : (l.take 4).length = 4 := by simp; omega
  refine ⟨?_, ?_⟩
  · have := leL_leV (l.take 4)
    rw [hl] at this
    unfold fourL
    rw [this, List.take_append_drop]
  · have := leV_lt (l.take 4)
    rw [hl] at this
    simp at this; omega
end Go.Proofs.Ytpligjdpofcbbaa
