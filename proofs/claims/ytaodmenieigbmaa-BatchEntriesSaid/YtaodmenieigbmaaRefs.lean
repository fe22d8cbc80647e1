/-
  Contracts: the reference's same, Take, TakeText, PutText, PutFour, TakeFour.
-/
import Derived.Test.YtaodmenieigbmaaPut
import Derived.Deep.QuietTactic
import Derived.BigQuiet
namespace Go.Proofs.Ytaodmenieigbmaa
open Go.RowKit

theorem take_beq_short {l hd : List UInt8} (h : l.length < hd.length) : (l.take hd.length == hd) = false := by
  rw [beq_eq_false_iff_ne]
  intro e
  have := congrArg List.length e
  simp at this; omega

set_option maxRecDepth 100000 in
set_option maxHeartbeats 400000 in
theorem refSame_c {w : World} {B1 B2 n1 c1 n2 c2 : Nat} {A1 A2 : Option Addr} {l hd : List UInt8} (h1 : Rd w B1 A1 n1 c1 (bv l)) (h2 : Rd w B2 A2 n2 c2 (bv hd)) :
    Calls Try.prog 45 #[.slice A1 n1 c1, .slice A2 n2 c2] w fun e w' => e = .returned (.bool (l.take hd.length == hd)) ∧ ∃ k, w' = w.drewN k := by
  have l1 : l.length = n1 := by simpa using h1.len
  have l2 : hd.length = n2 := by simpa using h2.len
  have k1 := h1.cap
  by_cases hge : n2 ≤ n1
  · have r2 := fun q => run_str (P := Try.prog) (h2.drewN q) 23 9 5 Try.underlying23 Try.underlying5 Try.underlying9
    have hf := h1.front hge
    rw [show (bv l).take n2 = bv (l.take n2) by simp [bv]] at hf
    have r1 := fun q => run_str (P := Try.prog) (hf.drewN q) 23 9 5 Try.underlying23 Try.underlying5 Try.underlying9
    have hs := fun W => run_slice_hi_gen (P := Try.prog) (n := n1) (A := A1) 23 5 Try.underlying23 info_u8 .i64 (k := n2) (c := c1) (by omega) W
    have hd1 : decide ((n2 : Int) ≤ (n1 : Int)) = true := by simp; omega
    have hd2 : decide (n2 ≤ n1) = true := by simp; omega
    have HL := Lib.hid l2
    clear l1 l2 h1 h2 hf k1
    go_enter Try.func45, Try.ntmps45
    go_wp2
    go_quiet (fail)
    go_wp2
    go_ret
    exact ⟨by rw [HL.out]; rfl, _, rfl⟩
  · have hd1 : decide ((n2 : Int) ≤ (n1 : Int)) = false := by simp; omega
    have hd2 : decide (n2 ≤ n1) = false := by simp; omega
    have hfin := take_beq_short (l := l) (hd := hd) (by omega)
    clear l1 l2 h1 h2 k1
    have HF := Lib.hid hfin
    clear hfin
    go_enter Try.func45, Try.ntmps45
    go_wp2
    go_quiet (fail)
    go_wp2
    go_ret
    exact ⟨by rw [HF.out]; rfl, _, rfl⟩

/-! ## The reference's PutFour, TakeFour, PutText -/
/-- Bytes of a number, the lowest eight bits first. -/
def leL : Nat → Nat → List UInt8
  | 0, _ => []
  | k + 1, x => byteOf (x % 256) :: leL k (x / 256)
/-- The four bytes of a number below 2^32. -/
def fourL (x : Nat) : List UInt8 := leL 4 x

structure FourRel (w : World) (l : List UInt8) (x : Nat) (out xv iv : Value) (wr : World) (A : Option Addr) (n c y k : Nat) (p : List UInt8) : Prop where
  o : out = .slice A n c
  v : xv = .int .u32 (y : Int)
  i : iv = .int .i64 (k : Int)
  fr : Fr wr w.heap.size 5 A n c (bv (l ++ p))
  below : Below w.heap.size w wr
  eq : p ++ leL (4 - k) y = fourL x
  le : (y : Int) ≤ 4294967295
  kle : k ≤ 4
  sm : n ≤ 70368744177664 + k

theorem FourRel.step {w : World} {l : List UInt8} {x : Nat} {wr : World} {A : Option Addr} {n c y k : Nat} {p : List UInt8} {o v i : Value} (h : FourRel w l x o v i wr A n c y k p) (hk : k < 4)
    {A' : Option Addr} {c' : Nat} {w' : World} {e : Value} (he : e = b8 (byteOf (y % 256))) (hap : App (wr.alloc (.cells #[e] 5)) w' w.heap.size 5 (.slice A n c) A' (n + 1) c' (bv (l ++ p) ++ [e])) :
    FourRel w l x (.slice A' (n + 1) c') (.int .u32 ((y : Int) / 256)) (.int .i64 ((k : Int) + 1)) w' A' (n + 1) c' (y / 256) (k + 1) (p ++ [byteOf (y % 256)]) := by
  have hE := h.eq
  rw [show 4 - k = (4 - (k + 1)) + 1 by omega] at hE
  simp only [leL] at hE
  refine ⟨rfl, by simp, by simp, ?_, ?_, ?_, ?_, by omega, by have := h.sm; omega⟩
  · subst he
    have := hap.fr
    simpa [bv, b8, List.append_assoc] using this
  · exact (h.below.alloc h.below.size _).trans hap.below
  · rw [← hE]; simp
  · have := h.le; omega

end Go.Proofs.Ytaodmenieigbmaa
