/-
  The chapter's example, of the disk as it is seen.
-/
import Derived.Test.YtkabgebfbbkioabDk21
namespace Go.Proofs.Ytkabgebfbbkioab
open Go.RowKit Go.Maps

def pl0 : DataW Unit := .map [(.int .i64 4, .lit (.int .i64 1)), (.int .i64 6, .lit (.int .i64 0))]
theorem pl0_eq : partsD [4, 6] [1, 0] 2 = pl0 := by rfl
def mA (u k : Int) (f : List UInt8) (s : Nat) : MD := ⟨5, u, k, pl0, [([97], f, s)]⟩
def nA : ByteArray := ⟨#[97]⟩
def nB : ByteArray := ⟨#[98]⟩
theorem ex1 : createM ⟨5, 0, 0, pl0, []⟩ nA = (mA 0 1 [] 0, 0) := by rfl
theorem ex2 : appendM (mA 0 1 [] 0) nA [120, 121] = (mA 2 2 [120, 121] 0, 0) := by rfl
theorem ex3 : syncM (mA 2 2 [120, 121] 0) nA = (mA 2 3 [120, 121] 2, 0) := by rfl
theorem ex4 : appendM (mA 2 3 [120, 121] 2) nA [122, 119] = (mA 3 4 [120, 121, 122] 2, 12) := by rfl
theorem ex5 : readM (mA 3 4 [120, 121, 122] 2) nA = ([120, 121, 122], 0) := by rfl
theorem ex6 : crashM (mA 3 4 [120, 121, 122] 2) [] = mA 2 4 [120, 121] 2 := by rfl
theorem ex7 : readM (mA 2 4 [120, 121] 2) nA = ([120, 121], 0) := by rfl
theorem ex8 : appendM (mA 2 4 [120, 121] 2) nA [112, 113, 114, 115] = (mA 2 5 [120, 121] 2, 13) := by rfl
theorem ex9 : appendM (mA 2 5 [120, 121] 2) nA [112, 113] = (mA 2 6 [120, 121] 2, 12) := by rfl
theorem ex10 : appendM (mA 2 6 [120, 121] 2) nA [112, 113, 114] = (mA 5 7 [120, 121, 112, 113, 114] 2, 0) := by rfl
theorem ex11 : looseM (mA 5 7 [120, 121, 112, 113, 114] 2) nA = (3, 0) := by rfl
theorem ex12 : crashM (mA 5 7 [120, 121, 112, 113, 114] 2) [2] = mA 4 7 [120, 121, 112, 113] 4 := by rfl
theorem ex13 : readM (mA 4 7 [120, 121, 112, 113] 4) nA = ([120, 121, 112, 113], 0) := by rfl
theorem ex14 : renameM (mA 4 7 [120, 121, 112, 113] 4) nA nB = (⟨5, 4, 8, pl0, [([98], [120, 121, 112, 113], 4)]⟩, 0) := by rfl
theorem ex15 : readM ⟨5, 4, 8, pl0, [([98], [120, 121, 112, 113], 4)]⟩ nB = ([120, 121, 112, 113], 0) := by rfl
theorem ex16 : createM ⟨5, 4, 8, pl0, [([98], [120, 121, 112, 113], 4)]⟩ nB = (⟨5, 4, 9, pl0, [([98], [120, 121, 112, 113], 4)]⟩, 11) := by rfl

theorem good0 : Good ⟨5, 0, 0, pl0, []⟩ := ⟨rfl, by decide, by decide, by decide, by decide, by decide, by decide, by simp, by decide⟩
theorem goodA {u k : Int} {f : List UInt8} {s : Nat} (h1 : u = (f.length : Int)) (h2 : u ≤ 5) (h3 : 0 ≤ k) (h4 : k ≤ 9) (h5 : 0 ≤ partOf pl0 (k + 1)) : Good (mA u k f s) :=
  ⟨by simp [mA, sumM, h1], h2, by simp only [mA]; omega, by simp [mA], h3, by simp only [mA]; omega, h5, by simp [mA]; decide, by simp [mA]⟩
theorem goodB : Good ⟨5, 4, 8, pl0, [([98], [120, 121, 112, 113], 4)]⟩ := ⟨rfl, by decide, by decide, by decide, by decide, by decide, by decide, by simp; decide, by decide⟩
theorem gA (u k : Int) (f : List UInt8) (s : Nat) (h : (u = (f.length : Int) ∧ u ≤ 5 ∧ 0 ≤ k ∧ k ≤ 9 ∧ 0 ≤ partOf pl0 (k + 1)) := by decide) : Good (mA u k f s) := goodA h.1 h.2.1 h.2.2.1 h.2.2.2.1 h.2.2.2.2
example : Good (mA 5 7 [120, 121, 112, 113, 114] 2) := gA _ _ _ _
end Go.Proofs.Ytkabgebfbbkioab
