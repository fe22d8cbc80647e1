/-
  Contracts: a disk that is none: made, valid, with, count, change.
-/
import Derived.Test.YtkabgebfbbkioabRows
import Derived.Test.YtkabgebfbbkioabBase
import Derived.WalkKit
import Derived.WalkLawsBesides
import Derived.WalkSpells
import Derived.Outline
import Derived.Deep.DeepFit
import Derived.LaidEqlPtr
import Derived.Lib.MinMax
namespace Go.Proofs.Ytkabgebfbbkioab
open Go.RowKit

/-- nil is no pointer to something. -/
theorem run_eql_nilptr (w : World) (a : Addr) : (binOp BinOp.eql 24 (Value.pointer none) (Value.pointer (some a))).run Try.prog w = .ok (.bool false) w := by
  simp only [binOp, Op.equal, Op.maxDepth, bind_pure_comp, Sem.run_map]
  unfold Op.equalIn
  simp [go_sem]

/-- A disk that is none: nil, or one whose first cell is nil. -/
def NoDisk (w : World) (v : Option Addr) : Prop := ∀ a, v = some a → w.cell? a = some (.pointer none) ∧ a.spot = none

set_option maxRecDepth 100000 in
theorem made_none {w : World} {v : Option Addr} (h : NoDisk w v) :
    Calls Try.prog 38 #[.pointer v] w fun e w' => e = .returned (.bool false) ∧ w = w' := by
  cases v with
  | none =>
    clear h
    go_enter Try.func38, Try.ntmps38
    go_wp2
    go_ret
    exact ⟨rfl, rfl⟩
  | some a =>
    obtain ⟨b, o, pt⟩ := a
    obtain ⟨h1, h2⟩ := h _ rfl
    cases h2
    clear h
    have q := fun (w : World) (a : Addr) => run_eql_nilptr w a
    go_enter Try.func38, Try.ntmps38
    go_wp2
    go_ret
    exact ⟨rfl, rfl⟩

def validB (s : ByteArray) : Bool := decide (1 ≤ s.size) && decide (s.size ≤ 40)

theorem valid_c {w : World} {s : ByteArray} :
    Calls Try.prog 29 #[.string s] w fun e w' => e = .returned (.bool (validB s)) ∧ w = w' := by
  by_cases h1 : 1 ≤ s.size
  · go_enter Try.func29, Try.ntmps29
    go_wp2
    go_ret
    refine ⟨?_, rfl⟩
    show Ending.returned (.bool (decide ((s.size : Int) ≤ 40))) = _
    have e : decide ((s.size : Int) ≤ 40) = decide (s.size ≤ 40) := decide_eq_decide.2 (by omega)
    simp [validB, h1, e]
  · go_enter Try.func29, Try.ntmps29
    go_wp2
    go_ret
    refine ⟨?_, rfl⟩
    show Ending.returned (.bool false) = _
    simp [validB, h1]

set_option maxRecDepth 100000 in
theorem with_none {w : World} {v : Option Addr} (h : NoDisk w v) (s : ByteArray) (f : Value) :
    Calls Try.prog 20 #[.pointer v, .string s, f] w fun e w' => e = .returned (.int .i64 1) ∧ w = w' := by
  go_enter Try.func20, Try.ntmps20
  go_wp2_with fail
  refine (made_none h).mono ?_
  rintro e w1 ⟨rfl, rfl⟩
  go_wp2
  go_ret
  exact ⟨rfl, rfl⟩

set_option maxRecDepth 100000 in
theorem count_none {w : World} {v : Option Addr} (h : NoDisk w v) (f : Value) :
    Calls Try.prog 27 #[.pointer v, f] w fun e w' => e = .returned (.int .i64 1) ∧ w = w' := by
  go_enter Try.func27, Try.ntmps27
  go_wp2_with fail
  refine (made_none h).mono ?_
  rintro e w1 ⟨rfl, rfl⟩
  go_wp2
  go_ret
  exact ⟨rfl, rfl⟩

theorem NoDisk.alloc {w : World} {v : Option Addr} (h : NoDisk w v) (o : Obj) : NoDisk (w.alloc o) v := by
  intro a e
  obtain ⟨h1, h2⟩ := h a e
  refine ⟨?_, h2⟩
  have hlt : a.block < w.heap.size := by
    rcases Nat.lt_or_ge a.block w.heap.size with h | h
    · exact h
    · simp [World.cell?, Array.getElem?_eq_none h] at h1
  obtain ⟨b, o', p⟩ := a
  cases h2
  exact (World.cell?_alloc_past o b o' hlt).trans h1

/-- What is asked of nothing: the error, and nothing that was there has turned. -/
def RetNil (w : World) (e : Ending) (w' : World) : Prop := e = .returned (.int .i64 1) ∧ Below w.heap.size w w'

set_option maxRecDepth 100000 in
theorem change_none {w : World} {v : Option Addr} (h : NoDisk w v) (s : ByteArray) (fn : Fn) (fs cs : Array Value) :
    Calls Try.prog 30 #[.pointer v, .string s, .func fn fs cs] w (RetNil w) := by
  have h3 := ((h.alloc (.cells #[.pointer v] 24)).alloc (.cells #[.string s] 9)).alloc (.cells #[.func fn fs cs] 62)
  have hmf : ∀ (fn : Fn) (first cap : Array Value) (w : World), (Instr.makeFunc fn first cap).run Try.prog w = .ok (.func fn first cap) w := fun _ _ _ _ => rfl
  go_enter Try.func30, Try.ntmps30
  go_wp2_with fail
  refine (count_none h3 _).mono ?_
  rintro e w1 ⟨rfl, rfl⟩
  go_wp2
  go_ret
  exact ⟨rfl, (((Below.refl _ _).alloc (Nat.le_refl _) _).alloc (by simp) _).alloc (by simp; omega) _⟩
end Go.Proofs.Ytkabgebfbbkioab
