/-
  Contracts: what a disk that is none answers.
-/
import Derived.Test.YtkabgebfbbkioabDk1
namespace Go.Proofs.Ytkabgebfbbkioab
open Go.RowKit

theorem NoDisk.below {w w' : World} {v : Option Addr} {B : Nat} (h : NoDisk w v) (hb : Below B w w') (hB : w.heap.size ≤ B) : NoDisk w' v := by
  intro a e
  obtain ⟨h1, h2⟩ := h a e
  have hlt : a.block < w.heap.size := by
    rcases Nat.lt_or_ge a.block w.heap.size with h | h
    · exact h
    · simp [World.cell?, Array.getElem?_eq_none h] at h1
  exact ⟨(hb.cell (Nat.lt_of_lt_of_le hlt hB)).trans h1, h2⟩

theorem RetNil.up {a w w' : World} {e : Ending} (h : RetNil w e w') (hb : Below a.heap.size a w) : RetNil a e w' := ⟨h.1, hb.trans (h.2.mono hb.size)⟩

set_option maxRecDepth 100000 in
theorem create_none {w : World} {v : Option Addr} (h : NoDisk w v) (s : ByteArray) :
    Calls Try.prog 9 #[.pointer v, .string s] w (RetNil w) := by
  have h3 := ((h.alloc (.cells #[.pointer v] 24)).alloc (.cells #[.string s] 9))
  have hb : Below w.heap.size w _ := (((Below.refl _ _).alloc (by simp) (.cells #[.pointer v] 24)).alloc (by simp) (.cells #[.string s] 9))
  have hmf : ∀ (fn : Fn) (first cap : Array Value) (w : World), (Instr.makeFunc fn first cap).run Try.prog w = .ok (.func fn first cap) w := fun _ _ _ _ => rfl
  go_enter Try.func9, Try.ntmps9
  go_wp2_with fail
  refine (count_none h3 _).mono ?_
  rintro e w1 ⟨rfl, hb1⟩
  go_wp2
  go_ret
  exact ⟨rfl, hb1 ▸ hb⟩

set_option maxRecDepth 100000 in
theorem append_none {w : World} {v : Option Addr} (h : NoDisk w v) (s : ByteArray) (A : Option Addr) (n c : Nat) :
    Calls Try.prog 10 #[.pointer v, .string s, .slice A n c] w (RetNil w) := by
  have h3 := ((h.alloc (.cells #[.pointer v] 24)).alloc (.cells #[.slice A n c] 22))
  have hb : Below w.heap.size w _ := (((Below.refl _ _).alloc (by simp) (.cells #[.pointer v] 24)).alloc (by simp) (.cells #[.slice A n c] 22))
  have hmf : ∀ (fn : Fn) (first cap : Array Value) (w : World), (Instr.makeFunc fn first cap).run Try.prog w = .ok (.func fn first cap) w := fun _ _ _ _ => rfl
  go_enter Try.func10, Try.ntmps10
  go_wp2_with fail
  refine (change_none h3 _ _ _ _).mono ?_
  rintro e w1 ⟨rfl, hb1⟩
  go_wp2
  go_ret
  exact ⟨rfl, hb.trans (hb1.mono hb.size)⟩

set_option maxRecDepth 100000 in
theorem sync_none {w : World} {v : Option Addr} (h : NoDisk w v) (s : ByteArray) :
    Calls Try.prog 11 #[.pointer v, .string s] w (RetNil w) := by
  have hb : Below w.heap.size w _ := (Below.refl _ _)
  have hmf : ∀ (fn : Fn) (first cap : Array Value) (w : World), (Instr.makeFunc fn first cap).run Try.prog w = .ok (.func fn first cap) w := fun _ _ _ _ => rfl
  go_enter Try.func11, Try.ntmps11
  go_wp2_with fail
  refine (change_none h _ _ _ _).mono ?_
  rintro e w1 ⟨rfl, hb1⟩
  go_wp2
  go_ret
  exact ⟨rfl, hb.trans (hb1.mono hb.size)⟩

set_option maxRecDepth 100000 in
theorem rename_none {w : World} {v : Option Addr} (h : NoDisk w v) (s t : ByteArray) :
    Calls Try.prog 12 #[.pointer v, .string s, .string t] w (RetNil w) := by
  have h3 := (((h.alloc (.cells #[.pointer v] 24)).alloc (.cells #[.string s] 9)).alloc (.cells #[.string t] 9))
  have hb : Below w.heap.size w _ := ((((Below.refl _ _).alloc (by simp) (.cells #[.pointer v] 24)).alloc (by simp) (.cells #[.string s] 9)).alloc (by simp; omega) (.cells #[.string t] 9))
  have hmf : ∀ (fn : Fn) (first cap : Array Value) (w : World), (Instr.makeFunc fn first cap).run Try.prog w = .ok (.func fn first cap) w := fun _ _ _ _ => rfl
  go_enter Try.func12, Try.ntmps12
  go_wp2_with fail
  refine (count_none h3 _).mono ?_
  rintro e w1 ⟨rfl, hb1⟩
  go_wp2
  go_ret
  exact ⟨rfl, hb1 ▸ hb⟩

set_option maxRecDepth 100000 in
theorem remove_none {w : World} {v : Option Addr} (h : NoDisk w v) (s : ByteArray) :
    Calls Try.prog 13 #[.pointer v, .string s] w (RetNil w) := by
  have h3 := ((h.alloc (.cells #[.pointer v] 24)).alloc (.cells #[.string s] 9))
  have hb : Below w.heap.size w _ := (((Below.refl _ _).alloc (by simp) (.cells #[.pointer v] 24)).alloc (by simp) (.cells #[.string s] 9))
  have hmf : ∀ (fn : Fn) (first cap : Array Value) (w : World), (Instr.makeFunc fn first cap).run Try.prog w = .ok (.func fn first cap) w := fun _ _ _ _ => rfl
  go_enter Try.func13, Try.ntmps13
  go_wp2_with fail
  refine (change_none h3 _ _ _ _).mono ?_
  rintro e w1 ⟨rfl, hb1⟩
  go_wp2
  go_ret
  exact ⟨rfl, hb.trans (hb1.mono hb.size)⟩

set_option maxRecDepth 100000 in
theorem read_none {w : World} {v : Option Addr} (h : NoDisk w v) (s : ByteArray) :
    Calls Try.prog 6 #[.pointer v, .string s] w fun e w' => e = .returned (.tuple #[.slice none 0 0, .int .i64 1]) ∧ Below w.heap.size w w' := by
  have h3 := h.alloc (.cells #[.slice none 0 0] 22)
  have hb : Below w.heap.size w _ := (Below.refl _ _).alloc (Nat.le_refl _) (.cells #[.slice none 0 0] 22)
  have hmf : ∀ (fn : Fn) (first cap : Array Value) (w : World), (Instr.makeFunc fn first cap).run Try.prog w = .ok (.func fn first cap) w := fun _ _ _ _ => rfl
  go_enter Try.func6, Try.ntmps6
  go_wp2_with fail
  refine (with_none h3 _ _).mono ?_
  rintro e w1 ⟨rfl, rfl⟩
  go_wp2
  first | (go_ret2; exact ⟨rfl, hb⟩) | (refine bodyPost_ret (results_tmp2 rfl _ _ _) rfl ?_; exact ⟨rfl, hb⟩)

set_option maxRecDepth 100000 in
theorem size_none {w : World} {v : Option Addr} (h : NoDisk w v) (s : ByteArray) :
    Calls Try.prog 7 #[.pointer v, .string s] w fun e w' => e = .returned (.tuple #[.int .i64 0, .int .i64 1]) ∧ Below w.heap.size w w' := by
  have h3 := h.alloc (.cells #[.int .i64 0] 3)
  have hb : Below w.heap.size w _ := (Below.refl _ _).alloc (Nat.le_refl _) (.cells #[.int .i64 0] 3)
  have hmf : ∀ (fn : Fn) (first cap : Array Value) (w : World), (Instr.makeFunc fn first cap).run Try.prog w = .ok (.func fn first cap) w := fun _ _ _ _ => rfl
  go_enter Try.func7, Try.ntmps7
  go_wp2_with fail
  refine (with_none h3 _ _).mono ?_
  rintro e w1 ⟨rfl, rfl⟩
  go_wp2
  first | (go_ret2; exact ⟨rfl, hb⟩) | (refine bodyPost_ret (results_tmp2 rfl _ _ _) rfl ?_; exact ⟨rfl, hb⟩)

set_option maxRecDepth 100000 in
theorem loose_none {w : World} {v : Option Addr} (h : NoDisk w v) (s : ByteArray) :
    Calls Try.prog 8 #[.pointer v, .string s] w fun e w' => e = .returned (.tuple #[.int .i64 0, .int .i64 1]) ∧ Below w.heap.size w w' := by
  have h3 := h.alloc (.cells #[.int .i64 0] 3)
  have hb : Below w.heap.size w _ := (Below.refl _ _).alloc (Nat.le_refl _) (.cells #[.int .i64 0] 3)
  have hmf : ∀ (fn : Fn) (first cap : Array Value) (w : World), (Instr.makeFunc fn first cap).run Try.prog w = .ok (.func fn first cap) w := fun _ _ _ _ => rfl
  go_enter Try.func8, Try.ntmps8
  go_wp2_with fail
  refine (with_none h3 _ _).mono ?_
  rintro e w1 ⟨rfl, rfl⟩
  go_wp2
  first | (go_ret2; exact ⟨rfl, hb⟩) | (refine bodyPost_ret (results_tmp2 rfl _ _ _) rfl ?_; exact ⟨rfl, hb⟩)

set_option maxRecDepth 100000 in
theorem list_none {w : World} {v : Option Addr} (h : NoDisk w v) :
    Calls Try.prog 16 #[.pointer v] w fun e w' => e = .returned (.slice none 0 0) ∧ w = w' := by
  go_enter Try.func16, Try.ntmps16
  go_wp2_with fail
  refine (made_none h).mono ?_
  rintro e w1 ⟨rfl, rfl⟩
  go_wp2
  go_ret
  exact ⟨rfl, rfl⟩

set_option maxRecDepth 100000 in
theorem used_none {w : World} {v : Option Addr} (h : NoDisk w v) :
    Calls Try.prog 14 #[.pointer v] w fun e w' => e = .returned (.int .i64 0) ∧ w = w' := by
  go_enter Try.func14, Try.ntmps14
  go_wp2_with fail
  refine (made_none h).mono ?_
  rintro e w1 ⟨rfl, rfl⟩
  go_wp2
  go_ret
  exact ⟨rfl, rfl⟩

set_option maxRecDepth 100000 in
theorem calls_none {w : World} {v : Option Addr} (h : NoDisk w v) :
    Calls Try.prog 15 #[.pointer v] w fun e w' => e = .returned (.int .i64 0) ∧ w = w' := by
  go_enter Try.func15, Try.ntmps15
  go_wp2_with fail
  refine (made_none h).mono ?_
  rintro e w1 ⟨rfl, rfl⟩
  go_wp2
  go_ret
  exact ⟨rfl, rfl⟩

set_option maxRecDepth 100000 in
theorem copy_none {w : World} {v : Option Addr} (h : NoDisk w v) :
    Calls Try.prog 17 #[.pointer v] w fun e w' => e = .returned (.pointer none) ∧ w = w' := by
  go_enter Try.func17, Try.ntmps17
  go_wp2_with fail
  refine (made_none h).mono ?_
  rintro e w1 ⟨rfl, rfl⟩
  go_wp2
  go_ret
  exact ⟨rfl, rfl⟩

set_option maxRecDepth 100000 in
theorem crash_none {w : World} {v : Option Addr} (h : NoDisk w v) (A : Option Addr) (n c : Nat) :
    Calls Try.prog 5 #[.pointer v, .slice A n c] w fun e w' => e = .returned (.tuple #[]) ∧ Below w.heap.size w w' := by
  have h3 := h.alloc (.cells #[.pointer v] 24)
  have hb : Below w.heap.size w _ := (Below.refl _ _).alloc (Nat.le_refl _) (.cells #[.pointer v] 24)
  go_enter Try.func5, Try.ntmps5
  go_wp2_with fail
  refine (list_none h3).mono ?_
  rintro e w1 ⟨rfl, rfl⟩
  go_wp2_with fail
  refine wp_loop_rounds 1 ?_
  rw [rounds_succ]; go_wp2
  go_end0
  exact ⟨rfl, hb⟩
end Go.Proofs.Ytkabgebfbbkioab
