/-
  Contracts: Used, Calls, Size, Loose, Read.
-/
import Derived.Test.YtkabgebfbbkioabDk10
import Derived.Deep.QuietTactic
import Derived.BigQuiet
namespace Go.Proofs.Ytkabgebfbbkioab
open Go.RowKit Go.Maps

set_option maxRecDepth 100000 in
theorem used_c {w : World} {S : DiskS} (h : DiskAt w S) :
    Calls Try.prog 14 #[.pointer (some ⟨S.dp, 0, none⟩)] w fun e w' => e = .returned (.int .i64 S.used) ∧ w = w' := by
  have c2 := h.cells.c2
  go_enter Try.func14, Try.ntmps14
  go_wp2_with fail
  refine (made_c h).mono ?_
  rintro e w1 ⟨rfl, rfl⟩
  go_wp2
  go_ret
  exact ⟨rfl, rfl⟩

set_option maxRecDepth 100000 in
theorem calls_c {w : World} {S : DiskS} (h : DiskAt w S) :
    Calls Try.prog 15 #[.pointer (some ⟨S.dp, 0, none⟩)] w fun e w' => e = .returned (.int .i64 S.calls) ∧ w = w' := by
  have c2 := h.cells.c3
  go_enter Try.func15, Try.ntmps15
  go_wp2_with fail
  refine (made_c h).mono ?_
  rintro e w1 ⟨rfl, rfl⟩
  go_wp2
  go_ret
  exact ⟨rfl, rfl⟩

/-- How many bytes of a file are loose. -/
theorem floose_c {w : World} {f : FileS} (h : FileAt w f) (hf : f.bytes.length ≤ 70368744177664) :
    Calls Try.prog 22 #[.pointer (some ⟨f.blk, 0, none⟩)] w fun e w' => e = .returned (.int .i64 ((f.bytes.length - f.safe : Nat) : Int)) ∧ ∃ n, w' = w.drewN n := by
  obtain ⟨c, t⟩ := h.two
  have hs := h.safe
  have c0 := t.c0
  have c1 := t.c1
  have wr : IntKind.i64.wrap ((f.bytes.length : Int) - (f.safe : Int)) = ((f.bytes.length - f.safe : Nat) : Int) := by
    rw [IntWalk.i64_in _ (by omega)]; omega
  clear h t hf hs
  go_enter Try.func22, Try.ntmps22
  go_wp2_with fail
  go_quiet (fail)
  go_wp2
  go_ret
  exact ⟨rfl, _, rfl⟩

/-- A question about a file: nobody has it, or this is it. -/
def askM {α : Type} (m : MD) (s : ByteArray) (z : α) (g : List UInt8 × Nat → α) : α × Int :=
  if validB s then
    match lookM m.files s.data.toList with
    | none => (z, 10)
    | some f => (g f, 0)
  else (z, 2)
def sizeM (m : MD) (s : ByteArray) : Nat × Int := askM m s 0 fun f => f.1.length
def looseM (m : MD) (s : ByteArray) : Nat × Int := askM m s 0 fun f => f.1.length - f.2
def readM (m : MD) (s : ByteArray) : List UInt8 × Int := askM m s [] fun f => f.1

/-- A number, and an error; nothing that was there has turned. -/
def RetNI (w : World) (r : Nat × Int) (e : Ending) (w' : World) : Prop := e = .returned (.tuple #[.int .i64 (r.1 : Int), .int .i64 r.2]) ∧ Below w.heap.size w w'
/-- Bytes, and an error; nothing that was there has turned. -/
def RetBI (w : World) (r : List UInt8 × Int) (e : Ending) (w' : World) : Prop :=
  ∃ A n c, e = .returned (.tuple #[.slice A n c, .int .i64 r.2]) ∧ Fr w' w.heap.size 5 A n c (bv r.1) ∧ Below w.heap.size w w'

/-- 'with' behind a new box for the answer. -/
theorem with_ask {w1 : World} {S : DiskS} {α : Type} (h : DiskAt w1 S) {s : ByteArray} {z : α} {g : List UInt8 × Nat → α} {fn : Nat} {cs : Array Value} {T : α → World → Prop}
    (eg : ∀ args w, (callFunc fn args).run Try.prog w = .ok (.enter fn args) w) (hz : T z w1)
    (hyes : ∀ f, validB s = true → lookF S.files s.data.toList = some f → Calls Try.prog fn (#[.pointer (some ⟨f.blk, 0, none⟩)] ++ cs) w1 (ErrR fun i w' => i = 0 ∧ T (g (f.bytes, f.safe)) w')) :
    Calls Try.prog 20 #[.pointer (some ⟨S.dp, 0, none⟩), .string s, .func (.func fn) #[] cs] w1 (ErrR fun i w' => i = (askM (see S) s z g).2 ∧ T (askM (see S) s z g).1 w') := by
  have hl : lookM (see S).files s.data.toList = _ := look_see S.files s.data.toList
  refine with_c h eg ?_ ?_ ?_
  · intro hv; simp only [askM, hv]; exact ⟨rfl, hz⟩
  · intro hv hf; rw [hf] at hl; simp only [askM, hv, hl]; exact ⟨rfl, hz⟩
  · intro f hv hf
    rw [hf] at hl
    rw [show askM (see S) s z g = (g (f.bytes, f.safe), 0) by unfold askM; rw [hv, hl]; rfl]
    exact hyes f hv hf

set_option maxRecDepth 100000 in
theorem size_c {w : World} {S : DiskS} (h : DiskAt w S) (s : ByteArray) :
    Calls Try.prog 7 #[.pointer (some ⟨S.dp, 0, none⟩), .string s] w (RetNI w (sizeM (see S) s)) := by
  have hmf : ∀ (fn : Fn) (first cap : Array Value) (w : World), (Instr.makeFunc fn first cap).run Try.prog w = .ok (.func fn first cap) w := fun _ _ _ _ => rfl
  obtain ⟨w1, hw1⟩ : ∃ w1, w1 = w.alloc (.cells #[.int .i64 0] 3) := ⟨_, rfl⟩
  have h1 : DiskAt w1 S := by rw [hw1]; exact h.alloc _
  have hb1 : Below w.heap.size w w1 := by rw [hw1]; exact (Below.refl _ _).alloc (Nat.le_refl _) _
  have hbox : w1.heap[w.heap.size]? = some (.cells #[.int .i64 0] 3) := by rw [hw1]; exact heap_alloc_new w _
  have C := Lib.hid (with_ask (T := fun k w' => w'.cell? ⟨w.heap.size, 0, none⟩ = some (.int .i64 (k : Int)) ∧ Below w.heap.size w w') h1 (s := s) (z := 0) (g := fun f => f.1.length) (fn := 25) (cs := #[.pointer (some ⟨w.heap.size, 0, none⟩)])
    (enters_of Try.func25 (by kernel_rfl) rfl) ⟨by simp [World.cell?, hbox], hb1⟩ (by
      intro f hv hl
      show Calls Try.prog 25 #[.pointer (some ⟨f.blk, 0, none⟩), .pointer (some ⟨w.heap.size, 0, none⟩)] w1 _
      obtain ⟨c, t⟩ := (h1.file hl).1.two
      have c0 := t.c0
      have cb : w1.cell? ⟨w.heap.size, 0, none⟩ = some (.int .i64 0) := by simp [World.cell?, hbox]
      have fb : w1.frozen? ⟨w.heap.size, 0, none⟩ = false := by simp [World.frozen?, hbox]
      have hT : Hid ((w1.setCell ⟨w.heap.size, 0, none⟩ (.int .i64 (f.bytes.length : Int))).cell? ⟨w.heap.size, 0, none⟩ = some (.int .i64 (f.bytes.length : Int)) ∧ Below w.heap.size w (w1.setCell ⟨w.heap.size, 0, none⟩ (.int .i64 (f.bytes.length : Int)))) := by
        refine Lib.hid ⟨?_, ?_⟩
        · simp only [World.cell?, World.setCell, Array.getElem?_modify, if_pos, hbox]; rfl
        · exact hb1.setCell (Nat.le_refl _) _
      clear t hl h h1 hb1 hbox hw1
      go_enter Try.func25, Try.ntmps25
      go_wp2
      go_ret
      exact ⟨0, rfl, rfl, hT.out⟩))
  clear h h1 hb1 hbox
  subst hw1
  go_enter Try.func7, Try.ntmps7
  go_wp2_with fail
  refine C.out.mono ?_
  rintro e w4 ⟨i, rfl, rfl, hc, hb⟩
  go_wp2
  go_ret2
  exact ⟨rfl, hb⟩
end Go.Proofs.Ytkabgebfbbkioab
