/-
  What bytes begin with an internal key's form: the contracts of Take, the program's and the reference's.
-/
import Derived.Test.YtkdjjdkcogolmaaIk4
namespace Go.Proofs.Ytkdjjdkcogolmaa
set_option maxRecDepth 100000
open Go.RowKit Go.Shelf

def keyTake (l : List UInt8) : Option (ByteArray × Nat × Nat × List UInt8) :=
  match textTake l 64 with
  | none => none
  | some (s, r) => match takeN r with
    | none => none
    | some (x, m) => if rightB ⟨s.toArray⟩ (x / 2) (x % 2) then some (⟨s.toArray⟩, x / 2, x % 2, r.drop m) else none
def RetKB (w : World) (s : ByteArray) (q k : Nat) (r : List UInt8) (ok : Bool) (e : Ending) (w' : World) : Prop :=
  ∃ A n c, e = .returned (.tuple #[ik s q k, .slice A n c, .bool ok]) ∧ Fr w' w.heap.size 5 A n c (bv r) ∧ Below w.heap.size w w'
def KeyPost (w : World) (l : List UInt8) (e : Ending) (w' : World) : Prop :=
  match keyTake l with
  | some (s, q, k, r) => RetKB w s q k r true e w'
  | none => RetKB w ⟨#[]⟩ 0 0 [] false e w'
theorem KeyPost.some {w : World} {l r : List UInt8} {s : ByteArray} {q k : Nat} {e : Ending} {w' : World} (h : keyTake l = some (s, q, k, r)) (hp : RetKB w s q k r true e w') : KeyPost w l e w' := by
  simp only [KeyPost, h]; exact hp
theorem KeyPost.none {w : World} {l : List UInt8} {e : Ending} {w' : World} (h : keyTake l = none) (hp : RetKB w ⟨#[]⟩ 0 0 [] false e w') : KeyPost w l e w' := by
  simp only [KeyPost, h]; exact hp

/-- What a call of TakeText, or of Take, hands on, in one form. -/
structure TextR (l : List UInt8) (s r : List UInt8) (ok : Bool) : Prop where
  yes : ok = true → textTake l 64 = some (s, r)
  no : ok = false → textTake l 64 = none ∧ s = [] ∧ r = []
structure NumR (l : List UInt8) (x : Nat) (r : List UInt8) (ok : Bool) : Prop where
  yes : ok = true → ∃ m, takeN l = some (x, m) ∧ r = l.drop m
  no : ok = false → takeN l = none ∧ x = 0 ∧ r = []
  le : (x : Int) ≤ 18446744073709551615
theorem TextPost.form {w : World} {l : List UInt8} {e : Ending} {w' : World} (h : TextPost w l 64 e w') : ∃ s r ok, TextR l s r ok ∧ RetSB w s r ok e w' := by
  unfold TextPost at h
  split at h
  · next s r hs => exact ⟨s, r, true, ⟨fun _ => hs, fun e => by cases e⟩, h⟩
  · next hs => exact ⟨[], [], false, ⟨fun e => (by cases e), fun _ => ⟨hs, rfl, rfl⟩⟩, h⟩
theorem TakePost.form {w : World} {l : List UInt8} {e : Ending} {w' : World} (h : TakePost w l e w') : ∃ x r ok, NumR l x r ok ∧ RetNB w .u64 x r ok e w' := by
  unfold TakePost at h
  split at h
  · next v m hs => exact ⟨v, l.drop m, true, ⟨fun _ => ⟨m, hs, rfl⟩, fun e => (by cases e), (by have := (takeN_le hs).2.2.2.1; omega)⟩, h⟩
  · next hs => exact ⟨0, [], false, ⟨fun e => (by cases e), fun _ => ⟨hs, rfl, rfl⟩, by decide⟩, h⟩

theorem TextR.le {l s r : List UInt8} {ok : Bool} (h : TextR l s r ok) : r.length ≤ l.length := by
  cases ok with
  | false => obtain ⟨_, _, rfl⟩ := h.no rfl; simp
  | true =>
    have := h.yes rfl
    unfold textTake at this
    split at this
    · split at this
      · simp only [Option.some.injEq, Prod.mk.injEq] at this
        rw [← this.2]; simp <;> omega
      · cases this
    · cases this
theorem NumR.lel {l r : List UInt8} {x : Nat} {ok : Bool} (h : NumR l x r ok) : r.length ≤ l.length := by
  cases ok with
  | false => obtain ⟨_, _, rfl⟩ := h.no rfl; simp
  | true => obtain ⟨m, _, rfl⟩ := h.yes rfl; simp
theorem keyTake_no {l s r r2 : List UInt8} {x : Nat} {ok ok2 : Bool} (h1 : TextR l s r ok) (h2 : NumR r x r2 ok2) (h : ok = false ∨ ok2 = false ∨ rightB ⟨s.toArray⟩ (x / 2) (x % 2) = false) : keyTake l = none := by
  unfold keyTake
  cases ok with
  | false => rw [(h1.no rfl).1]
  | true =>
    rw [h1.yes rfl]
    cases ok2 with
    | false => simp only [(h2.no rfl).1]
    | true =>
      obtain ⟨m, hm, _⟩ := h2.yes rfl
      rcases h with h | h | h
      · cases h
      · cases h
      · simp only [hm, h]; rfl
theorem keyTake_yes {l s r r2 : List UInt8} {x : Nat} (h1 : TextR l s r true) (h2 : NumR r x r2 true) (h : rightB ⟨s.toArray⟩ (x / 2) (x % 2) = true) : keyTake l = some (⟨s.toArray⟩, x / 2, x % 2, r2) := by
  unfold keyTake
  rw [h1.yes rfl]
  obtain ⟨m, hm, rfl⟩ := h2.yes rfl
  simp only [hm, h, if_true]
theorem IkAt.frozen {w : World} {b : Nat} {s : ByteArray} {q k : Nat} (h : IkAt w b s q k) :
    w.frozen? ⟨b, 0, none⟩ = false ∧ w.frozen? ⟨b, 1, none⟩ = false ∧ w.frozen? ⟨b, 2, none⟩ = false := by
  refine ⟨?_, ?_, ?_⟩ <;> simp [World.frozen?, h.h]
theorem IkAt.store {w : World} {b : Nat} {s s' : ByteArray} {q k q' k' : Nat} (h : IkAt w b s q k) :
    IkAt (((w.setCell ⟨b, 0, none⟩ (.string s')).setCell ⟨b, 1, none⟩ (.int .u64 (q' : Int))).setCell ⟨b, 2, none⟩ (.int .u8 (k' : Int))) b s' q' k' := by
  refine ⟨by have := h.lt; simpa [World.setCell] using this, ?_⟩
  simp only [World.setCell, Array.getElem?_modify, if_pos, h.h]
  rfl
theorem Fr.set3 {w : World} {B : Nat} {e : TypeId} {A : Option Addr} {n c : Nat} {xs : List Value} (h : Fr w B e A n c xs) {b : Nat} (hb : b < B) (u v x : Value) :
    Fr (((w.setCell ⟨b, 0, none⟩ u).setCell ⟨b, 1, none⟩ v).setCell ⟨b, 2, none⟩ x) B e A n c xs :=
  ⟨ownsRow_setCell_below (ownsRow_setCell_below (ownsRow_setCell_below h.own hb _) hb _) hb _⟩
theorem below_set3 {B : Nat} {a w : World} (h : Below B a w) {b : Nat} (hb : B ≤ b) (u v x : Value) :
    Below B a (((w.setCell ⟨b, 0, none⟩ u).setCell ⟨b, 1, none⟩ v).setCell ⟨b, 2, none⟩ x) := ((h.setCell hb _).setCell hb _).setCell hb _
theorem box_one {w : World} {o : Obj} {w1 : World} (hb : Below (w.alloc o).heap.size (w.alloc o) w1) : Below w.heap.size w w1 := (below_alloc w o).trans (hb.mono (by simp))
/-- Results: a variable of an internal key, and two more. -/
theorem results_ik3 {fn : Func} {p u v : Tmp} {tmps : Array Value} {w : World} {g : Nat} {s : ByteArray} {q k : Nat} (h : fn.results = #[.cell p 43, .tmp u, .tmp v])
    (hp : tmps.getD p undef = .pointer (some ⟨g, 0, none⟩)) (hg : IkAt w g s q k) :
    (results fn tmps).run Try.prog w = .ok (.tuple #[ik s q k, tmps.getD u undef, tmps.getD v undef]) w := by
  have hp' : tmps[p]?.getD undef = .pointer (some ⟨g, 0, none⟩) := by simpa using hp
  have hl := run_loadVar_row (P := Try.prog) w g 43 43 _ (0, 0) _ hg.h Try.underlying43 rfl (by kernel_rfl)
  simp [results, h, hp', asAddr, hl, ik]

theorem ret_ik3 {fn : Func} {p u v : Tmp} {R : Ending → World → Prop} {a : Act} {w : World} {g : Nat} {s : ByteArray} {q k : Nat} (h : fn.results = #[.cell p 43, .tmp u, .tmp v]) (hd : a.defers = [])
    (hp : a.tmps.getD p undef = .pointer (some ⟨g, 0, none⟩)) (hg : IkAt w g s q k) (hR : R (.returned (.tuple #[ik s q k, a.tmps.getD u undef, a.tmps.getD v undef])) w) : bodyPost Try.prog fn R .ret a w :=
  bodyPost_ret (results_ik3 h hp hg) hd hR

end Go.Proofs.Ytkdjjdkcogolmaa
