/-
  The texts Ik4, Ik5, in one.
-/
import Derived.Test.YtkdjjdkcogolmaaGreatDoorIk3
import Derived.Test.YtkdjjdkcogolmaaGreatDoorBack
import Derived.Deep.RegionHeld3
section
/-
  The form of an internal key: the contracts of Put, the program's and the reference's.
-/
namespace Go.Proofs.YtkdjjdkcogolmaaGreatDoor
set_option maxRecDepth 100000
open Go.RowKit Go.Shelf

/-- The form. -/
def formL (s : ByteArray) (q k : Nat) : List UInt8 := textL s ++ shortL (2 * q + k)
def putL (l : List UInt8) (s : ByteArray) (q k : Nat) : List UInt8 := if rightB s q k then l ++ formL s q k else l

theorem textL_le (s : ByteArray) : (textL s).length ≤ 10 + s.size := by
  have := shortL_len s.size
  unfold textL; rw [List.length_append, size_list]; omega

set_option maxRecDepth 100000 in
set_option maxHeartbeats 2000000 in
theorem put3_c {w : World} {B n c : Nat} {A : Option Addr} {l : List UInt8} (h : Rd w B A n c (bv l)) (hB : B ≤ w.heap.size) (hn : n ≤ 70368744000000) (s : ByteArray) (q k : Nat) :
    Calls Tryz.prog 74 #[.slice A n c, ik s q k] w (RetB w (putL l s q k)) := by
  have HR := Lib.hid (fun W => right_c W s q k)
  unfold ik at HR ⊢
  go_enter Tryz.func74, Tryz.ntmps74
  have i0 := IkAt.new w s q k
  go_wp2_with fail
  refine (HR.out _).mono ?_
  rintro e w1 ⟨rfl, hb⟩
  have i0 := i0.below hb (Nat.le_refl _)
  have h1 := (h.alloc hB (.cells #[.string s, .int .u64 (q : Int), .int .u8 (k : Int)] 26)).under hb (by simp; omega)
  have hb2 := (below_alloc w _).trans (hb.mono (by simp))
  clear hb h
  obtain ⟨a0, a1, a2⟩ := i0.cells
  by_cases hr : rightB s q k = true
  · rw [hr]
    have hp : putL l s q k = l ++ formL s q k := if_pos hr
    obtain ⟨hs, hq0, hk0⟩ : s.size ≤ 64 ∧ (q : Int) ≤ 72057594037927935 ∧ k ≤ 1 := by
      unfold rightB at hr
      simp at hr
      omega
    have hk : (k : Int) ≤ 1 := by omega
    have hw1 : IntKind.u64.wrap (2 * (q : Int)) = 2 * (q : Int) := by rw [wrapu]; omega
    have hw2 : IntKind.u64.wrap (2 * (q : Int) + (k : Int)) = 2 * (q : Int) + (k : Int) := by rw [wrapu]; omega
    have hw3 : IntKind.u64.wrap (k : Int) = (k : Int) := by rw [wrapu]; omega
    have HP := Lib.hid (putText_c h1.drew (w := w1.drew) (Nat.le_trans hB hb2.size) (by omega) s (by omega))
    have hl : l.length = n := by simpa using h1.len
    have HL := Lib.hid hl
    have HS := Lib.hid hs
    have HN := Lib.hid hn
    have HQ := fun (w : World) (B n c : Nat) (A : Option Addr) (l : List UInt8) (h : Rd w B A n c (bv l)) (hB : B ≤ w.heap.size) (hn : n ≤ 70368744177664) => put_c h hB hn (2 * (q : Int) + (k : Int)) (by omega) (by omega)
    have HQ := Lib.hid HQ
    have HI := Lib.hid (fun B w' (hb : Below B w1.drew w') (hB : w1.drew.heap.size ≤ B) => IkAt.below (w := w1.drew) ⟨i0.lt, i0.h⟩ hb hB)
    clear h1 hl i0
    go_wp2_with fail
    go_region_held3 (fun w' => w'.cell? ⟨w.heap.size, 0, none⟩ = some (.string s) ∧ w'.cell? ⟨w.heap.size, 1, none⟩ = some (.int .u64 (q : Int)) ∧ w'.cell? ⟨w.heap.size, 2, none⟩ = some (.int .u8 (k : Int))) (go_keep)
      (first | (go_at_call 50; refine (HQ.out _ _ _ _ _ _ (hf2.rd (Nat.le_refl _)) (Nat.le_refl _) hn2).mono ?_; rintro e w3 ⟨A3, n3, c3, rfl, hf3, hb4⟩; obtain ⟨f0, f1, f2⟩ := (i2.below hb4 (Nat.le_refl _)).cells; clear d0 d1 d2) | (go_at_call 100; refine HP.out.mono ?_; rintro e w2 ⟨A2, n2, c2, rfl, hf2, hb3⟩; have i2 := HI.out _ w2 hb3 (Nat.le_refl _); obtain ⟨d0, d1, d2⟩ := i2.cells; clear a0 a1 a2; have hn2 : n2 ≤ 70368744177664 := (by have := hf2.len; have := HL.out; have := textL_le s; have := HS.out; have := HN.out; simp at *; omega)))
    go_wp2
    go_ret
    rw [hp]
    refine ⟨A3, n3, c3, rfl, ?_, ?_⟩
    · have e : l ++ formL s q k = l ++ textL s ++ shortL (2 * (q : Int) + (k : Int)).toNat := by
        unfold formL
        rw [List.append_assoc, show (2 * (q : Int) + (k : Int)).toNat = 2 * q + k by omega]
      rw [e]
      exact hf3.mono (by have := hb3.size; have := hb2.size; simp at *; omega)
    · exact hb2.trans ((below_drewN (Below.refl _ _) 1).trans (hb3.mono hb2.size) |>.trans (hb4.mono (by have := hb3.size; have := hb2.size; simp at *; omega)))
  · have hr : rightB s q k = false := by simpa using hr
    rw [hr]
    have hp : putL l s q k = l := if_neg (by rw [hr]; decide)
    have HC := Lib.hid (clone_c h1 (Nat.le_trans hB hb2.size) (by omega))
    clear h1
    go_wp2_with fail
    refine HC.out.mono ?_
    rintro e w2 ⟨A2, n2, c2, rfl, hf, hb3⟩
    go_wp2
    go_ret
    rw [hp]
    exact ⟨A2, n2, c2, rfl, hf.mono hb2.size, hb2.trans (hb3.mono hb2.size)⟩

set_option maxRecDepth 100000 in
set_option maxHeartbeats 2000000 in
theorem refPut3_c {w : World} {B n c : Nat} {A : Option Addr} {l : List UInt8} (h : Rd w B A n c (bv l)) (hB : B ≤ w.heap.size) (hn : n ≤ 70368744000000) (s : ByteArray) (q k : Nat) :
    Calls Tryz.prog 30 #[.slice A n c, ik s q k] w (RetB w (putL l s q k)) := by
  have HR := Lib.hid (fun W => refRight_c W s q k)
  unfold ik at HR ⊢
  go_enter Tryz.func30, Tryz.ntmps30
  have i0 := IkAt.new w s q k
  go_wp2_with fail
  refine (HR.out _).mono ?_
  rintro e w1 ⟨rfl, hb⟩
  have i0 := i0.below hb (Nat.le_refl _)
  have h1 := (h.alloc hB (.cells #[.string s, .int .u64 (q : Int), .int .u8 (k : Int)] 26)).under hb (by simp; omega)
  have hb2 := (below_alloc w _).trans (hb.mono (by simp))
  clear hb h
  obtain ⟨a0, a1, a2⟩ := i0.cells
  by_cases hr : rightB s q k = true
  · rw [hr]
    have hp : putL l s q k = l ++ formL s q k := if_pos hr
    obtain ⟨hs, hq0, hk0⟩ : s.size ≤ 64 ∧ (q : Int) ≤ 72057594037927935 ∧ k ≤ 1 := by
      unfold rightB at hr
      simp at hr
      omega
    have hk : (k : Int) ≤ 1 := by omega
    have hw1 : IntKind.u64.wrap ((q : Int) * 2) = (q : Int) * 2 := by rw [wrapu]; omega
    have hw2 : IntKind.u64.wrap ((q : Int) * 2 + (k : Int)) = (q : Int) * 2 + (k : Int) := by rw [wrapu]; omega
    have hw3 : IntKind.u64.wrap (k : Int) = (k : Int) := by rw [wrapu]; omega
    have HP := Lib.hid (refPutText_c h1.drew (w := w1.drew) (by omega) s (by omega))
    have hl : l.length = n := by simpa using h1.len
    have HL := Lib.hid hl
    have HS := Lib.hid hs
    have HN := Lib.hid hn
    have HQ := fun (w : World) (B n c : Nat) (A : Option Addr) (l : List UInt8) (h : Rd w B A n c (bv l)) (hB : B ≤ w.heap.size) (hn : n ≤ 70368744177664) => refPut_c h hn ((q : Int) * 2 + (k : Int)) (by omega) (by omega)
    have HQ := Lib.hid HQ
    have HI := Lib.hid (fun B w' (hb : Below B w1.drew w') (hB : w1.drew.heap.size ≤ B) => IkAt.below (w := w1.drew) ⟨i0.lt, i0.h⟩ hb hB)
    clear h1 hl i0
    go_wp2_with fail
    go_region_held3 (fun w' => w'.cell? ⟨w.heap.size, 0, none⟩ = some (.string s) ∧ w'.cell? ⟨w.heap.size, 1, none⟩ = some (.int .u64 (q : Int)) ∧ w'.cell? ⟨w.heap.size, 2, none⟩ = some (.int .u8 (k : Int))) (go_keep)
      (first | (go_at_call 31; refine (HQ.out _ _ _ _ _ _ (hf2.rd (Nat.le_refl _)) (Nat.le_refl _) hn2).mono ?_; rintro e w3 ⟨A3, n3, c3, rfl, hf3, hb4⟩; obtain ⟨f0, f1, f2⟩ := (i2.below hb4 (Nat.le_refl _)).cells; clear d0 d1 d2) | (go_at_call 58; refine HP.out.mono ?_; rintro e w2 ⟨A2, n2, c2, rfl, hf2, hb3⟩; have i2 := HI.out _ w2 hb3 (Nat.le_refl _); obtain ⟨d0, d1, d2⟩ := i2.cells; clear a0 a1 a2; have hn2 : n2 ≤ 70368744177664 := (by have := hf2.len; have := HL.out; have := textL_le s; have := HS.out; have := HN.out; simp at *; omega)))
    go_wp2
    go_ret
    rw [hp]
    refine ⟨A3, n3, c3, rfl, ?_, ?_⟩
    · have e : l ++ formL s q k = l ++ textL s ++ shortL ((q : Int) * 2 + (k : Int)).toNat := by
        unfold formL
        rw [List.append_assoc, show ((q : Int) * 2 + (k : Int)).toNat = 2 * q + k by omega]
      rw [e]
      exact hf3.mono (by have := hb3.size; have := hb2.size; simp at *; omega)
    · exact hb2.trans ((below_drewN (Below.refl _ _) 1).trans (hb3.mono hb2.size) |>.trans (hb4.mono (by have := hb3.size; have := hb2.size; simp at *; omega)))
  · have hr : rightB s q k = false := by simpa using hr
    rw [hr]
    have hp : putL l s q k = l := if_neg (by rw [hr]; decide)
    have hn2 : n ≤ 70368744177664 := by omega
    go_wp2_with (at_builtin; refine wpList_app rfl (.tmp 9) (.tmp 10) _ rfl Tryz.underlying24 info_u8 rfl rfl Fr.nil rfl h1 (bv_one _) (by omega) (by omega) (Nat.le_refl _) ?_; intro A' c' w' hap)
    go_ret
    rw [hp]
    exact ⟨A', _, c', rfl, by simpa using hap.fr.mono hb2.size, hb2.trans (hap.below.mono hb2.size)⟩
end Go.Proofs.YtkdjjdkcogolmaaGreatDoor
end

section
/-
  What bytes begin with an internal key's form: the contracts of Take, the program's and the reference's.
-/
namespace Go.Proofs.YtkdjjdkcogolmaaGreatDoor
set_option maxRecDepth 100000
open Go.RowKit Go.Shelf

def keyTake (l : List UInt8) : Option (ByteArray × Nat × Nat × List UInt8) :=
  match textTake l 64 with
  | none => none
  | some (s, r) => match takeN r with
    | none => none
    | some (x, m) => if rightB ⟨s.toArray⟩ (x / 2) (x % 2) then some (⟨s.toArray⟩, x / 2, x % 2, r.drop m) else none
def RetKB (w : World) (s : ByteArray) (q k : Nat) (r : List UInt8) (ok : Bool) (e : Ending) (w' : World) : Prop :=
  ∃ A n c, e = .returned (.tuple #[ik s q k, .slice A n c, .bool ok]) ∧ Fr w' w.heap.size 5 A n c (bv r) ∧ Below w.heap.size w w'
def KeyPost (w : World) (l : List UInt8) (e : Ending) (w' : World) : Prop :=
  match keyTake l with
  | some (s, q, k, r) => RetKB w s q k r true e w'
  | none => RetKB w ⟨#[]⟩ 0 0 [] false e w'
theorem KeyPost.some {w : World} {l r : List UInt8} {s : ByteArray} {q k : Nat} {e : Ending} {w' : World} (h : keyTake l = some (s, q, k, r)) (hp : RetKB w s q k r true e w') : KeyPost w l e w' := by
  simp only [KeyPost, h]; exact hp
theorem KeyPost.none {w : World} {l : List UInt8} {e : Ending} {w' : World} (h : keyTake l = none) (hp : RetKB w ⟨#[]⟩ 0 0 [] false e w') : KeyPost w l e w' := by
  simp only [KeyPost, h]; exact hp

/-- What a call of TakeText, or of Take, hands on, in one form. -/
structure TextR (l : List UInt8) (s r : List UInt8) (ok : Bool) : Prop where
  yes : ok = true → textTake l 64 = some (s, r)
  no : ok = false → textTake l 64 = none ∧ s = [] ∧ r = []
structure NumR (l : List UInt8) (x : Nat) (r : List UInt8) (ok : Bool) : Prop where
  yes : ok = true → ∃ m, takeN l = some (x, m) ∧ r = l.drop m
  no : ok = false → takeN l = none ∧ x = 0 ∧ r = []
  le : (x : Int) ≤ 18446744073709551615
theorem TextPost.form {w : World} {l : List UInt8} {e : Ending} {w' : World} (h : TextPost w l 64 e w') : ∃ s r ok, TextR l s r ok ∧ RetSB w s r ok e w' := by
  unfold TextPost at h
  split at h
  · next s r hs => exact ⟨s, r, true, ⟨fun _ => hs, fun e => by cases e⟩, h⟩
  · next hs => exact ⟨[], [], false, ⟨fun e => (by cases e), fun _ => ⟨hs, rfl, rfl⟩⟩, h⟩
theorem TakePost.form {w : World} {l : List UInt8} {e : Ending} {w' : World} (h : TakePost w l e w') : ∃ x r ok, NumR l x r ok ∧ RetNB w .u64 x r ok e w' := by
  unfold TakePost at h
  split at h
  · next v m hs => exact ⟨v, l.drop m, true, ⟨fun _ => ⟨m, hs, rfl⟩, fun e => (by cases e), (by have := (takeN_le hs).2.2.2.1; omega)⟩, h⟩
  · next hs => exact ⟨0, [], false, ⟨fun e => (by cases e), fun _ => ⟨hs, rfl, rfl⟩, by decide⟩, h⟩

theorem TextR.le {l s r : List UInt8} {ok : Bool} (h : TextR l s r ok) : r.length ≤ l.length := by
  cases ok with
  | false => obtain ⟨_, _, rfl⟩ := h.no rfl; simp
  | true =>
    have := h.yes rfl
    unfold textTake at this
    split at this
    · split at this
      · simp only [Option.some.injEq, Prod.mk.injEq] at this
        rw [← this.2]; simp <;> omega
      · cases this
    · cases this
theorem NumR.lel {l r : List UInt8} {x : Nat} {ok : Bool} (h : NumR l x r ok) : r.length ≤ l.length := by
  cases ok with
  | false => obtain ⟨_, _, rfl⟩ := h.no rfl; simp
  | true => obtain ⟨m, _, rfl⟩ := h.yes rfl; simp
theorem keyTake_no {l s r r2 : List UInt8} {x : Nat} {ok ok2 : Bool} (h1 : TextR l s r ok) (h2 : NumR r x r2 ok2) (h : ok = false ∨ ok2 = false ∨ rightB ⟨s.toArray⟩ (x / 2) (x % 2) = false) : keyTake l = none := by
  unfold keyTake
  cases ok with
  | false => rw [(h1.no rfl).1]
  | true =>
    rw [h1.yes rfl]
    cases ok2 with
    | false => simp only [(h2.no rfl).1]
    | true =>
      obtain ⟨m, hm, _⟩ := h2.yes rfl
      rcases h with h | h | h
      · cases h
      · cases h
      · simp only [hm, h]; rfl
theorem keyTake_yes {l s r r2 : List UInt8} {x : Nat} (h1 : TextR l s r true) (h2 : NumR r x r2 true) (h : rightB ⟨s.toArray⟩ (x / 2) (x % 2) = true) : keyTake l = some (⟨s.toArray⟩, x / 2, x % 2, r2) := by
  unfold keyTake
  rw [h1.yes rfl]
  obtain ⟨m, hm, rfl⟩ := h2.yes rfl
  simp only [hm, h, if_true]
theorem IkAt.frozen {w : World} {b : Nat} {s : ByteArray} {q k : Nat} (h : IkAt w b s q k) :
    w.frozen? ⟨b, 0, none⟩ = false ∧ w.frozen? ⟨b, 1, none⟩ = false ∧ w.frozen? ⟨b, 2, none⟩ = false := by
  refine ⟨?_, ?_, ?_⟩ <;> simp [World.frozen?, h.h]
theorem IkAt.store {w : World} {b : Nat} {s s' : ByteArray} {q k q' k' : Nat} (h : IkAt w b s q k) :
    IkAt (((w.setCell ⟨b, 0, none⟩ (.string s')).setCell ⟨b, 1, none⟩ (.int .u64 (q' : Int))).setCell ⟨b, 2, none⟩ (.int .u8 (k' : Int))) b s' q' k' := by
  refine ⟨by have := h.lt; simpa [World.setCell] using this, ?_⟩
  simp only [World.setCell, Array.getElem?_modify, if_pos, h.h]
  rfl
theorem Fr.set3 {w : World} {B : Nat} {e : TypeId} {A : Option Addr} {n c : Nat} {xs : List Value} (h : Fr w B e A n c xs) {b : Nat} (hb : b < B) (u v x : Value) :
    Fr (((w.setCell ⟨b, 0, none⟩ u).setCell ⟨b, 1, none⟩ v).setCell ⟨b, 2, none⟩ x) B e A n c xs :=
  ⟨ownsRow_setCell_below (ownsRow_setCell_below (ownsRow_setCell_below h.own hb _) hb _) hb _⟩
theorem below_set3 {B : Nat} {a w : World} (h : Below B a w) {b : Nat} (hb : B ≤ b) (u v x : Value) :
    Below B a (((w.setCell ⟨b, 0, none⟩ u).setCell ⟨b, 1, none⟩ v).setCell ⟨b, 2, none⟩ x) := ((h.setCell hb _).setCell hb _).setCell hb _
theorem box_one {w : World} {o : Obj} {w1 : World} (hb : Below (w.alloc o).heap.size (w.alloc o) w1) : Below w.heap.size w w1 := (below_alloc w o).trans (hb.mono (by simp))
/-- Results: a variable of an internal key, and two more. -/
theorem results_ik3 {fn : Func} {p u v : Tmp} {tmps : Array Value} {w : World} {g : Nat} {s : ByteArray} {q k : Nat} (h : fn.results = #[.cell p 26, .tmp u, .tmp v])
    (hp : tmps.getD p undef = .pointer (some ⟨g, 0, none⟩)) (hg : IkAt w g s q k) :
    (results fn tmps).run Tryz.prog w = .ok (.tuple #[ik s q k, tmps.getD u undef, tmps.getD v undef]) w := by
  have hp' : tmps[p]?.getD undef = .pointer (some ⟨g, 0, none⟩) := by simpa using hp
  have hl := run_loadVar_row (P := Tryz.prog) w g 26 26 _ (0, 0) _ hg.h Tryz.underlying26 rfl (by kernel_rfl)
  simp [results, h, hp', asAddr, hl, ik]

theorem ret_ik3 {fn : Func} {p u v : Tmp} {R : Ending → World → Prop} {a : Act} {w : World} {g : Nat} {s : ByteArray} {q k : Nat} (h : fn.results = #[.cell p 26, .tmp u, .tmp v]) (hd : a.defers = [])
    (hp : a.tmps.getD p undef = .pointer (some ⟨g, 0, none⟩)) (hg : IkAt w g s q k) (hR : R (.returned (.tuple #[ik s q k, a.tmps.getD u undef, a.tmps.getD v undef])) w) : bodyPost Tryz.prog fn R .ret a w :=
  bodyPost_ret (results_ik3 h hp hg) hd hR

end Go.Proofs.YtkdjjdkcogolmaaGreatDoor
end
