/-
  What bytes begin with an internal key's form: the contracts of Take, the program's and the reference's.
-/
import Derived.Test.YtobfdhnaejfehaaIk4
namespace Go.Proofs.Ytobfdhnaejfehaa
open Go.RowKit Go.Shelf

def keyTake (l : List UInt8) : Option (ByteArray × Nat × Nat × List UInt8) :=
  match textTake l 64 with
  | none => none
  | some (s, r) => match takeN r with
    | none => none
    | some (x, m) => if rightB ⟨s.toArray⟩ (x / 2) (x % 2) then some (⟨s.toArray⟩, x / 2, x % 2, r.drop m) else none
def RetKB (w : World) (s : ByteArray) (q k : Nat) (r : List UInt8) (ok : Bool) (e : Ending) (w' : World) : Prop :=
  ∃ A n c, e = .returned (.tuple #[ik s q k, .slice A n c, .bool ok]) ∧ Fr w' w.heap.size 5 A n c (bv r) ∧ Below w.heap.size w w'
def KeyPost (w : World) (l : List UInt8) (e : Ending) (w' : World) : Prop :=
  match keyTake l with
  | some (s, q, k, r) => RetKB w s q k r true e w'
  | none => RetKB w ⟨#[]⟩ 0 0 [] false e w'
theorem KeyPost.some {w : World} {l r : List UInt8} {s : ByteArray} {q k : Nat} {e : Ending} {w' : World} (h : keyTake l = some (s, q, k, r)) (hp : RetKB w s q k r true e w') : KeyPost w l e w' := by
  simp only [KeyPost, h]; exact hp
theorem KeyPost.none {w : World} {l : List UInt8} {e : Ending} {w' : World} (h : keyTake l = none) (hp : RetKB w ⟨#[]⟩ 0 0 [] false e w') : KeyPost w l e w' := by
  simp only [KeyPost, h]; exact hp

/-- What a call of TakeText, or of Take, hands on, in one form. -/
structure TextR (l : List UInt8) (s r : List UInt8) (ok : Bool) : Prop where
  yes : ok = true → textTake l 64 = some (s, r)
  no : ok = false → textTake l 64 = none ∧ s = [] ∧ r = []
structure NumR (l : List UInt8) (x : Nat) (r : List UInt8) (ok : Bool) : Prop where
  yes : ok = true → ∃ m, takeN l = some (x, m) ∧ r = l.drop m
  no : ok = false → takeN l = none ∧ x = 0 ∧ r = []
  le : (x : Int) ≤ 18446744073709551615
theorem TextPost.form {w : World} {l : List UInt8} {e : Ending} {w' : World} (h : TextPost w l 64 e w') : ∃ s r ok, TextR l s r ok ∧ RetSB w s r ok e w' := by
  unfold TextPost at h
  split at h
  · next s r hs => exact ⟨s, r, true, ⟨fun _ => hs, fun e => by cases e⟩, h⟩
  · next hs => exact ⟨[], [], false, ⟨fun e => (by cases e), fun _ => ⟨hs, rfl, rfl⟩⟩, h⟩
theorem TakePost.form {w : World} {l : List UInt8} {e : Ending} {w' : World} (h : TakePost w l e w') : ∃ x r ok, NumR l x r ok ∧ RetNB w .u64 x r ok e w' := by
  unfold TakePost at h
  split at h
  · next v m hs => exact ⟨v, l.drop m, true, ⟨fun _ => ⟨m, hs, rfl⟩, fun e => (by cases e), (by have := (takeN_le hs).2.2.2.1; omega)⟩, h⟩
  · next hs => exact ⟨0, [], false, ⟨fun e => (by cases e), fun _ => ⟨hs, rfl, rfl⟩, by decide⟩, h⟩

theorem TextR.le {l s r : List UInt8} {ok : Bool} (h : TextR l s r ok) : r.length ≤ l.length := by
  cases ok with
  | false => obtain ⟨_, _, rfl⟩ := h.no rfl; simp
  | true =>
    have := h.yes rfl
    unfold textTake at this
    split at this
    · split at this
      · simp only [Option.some.injEq, Prod.mk.injEq] at this
        rw [← this.2]; simp <;> omega
      · cases this
    · cases this
theorem NumR.lel {l r : List UInt8} {x : Nat} {ok : Bool} (h : NumR l x r ok) : r.length ≤ l.length := by
  cases ok with
  | false => obtain ⟨_, _, rfl⟩ := h.no rfl; simp
  | true => obtain ⟨m, _, rfl⟩ := h.yes rfl; simp
theorem keyTake_no {l s r r2 : List UInt8} {x : Nat} {ok ok2 : Bool} (h1 : TextR l s r ok) (h2 : NumR r x r2 ok2) (h : ok = false ∨ ok2 = false ∨ rightB ⟨s.toArray⟩ (x / 2) (x % 2) = false) : keyTake l = none := by
  unfold keyTake
  cases ok with
  | false => rw [(h1.no rfl).1]
  | true =>
    rw [h1.yes rfl]
    cases ok2 with
    | false => simp only [(h2.no rfl).1]
    | true =>
      obtain ⟨m, hm, _⟩ := h2.yes rfl
      rcases h with h | h | h
      · cases h
      · cases h
      · simp only [hm, h]; rfl
theorem keyTake_yes {l s r r2 : List UInt8} {x : Nat} (h1 : TextR l s r true) (h2 : NumR r x r2 true) (h : rightB ⟨s.toArray⟩ (x / 2) (x % 2) = true) : keyTake l = some (⟨s.toArray⟩, x / 2, x % 2, r2) := by
  unfold keyTake
  rw [h1.yes rfl]
  obtain ⟨m, hm, rfl⟩ := h2.yes rfl
  simp only [hm, h, if_true]
theorem IkAt.frozen {w : World} {b : Nat} {s : ByteArray} {q k : Nat} (h : IkAt w b s q k) :
    w.frozen? ⟨b, 0, none⟩ = false ∧ w.frozen? ⟨b, 1, none⟩ = false ∧ w.frozen? ⟨b, 2, none⟩ = false := by
  refine ⟨?_, ?_, ?_⟩ <;> simp [World.frozen?, h.h]
theorem IkAt.store {w : World} {b : Nat} {s s' : ByteArray} {q k q' k' : Nat} (h : IkAt w b s q k) :
    IkAt (((w.setCell ⟨b, 0, none⟩ (.string s')).setCell ⟨b, 1, none⟩ (.int .u64 (q' : Int))).setCell ⟨b, 2, none⟩ (.int .u8 (k' : Int))) b s' q' k' := by
  refine ⟨by have := h.lt; simpa [World.setCell] using this, ?_⟩
  simp only [World.setCell, Array.getElem?_modify, if_pos, h.h]
  rfl
theorem Fr.set3 {w : World} {B : Nat} {e : TypeId} {A : Option Addr} {n c : Nat} {xs : List Value} (h : Fr w B e A n c xs) {b : Nat} (hb : b < B) (u v x : Value) :
    Fr (((w.setCell ⟨b, 0, none⟩ u).setCell ⟨b, 1, none⟩ v).setCell ⟨b, 2, none⟩ x) B e A n c xs :=
  ⟨ownsRow_setCell_below (ownsRow_setCell_below (ownsRow_setCell_below h.own hb _) hb _) hb _⟩
theorem below_set3 {B : Nat} {a w : World} (h : Below B a w) {b : Nat} (hb : B ≤ b) (u v x : Value) :
    Below B a (((w.setCell ⟨b, 0, none⟩ u).setCell ⟨b, 1, none⟩ v).setCell ⟨b, 2, none⟩ x) := ((h.setCell hb _).setCell hb _).setCell hb _
theorem box_one {w : World} {o : Obj} {w1 : World} (hb : Below (w.alloc o).heap.size (w.alloc o) w1) : Below w.heap.size w w1 := (below_alloc w o).trans (hb.mono (by simp))
/-- Results: a variable of an internal key, and two more. -/
theorem results_ik3 {fn : Func} {p u v : Tmp} {tmps : Array Value} {w : World} {g : Nat} {s : ByteArray} {q k : Nat} (h : fn.results = #[.cell p 24, .tmp u, .tmp v])
    (hp : tmps.getD p undef = .pointer (some ⟨g, 0, none⟩)) (hg : IkAt w g s q k) :
    (results fn tmps).run Try.prog w = .ok (.tuple #[ik s q k, tmps.getD u undef, tmps.getD v undef]) w := by
  have hp' : tmps[p]?.getD undef = .pointer (some ⟨g, 0, none⟩) := by simpa using hp
  have hl := run_loadVar_row (P := Try.prog) w g 24 24 _ (0, 0) _ hg.h Try.underlying24 rfl (by kernel_rfl)
  simp [results, h, hp', asAddr, hl, ik]

theorem ret_ik3 {fn : Func} {p u v : Tmp} {R : Ending → World → Prop} {a : Act} {w : World} {g : Nat} {s : ByteArray} {q k : Nat} (h : fn.results = #[.cell p 24, .tmp u, .tmp v]) (hd : a.defers = [])
    (hp : a.tmps.getD p undef = .pointer (some ⟨g, 0, none⟩)) (hg : IkAt w g s q k) (hR : R (.returned (.tuple #[ik s q k, a.tmps.getD u undef, a.tmps.getD v undef])) w) : bodyPost Try.prog fn R .ret a w :=
  bodyPost_ret (results_ik3 h hp hg) hd hR

set_option maxRecDepth 100000 in
set_option maxHeartbeats 2000000 in
theorem take3_c {w : World} {B n c : Nat} {A : Option Addr} {l : List UInt8} (h : Rd w B A n c (bv l)) (hB : B ≤ w.heap.size) (hn : n ≤ 70368744000000) :
    Calls Try.prog 11 #[.slice A n c] w (KeyPost w l) := by
  have hl : l.length = n := by simpa using h.len
  have HT := Lib.hid (takeText_c (h.alloc hB (.cells #[.string ⟨#[]⟩, .int .u64 0, .int .u8 0] 24)) (by simp; omega) (by omega) 64 (by decide) (by decide))
  have HR := Lib.hid (fun W s q k => right_c W s q k)
  unfold ik at HR
  have HL := Lib.hid hl
  have HN := Lib.hid hn
  clear h hn hl
  go_enter Try.func11, Try.ntmps11
  go_wp2_with fail
  refine HT.out.mono ?_
  intro e w1 hp
  obtain ⟨s, r, ok, ht, A1, n1, c1, rfl, hf1, hb1⟩ := hp.form
  clear hp
  have hr1 := hf1.len
  have hle := ht.le
  have hn1 : n1 ≤ 70368744000000 := by have := HL.out; have := HN.out; simp at hr1; omega
  have i0 := (IkAt.new w ⟨#[]⟩ 0 0).below hb1 (Nat.le_refl _)
  have i0' := i0
  have hb1 := box_one hb1
  have hT2 := take_c (hf1.rd (Nat.le_refl _)) (Nat.le_refl _) (by omega)
  have hr1 := Lib.hid hr1
  have HN1 := Lib.hid hn1
  clear HT hle hn1
  go_wp2_with fail
  refine hT2.mono ?_
  intro e w2 hp
  obtain ⟨x, r2, ok2, hx, A2, n2, c2, rfl, hf2, hb2⟩ := hp.form
  clear hp hT2
  have i0 := i0.below hb2 (Nat.le_refl _)
  have hb2 := hb1.trans (hb2.mono hb1.size)
  have hlt : w.heap.size < w1.heap.size := by have := i0'.lt; omega
  clear hf1
  have hxle := hx.le
  have iW := i0.alloc (.cells #[.string ⟨s.toArray⟩, .int .u64 ((x : Int) / 2), .int .u8 ((x : Int) % 2)] 24)
  obtain ⟨a0, a1, a2⟩ := iW.cells
  obtain ⟨g0, g1, g2⟩ := iW.frozen
  have hbW := hb2.alloc hb2.size (.cells #[.string ⟨s.toArray⟩, .int .u64 ((x : Int) / 2), .int .u8 ((x : Int) % 2)] 24)
  have hfW := hf2.alloc (.cells #[.string ⟨s.toArray⟩, .int .u64 ((x : Int) / 2), .int .u8 ((x : Int) % 2)] 24)
  by_cases hk : ok = true
  case neg =>
    have hk : ok = false := by simpa using hk
    subst hk
    have hpost := KeyPost.none (w := w) (keyTake_no ht hx (.inl rfl)) (e := .returned (.tuple #[ik ⟨#[]⟩ 0 0, .slice none 0 0, .bool false])) ⟨none, 0, 0, rfl, Fr.nil, below_set3 hbW (Nat.le_refl _) (.string ⟨#[]⟩) (.int .u64 ((0 : Nat) : Int)) (.int .u8 ((0 : Nat) : Int))⟩
    have HPo := Lib.hid hpost
    clear hpost
    go_wp2_with fail
    exact ret_ik3 rfl rfl rfl (iW.store (q' := 0) (k' := 0)) HPo.out
  subst hk
  by_cases hk2 : ok2 = true
  case neg =>
    have hk2 : ok2 = false := by simpa using hk2
    subst hk2
    have hpost := KeyPost.none (w := w) (keyTake_no ht hx (.inr (.inl rfl))) (e := .returned (.tuple #[ik ⟨#[]⟩ 0 0, .slice none 0 0, .bool false])) ⟨none, 0, 0, rfl, Fr.nil, below_set3 hbW (Nat.le_refl _) (.string ⟨#[]⟩) (.int .u64 ((0 : Nat) : Int)) (.int .u8 ((0 : Nat) : Int))⟩
    have HPo := Lib.hid hpost
    clear hpost
    go_wp2_with fail
    exact ret_ik3 rfl rfl rfl (iW.store (q' := 0) (k' := 0)) HPo.out
  subst hk2
  have hx2 : ((x / 2 : Nat) : Int) = (x : Int) / 2 := by omega
  have hx3 : ((x % 2 : Nat) : Int) = (x : Int) % 2 := by omega
  have iB := IkAt.new w2 ⟨s.toArray⟩ (x / 2) (x % 2)
  have hr := HR.out (w2.alloc (.cells #[.string ⟨s.toArray⟩, .int .u64 ((x : Int) / 2), .int .u8 ((x : Int) % 2)] 24)) ⟨s.toArray⟩ (x / 2) (x % 2)
  rw [hx2, hx3] at iB hr
  have HX2 := Lib.hid hx2
  have HX3 := Lib.hid hx3
  have HR2 := Lib.hid hr
  clear HR hr hx2 hx3
  go_wp2_with fail
  refine HR2.out.mono ?_
  rintro e w3 ⟨rfl, hb3⟩
  have iW := iW.below hb3 (Nat.le_refl _)
  have iB := iB.below hb3 (Nat.le_refl _)
  have hfW := hfW.below hb3
  have hbW := hbW.trans (hb3.mono hbW.size)
  clear hb3 a0 a1 a2 g0 g1 g2
  obtain ⟨a0, a1, a2⟩ := iW.cells
  obtain ⟨g0, g1, g2⟩ := iW.frozen
  obtain ⟨d0, d1, d2⟩ := iB.cells
  rw [HX2.out] at d1
  rw [HX3.out] at d2
  generalize hrt : rightB ⟨s.toArray⟩ (x / 2) (x % 2) = rt at *
  cases rt with
  | false =>
    have hpost := KeyPost.none (w := w) (keyTake_no ht hx (.inr (.inr hrt))) (e := .returned (.tuple #[ik ⟨#[]⟩ 0 0, .slice none 0 0, .bool false])) ⟨none, 0, 0, rfl, Fr.nil, below_set3 hbW (Nat.le_refl _) (.string ⟨#[]⟩) (.int .u64 ((0 : Nat) : Int)) (.int .u8 ((0 : Nat) : Int))⟩
    have HPo := Lib.hid hpost
    clear hpost
    go_wp2_with fail
    exact ret_ik3 rfl rfl rfl (iW.store (q' := 0) (k' := 0)) HPo.out
  | true =>
    have hpost := KeyPost.some (w := w) (keyTake_yes ht hx hrt) (e := .returned (.tuple #[ik ⟨s.toArray⟩ (x / 2) (x % 2), .slice A2 n2 c2, .bool true])) ⟨A2, n2, c2, rfl, (hfW.set3 (b := w.heap.size) hlt (.string ⟨s.toArray⟩) (.int .u64 ((x / 2 : Nat) : Int)) (.int .u8 ((x % 2 : Nat) : Int))).mono (Nat.le_of_lt hlt), below_set3 hbW (Nat.le_refl _) (.string ⟨s.toArray⟩) (.int .u64 ((x / 2 : Nat) : Int)) (.int .u8 ((x % 2 : Nat) : Int))⟩
    have HPo := Lib.hid hpost
    have iS := iW.store (s' := ⟨s.toArray⟩) (q' := x / 2) (k' := x % 2)
    rw [HX2.out, HX3.out] at iS
    rw [HX2.out, HX3.out] at HPo
    clear hpost
    go_wp2_with fail
    exact ret_ik3 rfl rfl rfl iS HPo.out

set_option maxRecDepth 100000 in
set_option maxHeartbeats 2000000 in
theorem refTake3_c {w : World} {B n c : Nat} {A : Option Addr} {l : List UInt8} (h : Rd w B A n c (bv l)) (hB : B ≤ w.heap.size) (hn : n ≤ 70368744000000) :
    Calls Try.prog 12 #[.slice A n c] w (KeyPost w l) := by
  have hl : l.length = n := by simpa using h.len
  have HT := Lib.hid (refTakeText_c (h.alloc hB (.cells #[.string ⟨#[]⟩, .int .u64 0, .int .u8 0] 24)) (by simp; omega) (by omega) 64 (by decide) (by decide))
  have HR := Lib.hid (fun W s q k => refRight_c W s q k)
  unfold ik at HR
  have HL := Lib.hid hl
  have HN := Lib.hid hn
  clear h hn hl
  go_enter Try.func12, Try.ntmps12
  go_wp2_with fail
  refine HT.out.mono ?_
  intro e w1 hp
  obtain ⟨s, r, ok, ht, A1, n1, c1, rfl, hf1, hb1⟩ := hp.form
  clear hp
  have hr1 := hf1.len
  have hle := ht.le
  have hn1 : n1 ≤ 70368744000000 := by have := HL.out; have := HN.out; simp at hr1; omega
  have i0 := (IkAt.new w ⟨#[]⟩ 0 0).below hb1 (Nat.le_refl _)
  have i0' := i0
  have hb1 := box_one hb1
  have hT2 := refTake_c (hf1.rd (Nat.le_refl _)) (Nat.le_refl _) (by omega)
  have hr1 := Lib.hid hr1
  have HN1 := Lib.hid hn1
  clear HT hle hn1
  by_cases hk : ok = true
  case neg =>
    have hk : ok = false := by simpa using hk
    subst hk
    obtain ⟨rfl, rfl⟩ := (ht.no rfl).2
    have hpost := KeyPost.none (w := w) (l := l) (keyTake_no (r2 := []) (x := 0) (ok2 := false) ht ⟨fun e => (by cases e), fun _ => ⟨rfl, rfl, rfl⟩, by decide⟩ (.inl rfl)) (e := .returned (.tuple #[ik ⟨#[]⟩ 0 0, .slice none 0 0, .bool false])) ⟨none, 0, 0, rfl, Fr.nil, below_set3 hb1 (Nat.le_refl _) (.string ⟨#[]⟩) (.int .u64 ((0 : Nat) : Int)) (.int .u8 ((0 : Nat) : Int))⟩
    have HPo := Lib.hid hpost
    obtain ⟨a0, a1, a2⟩ := i0.cells
    obtain ⟨g0, g1, g2⟩ := i0.frozen
    clear hpost hT2
    go_wp2_with fail
    exact ret_ik3 rfl rfl rfl (i0.store (q' := 0) (k' := 0)) HPo.out
  subst hk
  go_wp2_with fail
  refine hT2.mono ?_
  intro e w2 hp
  obtain ⟨x, r2, ok2, hx, A2, n2, c2, rfl, hf2, hb2⟩ := hp.form
  clear hp hT2
  have i0 := i0.below hb2 (Nat.le_refl _)
  have hb2 := hb1.trans (hb2.mono hb1.size)
  have hlt : w.heap.size < w1.heap.size := by have := i0'.lt; omega
  clear hf1
  have hxle := hx.le
  have iW := i0.alloc (.cells #[.string ⟨s.toArray⟩, .int .u64 ((x : Int) / 2), .int .u8 ((x : Int) % 2)] 24)
  obtain ⟨a0, a1, a2⟩ := iW.cells
  obtain ⟨g0, g1, g2⟩ := iW.frozen
  have hbW := hb2.alloc hb2.size (.cells #[.string ⟨s.toArray⟩, .int .u64 ((x : Int) / 2), .int .u8 ((x : Int) % 2)] 24)
  have hfW := hf2.alloc (.cells #[.string ⟨s.toArray⟩, .int .u64 ((x : Int) / 2), .int .u8 ((x : Int) % 2)] 24)
  by_cases hk2 : ok2 = true
  case neg =>
    have hk2 : ok2 = false := by simpa using hk2
    subst hk2
    have hpost := KeyPost.none (w := w) (keyTake_no ht hx (.inr (.inl rfl))) (e := .returned (.tuple #[ik ⟨#[]⟩ 0 0, .slice none 0 0, .bool false])) ⟨none, 0, 0, rfl, Fr.nil, below_set3 hbW (Nat.le_refl _) (.string ⟨#[]⟩) (.int .u64 ((0 : Nat) : Int)) (.int .u8 ((0 : Nat) : Int))⟩
    have HPo := Lib.hid hpost
    clear hpost
    go_wp2_with fail
    exact ret_ik3 rfl rfl rfl (iW.store (q' := 0) (k' := 0)) HPo.out
  subst hk2
  have hx2 : ((x / 2 : Nat) : Int) = (x : Int) / 2 := by omega
  have hx3 : ((x % 2 : Nat) : Int) = (x : Int) % 2 := by omega
  have iB := IkAt.new w2 ⟨s.toArray⟩ (x / 2) (x % 2)
  have hr := HR.out (w2.alloc (.cells #[.string ⟨s.toArray⟩, .int .u64 ((x : Int) / 2), .int .u8 ((x : Int) % 2)] 24)) ⟨s.toArray⟩ (x / 2) (x % 2)
  rw [hx2, hx3] at iB hr
  have HX2 := Lib.hid hx2
  have HX3 := Lib.hid hx3
  have HR2 := Lib.hid hr
  clear HR hr hx2 hx3
  go_wp2_with fail
  refine HR2.out.mono ?_
  rintro e w3 ⟨rfl, hb3⟩
  have iW := iW.below hb3 (Nat.le_refl _)
  have iB := iB.below hb3 (Nat.le_refl _)
  have hfW := hfW.below hb3
  have hbW := hbW.trans (hb3.mono hbW.size)
  clear hb3 a0 a1 a2 g0 g1 g2
  obtain ⟨a0, a1, a2⟩ := iW.cells
  obtain ⟨g0, g1, g2⟩ := iW.frozen
  obtain ⟨d0, d1, d2⟩ := iB.cells
  rw [HX2.out] at d1
  rw [HX3.out] at d2
  generalize hrt : rightB ⟨s.toArray⟩ (x / 2) (x % 2) = rt at *
  cases rt with
  | false =>
    have hpost := KeyPost.none (w := w) (keyTake_no ht hx (.inr (.inr hrt))) (e := .returned (.tuple #[ik ⟨#[]⟩ 0 0, .slice none 0 0, .bool false])) ⟨none, 0, 0, rfl, Fr.nil, below_set3 hbW (Nat.le_refl _) (.string ⟨#[]⟩) (.int .u64 ((0 : Nat) : Int)) (.int .u8 ((0 : Nat) : Int))⟩
    have HPo := Lib.hid hpost
    clear hpost
    go_wp2_with fail
    exact ret_ik3 rfl rfl rfl (iW.store (q' := 0) (k' := 0)) HPo.out
  | true =>
    have hpost := KeyPost.some (w := w) (keyTake_yes ht hx hrt) (e := .returned (.tuple #[ik ⟨s.toArray⟩ (x / 2) (x % 2), .slice A2 n2 c2, .bool true])) ⟨A2, n2, c2, rfl, (hfW.set3 (b := w.heap.size) hlt (.string ⟨s.toArray⟩) (.int .u64 ((x / 2 : Nat) : Int)) (.int .u8 ((x % 2 : Nat) : Int))).mono (Nat.le_of_lt hlt), below_set3 hbW (Nat.le_refl _) (.string ⟨s.toArray⟩) (.int .u64 ((x / 2 : Nat) : Int)) (.int .u8 ((x % 2 : Nat) : Int))⟩
    have HPo := Lib.hid hpost
    have iS := iW.store (s' := ⟨s.toArray⟩) (q' := x / 2) (k' := x % 2)
    rw [HX2.out, HX3.out] at iS
    rw [HX2.out, HX3.out] at HPo
    clear hpost
    go_wp2_with fail
    exact ret_ik3 rfl rfl rfl iS HPo.out
end Go.Proofs.Ytobfdhnaejfehaa
