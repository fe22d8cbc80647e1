/-
  The reference: the contract of one.
-/
import Derived.Test.YtfbmphaabdhphaaR2
namespace Go.Proofs.Ytfbmphaabdhphaa
set_option maxRecDepth 100000
open Go.RowKit Go.Shelf
set_option linter.unusedVariables false

/-- The entry that bytes begin with, behind a key. -/
def oneE (p : ByteArray) (l : List UInt8) : Option (Ent × List UInt8) :=
  match takeN l with
  | none => none
  | some (v, m) => if p.size < v then none else
    match textTake (l.drop m) 64 with
    | none => none
    | some (t, r2) => match takeN r2 with
      | none => none
      | some (x, m3) => if x % 2 = 1 then (match textTake (r2.drop m3) 256 with
          | none => none
          | some (u, r4) => some (⟨takeS p v ++ ⟨t.toArray⟩, x / 2, x % 2, ⟨u.toArray⟩⟩, r4))
        else some (⟨takeS p v ++ ⟨t.toArray⟩, x / 2, x % 2, noS⟩, r2.drop m3)
structure OneR (p : ByteArray) (l : List UInt8) (x : Ent) (r : List UInt8) (ok : Bool) : Prop where
  yes : ok = true → oneE p l = some (x, r)
  no : ok = false → oneE p l = none
def OnePost (w : World) (p : ByteArray) (l : List UInt8) (e : Ending) (w' : World) : Prop :=
  ∃ (x : Ent) (A : Option Addr) (n c : Nat) (r : List UInt8) (ok : Bool), e = .returned (.tuple #[en x.s x.q x.k x.v, .slice A n c, .bool ok]) ∧ OneR p l x r ok ∧ Fr w' w.heap.size 5 A n c (bv r) ∧ Below w.heap.size w w'
theorem set4_size (w : World) (b : Nat) (u0 u1 u2 u3 : Value) : ((((w.setCell ⟨b, 0, none⟩ u0).setCell ⟨b, 1, none⟩ u1).setCell ⟨b, 2, none⟩ u2).setCell ⟨b, 3, none⟩ u3).heap.size = w.heap.size := by simp [World.setCell]
/-- A row of bytes below, while a box of four cells beyond it is written. -/
theorem Rd.set4 {w : World} {n c b : Nat} {A : Option Addr} {l : List UInt8} {B : Nat} (h : Rd w B A n c (bv l)) (hB : B ≤ b) (u0 u1 u2 u3 : Value) : Rd ((((w.setCell ⟨b, 0, none⟩ u0).setCell ⟨b, 1, none⟩ u1).setCell ⟨b, 2, none⟩ u2).setCell ⟨b, 3, none⟩ u3) B A n c (bv l) :=
  (((h.setCell hB _).setCell hB _).setCell hB _).setCell hB _
theorem Fr.set4 {w : World} {b0 n c b : Nat} {e : TypeId} {A : Option Addr} {xs : List Value} (h : Fr w b0 e A n c xs) (hb : b < b0) (u0 u1 u2 u3 : Value) : Fr ((((w.setCell ⟨b, 0, none⟩ u0).setCell ⟨b, 1, none⟩ u1).setCell ⟨b, 2, none⟩ u2).setCell ⟨b, 3, none⟩ u3) b0 e A n c xs :=
  (((h.setFar hb _).setFar hb _).setFar hb _).setFar hb _

set_option maxRecDepth 100000 in
set_option maxHeartbeats 8000000 in
theorem refOneE_c {w : World} {B n c : Nat} {A : Option Addr} {l : List UInt8} (h : Rd w B A n c (bv l)) (hB : B ≤ w.heap.size) (hn : n ≤ 1000000000) {p : ByteArray} (hp : p.size ≤ 1000000) :
    Calls Try.prog 32 #[.slice A n c, .string p] w (OnePost w p l) := by
  have hll : l.length = n := by simpa using h.len
  obtain ⟨b4, hb4⟩ : ∃ b4, w.heap.size = b4 := ⟨_, rfl⟩
  obtain ⟨wa, hwa⟩ : ∃ wa, w.alloc (.cells #[.string ⟨#[]⟩, .int .u64 0, .int .u8 0, .string ⟨#[]⟩] 38) = wa := ⟨_, rfl⟩
  have ea : EnAt wa b4 noE := by rw [← hwa, ← hb4]; exact EnAt.new w noE
  have ga : Below w.heap.size w wa := by rw [← hwa]; exact below_alloc w _
  have ha : Rd wa B A n c (bv l) := h.under ga hB
  have hT := refTake_c ha (Nat.le_trans hB ga.size) (by omega)
  have hpi : (p.size : Int) ≤ 1000000 := by omega
  have hpw : IntKind.u64.wrap (p.size : Int) = (p.size : Int) := by rw [wrapu]; omega
  have EA := Lib.hid ea
  have GA := Lib.hid ga
  have HLL := Lib.hid hll
  have hbl : b4 < wa.heap.size := ea.lt
  clear h ha ea ga hll
  cases h1 : takeN l with
  | none =>
    have HT := Lib.hid (hT.mono (fun _ _ hp => takePost_no h1 hp))
    have HO := Lib.hid (show oneE p l = none by unfold oneE; rw [h1])
    clear hT h1
    go_enter Try.func32, Try.ntmps32
    go_wp2_with fail
    refine HT.out.mono ?_
    rintro e w2 ⟨A2, n2, c2, rfl, hf2, hb2⟩
    have E2 := Lib.hid (EA.out.below hb2)
    have G2 := Lib.hid (bon GA.out hb2)
    clear hf2 hb2 HT EA GA hwa
    obtain ⟨f0, f1, f2, f3⟩ := E2.out.frozen
    obtain ⟨d0, d1, d2, d3⟩ := E2.out.cells
    have HFIN := Lib.hid (And.intro (E2.out.set4 (y := noE)) (below_set4 G2.out (Nat.le_of_eq hb4) (.string noE.s) (.int .u64 (noE.q : Int)) (.int .u8 (noE.k : Int)) (.string noE.v)))
    go_wp2_with fail
    exact ret_en3 rfl rfl rfl HFIN.out.1 ⟨noE, none, 0, 0, [], false, rfl, ⟨(fun h => by cases h), fun _ => HO.out⟩, Fr.nil, HFIN.out.2⟩
  | some pr =>
    obtain ⟨v, m⟩ := pr
    have HT := Lib.hid (hT.mono (fun _ _ hp => takePost_to ⟨h1, rfl⟩ hp))
    have hvl : v < 2 ^ 64 := (takeN_le h1).2.2.2.1
    have hvi : (v : Int) ≤ 18446744073709551615 := by omega
    have H1 := Lib.hid h1
    clear hT h1
    by_cases hvp : p.size < v
    · have d0 : decide ((p.size : Int) < (v : Int)) = true := by simp; omega
      have d0' : decide (p.size < v) = true := by simpa using hvp
      have HO := Lib.hid (show oneE p l = none by unfold oneE; rw [H1.out]; simp only []; rw [if_pos hvp])
      clear hvp hvl
      go_enter Try.func32, Try.ntmps32
      go_wp2_with fail
      refine HT.out.mono ?_
      rintro e w2 ⟨A2, n2, c2, rfl, hf2, hb2⟩
      have E2 := Lib.hid (EA.out.below hb2)
      have G2 := Lib.hid (bon GA.out hb2)
      clear hf2 hb2 HT EA GA hwa
      obtain ⟨f0, f1, f2, f3⟩ := E2.out.frozen
      obtain ⟨d0, d1, d2, d3⟩ := E2.out.cells
      have HFIN := Lib.hid (And.intro (E2.out.set4 (y := noE)) (below_set4 G2.out (Nat.le_of_eq hb4) (.string noE.s) (.int .u64 (noE.q : Int)) (.int .u8 (noE.k : Int)) (.string noE.v)))
      go_wp2_with fail
      exact ret_en3 rfl rfl rfl HFIN.out.1 ⟨noE, none, 0, 0, [], false, rfl, ⟨(fun h => by cases h), fun _ => HO.out⟩, Fr.nil, HFIN.out.2⟩
    have d0 : decide ((p.size : Int) < (v : Int)) = false := by simp; omega
    have d0' : decide (p.size < v) = false := by simpa using hvp
    have hvle : v ≤ p.size := by omega
    have hsl := fun W => run_upto hvle .u64 W
    go_enter Try.func32, Try.ntmps32
    go_wp2_with fail
    refine HT.out.mono ?_
    rintro e w2 ⟨A2, n2, c2, rfl, hf2, hb2⟩
    have E2 := Lib.hid (EA.out.below hb2)
    have G2 := Lib.hid (bon GA.out hb2)
    have hn2 : n2 ≤ 1000000000 := ret_len hf2 (by rw [List.length_drop, HLL.out]; omega)
    have hT2 := refTakeText_c (hf2.rd (Nat.le_refl _)) (Nat.le_refl _) (by omega) 64 (by decide) (by decide)
    have HN2 := Lib.hid (show (l.drop m).length = n2 by have := hf2.len; rw [bv_length] at this; exact this)
    clear hf2 hb2 HT EA GA hwa hvl
    cases h2 : textTake (l.drop m) 64 with
    | none =>
      have HT2 := Lib.hid (hT2.mono (fun _ _ hp => textPost_no h2 hp))
      have HO := Lib.hid (show oneE p l = none by unfold oneE; rw [H1.out]; simp only []; rw [if_neg hvp, h2])
      clear hT2 h2
      go_wp2_with fail
      refine HT2.out.mono ?_
      rintro e w3 ⟨A3, n3, c3, rfl, hf3, hb3⟩
      have E3 := Lib.hid (E2.out.below hb3)
      have G3 := Lib.hid (bon G2.out hb3)
      clear hf3 hb3 HT2 E2 G2
      obtain ⟨f0, f1, f2, f3⟩ := E3.out.frozen
      obtain ⟨d0, d1, d2, d3⟩ := E3.out.cells
      have HFIN := Lib.hid (And.intro (E3.out.set4 (y := noE)) (below_set4 G3.out (Nat.le_of_eq hb4) (.string noE.s) (.int .u64 (noE.q : Int)) (.int .u8 (noE.k : Int)) (.string noE.v)))
      go_wp2_with fail
      exact ret_en3 rfl rfl rfl HFIN.out.1 ⟨noE, none, 0, 0, [], false, rfl, ⟨(fun h => by cases h), fun _ => HO.out⟩, Fr.nil, HFIN.out.2⟩
    | some pr =>
    obtain ⟨t, r2⟩ := pr
    have HT2 := Lib.hid (hT2.mono (fun _ _ hp => textPost_to h2 hp))
    have hts : t.length ≤ 64 := by
      have := h2
      unfold textTake at this
      split at this
      · next a b hv =>
        split at this
        · simp only [Option.some.injEq, Prod.mk.injEq] at this
          rw [← this.1, List.length_take]; omega
        · cases this
      · cases this
    have hr2l := textTake_rest h2
    have H2 := Lib.hid h2
    have hts2 : (⟨t.toArray⟩ : ByteArray).size ≤ 64 := by rw [size_toArray]; exact hts
    have hadd : ∀ W : World, (Op.stringOp .add (takeS p v) ⟨t.toArray⟩).run Try.prog W = .ok (.string (takeS p v ++ ⟨t.toArray⟩)) W := fun W => run_string_add_sum W _ _ (by rw [takeS_size p hvle]; omega)
    clear hT2 h2 hts
    go_wp2_with fail
    refine HT2.out.mono ?_
    rintro e w3 ⟨A3, n3, c3, rfl, hf3, hb3⟩
    have E3 := Lib.hid (E2.out.below hb3)
    have G3 := Lib.hid (bon G2.out hb3)
    have hn3 : n3 ≤ 1000000000 := ret_len hf3 (by have := HN2.out; omega)
    have HN3 := Lib.hid (show r2.length = n3 by have := hf3.len; rw [bv_length] at this; exact this)
    have hT3 := refTake_c (hf3.rd (Nat.le_refl _)) (Nat.le_refl _) (by omega)
    clear hf3 hb3 HT2 E2 G2 hr2l hts2
    cases h3 : takeN r2 with
    | none =>
      have HT3 := Lib.hid (hT3.mono (fun _ _ hp => takePost_no h3 hp))
      have HO := Lib.hid (show oneE p l = none by unfold oneE; rw [H1.out]; simp only []; rw [if_neg hvp, H2.out]; simp only []; rw [h3])
      clear hT3 h3
      go_wp2_with fail
      refine HT3.out.mono ?_
      rintro e w4 ⟨A4, n4, c4, rfl, hf4, hb4'⟩
      have E4 := Lib.hid (E3.out.below hb4')
      have G4 := Lib.hid (bon G3.out hb4')
      clear hf4 hb4' HT3 E3 G3
      obtain ⟨f0, f1, f2, f3⟩ := E4.out.frozen
      obtain ⟨d0, d1, d2, d3⟩ := E4.out.cells
      have HFIN := Lib.hid (And.intro (E4.out.set4 (y := noE)) (below_set4 G4.out (Nat.le_of_eq hb4) (.string noE.s) (.int .u64 (noE.q : Int)) (.int .u8 (noE.k : Int)) (.string noE.v)))
      go_wp2_with fail
      exact ret_en3 rfl rfl rfl HFIN.out.1 ⟨noE, none, 0, 0, [], false, rfl, ⟨(fun h => by cases h), fun _ => HO.out⟩, Fr.nil, HFIN.out.2⟩
    | some pr =>
    obtain ⟨x, m3⟩ := pr
    have HT3 := Lib.hid (hT3.mono (fun _ _ hp => takePost_to ⟨h3, rfl⟩ hp))
    have hxl : x < 2 ^ 64 := (takeN_le h3).2.2.2.1
    have H3 := Lib.hid h3
    obtain ⟨X2, hX2⟩ : ∃ X2, x / 2 = X2 := ⟨_, rfl⟩
    obtain ⟨X3, hX3⟩ : ∃ X3, x % 2 = X3 := ⟨_, rfl⟩
    have q2 : (x : Int) / 2 = (X2 : Int) := by omega
    have q3 : (x : Int) % 2 = (X3 : Int) := by omega
    have hX31 : X3 ≤ 1 := by omega
    have u2 : IntKind.u64.wrap (X2 : Int) = (X2 : Int) := by rw [wrapu]; omega
    have u3 : IntKind.u64.wrap (X3 : Int) = (X3 : Int) := by rw [wrapu]; omega
    have u8 : IntKind.u8.wrap (X3 : Int) = (X3 : Int) := by simp [IntKind.wrap, IntKind.bits, IntKind.signed]; omega
    have HX2 := Lib.hid hX2
    have HX3 := Lib.hid hX3
    clear hT3 h3 hX2 hX3 hxl
    go_wp2_with fail
    refine HT3.out.mono ?_
    rintro e w4 ⟨A4, n4, c4, rfl, hf4, hb4'⟩
    have e4 := E3.out.below hb4'
    have g4 := bon G3.out hb4'
    have hn4 : n4 ≤ 1000000000 := ret_len hf4 (by rw [List.length_drop, HN3.out]; omega)
    have y0 : EnAt (w4.alloc (.cells #[.string (takeS p v ++ ⟨t.toArray⟩), .int .u64 (X2 : Int), .int .u8 (X3 : Int), .string ⟨#[]⟩] 38)) w4.heap.size ⟨takeS p v ++ ⟨t.toArray⟩, X2, X3, noS⟩ := EnAt.new w4 ⟨takeS p v ++ ⟨t.toArray⟩, X2, X3, noS⟩
    have E4 := Lib.hid (e4.below (below_alloc w4 (.cells #[.string (takeS p v ++ ⟨t.toArray⟩), .int .u64 (X2 : Int), .int .u8 (X3 : Int), .string ⟨#[]⟩] 38)))
    have G4 := Lib.hid (blit g4 (.cells #[.string (takeS p v ++ ⟨t.toArray⟩), .int .u64 (X2 : Int), .int .u8 (X3 : Int), .string ⟨#[]⟩] 38))
    have r4 : Rd (w4.alloc (.cells #[.string (takeS p v ++ ⟨t.toArray⟩), .int .u64 (X2 : Int), .int .u8 (X3 : Int), .string ⟨#[]⟩] 38)) w4.heap.size A4 n4 c4 (bv (r2.drop m3)) := (hf4.rd (Nat.le_refl _)).alloc (Nat.le_refl _) _
    have hb48 : b4 < w4.heap.size := e4.lt
    have hf4' : Fr w4 (b4 + 1) 5 A4 n4 c4 (bv (r2.drop m3)) := hf4.mono (by have := E3.out.lt; omega)
    have F4 := Lib.hid (hf4'.alloc (.cells #[.string (takeS p v ++ ⟨t.toArray⟩), .int .u64 (X2 : Int), .int .u8 (X3 : Int), .string ⟨#[]⟩] 38))
    clear hf4 hf4' hb4' HT3 E3 G3 e4 g4
    obtain ⟨k0, k1, k2, k3⟩ := y0.cells
    have Y0 := Lib.hid y0
    have R4 := Lib.hid r4
    clear y0 r4
    have hk : X3 = 1 ∨ X3 = 0 := by omega
    rcases hk with hk | hk
    · have d1 : ((X3 : Int) == 1) = true := by simp; omega
      have hT4 := refTakeText_c R4.out (below_alloc w4 _).size (by omega) 256 (by decide) (by decide)
      have HK := Lib.hid hk
      clear hk
      go_upto_region 11 with (fail)
      generalize hwz : w4.alloc (.cells #[.string (takeS p v ++ ⟨t.toArray⟩), .int .u64 (X2 : Int), .int .u8 (X3 : Int), .string ⟨#[]⟩] 38) = wz at *
      generalize hb8 : w4.heap.size = b8 at *
      have hb8z : b8 < wz.heap.size := Y0.out.lt
      clear hwz hb8
      cases h4 : textTake (r2.drop m3) 256 with
      | none =>
        have HT4 := Lib.hid (hT4.mono (fun _ _ hp => textPost_no h4 hp))
        have HO := Lib.hid (show oneE p l = none by unfold oneE; rw [H1.out]; simp only []; rw [if_neg hvp, H2.out]; simp only []; rw [H3.out]; simp only []; rw [if_pos (by rw [HX3.out]; exact HK.out), h4])
        clear hT4 h4
        go_wp2_with fail
        refine HT4.out.mono ?_
        rintro e w5 ⟨A5, n5, c5, rfl, hf5, hb5⟩
        have y5 := Y0.out.below hb5
        have e5 := E4.out.below hb5
        have g5 := bon G4.out hb5
        have hf5' : Fr w5 (b8 + 1) 5 A5 n5 c5 _ := hf5.mono hb8z
        obtain ⟨j0, j1, j2, j3⟩ := y5.frozen
        clear k0 k1 k2 k3
        obtain ⟨k0, k1, k2, k3⟩ := y5.cells
        have hne : b8 ≠ b4 := by omega
        have yz := y5.set1 ⟨#[]⟩
        have ez := e5.only (Only.set w5 b8 3 (.string ⟨#[]⟩)) (Ne.symm hne)
        have gz : Below w.heap.size w (w5.setCell ⟨b8, 3, none⟩ (.string ⟨#[]⟩)) := Below.setCell g5 (show w.heap.size ≤ (⟨b8, 3, none⟩ : Addr).block by show w.heap.size ≤ b8; omega) _
        have fz := (hf5'.setFar (show (⟨b8, 3, none⟩ : Addr).block < b8 + 1 from Nat.lt_succ_self b8) (.string ⟨#[]⟩)).mono (show b4 + 1 ≤ b8 + 1 by omega)
        clear hf5 hf5' hb5 y5 e5 g5
        have YZ := Lib.hid yz
        have EZ := Lib.hid ez
        have GZ := Lib.hid gz
        have FZ := Lib.hid fz
        clear yz ez gz fz
        go_upto_region 13 with (fail)
        generalize hwy : w5.setCell ⟨b8, 3, none⟩ (.string ⟨#[]⟩) = wy at *
        clear hwy j0 j1 j2 j3 k0 k1 k2 k3
        obtain ⟨i0, i1, i2, i3⟩ := YZ.out.cells
        obtain ⟨f0, f1, f2, f3⟩ := EZ.out.frozen
        obtain ⟨d0', d1', d2', d3'⟩ := EZ.out.cells
        have HFIN := Lib.hid (And.intro (EZ.out.set4 (y := ⟨takeS p v ++ ⟨t.toArray⟩, X2, X3, noS⟩)) (below_set4 GZ.out (Nat.le_of_eq hb4) (.string (takeS p v ++ ⟨t.toArray⟩)) (.int .u64 (X2 : Int)) (.int .u8 (X3 : Int)) (.string noS)))
        go_wp2_with fail
        exact ret_en3 rfl rfl rfl HFIN.out.1 ⟨_, A5, n5, c5, [], false, rfl, ⟨(fun h => by cases h), fun _ => HO.out⟩, ((FZ.out.set4 (Nat.lt_succ_self b4) _ _ _ _).mono (by omega)), HFIN.out.2⟩
      | some pr =>
        obtain ⟨u, r4'⟩ := pr
        have HT4 := Lib.hid (hT4.mono (fun _ _ hp => textPost_to h4 hp))
        have HO := Lib.hid (show oneE p l = some (⟨takeS p v ++ ⟨t.toArray⟩, X2, X3, ⟨u.toArray⟩⟩, r4') by unfold oneE; rw [H1.out]; simp only []; rw [if_neg hvp, H2.out]; simp only []; rw [H3.out]; simp only []; rw [if_pos (by rw [HX3.out]; exact HK.out), h4, HX2.out, HX3.out])
        clear hT4 h4
        go_wp2_with fail
        refine HT4.out.mono ?_
        rintro e w5 ⟨A5, n5, c5, rfl, hf5, hb5⟩
        have y5 := Y0.out.below hb5
        have e5 := E4.out.below hb5
        have g5 := bon G4.out hb5
        have hf5' : Fr w5 (b8 + 1) 5 A5 n5 c5 _ := hf5.mono hb8z
        obtain ⟨j0, j1, j2, j3⟩ := y5.frozen
        clear k0 k1 k2 k3
        obtain ⟨k0, k1, k2, k3⟩ := y5.cells
        have hne : b8 ≠ b4 := by omega
        have yz := y5.set1 ⟨u.toArray⟩
        have ez := e5.only (Only.set w5 b8 3 (.string ⟨u.toArray⟩)) (Ne.symm hne)
        have gz : Below w.heap.size w (w5.setCell ⟨b8, 3, none⟩ (.string ⟨u.toArray⟩)) := Below.setCell g5 (show w.heap.size ≤ (⟨b8, 3, none⟩ : Addr).block by show w.heap.size ≤ b8; omega) _
        have fz := (hf5'.setFar (show (⟨b8, 3, none⟩ : Addr).block < b8 + 1 from Nat.lt_succ_self b8) (.string ⟨u.toArray⟩)).mono (show b4 + 1 ≤ b8 + 1 by omega)
        clear hf5 hf5' hb5 y5 e5 g5
        have YZ := Lib.hid yz
        have EZ := Lib.hid ez
        have GZ := Lib.hid gz
        have FZ := Lib.hid fz
        clear yz ez gz fz
        go_upto_region 13 with (fail)
        generalize hwy : w5.setCell ⟨b8, 3, none⟩ (.string ⟨u.toArray⟩) = wy at *
        clear hwy j0 j1 j2 j3 k0 k1 k2 k3
        obtain ⟨i0, i1, i2, i3⟩ := YZ.out.cells
        obtain ⟨f0, f1, f2, f3⟩ := EZ.out.frozen
        obtain ⟨d0', d1', d2', d3'⟩ := EZ.out.cells
        have HFIN := Lib.hid (And.intro (EZ.out.set4 (y := ⟨takeS p v ++ ⟨t.toArray⟩, X2, X3, ⟨u.toArray⟩⟩)) (below_set4 GZ.out (Nat.le_of_eq hb4) (.string (takeS p v ++ ⟨t.toArray⟩)) (.int .u64 (X2 : Int)) (.int .u8 (X3 : Int)) (.string ⟨u.toArray⟩)))
        go_wp2_with fail
        exact ret_en3 rfl rfl rfl HFIN.out.1 ⟨_, A5, n5, c5, r4', true, rfl, ⟨fun _ => HO.out, (fun h => by cases h)⟩, ((FZ.out.set4 (Nat.lt_succ_self b4) _ _ _ _).mono (by omega)), HFIN.out.2⟩
    · have d1 : ((X3 : Int) == 1) = false := by simp; omega
      have HO := Lib.hid (show oneE p l = some (⟨takeS p v ++ ⟨t.toArray⟩, X2, X3, noS⟩, r2.drop m3) by unfold oneE; rw [H1.out]; simp only []; rw [if_neg hvp, H2.out]; simp only []; rw [H3.out]; simp only []; rw [if_neg (by rw [HX3.out]; omega), HX2.out, HX3.out])
      clear hk
      go_upto_region 13 with (fail)
      generalize hwz : w4.alloc (.cells #[.string (takeS p v ++ ⟨t.toArray⟩), .int .u64 (X2 : Int), .int .u8 (X3 : Int), .string ⟨#[]⟩] 38) = wz at *
      generalize hb8 : w4.heap.size = b8 at *
      clear hwz hb8 k0 k1 k2 k3
      obtain ⟨i0, i1, i2, i3⟩ := Y0.out.cells
      obtain ⟨f0, f1, f2, f3⟩ := E4.out.frozen
      obtain ⟨d0', d1', d2', d3'⟩ := E4.out.cells
      have HFIN := Lib.hid (And.intro (E4.out.set4 (y := ⟨takeS p v ++ ⟨t.toArray⟩, X2, X3, noS⟩)) (below_set4 G4.out (Nat.le_of_eq hb4) (.string (takeS p v ++ ⟨t.toArray⟩)) (.int .u64 (X2 : Int)) (.int .u8 (X3 : Int)) (.string noS)))
      go_wp2_with fail
      exact ret_en3 rfl rfl rfl HFIN.out.1 ⟨_, A4, n4, c4, _, true, rfl, ⟨fun _ => HO.out, (fun h => by cases h)⟩, ((F4.out.set4 (Nat.lt_succ_self b4) _ _ _ _).mono (by omega)), HFIN.out.2⟩
end Go.Proofs.Ytfbmphaabdhphaa
