/-
  What bytes begin with an operation's form: the contract of takeOp.
-/
import Derived.Test.YthgaiimgfnbkaaaGreatDoorBtT
import Derived.Deep.RegionHeld3
import Derived.RegionTactic
namespace Go.Proofs.YthgaiimgfnbkaaaGreatDoor
set_option maxRecDepth 100000
open Go.RowKit Go.Shelf

/-- Results: a variable of an operation, and two more. -/
theorem results_op3 {fn : Func} {p u v : Tmp} {tmps : Array Value} {w : World} {g : Nat} {x : Bop} (h : fn.results = #[.cell p 43, .tmp u, .tmp v])
    (hp : tmps.getD p undef = .pointer (some ⟨g, 0, none⟩)) (hg : OpAt w g x) :
    (results fn tmps).run Tryz.prog w = .ok (.tuple #[ov x, tmps.getD u undef, tmps.getD v undef]) w := by
  have hp' : tmps[p]?.getD undef = .pointer (some ⟨g, 0, none⟩) := by simpa using hp
  have hl := run_loadVar_row (P := Tryz.prog) w g 43 43 _ (0, 0) _ hg.h Tryz.underlying43 rfl (by kernel_rfl)
  simp [results, h, hp', asAddr, hl, ov]
theorem ret_op3 {fn : Func} {p u v : Tmp} {R : Ending → World → Prop} {a : Act} {w : World} {g : Nat} {x : Bop} (h : fn.results = #[.cell p 43, .tmp u, .tmp v]) (hd : a.defers = [])
    (hp : a.tmps.getD p undef = .pointer (some ⟨g, 0, none⟩)) (hg : OpAt w g x) (hR : R (.returned (.tuple #[ov x, a.tmps.getD u undef, a.tmps.getD v undef])) w) : bodyPost Tryz.prog fn R .ret a w :=
  bodyPost_ret (results_op3 h hp hg) hd hR
structure OpR (l : List UInt8) (x : Bop) (r : List UInt8) (ok : Bool) : Prop where
  yes : ok = true → takeO l = some (x, r)
  no : ok = false → takeO l = none
  le : r.length ≤ l.length
def OpPost (w : World) (B : Nat) (l : List UInt8) (e : Ending) (w' : World) : Prop :=
  ∃ x r ok A n c, e = .returned (.tuple #[ov x, .slice A n c, .bool ok]) ∧ OpR l x r ok ∧ Rd w' B A n c (bv r) ∧ Below w.heap.size w w'
theorem below_op3 {B : Nat} {a w : World} (h : Below B a w) {b : Nat} (hb : B ≤ b) (u v x : Value) :
    Below B a (((w.setCell ⟨b, 0, none⟩ u).setCell ⟨b, 1, none⟩ v).setCell ⟨b, 2, none⟩ x) := ((h.setCell hb _).setCell hb _).setCell hb _
theorem Rd.op3 {w : World} {B n c : Nat} {A : Option Addr} {xs : List Value} (h : Rd w B A n c xs) {b : Nat} (hb : B ≤ b) (u v x : Value) :
    Rd (((w.setCell ⟨b, 0, none⟩ u).setCell ⟨b, 1, none⟩ v).setCell ⟨b, 2, none⟩ x) B A n c xs := ((h.setCell (p := ⟨b, 0, none⟩) hb u).setCell (p := ⟨b, 1, none⟩) hb v).setCell (p := ⟨b, 2, none⟩) hb x
/-- What the parts come to. -/
theorem op_put {c : UInt8} {t s r v r2 : List UInt8} {b : Bool} (hc : c.toNat = 1) (h1 : textTake t 64 = some (s, r)) (h2 : textTake r 256 = some (v, r2)) (hb : opB ⟨c.toNat, ⟨s.toArray⟩, ⟨v.toArray⟩⟩ = b) (hle : r2.length ≤ (c :: t).length) : OpR (c :: t) ⟨c.toNat, ⟨s.toArray⟩, ⟨v.toArray⟩⟩ r2 b := by
  rw [hc] at hb ⊢
  have hR : takeR (c :: t) = some (⟨1, ⟨s.toArray⟩, ⟨v.toArray⟩⟩, r2) := by simp only [takeR, h1, hc, h2]; simp
  subst hb
  exact ⟨fun h => by simp only [takeO, hR, h, if_true], fun h => by simp only [takeO, hR, h]; simp, hle⟩
theorem op_put_no {c : UInt8} {t s r : List UInt8} {x : Bop} {r2 : List UInt8} (hc : c.toNat = 1) (h1 : textTake t 64 = some (s, r)) (h2 : textTake r 256 = none) (hle : r2.length ≤ (c :: t).length) : OpR (c :: t) x r2 false := by
  refine ⟨fun e => (by cases e), fun _ => ?_, hle⟩
  have hR : takeR (c :: t) = none := by simp only [takeR, h1, hc, h2]; simp
  simp only [takeO, hR]
theorem op_del {c : UInt8} {t s r : List UInt8} {b : Bool} (hc : c.toNat ≠ 1) (h1 : textTake t 64 = some (s, r)) (hb : opB ⟨c.toNat, ⟨s.toArray⟩, ⟨#[]⟩⟩ = b) (hle : r.length ≤ (c :: t).length) : OpR (c :: t) ⟨c.toNat, ⟨s.toArray⟩, ⟨#[]⟩⟩ r b := by
  subst hb
  by_cases h0 : c.toNat = 0
  · have hR : takeR (c :: t) = some (⟨0, ⟨s.toArray⟩, ⟨#[]⟩⟩, r) := by simp only [takeR, h1, h0]; simp
    rw [h0]
    exact ⟨fun h => by simp only [takeO, hR, h, if_true], fun h => by simp only [takeO, hR, h]; simp, hle⟩
  · have hR : takeR (c :: t) = none := by simp only [takeR]; rw [if_pos (by omega)]
    have hB : opB ⟨c.toNat, ⟨s.toArray⟩, ⟨#[]⟩⟩ = false := by
      cases h : opB ⟨c.toNat, ⟨s.toArray⟩, ⟨#[]⟩⟩ with
      | false => rfl
      | true => have := (opB_iff _).1 h; dsimp only at this; omega
    rw [hB]
    exact ⟨fun e => (by cases e), fun _ => by simp only [takeO, hR], hle⟩
theorem op_no {c : UInt8} {t : List UInt8} {x : Bop} {r2 : List UInt8} (h1 : textTake t 64 = none) (hle : r2.length ≤ (c :: t).length) : OpR (c :: t) x r2 false := by
  refine ⟨fun e => (by cases e), fun _ => ?_, hle⟩
  have hR : takeR (c :: t) = none := by simp only [takeR, h1]; split <;> rfl
  simp only [takeO, hR]
theorem op_nil {x : Bop} : OpR [] x [] false := ⟨fun e => (by cases e), fun _ => rfl, Nat.le_refl _⟩

set_option maxRecDepth 100000 in
set_option maxHeartbeats 4000000 in
theorem takeOp_c {w : World} {B n c : Nat} {A : Option Addr} {l : List UInt8} (h : Rd w B A n c (bv l)) (hB : B ≤ w.heap.size) (hn : n ≤ 70368744000000) :
    Calls Tryz.prog 92 #[.slice A n c] w (OpPost w B l) := by
  have hl : l.length = n := by simpa using h.len
  have hcap := h.cap
  cases l with
  | nil =>
    obtain rfl : n = 0 := by simpa using hl.symm
    clear hl hn hcap h
    go_enter Tryz.func92, Tryz.ntmps92
    go_wp2_with fail
    exact ret_op3 rfl rfl rfl (OpAt.new w ⟨0, ⟨#[]⟩, ⟨#[]⟩⟩) ⟨⟨0, ⟨#[]⟩, ⟨#[]⟩⟩, [], false, none, 0, 0, rfl, op_nil, Rd.nilv, below_alloc w _⟩
  | cons cc t =>
    have hn1 : 0 < n := by simp at hl; omega
    obtain ⟨b, off, rfl, hbB, hcell⟩ := h.form hn1
    have hc0 := hcell 0 (b8 cc) rfl
    unfold b8 at hc0
    obtain ⟨A2, hsl, hr2⟩ := h.slice_lo 26 5 (P := Tryz.prog) Tryz.underlying26 info_u8 .i64 (k := 1) (by omega)
    replace hsl : ∀ W, (Instr.slice 26 (.slice (some ⟨b, off, none⟩) n c) (some (.int .i64 1)) none none).run Tryz.prog W = .ok (.slice A2 (n - 1) (c - 1)) W := hsl
    rw [bv_drop', List.drop_succ_cons, List.drop_zero] at hr2
    have HT := Lib.hid (takeTextN_c (hr2.alloc hB (.cells #[.int .u8 0, .string ⟨#[]⟩, .string ⟨#[]⟩] 43)) (by simp; omega) (by omega) 64 (by decide))
    have hcc : (w.alloc (.cells #[.int .u8 0, .string ⟨#[]⟩, .string ⟨#[]⟩] 43)).cell? ⟨b, off, none⟩ = some (.int .u8 (cc.toNat : Int)) := (World.cell?_alloc_lt w _ _ (by simp; omega)).trans hc0
    have d0 : ((n : Int) == 0) = false := by simp; omega
    have hni : (0 : Int) < (n : Int) := by omega
    have hcb : (cc.toNat : Int) ≤ 255 := by have := cc.toNat_lt; omega
    have HO := fun W (x : Bop) => op_c W x
    unfold ov at HO
    have HO := Lib.hid HO
    have HBw := Lib.hid hB
    have HL := Lib.hid hl
    have HN := Lib.hid hn
    clear h hr2 hcell hc0 hl hn hcap hB hbB
    go_enter Tryz.func92, Tryz.ntmps92
    go_wp2_with fail
    refine HT.out.mono ?_
    rintro e w1 ⟨s, r, ok, A1, n1, c1, rfl, hnr, hrd, hb1⟩
    have i0 := (OpAt.new w ⟨0, ⟨#[]⟩, ⟨#[]⟩⟩).below hb1 (Nat.le_refl _)
    have hbw : Below w.heap.size w w1 := (below_alloc w _).trans (hb1.mono (by simp))
    clear hb1 hcc hsl HT
    cases ok with
    | false =>
      have iA := i0.alloc (.cells #[.int .u8 (cc.toNat : Int), .string ⟨s.toArray⟩, .string ⟨#[]⟩] 43)
      have iB := OpAt.new w1 ⟨cc.toNat, ⟨s.toArray⟩, ⟨#[]⟩⟩
      have HIB := Lib.hid iB
      have hlt : w.heap.size < w1.heap.size := i0.lt
      have HBA := Lib.hid (blit hbw (.cells #[.int .u8 (cc.toNat : Int), .string ⟨s.toArray⟩, .string ⟨#[]⟩] 43))
      have HRA := Lib.hid ((hrd.alloc (Nat.le_trans HBw.out hbw.size) (.cells #[.int .u8 (cc.toNat : Int), .string ⟨s.toArray⟩, .string ⟨#[]⟩] 43)))
      have HIA := Lib.hid iA
      have HX := Lib.hid (op_no (c := cc) (x := ⟨cc.toNat, ⟨s.toArray⟩, ⟨#[]⟩⟩) (hnr.no rfl) (show r.length ≤ (cc :: t).length by have := hnr.le; simp; omega))
      clear i0 iA iB hbw hrd
      go_wp2_with fail
      generalize hwz : w1.alloc (.cells #[.int .u8 (cc.toNat : Int), .string ⟨s.toArray⟩, .string ⟨#[]⟩] 43) = wz at *
      clear hwz
      obtain ⟨a0, a1, a2⟩ := HIA.out.cells
      obtain ⟨g0, g1, g2⟩ := HIA.out.frozen
      obtain ⟨e0, e1, e2⟩ := HIB.out.cells
      go_region
      all_goals go_wp2_with fail
      all_goals exact ret_op3 rfl rfl rfl ((OpAt.drew HIA.out).store ⟨cc.toNat, ⟨s.toArray⟩, ⟨#[]⟩⟩) ⟨_, _, _, _, _, _, rfl, HX.out, (Rd.drew HRA.out).op3 (HBw.out) _ _ _, below_op3 (Below.drew HBA.out) (Nat.le_refl _) _ _ _⟩
    | true =>
      by_cases hk : cc.toNat = 1
      · have dk : ((cc.toNat : Int) == 1) = true := by simp; omega
        have hnr1 := hnr.le
        have hrl := hrd.len
        have HT2 := Lib.hid (takeTextN_c hrd (Nat.le_trans HBw.out hbw.size) (by have := HL.out; have := HN.out; simp at *; omega) 256 (by decide))
        have HK := Lib.hid hk
        have HNR := Lib.hid hnr
        clear hk hnr1 hrl hnr hrd
        go_wp2_with fail
        refine HT2.out.mono ?_
        rintro e w2 ⟨v, r2, ok2, A3, n3, c3, rfl, hnr2, hrd, hb2⟩
        have i0 := i0.below hb2 (Nat.le_refl _)
        have hbw := bon hbw hb2
        have HLE := Lib.hid (show r2.length ≤ (cc :: t).length by have := HNR.out.le; have := hnr2.le; simp; omega)
        clear hb2 HT2
        cases ok2 with
        | false =>
          have iA := i0.alloc (.cells #[.int .u8 (cc.toNat : Int), .string ⟨s.toArray⟩, .string ⟨v.toArray⟩] 43)
          have iB := OpAt.new w2 ⟨cc.toNat, ⟨s.toArray⟩, ⟨v.toArray⟩⟩
          have HIB := Lib.hid iB
          have hlt : w.heap.size < w2.heap.size := i0.lt
          have HBA := Lib.hid (blit hbw (.cells #[.int .u8 (cc.toNat : Int), .string ⟨s.toArray⟩, .string ⟨v.toArray⟩] 43))
          have HRA := Lib.hid ((hrd.alloc (Nat.le_trans HBw.out hbw.size) (.cells #[.int .u8 (cc.toNat : Int), .string ⟨s.toArray⟩, .string ⟨v.toArray⟩] 43)))
          have HIA := Lib.hid iA
          have HX := Lib.hid (op_put_no (x := ⟨cc.toNat, ⟨s.toArray⟩, ⟨v.toArray⟩⟩) HK.out (HNR.out.yes rfl) (hnr2.no rfl) HLE.out)
          clear i0 iA iB hbw hrd
          go_wp2_with fail
          generalize hwz : w2.alloc (.cells #[.int .u8 (cc.toNat : Int), .string ⟨s.toArray⟩, .string ⟨v.toArray⟩] 43) = wz at *
          clear hwz
          obtain ⟨a0, a1, a2⟩ := HIA.out.cells
          obtain ⟨g0, g1, g2⟩ := HIA.out.frozen
          obtain ⟨e0, e1, e2⟩ := HIB.out.cells
          go_region
          all_goals go_wp2_with fail
          all_goals exact ret_op3 rfl rfl rfl ((OpAt.drew HIA.out).store ⟨cc.toNat, ⟨s.toArray⟩, ⟨v.toArray⟩⟩) ⟨_, _, _, _, _, _, rfl, HX.out, (Rd.drew HRA.out).op3 (HBw.out) _ _ _, below_op3 (Below.drew HBA.out) (Nat.le_refl _) _ _ _⟩
        | true =>
          have iA := i0.alloc (.cells #[.int .u8 (cc.toNat : Int), .string ⟨s.toArray⟩, .string ⟨v.toArray⟩] 43)
          have iB := OpAt.new w2 ⟨cc.toNat, ⟨s.toArray⟩, ⟨v.toArray⟩⟩
          have hlt : w.heap.size ≠ w2.heap.size := by have := i0.lt; omega
          have HBA := Lib.hid (blit hbw (.cells #[.int .u8 (cc.toNat : Int), .string ⟨s.toArray⟩, .string ⟨v.toArray⟩] 43))
          have HRA := Lib.hid ((hrd.alloc (Nat.le_trans HBw.out hbw.size) (.cells #[.int .u8 (cc.toNat : Int), .string ⟨s.toArray⟩, .string ⟨v.toArray⟩] 43)))
          have HX := Lib.hid (fun b (hb : opB ⟨cc.toNat, ⟨s.toArray⟩, ⟨v.toArray⟩⟩ = b) => op_put (b := b) HK.out (HNR.out.yes rfl) (hnr2.yes rfl) hb HLE.out)
          have HO2 := HO.out (w2.alloc (.cells #[.int .u8 (cc.toNat : Int), .string ⟨s.toArray⟩, .string ⟨v.toArray⟩] 43)).drew ⟨cc.toNat, ⟨s.toArray⟩, ⟨v.toArray⟩⟩
          generalize hob : opB ⟨cc.toNat, ⟨s.toArray⟩, ⟨v.toArray⟩⟩ = ob at *
          have HX := Lib.hid (HX.out _ rfl)
          have HO2 := Lib.hid HO2
          have HIA := Lib.hid iA
          have HIB := Lib.hid iB
          obtain ⟨e0, e1, e2⟩ := iB.drew.cells
          clear i0 iA iB hbw hrd hob HO
          go_wp2_with fail
          generalize hwz : w2.alloc (.cells #[.int .u8 (cc.toNat : Int), .string ⟨s.toArray⟩, .string ⟨v.toArray⟩] 43) = wz at *
          generalize hgz : w2.heap.size = gz at *
          clear hwz hgz
          go_region_held3 (fun w' => w'.cell? ⟨gz, 0, none⟩ = some (.int .u8 (cc.toNat : Int)) ∧ w'.cell? ⟨gz, 1, none⟩ = some (.string ⟨s.toArray⟩) ∧ w'.cell? ⟨gz, 2, none⟩ = some (.string ⟨v.toArray⟩)) (go_keep)
            ((go_at_call 61; refine HO2.out.mono ?_; rintro e w5 ⟨rfl, hb5⟩; have iA5 := (OpAt.drew HIA.out).below hb5 (Nat.le_refl _); obtain ⟨a0, a1, a2⟩ := iA5.cells; obtain ⟨g0, g1, g2⟩ := iA5.frozen; obtain ⟨f0, f1, f2⟩ := ((OpAt.drew HIB.out).below hb5 (Nat.le_refl _)).cells; clear e0 e1 e2))
          all_goals go_wp2_with fail
          all_goals exact ret_op3 rfl rfl rfl (iA5.store ⟨cc.toNat, ⟨s.toArray⟩, ⟨v.toArray⟩⟩) ⟨_, _, _, _, _, _, rfl, HX.out, ((Rd.drew HRA.out).under hb5 (Nat.le_trans HBw.out HBA.out.size)).op3 HBw.out _ _ _, below_op3 (bon (Below.drew HBA.out) hb5) (Nat.le_refl _) _ _ _⟩
      · have dk : ((cc.toNat : Int) == 1) = false := by simp; omega
        have HK := Lib.hid hk
        have HLE := Lib.hid (show r.length ≤ (cc :: t).length by have := hnr.le; simp; omega)
        clear hk
        have iA := i0.alloc (.cells #[.int .u8 (cc.toNat : Int), .string ⟨s.toArray⟩, .string ⟨#[]⟩] 43)
        have iB := OpAt.new w1 ⟨cc.toNat, ⟨s.toArray⟩, ⟨#[]⟩⟩
        have hlt : w.heap.size ≠ w1.heap.size := by have := i0.lt; omega
        have HBA := Lib.hid (blit hbw (.cells #[.int .u8 (cc.toNat : Int), .string ⟨s.toArray⟩, .string ⟨#[]⟩] 43))
        have HRA := Lib.hid ((hrd.alloc (Nat.le_trans HBw.out hbw.size) (.cells #[.int .u8 (cc.toNat : Int), .string ⟨s.toArray⟩, .string ⟨#[]⟩] 43)))
        have HX := Lib.hid (fun b (hb : opB ⟨cc.toNat, ⟨s.toArray⟩, ⟨#[]⟩⟩ = b) => op_del (b := b) HK.out (hnr.yes rfl) hb HLE.out)
        have HO2 := HO.out (w1.alloc (.cells #[.int .u8 (cc.toNat : Int), .string ⟨s.toArray⟩, .string ⟨#[]⟩] 43)).drew ⟨cc.toNat, ⟨s.toArray⟩, ⟨#[]⟩⟩
        generalize hob : opB ⟨cc.toNat, ⟨s.toArray⟩, ⟨#[]⟩⟩ = ob at *
        have HX := Lib.hid (HX.out _ rfl)
        have HO2 := Lib.hid HO2
        have HIA := Lib.hid iA
        have HIB := Lib.hid iB
        obtain ⟨e0, e1, e2⟩ := iB.drew.cells
        clear i0 iA iB hbw hrd hob HO
        go_wp2_with fail
        generalize hwz : w1.alloc (.cells #[.int .u8 (cc.toNat : Int), .string ⟨s.toArray⟩, .string ⟨#[]⟩] 43) = wz at *
        generalize hgz : w1.heap.size = gz at *
        clear hwz hgz
        go_region_held3 (fun w' => w'.cell? ⟨gz, 0, none⟩ = some (.int .u8 (cc.toNat : Int)) ∧ w'.cell? ⟨gz, 1, none⟩ = some (.string ⟨s.toArray⟩) ∧ w'.cell? ⟨gz, 2, none⟩ = some (.string ⟨#[]⟩)) (go_keep)
          ((go_at_call 61; refine HO2.out.mono ?_; rintro e w5 ⟨rfl, hb5⟩; have iA5 := (OpAt.drew HIA.out).below hb5 (Nat.le_refl _); obtain ⟨a0, a1, a2⟩ := iA5.cells; obtain ⟨g0, g1, g2⟩ := iA5.frozen; obtain ⟨f0, f1, f2⟩ := ((OpAt.drew HIB.out).below hb5 (Nat.le_refl _)).cells; clear e0 e1 e2))
        all_goals go_wp2_with fail
        all_goals exact ret_op3 rfl rfl rfl (iA5.store ⟨cc.toNat, ⟨s.toArray⟩, ⟨#[]⟩⟩) ⟨_, _, _, _, _, _, rfl, HX.out, ((Rd.drew HRA.out).under hb5 (Nat.le_trans HBw.out HBA.out.size)).op3 HBw.out _ _ _, below_op3 (bon (Below.drew HBA.out) hb5) (Nat.le_refl _) _ _ _⟩
end Go.Proofs.YthgaiimgfnbkaaaGreatDoor
