/-
  The notes that bytes begin with, taken into an edit: the contract of takeNotes.
-/
import Derived.Test.YthgbafhfeblhaaaEd3
import Derived.Lib.PathFns
import Derived.Deep.Cut
import Derived.Deep.CutRange
import Derived.Deep.RegionLaw
import Derived.Deep.RegionWith
namespace Go.Proofs.Ythgbafhfeblhaaa
set_option maxRecDepth 100000
open Go.RowKit Go.Shelf
set_option linter.unusedSimpArgs false
set_option linter.unusedVariables false

theorem FrM.off {w : World} {b n c : Nat} {A : Option Addr} {L : List Mt} (h : FrM w b A n c L) {p : Addr} (hp : p.block < b) (u : Value) : FrM (w.setCell p u) b A n c L := by
  obtain ⟨h1, h2⟩ := h.own
  refine ⟨h1, ?_⟩
  rcases h2 with h2 | ⟨g, cap, cur, e, hg, hh, r⟩
  · exact .inl h2
  · refine .inr ⟨g, cap, cur, e, hg, ?_, r⟩
    simp only [World.setCell]
    rw [Array.getElem?_modify, if_neg (by omega)]
    exact hh
theorem FrM.drew {w : World} {b n c : Nat} {A : Option Addr} {L : List Mt} (h : FrM w b A n c L) : FrM w.drew b A n c L := ⟨h.own⟩
theorem RdM.drew1 {w : World} {B n c : Nat} {A : Option Addr} {L : List Mt} (h : RdM w B A n c L) : RdM w.drew B A n c L := h.keep fun _ _ => rfl
theorem FrM.n_eq {w : World} {b n c : Nat} {A : Option Addr} {L : List Mt} (h : FrM w b A n c L) : n = L.length := h.len.symm

/-- An edit in its box, its notes in a row of their own. -/
structure Box (w : World) (b0 g : Nat) (L : List Mt) (x y z : Value) : Prop where
  ex : ∃ A n c, B4 w g 25 (.slice A n c) x y z ∧ FrM w b0 A n c L
/-- One note more. -/
theorem Box.add {w w2 w3 : World} {b0 g : Nat} {L : List Mt} {x y z : Value} {m : Mt} {A A' : Option Addr} {n c n' c' : Nat} (h : B4 w2 g 25 (.slice A n c) x y z) (hap : AppM w2 w3 b0 (.slice A n c) A' n' c' (L ++ [m])) (hg : g < b0)
    (hb : b0 ≤ w2.heap.size) (ho : Only g w w2) (hw : w.heap.size ≤ b0) : Box (w3.setCell ⟨g, 0, none⟩ (.slice A' n' c')) b0 g (L ++ [m]) x y z ∧ Only g w (w3.setCell ⟨g, 0, none⟩ (.slice A' n' c')) :=
  ⟨⟨_, _, _, (h.under hap.below hg).set0 _, hap.fr.off hg _⟩, Only.trans ⟨hap.below.os.trans ho.os, hap.below.tape.trans ho.tape, hap.below.output.trans ho.output, Nat.le_trans ho.size hap.below.size, fun i hi hn => (hap.below.block i (by omega)).trans (ho.block i hi hn)⟩ (Only.set _ _ _ _)⟩

theorem Only.off {w w' : World} {g : Nat} (h : Only g w w') {p : Addr} (hp : w.heap.size ≤ p.block) (u : Value) : Only g w (w'.setCell p u) :=
  ⟨h.os, h.tape, h.output, by simp [World.setCell]; exact h.size, fun i hi hn => by
    simp only [World.setCell]
    rw [Array.getElem?_modify, if_neg (by omega)]
    exact h.block i hi hn⟩
theorem Only.set4 {w w' : World} {g k : Nat} (h : Only g w w') (hp : w.heap.size ≤ k) (a b c d : Value) : Only g w (set4 w' k a b c d) := (((h.off hp _).off hp _).off hp _).off hp _
theorem B4.offset4 {w : World} {g k : Nat} {t : TypeId} {a b c d : Value} (h : B4 w g t a b c d) (hk : k ≠ g) (p q r s : Value) : B4 (set4 w k p q r s) g t a b c d := (((h.off hk _).off hk _).off hk _).off hk _
theorem Only.drew {w w' : World} {g : Nat} (h : Only g w w') : Only g w w'.drew := ⟨h.os, h.tape, h.output, h.size, h.block⟩
theorem Only.alloc {w w' : World} {g : Nat} (h : Only g w w') (o : Obj) : Only g w (w'.alloc o) := h.trans (Only.of (below_alloc w' o))
theorem FrM.off_ne {w : World} {b n c : Nat} {A : Option Addr} {L : List Mt} (h : FrM w b A n c L) {p : Addr} (hk : ∀ g off sp, A = some ⟨g, off, sp⟩ → g ≠ p.block) (u : Value) : FrM (w.setCell p u) b A n c L := by
  obtain ⟨h1, h2⟩ := h.own
  refine ⟨h1, ?_⟩
  rcases h2 with h2 | ⟨g, cap, cur, e, hg, hh, r'⟩
  · exact .inl h2
  · refine .inr ⟨g, cap, cur, e, hg, ?_, r'⟩
    injection e with e1 e2 e3
    have := hk g 0 none e1
    simp only [World.setCell]
    rw [Array.getElem?_modify, if_neg (Ne.symm this)]
    exact hh
theorem FrM.offset4 {w : World} {b n c k : Nat} {A : Option Addr} {L : List Mt} (h : FrM w b A n c L) (hk : ∀ g off sp, A = some ⟨g, off, sp⟩ → g ≠ k) (p q r s : Value) : FrM (set4 w k p q r s) b A n c L :=
  (((h.off_ne hk p).off_ne hk q).off_ne hk r).off_ne hk s
theorem FrM.block_lt {w : World} {b n c : Nat} {A : Option Addr} {L : List Mt} (h : FrM w b A n c L) : ∀ g off sp, A = some ⟨g, off, sp⟩ → g < w.heap.size := by
  intro g off sp e
  rcases h.own.2 with ⟨e1, _⟩ | ⟨g', cap, cur, e1, _, hh, _⟩
  · injection e1 with e1 _ _; subst e1; cases e
  · injection e1 with e1 _ _
    subst e1
    cases e
    exact (Array.getElem?_eq_some_iff.1 hh).1

/-- What a part that is taken leaves: what is behind it; and the edit in its box. -/
def NotesR (w : World) (B g : Nat) (x y z : Value) (p : Option (List Mt × List UInt8)) (e : Ending) (w' : World) : Prop :=
  match p with
  | some (L, r) => ∃ A n c, e = .returned (.tuple #[.slice A n c, .bool true]) ∧ Rd w' B A n c (bv r) ∧ Box w' w.heap.size g L x y z ∧ Only g w w'
  | none => e = .returned (.tuple #[.slice none 0 0, .bool false]) ∧ Only g w w'
def notesN (l : List UInt8) : Option (List Mt × List UInt8) := if (numP l).2.2 = true then (if (numP l).1 ≤ 64 then notesP (numP l).1 (numP l).2.1 else none) else none
theorem NotesR.none {w : World} {B g : Nat} {x y z : Value} {p : Option (List Mt × List UInt8)} {w' : World} (h : p = none) (ho : Only g w w') : NotesR w B g x y z p (.returned (.tuple #[.slice none 0 0, .bool false])) w' := by
  subst h; exact ⟨rfl, ho⟩
theorem NotesR.some {w : World} {B g : Nat} {x y z : Value} {p : Option (List Mt × List UInt8)} {w' : World} {L : List Mt} {r : List UInt8} {A : Option Addr} {n c : Nat} (h : p = some (L, r)) (hr : Rd w' B A n c (bv r)) (hb : Box w' w.heap.size g L x y z) (ho : Only g w w') :
    NotesR w B g x y z p (.returned (.tuple #[.slice A n c, .bool true])) w' := by
  subst h; exact ⟨A, n, c, rfl, hr, hb, ho⟩
/-- Some notes taken: what is still to be taken. -/
def moreP (acc : List Mt) (k : Nat) (r : List UInt8) : Option (List Mt × List UInt8) := match notesP k r with | some (K, r') => some (acc ++ K, r') | none => none
theorem moreP_zero (acc : List Mt) (r : List UInt8) : moreP acc 0 r = some (acc, r) := by simp [moreP, notesP]
theorem moreP_step {acc : List Mt} {k : Nat} {r : List UInt8} (h : (noteP r).2.2 = true) : moreP acc (k + 1) r = moreP (acc ++ [(noteP r).1]) k (noteP r).2.1 := by
  unfold moreP
  simp only [notesP, if_pos h]
  cases notesP k (noteP r).2.1 with
  | none => rfl
  | some y => simp
theorem moreP_bad {acc : List Mt} {k : Nat} {r : List UInt8} (h : (noteP r).2.2 = false) : moreP acc (k + 1) r = none := by
  unfold moreP
  simp [notesP, h]
theorem moreP_nil (k : Nat) (r : List UInt8) : moreP [] k r = notesP k r := by
  unfold moreP
  cases notesP k r with
  | none => rfl
  | some y => simp

set_option maxRecDepth 100000 in
set_option maxHeartbeats 8000000 in
theorem takeNotes_c {w : World} {B n c g : Nat} {A : Option Addr} {l : List UInt8} {x y z : Value} (h : Rd w B A n c (bv l)) (hg : B4 w g 25 (.slice none 0 0) x y z) (hB : B ≤ g) (hn : n ≤ 1000000) :
    Calls Try.prog 47 #[.pointer (some ⟨g, 0, none⟩), .slice A n c] w (NotesR w B g x y z (notesN l)) := by
  have hlt := hg.lt
  have HT := Lib.hid (takeNumber_c h (by omega) hn)
  have hll := rd_n h
  have hrest := numP_rest l
  obtain ⟨p, hp⟩ : ∃ p, p = numP l := ⟨_, rfl⟩
  have hN : notesN l = if p.2.2 = true then (if p.1 ≤ 64 then notesP p.1 p.2.1 else none) else none := by rw [hp]; rfl
  have hp64 := numP_lt l
  rw [← hp] at HT hrest hp64
  obtain ⟨P, hP⟩ : ∃ P, notesN l = P := ⟨_, rfl⟩
  rw [hP] at hN
  rw [hP]
  obtain ⟨N, r0, ok⟩ := p
  have HP := Lib.hid hN
  have HG := Lib.hid hg
  have HR0 := Lib.hid (show r0.length ≤ 1000000 by replace hrest : r0.length ≤ l.length := hrest; omega)
  clear h hg hll hrest hp hN hn hP
  go_enter Try.func47, Try.ntmps47
  go_wp2_with fail
  refine HT.out.mono ?_
  rintro e w1 ⟨A1, n1, c1, rfl, hr1, hb1⟩
  have HR1 := Lib.hid hr1
  have HG1 := Lib.hid (HG.out.now hb1)
  have HB1 := Lib.hid hb1
  replace hp64 : N < 2 ^ 64 := hp64
  cases ok with
  | false =>
    clear hr1 hb1
    go_wp2_with fail
    go_returns
    exact NotesR.none (by rw [HP.out]; simp) (Only.of HB1.out)
  | true =>
    by_cases hN : N ≤ 64
    · have d1 : decide ((64 : Int) < (N : Int)) = false := by simp; omega
      have d2 : decide (64 < N) = false := by simp; omega
      have HP2 := Lib.hid (show P = notesP N r0 by rw [HP.out]; simp [hN])
      clear hr1 hb1
      go_wp2_with fail
      go_loopw [7, 23] (fun rv iv wr => ∃ (k : Nat) (Ar : Option Addr) (nr cr : Nat) (r : List UInt8) (acc : List Mt), rv = .slice Ar nr cr ∧ iv = .int .u64 (k : Int) ∧ k ≤ N ∧ Rd wr B Ar nr cr (bv r) ∧ r.length ≤ 1000000 ∧ moreP acc (N - k) r = notesP N r0 ∧ acc.length = k ∧ Box wr w.heap.size g acc x y z ∧ Only g w wr) (fun _ iv _ => ((N : Int) - intOf iv).toNat)
      case atStart => exact ⟨0, A1, n1, c1, r0, [], rfl, rfl, Nat.zero_le _, HR1.out, HR0.out, moreP_nil _ _, rfl, ⟨none, 0, 0, HG1.out, FrM.nil⟩, Only.of HB1.out⟩
      case round =>
        obtain ⟨k, Ar, nr, cr, r, acc, rfl, rfl, hkN, hr, hrl, hmore, hacc, ⟨A3, n3, c3, hbx, hfr⟩, hon⟩ := hrel
        by_cases hlt2 : k < N
        · have hki : (k : Int) < (N : Int) := by omega
          have hki0 : (0 : Int) ≤ (k : Int) := by omega
          have hNi : (N : Int) ≤ 64 := by omega
          have hsz := hon.size
          have hb4 : B4 (wr.alloc (.cells #[.int .u64 0, .int .u64 0, .string ⟨#[]⟩, .string ⟨#[]⟩] 47)) wr.heap.size 47 (.int .u64 0) (.int .u64 0) (.string ⟨#[]⟩) (.string ⟨#[]⟩) := B4.new _ _ _ _ _ _ rfl
          have hbe := below_alloc wr (.cells #[.int .u64 0, .int .u64 0, .string ⟨#[]⟩, .string ⟨#[]⟩] 47)
          have HC := Lib.hid (takeNote_c (hr.under hbe (by omega)) (show B ≤ (wr.alloc (.cells #[.int .u64 0, .int .u64 0, .string ⟨#[]⟩, .string ⟨#[]⟩] 47)).heap.size by simp; omega) (by have := rd_n hr; omega))
          have HB4 := Lib.hid hb4
          have HBX := Lib.hid (hbx.alloc (.cells #[.int .u64 0, .int .u64 0, .string ⟨#[]⟩, .string ⟨#[]⟩] 47))
          have HFR := Lib.hid (hfr.alloc (.cells #[.int .u64 0, .int .u64 0, .string ⟨#[]⟩, .string ⟨#[]⟩] 47))
          have HON := Lib.hid (hon.trans (Only.of hbe))
          have HM := Lib.hid hmore
          have HA := Lib.hid hacc
          have HL := Lib.hid hrl
          have HNR := Lib.hid (noteP_rest r)
          have hfrlt := Lib.hid (hfr.block_lt)
          have HKN := Lib.hid (show N - k = (N - k - 1) + 1 by omega)
          have HGS := Lib.hid (show g < wr.heap.size by omega)
          clear hr hrl hmore hacc hbx hfr hon hb4 hbe hkN
          go_wp2_with fail
          refine HC.out.mono ?_
          rintro e w4 ⟨A4, n4, c4, rfl, hr4, hb5⟩
          have hb44 := HB4.out.now hb5
          obtain ⟨q0, q1, q2, q3, z0, z1, z2, z3⟩ := hb44.cells
          have HR4 := Lib.hid hr4
          have HB5 := Lib.hid hb5
          have HB44 := Lib.hid hb44
          clear hr4 hb5 hb44
          rw [HKN.out] at HM
          obtain ⟨m, hm⟩ : ∃ m, m = noteP r := ⟨_, rfl⟩
          have HNR2 := HNR
          rw [← hm] at HR4 HNR
          rw [← hm]
          obtain ⟨⟨mn, mz, ms, mt⟩, r2, ok2⟩ := m
          unfold mv
          simp only
          cases ok2 with
          | false =>
            have HBAD := Lib.hid (moreP_bad (acc := acc) (k := N - k - 1) (r := r) (by rw [← hm]))
            have HO4 := Lib.hid (HON.out.trans (Only.of HB5.out))
            clear hm
            go_wp2_with fail
            go_returns
            exact NotesR.none (by rw [HP2.out, ← HM.out]; exact HBAD.out) (HO4.out.set4 (Nat.le_trans hsz (Nat.le_refl _)) _ _ _ _)
          | true =>
            have HOK := Lib.hid (moreP_step (acc := acc) (k := N - k - 1) (r := r) (by rw [← hm]))
            rw [← hm] at HOK
            have HO4 := Lib.hid ((HON.out.trans (Only.of HB5.out)).set4 (k := wr.heap.size) hsz (.int .u64 (mn : Int)) (.int .u64 (mz : Int)) (.string ms) (.string mt))
            have hw4 : wr.heap.size < w4.heap.size := HB44.out.lt
            have HS4 := Lib.hid (HB44.out.set (.int .u64 (mn : Int)) (.int .u64 (mz : Int)) (.string ms) (.string mt))
            have HG4 := Lib.hid ((HBX.out.now HB5.out).offset4 (k := wr.heap.size) (by have := HGS.out; omega) (.int .u64 (mn : Int)) (.int .u64 (mz : Int)) (.string ms) (.string mt))
            have HF4 := Lib.hid ((HFR.out.below HB5.out).offset4 (k := wr.heap.size) (fun g' off sp e => by have := hfrlt.out g' off sp e; omega) (.int .u64 (mn : Int)) (.int .u64 (mz : Int)) (.string ms) (.string mt))
            have HRr := Lib.hid (HR4.out.keep (w' := set4 w4 wr.heap.size (.int .u64 (mn : Int)) (.int .u64 (mz : Int)) (.string ms) (.string mt)) (fun p hp => (set4_below (Below.refl wr.heap.size w4) (Nat.le_refl _) _ _ _ _).cell (Nat.lt_of_lt_of_le hp (Nat.le_of_lt (Nat.lt_of_le_of_lt hB HGS.out)))))
            have HSZ := Lib.hid (show (set4 w4 wr.heap.size (.int .u64 (mn : Int)) (.int .u64 (mz : Int)) (.string ms) (.string mt)).heap.size = w4.heap.size by simp [set4, World.setCell])
            clear hm
            go_upto_region 10 with (fail)
            unfold set4 at HO4 HS4 HG4 HF4 HRr HSZ
            revert HO4 HS4 HG4 HF4 HRr HSZ
            generalize (((w4.setCell ⟨wr.heap.size, 0, none⟩ (.int .u64 (mn : Int))).setCell ⟨wr.heap.size, 1, none⟩ (.int .u64 (mz : Int))).setCell ⟨wr.heap.size, 2, none⟩ (.string ms)).setCell ⟨wr.heap.size, 3, none⟩ (.string mt) = wz
            intro HO4 HS4 HG4 HF4 HRr HSZ
            clear q0 q1 q2 q3 z0 z1 z2 z3
            have HWL := Lib.hid (show w.heap.size ≤ wz.heap.size by have := HSZ.out; omega)
            have HGW := Lib.hid (show g < w.heap.size from hlt)
            have HN3 := Lib.hid (show n3 ≤ 64 by have := HF4.out.n_eq; have := HA.out; omega)
            obtain ⟨q0, q1, q2, q3, z0, z1, z2, z3⟩ := HS4.out.cells
            obtain ⟨p0, p1, p2, p3, y0, y1, y2, y3⟩ := HG4.out.cells
            obtain ⟨o, ho⟩ : ∃ o, o = (Obj.cells #[.int .u64 (mn : Int), .int .u64 (mz : Int), .string ms, .string mt] 47) := ⟨_, rfl⟩
            have HAL := Lib.hid (HG4.out.alloc o)
            have HFL := Lib.hid (HF4.out.alloc o)
            have HR1' := Lib.hid ((FrM.one wz ⟨mn, mz, ms, mt⟩ (b := 0) (g := wz.heap.size) rfl (Nat.zero_le _)).rd (Nat.le_refl _))
            have HOL := Lib.hid (HO4.out.alloc o)
            have HRL := Lib.hid (HRr.out.alloc (by have := HWL.out; have := HGW.out; omega) o)
            obtain ⟨qa0, qa1, qa2, qa3, za0, za1, za2, za3⟩ := (HS4.out.alloc o).cells
            obtain ⟨pa0, pa1, pa2, pa3, ya0, ya1, ya2, ya3⟩ := HAL.out.cells
            have HSL := Lib.hid (show w.heap.size ≤ (wz.alloc o).heap.size by have := HWL.out; simp; omega)
            subst ho
            go_region_law (first
              | (refine step_appM rfl (.tmp 37) (.tmp 39) rfl HFL.out.drew (by rfl) HR1'.out.drew1 (by rfl) (by have := HN3.out; omega) HSL.out ?_; intro A' c' w3 hap; have HPA := Lib.hid (Box.add HAL.out.drew hap HGW.out HSL.out HOL.out.drew (Nat.le_refl _)); have HPR := Lib.hid (HRL.out.drew.under hap.below (by have := HGW.out; omega)); obtain ⟨p0, p1, p2, p3, y0, y1, y2, y3⟩ := (HAL.out.drew.under hap.below HGW.out).cells; clear hap))
            all_goals clear p0 p1 p2 p3 y0 y1 y2 y3 q0 q1 q2 q3 z0 z1 z2 z3 qa0 qa1 qa2 qa3 za0 za1 za2 za3 pa0 pa1 pa2 pa3 ya0 ya1 ya2 ya3
            all_goals go_wp2_with fail
            all_goals go_roundw
            all_goals first
              | (refine ⟨k + 1, A4, n4, c4, r2, acc ++ [⟨mn, mz, ms, mt⟩], rfl, by simp, by omega, HPR.out.keep (fun p hp => World.cell?_setCell_other _ _ _ _ (fun e => by subst e; have := HGW.out; simp at hp; omega)), by have := HNR.out; have := HL.out; simp at *; omega, ?_, by simp [HA.out], HPA.out.1, HPA.out.2⟩
                 rw [← HM.out, HOK.out]
                 congr 1)
              | (simp [intOf]; omega)
        · have hki : ¬ (k : Int) < (N : Int) := by omega
          obtain rfl : k = N := by omega
          have HR := Lib.hid hr
          have HM := Lib.hid (show P = some (acc, r) by rw [HP2.out, ← hmore, Nat.sub_self, moreP_zero])
          have HBX := Lib.hid (Box.mk (x := x) (y := y) (z := z) ⟨A3, n3, c3, hbx, hfr⟩)
          have HON := Lib.hid hon
          clear hr hrl hmore hacc hbx hfr hon hkN
          go_wp2_with fail
          go_returns
          exact NotesR.some HM.out HR.out HBX.out HON.out
    · have d1 : decide ((64 : Int) < (N : Int)) = true := by simp; omega
      have d2 : decide (64 < N) = true := by simp; omega
      clear hr1 hb1
      go_wp2_with fail
      go_returns
      exact NotesR.none (by rw [HP.out]; simp [hN]) (Only.of HB1.out)
end Go.Proofs.Ythgbafhfeblhaaa
