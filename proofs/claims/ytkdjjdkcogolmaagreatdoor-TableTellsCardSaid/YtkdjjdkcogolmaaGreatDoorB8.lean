/-
  The form of a block: the contracts of form and Build.
-/
import Derived.Test.YtkdjjdkcogolmaaGreatDoorB7
import Derived.Deep.RegionHeld3
namespace Go.Proofs.YtkdjjdkcogolmaaGreatDoor
set_option maxRecDepth 100000
open Go.RowKit Go.Shelf
set_option linter.unusedVariables false

theorem Fr.here {w : World} {b : Nat} {e : TypeId} {A : Option Addr} {n c : Nat} {xs : List Value} (h : Fr w b e A n c xs) : Rd w w.heap.size A n c xs := h.rd (Nat.le_refl _)
theorem lastK_le : ∀ (L : List Ent) (p : ByteArray), p.size ≤ 64 → (∀ x ∈ L, entB x = true) → (lastK p L).size ≤ 64
  | [], p, h, _ => h
  | x :: L, p, _, hx => lastK_le L x.s (entB_parts (hx x List.mem_cons_self)).2.1 (fun y hy => hx y (List.mem_cons_of_mem _ hy))
theorem take_snocE {L : List Ent} {k : Nat} {x : Ent} (hx : L[k]? = some x) : L.take (k + 1) = L.take k ++ [x] := by
  rw [List.take_add_one, hx]; rfl
theorem step_restart {L : List Ent} {k : Nat} {x : Ent} (hx : L[k]? = some x) (h : k % 4 = 0) :
    entsL 0 noS (L.take (k + 1)) = entsL 0 noS (L.take k) ++ entL 0 x ∧ posL 0 0 noS (L.take (k + 1)) = posL 0 0 noS (L.take k) ++ fourL (entsL 0 noS (L.take k)).length ∧ lastK noS (L.take (k + 1)) = x.s := by
  have hk : (L.take k).length = k := by
    rw [List.length_take]
    have : k < L.length := by
      rcases Nat.lt_or_ge k L.length with h1 | h1
      · exact h1
      · rw [List.getElem?_eq_none h1] at hx; cases hx
    omega
  rw [take_snocE hx, entsL_snoc, posL_snoc, lastK_snoc, Nat.zero_add, hk]
  refine ⟨by unfold shB; rw [if_pos h], by rw [if_pos h, Nat.zero_add], rfl⟩
theorem step_sharing {L : List Ent} {k : Nat} {x : Ent} (hx : L[k]? = some x) (h : ¬ k % 4 = 0) :
    entsL 0 noS (L.take (k + 1)) = entsL 0 noS (L.take k) ++ entL (com (lastK noS (L.take k)) x.s) x ∧ posL 0 0 noS (L.take (k + 1)) = posL 0 0 noS (L.take k) ∧ lastK noS (L.take (k + 1)) = x.s := by
  have hk : (L.take k).length = k := by
    rw [List.length_take]
    have : k < L.length := by
      rcases Nat.lt_or_ge k L.length with h1 | h1
      · exact h1
      · rw [List.getElem?_eq_none h1] at hx; cases hx
    omega
  rw [take_snocE hx, entsL_snoc, posL_snoc, lastK_snoc, Nat.zero_add, hk]
  refine ⟨by unfold shB; rw [if_neg h], by rw [if_neg h, List.append_nil], rfl⟩

set_option maxRecDepth 100000 in
set_option maxHeartbeats 4000000 in
theorem form_c {w : World} {B n c : Nat} {A : Option Addr} {L : List Ent} (h : RdE w B A n c L) (hB : B ≤ w.heap.size) (hb : blkB L = true) :
    Calls Tryz.prog 98 #[.slice A n c] w (RetB w (blkL L)) := by
  obtain ⟨h1, h2, h3, _⟩ := blkB_iff.1 hb
  have hl := h.len
  have hn64 : n ≤ 64 := by omega
  have hni : (n : Int) ≤ 64 := by omega
  obtain ⟨g, hg⟩ : ∃ g, w.heap.size = g := ⟨_, rfl⟩
  have HEL := Lib.hid fun k => (show (entsL 0 noS (L.take k)).length ≤ 30000 by
    have := entsL_len (L.take k) 0 noS (fun x hx => h3 x (List.mem_of_mem_take hx))
    have : (L.take k).length ≤ 64 := by rw [List.length_take]; omega
    omega)
  have HPL := Lib.hid fun k => (show (posL 0 0 noS (L.take k)).length ≤ 200 by
    rw [posL_len0]
    have : (L.take k).length ≤ 64 := by rw [List.length_take]; omega
    omega)
  have HLK := Lib.hid fun k => lastK_le (L.take k) noS (by decide) (fun x hx => h3 x (List.mem_of_mem_take hx))
  have HEB := Lib.hid h3
  have hw0 : WrAt (w.alloc (.cells #[.slice none 0 0, .slice none 0 0, .string ⟨#[]⟩] 138)) g ⟨none, 0, 0⟩ ⟨none, 0, 0⟩ (entsL 0 noS (L.take 0)) (posL 0 0 noS (L.take 0)) (lastK noS (L.take 0)) := by
    subst hg
    exact ⟨by simp, heap_alloc_new w _, Fr.nil, Fr.nil, fun k hk => by cases hk⟩
  have gb0 : Below w.heap.size w (w.alloc (.cells #[.slice none 0 0, .slice none 0 0, .string ⟨#[]⟩] 138)) := below_alloc w _
  have hblk : blkL L = entsL 0 noS (L.take n) ++ (posL 0 0 noS (L.take n) ++ fourL ((posL 0 0 noS (L.take n)).length / 4)) := by
    rw [List.take_of_length_le (by omega)]; rfl
  have HBLK := Lib.hid hblk
  have HW0 := Lib.hid hw0
  have HGB := Lib.hid gb0
  clear hblk hw0 gb0 h1 h2 h3 hb
  go_enter Tryz.func98, Tryz.ntmps98
  go_wp2_with fail
  go_loopw [10] (fun iv wr => ∃ (k : Nat) (r1 r2 : Row), iv = .int .i64 (k : Int) ∧ k ≤ n ∧ WrAt wr g r1 r2 (entsL 0 noS (L.take k)) (posL 0 0 noS (L.take k)) (lastK noS (L.take k)) ∧ Below w.heap.size w wr) (fun iv _ => ((n : Int) - intOf iv).toNat)
  case atStart => exact ⟨0, _, _, rfl, Nat.zero_le _, HW0.out, HGB.out⟩
  case round =>
    clear HW0 HGB
    obtain ⟨k, r1, r2, rfl, hkn, hf, hbr⟩ := hrel
    by_cases hlt : k < n
    · obtain ⟨b, off, hA, hbB, hcell⟩ := h.form (by omega)
      subst hA
      obtain ⟨x, hx⟩ : ∃ x, L[k]? = some x := ⟨L[k]'(by omega), List.getElem?_eq_getElem _⟩
      have hk (i : Nat) : wr.cell? ⟨b, i, none⟩ = w.cell? ⟨b, i, none⟩ := hbr.cell (by simp; omega)
      obtain ⟨x0, x1, x2, x3⟩ := hcell k x hx
      rw [← hk] at x0 x1 x2 x3
      have hki : (k : Int) < (n : Int) := by omega
      have hk0 : (0 : Int) ≤ (k : Int) := by omega
      have hmem := List.mem_of_getElem? hx
      have hxb := HEB.out x hmem
      have hfa := hf.alloc (.cells #[.string x.s, .int .u64 (x.q : Int), .int .u8 (x.k : Int), .string x.v] 40)
      have hba := blit hbr (.cells #[.string x.s, .int .u64 (x.q : Int), .int .u8 (x.k : Int), .string x.v] 40)
      have HBA := Lib.hid hba
      have hgw : g ≥ w.heap.size := by omega
      by_cases h4 : k % 4 = 0
      · have d1 : ((k : Int) % 4 == 0) = true := by simp; omega
        have d2 : (Int.tmod (k : Int) 4 == 0) = true := by rw [Int.tmod_eq_emod_of_nonneg hk0]; simp; omega
        have d3 : (k % 4 == 0) = true := by simpa using h4
        have HC := Lib.hid (wrestart_c hfa hxb (by have := HEL.out k; omega) (by have := HPL.out k; omega))
        unfold en at HC
        have HS := Lib.hid (step_restart hx h4)
        clear hcell hk hx hfa hba hf hbr h hmem hxb HEL HPL HLK HEB
        go_wp2_with fail
        refine HC.out.mono ?_
        rintro e w2 ⟨rfl, r1', r2', h5, b5⟩
        clear x0 x1 x2 x3
        go_wp2_with fail
        go_roundw
        case rel =>
          refine ⟨k + 1, r1', r2', by simp, by omega, ?_, HBA.out.trans (b5.mono hgw)⟩
          rw [HS.out.1, HS.out.2.1, HS.out.2.2]; exact h5
        case measure => simp [intOf]; omega
      · have d1 : ((k : Int) % 4 == 0) = false := by simp; omega
        have d2 : (Int.tmod (k : Int) 4 == 0) = false := by rw [Int.tmod_eq_emod_of_nonneg hk0]; simp; omega
        have d3 : (k % 4 == 0) = false := by simpa using h4
        have HC := Lib.hid (wsharing_c hfa (HLK.out k) hxb (by have := HEL.out k; omega))
        unfold en at HC
        have HS := Lib.hid (step_sharing hx h4)
        clear hcell hk hx hfa hba hf hbr h hmem hxb HEL HPL HLK HEB
        go_wp2_with fail
        refine HC.out.mono ?_
        rintro e w2 ⟨rfl, r1', r2', h5, b5⟩
        clear x0 x1 x2 x3
        go_wp2_with fail
        go_roundw
        case rel =>
          refine ⟨k + 1, r1', r2', by simp, by omega, ?_, HBA.out.trans (b5.mono hgw)⟩
          rw [HS.out.1, HS.out.2.1, HS.out.2.2]; exact h5
        case measure => simp [intOf]; omega
    · have hki : ¬ (k : Int) < (n : Int) := by omega
      obtain rfl : k = n := by omega
      have hl1 : (entsL 0 noS (L.take k)).length = r1.n := by have := hf.f1.len; simpa using this
      have hl2 : (posL 0 0 noS (L.take k)).length = r2.n := by have := hf.f2.len; simpa using this
      have hr1 : r1.n ≤ 30000 := by have := HEL.out k; omega
      have hr2 : r2.n ≤ 200 := by have := HPL.out k; omega
      have hr2i : (r2.n : Int) ≤ 200 := by omega
      obtain ⟨q, hq⟩ : ∃ q, r2.n / 4 = q := ⟨_, rfl⟩
      have hq2 : q ≤ 50 := by omega
      have t1 : Int.tdiv (r2.n : Int) 4 = (q : Int) := by rw [Int.tdiv_eq_ediv_of_nonneg (by omega)]; omega
      have t1' : (r2.n : Int) / 4 = (q : Int) := by omega
      have t2 : IntKind.i64.wrap (q : Int) = (q : Int) := wrapi _ (by omega) (by omega)
      have t3 : IntKind.u32.wrap (q : Int) = (q : Int) := wrap32 _ (by omega) (by omega)
      have HP1 := Lib.hid fun W => putFour_c (w := W) (B := 0) (l := []) Rd.nilv (Nat.zero_le _) (by decide) (q : Int) (by omega) (by omega)
      have n1 : ([] ++ fourL (q : Int).toNat : List UInt8) = fourL q := by rw [Int.toNat_natCast, List.nil_append]
      simp only [n1] at HP1
      have HFI := Lib.hid (show blkL L = entsL 0 noS (L.take k) ++ (posL 0 0 noS (L.take k) ++ fourL q) by rw [HBLK.out, hl2, hq])
      obtain ⟨x0, x1, x2⟩ := hf.cells
      have HLN := Lib.hid (show (entsL 0 noS (L.take k)).length ≤ 20000000 ∧ (posL 0 0 noS (L.take k)).length ≤ 20000000 by omega)
      have H0 := Lib.hid hf
      have hgl := hf.lt
      have SK : ∀ W, Below wr.heap.size wr W → (Below wr.heap.size wr W ∧ W.cell? ⟨g, 0, none⟩ = some (.slice r1.A r1.n r1.c) ∧ W.cell? ⟨g, 1, none⟩ = some (.slice r2.A r2.n r2.c)) :=
        fun W hW => ⟨hW, (hW.cell hgl).trans x0, (hW.cell hgl).trans x1⟩
      have HSK := Lib.hid SK
      have HBR := Lib.hid hbr
      have hs0 : Below wr.heap.size wr wr.drew := below_drewN (Below.refl _ _) 1
      clear n1 hf hbr h hl1 hl2 hq HEL HPL HLK HEB HBLK SK hl hr1 hr2 hki
      go_wp2_with fail
      go_region_held3 (fun w' => Below wr.heap.size wr w' ∧ w'.cell? ⟨g, 0, none⟩ = some (.slice r1.A r1.n r1.c) ∧ w'.cell? ⟨g, 1, none⟩ = some (.slice r2.A r2.n r2.c))
        ((first | assumption | exact HSK.out _ (by assumption) | exact HSK.out _ hs0 | exact HSK.out _ (blit (And.left (by assumption)) _)))
        (first
        | (go_at_call 78; refine (HP1.out _).mono ?_; rintro e w2 ⟨A2, n2, c2, rfl, hf2, hb2⟩; have hb3 : Below wr.heap.size wr w2 := bon (And.left (by assumption)) hb2; have H2 := Lib.hid (H0.out.below hb3); have HF2 := Lib.hid hf2; have hn2 := ret_len hf2 (Nat.le_of_eq (fourL_len q)); obtain rfl : n2 = 4 := (by have := hf2.len; rw [bv_length, fourL_len] at this; exact this.symm); clear hf2 hb2)
        | (go_at_call 51; refine (concat_c (a := r1) (b := r2) (c := ⟨A2, 4, c2⟩) (x := entsL 0 noS (L.take k)) (y := posL 0 0 noS (L.take k)) (z := fourL q) (Rows3.new w2 r1 r2 ⟨A2, 4, c2⟩) ((H2.out.f1.alloc _).here) ((H2.out.f2.alloc _).here) ((HF2.out.alloc _).here) HLN.out.1 HLN.out.2 (by rw [fourL_len]; omega) (by rw [fourL_len]; omega)).mono ?_; rintro e w4 ⟨A4, n4, c4, rfl, hf4, hb4⟩; have hb5 : Below wr.heap.size wr w4 := bon (blit hb3 _) hb4))
      all_goals (
        go_wp2_with fail
        go_ret
        refine ⟨A4, n4, c4, rfl, ?_, HBR.out.trans (hb5.mono HBR.out.size)⟩
        rw [HFI.out]
        exact hf4.mono (by have := (blit hb3 (.cells #[r1.v, r2.v, (⟨A2, 4, c2⟩ : Row).v] 24)).size; have := HBR.out.size; omega))
def bldL (L : List Ent) : List UInt8 := if blkB L then blkL L else []
def bldE (L : List Ent) : Int := if blkB L then 0 else 70
def RetBE (w : World) (l : List UInt8) (e0 : Int) (e : Ending) (w' : World) : Prop :=
  ∃ A n c, e = .returned (.tuple #[.slice A n c, .int .i64 e0]) ∧ Fr w' w.heap.size 5 A n c (bv l) ∧ Below w.heap.size w w'
set_option maxRecDepth 100000 in
set_option maxHeartbeats 4000000 in
theorem build_c {w : World} {B n c : Nat} {A : Option Addr} {L : List Ent} (h : RdE w B A n c L) (hB : B ≤ w.heap.size) (hn : (n : Int) ≤ 70368744000000) :
    Calls Tryz.prog 73 #[.slice A n c] w (RetBE w (bldL L) (bldE L)) := by
  have HR := Lib.hid (blkRight_c h hB hn)
  by_cases hb : blkB L = true
  case neg =>
    have e1 : bldL L = [] := if_neg hb
    have e2 : bldE L = 70 := if_neg hb
    have hb : blkB L = false := by simpa using hb
    rw [hb] at HR
    rw [e1, e2]
    clear h hb e1 e2
    go_enter Tryz.func73, Tryz.ntmps73
    go_wp2_with fail
    refine HR.out.mono ?_
    rintro e w1 ⟨rfl, hb1⟩
    go_wp2_with fail
    go_ret2
    exact ⟨none, 0, 0, rfl, Fr.nil, hb1⟩
  have e1 : bldL L = blkL L := if_pos hb
  have e2 : bldE L = 0 := if_pos hb
  have HF := Lib.hid fun W (hW : Below w.heap.size w W) => form_c (h.below hW hB) (Nat.le_trans hB hW.size) hb
  rw [hb] at HR
  rw [e1, e2]
  clear h hb e1 e2
  go_enter Tryz.func73, Tryz.ntmps73
  go_wp2_with fail
  refine HR.out.mono ?_
  rintro e w1 ⟨rfl, hb1⟩
  go_wp2_with fail
  refine (HF.out w1 hb1).mono ?_
  rintro e w2 ⟨A2, n2, c2, rfl, hf2, hb2⟩
  go_wp2_with fail
  go_ret2
  exact ⟨A2, n2, c2, rfl, hf2.mono hb1.size, bon hb1 hb2⟩
end Go.Proofs.YtkdjjdkcogolmaaGreatDoor
