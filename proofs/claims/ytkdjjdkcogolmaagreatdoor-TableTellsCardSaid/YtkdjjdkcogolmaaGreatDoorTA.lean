/-
  What is sought, and what is told of a table: the contracts of Seek and Meta.
-/
import Derived.Test.YtkdjjdkcogolmaaGreatDoorT9
import Derived.Deep.RegionHeld3
import Derived.BigRegion
namespace Go.Proofs.YtkdjjdkcogolmaaGreatDoor
set_option maxRecDepth 100000
open Go.RowKit Go.Shelf
set_option linter.unusedVariables false

noncomputable def skT (b : List UInt8) (s : ByteArray) (q k : Nat) : Ent := match seekE (prtL b) s q k with | some x => x | none => noE
noncomputable def skTB (b : List UInt8) (s : ByteArray) (q k : Nat) : Bool := (seekE (prtL b) s q k).isSome

set_option maxRecDepth 100000 in
set_option maxHeartbeats 2000000 in
theorem tseek1_c (w : World) (x : Ent) (s : ByteArray) (q k : Nat) :
    Calls Tryz.prog 41 #[en x.s x.q x.k x.v, ik s q k] w (RetVl w (.int .i64 (cmpV x.s x.q x.k s q k))) := by
  have HC := Lib.hid fun W => compare_c W x.s s x.q x.k q k
  obtain ⟨g, hg⟩ : ∃ g, w.heap.size = g := ⟨_, rfl⟩
  have e0 : EnAt (w.alloc (.cells #[.string x.s, .int .u64 (x.q : Int), .int .u8 (x.k : Int), .string x.v] 40)) g x := by rw [← hg]; exact EnAt.new w x
  have e1 := e0.below (below_alloc _ (.cells #[.string s, .int .u64 (q : Int), .int .u8 (k : Int)] 26))
  have k0 : IkAt ((w.alloc (.cells #[.string x.s, .int .u64 (x.q : Int), .int .u8 (x.k : Int), .string x.v] 40)).alloc (.cells #[.string s, .int .u64 (q : Int), .int .u8 (k : Int)] 26)) (g + 1) s q k := by
    have := IkAt.new (w.alloc (.cells #[.string x.s, .int .u64 (x.q : Int), .int .u8 (x.k : Int), .string x.v] 40)) s q k
    rw [World.size_alloc, hg] at this
    exact this
  obtain ⟨i0, i1, i2, i3⟩ := e1.cells
  obtain ⟨j0, j1, j2⟩ := k0.cells
  have hb0 : Below w.heap.size w ((w.alloc (.cells #[.string x.s, .int .u64 (x.q : Int), .int .u8 (x.k : Int), .string x.v] 40)).alloc (.cells #[.string s, .int .u64 (q : Int), .int .u8 (k : Int)] 26)) := blit (below_alloc w _) _
  have HB0 := Lib.hid hb0
  unfold ik en at *
  clear e0 e1 k0 hb0
  go_enter Tryz.func41, Tryz.ntmps41
  go_wp2_with fail
  refine (HC.out _).mono ?_
  rintro e w1 ⟨rfl, hb1⟩
  go_wp2_with fail
  go_ret
  exact ⟨rfl, bon HB0.out hb1⟩

set_option maxRecDepth 100000 in
set_option maxHeartbeats 4000000 in
theorem bsearch_c {w : World} {B n c q k : Nat} {A : Option Addr} {L : List Ent} {s : ByteArray} (h : RdE w B A n c L) (hB : B ≤ w.heap.size) (hn : n ≤ 8192) (hr : risB L = true) :
    Calls Tryz.prog 40 #[.slice A n c, ik s q k, .func (.func 41) #[] #[]] w
      (fun e w' => ∃ (m : Nat) (fd : Bool), e = .returned (.tuple #[.int .i64 (m : Int), .bool fd]) ∧ m ≤ n ∧ LoP L s q k m ∧ HiP L s q k m ∧ Below w.heap.size w w') := by
  have hl := h.len
  have hni : (n : Int) ≤ 8192 := by omega
  have HC := Lib.hid fun W (x : Ent) => tseek1_c W x s q k
  unfold ik en at *
  have HM := Lib.hid fun i j a b (hij : i ≤ j) (ha : L[i]? = some a) (hb : L[j]? = some b) => seek_mono hr hij ha hb s q k
  have HL := Lib.hid hl
  have HH := Lib.hid h
  obtain ⟨gk, hgk⟩ : ∃ gk, w.heap.size = gk := ⟨_, rfl⟩
  have hk0 : IkAt (w.alloc (.cells #[.string s, .int .u64 (q : Int), .int .u8 (k : Int)] 26)) gk s q k := by rw [← hgk]; exact IkAt.new w s q k
  have HK0 := Lib.hid hk0
  have hb0 : Below w.heap.size w (w.alloc (.cells #[.string s, .int .u64 (q : Int), .int .u8 (k : Int)] 26)) := below_alloc w _
  have HB0 := Lib.hid hb0
  clear h hr hl hk0 hb0
  go_enter Tryz.func40, Tryz.ntmps40
  go_wp2_with fail
  go_loopw [9, 10] (fun iv jv wr => ∃ i j : Nat, iv = .int .i64 (i : Int) ∧ jv = .int .i64 (j : Int) ∧ i ≤ j ∧ j ≤ n ∧ LoP L s q k i ∧ HiP L s q k j ∧ Below w.heap.size w wr ∧ IkAt wr gk s q k) (fun iv jv _ => (intOf jv - intOf iv).toNat)
  case atStart => exact ⟨0, n, rfl, rfl, Nat.zero_le _, Nat.le_refl _, fun t x ht => by omega, (fun t x ht hx => by
    have h1 : t < L.length := by
      rcases Nat.lt_or_ge t L.length with h1 | h1
      · exact h1
      · rw [List.getElem?_eq_none h1] at hx; cases hx
    have := HL.out; omega), HB0.out, HK0.out⟩
  case round =>
    obtain ⟨i, j, rfl, rfl, hij, hjn, hlo, hhi, hbr, hkr⟩ := hrel
    obtain ⟨k0, k1, k2⟩ := hkr.cells
    have hgr := hkr.lt
    have hsz := hbr.size
    by_cases hlt : i < j
    · have hki : (i : Int) < (j : Int) := by omega
      obtain ⟨m, hm⟩ : ∃ m, (i + j) / 2 = m := ⟨_, rfl⟩
      have hml : m < L.length := by have := HL.out; omega
      obtain ⟨x, hx⟩ : ∃ x, L[m]? = some x := ⟨_, List.getElem?_eq_getElem hml⟩
      obtain ⟨b, off, hA, hbB, hcell⟩ := HH.out.form (by omega)
      subst hA
      obtain ⟨x0, x1, x2, x3⟩ := hcell m x hx
      have hk' (o : Nat) : wr.cell? ⟨b, o, none⟩ = w.cell? ⟨b, o, none⟩ := hbr.cell (by simp; omega)
      rw [← hk'] at x0 x1 x2 x3
      have hbr2 : b < wr.heap.size := by omega
      have hmi : ((i : Int) + (j : Int)) / 2 = (m : Int) := by omega
      have w1 : IntKind.i64.wrap ((i : Int) + (j : Int)) = (i : Int) + (j : Int) := wrapi _ (by omega) (by omega)
      have w2 : IntKind.u64.wrap ((i : Int) + (j : Int)) = (i : Int) + (j : Int) := by rw [wrapu]; omega
      have w3 : IntKind.u64.wrap (m : Int) = (m : Int) := by rw [wrapu]; omega
      have w4 : IntKind.i64.wrap (m : Int) = (m : Int) := wrapi _ (by omega) (by omega)
      have w5 : IntKind.i64.wrap ((m : Int) + 1) = (m : Int) + 1 := wrapi _ (by omega) (by omega)
      have hm0 : (0 : Int) ≤ (m : Int) := by omega
      have hmn : (m : Int) < (n : Int) := by omega
      have HX := Lib.hid hx
      have HLO := Lib.hid hlo
      have HHI := Lib.hid hhi
      have HBR := Lib.hid hbr
      have HKR := Lib.hid hkr
      have HMM := Lib.hid (show i ≤ m ∧ m < j ∧ j ≤ n by omega)
      have hbr := hbr2
      clear hx hlo hhi hm hml hcell hk' hkr hbr2 hbB
      have SK : ∀ W, Below wr.heap.size wr W → (Below wr.heap.size wr W ∧ W.cell? ⟨b, off + m * 4, none⟩ = some (.string x.s) ∧ W.cell? ⟨b, off + m * 4 + 1, none⟩ = some (.int .u64 (x.q : Int)) ∧ W.cell? ⟨b, off + m * 4 + 2, none⟩ = some (.int .u8 (x.k : Int)) ∧ W.cell? ⟨b, off + m * 4 + 3, none⟩ = some (.string x.v) ∧ W.cell? ⟨gk, 0, none⟩ = some (.string s) ∧ W.cell? ⟨gk, 1, none⟩ = some (.int .u64 (q : Int)) ∧ W.cell? ⟨gk, 2, none⟩ = some (.int .u8 (k : Int))) :=
        fun W hW => ⟨hW, (hW.cell hbr).trans x0, (hW.cell hbr).trans x1, (hW.cell hbr).trans x2, (hW.cell hbr).trans x3, (hW.cell hgr).trans k0, (hW.cell hgr).trans k1, (hW.cell hgr).trans k2⟩
      have HSK := Lib.hid SK
      have hs0 : Below wr.heap.size wr wr.drew := below_drewN (Below.refl _ _) 1
      clear SK
      go_wp2_with fail
      go_region_held3 (fun w' => Below wr.heap.size wr w' ∧ w'.cell? ⟨b, off + m * 4, none⟩ = some (.string x.s) ∧ w'.cell? ⟨b, off + m * 4 + 1, none⟩ = some (.int .u64 (x.q : Int)) ∧ w'.cell? ⟨b, off + m * 4 + 2, none⟩ = some (.int .u8 (x.k : Int)) ∧ w'.cell? ⟨b, off + m * 4 + 3, none⟩ = some (.string x.v) ∧ w'.cell? ⟨gk, 0, none⟩ = some (.string s) ∧ w'.cell? ⟨gk, 1, none⟩ = some (.int .u64 (q : Int)) ∧ w'.cell? ⟨gk, 2, none⟩ = some (.int .u8 (k : Int)))
        ((first | assumption | exact HSK.out _ (by assumption) | exact HSK.out _ hs0))
        (first
        | (go_at_call 41; refine (HC.out _ x).mono ?_; rintro e w2 ⟨rfl, hb2⟩; have hb3 : Below wr.heap.size wr w2 := bon (And.left (by assumption)) hb2))
      have HB3 := Lib.hid hb3
      have hbn : Below w.heap.size w w2 := bon HBR.out HB3.out
      have hkn := HKR.out.below hb3 (Nat.le_refl _)
      obtain ⟨d, hd⟩ : ∃ d, decide (cmpV x.s x.q x.k s q k < 0) = d := ⟨_, rfl⟩
      have HD := Lib.hid hd
      clear hb3 hb2
      cases d with
      | false =>
        have hcn : ¬ cmpV x.s x.q x.k s q k < 0 := of_decide_eq_false hd
        go_wp2_with fail
        go_roundw
        case rel =>
          have hmm := HMM.out
          refine ⟨i, m, rfl, rfl, by omega, by omega, HLO.out, fun t y ht hy => ?_, hbn, hkn⟩
          exact decide_eq_true (HM.out m t x y ht HX.out hy (by omega))
        case measure => have hmm := HMM.out; simp [intOf]; omega
      | true =>
        have hcn : cmpV x.s x.q x.k s q k < 0 := of_decide_eq_true hd
        go_wp2_with fail
        go_roundw
        case rel =>
          have hmm := HMM.out
          refine ⟨m + 1, j, by simp, rfl, by omega, by omega, fun t y ht hy => ?_, HHI.out, hbn, hkn⟩
          exact decide_eq_false (fun h1 => by have := HM.out t m y x (by omega) hy HX.out h1; omega)
        case measure => have hmm := HMM.out; simp [intOf]; omega

    · have hki : ¬ (i : Int) < (j : Int) := by omega
      obtain rfl : i = j := by omega
      have HLO := Lib.hid hlo
      have HHI := Lib.hid hhi
      have HBR := Lib.hid hbr
      clear hlo hhi
      by_cases hin : i < n
      · have hml : i < L.length := by have := HL.out; omega
        obtain ⟨x, hx⟩ : ∃ x, L[i]? = some x := ⟨_, List.getElem?_eq_getElem hml⟩
        obtain ⟨b, off, hA, hbB, hcell⟩ := HH.out.form (by omega)
        subst hA
        obtain ⟨x0, x1, x2, x3⟩ := hcell i x hx
        have hk' (o : Nat) : wr.cell? ⟨b, o, none⟩ = w.cell? ⟨b, o, none⟩ := hbr.cell (by simp; omega)
        rw [← hk'] at x0 x1 x2 x3
        have hbr2 : b < wr.heap.size := by omega
        have hm0 : (0 : Int) ≤ (i : Int) := by omega
        have hmn : (i : Int) < (n : Int) := by omega
        have hdi : decide ((i : Int) < (n : Int)) = true := by simpa using hmn
        have hdn : decide (i < n) = true := by simpa using hin
        have hbr := hbr2
        clear hx hml hcell hk' hkr hbr2 hbB
        have SK : ∀ W, Below wr.heap.size wr W → (Below wr.heap.size wr W ∧ W.cell? ⟨b, off + i * 4, none⟩ = some (.string x.s) ∧ W.cell? ⟨b, off + i * 4 + 1, none⟩ = some (.int .u64 (x.q : Int)) ∧ W.cell? ⟨b, off + i * 4 + 2, none⟩ = some (.int .u8 (x.k : Int)) ∧ W.cell? ⟨b, off + i * 4 + 3, none⟩ = some (.string x.v) ∧ W.cell? ⟨gk, 0, none⟩ = some (.string s) ∧ W.cell? ⟨gk, 1, none⟩ = some (.int .u64 (q : Int)) ∧ W.cell? ⟨gk, 2, none⟩ = some (.int .u8 (k : Int))) :=
          fun W hW => ⟨hW, (hW.cell hbr).trans x0, (hW.cell hbr).trans x1, (hW.cell hbr).trans x2, (hW.cell hbr).trans x3, (hW.cell hgr).trans k0, (hW.cell hgr).trans k1, (hW.cell hgr).trans k2⟩
        have HSK := Lib.hid SK
        have hs0 : Below wr.heap.size wr wr.drew := below_drewN (Below.refl _ _) 1
        clear SK
        go_wp2_with fail
        go_region_held3 (fun w' => Below wr.heap.size wr w' ∧ w'.cell? ⟨b, off + i * 4, none⟩ = some (.string x.s) ∧ w'.cell? ⟨b, off + i * 4 + 1, none⟩ = some (.int .u64 (x.q : Int)) ∧ w'.cell? ⟨b, off + i * 4 + 2, none⟩ = some (.int .u8 (x.k : Int)) ∧ w'.cell? ⟨b, off + i * 4 + 3, none⟩ = some (.string x.v) ∧ w'.cell? ⟨gk, 0, none⟩ = some (.string s) ∧ w'.cell? ⟨gk, 1, none⟩ = some (.int .u64 (q : Int)) ∧ w'.cell? ⟨gk, 2, none⟩ = some (.int .u8 (k : Int)))
          ((first | assumption | exact HSK.out _ (by assumption) | exact HSK.out _ hs0))
          (first
          | (go_at_call 41; refine (HC.out _ x).mono ?_; rintro e w2 ⟨rfl, hb2⟩; have hb3 : Below wr.heap.size wr w2 := bon (And.left (by assumption)) hb2))
        all_goals (
          go_wp2_with fail
          go_ret2
          exact ⟨i, _, rfl, hjn, HLO.out, HHI.out, bon HBR.out hb3⟩)

      · have hdi : decide ((i : Int) < (n : Int)) = false := by simp; omega
        have hdn : decide (i < n) = false := by simp; omega
        have hni2 : ¬ (i : Int) < (n : Int) := by omega
        have hst : Below wr.heap.size wr wr.drew := below_drewN (Below.refl _ _) 1
        go_wp2_with fail
        refine wp_region_noPanic ?_
        refine wp_region_held_drew (S := fun w' => Below wr.heap.size wr w') (by kernel_rfl) hst (fun hHeld => ?_)
        refine wpAnyH_take (i := 0) (oi := { dst := some 35, op := Op.move (Operand.tmp 9), type := 3, pos := "sort.go:167", after := #[], guard := none }) (v := ?v1) rfl (by kernel_rfl) (by kernel_rfl) (by kernel_rfl) (fun _ _ _ h => h) (Or.inl ⟨by rfl, ?hy1⟩) (by assumption) ?rest1
        case hy1 => (intro w hSw; (try dsimp only at hSw); go_simp; try with_reducible rfl)
        try simp only [Act.put, List.setIfInBounds_toArray, List.set_cons_zero, List.set_cons_succ]
        refine wpAnyH_take (i := 1) (oi := { dst := some 36, op := Op.move (Operand.tmp 9), type := 3, pos := "sort.go:167", after := #[], guard := none }) (v := ?v2) rfl (by kernel_rfl) (by kernel_rfl) (by kernel_rfl) (fun _ _ _ h => h) (Or.inl ⟨by rfl, ?hy2⟩) (by assumption) ?rest2
        case hy2 => (intro w hSw; (try dsimp only at hSw); go_simp; try with_reducible rfl)
        try simp only [Act.put, List.setIfInBounds_toArray, List.set_cons_zero, List.set_cons_succ]
        refine wpAnyH_take (i := 2) (oi := { dst := some 37, op := Op.move (Operand.tmp 8), type := 3, pos := "sort.go:167", after := #[], guard := none }) (v := ?v3) rfl (by kernel_rfl) (by kernel_rfl) (by kernel_rfl) (fun _ _ _ h => h) (Or.inl ⟨by rfl, ?hy3⟩) (by assumption) ?rest3
        case hy3 => (intro w hSw; (try dsimp only at hSw); go_simp; try with_reducible rfl)
        try simp only [Act.put, List.setIfInBounds_toArray, List.set_cons_zero, List.set_cons_succ]
        refine wpAnyH_take (i := 3) (oi := { dst := some 38, op := Op.binOp BinOp.lss 3 (Operand.tmp 36) (Operand.tmp 37) 3, type := 4, pos := "sort.go:167", after := #[{ on := 1, ground := Ground.data }, { on := 2, ground := Ground.data }], guard := none }) (v := ?v4) rfl (by kernel_rfl) (by kernel_rfl) (by kernel_rfl) (fun _ _ _ h => h) (Or.inl ⟨by rfl, ?hy4⟩) (by assumption) ?rest4
        case hy4 => (intro w hSw; (try dsimp only at hSw); go_simp; try with_reducible rfl)
        try simp only [Act.put, List.setIfInBounds_toArray, List.set_cons_zero, List.set_cons_succ]
        refine wpAnyH_take (i := 4) (oi := { dst := some 39, op := Op.move (Operand.tmp 38), type := 4, pos := "sort.go:167", after := #[{ on := 3, ground := Ground.data }], guard := none }) (v := ?v5) rfl (by kernel_rfl) (by kernel_rfl) (by kernel_rfl) (fun _ _ _ h => h) (Or.inl ⟨by rfl, ?hy5⟩) (by assumption) ?rest5
        case hy5 => (intro w hSw; (try dsimp only at hSw); go_simp; try with_reducible rfl)
        try simp only [Act.put, List.setIfInBounds_toArray, List.set_cons_zero, List.set_cons_succ]
        refine wpAnyH_take (i := 5) (oi := { dst := some 40, op := Op.move (Operand.tmp 2), type := 71, pos := "sort.go:167", after := #[{ on := 4, ground := Ground.guard }], guard := some (4, true) }) (v := undef) rfl (by kernel_rfl) (by kernel_rfl) (by kernel_rfl) (fun _ _ _ h => h) (Or.inr ⟨by rfl, rfl⟩) (by assumption) ?_
        try simp only [Act.put, List.setIfInBounds_toArray, List.set_cons_zero, List.set_cons_succ]
        refine wpAnyH_take (i := 6) (oi := { dst := some 41, op := Op.move (Operand.tmp 0), type := 23, pos := "sort.go:167", after := #[{ on := 4, ground := Ground.guard }], guard := some (4, true) }) (v := undef) rfl (by kernel_rfl) (by kernel_rfl) (by kernel_rfl) (fun _ _ _ h => h) (Or.inr ⟨by rfl, rfl⟩) (by assumption) ?_
        try simp only [Act.put, List.setIfInBounds_toArray, List.set_cons_zero, List.set_cons_succ]
        refine wpAnyH_take (i := 7) (oi := { dst := some 42, op := Op.move (Operand.tmp 9), type := 3, pos := "sort.go:167", after := #[{ on := 4, ground := Ground.guard }], guard := some (4, true) }) (v := undef) rfl (by kernel_rfl) (by kernel_rfl) (by kernel_rfl) (fun _ _ _ h => h) (Or.inr ⟨by rfl, rfl⟩) (by assumption) ?_
        try simp only [Act.put, List.setIfInBounds_toArray, List.set_cons_zero, List.set_cons_succ]
        refine wpAnyH_take (i := 8) (oi := { dst := some 43, op := Op.indexAddr 23 (Operand.tmp 41) (Operand.tmp 42), type := 0, pos := "sort.go:167", after := #[{ on := 6, ground := Ground.data }, { on := 7, ground := Ground.data }, { on := 4, ground := Ground.guard }], guard := some (4, true) }) (v := undef) rfl (by kernel_rfl) (by kernel_rfl) (by kernel_rfl) (fun _ _ _ h => h) (Or.inr ⟨by rfl, rfl⟩) (by assumption) ?_
        try simp only [Act.put, List.setIfInBounds_toArray, List.set_cons_zero, List.set_cons_succ]
        refine wpAnyH_take (i := 9) (oi := { dst := some 44, op := Op.load 40 (Operand.tmp 43), type := 40, pos := "sort.go:167", after := #[{ on := 8, ground := Ground.data }, { on := 4, ground := Ground.guard }], guard := some (4, true) }) (v := undef) rfl (by kernel_rfl) (by kernel_rfl) (by kernel_rfl) (fun _ _ _ h => h) (Or.inr ⟨by rfl, rfl⟩) (by assumption) ?_
        try simp only [Act.put, List.setIfInBounds_toArray, List.set_cons_zero, List.set_cons_succ]
        refine wpAnyH_take (i := 10) (oi := { dst := some 45, op := Op.load 26 (Operand.tmp 4), type := 26, pos := "sort.go:167", after := #[{ on := 4, ground := Ground.guard }], guard := some (4, true) }) (v := undef) rfl (by kernel_rfl) (by kernel_rfl) (by kernel_rfl) (fun _ _ _ h => h) (Or.inr ⟨by rfl, rfl⟩) (by assumption) ?_
        try simp only [Act.put, List.setIfInBounds_toArray, List.set_cons_zero, List.set_cons_succ]
        refine wpAnyH_take (i := 11) (oi := { dst := some 46, op := Op.call { callee := Callee.value (Operand.tmp 40), args := #[Operand.tmp 44, Operand.tmp 45], argTypes := #[40, 26] }, type := 3, pos := "sort.go:167", after := #[{ on := 5, ground := Ground.data }, { on := 9, ground := Ground.data }, { on := 10, ground := Ground.data }, { on := 4, ground := Ground.chain }, { on := 4, ground := Ground.guard }], guard := some (4, true) }) (v := undef) rfl (by kernel_rfl) (by kernel_rfl) (by kernel_rfl) (fun _ _ _ h => h) (Or.inr ⟨by rfl, rfl⟩) (by assumption) ?_
        try simp only [Act.put, List.setIfInBounds_toArray, List.set_cons_zero, List.set_cons_succ]
        refine wpAnyH_take (i := 12) (oi := { dst := some 47, op := Op.binOp BinOp.eql 3 (Operand.tmp 46) (Operand.const (Value.int IntKind.i64 0)) 3, type := 4, pos := "sort.go:167", after := #[{ on := 11, ground := Ground.data }, { on := 4, ground := Ground.guard }, { on := 14, ground := Ground.gcOnly Departure.lateStores }], guard := some (4, true) }) (v := undef) rfl (by kernel_rfl) (by kernel_rfl) (by kernel_rfl) (fun _ _ _ h => h) (Or.inr ⟨by rfl, rfl⟩) (by assumption) ?_
        try simp only [Act.put, List.setIfInBounds_toArray, List.set_cons_zero, List.set_cons_succ]
        refine wpAnyH_take (i := 13) (oi := { dst := some 48, op := Op.pick (Operand.tmp 39) (Operand.tmp 47) (Operand.const (Value.bool false)), type := 4, pos := "sort.go:167", after := #[{ on := 4, ground := Ground.data }, { on := 12, ground := Ground.data }, { on := 14, ground := Ground.gcOnly Departure.lateStores }], guard := none }) (v := ?v6) rfl (by kernel_rfl) (by kernel_rfl) (by kernel_rfl) (fun _ _ _ h => h) (Or.inl ⟨by rfl, ?hy6⟩) (by assumption) ?rest6
        case hy6 => (intro w hSw; (try dsimp only at hSw); go_simp; try with_reducible rfl)
        try simp only [Act.put, List.setIfInBounds_toArray, List.set_cons_zero, List.set_cons_succ]
        refine wpAnyH_take (i := 14) (oi := { dst := some 6, op := Op.assign (Operand.tmp 35), type := 3, pos := "sort.go:167", after := #[{ on := 0, ground := Ground.data }, { on := 11, ground := Ground.chain }, { on := 0, ground := Ground.phase }, { on := 1, ground := Ground.textOnly Departure.lateStores }, { on := 2, ground := Ground.textOnly Departure.lateStores }, { on := 3, ground := Ground.textOnly Departure.lateStores }, { on := 4, ground := Ground.textOnly Departure.lateStores }, { on := 5, ground := Ground.textOnly Departure.lateStores }, { on := 6, ground := Ground.textOnly Departure.lateStores }, { on := 7, ground := Ground.textOnly Departure.lateStores }, { on := 8, ground := Ground.textOnly Departure.lateStores }, { on := 9, ground := Ground.textOnly Departure.lateStores }, { on := 10, ground := Ground.textOnly Departure.lateStores }, { on := 11, ground := Ground.textOnly Departure.lateStoresUnsure }, { on := 12, ground := Ground.textOnly Departure.lateStores }, { on := 13, ground := Ground.textOnly Departure.lateStores }], guard := none }) (v := ?v7) rfl (by kernel_rfl) (by kernel_rfl) (by kernel_rfl) (fun _ _ _ h => h) (Or.inl ⟨by rfl, ?hy7⟩) (by assumption) ?rest7
        case hy7 => (intro w hSw; (try dsimp only at hSw); go_simp; try with_reducible rfl)
        try simp only [Act.put, List.setIfInBounds_toArray, List.set_cons_zero, List.set_cons_succ]
        refine wpAnyH_take (i := 15) (oi := { dst := some 7, op := Op.assign (Operand.tmp 48), type := 4, pos := "sort.go:167", after := #[{ on := 13, ground := Ground.data }, { on := 14, ground := Ground.chain }, { on := 0, ground := Ground.phase }, { on := 1, ground := Ground.phase }, { on := 2, ground := Ground.phase }, { on := 3, ground := Ground.phase }, { on := 4, ground := Ground.phase }, { on := 5, ground := Ground.phase }, { on := 6, ground := Ground.phase }, { on := 7, ground := Ground.phase }, { on := 8, ground := Ground.phase }, { on := 9, ground := Ground.phase }, { on := 10, ground := Ground.phase }, { on := 11, ground := Ground.phase }, { on := 12, ground := Ground.phase }, { on := 13, ground := Ground.phase }, { on := 14, ground := Ground.phase }], guard := none }) (v := ?v8) rfl (by kernel_rfl) (by kernel_rfl) (by kernel_rfl) (fun _ _ _ h => h) (Or.inl ⟨by rfl, ?hy8⟩) (by assumption) ?rest8
        case hy8 => (intro w hSw; (try dsimp only at hSw); go_simp; try with_reducible rfl)
        try simp only [Act.put, List.setIfInBounds_toArray, List.set_cons_zero, List.set_cons_succ]

        refine wpAnyH_done (by kernel_rfl) ?_ _
        refine NoPanic.normal ?_
        go_wp2_with fail
        go_ret2
        exact ⟨i, false, rfl, hjn, HLO.out, HHI.out, bon HBR.out hHeld⟩

end Go.Proofs.YtkdjjdkcogolmaaGreatDoor
