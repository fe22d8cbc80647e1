/-
  IkeyRising: a list that rises does so in each part of it, and turned about it does not, if it has two or more; with one of its entries put twice it does not. No condition.
-/
import Derived.Test.YtobfdhnaejfehaaRows
import Derived.Test.YtobfdhnaejfehaaIk6
import Derived.Test.YtobfdhnaejfehaaIkE
import Derived.WalkKit
import Derived.ProofKit
import Derived.OpenShut
import Derived.ShutString
import Derived.ChangeOld
import Derived.Below
import Derived.Deep.RegionHeld3
import Derived.Lib.MinMax
namespace Go.Proofs.Ytobfdhnaejfehaa.ikeyRising
open Go.ChangeShapes Go.WideShapes Go.ChangeAt Go.RowKit
open Go.ChangeMaps (open_string shut_string)
set_option linter.unusedVariables false

theorem own : ownKnob Try.prog.godebug = none := by kernel_rfl
theorem laidOut : laidOutB Try.prog = true := by kernel_rfl

set_option maxRecDepth 100000 in
set_option maxHeartbeats 8000000 in
theorem walk (A0 : Option Addr) (n0 c0 : Nat) (L0 : List Ent) (a1 : Nat) (w : World) (r0 : RdE w w.heap.size A0 n0 c0 L0) (o0 : ∀ x ∈ L0, EntOk x) (w1 : (a1 : Int) ≤ 255) :
    Calls Try.prog 7 #[.slice A0 n0 c0, .int .u8 (a1 : Int)] w fun e w' => e = .returned (.bool true) ∧ Below w.heap.size w w' := by
  have hl := r0.len
  have hcap := r0.cap
  have HF := Lib.hid (few_c r0 (Nat.le_refl _) 60)
  go_enter Try.func7, Try.ntmps7
  go_wp2_with fail
  refine HF.out.mono ?_
  rintro e w2 ⟨rfl, hb⟩
  generalize hfw : fewB L0 60 = fw
  cases fw with
  | false =>
    go_wp2_with fail
    refine (awake3_c _).mono ?_
    rintro e w9 ⟨rfl, hb9⟩
    go_wp2_with fail
    go_ret
    exact ⟨rfl, bon hb hb9⟩
  | true =>
  have hn60 : n0 ≤ 60 := by unfold fewB at hfw; simp at hfw; omega
  have hni : (n0 : Int) ≤ 60 := by omega
  have HRB := Lib.hid (fun (W : World) (A : Option Addr) (n c : Nat) (L : List Ent) (bo : Bool) (h : RdE W W.heap.size A n c L) (hb : risB L = bo) (hn : n ≤ 61) => show Calls Try.prog 19 #[.slice A n c] W (RetVl W (.bool bo)) from hb ▸ rising_c h (Nat.le_refl _) (by omega))
  have HRB2 := HRB
  have HR := Lib.hid (fun (W : World) (A : Option Addr) (n c : Nat) (L : List Ent) (h : RdE W W.heap.size A n c L) (hn : n ≤ 61) => rising_c h (Nat.le_refl _) (by omega))
  clear HF hfw
  go_wp2_with fail
  have HR0 : Calls Try.prog 19 #[.slice none 0 0] w2 (RetVl w2 (.bool true)) := HR.out _ none 0 0 [] RdE.nilv (by decide)
  refine HR0.mono ?_
  rintro e w3 ⟨rfl, hb3⟩
  replace hb := bon hb hb3
  clear hb3
  have hmin : min ((n0 : Int)) 1 = ((min n0 1 : Nat) : Int) := by omega
  have hf1 := ((r0.below hb (Nat.le_refl _)).more hb.size).front (k := min n0 1) (by omega)
  have hsl := fun W => run_slice_hi_en (n := n0) (A := A0) (c := c0) .i64 (k := min n0 1) (by omega) W
  have hr1 : risB (L0.take (min n0 1)) = true := by
    rcases Nat.lt_or_ge 0 n0 with h | h
    · rw [show min n0 1 = 1 by omega]
      match L0, hl with
      | [], _ => rfl
      | x :: r, _ => rfl
    · rw [show min n0 1 = 0 by omega]; rfl
  have HR1 := HR.out w3 _ _ _ _ hf1 (by omega)
  rw [hr1] at HR1
  have HR1 := Lib.hid HR1
  clear hf1 hr1
  rw [← hmin] at hsl
  go_wp2_with fail
  refine HR1.out.mono ?_
  rintro e w4 ⟨rfl, hb4⟩
  replace hb := bon hb hb4
  clear hb4 HR1 HR0 hsl
  by_cases h0 : n0 = 0
  · subst h0
    go_wp2_with fail
    refine (awake3_c _).mono ?_
    rintro e w9 ⟨rfl, hb9⟩
    go_wp2_with fail
    go_ret
    exact ⟨rfl, bon hb hb9⟩
  obtain ⟨k, hk⟩ : ∃ k : Nat, k = a1 % n0 := ⟨_, rfl⟩
  have hkl : k < n0 := by rw [hk]; exact Nat.mod_lt _ (by omega)
  have hka : (a1 : Int) % (n0 : Int) = (k : Int) := by rw [hk]; simp
  have hn1z : ((n0 : Int) == 0) = false := by simp; omega
  have hn1p : (1 : Int) ≤ (n0 : Int) := by omega
  obtain ⟨b, off, hA, hbB, hcell⟩ := r0.form (by omega)
  subst hA
  obtain ⟨x, hx⟩ : ∃ x, L0[k]? = some x := ⟨L0[k]'(by omega), List.getElem?_eq_getElem _⟩
  obtain ⟨x0, x1, x2, x3⟩ := hcell k x hx
  have hfr := r0.front (k := k + 1) (by omega)
  obtain ⟨Ab, hbs, hbk⟩ := r0.slice_lo .i64 (k := k + 1) (by omega)
  obtain ⟨Ac, hcs, hck⟩ := r0.slice_lo .i64 (k := k) (by omega)
  have hfs := fun W => run_slice_hi_en (n := n0) (A := some ⟨b, off, none⟩) (c := c0) .i64 (k := k + 1) (by omega) W
  rw [show ((k + 1 : Nat) : Int) = (k : Int) + 1 by omega] at hbs hfs
  have hki : (k : Int) < (n0 : Int) := by omega
  have hk0 : (0 : Int) ≤ (k : Int) := by omega
  have hw1 : IntKind.i64.wrap ((k : Int) + 1) = (k : Int) + 1 := wrapi _ (by omega) (by omega)
  have SK : ∀ W, Below w.heap.size w W → (Below w.heap.size w W ∧ W.cell? ⟨b, off + k * 4, none⟩ = some (.string x.s) ∧ W.cell? ⟨b, off + k * 4 + 1, none⟩ = some (.int .u64 (x.q : Int)) ∧ W.cell? ⟨b, off + k * 4 + 2, none⟩ = some (.int .u8 (x.k : Int)) ∧ W.cell? ⟨b, off + k * 4 + 3, none⟩ = some (.string x.v)) :=
    fun W hW => ⟨hW, (hW.cell hbB).trans x0, (hW.cell hbB).trans x1, (hW.cell hbB).trans x2, (hW.cell hbB).trans x3⟩
  have HSK := Lib.hid SK
  have HT := Lib.hid (ris_twice hx)
  have HSP := Lib.hid (ris_split (L := L0) (k := k))
  have HX := Lib.hid hx
  have HK := Lib.hid hk
  have HL := Lib.hid hl
  have HB4 := hb.size
  obtain ⟨_, y0, y1, y2, y3⟩ := SK w4 hb
  clear SK x0 x1 x2 x3 hcell hk hl o0 h0 hmin hx
  go_wp2_with fail
  refine' (fun (key : ∀ (W : World) (A7 : Option Addr) (c7 : Nat) (v1 v2 v3 v4 : Value), Below w.heap.size w W → FrE W w.heap.size A7 (k + 1 + 1 + (n0 - (k + 1))) c7 (L0.take (k + 1) ++ [x] ++ L0.drop (k + 1)) → (_ : World → Option Addr → Nat → Value → Value → Value → Value → Prop) W A7 c7 v1 v2 v3 v4) => ?main) ?kp
  case main =>
    go_region_held3 (fun w' => Below w.heap.size w w' ∧ w'.cell? ⟨b, off + k * 4, none⟩ = some (.string x.s) ∧ w'.cell? ⟨b, off + k * 4 + 1, none⟩ = some (.int .u64 (x.q : Int)) ∧ w'.cell? ⟨b, off + k * 4 + 2, none⟩ = some (.int .u8 (x.k : Int)) ∧ w'.cell? ⟨b, off + k * 4 + 3, none⟩ = some (.string x.v))
      ((first | assumption | exact HSK.out _ (by assumption) | exact HSK.out _ (Below.drew hb) | exact HSK.out _ (blit (And.left (by assumption)) _)))
      (first | (have hH : Below w.heap.size w _ := And.left (by assumption); refine step_appE rfl (.tmp 33) (.tmp 37) rfl (FrE.zero w4.drew (b := w.heap.size) (g := w4.heap.size) rfl HB4) (by rfl) (hfr.below hH (Nat.le_refl _)) (by rfl) (by omega) hH.size ?_; intro A5 c5 w5 hap5; have hb5 : Below w.heap.size w w5 := hH.trans hap5.below; have hf5 : FrE w5 w.heap.size A5 (k + 1) c5 (L0.take (k + 1)) := (by simpa using hap5.fr)) | (have hH : Below w.heap.size w _ := And.left (by assumption); refine step_appE rfl (.tmp 33) (.tmp 37) rfl ((FrE.zero w4.drew (b := w.heap.size) (g := w4.heap.size) rfl HB4).alloc (.cells #[.string x.s, .int .u64 (x.q : Int), .int .u8 (x.k : Int), .string x.v] 29)) (by rfl) (hfr.below hH (Nat.le_refl _)) (by rfl) (by omega) hH.size ?_; intro A5 c5 w5 hap5; have hb5 : Below w.heap.size w w5 := hH.trans hap5.below; have hf5 : FrE w5 w.heap.size A5 (k + 1) c5 (L0.take (k + 1)) := (by simpa using hap5.fr)) | (have hH : Below w.heap.size w _ := And.left (by assumption); refine step_appE rfl (.tmp 33) (.tmp 37) rfl (FrE.zero (w4.drew.alloc (.cells #[.string x.s, .int .u64 (x.q : Int), .int .u8 (x.k : Int), .string x.v] 29)) (b := w.heap.size) (g := w4.heap.size + 1) (by simp) (by simp; omega)) (by rfl) (hfr.below hH (Nat.le_refl _)) (by rfl) (by omega) hH.size ?_; intro A5 c5 w5 hap5; have hb5 : Below w.heap.size w w5 := hH.trans hap5.below; have hf5 : FrE w5 w.heap.size A5 (k + 1) c5 (L0.take (k + 1)) := (by simpa using hap5.fr)) | (have hH : Below w.heap.size w _ := And.left (by assumption); refine step_appE rfl (.tmp 38) (.tmp 43) rfl (hf5.alloc (.cells #[.string x.s, .int .u64 (x.q : Int), .int .u8 (x.k : Int), .string x.v] 29)) (by rfl) ((FrE.one w5 x (b := 0) (g := w5.heap.size) rfl (Nat.zero_le _)).rd (Nat.le_refl _)) (by rfl) (by omega) hH.size ?_; intro A6 c6 w6 hap6; have hb6 : Below w.heap.size w w6 := hH.trans hap6.below) | (have hH : Below w.heap.size w _ := And.left (by assumption); refine step_appE rfl (.tmp 38) (.tmp 43) rfl hap5.fr (by rfl) (((FrE.one (w4.drew.alloc (.cells #[] 29)) x (b := 0) (g := w4.heap.size + 1) (by simp) (Nat.zero_le _)).rd (Nat.le_refl _)).grown hap5.grown (by simp) (by simp [Value.ownBlock])) (by rfl) (by omega) hH.size ?_; intro A6 c6 w6 hap6; have hb6 : Below w.heap.size w w6 := hH.trans hap6.below) | (have hH : Below w.heap.size w _ := And.left (by assumption); refine step_appE rfl (.tmp 38) (.tmp 43) rfl hap5.fr (by rfl) ((((FrE.one w4.drew x (b := 0) (g := w4.heap.size) rfl (Nat.zero_le _)).alloc (.cells #[] 29)).rd (Nat.le_refl _)).grown hap5.grown (by simp; omega) (by simp [Value.ownBlock])) (by rfl) (by omega) hH.size ?_; intro A6 c6 w6 hap6; have hb6 : Below w.heap.size w w6 := hH.trans hap6.below) | (have hH : Below w.heap.size w _ := And.left (by assumption); refine step_appE rfl (.tmp 44) (.tmp 48) rfl hap6.fr (by rfl) (hbk.below hH (Nat.le_refl _)) (by rfl) (by omega) hH.size ?_; intro A7 c7 w7 hap7; have hb7 : Below w.heap.size w w7 := hH.trans hap7.below))
    all_goals
      have hf7 : FrE w7 w.heap.size A7 (k + 1 + 1 + (n0 - (k + 1))) c7 (L0.take (k + 1) ++ [x] ++ L0.drop (k + 1)) := by
        first
          | exact hap7.fr
          | (have h7 := hap7.fr; rw [Nat.zero_add] at h7; exact h7)
      try simp only [Nat.zero_add]
      first
        | (generalize Value.slice (some ⟨w4.heap.size, 0, none⟩) 0 0 = v1; generalize Value.slice A5 (k + 1) c5 = v2; generalize Value.slice (some ⟨w5.heap.size, 0, none⟩) 1 1 = v3; generalize Value.slice A6 (k + 1 + 1) c6 = v4; exact key w7 A7 c7 v1 v2 v3 v4 hb7 hf7)
        | (generalize Value.slice (some ⟨w4.heap.size, 0, none⟩) 0 0 = v1; generalize Value.slice A5 (k + 1) c5 = v2; generalize Value.slice (some ⟨w4.heap.size + 1, 0, none⟩) 1 1 = v3; generalize Value.slice A6 (k + 1 + 1) c6 = v4; exact key w7 A7 c7 v1 v2 v3 v4 hb7 hf7)
        | (generalize Value.slice (some ⟨w4.heap.size + 1, 0, none⟩) 0 0 = v1; generalize Value.slice A5 (k + 1) c5 = v2; generalize Value.slice (some ⟨w4.heap.size, 0, none⟩) 1 1 = v3; generalize Value.slice A6 (k + 1 + 1) c6 = v4; exact key w7 A7 c7 v1 v2 v3 v4 hb7 hf7)
  case kp =>
  intro w7 A7 c7 v1 v2 v3 v4 hbb hf7
  clear HSK y0 y1 y2 y3 hfr hbk hbs hb
  have hrt : RdE w7.drew w7.drew.heap.size A7 (k + 1 + 1 + (n0 - (k + 1))) c7 (L0.take (k + 1) ++ [x] ++ L0.drop (k + 1)) := (hf7.rd (Nat.le_refl _)).keep (fun _ _ => rfl)
  have rdl := fun W (hH : Below w.heap.size w W) => (r0.below hH (Nat.le_refl _)).more hH.size
  have rdf := fun W (hH : Below w.heap.size w W) => ((r0.below hH (Nat.le_refl _)).more hH.size).front (k := k + 1) (by omega)
  have rdb := fun W (hH : Below w.heap.size w W) => (hck.below hH (Nat.le_refl _)).more hH.size
  have hT := HT.out
  have hsp := HSP.out
  generalize h1 : risB (L0.take (k + 1)) = e1 at hsp
  generalize h2 : risB (L0.drop k) = e2 at hsp
  have hN61 : n0 ≤ 61 := by omega
  have hk61 : k + 1 ≤ 61 := by omega
  have hd61 : n0 - k ≤ 61 := by omega
  have ht61 : k + 1 + 1 + (n0 - (k + 1)) ≤ 61 := by omega
  cases e1
  case false =>
    cases e2
    case false =>
      replace hsp : risB L0 = false := hsp
      have C1 := Lib.hid (HRB.out _ _ _ _ _ _ hrt hT ht61)
      have C2 := Lib.hid (fun W (hH : Below w.heap.size w W) => HRB.out _ _ _ _ _ _ (rdl W hH) hsp hN61)
      have C3 := Lib.hid (fun W (hH : Below w.heap.size w W) => HRB.out _ _ _ _ _ _ (rdf W hH) h1 hk61)
      have C4 := Lib.hid (fun W (hH : Below w.heap.size w W) => HRB.out _ _ _ _ _ _ (rdb W hH) h2 hd61)
      have HS := Lib.hid hsp
      replace hbb := Below.drew hbb
      clear hrt rdl rdf rdb hf7 hck HT h1 h2 hT hsp HRB HR HSP
      go_wp2_with fail
      refine wp_region_noPanic ?_
      refine wp_region_held_drew (S := fun w' => Below w.heap.size w w') (by kernel_rfl) hbb (fun hHeld => ?_)
      refine wpAnyH_take (i := 0) (oi := { dst := some 50, op := Op.move (Operand.tmp 6), type := 25, pos := "outright.go:76", after := #[], guard := none }) (v := ?v1) rfl (by kernel_rfl) (by kernel_rfl) (by kernel_rfl) (fun _ _ _ h => h) (Or.inl ⟨by rfl, ?hy1⟩) (by assumption) ?rest1
      case hy1 => (intro w hSw; (try dsimp only at hSw); go_simp; try with_reducible rfl)
      try simp only [Act.put, List.setIfInBounds_toArray, List.set_cons_zero, List.set_cons_succ]
      refine wpAnyH_ready (rs := [1]) (by kernel_rfl) (by simp) ?_
      refine AllReadyH.cons (o := { dst := some 51, op := Op.call { callee := Callee.value (Operand.func 19), args := #[Operand.tmp 50], argTypes := #[25] }, type := 4, pos := "outright.go:76", after := #[{ on := 0, ground := Ground.data }], guard := none }) rfl (fun K hK => ?_) AllReadyH.nil
      go_simp
      refine (C1.out).mono ?_
      rintro e u1 ⟨rfl, hb⟩
      replace hbb := bon hbb hb
      clear hb
      go_wp2_with fail
      clear hHeld
      refine hK.out _ _ hbb (fun hHeld => ?_)
      clear hK K
      try simp only [Act.put, List.setIfInBounds_toArray, List.set_cons_zero, List.set_cons_succ]
      refine wpAnyH_take (i := 2) (oi := { dst := some 52, op := Op.move (Operand.tmp 51), type := 4, pos := "outright.go:76", after := #[{ on := 1, ground := Ground.data }, { on := 1, ground := Ground.chain }], guard := none }) (v := ?v2) rfl (by kernel_rfl) (by kernel_rfl) (by kernel_rfl) (fun _ _ _ h => h) (Or.inl ⟨by rfl, ?hy2⟩) (by assumption) ?rest2
      case hy2 => (intro w hSw; (try dsimp only at hSw); go_simp; try with_reducible rfl)
      try simp only [Act.put, List.setIfInBounds_toArray, List.set_cons_zero, List.set_cons_succ]
      refine wpAnyH_take (i := 3) (oi := { dst := some 53, op := Op.move (Operand.tmp 0), type := 25, pos := "outright.go:76", after := #[{ on := 2, ground := Ground.guard }], guard := some (2, false) }) (v := ?v3) rfl (by kernel_rfl) (by kernel_rfl) (by kernel_rfl) (fun _ _ _ h => h) (Or.inl ⟨by rfl, ?hy3⟩) (by assumption) ?rest3
      case hy3 => (intro w hSw; (try dsimp only at hSw); go_simp; try with_reducible rfl)
      try simp only [Act.put, List.setIfInBounds_toArray, List.set_cons_zero, List.set_cons_succ]
      refine wpAnyH_take (i := 5) (oi := { dst := some 55, op := Op.move (Operand.tmp 0), type := 25, pos := "outright.go:76", after := #[{ on := 2, ground := Ground.guard }], guard := some (2, false) }) (v := ?v4) rfl (by kernel_rfl) (by kernel_rfl) (by kernel_rfl) (fun _ _ _ h => h) (Or.inl ⟨by rfl, ?hy4⟩) (by assumption) ?rest4
      case hy4 => (intro w hSw; (try dsimp only at hSw); go_simp; try with_reducible rfl)
      try simp only [Act.put, List.setIfInBounds_toArray, List.set_cons_zero, List.set_cons_succ]
      refine wpAnyH_take (i := 6) (oi := { dst := some 56, op := Op.move (Operand.tmp 5), type := 3, pos := "outright.go:76", after := #[{ on := 2, ground := Ground.guard }], guard := some (2, false) }) (v := ?v5) rfl (by kernel_rfl) (by kernel_rfl) (by kernel_rfl) (fun _ _ _ h => h) (Or.inl ⟨by rfl, ?hy5⟩) (by assumption) ?rest5
      case hy5 => (intro w hSw; (try dsimp only at hSw); go_simp; try with_reducible rfl)
      try simp only [Act.put, List.setIfInBounds_toArray, List.set_cons_zero, List.set_cons_succ]
      refine wpAnyH_take (i := 7) (oi := { dst := some 57, op := Op.binOp BinOp.add 3 (Operand.tmp 56) (Operand.const (Value.int IntKind.i64 1)) 3, type := 3, pos := "outright.go:76", after := #[{ on := 6, ground := Ground.data }, { on := 2, ground := Ground.guard }], guard := some (2, false) }) (v := ?v6) rfl (by kernel_rfl) (by kernel_rfl) (by kernel_rfl) (fun _ _ _ h => h) (Or.inl ⟨by rfl, ?hy6⟩) (by assumption) ?rest6
      case hy6 => (intro w hSw; (try dsimp only at hSw); go_simp; try with_reducible rfl)
      try simp only [Act.put, List.setIfInBounds_toArray, List.set_cons_zero, List.set_cons_succ]
      refine wpAnyH_take (i := 8) (oi := { dst := some 58, op := Op.slice 25 (Operand.tmp 55) none (some (Operand.tmp 57)) none, type := 25, pos := "outright.go:76", after := #[{ on := 5, ground := Ground.data }, { on := 7, ground := Ground.data }, { on := 2, ground := Ground.guard }], guard := some (2, false) }) (v := ?v7) rfl (by kernel_rfl) (by kernel_rfl) (by kernel_rfl) (fun _ _ _ h => h) (Or.inl ⟨by rfl, ?hy7⟩) (by assumption) ?rest7
      case hy7 => (intro w hSw; (try dsimp only at hSw); go_simp; try with_reducible rfl)
      try simp only [Act.put, List.setIfInBounds_toArray, List.set_cons_zero, List.set_cons_succ]
      refine wpAnyH_ready (rs := [4]) (by kernel_rfl) (by simp) ?_
      refine AllReadyH.cons (o := { dst := some 54, op := Op.call { callee := Callee.value (Operand.func 19), args := #[Operand.tmp 53], argTypes := #[25] }, type := 4, pos := "outright.go:76", after := #[{ on := 3, ground := Ground.data }, { on := 2, ground := Ground.chain }, { on := 2, ground := Ground.guard }], guard := some (2, false) }) rfl (fun K hK => ?_) AllReadyH.nil
      go_simp
      refine (C2.out _ hbb).mono ?_
      rintro e u4 ⟨rfl, hb⟩
      replace hbb := bon hbb hb
      clear hb
      go_wp2_with fail
      clear hHeld
      refine hK.out _ _ hbb (fun hHeld => ?_)
      clear hK K
      try simp only [Act.put, List.setIfInBounds_toArray, List.set_cons_zero, List.set_cons_succ]
      refine wpAnyH_ready (rs := [9]) (by kernel_rfl) (by simp) ?_
      refine AllReadyH.cons (o := { dst := some 59, op := Op.call { callee := Callee.value (Operand.func 19), args := #[Operand.tmp 58], argTypes := #[25] }, type := 4, pos := "outright.go:76", after := #[{ on := 8, ground := Ground.data }, { on := 4, ground := Ground.chain }, { on := 2, ground := Ground.guard }], guard := some (2, false) }) rfl (fun K hK => ?_) AllReadyH.nil
      go_simp
      refine (C3.out _ hbb).mono ?_
      rintro e u9 ⟨rfl, hb⟩
      replace hbb := bon hbb hb
      clear hb
      go_wp2_with fail
      clear hHeld
      refine hK.out _ _ hbb (fun hHeld => ?_)
      clear hK K
      try simp only [Act.put, List.setIfInBounds_toArray, List.set_cons_zero, List.set_cons_succ]
      refine wpAnyH_take (i := 10) (oi := { dst := some 60, op := Op.move (Operand.tmp 59), type := 4, pos := "outright.go:76", after := #[{ on := 9, ground := Ground.data }, { on := 9, ground := Ground.chain }, { on := 2, ground := Ground.guard }], guard := some (2, false) }) (v := ?v8) rfl (by kernel_rfl) (by kernel_rfl) (by kernel_rfl) (fun _ _ _ h => h) (Or.inl ⟨by rfl, ?hy8⟩) (by assumption) ?rest8
      case hy8 => (intro w hSw; (try dsimp only at hSw); go_simp; try with_reducible rfl)
      try simp only [Act.put, List.setIfInBounds_toArray, List.set_cons_zero, List.set_cons_succ]
      refine wpAnyH_take (i := 11) (oi := { dst := some 61, op := Op.move (Operand.tmp 0), type := 25, pos := "outright.go:76", after := #[{ on := 10, ground := Ground.guard }], guard := some (10, true) }) (v := undef) rfl (by kernel_rfl) (by kernel_rfl) (by kernel_rfl) (fun _ _ _ h => h) (Or.inr ⟨by rfl, rfl⟩) (by assumption) ?_
      try simp only [Act.put, List.setIfInBounds_toArray, List.set_cons_zero, List.set_cons_succ]
      refine wpAnyH_take (i := 12) (oi := { dst := some 62, op := Op.move (Operand.tmp 5), type := 3, pos := "outright.go:76", after := #[{ on := 10, ground := Ground.guard }], guard := some (10, true) }) (v := undef) rfl (by kernel_rfl) (by kernel_rfl) (by kernel_rfl) (fun _ _ _ h => h) (Or.inr ⟨by rfl, rfl⟩) (by assumption) ?_
      try simp only [Act.put, List.setIfInBounds_toArray, List.set_cons_zero, List.set_cons_succ]
      refine wpAnyH_take (i := 13) (oi := { dst := some 63, op := Op.slice 25 (Operand.tmp 61) (some (Operand.tmp 62)) none none, type := 25, pos := "outright.go:76", after := #[{ on := 11, ground := Ground.data }, { on := 12, ground := Ground.data }, { on := 10, ground := Ground.guard }], guard := some (10, true) }) (v := undef) rfl (by kernel_rfl) (by kernel_rfl) (by kernel_rfl) (fun _ _ _ h => h) (Or.inr ⟨by rfl, rfl⟩) (by assumption) ?_
      try simp only [Act.put, List.setIfInBounds_toArray, List.set_cons_zero, List.set_cons_succ]
      refine wpAnyH_take (i := 14) (oi := { dst := some 64, op := Op.call { callee := Callee.value (Operand.func 19), args := #[Operand.tmp 63], argTypes := #[25] }, type := 4, pos := "outright.go:76", after := #[{ on := 13, ground := Ground.data }, { on := 10, ground := Ground.chain }, { on := 10, ground := Ground.guard }], guard := some (10, true) }) (v := undef) rfl (by kernel_rfl) (by kernel_rfl) (by kernel_rfl) (fun _ _ _ h => h) (Or.inr ⟨by rfl, rfl⟩) (by assumption) ?_
      try simp only [Act.put, List.setIfInBounds_toArray, List.set_cons_zero, List.set_cons_succ]
      refine wpAnyH_take (i := 15) (oi := { dst := some 65, op := Op.pick (Operand.tmp 60) (Operand.tmp 64) (Operand.const (Value.bool false)), type := 4, pos := "outright.go:76", after := #[{ on := 10, ground := Ground.data }, { on := 14, ground := Ground.data }, { on := 2, ground := Ground.guard }], guard := some (2, false) }) (v := ?v9) rfl (by kernel_rfl) (by kernel_rfl) (by kernel_rfl) (fun _ _ _ h => h) (Or.inl ⟨by rfl, ?hy9⟩) (by assumption) ?rest9
      case hy9 => (intro w hSw; (try dsimp only at hSw); go_simp; try with_reducible rfl)
      try simp only [Act.put, List.setIfInBounds_toArray, List.set_cons_zero, List.set_cons_succ]
      refine wpAnyH_take (i := 16) (oi := { dst := some 66, op := Op.binOp BinOp.neq 4 (Operand.tmp 54) (Operand.tmp 65) 4, type := 4, pos := "outright.go:76", after := #[{ on := 4, ground := Ground.data }, { on := 15, ground := Ground.data }, { on := 2, ground := Ground.guard }], guard := some (2, false) }) (v := ?v10) rfl (by kernel_rfl) (by kernel_rfl) (by kernel_rfl) (fun _ _ _ h => h) (Or.inl ⟨by rfl, ?hy10⟩) (by assumption) ?rest10
      case hy10 => (intro w hSw; (try dsimp only at hSw); go_simp; try with_reducible rfl)
      try simp only [Act.put, List.setIfInBounds_toArray, List.set_cons_zero, List.set_cons_succ]
      refine wpAnyH_take (i := 17) (oi := { dst := some 67, op := Op.pick (Operand.tmp 52) (Operand.const (Value.bool true)) (Operand.tmp 66), type := 4, pos := "outright.go:76", after := #[{ on := 2, ground := Ground.data }, { on := 16, ground := Ground.data }], guard := none }) (v := ?v11) rfl (by kernel_rfl) (by kernel_rfl) (by kernel_rfl) (fun _ _ _ h => h) (Or.inl ⟨by rfl, ?hy11⟩) (by assumption) ?rest11
      case hy11 => (intro w hSw; (try dsimp only at hSw); go_simp; try with_reducible rfl)
      try simp only [Act.put, List.setIfInBounds_toArray, List.set_cons_zero, List.set_cons_succ]
      refine wpAnyH_done (by kernel_rfl) ?_ _
      refine NoPanic.normal ?_
      clear hHeld
      go_wp2_with fail
      go_loopw [70, 7] (fun iv bv wr => ∃ (j : Nat) (A : Option Addr) (c : Nat), iv = .int .i64 (j : Int) ∧ bv = .slice A j c ∧ j ≤ n0 ∧ FrE wr w.heap.size A j c (L0.reverse.take j) ∧ Below w.heap.size w wr) (fun iv _ _ => ((n0 : Int) - intOf iv).toNat)
      case atStart => exact ⟨0, none, 0, rfl, rfl, by omega, by simpa using FrE.nil, hbb⟩
      case round =>
        obtain ⟨j, Aj, cj, rfl, rfl, hj, hfj, hbr⟩ := hrel
        by_cases hlt : j < n0
        · obtain ⟨m, hm⟩ : ∃ m, m = n0 - 1 - j := ⟨_, rfl⟩
          obtain ⟨b', off', hA', hbB', hcell⟩ := r0.form (by omega)
          cases hA'
          have hll := HL.out
          obtain ⟨y, hy⟩ : ∃ y, L0[m]? = some y := ⟨L0[m]'(by omega), List.getElem?_eq_getElem _⟩
          obtain ⟨y0, y1, y2, y3⟩ := hcell m y hy
          have hk (i : Nat) : wr.cell? ⟨b, i, none⟩ = w.cell? ⟨b, i, none⟩ := hbr.cell hbB
          rw [← hk] at y0 y1 y2 y3
          have hji : (j : Int) < (n0 : Int) := by omega
          have hmi : (m : Int) < (n0 : Int) := by omega
          have hm0 : (0 : Int) ≤ (m : Int) := by omega
          have hw2 : IntKind.i64.wrap ((n0 : Int) - 1) = (n0 : Int) - 1 := wrapi _ (by omega) (by omega)
          have hw3 : IntKind.i64.wrap ((n0 : Int) - 1 - (j : Int)) = (m : Int) := by rw [wrapi _ (by omega) (by omega)]; omega
          have hnext : L0.reverse.take j ++ [y] = L0.reverse.take (j + 1) := by
            have : L0.reverse[j]? = some y := by rw [List.getElem?_reverse (by omega), hll, show n0 - 1 - j = m by omega]; exact hy
            rw [List.take_add_one, this]; rfl
          have HNX := Lib.hid hnext
          have HJ := Lib.hid hj
          have HM := Lib.hid hm
          clear hcell hk hy hnext hll hm
          go_wp2_with (at_builtin; refine wpList_appE rfl (.tmp 73) (.tmp 82) rfl rfl (hfj.alloc (.cells #[.string y.s, .int .u64 (y.q : Int), .int .u8 (y.k : Int), .string y.v] 29)) rfl ((FrE.one wr y (b := 0) (g := wr.heap.size) rfl (Nat.zero_le _)).rd (Nat.le_refl _)) (by omega) (by have := hbr.size; simp; omega) ?_; intro A9 c9 w9 hap9)
          go_roundw
          case rel =>
            refine ⟨j + 1, A9, c9, by simp, rfl, by omega, by rw [← HNX.out]; exact hap9.fr, ?_⟩
            exact (hbr.alloc hbr.size _).trans hap9.below
          case measure => simp [intOf]; omega
        · have hji : ¬ (j : Int) < (n0 : Int) := by omega
          obtain rfl : j = n0 := by omega
          have hfb : FrE wr w.heap.size Aj j cj L0.reverse := by
            have := hfj
            rwa [List.take_of_length_le (by rw [List.length_reverse, HL.out]; exact Nat.le_refl _)] at this
          clear hfj
          have C2' := Lib.hid (HRB2.out wr _ _ _ L0 _ ((r0.below hbr (Nat.le_refl _)).more hbr.size) HS.out (by omega))
          by_cases h2 : j < 2
          · have d1 : decide ((j : Int) < 2) = true := by simp; omega
            have d2 : decide (j < 2) = true := by simp; omega
            go_wp2_with fail
            refine (awake3_c _).mono ?_
            rintro e u20 ⟨rfl, hb20⟩
            go_wp2_with fail
            go_ret
            exact ⟨rfl, bon hbr hb20⟩
          · have d1 : decide ((j : Int) < 2) = false := by simp; omega
            have d2 : decide (j < 2) = false := by simp; omega
            go_wp2_with fail
            refine C2'.out.mono ?_
            rintro e u21 ⟨rfl, hb21⟩
            go_wp2_with fail
            refine (awake3_c _).mono ?_
            rintro e u20 ⟨rfl, hb20⟩
            go_wp2_with fail
            go_ret
            exact ⟨rfl, bon (bon hbr hb21) hb20⟩
    case true =>
      replace hsp : risB L0 = false := hsp
      have C1 := Lib.hid (HRB.out _ _ _ _ _ _ hrt hT ht61)
      have C2 := Lib.hid (fun W (hH : Below w.heap.size w W) => HRB.out _ _ _ _ _ _ (rdl W hH) hsp hN61)
      have C3 := Lib.hid (fun W (hH : Below w.heap.size w W) => HRB.out _ _ _ _ _ _ (rdf W hH) h1 hk61)
      have C4 := Lib.hid (fun W (hH : Below w.heap.size w W) => HRB.out _ _ _ _ _ _ (rdb W hH) h2 hd61)
      have HS := Lib.hid hsp
      replace hbb := Below.drew hbb
      clear hrt rdl rdf rdb hf7 hck HT h1 h2 hT hsp HRB HR HSP
      go_wp2_with fail
      refine wp_region_noPanic ?_
      refine wp_region_held_drew (S := fun w' => Below w.heap.size w w') (by kernel_rfl) hbb (fun hHeld => ?_)
      refine wpAnyH_take (i := 0) (oi := { dst := some 50, op := Op.move (Operand.tmp 6), type := 25, pos := "outright.go:76", after := #[], guard := none }) (v := ?v12) rfl (by kernel_rfl) (by kernel_rfl) (by kernel_rfl) (fun _ _ _ h => h) (Or.inl ⟨by rfl, ?hy12⟩) (by assumption) ?rest12
      case hy12 => (intro w hSw; (try dsimp only at hSw); go_simp; try with_reducible rfl)
      try simp only [Act.put, List.setIfInBounds_toArray, List.set_cons_zero, List.set_cons_succ]
      refine wpAnyH_ready (rs := [1]) (by kernel_rfl) (by simp) ?_
      refine AllReadyH.cons (o := { dst := some 51, op := Op.call { callee := Callee.value (Operand.func 19), args := #[Operand.tmp 50], argTypes := #[25] }, type := 4, pos := "outright.go:76", after := #[{ on := 0, ground := Ground.data }], guard := none }) rfl (fun K hK => ?_) AllReadyH.nil
      go_simp
      refine (C1.out).mono ?_
      rintro e u1 ⟨rfl, hb⟩
      replace hbb := bon hbb hb
      clear hb
      go_wp2_with fail
      clear hHeld
      refine hK.out _ _ hbb (fun hHeld => ?_)
      clear hK K
      try simp only [Act.put, List.setIfInBounds_toArray, List.set_cons_zero, List.set_cons_succ]
      refine wpAnyH_take (i := 2) (oi := { dst := some 52, op := Op.move (Operand.tmp 51), type := 4, pos := "outright.go:76", after := #[{ on := 1, ground := Ground.data }, { on := 1, ground := Ground.chain }], guard := none }) (v := ?v13) rfl (by kernel_rfl) (by kernel_rfl) (by kernel_rfl) (fun _ _ _ h => h) (Or.inl ⟨by rfl, ?hy13⟩) (by assumption) ?rest13
      case hy13 => (intro w hSw; (try dsimp only at hSw); go_simp; try with_reducible rfl)
      try simp only [Act.put, List.setIfInBounds_toArray, List.set_cons_zero, List.set_cons_succ]
      refine wpAnyH_take (i := 3) (oi := { dst := some 53, op := Op.move (Operand.tmp 0), type := 25, pos := "outright.go:76", after := #[{ on := 2, ground := Ground.guard }], guard := some (2, false) }) (v := ?v14) rfl (by kernel_rfl) (by kernel_rfl) (by kernel_rfl) (fun _ _ _ h => h) (Or.inl ⟨by rfl, ?hy14⟩) (by assumption) ?rest14
      case hy14 => (intro w hSw; (try dsimp only at hSw); go_simp; try with_reducible rfl)
      try simp only [Act.put, List.setIfInBounds_toArray, List.set_cons_zero, List.set_cons_succ]
      refine wpAnyH_take (i := 5) (oi := { dst := some 55, op := Op.move (Operand.tmp 0), type := 25, pos := "outright.go:76", after := #[{ on := 2, ground := Ground.guard }], guard := some (2, false) }) (v := ?v15) rfl (by kernel_rfl) (by kernel_rfl) (by kernel_rfl) (fun _ _ _ h => h) (Or.inl ⟨by rfl, ?hy15⟩) (by assumption) ?rest15
      case hy15 => (intro w hSw; (try dsimp only at hSw); go_simp; try with_reducible rfl)
      try simp only [Act.put, List.setIfInBounds_toArray, List.set_cons_zero, List.set_cons_succ]
      refine wpAnyH_take (i := 6) (oi := { dst := some 56, op := Op.move (Operand.tmp 5), type := 3, pos := "outright.go:76", after := #[{ on := 2, ground := Ground.guard }], guard := some (2, false) }) (v := ?v16) rfl (by kernel_rfl) (by kernel_rfl) (by kernel_rfl) (fun _ _ _ h => h) (Or.inl ⟨by rfl, ?hy16⟩) (by assumption) ?rest16
      case hy16 => (intro w hSw; (try dsimp only at hSw); go_simp; try with_reducible rfl)
      try simp only [Act.put, List.setIfInBounds_toArray, List.set_cons_zero, List.set_cons_succ]
      refine wpAnyH_take (i := 7) (oi := { dst := some 57, op := Op.binOp BinOp.add 3 (Operand.tmp 56) (Operand.const (Value.int IntKind.i64 1)) 3, type := 3, pos := "outright.go:76", after := #[{ on := 6, ground := Ground.data }, { on := 2, ground := Ground.guard }], guard := some (2, false) }) (v := ?v17) rfl (by kernel_rfl) (by kernel_rfl) (by kernel_rfl) (fun _ _ _ h => h) (Or.inl ⟨by rfl, ?hy17⟩) (by assumption) ?rest17
      case hy17 => (intro w hSw; (try dsimp only at hSw); go_simp; try with_reducible rfl)
      try simp only [Act.put, List.setIfInBounds_toArray, List.set_cons_zero, List.set_cons_succ]
      refine wpAnyH_take (i := 8) (oi := { dst := some 58, op := Op.slice 25 (Operand.tmp 55) none (some (Operand.tmp 57)) none, type := 25, pos := "outright.go:76", after := #[{ on := 5, ground := Ground.data }, { on := 7, ground := Ground.data }, { on := 2, ground := Ground.guard }], guard := some (2, false) }) (v := ?v18) rfl (by kernel_rfl) (by kernel_rfl) (by kernel_rfl) (fun _ _ _ h => h) (Or.inl ⟨by rfl, ?hy18⟩) (by assumption) ?rest18
      case hy18 => (intro w hSw; (try dsimp only at hSw); go_simp; try with_reducible rfl)
      try simp only [Act.put, List.setIfInBounds_toArray, List.set_cons_zero, List.set_cons_succ]
      refine wpAnyH_ready (rs := [4]) (by kernel_rfl) (by simp) ?_
      refine AllReadyH.cons (o := { dst := some 54, op := Op.call { callee := Callee.value (Operand.func 19), args := #[Operand.tmp 53], argTypes := #[25] }, type := 4, pos := "outright.go:76", after := #[{ on := 3, ground := Ground.data }, { on := 2, ground := Ground.chain }, { on := 2, ground := Ground.guard }], guard := some (2, false) }) rfl (fun K hK => ?_) AllReadyH.nil
      go_simp
      refine (C2.out _ hbb).mono ?_
      rintro e u4 ⟨rfl, hb⟩
      replace hbb := bon hbb hb
      clear hb
      go_wp2_with fail
      clear hHeld
      refine hK.out _ _ hbb (fun hHeld => ?_)
      clear hK K
      try simp only [Act.put, List.setIfInBounds_toArray, List.set_cons_zero, List.set_cons_succ]
      refine wpAnyH_ready (rs := [9]) (by kernel_rfl) (by simp) ?_
      refine AllReadyH.cons (o := { dst := some 59, op := Op.call { callee := Callee.value (Operand.func 19), args := #[Operand.tmp 58], argTypes := #[25] }, type := 4, pos := "outright.go:76", after := #[{ on := 8, ground := Ground.data }, { on := 4, ground := Ground.chain }, { on := 2, ground := Ground.guard }], guard := some (2, false) }) rfl (fun K hK => ?_) AllReadyH.nil
      go_simp
      refine (C3.out _ hbb).mono ?_
      rintro e u9 ⟨rfl, hb⟩
      replace hbb := bon hbb hb
      clear hb
      go_wp2_with fail
      clear hHeld
      refine hK.out _ _ hbb (fun hHeld => ?_)
      clear hK K
      try simp only [Act.put, List.setIfInBounds_toArray, List.set_cons_zero, List.set_cons_succ]
      refine wpAnyH_take (i := 10) (oi := { dst := some 60, op := Op.move (Operand.tmp 59), type := 4, pos := "outright.go:76", after := #[{ on := 9, ground := Ground.data }, { on := 9, ground := Ground.chain }, { on := 2, ground := Ground.guard }], guard := some (2, false) }) (v := ?v19) rfl (by kernel_rfl) (by kernel_rfl) (by kernel_rfl) (fun _ _ _ h => h) (Or.inl ⟨by rfl, ?hy19⟩) (by assumption) ?rest19
      case hy19 => (intro w hSw; (try dsimp only at hSw); go_simp; try with_reducible rfl)
      try simp only [Act.put, List.setIfInBounds_toArray, List.set_cons_zero, List.set_cons_succ]
      refine wpAnyH_take (i := 11) (oi := { dst := some 61, op := Op.move (Operand.tmp 0), type := 25, pos := "outright.go:76", after := #[{ on := 10, ground := Ground.guard }], guard := some (10, true) }) (v := undef) rfl (by kernel_rfl) (by kernel_rfl) (by kernel_rfl) (fun _ _ _ h => h) (Or.inr ⟨by rfl, rfl⟩) (by assumption) ?_
      try simp only [Act.put, List.setIfInBounds_toArray, List.set_cons_zero, List.set_cons_succ]
      refine wpAnyH_take (i := 12) (oi := { dst := some 62, op := Op.move (Operand.tmp 5), type := 3, pos := "outright.go:76", after := #[{ on := 10, ground := Ground.guard }], guard := some (10, true) }) (v := undef) rfl (by kernel_rfl) (by kernel_rfl) (by kernel_rfl) (fun _ _ _ h => h) (Or.inr ⟨by rfl, rfl⟩) (by assumption) ?_
      try simp only [Act.put, List.setIfInBounds_toArray, List.set_cons_zero, List.set_cons_succ]
      refine wpAnyH_take (i := 13) (oi := { dst := some 63, op := Op.slice 25 (Operand.tmp 61) (some (Operand.tmp 62)) none none, type := 25, pos := "outright.go:76", after := #[{ on := 11, ground := Ground.data }, { on := 12, ground := Ground.data }, { on := 10, ground := Ground.guard }], guard := some (10, true) }) (v := undef) rfl (by kernel_rfl) (by kernel_rfl) (by kernel_rfl) (fun _ _ _ h => h) (Or.inr ⟨by rfl, rfl⟩) (by assumption) ?_
      try simp only [Act.put, List.setIfInBounds_toArray, List.set_cons_zero, List.set_cons_succ]
      refine wpAnyH_take (i := 14) (oi := { dst := some 64, op := Op.call { callee := Callee.value (Operand.func 19), args := #[Operand.tmp 63], argTypes := #[25] }, type := 4, pos := "outright.go:76", after := #[{ on := 13, ground := Ground.data }, { on := 10, ground := Ground.chain }, { on := 10, ground := Ground.guard }], guard := some (10, true) }) (v := undef) rfl (by kernel_rfl) (by kernel_rfl) (by kernel_rfl) (fun _ _ _ h => h) (Or.inr ⟨by rfl, rfl⟩) (by assumption) ?_
      try simp only [Act.put, List.setIfInBounds_toArray, List.set_cons_zero, List.set_cons_succ]
      refine wpAnyH_take (i := 15) (oi := { dst := some 65, op := Op.pick (Operand.tmp 60) (Operand.tmp 64) (Operand.const (Value.bool false)), type := 4, pos := "outright.go:76", after := #[{ on := 10, ground := Ground.data }, { on := 14, ground := Ground.data }, { on := 2, ground := Ground.guard }], guard := some (2, false) }) (v := ?v20) rfl (by kernel_rfl) (by kernel_rfl) (by kernel_rfl) (fun _ _ _ h => h) (Or.inl ⟨by rfl, ?hy20⟩) (by assumption) ?rest20
      case hy20 => (intro w hSw; (try dsimp only at hSw); go_simp; try with_reducible rfl)
      try simp only [Act.put, List.setIfInBounds_toArray, List.set_cons_zero, List.set_cons_succ]
      refine wpAnyH_take (i := 16) (oi := { dst := some 66, op := Op.binOp BinOp.neq 4 (Operand.tmp 54) (Operand.tmp 65) 4, type := 4, pos := "outright.go:76", after := #[{ on := 4, ground := Ground.data }, { on := 15, ground := Ground.data }, { on := 2, ground := Ground.guard }], guard := some (2, false) }) (v := ?v21) rfl (by kernel_rfl) (by kernel_rfl) (by kernel_rfl) (fun _ _ _ h => h) (Or.inl ⟨by rfl, ?hy21⟩) (by assumption) ?rest21
      case hy21 => (intro w hSw; (try dsimp only at hSw); go_simp; try with_reducible rfl)
      try simp only [Act.put, List.setIfInBounds_toArray, List.set_cons_zero, List.set_cons_succ]
      refine wpAnyH_take (i := 17) (oi := { dst := some 67, op := Op.pick (Operand.tmp 52) (Operand.const (Value.bool true)) (Operand.tmp 66), type := 4, pos := "outright.go:76", after := #[{ on := 2, ground := Ground.data }, { on := 16, ground := Ground.data }], guard := none }) (v := ?v22) rfl (by kernel_rfl) (by kernel_rfl) (by kernel_rfl) (fun _ _ _ h => h) (Or.inl ⟨by rfl, ?hy22⟩) (by assumption) ?rest22
      case hy22 => (intro w hSw; (try dsimp only at hSw); go_simp; try with_reducible rfl)
      try simp only [Act.put, List.setIfInBounds_toArray, List.set_cons_zero, List.set_cons_succ]
      refine wpAnyH_done (by kernel_rfl) ?_ _
      refine NoPanic.normal ?_
      clear hHeld
      go_wp2_with fail
      go_loopw [70, 7] (fun iv bv wr => ∃ (j : Nat) (A : Option Addr) (c : Nat), iv = .int .i64 (j : Int) ∧ bv = .slice A j c ∧ j ≤ n0 ∧ FrE wr w.heap.size A j c (L0.reverse.take j) ∧ Below w.heap.size w wr) (fun iv _ _ => ((n0 : Int) - intOf iv).toNat)
      case atStart => exact ⟨0, none, 0, rfl, rfl, by omega, by simpa using FrE.nil, hbb⟩
      case round =>
        obtain ⟨j, Aj, cj, rfl, rfl, hj, hfj, hbr⟩ := hrel
        by_cases hlt : j < n0
        · obtain ⟨m, hm⟩ : ∃ m, m = n0 - 1 - j := ⟨_, rfl⟩
          obtain ⟨b', off', hA', hbB', hcell⟩ := r0.form (by omega)
          cases hA'
          have hll := HL.out
          obtain ⟨y, hy⟩ : ∃ y, L0[m]? = some y := ⟨L0[m]'(by omega), List.getElem?_eq_getElem _⟩
          obtain ⟨y0, y1, y2, y3⟩ := hcell m y hy
          have hk (i : Nat) : wr.cell? ⟨b, i, none⟩ = w.cell? ⟨b, i, none⟩ := hbr.cell hbB
          rw [← hk] at y0 y1 y2 y3
          have hji : (j : Int) < (n0 : Int) := by omega
          have hmi : (m : Int) < (n0 : Int) := by omega
          have hm0 : (0 : Int) ≤ (m : Int) := by omega
          have hw2 : IntKind.i64.wrap ((n0 : Int) - 1) = (n0 : Int) - 1 := wrapi _ (by omega) (by omega)
          have hw3 : IntKind.i64.wrap ((n0 : Int) - 1 - (j : Int)) = (m : Int) := by rw [wrapi _ (by omega) (by omega)]; omega
          have hnext : L0.reverse.take j ++ [y] = L0.reverse.take (j + 1) := by
            have : L0.reverse[j]? = some y := by rw [List.getElem?_reverse (by omega), hll, show n0 - 1 - j = m by omega]; exact hy
            rw [List.take_add_one, this]; rfl
          have HNX := Lib.hid hnext
          have HJ := Lib.hid hj
          have HM := Lib.hid hm
          clear hcell hk hy hnext hll hm
          go_wp2_with (at_builtin; refine wpList_appE rfl (.tmp 73) (.tmp 82) rfl rfl (hfj.alloc (.cells #[.string y.s, .int .u64 (y.q : Int), .int .u8 (y.k : Int), .string y.v] 29)) rfl ((FrE.one wr y (b := 0) (g := wr.heap.size) rfl (Nat.zero_le _)).rd (Nat.le_refl _)) (by omega) (by have := hbr.size; simp; omega) ?_; intro A9 c9 w9 hap9)
          go_roundw
          case rel =>
            refine ⟨j + 1, A9, c9, by simp, rfl, by omega, by rw [← HNX.out]; exact hap9.fr, ?_⟩
            exact (hbr.alloc hbr.size _).trans hap9.below
          case measure => simp [intOf]; omega
        · have hji : ¬ (j : Int) < (n0 : Int) := by omega
          obtain rfl : j = n0 := by omega
          have hfb : FrE wr w.heap.size Aj j cj L0.reverse := by
            have := hfj
            rwa [List.take_of_length_le (by rw [List.length_reverse, HL.out]; exact Nat.le_refl _)] at this
          clear hfj
          have C2' := Lib.hid (HRB2.out wr _ _ _ L0 _ ((r0.below hbr (Nat.le_refl _)).more hbr.size) HS.out (by omega))
          by_cases h2 : j < 2
          · have d1 : decide ((j : Int) < 2) = true := by simp; omega
            have d2 : decide (j < 2) = true := by simp; omega
            go_wp2_with fail
            refine (awake3_c _).mono ?_
            rintro e u20 ⟨rfl, hb20⟩
            go_wp2_with fail
            go_ret
            exact ⟨rfl, bon hbr hb20⟩
          · have d1 : decide ((j : Int) < 2) = false := by simp; omega
            have d2 : decide (j < 2) = false := by simp; omega
            go_wp2_with fail
            refine C2'.out.mono ?_
            rintro e u21 ⟨rfl, hb21⟩
            go_wp2_with fail
            refine (awake3_c _).mono ?_
            rintro e u20 ⟨rfl, hb20⟩
            go_wp2_with fail
            go_ret
            exact ⟨rfl, bon (bon hbr hb21) hb20⟩
  case true =>
    cases e2
    case false =>
      replace hsp : risB L0 = false := hsp
      have C1 := Lib.hid (HRB.out _ _ _ _ _ _ hrt hT ht61)
      have C2 := Lib.hid (fun W (hH : Below w.heap.size w W) => HRB.out _ _ _ _ _ _ (rdl W hH) hsp hN61)
      have C3 := Lib.hid (fun W (hH : Below w.heap.size w W) => HRB.out _ _ _ _ _ _ (rdf W hH) h1 hk61)
      have C4 := Lib.hid (fun W (hH : Below w.heap.size w W) => HRB.out _ _ _ _ _ _ (rdb W hH) h2 hd61)
      have HS := Lib.hid hsp
      replace hbb := Below.drew hbb
      clear hrt rdl rdf rdb hf7 hck HT h1 h2 hT hsp HRB HR HSP
      go_wp2_with fail
      refine wp_region_noPanic ?_
      refine wp_region_held_drew (S := fun w' => Below w.heap.size w w') (by kernel_rfl) hbb (fun hHeld => ?_)
      refine wpAnyH_take (i := 0) (oi := { dst := some 50, op := Op.move (Operand.tmp 6), type := 25, pos := "outright.go:76", after := #[], guard := none }) (v := ?v23) rfl (by kernel_rfl) (by kernel_rfl) (by kernel_rfl) (fun _ _ _ h => h) (Or.inl ⟨by rfl, ?hy23⟩) (by assumption) ?rest23
      case hy23 => (intro w hSw; (try dsimp only at hSw); go_simp; try with_reducible rfl)
      try simp only [Act.put, List.setIfInBounds_toArray, List.set_cons_zero, List.set_cons_succ]
      refine wpAnyH_ready (rs := [1]) (by kernel_rfl) (by simp) ?_
      refine AllReadyH.cons (o := { dst := some 51, op := Op.call { callee := Callee.value (Operand.func 19), args := #[Operand.tmp 50], argTypes := #[25] }, type := 4, pos := "outright.go:76", after := #[{ on := 0, ground := Ground.data }], guard := none }) rfl (fun K hK => ?_) AllReadyH.nil
      go_simp
      refine (C1.out).mono ?_
      rintro e u1 ⟨rfl, hb⟩
      replace hbb := bon hbb hb
      clear hb
      go_wp2_with fail
      clear hHeld
      refine hK.out _ _ hbb (fun hHeld => ?_)
      clear hK K
      try simp only [Act.put, List.setIfInBounds_toArray, List.set_cons_zero, List.set_cons_succ]
      refine wpAnyH_take (i := 2) (oi := { dst := some 52, op := Op.move (Operand.tmp 51), type := 4, pos := "outright.go:76", after := #[{ on := 1, ground := Ground.data }, { on := 1, ground := Ground.chain }], guard := none }) (v := ?v24) rfl (by kernel_rfl) (by kernel_rfl) (by kernel_rfl) (fun _ _ _ h => h) (Or.inl ⟨by rfl, ?hy24⟩) (by assumption) ?rest24
      case hy24 => (intro w hSw; (try dsimp only at hSw); go_simp; try with_reducible rfl)
      try simp only [Act.put, List.setIfInBounds_toArray, List.set_cons_zero, List.set_cons_succ]
      refine wpAnyH_take (i := 3) (oi := { dst := some 53, op := Op.move (Operand.tmp 0), type := 25, pos := "outright.go:76", after := #[{ on := 2, ground := Ground.guard }], guard := some (2, false) }) (v := ?v25) rfl (by kernel_rfl) (by kernel_rfl) (by kernel_rfl) (fun _ _ _ h => h) (Or.inl ⟨by rfl, ?hy25⟩) (by assumption) ?rest25
      case hy25 => (intro w hSw; (try dsimp only at hSw); go_simp; try with_reducible rfl)
      try simp only [Act.put, List.setIfInBounds_toArray, List.set_cons_zero, List.set_cons_succ]
      refine wpAnyH_take (i := 5) (oi := { dst := some 55, op := Op.move (Operand.tmp 0), type := 25, pos := "outright.go:76", after := #[{ on := 2, ground := Ground.guard }], guard := some (2, false) }) (v := ?v26) rfl (by kernel_rfl) (by kernel_rfl) (by kernel_rfl) (fun _ _ _ h => h) (Or.inl ⟨by rfl, ?hy26⟩) (by assumption) ?rest26
      case hy26 => (intro w hSw; (try dsimp only at hSw); go_simp; try with_reducible rfl)
      try simp only [Act.put, List.setIfInBounds_toArray, List.set_cons_zero, List.set_cons_succ]
      refine wpAnyH_take (i := 6) (oi := { dst := some 56, op := Op.move (Operand.tmp 5), type := 3, pos := "outright.go:76", after := #[{ on := 2, ground := Ground.guard }], guard := some (2, false) }) (v := ?v27) rfl (by kernel_rfl) (by kernel_rfl) (by kernel_rfl) (fun _ _ _ h => h) (Or.inl ⟨by rfl, ?hy27⟩) (by assumption) ?rest27
      case hy27 => (intro w hSw; (try dsimp only at hSw); go_simp; try with_reducible rfl)
      try simp only [Act.put, List.setIfInBounds_toArray, List.set_cons_zero, List.set_cons_succ]
      refine wpAnyH_take (i := 7) (oi := { dst := some 57, op := Op.binOp BinOp.add 3 (Operand.tmp 56) (Operand.const (Value.int IntKind.i64 1)) 3, type := 3, pos := "outright.go:76", after := #[{ on := 6, ground := Ground.data }, { on := 2, ground := Ground.guard }], guard := some (2, false) }) (v := ?v28) rfl (by kernel_rfl) (by kernel_rfl) (by kernel_rfl) (fun _ _ _ h => h) (Or.inl ⟨by rfl, ?hy28⟩) (by assumption) ?rest28
      case hy28 => (intro w hSw; (try dsimp only at hSw); go_simp; try with_reducible rfl)
      try simp only [Act.put, List.setIfInBounds_toArray, List.set_cons_zero, List.set_cons_succ]
      refine wpAnyH_take (i := 8) (oi := { dst := some 58, op := Op.slice 25 (Operand.tmp 55) none (some (Operand.tmp 57)) none, type := 25, pos := "outright.go:76", after := #[{ on := 5, ground := Ground.data }, { on := 7, ground := Ground.data }, { on := 2, ground := Ground.guard }], guard := some (2, false) }) (v := ?v29) rfl (by kernel_rfl) (by kernel_rfl) (by kernel_rfl) (fun _ _ _ h => h) (Or.inl ⟨by rfl, ?hy29⟩) (by assumption) ?rest29
      case hy29 => (intro w hSw; (try dsimp only at hSw); go_simp; try with_reducible rfl)
      try simp only [Act.put, List.setIfInBounds_toArray, List.set_cons_zero, List.set_cons_succ]
      refine wpAnyH_ready (rs := [4]) (by kernel_rfl) (by simp) ?_
      refine AllReadyH.cons (o := { dst := some 54, op := Op.call { callee := Callee.value (Operand.func 19), args := #[Operand.tmp 53], argTypes := #[25] }, type := 4, pos := "outright.go:76", after := #[{ on := 3, ground := Ground.data }, { on := 2, ground := Ground.chain }, { on := 2, ground := Ground.guard }], guard := some (2, false) }) rfl (fun K hK => ?_) AllReadyH.nil
      go_simp
      refine (C2.out _ hbb).mono ?_
      rintro e u4 ⟨rfl, hb⟩
      replace hbb := bon hbb hb
      clear hb
      go_wp2_with fail
      clear hHeld
      refine hK.out _ _ hbb (fun hHeld => ?_)
      clear hK K
      try simp only [Act.put, List.setIfInBounds_toArray, List.set_cons_zero, List.set_cons_succ]
      refine wpAnyH_ready (rs := [9]) (by kernel_rfl) (by simp) ?_
      refine AllReadyH.cons (o := { dst := some 59, op := Op.call { callee := Callee.value (Operand.func 19), args := #[Operand.tmp 58], argTypes := #[25] }, type := 4, pos := "outright.go:76", after := #[{ on := 8, ground := Ground.data }, { on := 4, ground := Ground.chain }, { on := 2, ground := Ground.guard }], guard := some (2, false) }) rfl (fun K hK => ?_) AllReadyH.nil
      go_simp
      refine (C3.out _ hbb).mono ?_
      rintro e u9 ⟨rfl, hb⟩
      replace hbb := bon hbb hb
      clear hb
      go_wp2_with fail
      clear hHeld
      refine hK.out _ _ hbb (fun hHeld => ?_)
      clear hK K
      try simp only [Act.put, List.setIfInBounds_toArray, List.set_cons_zero, List.set_cons_succ]
      refine wpAnyH_take (i := 10) (oi := { dst := some 60, op := Op.move (Operand.tmp 59), type := 4, pos := "outright.go:76", after := #[{ on := 9, ground := Ground.data }, { on := 9, ground := Ground.chain }, { on := 2, ground := Ground.guard }], guard := some (2, false) }) (v := ?v30) rfl (by kernel_rfl) (by kernel_rfl) (by kernel_rfl) (fun _ _ _ h => h) (Or.inl ⟨by rfl, ?hy30⟩) (by assumption) ?rest30
      case hy30 => (intro w hSw; (try dsimp only at hSw); go_simp; try with_reducible rfl)
      try simp only [Act.put, List.setIfInBounds_toArray, List.set_cons_zero, List.set_cons_succ]
      refine wpAnyH_take (i := 11) (oi := { dst := some 61, op := Op.move (Operand.tmp 0), type := 25, pos := "outright.go:76", after := #[{ on := 10, ground := Ground.guard }], guard := some (10, true) }) (v := ?v31) rfl (by kernel_rfl) (by kernel_rfl) (by kernel_rfl) (fun _ _ _ h => h) (Or.inl ⟨by rfl, ?hy31⟩) (by assumption) ?rest31
      case hy31 => (intro w hSw; (try dsimp only at hSw); go_simp; try with_reducible rfl)
      try simp only [Act.put, List.setIfInBounds_toArray, List.set_cons_zero, List.set_cons_succ]
      refine wpAnyH_take (i := 12) (oi := { dst := some 62, op := Op.move (Operand.tmp 5), type := 3, pos := "outright.go:76", after := #[{ on := 10, ground := Ground.guard }], guard := some (10, true) }) (v := ?v32) rfl (by kernel_rfl) (by kernel_rfl) (by kernel_rfl) (fun _ _ _ h => h) (Or.inl ⟨by rfl, ?hy32⟩) (by assumption) ?rest32
      case hy32 => (intro w hSw; (try dsimp only at hSw); go_simp; try with_reducible rfl)
      try simp only [Act.put, List.setIfInBounds_toArray, List.set_cons_zero, List.set_cons_succ]
      refine wpAnyH_take (i := 13) (oi := { dst := some 63, op := Op.slice 25 (Operand.tmp 61) (some (Operand.tmp 62)) none none, type := 25, pos := "outright.go:76", after := #[{ on := 11, ground := Ground.data }, { on := 12, ground := Ground.data }, { on := 10, ground := Ground.guard }], guard := some (10, true) }) (v := ?v33) rfl (by kernel_rfl) (by kernel_rfl) (by kernel_rfl) (fun _ _ _ h => h) (Or.inl ⟨by rfl, ?hy33⟩) (by assumption) ?rest33
      case hy33 => (intro w hSw; (try dsimp only at hSw); go_simp; try with_reducible rfl)
      try simp only [Act.put, List.setIfInBounds_toArray, List.set_cons_zero, List.set_cons_succ]
      refine wpAnyH_ready (rs := [14]) (by kernel_rfl) (by simp) ?_
      refine AllReadyH.cons (o := { dst := some 64, op := Op.call { callee := Callee.value (Operand.func 19), args := #[Operand.tmp 63], argTypes := #[25] }, type := 4, pos := "outright.go:76", after := #[{ on := 13, ground := Ground.data }, { on := 10, ground := Ground.chain }, { on := 10, ground := Ground.guard }], guard := some (10, true) }) rfl (fun K hK => ?_) AllReadyH.nil
      go_simp
      refine (C4.out _ hbb).mono ?_
      rintro e u14 ⟨rfl, hb⟩
      replace hbb := bon hbb hb
      clear hb
      go_wp2_with fail
      clear hHeld
      refine hK.out _ _ hbb (fun hHeld => ?_)
      clear hK K
      try simp only [Act.put, List.setIfInBounds_toArray, List.set_cons_zero, List.set_cons_succ]
      refine wpAnyH_take (i := 15) (oi := { dst := some 65, op := Op.pick (Operand.tmp 60) (Operand.tmp 64) (Operand.const (Value.bool false)), type := 4, pos := "outright.go:76", after := #[{ on := 10, ground := Ground.data }, { on := 14, ground := Ground.data }, { on := 2, ground := Ground.guard }], guard := some (2, false) }) (v := ?v34) rfl (by kernel_rfl) (by kernel_rfl) (by kernel_rfl) (fun _ _ _ h => h) (Or.inl ⟨by rfl, ?hy34⟩) (by assumption) ?rest34
      case hy34 => (intro w hSw; (try dsimp only at hSw); go_simp; try with_reducible rfl)
      try simp only [Act.put, List.setIfInBounds_toArray, List.set_cons_zero, List.set_cons_succ]
      refine wpAnyH_take (i := 16) (oi := { dst := some 66, op := Op.binOp BinOp.neq 4 (Operand.tmp 54) (Operand.tmp 65) 4, type := 4, pos := "outright.go:76", after := #[{ on := 4, ground := Ground.data }, { on := 15, ground := Ground.data }, { on := 2, ground := Ground.guard }], guard := some (2, false) }) (v := ?v35) rfl (by kernel_rfl) (by kernel_rfl) (by kernel_rfl) (fun _ _ _ h => h) (Or.inl ⟨by rfl, ?hy35⟩) (by assumption) ?rest35
      case hy35 => (intro w hSw; (try dsimp only at hSw); go_simp; try with_reducible rfl)
      try simp only [Act.put, List.setIfInBounds_toArray, List.set_cons_zero, List.set_cons_succ]
      refine wpAnyH_take (i := 17) (oi := { dst := some 67, op := Op.pick (Operand.tmp 52) (Operand.const (Value.bool true)) (Operand.tmp 66), type := 4, pos := "outright.go:76", after := #[{ on := 2, ground := Ground.data }, { on := 16, ground := Ground.data }], guard := none }) (v := ?v36) rfl (by kernel_rfl) (by kernel_rfl) (by kernel_rfl) (fun _ _ _ h => h) (Or.inl ⟨by rfl, ?hy36⟩) (by assumption) ?rest36
      case hy36 => (intro w hSw; (try dsimp only at hSw); go_simp; try with_reducible rfl)
      try simp only [Act.put, List.setIfInBounds_toArray, List.set_cons_zero, List.set_cons_succ]
      refine wpAnyH_done (by kernel_rfl) ?_ _
      refine NoPanic.normal ?_
      clear hHeld
      go_wp2_with fail
      go_loopw [70, 7] (fun iv bv wr => ∃ (j : Nat) (A : Option Addr) (c : Nat), iv = .int .i64 (j : Int) ∧ bv = .slice A j c ∧ j ≤ n0 ∧ FrE wr w.heap.size A j c (L0.reverse.take j) ∧ Below w.heap.size w wr) (fun iv _ _ => ((n0 : Int) - intOf iv).toNat)
      case atStart => exact ⟨0, none, 0, rfl, rfl, by omega, by simpa using FrE.nil, hbb⟩
      case round =>
        obtain ⟨j, Aj, cj, rfl, rfl, hj, hfj, hbr⟩ := hrel
        by_cases hlt : j < n0
        · obtain ⟨m, hm⟩ : ∃ m, m = n0 - 1 - j := ⟨_, rfl⟩
          obtain ⟨b', off', hA', hbB', hcell⟩ := r0.form (by omega)
          cases hA'
          have hll := HL.out
          obtain ⟨y, hy⟩ : ∃ y, L0[m]? = some y := ⟨L0[m]'(by omega), List.getElem?_eq_getElem _⟩
          obtain ⟨y0, y1, y2, y3⟩ := hcell m y hy
          have hk (i : Nat) : wr.cell? ⟨b, i, none⟩ = w.cell? ⟨b, i, none⟩ := hbr.cell hbB
          rw [← hk] at y0 y1 y2 y3
          have hji : (j : Int) < (n0 : Int) := by omega
          have hmi : (m : Int) < (n0 : Int) := by omega
          have hm0 : (0 : Int) ≤ (m : Int) := by omega
          have hw2 : IntKind.i64.wrap ((n0 : Int) - 1) = (n0 : Int) - 1 := wrapi _ (by omega) (by omega)
          have hw3 : IntKind.i64.wrap ((n0 : Int) - 1 - (j : Int)) = (m : Int) := by rw [wrapi _ (by omega) (by omega)]; omega
          have hnext : L0.reverse.take j ++ [y] = L0.reverse.take (j + 1) := by
            have : L0.reverse[j]? = some y := by rw [List.getElem?_reverse (by omega), hll, show n0 - 1 - j = m by omega]; exact hy
            rw [List.take_add_one, this]; rfl
          have HNX := Lib.hid hnext
          have HJ := Lib.hid hj
          have HM := Lib.hid hm
          clear hcell hk hy hnext hll hm
          go_wp2_with (at_builtin; refine wpList_appE rfl (.tmp 73) (.tmp 82) rfl rfl (hfj.alloc (.cells #[.string y.s, .int .u64 (y.q : Int), .int .u8 (y.k : Int), .string y.v] 29)) rfl ((FrE.one wr y (b := 0) (g := wr.heap.size) rfl (Nat.zero_le _)).rd (Nat.le_refl _)) (by omega) (by have := hbr.size; simp; omega) ?_; intro A9 c9 w9 hap9)
          go_roundw
          case rel =>
            refine ⟨j + 1, A9, c9, by simp, rfl, by omega, by rw [← HNX.out]; exact hap9.fr, ?_⟩
            exact (hbr.alloc hbr.size _).trans hap9.below
          case measure => simp [intOf]; omega
        · have hji : ¬ (j : Int) < (n0 : Int) := by omega
          obtain rfl : j = n0 := by omega
          have hfb : FrE wr w.heap.size Aj j cj L0.reverse := by
            have := hfj
            rwa [List.take_of_length_le (by rw [List.length_reverse, HL.out]; exact Nat.le_refl _)] at this
          clear hfj
          have C2' := Lib.hid (HRB2.out wr _ _ _ L0 _ ((r0.below hbr (Nat.le_refl _)).more hbr.size) HS.out (by omega))
          by_cases h2 : j < 2
          · have d1 : decide ((j : Int) < 2) = true := by simp; omega
            have d2 : decide (j < 2) = true := by simp; omega
            go_wp2_with fail
            refine (awake3_c _).mono ?_
            rintro e u20 ⟨rfl, hb20⟩
            go_wp2_with fail
            go_ret
            exact ⟨rfl, bon hbr hb20⟩
          · have d1 : decide ((j : Int) < 2) = false := by simp; omega
            have d2 : decide (j < 2) = false := by simp; omega
            go_wp2_with fail
            refine C2'.out.mono ?_
            rintro e u21 ⟨rfl, hb21⟩
            go_wp2_with fail
            refine (awake3_c _).mono ?_
            rintro e u20 ⟨rfl, hb20⟩
            go_wp2_with fail
            go_ret
            exact ⟨rfl, bon (bon hbr hb21) hb20⟩
    case true =>
      replace hsp : risB L0 = true := hsp
      have C1 := Lib.hid (HRB.out _ _ _ _ _ _ hrt hT ht61)
      have C2 := Lib.hid (fun W (hH : Below w.heap.size w W) => HRB.out _ _ _ _ _ _ (rdl W hH) hsp hN61)
      have C3 := Lib.hid (fun W (hH : Below w.heap.size w W) => HRB.out _ _ _ _ _ _ (rdf W hH) h1 hk61)
      have C4 := Lib.hid (fun W (hH : Below w.heap.size w W) => HRB.out _ _ _ _ _ _ (rdb W hH) h2 hd61)
      have HS := Lib.hid hsp
      replace hbb := Below.drew hbb
      clear hrt rdl rdf rdb hf7 hck HT h1 h2 hT hsp HRB HR HSP
      go_wp2_with fail
      refine wp_region_noPanic ?_
      refine wp_region_held_drew (S := fun w' => Below w.heap.size w w') (by kernel_rfl) hbb (fun hHeld => ?_)
      refine wpAnyH_take (i := 0) (oi := { dst := some 50, op := Op.move (Operand.tmp 6), type := 25, pos := "outright.go:76", after := #[], guard := none }) (v := ?v37) rfl (by kernel_rfl) (by kernel_rfl) (by kernel_rfl) (fun _ _ _ h => h) (Or.inl ⟨by rfl, ?hy37⟩) (by assumption) ?rest37
      case hy37 => (intro w hSw; (try dsimp only at hSw); go_simp; try with_reducible rfl)
      try simp only [Act.put, List.setIfInBounds_toArray, List.set_cons_zero, List.set_cons_succ]
      refine wpAnyH_ready (rs := [1]) (by kernel_rfl) (by simp) ?_
      refine AllReadyH.cons (o := { dst := some 51, op := Op.call { callee := Callee.value (Operand.func 19), args := #[Operand.tmp 50], argTypes := #[25] }, type := 4, pos := "outright.go:76", after := #[{ on := 0, ground := Ground.data }], guard := none }) rfl (fun K hK => ?_) AllReadyH.nil
      go_simp
      refine (C1.out).mono ?_
      rintro e u1 ⟨rfl, hb⟩
      replace hbb := bon hbb hb
      clear hb
      go_wp2_with fail
      clear hHeld
      refine hK.out _ _ hbb (fun hHeld => ?_)
      clear hK K
      try simp only [Act.put, List.setIfInBounds_toArray, List.set_cons_zero, List.set_cons_succ]
      refine wpAnyH_take (i := 2) (oi := { dst := some 52, op := Op.move (Operand.tmp 51), type := 4, pos := "outright.go:76", after := #[{ on := 1, ground := Ground.data }, { on := 1, ground := Ground.chain }], guard := none }) (v := ?v38) rfl (by kernel_rfl) (by kernel_rfl) (by kernel_rfl) (fun _ _ _ h => h) (Or.inl ⟨by rfl, ?hy38⟩) (by assumption) ?rest38
      case hy38 => (intro w hSw; (try dsimp only at hSw); go_simp; try with_reducible rfl)
      try simp only [Act.put, List.setIfInBounds_toArray, List.set_cons_zero, List.set_cons_succ]
      refine wpAnyH_take (i := 3) (oi := { dst := some 53, op := Op.move (Operand.tmp 0), type := 25, pos := "outright.go:76", after := #[{ on := 2, ground := Ground.guard }], guard := some (2, false) }) (v := ?v39) rfl (by kernel_rfl) (by kernel_rfl) (by kernel_rfl) (fun _ _ _ h => h) (Or.inl ⟨by rfl, ?hy39⟩) (by assumption) ?rest39
      case hy39 => (intro w hSw; (try dsimp only at hSw); go_simp; try with_reducible rfl)
      try simp only [Act.put, List.setIfInBounds_toArray, List.set_cons_zero, List.set_cons_succ]
      refine wpAnyH_take (i := 5) (oi := { dst := some 55, op := Op.move (Operand.tmp 0), type := 25, pos := "outright.go:76", after := #[{ on := 2, ground := Ground.guard }], guard := some (2, false) }) (v := ?v40) rfl (by kernel_rfl) (by kernel_rfl) (by kernel_rfl) (fun _ _ _ h => h) (Or.inl ⟨by rfl, ?hy40⟩) (by assumption) ?rest40
      case hy40 => (intro w hSw; (try dsimp only at hSw); go_simp; try with_reducible rfl)
      try simp only [Act.put, List.setIfInBounds_toArray, List.set_cons_zero, List.set_cons_succ]
      refine wpAnyH_take (i := 6) (oi := { dst := some 56, op := Op.move (Operand.tmp 5), type := 3, pos := "outright.go:76", after := #[{ on := 2, ground := Ground.guard }], guard := some (2, false) }) (v := ?v41) rfl (by kernel_rfl) (by kernel_rfl) (by kernel_rfl) (fun _ _ _ h => h) (Or.inl ⟨by rfl, ?hy41⟩) (by assumption) ?rest41
      case hy41 => (intro w hSw; (try dsimp only at hSw); go_simp; try with_reducible rfl)
      try simp only [Act.put, List.setIfInBounds_toArray, List.set_cons_zero, List.set_cons_succ]
      refine wpAnyH_take (i := 7) (oi := { dst := some 57, op := Op.binOp BinOp.add 3 (Operand.tmp 56) (Operand.const (Value.int IntKind.i64 1)) 3, type := 3, pos := "outright.go:76", after := #[{ on := 6, ground := Ground.data }, { on := 2, ground := Ground.guard }], guard := some (2, false) }) (v := ?v42) rfl (by kernel_rfl) (by kernel_rfl) (by kernel_rfl) (fun _ _ _ h => h) (Or.inl ⟨by rfl, ?hy42⟩) (by assumption) ?rest42
      case hy42 => (intro w hSw; (try dsimp only at hSw); go_simp; try with_reducible rfl)
      try simp only [Act.put, List.setIfInBounds_toArray, List.set_cons_zero, List.set_cons_succ]
      refine wpAnyH_take (i := 8) (oi := { dst := some 58, op := Op.slice 25 (Operand.tmp 55) none (some (Operand.tmp 57)) none, type := 25, pos := "outright.go:76", after := #[{ on := 5, ground := Ground.data }, { on := 7, ground := Ground.data }, { on := 2, ground := Ground.guard }], guard := some (2, false) }) (v := ?v43) rfl (by kernel_rfl) (by kernel_rfl) (by kernel_rfl) (fun _ _ _ h => h) (Or.inl ⟨by rfl, ?hy43⟩) (by assumption) ?rest43
      case hy43 => (intro w hSw; (try dsimp only at hSw); go_simp; try with_reducible rfl)
      try simp only [Act.put, List.setIfInBounds_toArray, List.set_cons_zero, List.set_cons_succ]
      refine wpAnyH_ready (rs := [4]) (by kernel_rfl) (by simp) ?_
      refine AllReadyH.cons (o := { dst := some 54, op := Op.call { callee := Callee.value (Operand.func 19), args := #[Operand.tmp 53], argTypes := #[25] }, type := 4, pos := "outright.go:76", after := #[{ on := 3, ground := Ground.data }, { on := 2, ground := Ground.chain }, { on := 2, ground := Ground.guard }], guard := some (2, false) }) rfl (fun K hK => ?_) AllReadyH.nil
      go_simp
      refine (C2.out _ hbb).mono ?_
      rintro e u4 ⟨rfl, hb⟩
      replace hbb := bon hbb hb
      clear hb
      go_wp2_with fail
      clear hHeld
      refine hK.out _ _ hbb (fun hHeld => ?_)
      clear hK K
      try simp only [Act.put, List.setIfInBounds_toArray, List.set_cons_zero, List.set_cons_succ]
      refine wpAnyH_ready (rs := [9]) (by kernel_rfl) (by simp) ?_
      refine AllReadyH.cons (o := { dst := some 59, op := Op.call { callee := Callee.value (Operand.func 19), args := #[Operand.tmp 58], argTypes := #[25] }, type := 4, pos := "outright.go:76", after := #[{ on := 8, ground := Ground.data }, { on := 4, ground := Ground.chain }, { on := 2, ground := Ground.guard }], guard := some (2, false) }) rfl (fun K hK => ?_) AllReadyH.nil
      go_simp
      refine (C3.out _ hbb).mono ?_
      rintro e u9 ⟨rfl, hb⟩
      replace hbb := bon hbb hb
      clear hb
      go_wp2_with fail
      clear hHeld
      refine hK.out _ _ hbb (fun hHeld => ?_)
      clear hK K
      try simp only [Act.put, List.setIfInBounds_toArray, List.set_cons_zero, List.set_cons_succ]
      refine wpAnyH_take (i := 10) (oi := { dst := some 60, op := Op.move (Operand.tmp 59), type := 4, pos := "outright.go:76", after := #[{ on := 9, ground := Ground.data }, { on := 9, ground := Ground.chain }, { on := 2, ground := Ground.guard }], guard := some (2, false) }) (v := ?v44) rfl (by kernel_rfl) (by kernel_rfl) (by kernel_rfl) (fun _ _ _ h => h) (Or.inl ⟨by rfl, ?hy44⟩) (by assumption) ?rest44
      case hy44 => (intro w hSw; (try dsimp only at hSw); go_simp; try with_reducible rfl)
      try simp only [Act.put, List.setIfInBounds_toArray, List.set_cons_zero, List.set_cons_succ]
      refine wpAnyH_take (i := 11) (oi := { dst := some 61, op := Op.move (Operand.tmp 0), type := 25, pos := "outright.go:76", after := #[{ on := 10, ground := Ground.guard }], guard := some (10, true) }) (v := ?v45) rfl (by kernel_rfl) (by kernel_rfl) (by kernel_rfl) (fun _ _ _ h => h) (Or.inl ⟨by rfl, ?hy45⟩) (by assumption) ?rest45
      case hy45 => (intro w hSw; (try dsimp only at hSw); go_simp; try with_reducible rfl)
      try simp only [Act.put, List.setIfInBounds_toArray, List.set_cons_zero, List.set_cons_succ]
      refine wpAnyH_take (i := 12) (oi := { dst := some 62, op := Op.move (Operand.tmp 5), type := 3, pos := "outright.go:76", after := #[{ on := 10, ground := Ground.guard }], guard := some (10, true) }) (v := ?v46) rfl (by kernel_rfl) (by kernel_rfl) (by kernel_rfl) (fun _ _ _ h => h) (Or.inl ⟨by rfl, ?hy46⟩) (by assumption) ?rest46
      case hy46 => (intro w hSw; (try dsimp only at hSw); go_simp; try with_reducible rfl)
      try simp only [Act.put, List.setIfInBounds_toArray, List.set_cons_zero, List.set_cons_succ]
      refine wpAnyH_take (i := 13) (oi := { dst := some 63, op := Op.slice 25 (Operand.tmp 61) (some (Operand.tmp 62)) none none, type := 25, pos := "outright.go:76", after := #[{ on := 11, ground := Ground.data }, { on := 12, ground := Ground.data }, { on := 10, ground := Ground.guard }], guard := some (10, true) }) (v := ?v47) rfl (by kernel_rfl) (by kernel_rfl) (by kernel_rfl) (fun _ _ _ h => h) (Or.inl ⟨by rfl, ?hy47⟩) (by assumption) ?rest47
      case hy47 => (intro w hSw; (try dsimp only at hSw); go_simp; try with_reducible rfl)
      try simp only [Act.put, List.setIfInBounds_toArray, List.set_cons_zero, List.set_cons_succ]
      refine wpAnyH_ready (rs := [14]) (by kernel_rfl) (by simp) ?_
      refine AllReadyH.cons (o := { dst := some 64, op := Op.call { callee := Callee.value (Operand.func 19), args := #[Operand.tmp 63], argTypes := #[25] }, type := 4, pos := "outright.go:76", after := #[{ on := 13, ground := Ground.data }, { on := 10, ground := Ground.chain }, { on := 10, ground := Ground.guard }], guard := some (10, true) }) rfl (fun K hK => ?_) AllReadyH.nil
      go_simp
      refine (C4.out _ hbb).mono ?_
      rintro e u14 ⟨rfl, hb⟩
      replace hbb := bon hbb hb
      clear hb
      go_wp2_with fail
      clear hHeld
      refine hK.out _ _ hbb (fun hHeld => ?_)
      clear hK K
      try simp only [Act.put, List.setIfInBounds_toArray, List.set_cons_zero, List.set_cons_succ]
      refine wpAnyH_take (i := 15) (oi := { dst := some 65, op := Op.pick (Operand.tmp 60) (Operand.tmp 64) (Operand.const (Value.bool false)), type := 4, pos := "outright.go:76", after := #[{ on := 10, ground := Ground.data }, { on := 14, ground := Ground.data }, { on := 2, ground := Ground.guard }], guard := some (2, false) }) (v := ?v48) rfl (by kernel_rfl) (by kernel_rfl) (by kernel_rfl) (fun _ _ _ h => h) (Or.inl ⟨by rfl, ?hy48⟩) (by assumption) ?rest48
      case hy48 => (intro w hSw; (try dsimp only at hSw); go_simp; try with_reducible rfl)
      try simp only [Act.put, List.setIfInBounds_toArray, List.set_cons_zero, List.set_cons_succ]
      refine wpAnyH_take (i := 16) (oi := { dst := some 66, op := Op.binOp BinOp.neq 4 (Operand.tmp 54) (Operand.tmp 65) 4, type := 4, pos := "outright.go:76", after := #[{ on := 4, ground := Ground.data }, { on := 15, ground := Ground.data }, { on := 2, ground := Ground.guard }], guard := some (2, false) }) (v := ?v49) rfl (by kernel_rfl) (by kernel_rfl) (by kernel_rfl) (fun _ _ _ h => h) (Or.inl ⟨by rfl, ?hy49⟩) (by assumption) ?rest49
      case hy49 => (intro w hSw; (try dsimp only at hSw); go_simp; try with_reducible rfl)
      try simp only [Act.put, List.setIfInBounds_toArray, List.set_cons_zero, List.set_cons_succ]
      refine wpAnyH_take (i := 17) (oi := { dst := some 67, op := Op.pick (Operand.tmp 52) (Operand.const (Value.bool true)) (Operand.tmp 66), type := 4, pos := "outright.go:76", after := #[{ on := 2, ground := Ground.data }, { on := 16, ground := Ground.data }], guard := none }) (v := ?v50) rfl (by kernel_rfl) (by kernel_rfl) (by kernel_rfl) (fun _ _ _ h => h) (Or.inl ⟨by rfl, ?hy50⟩) (by assumption) ?rest50
      case hy50 => (intro w hSw; (try dsimp only at hSw); go_simp; try with_reducible rfl)
      try simp only [Act.put, List.setIfInBounds_toArray, List.set_cons_zero, List.set_cons_succ]
      refine wpAnyH_done (by kernel_rfl) ?_ _
      refine NoPanic.normal ?_
      clear hHeld
      go_wp2_with fail
      go_loopw [70, 7] (fun iv bv wr => ∃ (j : Nat) (A : Option Addr) (c : Nat), iv = .int .i64 (j : Int) ∧ bv = .slice A j c ∧ j ≤ n0 ∧ FrE wr w.heap.size A j c (L0.reverse.take j) ∧ Below w.heap.size w wr) (fun iv _ _ => ((n0 : Int) - intOf iv).toNat)
      case atStart => exact ⟨0, none, 0, rfl, rfl, by omega, by simpa using FrE.nil, hbb⟩
      case round =>
        obtain ⟨j, Aj, cj, rfl, rfl, hj, hfj, hbr⟩ := hrel
        by_cases hlt : j < n0
        · obtain ⟨m, hm⟩ : ∃ m, m = n0 - 1 - j := ⟨_, rfl⟩
          obtain ⟨b', off', hA', hbB', hcell⟩ := r0.form (by omega)
          cases hA'
          have hll := HL.out
          obtain ⟨y, hy⟩ : ∃ y, L0[m]? = some y := ⟨L0[m]'(by omega), List.getElem?_eq_getElem _⟩
          obtain ⟨y0, y1, y2, y3⟩ := hcell m y hy
          have hk (i : Nat) : wr.cell? ⟨b, i, none⟩ = w.cell? ⟨b, i, none⟩ := hbr.cell hbB
          rw [← hk] at y0 y1 y2 y3
          have hji : (j : Int) < (n0 : Int) := by omega
          have hmi : (m : Int) < (n0 : Int) := by omega
          have hm0 : (0 : Int) ≤ (m : Int) := by omega
          have hw2 : IntKind.i64.wrap ((n0 : Int) - 1) = (n0 : Int) - 1 := wrapi _ (by omega) (by omega)
          have hw3 : IntKind.i64.wrap ((n0 : Int) - 1 - (j : Int)) = (m : Int) := by rw [wrapi _ (by omega) (by omega)]; omega
          have hnext : L0.reverse.take j ++ [y] = L0.reverse.take (j + 1) := by
            have : L0.reverse[j]? = some y := by rw [List.getElem?_reverse (by omega), hll, show n0 - 1 - j = m by omega]; exact hy
            rw [List.take_add_one, this]; rfl
          have HNX := Lib.hid hnext
          have HJ := Lib.hid hj
          have HM := Lib.hid hm
          clear hcell hk hy hnext hll hm
          go_wp2_with (at_builtin; refine wpList_appE rfl (.tmp 73) (.tmp 82) rfl rfl (hfj.alloc (.cells #[.string y.s, .int .u64 (y.q : Int), .int .u8 (y.k : Int), .string y.v] 29)) rfl ((FrE.one wr y (b := 0) (g := wr.heap.size) rfl (Nat.zero_le _)).rd (Nat.le_refl _)) (by omega) (by have := hbr.size; simp; omega) ?_; intro A9 c9 w9 hap9)
          go_roundw
          case rel =>
            refine ⟨j + 1, A9, c9, by simp, rfl, by omega, by rw [← HNX.out]; exact hap9.fr, ?_⟩
            exact (hbr.alloc hbr.size _).trans hap9.below
          case measure => simp [intOf]; omega
        · have hji : ¬ (j : Int) < (n0 : Int) := by omega
          obtain rfl : j = n0 := by omega
          have hfb : FrE wr w.heap.size Aj j cj L0.reverse := by
            have := hfj
            rwa [List.take_of_length_le (by rw [List.length_reverse, HL.out]; exact Nat.le_refl _)] at this
          clear hfj
          have C2' := Lib.hid (HRB2.out wr _ _ _ L0 _ ((r0.below hbr (Nat.le_refl _)).more hbr.size) HS.out (by omega))
          by_cases h2 : j < 2
          · have d1 : decide ((j : Int) < 2) = true := by simp; omega
            have d2 : decide (j < 2) = true := by simp; omega
            go_wp2_with fail
            refine (awake3_c _).mono ?_
            rintro e u20 ⟨rfl, hb20⟩
            go_wp2_with fail
            go_ret
            exact ⟨rfl, bon hbr hb20⟩
          · have d1 : decide ((j : Int) < 2) = false := by simp; omega
            have d2 : decide (j < 2) = false := by simp; omega
            go_wp2_with fail
            refine C2'.out.mono ?_
            rintro e u21 ⟨rfl, hb21⟩
            go_wp2_with fail
            have hrb := ris_back (L := L0) (by rw [HL.out]; omega) HS.out
            refine (HRB2.out _ _ _ _ _ _ ((hfb.below hb21).rd (Nat.le_refl _)) hrb (by omega)).mono ?_
            rintro e u22 ⟨rfl, hb22⟩
            go_wp2_with fail
            refine (awake3_c _).mono ?_
            rintro e u20 ⟨rfl, hb20⟩
            go_wp2_with fail
            go_ret
            exact ⟨rfl, bon (bon (bon hbr hb21) hb22) hb20⟩

set_option maxRecDepth 100000 in
theorem lifted (os : Os) (started : os.Started) (H : Type) (enc : TypeId × Value → H) :
    ReturnsInHanded {} Try.checked os 7 .any (Rows.ikeyRisingSpec.pre6 enc Try.prog Try.f7 Rows.ikeyRisingRow.domain false) (Rows.ikeyRisingSpec.post enc Try.prog Try.f7 false true false false) := by
  refine returnsInHanded_of_change (C := Try.checked) own started (by kernel_rfl) Try.func7
    (ChangeSpec.witness6 (enc := enc) (C := Try.checked) false ⟨#[], #[.slice none 0 0, .int .u8 0], []⟩ 8 (by kernel_rfl) (by kernel_rfl) (by kernel_rfl) (by kernel_rfl)) ?_
  intro W base args ds gs before hval0 hW hcnd _
  have hval : ∀ (j : Nat) t v, Try.f7.params[j]? = some t → args[j]? = some v → Value.okWide Try.prog W .any base t v := hval0
  have hW' := hW
  obtain ⟨p, q, hA0, hV, rfl, hfz, hnd⟩ := hW
  have hA : DataW.TrodAll enc Try.prog W 0 (fun _ => true) true Try.f7.params.toList args.toList ds p := hA0
  rw [Try.params7] at hA hval
  obtain ⟨v0, vs0, d0, ds0, p0, q0_, hargs, rfl, rfl, h0, r0_⟩ := trodAll_cons hA
  obtain ⟨v1, vs1, d1, ds1, p1, q1_, rfl, rfl, rfl, h1, r1_⟩ := trodAll_cons r0_
  obtain ⟨rfl, rfl, rfl⟩ := trodAll_nil r1_
  obtain rfl : args = #[v0, v1] := by cases args; simp_all
  obtain ⟨rfl, rfl⟩ := trodVars_none hV
  have kk0 := h0
  have lt0 : ∀ x ∈ p0, x.block < W.heap.size := by obtain ⟨m, hm⟩ := kk0; exact DataW.trod_lt m _ _ _ hm
  have kk1 := h1
  have lt1 : ∀ x ∈ p1, x.block < W.heap.size := by obtain ⟨m, hm⟩ := kk1; exact DataW.trod_lt m _ _ _ hm
  obtain ⟨A0, n0, c0, L0, e0, r0, o0⟩ := open_ents h0 (hval 0 _ v0 rfl rfl)
  subst e0
  obtain ⟨a1, e1, _, _, w1⟩ := open_int Try.underlying5 (hval 1 _ v1 rfl rfl) h1
  subst e1
  replace w1 := bounds_u8 w1
  obtain ⟨a1, rfl⟩ := Int.eq_ofNat_of_zero_le w1.1
  clear hA0 hval0
  refine (walk A0 n0 c0 L0 a1 W r0 o0 w1.2).mono fun e W' ⟨he, bel⟩ => ?_
  subst he
  exact ⟨_, rfl, _, _, _, [], _, [], hW', trodAll_mk1 (shut_bool Try.underlying4 _), (trodAll_cons_mk (Below.trod laidOut (by kernel_rfl) (of_decide_eq_true (by kernel_rfl)) kk0 bel lt0) (trodAll_cons_mk (Below.trod laidOut (by kernel_rfl) (of_decide_eq_true (by kernel_rfl)) kk1 bel lt1) trodAll_mk0)), rfl, bel.frame _, fun h => by cases h⟩

theorem over : Rows.ikeyRisingRow.holds Try.pinned (OpenSpec.ofChange Rows.ikeyRisingSpec) :=
  OpenClaim.holds_of_wide 7 Try.f7 rfl rfl rfl rfl rfl rfl rfl ⟨rfl, rfl, rfl, rfl, rfl⟩ rfl rfl rfl rfl rfl (by kernel_rfl) Try.func7 (by kernel_rfl)
    (of_decide_eq_true (by kernel_rfl)) (by unfold Func.isWrapper; first | (rw [if_pos (by decide +kernel)]; kernel_rfl) | (rw [if_neg (by decide +kernel)]; exact ⟨rfl, rfl⟩))
    (fun os started H enc _ => lifted os started H enc)

/-- The statement. -/
theorem proved : Rows.IkeyRisingSaid := over
#print axioms proved
end Go.Proofs.Ytobfdhnaejfehaa.ikeyRising
