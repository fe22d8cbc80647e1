/-
  BatchEntries: entries of right operations, of sequences that may be, are right, one for each, with sequences that go on by one; no two have the same internal key; those of two groups, one behind the other, are those of each: for every input.
-/
import Derived.Test.YtaodmenieigbmaaRows
import Derived.Test.YtaodmenieigbmaaBtA
import Derived.WalkKit
import Derived.ProofKit
import Derived.OpenShut
import Derived.ShutString
import Derived.ChangeOld
import Derived.Below
import Derived.Deep.RegionHeld3
import Derived.Deep.QuietTactic
import Derived.BigQuiet
namespace Go.Proofs.Ytaodmenieigbmaa.batchEntries
open Go.ChangeShapes Go.WideShapes Go.ChangeAt Go.RowKit
open Go.ChangeMaps (open_string shut_string)
set_option linter.unusedVariables false

theorem own : ownKnob Try.prog.godebug = none := by kernel_rfl
theorem laidOut : laidOutB Try.prog = true := by kernel_rfl

/-- An entry lies in block b. -/
structure EnAt (w : World) (b : Nat) (x : Ent) : Prop where
  lt : b < w.heap.size
  h : w.heap[b]? = some (.cells #[.string x.s, .int .u64 (x.q : Int), .int .u8 (x.k : Int), .string x.v] 46 (0, 0))
section
variable {w w' : World} {b : Nat} {x : Ent}
theorem EnAt.cells (h : EnAt w b x) : w.cell? ⟨b, 0, none⟩ = some (.string x.s) ∧ w.cell? ⟨b, 1, none⟩ = some (.int .u64 (x.q : Int)) ∧ w.cell? ⟨b, 2, none⟩ = some (.int .u8 (x.k : Int)) ∧ w.cell? ⟨b, 3, none⟩ = some (.string x.v) := by
  refine ⟨?_, ?_, ?_, ?_⟩ <;> (simp only [World.cell?, h.h]; rfl)
theorem EnAt.new (w : World) (x : Ent) : EnAt (w.alloc (.cells #[.string x.s, .int .u64 (x.q : Int), .int .u8 (x.k : Int), .string x.v] 46)) w.heap.size x := ⟨by simp, heap_alloc_new w _⟩
theorem EnAt.alloc (h : EnAt w b x) (o : Obj) : EnAt (w.alloc o) b x := ⟨by have := h.lt; simp; omega, by rw [Go.heap_alloc_old w o h.lt]; exact h.h⟩
theorem EnAt.below {B : Nat} (h : EnAt w b x) (hb : Below B w w') (hB : w.heap.size ≤ B) : EnAt w' b x :=
  ⟨by have := h.lt; have := hb.size; omega, by rw [hb.block b (by have := h.lt; omega)]; exact h.h⟩
end
theorem ents_apart {f i k : Nat} {x y : Bop} (h : i < k) (hk : k ≤ 60) : (entAt f i x).q ≠ (entAt f k y).q := by
  unfold entAt
  dsimp only
  omega
theorem eq_key_no (W : World) {x y : Ent} (h : x.q ≠ y.q) : (Op.equalIn 10000 44 (.agg #[.string x.s, .int .u64 (x.q : Int), .int .u8 (x.k : Int)]) (.agg #[.string y.s, .int .u64 (y.q : Int), .int .u8 (y.k : Int)])).run Try.prog W = .ok false W :=
  (run_eq_key W 9998 x y).trans (by simp [h])

set_option maxRecDepth 100000 in
set_option maxHeartbeats 8000000 in
theorem walk (A0 : Option Addr) (n0 c0 : Nat) (L0 : List Bop) (A1 : Option Addr) (n1 c1 : Nat) (L1 : List Bop) (a2 : Nat) (w : World) (r0 : RdO w w.heap.size A0 n0 c0 L0) (r1 : RdO w w.heap.size A1 n1 c1 L1) (w2 : (a2 : Int) ≤ 18446744073709551615) :
    Calls Try.prog 5 #[.slice A0 n0 c0, .slice A1 n1 c1, .int .u64 (a2 : Int)] w fun e w' => e = .returned (.bool true) ∧ Below w.heap.size w w' := by
  have hl0 := r0.len
  have hl1 := r1.len
  have HF0 := Lib.hid (few_c r0 (Nat.le_refl _) 60)
  have HF1 := Lib.hid (fun W (hW : Below w.heap.size w W) => few_c ((r1.below hW (Nat.le_refl _)).more hW.size) (Nat.le_refl _) 60)
  have HFN := Lib.hid (fun (h : fewB L0 60 = true) => show n0 ≤ 60 by unfold fewB at h; simp at h; omega)
  have HFN1 := Lib.hid (fun (h : fewB L1 60 = true) => show n1 ≤ 60 by unfold fewB at h; simp at h; omega)
  go_enter Try.func5, Try.ntmps5
  go_wp2_with fail
  refine HF0.out.mono ?_
  rintro e w2 ⟨rfl, hg⟩
  cases hf0 : fewB L0 60 with
  | false =>
    go_wp2_with fail
    refine (awake4_c _).mono ?_
    rintro e w99 ⟨rfl, hb99⟩
    go_wp2_with fail
    go_ret
    exact ⟨rfl, bon hg hb99⟩
  | true =>
    have hn0 := HFN.out hf0
    clear hf0 HF0 HFN
    go_wp2_with fail
    refine (HF1.out _ hg).mono ?_
    rintro e w3 ⟨rfl, hb3⟩
    replace hg := bon hg hb3
    clear hb3
    cases hf1 : fewB L1 60 with
    | false =>
      go_wp2_with fail
      refine (awake4_c _).mono ?_
      rintro e w99 ⟨rfl, hb99⟩
      go_wp2_with fail
      go_ret
      exact ⟨rfl, bon hg hb99⟩
    | true =>
      have hn1 := HFN1.out hf1
      have hn0i : (n0 : Int) ≤ 60 := by omega
      have hn1i : (n1 : Int) ≤ 60 := by omega
      clear hf1 HF1 HFN1
      have HE := Lib.hid (entries_c ((r0.below hg (Nat.le_refl _)).more hg.size) (Nat.le_refl _) (by omega) a2)
      go_wp2_with fail
      refine HE.out.mono ?_
      rintro e w4 ⟨A4, n4, c4, rfl, hf4, hb4⟩
      obtain rfl : n0 = n4 := by have := hf4.len; rw [entsL_len] at this; omega
      have hx4 := hf4.here
      have hg4 := bon hg hb4
      have r04 := (r0.below hg4 (Nat.le_refl _)).more hg4.size
      have dne : ((n0 : Int) != (n0 : Int)) = false := by simp
      clear HE hf4 hb4
      go_wp2_with fail
      go_loopw [32] (fun iv wr => ∃ k : Nat, iv = .int .i64 (k : Int) ∧ k ≤ n0 ∧ Below w4.heap.size w4 wr) (fun iv _ => ((n0 : Int) - intOf iv).toNat)
      case atStart => exact ⟨0, rfl, Nat.zero_le _, Below.refl _ _⟩
      case round =>
        obtain ⟨k, rfl, hkn, hbr⟩ := hrel
        by_cases hlt : k < n0
        · clear r0 r1 hg hg4
          obtain ⟨b, off, hA, hbB, hcell⟩ := r04.form (by omega)
          subst hA
          obtain ⟨b', off', hA', hbB', hcx⟩ := hx4.form (by omega)
          subst hA'
          obtain ⟨x, hx⟩ : ∃ x, L0[k]? = some x := ⟨L0[k]'(by omega), List.getElem?_eq_getElem _⟩
          obtain ⟨Q, hQ, hQ2⟩ : ∃ Q : Nat, IntKind.u64.wrap ((a2 : Int) + (k : Int)) = (Q : Int) ∧ Q = (entAt a2 k x).q := ⟨_, by rw [wrapu]; unfold entAt; simp only; omega, rfl⟩
          have hye : (⟨x.s, Q, x.k, x.v⟩ : Ent) = entAt a2 k x := by rw [hQ2]; rfl
          obtain ⟨z0, z1, z2⟩ := hcell k x hx
          obtain ⟨y0, y1, y2, y3⟩ := hcx k ⟨x.s, Q, x.k, x.v⟩ (by rw [entsL_get, hx, hye]; rfl)
          have hkr (b i : Nat) (hb : b < w4.heap.size) : wr.cell? ⟨b, i, none⟩ = w4.cell? ⟨b, i, none⟩ := hbr.cell hb
          rw [← hkr _ _ hbB'] at y0 y1 y2 y3
          have hki : (k : Int) < (n0 : Int) := by omega
          have hk0 : (0 : Int) ≤ (k : Int) := by omega
          have hw1 : IntKind.u64.wrap (k : Int) = (k : Int) := by rw [wrapu]; omega
          have hsx := fun W => run_slice_hi_en (n := n0) (A := some ⟨b', off', none⟩) (c := c4) .i64 (k := k) (by have := hx4.cap; omega) W
          have HBZ := Lib.hid (blit hbr (.cells #[.string x.s, .int .u64 (Q : Int), .int .u8 (x.k : Int), .string x.v] 46))
          have HI9 := Lib.hid (EnAt.new wr ⟨x.s, Q, x.k, x.v⟩)
          have HCX := Lib.hid hcx
          have HQ2 := Lib.hid hQ2
          have HL0 := Lib.hid (show n0 ≤ L0.length by omega)
          have HXC := Lib.hid (show ∀ W, Below w4.heap.size w4 W → (W.cell? ⟨b, off + k * 3, none⟩ = some (.int .u8 (x.k : Int)) ∧ W.cell? ⟨b, off + k * 3 + 1, none⟩ = some (.string x.s) ∧ W.cell? ⟨b, off + k * 3 + 2, none⟩ = some (.string x.v)) from fun W hW => ⟨(hW.cell hbB).trans z0, (hW.cell hbB).trans z1, (hW.cell hbB).trans z2⟩)
          have HOP := Lib.hid (fun W => op_c W x)
          have HEN := Lib.hid (fun W => entry_c W x.s Q x.k x.v)
          have hent : (a2 : Int) ≤ 72057594037927875 → entryB x.s Q x.k x.v = opB x := fun h => entryB_op x (by rw [hQ2]; unfold entAt; simp only; omega)
          have HENT := Lib.hid hent
          unfold ov at HOP
          unfold en at HEN
          clear hcell hcx hx z0 z1 z2 hye hkr hQ2 hbB hbr hent r04 hx4
          go_wp2_with fail
          generalize hwz : wr.alloc (.cells #[.string x.s, .int .u64 (Q : Int), .int .u8 (x.k : Int), .string x.v] 46) = wz at *
          generalize hgz : wr.heap.size = gz at *
          clear hwz hgz y0 y1 y2 y3
          obtain ⟨e0, e1, e2, e3⟩ := HI9.out.cells
          obtain ⟨x0, x1, x2⟩ := HXC.out wz HBZ.out
          have HSK := Lib.hid (show ∀ W, Below wz.heap.size wz W → (Below wz.heap.size wz W ∧ (W.cell? ⟨gz, 0, none⟩ = some (.string x.s) ∧ W.cell? ⟨gz, 1, none⟩ = some (.int .u64 (Q : Int)) ∧ W.cell? ⟨gz, 2, none⟩ = some (.int .u8 (x.k : Int)) ∧ W.cell? ⟨gz, 3, none⟩ = some (.string x.v)) ∧ W.cell? ⟨b, off + k * 3, none⟩ = some (.int .u8 (x.k : Int)) ∧ W.cell? ⟨b, off + k * 3 + 1, none⟩ = some (.string x.s) ∧ W.cell? ⟨b, off + k * 3 + 2, none⟩ = some (.string x.v)) from fun W hW => ⟨hW, (HI9.out.below hW (Nat.le_refl _)).cells, HXC.out W (bon HBZ.out hW)⟩)
          go_quiet (fail)
          go_wp2_with fail
          by_cases hq : (a2 : Int) ≤ 72057594037927875
          · have dq : decide ((a2 : Int) ≤ 72057594037927875) = true := by simpa using hq
            have he := HENT.out hq
            rw [he] at HEN
            generalize opB x = ob at HOP HEN
            have hst : Below wz.heap.size wz (wz.drewN nq).drew := Below.drew (below_drewN (Below.refl _ _) nq)
            clear hq he HENT e0 e1 e2 e3 x0 x1 x2
            cases ob
            all_goals
              go_region_held3 (fun w' => Below wz.heap.size wz w' ∧ (w'.cell? ⟨gz, 0, none⟩ = some (.string x.s) ∧ w'.cell? ⟨gz, 1, none⟩ = some (.int .u64 (Q : Int)) ∧ w'.cell? ⟨gz, 2, none⟩ = some (.int .u8 (x.k : Int)) ∧ w'.cell? ⟨gz, 3, none⟩ = some (.string x.v)) ∧ w'.cell? ⟨b, off + k * 3, none⟩ = some (.int .u8 (x.k : Int)) ∧ w'.cell? ⟨b, off + k * 3 + 1, none⟩ = some (.string x.s) ∧ w'.cell? ⟨b, off + k * 3 + 2, none⟩ = some (.string x.v))
                ((first | assumption | exact HSK.out _ (by assumption) | exact HSK.out _ (bon (And.left (by assumption)) (by assumption))))
                (first | (go_at_call 10; refine (HOP.out _).mono ?_; rintro e u1 ⟨rfl, hbu1⟩) | (go_at_call 24; refine (HEN.out _).mono ?_; rintro e u2 ⟨rfl, hbu2⟩))
              all_goals
                have hbz := And.left (by assumption : Below wz.heap.size wz _ ∧ _)
                clear dq
                go_wp2_with fail
                go_loopw [93] (fun jv wr2 => ∃ j : Nat, jv = .int .i64 (j : Int) ∧ j ≤ k ∧ Below wz.heap.size wz wr2) (fun jv _ => ((k : Int) - intOf jv).toNat)
                case atStart => exact ⟨0, rfl, Nat.zero_le _, hbz⟩
                case round =>
                  obtain ⟨j, rfl, hjk, hbj⟩ := hrel
                  by_cases hjlt : j < k
                  · obtain ⟨z, hz⟩ : ∃ z, L0[j]? = some z := ⟨L0[j]'(by have := HL0.out; omega), List.getElem?_eq_getElem _⟩
                    obtain ⟨v0, v1, v2, v3⟩ := HCX.out j (entAt a2 j z) (by rw [entsL_get, hz]; rfl)
                    have hbw := bon HBZ.out hbj
                    have hk2 (i : Nat) : wr.cell? ⟨b', i, none⟩ = w4.cell? ⟨b', i, none⟩ := hbw.cell hbB'
                    rw [← hk2] at v0 v1 v2 v3
                    have hji : (j : Int) < (k : Int) := by omega
                    have hj0 : (0 : Int) ≤ (j : Int) := by omega
                    have hE := fun W => eq_key_no W (x := entAt a2 j z) (y := ⟨x.s, Q, x.k, x.v⟩) (by have := ents_apart (f := a2) (x := z) (y := x) hjlt (by omega); rw [HQ2.out]; exact this)
                    generalize hez : entAt a2 j z = ez at *
                    obtain ⟨e0, e1, e2, e3⟩ := ((HI9.out.below hbj (Nat.le_refl _)).alloc (.cells #[.string ez.s, .int .u64 (ez.q : Int), .int .u8 (ez.k : Int), .string ez.v] 46)).cells
                    have HBJ := Lib.hid hbj
                    clear hez hk2 hz hbj hbw
                    go_wp2_with fail
                    go_roundw
                    case rel => exact ⟨j + 1, by simp, by omega, blit HBJ.out _⟩
                    case measure => simp [intOf]; omega
                  · have hji : ¬ (j : Int) < (k : Int) := by omega
                    have HBW := Lib.hid (bon HBZ.out hbj)
                    clear hbj
                    go_wp2_with fail
                    go_roundw
                    case rel => exact ⟨k + 1, by simp, by omega, HBW.out⟩
                    case measure => simp [intOf]; omega
          · have dq : decide ((a2 : Int) ≤ 72057594037927875) = false := by simp; omega
            clear hq HENT
            go_quiet (fail)
            clear dq e0 e1 e2 e3 x0 x1 x2
            go_wp2_with fail
            go_loopw [93] (fun jv wr2 => ∃ j : Nat, jv = .int .i64 (j : Int) ∧ j ≤ k ∧ Below wz.heap.size wz wr2) (fun jv _ => ((k : Int) - intOf jv).toNat)
            case atStart => first | exact ⟨0, rfl, Nat.zero_le _, below_drewN (below_drewN (Below.refl _ _) _) _⟩ | exact ⟨0, rfl, Nat.zero_le _, below_drewN (Below.refl _ _) _⟩
            case round =>
              obtain ⟨j, rfl, hjk, hbj⟩ := hrel
              by_cases hjlt : j < k
              · obtain ⟨z, hz⟩ : ∃ z, L0[j]? = some z := ⟨L0[j]'(by have := HL0.out; omega), List.getElem?_eq_getElem _⟩
                obtain ⟨v0, v1, v2, v3⟩ := HCX.out j (entAt a2 j z) (by rw [entsL_get, hz]; rfl)
                have hbw := bon HBZ.out hbj
                have hk2 (i : Nat) : wr.cell? ⟨b', i, none⟩ = w4.cell? ⟨b', i, none⟩ := hbw.cell hbB'
                rw [← hk2] at v0 v1 v2 v3
                have hji : (j : Int) < (k : Int) := by omega
                have hj0 : (0 : Int) ≤ (j : Int) := by omega
                have hE := fun W => eq_key_no W (x := entAt a2 j z) (y := ⟨x.s, Q, x.k, x.v⟩) (by have := ents_apart (f := a2) (x := z) (y := x) hjlt (by omega); rw [HQ2.out]; exact this)
                generalize hez : entAt a2 j z = ez at *
                obtain ⟨e0, e1, e2, e3⟩ := ((HI9.out.below hbj (Nat.le_refl _)).alloc (.cells #[.string ez.s, .int .u64 (ez.q : Int), .int .u8 (ez.k : Int), .string ez.v] 46)).cells
                have HBJ := Lib.hid hbj
                clear hez hk2 hz hbj hbw
                go_wp2_with fail
                go_roundw
                case rel => exact ⟨j + 1, by simp, by omega, blit HBJ.out _⟩
                case measure => simp [intOf]; omega
              · have hji : ¬ (j : Int) < (k : Int) := by omega
                have HBW := Lib.hid (bon HBZ.out hbj)
                clear hbj
                go_wp2_with fail
                go_roundw
                case rel => exact ⟨k + 1, by simp, by omega, HBW.out⟩
                case measure => simp [intOf]; omega
        · have hki : ¬ (k : Int) < (n0 : Int) := by omega
          obtain ⟨Q, hQ, hQ2⟩ : ∃ Q : Nat, IntKind.u64.wrap ((a2 : Int) + (n0 : Int)) = (Q : Int) ∧ Q = (a2 + L0.length) % 18446744073709551616 := ⟨_, by rw [wrapu, hl0]; omega, rfl⟩
          have hw1 : IntKind.u64.wrap (n0 : Int) = (n0 : Int) := by rw [wrapu]; omega
          have hsame : sameEs (entsL (L0 ++ L1) a2) (entsL L0 a2 ++ entsL L1 Q) = true := sameEs_iff.2 (by rw [hQ2]; exact entsL_app L0 L1 a2)
          have HSAME := Lib.hid hsame
          have hgw := bon hg4 hbr
          have HL := Lib.hid (show L0.length + L1.length ≤ 120 by omega)
          have ho1 := (r1.below hgw (Nat.le_refl _)).more hgw.size
          replace hx := hx4.now hbr
          replace hl := r04.now hbr
          have HGW := Lib.hid hgw
          clear hsame hQ2 hbr hg4 r04 hx4 hgw r0 r1 hg
          go_wp2_with (first | (at_builtin; refine wpList_appO rfl (.tmp 104) (.tmp 105) rfl rfl (FrO.zero wr (b := wr.heap.size) (g := wr.heap.size) rfl (Nat.le_refl _)) rfl (hl.lay _) (by omega) (by simp) ?_; intro A8 c8 w8 hap8; have hb8 := (below_alloc wr (.cells #[] 28)).trans hap8.below; have hf8 : FrO w8 wr.heap.size A8 n0 c8 L0 := (by simpa using hap8.fr)) | (at_builtin; refine wpList_appO rfl (.tmp 106) (.tmp 107) rfl rfl hf8 rfl (ho1.now hb8) (by omega) hb8.size ?_; intro A9 c9 w9 hap9; have hb9 := hb8.trans hap9.below))
          have HE1 := Lib.hid (entries_c hap9.fr.here (Nat.le_refl _) (by omega) a2)
          replace hx := hx.now hb9
          replace ho1 := ho1.now hb9
          have hgw := bon HGW.out hb9
          clear hb8 hf8 hap8 hap9 hb9 hl HGW
          refine HE1.out.mono ?_
          rintro e w10 ⟨A10, n10, c10, rfl, hf10, hb10⟩
          have hbo := hf10.here
          replace hx := hx.now hb10
          replace ho1 := ho1.now hb10
          replace hgw := bon hgw hb10
          clear hf10 hb10 HE1
          have HGW := Lib.hid hgw
          have HO1 := Lib.hid ho1
          have HBO := Lib.hid hbo
          clear hgw ho1 hbo
          go_wp2_with (at_builtin; refine wpList_appE rfl (.tmp 112) (.tmp 113) rfl rfl (FrE.zero w10 (b := w10.heap.size) (g := w10.heap.size) rfl (Nat.le_refl _)) rfl (hx.lay _) (by omega) (by simp) ?_; intro A11 c11 w11 hap11; have hb11 := (below_alloc w10 (.cells #[] 46)).trans hap11.below; have hf11 : FrE w11 w10.heap.size A11 n0 c11 (entsL L0 a2) := (by simpa using hap11.fr); clear hap11)
          have HE2 := Lib.hid (entries_c (HO1.out.now hb11) (Nat.le_refl _) (by omega) Q)
          refine HE2.out.mono ?_
          rintro e w12 ⟨A12, n12, c12, rfl, hf12, hb12⟩
          have hf13 := hf11.below hb12
          have hb12' := bon hb11 hb12
          have hn12 : n12 ≤ 60 := by have := hf12.len; rw [entsL_len] at this; omega
          clear HE2 hx hf11 hb11
          go_wp2_with (at_builtin; refine wpList_appE rfl (.tmp 114) (.tmp 121) rfl rfl hf13 rfl hf12.here (by omega) hb12'.size ?_; intro A13 c13 w13 hap13; have hb13 := hb12'.trans hap13.below; have hf14 := hap13.fr; clear hap13)
          have hbo := HBO.out.now hb13
          have hlb := hbo.len
          rw [entsL_len, List.length_append] at hlb
          have HS := Lib.hid (sameE_c hbo hf14.here (by have := HL.out; omega) (by omega))
          rw [HSAME.out] at HS
          replace HGW := Lib.hid (bon HGW.out hb13)
          clear hbo hlb hb13 hf14 hf13 hf12 hb12 hb12'
          refine HS.out.mono ?_
          intro e w14 hq
          obtain ⟨rfl, hb14⟩ := hq.below
          have hgx := bon HGW.out hb14
          clear hq hb14 HS
          go_wp2_with fail
          refine (awake4_c _).mono ?_
          rintro e w99 ⟨rfl, hb99⟩
          go_wp2_with fail
          go_ret
          exact ⟨rfl, bon hgx hb99⟩

set_option maxRecDepth 100000 in
theorem lifted (os : Os) (started : os.Started) (H : Type) (enc : TypeId × Value → H) :
    ReturnsInHanded {} Try.checked os 5 .any (Rows.batchEntriesSpec.pre6 enc Try.prog Try.f5 Rows.batchEntriesRow.domain false) (Rows.batchEntriesSpec.post enc Try.prog Try.f5 false true false false) := by
  refine returnsInHanded_of_change (C := Try.checked) own started (by kernel_rfl) Try.func5
    (ChangeSpec.witness6 (enc := enc) (C := Try.checked) false ⟨#[], #[.slice none 0 0, .slice none 0 0, .int .u64 0], []⟩ 8 (by kernel_rfl) (by kernel_rfl) (by kernel_rfl) (by kernel_rfl)) ?_
  intro W base args ds gs before hval0 hW hcnd _
  have hval : ∀ (j : Nat) t v, Try.f5.params[j]? = some t → args[j]? = some v → Value.okWide Try.prog W .any base t v := hval0
  have hW' := hW
  obtain ⟨p, q, hA0, hV, rfl, hfz, hnd⟩ := hW
  have hA : DataW.TrodAll enc Try.prog W 0 (fun _ => true) true Try.f5.params.toList args.toList ds p := hA0
  rw [Try.params5] at hA hval
  obtain ⟨v0, vs0, d0, ds0, p0, q0_, hargs, rfl, rfl, h0, r0_⟩ := trodAll_cons hA
  obtain ⟨v1, vs1, d1, ds1, p1, q1_, rfl, rfl, rfl, h1, r1_⟩ := trodAll_cons r0_
  obtain ⟨v2, vs2, d2, ds2, p2, q2_, rfl, rfl, rfl, h2, r2_⟩ := trodAll_cons r1_
  obtain ⟨rfl, rfl, rfl⟩ := trodAll_nil r2_
  obtain rfl : args = #[v0, v1, v2] := by cases args; simp_all
  obtain ⟨rfl, rfl⟩ := trodVars_none hV
  have kk0 := h0
  have lt0 : ∀ x ∈ p0, x.block < W.heap.size := by obtain ⟨m, hm⟩ := kk0; exact DataW.trod_lt m _ _ _ hm
  have kk1 := h1
  have lt1 : ∀ x ∈ p1, x.block < W.heap.size := by obtain ⟨m, hm⟩ := kk1; exact DataW.trod_lt m _ _ _ hm
  have kk2 := h2
  have lt2 : ∀ x ∈ p2, x.block < W.heap.size := by obtain ⟨m, hm⟩ := kk2; exact DataW.trod_lt m _ _ _ hm
  obtain ⟨A0, n0, c0, L0, e0, r0, o0⟩ := open_ops h0 (hval 0 _ v0 rfl rfl)
  subst e0
  obtain ⟨A1, n1, c1, L1, e1, r1, o1⟩ := open_ops h1 (hval 1 _ v1 rfl rfl)
  subst e1
  obtain ⟨a2, e2, _, _, w2⟩ := open_int Try.underlying24 (hval 2 _ v2 rfl rfl) h2
  subst e2
  replace w2 := bounds_u64 w2
  obtain ⟨a2, rfl⟩ := Int.eq_ofNat_of_zero_le w2.1
  clear hA0 hval0
  refine (walk A0 n0 c0 L0 A1 n1 c1 L1 a2 W r0 r1 w2.2).mono fun e W' ⟨he, bel⟩ => ?_
  subst he
  exact ⟨_, rfl, _, _, _, [], _, [], hW', trodAll_mk1 (shut_bool Try.underlying4 _), (trodAll_cons_mk (Below.trod laidOut (by kernel_rfl) (of_decide_eq_true (by kernel_rfl)) kk0 bel lt0) (trodAll_cons_mk (Below.trod laidOut (by kernel_rfl) (of_decide_eq_true (by kernel_rfl)) kk1 bel lt1) (trodAll_cons_mk (Below.trod laidOut (by kernel_rfl) (of_decide_eq_true (by kernel_rfl)) kk2 bel lt2) trodAll_mk0))), rfl, bel.frame _, fun h => by cases h⟩

theorem over : Rows.batchEntriesRow.holds Try.pinned (OpenSpec.ofChange Rows.batchEntriesSpec) :=
  OpenClaim.holds_of_wide 5 Try.f5 rfl rfl rfl rfl rfl rfl rfl ⟨rfl, rfl, rfl, rfl, rfl⟩ rfl rfl rfl rfl rfl (by kernel_rfl) Try.func5 (by kernel_rfl)
    (of_decide_eq_true (by kernel_rfl)) (by unfold Func.isWrapper; first | (rw [if_pos (by decide +kernel)]; kernel_rfl) | (rw [if_neg (by decide +kernel)]; exact ⟨rfl, rfl⟩))
    (fun os started H enc _ => lifted os started H enc)

/-- The statement. -/
theorem proved : Rows.BatchEntriesSaid := over
#print axioms proved
end Go.Proofs.Ytaodmenieigbmaa.batchEntries
