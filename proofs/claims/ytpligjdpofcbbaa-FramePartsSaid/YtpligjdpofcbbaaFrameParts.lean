/-
  FrameParts: frames one behind the other are taken one by one, each as it was, in their order, till there are none any more. No condition.
-/
import Derived.Test.YtpligjdpofcbbaaRows
import Derived.Test.YtpligjdpofcbbaaFrR
import Derived.WalkKit
import Derived.ProofKit
import Derived.OpenShut
import Derived.ShutString
import Derived.ChangeOld
import Derived.Below
import Derived.Lib.MinMax
import Derived.Deep.Slices
namespace Go.Proofs.Ytpligjdpofcbbaa.frameParts
open Go.ChangeShapes Go.WideShapes Go.ChangeAt Go.RowKit
open Go.ChangeMaps (open_string shut_string)
set_option linter.unusedVariables false

theorem own : ownKnob Try.prog.godebug = none := by kernel_rfl
theorem laidOut : laidOutB Try.prog = true := by kernel_rfl

theorem take_succ' {α : Type} {l : List α} {k : Nat} {c : α} (hc : l[k]? = some c) : l.take (k + 1) = l.take k ++ [c] := by
  rw [List.take_add_one, hc]; rfl

set_option maxRecDepth 100000 in
set_option maxHeartbeats 8000000 in
theorem walk (A0 : Option Addr) (n0 c0 : Nat) (L0 : List Row) (w : World) (r0 : RowsAt w A0 n0 c0 L0) :
    Calls Try.prog 6 #[.slice A0 n0 c0] w fun e w' => e = .returned (.bool true) ∧ Below w.heap.size w w' := by
  have hl0 : L0.length = n0 := by simpa using r0.rd.len
  have hcap := r0.rd.cap
  have hmax := r0.rd.max
  unfold maxLen at hmax
  have hni : (n0 : Int) ≤ 9223372036854775807 := by omega
  obtain ⟨N, hN1, hN2, hN3⟩ : ∃ N : Nat, N ≤ n0 ∧ N ≤ 20 ∧ (n0 ≤ N ∨ 20 ≤ N) := ⟨min n0 20, by omega, by omega, by omega⟩
  have hmin : min (n0 : Int) 20 = (N : Int) := by omega
  have hsl := fun W => run_slice_hi_gen (P := Try.prog) (n := n0) (A := A0) 28 22 Try.underlying28 info_bytes .i64 (k := N) (c := c0) (by omega) W
  have hNi : (N : Int) ≤ 20 := by omega
  -- each row, wherever nothing that was there has turned
  have hrow : ∀ k < N, ∃ r, L0[k]? = some r ∧ ∀ W, Below w.heap.size w W → (∃ b off, A0 = some ⟨b, off, none⟩ ∧ W.cell? ⟨b, off + k, none⟩ = some (.slice r.a r.n r.c)) ∧ Rd W W.heap.size r.a r.n r.c (bv r.l) := by
    intro k hk
    have hkl : k < L0.length := by omega
    refine ⟨L0[k], List.getElem?_eq_getElem hkl, fun W hb => ?_⟩
    obtain ⟨b, off, rfl, hbl, hc⟩ := r0.rd.form (by omega)
    refine ⟨⟨b, off, rfl, ?_⟩, (r0.row _ (List.getElem_mem hkl)).now hb⟩
    exact (hb.cell (p := ⟨b, off + k, none⟩) hbl).trans (hc k (.slice L0[k].a L0[k].n L0[k].c) (by simp [hkl, Row.v]))
  have HROW := Lib.hid hrow
  have HL := Lib.hid hl0
  clear hrow hmax r0 hl0
  go_enter Try.func6, Try.ntmps6
  go_wp2_with fail
  go_loopw [3, 21] (fun av iv wr => ∃ (k n c : Nat) (A : Option Addr), iv = .int .i64 (k : Int) ∧ k ≤ N ∧ av = .slice A n c ∧ Fr wr w.heap.size 5 A n c (bv (catL (L0.take k))) ∧ (∀ r ∈ L0.take k, r.l.length ≤ 60) ∧ Below w.heap.size w wr) (fun _ iv _ => (20 - intOf iv).toNat)
  case atStart => exact ⟨0, 0, 0, none, rfl, by omega, rfl, Fr.nil, fun r hr => (by simp at hr), Below.refl _ _⟩
  case round =>
    obtain ⟨k, n, c, A, rfl, hk, rfl, hf, hsm, gr⟩ := hrel
    by_cases hlt : k < N
    · have hdk : decide ((k : Int) < (N : Int)) = true := by simp; omega
      have hdk2 : decide (k < N) = true := by simp; omega
      obtain ⟨r, hr, hw⟩ := HROW.out k hlt
      obtain ⟨⟨b, off, rfl, hcell⟩, hrd⟩ := hw wr gr
      have hrl : r.l.length = r.n := by simpa using hrd.len
      have hrcap := hrd.cap
      have hrmax := hrd.max
      unfold maxLen at hrmax
      have hrni : (r.n : Int) ≤ 9223372036854775807 := by omega
      have hnl : n ≤ 68 * k := by
        have h1 := catL_len _ hsm
        have h2 : (catL (L0.take k)).length = n := by simpa using hf.len
        have h3 := HL.out
        rw [List.length_take] at h1
        omega
      obtain ⟨ra, rn, rc, rl⟩ := r
      have hrl : rl.length = rn := hrl
      have HW := Lib.hid hw
      have HR := Lib.hid hr
      have HRL := Lib.hid hrl
      have HRC := Lib.hid hrcap
      have HSM := Lib.hid hsm
      clear hw hr hrl hrcap hrmax hsm
      by_cases hbig : 60 < rn
      · have hd : decide ((60 : Int) < (rn : Int)) = true := by simp; omega
        clear hbig
        go_wp2_with fail
        refine awake_c.mono ?_
        rintro e w99 ⟨rfl, hb99⟩
        go_wp2_with fail
        go_ret
        exact ⟨rfl, bon gr hb99⟩
      · have hd : decide ((60 : Int) < (rn : Int)) = false := by simp; omega
        have hrn : rn ≤ 60 := by omega
        clear hbig
        go_wp2_with fail
        refine (seal_c hrd (Nat.le_refl _) (by show rn ≤ 1048576; omega)).mono ?_
        rintro e w1 ⟨A1, n1, c1, rfl, hf1, hb1⟩
        have gr1 := bon gr hb1
        have hf := hf.below hb1
        obtain rfl : n1 = rn + 8 := by rw [hf1.len_eq (sealL_len _), HRL.out]
        have r1 := hf1.rd (Nat.le_refl _)
        clear hf1
        have hs1 : w.heap.size ≤ w1.heap.size := gr1.size
        go_wp2_with (at_builtin; refine wpList_app rfl (.tmp 29) (.tmp 31) _ rfl Try.underlying22 info_u8 rfl rfl (hf) rfl (r1) (bv_one _) (by omega) (by omega) (hs1) ?_; intro A2 c2 w2 hap2)
        have hf2 := hap2.fr
        rw [← bv_append, show catL (L0.take k) ++ sealL rl = catL (L0.take (k + 1)) by rw [take_succ' HR.out, catL_snoc]] at hf2
        have gr2 := gr1.trans hap2.below
        clear hap2 hf
        go_roundw
        case rel =>
          refine ⟨k + 1, _, _, _, by simp, by omega, rfl, hf2, fun r hr => ?_, gr2⟩
          rw [take_succ' HR.out] at hr
          rcases List.mem_append.1 hr with h | h
          · exact HSM.out r h
          · simp at h; subst h; have := HRL.out; simp only; omega
        case measure => simp [intOf]; omega
    · obtain rfl : k = N := by omega
      have hdk : decide ((k : Int) < (k : Int)) = false := by simp
      have hdk2 : decide (k < k) = false := by simp
      have HSM := Lib.hid hsm
      have hrd : Rd wr wr.heap.size A n c (bv (catL ((L0.take k).drop 0))) := hf.rd (Nat.le_refl _)
      clear hf hsm
      go_wp2_with fail
      go_loopw [3, 36] (fun av iv wz => ∃ (j n c : Nat) (A : Option Addr), iv = .int .i64 (j : Int) ∧ j ≤ k ∧ av = .slice A n c ∧ Rd wz wz.heap.size A n c (bv (catL ((L0.take k).drop j))) ∧ Below w.heap.size w wz) (fun _ iv _ => (20 - intOf iv).toNat)
      case atStart => exact ⟨0, n, c, A, rfl, by omega, rfl, hrd, gr⟩
      case round =>
        clear hrd gr
        obtain ⟨j, n, c, A, rfl, hj, rfl, hrd, gr⟩ := hrel
        have hn : n ≤ 2000 := by
          have h2 : (catL ((L0.take k).drop j)).length = n := by simpa using hrd.len
          have h1 := catL_len ((L0.take k).drop j) (fun r hr => HSM.out r (List.mem_of_mem_drop hr))
          rw [List.length_drop, List.length_take] at h1
          omega
        have hni : (n : Int) ≤ 2000 := by omega
        by_cases hlt : j < k
        · have hdj : decide ((j : Int) < (k : Int)) = true := by simp; omega
          have hdj2 : decide (j < k) = true := by simp; omega
          obtain ⟨r, hr, hw⟩ := HROW.out j (by omega)
          obtain ⟨⟨b, off, rfl, hcell⟩, hrr⟩ := hw _ gr
          have hdr : (L0.take k).drop j = r :: (L0.take k).drop (j + 1) := by
            have : (L0.take k)[j]? = some r := by rw [List.getElem?_take_of_lt (by omega)]; exact hr
            obtain ⟨hjl, rfl⟩ := List.getElem?_eq_some_iff.1 this
            exact List.drop_eq_getElem_cons hjl
          have hrs : r.l.length ≤ 60 := HSM.out r (by
            have : r ∈ (L0.take k).drop j := by rw [hdr]; exact List.mem_cons_self
            exact List.mem_of_mem_drop this)
          rw [hdr] at hrd
          have htk : takeL (catL (r :: (L0.take k).drop (j + 1))) = some (r.l, catL ((L0.take k).drop (j + 1))) := takeL_seal (by omega) _
          have HTK := Lib.hid htk
          obtain ⟨ra, rn, rc, rl⟩ := r
          clear hw hr hdr htk hrs
          go_wp2_with fail
          refine ((takeF_c hrd (Nat.le_refl _) (by omega)).mono (fun _ _ hp => tkPost_to HTK.out hp)).mono ?_
          rintro e w4 ⟨A4, n4, c4, A5, n5, c5, rfl, hf4, hf5, hb4⟩
          have gr4 := bon gr hb4
          have hrr := hrr.now hb4
          have r4 := hf4.rd (Nat.le_refl _)
          have r5 := hf5.rd (Nat.le_refl _)
          clear hf4 hf5 hrd
          go_wp2_with fail
          refine (same_t r4 hrr rfl).mono ?_
          rintro e w' ⟨rfl, rfl⟩
          go_wp2_with fail
          go_roundw
          case rel => exact ⟨j + 1, _, _, _, by simp, by omega, rfl, r5, gr4⟩
          case measure => simp [intOf]; omega
        · obtain rfl : j = k := by omega
          have hdj : decide ((j : Int) < (j : Int)) = false := by simp
          have hdj2 : decide (j < j) = false := by simp
          have he : catL ((L0.take j).drop j) = [] := by
            rw [List.drop_of_length_le (by rw [List.length_take]; omega)]; rfl
          rw [he] at hrd
          have hn0 : n = 0 := by have := hrd.len; simpa using this.symm
          subst hn0
          go_wp2_with fail
          refine ((takeF_c hrd (Nat.le_refl _) (by omega)).mono (fun _ _ hp => tkPost_no (takeL_no (by simp)) hp)).mono ?_
          rintro e w4 ⟨rfl, hb4⟩
          have gr4 := bon gr hb4
          go_wp2_with fail
          refine awake_c.mono ?_
          rintro e w99 ⟨rfl, hb99⟩
          go_wp2_with fail
          go_ret
          exact ⟨rfl, bon gr4 hb99⟩

set_option maxRecDepth 100000 in
theorem lifted (os : Os) (started : os.Started) (H : Type) (enc : TypeId × Value → H) :
    ReturnsInHanded {} Try.checked os 6 .any (Rows.framePartsSpec.pre6 enc Try.prog Try.f6 Rows.framePartsRow.domain false) (Rows.framePartsSpec.post enc Try.prog Try.f6 false true false false) := by
  refine returnsInHanded_of_change (C := Try.checked) own started (by kernel_rfl) Try.func6
    (ChangeSpec.witness6 (enc := enc) (C := Try.checked) false ⟨#[], #[.slice none 0 0], []⟩ 8 (by kernel_rfl) (by kernel_rfl) (by kernel_rfl) (by kernel_rfl)) ?_
  intro W base args ds gs before hval0 hW hcnd _
  have hval : ∀ (j : Nat) t v, Try.f6.params[j]? = some t → args[j]? = some v → Value.okWide Try.prog W .any base t v := hval0
  have hW' := hW
  obtain ⟨p, q, hA0, hV, rfl, hfz, hnd⟩ := hW
  have hA : DataW.TrodAll enc Try.prog W 0 (fun _ => true) true Try.f6.params.toList args.toList ds p := hA0
  rw [Try.params6] at hA hval
  obtain ⟨v0, vs0, d0, ds0, p0, q0_, hargs, rfl, rfl, h0, r0_⟩ := trodAll_cons hA
  obtain ⟨rfl, rfl, rfl⟩ := trodAll_nil r0_
  obtain rfl : args = #[v0] := by cases args; simp_all
  obtain ⟨rfl, rfl⟩ := trodVars_none hV
  have kk0 := h0
  have lt0 : ∀ x ∈ p0, x.block < W.heap.size := by obtain ⟨m, hm⟩ := kk0; exact DataW.trod_lt m _ _ _ hm
  obtain ⟨A0, n0, c0, L0, e0, r0⟩ := open_rows h0 (hval 0 _ v0 rfl rfl)
  subst e0
  clear hA0 hval0
  refine (walk A0 n0 c0 L0 W r0).mono fun e W' ⟨he, bel⟩ => ?_
  subst he
  exact ⟨_, rfl, _, _, _, [], _, [], hW', trodAll_mk1 (shut_bool Try.underlying4 _), (trodAll_cons_mk (Below.trod laidOut (by kernel_rfl) (of_decide_eq_true (by kernel_rfl)) kk0 bel lt0) trodAll_mk0), rfl, bel.frame _, fun h => by cases h⟩

theorem over : Rows.framePartsRow.holds Try.pinned (OpenSpec.ofChange Rows.framePartsSpec) :=
  OpenClaim.holds_of_wide 6 Try.f6 rfl rfl rfl rfl rfl rfl rfl ⟨rfl, rfl, rfl, rfl, rfl⟩ rfl rfl rfl rfl rfl (by kernel_rfl) Try.func6 (by kernel_rfl)
    (of_decide_eq_true (by kernel_rfl)) (by unfold Func.isWrapper; first | (rw [if_pos (by decide +kernel)]; kernel_rfl) | (rw [if_neg (by decide +kernel)]; exact ⟨rfl, rfl⟩))
    (fun os started H enc _ => lifted os started H enc)

/-- The statement. -/
theorem proved : Rows.FramePartsSaid := over
#print axioms proved
end Go.Proofs.Ytpligjdpofcbbaa.frameParts
