/-
  FrameBent: what is sealed is taken, and what is behind it stays; with some bits turned, all within 32 beside one another, behind the first four bytes, it is none. No condition.
-/
import Derived.Test.YtpligjdpofcbbaaRows
import Derived.Test.YtpligjdpofcbbaaFrB
import Derived.WalkKit
import Derived.ProofKit
import Derived.OpenShut
import Derived.ShutString
import Derived.ChangeOld
import Derived.Below
namespace Go.Proofs.Ytpligjdpofcbbaa.frameBent
open Go.ChangeShapes Go.WideShapes Go.ChangeAt Go.RowKit
open Go.ChangeMaps (open_string shut_string)
set_option linter.unusedVariables false

theorem own : ownKnob Try.prog.godebug = none := by kernel_rfl
theorem laidOut : laidOutB Try.prog = true := by kernel_rfl

/-- WHAT THE WALK IS TOLD OF A SLICE OF INTEGERS THAT CAME IN: it is nil; or it leads to a row of 'cap' cells, the numbers 'zs' (the first 'len' are its elements, the rest its spare room), each fitting its kind. -/
def IsRow (k : IntKind) (w : World) (a : Option Addr) (len cap : Nat) (zs : List Int) : Prop :=
  (a = none ∧ len = 0 ∧ cap = 0 ∧ zs = []) ∨
  ∃ x, a = some x ∧ len ≤ cap ∧ cap ≤ maxLen ∧ zs.length = cap ∧ (∀ i, i < zs.length → w.cell? (x.add i) = some (.int k (zs.getD i 0))) ∧ ∀ n ∈ zs, (Lit.int k n).wf = true

/-! ### STEP 1: THE WALK -/
set_option maxRecDepth 100000 in
set_option maxHeartbeats 8000000 in
theorem walk (a0 : Option Addr) (len0 cap0 : Nat) (z0 : List Int) (a1 : Option Addr) (len1 cap1 : Nat) (z1 : List Int) (a2 : Int) (a3 : Int) (w : World) (w0 : IsRow .u8 w a0 len0 cap0 z0) (w1 : IsRow .u8 w a1 len1 cap1 z1) (w2 : (Lit.int .u16 a2).wf = true) (w3 : (Lit.int .u32 a3).wf = true) :
    Calls Try.prog 4 #[.slice a0 len0 cap0, .slice a1 len1 cap1, .int .u16 a2, .int .u32 a3] w fun e w' => e = .returned (.bool true) ∧ Below w.heap.size w w' := by
  have bd2 := bounds_u16' w2
  have bd3 := bounds_u32' w3
  clear w2 w3
  obtain ⟨l0, hl0, hR0⟩ := rd_of_row w0
  obtain ⟨l1, hl1, hR1⟩ := rd_of_row w1
  have hcap0 := hR0.cap
  have hmax0 := hR0.max
  have hcap1 := hR1.cap
  have hmax1 := hR1.max
  unfold maxLen at hmax0 hmax1
  have hi0 : (len0 : Int) ≤ 9223372036854775807 := by omega
  have hi1 : (len1 : Int) ≤ 9223372036854775807 := by omega
  clear w0 w1 hmax0 hmax1
  by_cases h1 : 300 < len0
  · have hd1 : decide ((300 : Int) < (len0 : Int)) = true := by simp; omega
    clear hR0 hR1 hl0 hl1 bd2 bd3
    go_enter Try.func4, Try.ntmps4
    go_wp2_with fail
    refine awake_c.mono ?_
    rintro e w1 ⟨rfl, hb1⟩
    go_wp2_with fail
    go_ret
    exact ⟨rfl, hb1⟩

  have hd1 : decide ((300 : Int) < (len0 : Int)) = false := by simp; omega
  by_cases h2 : 60 < len1
  · have hd2 : decide ((60 : Int) < (len1 : Int)) = true := by simp; omega
    clear hR0 hR1 hl0 hl1 bd2 bd3
    go_enter Try.func4, Try.ntmps4
    go_wp2_with fail
    refine awake_c.mono ?_
    rintro e w1 ⟨rfl, hb1⟩
    go_wp2_with fail
    go_ret
    exact ⟨rfl, hb1⟩

  have hd2 : decide ((60 : Int) < (len1 : Int)) = false := by simp; omega
  have HL0 := Lib.hid hl0
  have HL1 := Lib.hid hl1
  have le0 : len0 ≤ 300 := by omega
  have le1 : len1 ≤ 60 := by omega
  clear h1 h2 hl0 hl1 hi0 hi1
  have hi0 : (len0 : Int) ≤ 300 := by omega
  have hi1 : (len1 : Int) ≤ 60 := by omega
  have g0 : Below w.heap.size w w := Below.refl _ _
  obtain ⟨from_, rfl⟩ := Int.eq_ofNat_of_zero_le bd2.1
  obtain ⟨p, rfl⟩ := Int.eq_ofNat_of_zero_le bd3.1
  have hfr : (from_ : Int) ≤ 65535 := bd2.2
  have hpl : (p : Int) ≤ 4294967295 := bd3.2
  have hb0 : l0.length ≤ 1048576 := by have := HL0.out; omega
  have hls := sealL_len l0
  obtain ⟨m, hm⟩ : ∃ m, len0 + 8 = m := ⟨_, rfl⟩
  have lm : m ≤ 308 := by omega
  have lm8 : 8 ≤ m := by omega
  obtain ⟨bits_, hbits⟩ : ∃ x, 8 * (m - 4) = x := ⟨_, rfl⟩
  have lb : bits_ ≤ 2432 := by omega
  have lb0 : 32 ≤ bits_ := by omega
  obtain ⟨at0, hat⟩ : ∃ k, from_ % bits_ = k := ⟨_, rfl⟩
  have hatl : at0 < bits_ := by rw [← hat]; exact Nat.mod_lt _ (by omega)
  have hkm : (from_ : Int) % (bits_ : Int) = (at0 : Int) := by rw [← hat]; simp
  have hkw : ((from_ : Int)).tmod (bits_ : Int) = (at0 : Int) := by rw [← hat]; rfl
  have hbm : (8 : Int) * ((m : Int) - 4) = (bits_ : Int) := by omega
  have htk := takeL_seal hb0 l1
  have HTK := Lib.hid htk
  have HLS := Lib.hid hls
  have HB0 := Lib.hid hb0
  have HBI := Lib.hid hbits
  clear htk hls hb0 bd2 bd3 hat hbits
  go_enter Try.func4, Try.ntmps4
  go_wp2_with fail
  refine (seal_c hR0 (Nat.le_refl _) (by omega)).mono ?_
  rintro e w1 ⟨A1, n1, c1, rfl, hf1, hb1⟩
  have g0 := bon g0 hb1
  obtain rfl : n1 = m := by rw [hf1.len_eq HLS.out, HL0.out, hm]
  have r1 := hf1.rd (Nat.le_refl _)
  have r0 := hR0.now g0
  have ro := hR1.now g0
  have hq1 : (n1 : Int) ≤ 308 := by omega
  have hz1 : ((n1 : Int) != (len0 : Int) + 8) = false := by simp; omega
  clear hf1 hb1 hR0 hR1
  go_wp2_with (first
    | (at_builtin; refine wpList_app rfl (.tmp 33) (.tmp 34) _ rfl Try.underlying22 info_u8 rfl rfl (Fr.new w1 5 #[] rfl (Nat.le_refl _) (Nat.zero_le _)) rfl (r1.alloc (Nat.le_refl _) _) (bv_one _) (by omega) (by omega) (by simp) ?_; intro A2 c2 w2 hap2; have hf2 : Fr w2 w1.heap.size 5 A2 n1 c2 (bv (sealL l0)) := (by have := hap2.fr; rwa [Nat.zero_add] at this); have hb2 : Below w1.heap.size w1 w2 := ((Below.refl _ _).alloc (Nat.le_refl _) _).trans hap2.below; have hs2 := hb2.size; have ro2 := ro.now hb2)
    | (at_builtin; refine wpList_app rfl (.tmp 35) (.tmp 36) _ rfl Try.underlying22 info_u8 rfl rfl (hf2) rfl (ro2) (bv_one _) (by omega) (by omega) (hs2) ?_; intro A3 c3 w3 hap3))
  have hf3 := hap3.fr
  rw [← bv_append] at hf3
  have hb3 : Below w1.heap.size w1 w3 := hb2.trans hap3.below
  have g0 := bon g0 hb3
  have r0 := r0.now hb3
  have ro := ro.now hb3
  have r1 := r1.now hb3
  have r3 := hf3.rd (Nat.le_refl _)
  clear hf3 hf2 hap2 hap3 hb2 hb3 ro2 hs2
  refine ((takeF_c r3 (Nat.le_refl _) (by omega)).mono (fun _ _ hp => tkPost_to HTK.out hp)).mono ?_
  rintro e w4 ⟨A4, n4, c4, A5, n5, c5, rfl, hf4, hf5, hb4⟩
  have g0 := bon g0 hb4
  have r0 := r0.now hb4
  have ro := ro.now hb4
  have r1 := r1.now hb4
  have r4 := hf4.rd (Nat.le_refl _)
  have r5 := hf5.rd (Nat.le_refl _)
  clear r3 hf4 hf5 hb4
  go_wp2_with fail
  refine (same_t r4 r0 rfl).mono ?_
  rintro e w' ⟨rfl, rfl⟩
  go_wp2_with fail
  refine (same_t r5 ro rfl).mono ?_
  rintro e w' ⟨rfl, rfl⟩
  clear r4 r5 r0 ro
  go_wp2_with (at_builtin; refine wpList_app rfl (.tmp 64) (.tmp 65) _ rfl Try.underlying22 info_u8 rfl rfl (Fr.new w4 5 #[] rfl (Nat.le_refl _) (Nat.zero_le _)) rfl (r1.alloc (Nat.le_refl _) _) (bv_one _) (by omega) (by omega) (by simp) ?_; intro A6 c6 w6 hap6)
  have hf6 := hap6.fr
  rw [List.nil_append, Nat.zero_add] at hf6
  have hb6 : Below w4.heap.size w4 w6 := ((Below.refl _ _).alloc (Nat.le_refl _) _).trans hap6.below
  have g0 := bon g0 hb6
  obtain ⟨g, rfl⟩ : ∃ g, A6 = some ⟨g, 0, none⟩ := by
    cases A6 with
    | none => have := (hf6.rd (Nat.le_refl _)).nil rfl; omega
    | some ad =>
      obtain ⟨-, -, h3, h4, -⟩ := hf6.frozen ad rfl
      exact ⟨ad.block, by rw [← h3, ← h4]⟩
  have hg4 : w4.heap.size ≤ g := (hf6.frozen _ rfl).1
  have hwg : w.heap.size ≤ g := Nat.le_trans (by assumption : Below w.heap.size w w4).size hg4
  have hbent := Bent.start at0 (reg_seal (b := l0))
  have HS : (sealL l0).length = n1 := by rw [HLS.out, HL0.out, hm]
  clear hap6 hb6 r1
  go_loopw [15, 71] (fun av iv wr => ∃ (k q : Nat) (l : List UInt8) (bo : Bool), iv = .int .i64 (k : Int) ∧ k ≤ 32 ∧ av = .bool bo ∧ (bo = true ↔ q ≠ 0) ∧ Bent (sealL l0) at0 k l q ∧ Fr wr w4.heap.size 5 (some ⟨g, 0, none⟩) n1 c6 (bv l) ∧ Below w.heap.size w wr) (fun _ iv => (fun _ => (32 - intOf iv).toNat))
  case atStart => exact ⟨0, 0, sealL l0, false, rfl, by omega, rfl, by simp, hbent, hf6, g0⟩
  case round =>
    clear hf6 g0 hbent
    obtain ⟨k, q, l, bo, rfl, hk, rfl, hbo, hbt, hf, gr⟩ := hrel
    by_cases hlt : k < 32
    · have hdk : decide ((k : Int) < 32) = true := by simp; omega
      obtain ⟨a, ha⟩ : ∃ a, at0 + k = a := ⟨_, rfl⟩
      have hai : (at0 : Int) + (k : Int) = (a : Int) := by omega
      obtain ⟨pb, hpb⟩ : ∃ pb, p / 2 ^ k % 2 = pb := ⟨_, rfl⟩
      have hbit : bits .and .u32 ((p : Int) / 2 ^ k) 1 = (pb : Int) := by
        have := u32_and_nat (p / 2 ^ k) 1 (Nat.lt_of_le_of_lt (Nat.div_le_self _ _) (by omega)) (by omega)
        rw [Nat.and_one_is_mod, hpb] at this
        rw [← this]
        simp
      have hki : (k : Int) ≤ 31 := by omega
      have ha16 : (a : Int) ≤ 2500 := by omega
      have hpass := hbt.pass
      have HBO := Lib.hid hbo
      by_cases hp1 : pb = 1
      · have hdp : ((pb : Int) == 1) = true := by simp; omega
        by_cases hab : a < bits_
        · have hda : decide ((a : Int) < (bits_ : Int)) = true := by simp; omega
          have hda2 : decide (a < bits_) = true := by simp; omega
          obtain ⟨i, hi⟩ : ∃ i, 4 + a / 8 = i := ⟨_, rfl⟩
          obtain ⟨j, hj⟩ : ∃ j, a % 8 = j := ⟨_, rfl⟩
          have hil : i < n1 := by have := HBI.out; omega
          have hjl : j < 8 := by omega
          have hii : (4 : Int) + (a : Int) / 8 = (i : Int) := by omega
          have hji : (a : Int) % 8 = (j : Int) := by omega
          have hll := hbt.len
          obtain ⟨cc, hcc⟩ : ∃ cc, l[i]? = some cc := ⟨_, List.getElem?_eq_getElem (by omega)⟩
          have hcell := hf.cellAt hcc
          have hfz := hf.own.frozenAt i
          have hturn := hbt.turn hlt (by omega) (by rw [HS, HBI.out, ha]; exact hab) (c := cc) (by rw [ha, hi]; exact hcc)
          rw [ha, hi, hj] at hturn
          have hset := hf.put i (cc ^^^ byteOf (2 ^ j))
          have hpj : (2 : Nat) ^ j < 256 := Nat.lt_of_le_of_lt (Nat.pow_le_pow_right (by decide) (show j ≤ 7 by omega)) (by decide)
          have hx : bits .xor .u8 (cc.toNat : Int) ((2 : Int) ^ j % 256) = ((cc ^^^ byteOf (2 ^ j)).toNat : Int) := by
            have e2 : ((2 : Int) ^ j) = ((2 ^ j : Nat) : Int) := by simp
            rw [e2, Int.emod_eq_of_lt (Int.natCast_nonneg _) (by exact_mod_cast hpj), u8_xor_nat _ _ cc.toNat_lt hpj, UInt8.toNat_xor, byteOf_toNat hpj]
          have hii2 : (i : Int) < (n1 : Int) := by omega
          have HT := Lib.hid hturn
          have HSET := Lib.hid hset
          have hg2 := below_drewN (gr.setCell (p := ⟨g, i, none⟩) hwg (b8 (cc ^^^ byteOf (2 ^ j)))) 1
          generalize cc ^^^ byteOf (2 ^ j) = dd at *
          have HG2 := Lib.hid hg2
          have hqp : q + 2 ^ k ≠ 0 := by have : 0 < 2 ^ k := Nat.pow_pos (by decide); omega
          have HQ := Lib.hid hqp
          clear hturn hset hf hbt hpass hbo hcc hll hpb hp1 hab hi hj hg2 hqp gr hpj
          go_wp2_with fail
          go_region
          go_wp2_with fail
          go_roundw
          case rel => exact ⟨k + 1, _, _, true, by simp, by omega, rfl, ⟨fun _ => HQ.out, fun _ => rfl⟩, HT.out, HSET.out.below (below_drewN (Below.refl _ _) 1), HG2.out⟩
          case measure => simp [intOf]; omega
        · have hda : decide ((a : Int) < (bits_ : Int)) = false := by simp; omega
          have hda2 : decide (a < bits_) = false := by simp; omega
          have HP := Lib.hid hpass
          have HF := Lib.hid hf
          clear hbt hpass hbo hpb hp1 hab hf
          go_wp2_with fail
          go_roundw
          case rel => exact ⟨k + 1, _, _, bo, by simp, by omega, rfl, HBO.out, HP.out, HF.out, gr⟩
          case measure => simp [intOf]; omega
      · have hdp : ((pb : Int) == 1) = false := by simp; omega
        have HP := Lib.hid hpass
        have HF := Lib.hid hf
        clear hbt hpass hbo hpb hp1 hf
        go_wp2_with fail
        go_roundw
        case rel => exact ⟨k + 1, _, _, bo, by simp, by omega, rfl, HBO.out, HP.out, HF.out, gr⟩
        case measure => simp [intOf]; omega
    · obtain rfl : k = 32 := by omega
      have hdk : decide (((32 : Nat) : Int) < 32) = false := by decide
      obtain ⟨htno, htyes⟩ := hbt.take HB0.out
      obtain ⟨x, y, er, -, hno, hyes, her, hx⟩ := tkPost_form l
      have HX := Lib.hid hx
      have hrl := hf.rd (Nat.le_refl _)
      clear hx hbt hf
      cases bo with
      | true =>
        obtain ⟨rfl, rfl, rfl⟩ := hno (htno (hbo.1 rfl))
        clear hno hyes htno htyes hbo
        go_wp2_with fail
        refine ((takeF_c hrl (Nat.le_refl _) (by omega)).mono (fun _ _ hp => HX.out _ _ _ hp)).mono ?_
        rintro e w7 ⟨A7, n7, c7, A8, n8, c8, rfl, hf7, hf8, hb7⟩
        have gr := bon gr hb7
        obtain rfl : n7 = 0 := hf7.len_eq rfl
        obtain rfl : n8 = 0 := hf8.len_eq rfl
        go_wp2_with fail
        refine awake_c.mono ?_
        rintro e w99 ⟨rfl, hb99⟩
        go_wp2_with fail
        go_ret
        exact ⟨rfl, bon gr hb99⟩
      | false =>
        have hq0 : q = 0 := by
          cases q with
          | zero => rfl
          | succ q => have := hbo.2 (by omega); cases this
        obtain ⟨z, hz⟩ := htyes hq0
        obtain ⟨rfl, -⟩ := hyes z hz
        clear hno hyes htno htyes hbo hz
        go_wp2_with fail
        refine ((takeF_c hrl (Nat.le_refl _) (by omega)).mono (fun _ _ hp => HX.out _ _ _ hp)).mono ?_
        rintro e w7 ⟨A7, n7, c7, A8, n8, c8, rfl, hf7, hf8, hb7⟩
        have gr := bon gr hb7
        go_wp2_with fail
        refine awake_c.mono ?_
        rintro e w99 ⟨rfl, hb99⟩
        go_wp2_with fail
        go_ret
        exact ⟨rfl, bon gr hb99⟩

/-! ### THE ROW's STEP: WRITTEN OUT: LEAVE IT -/
set_option maxRecDepth 100000 in
theorem lifted (os : Os) (started : os.Started) (H : Type) (enc : TypeId × Value → H) :
    ReturnsInHanded {} Try.checked os 4 .any (Rows.frameBentSpec.pre6 enc Try.prog Try.f4 Rows.frameBentRow.domain false) (Rows.frameBentSpec.post enc Try.prog Try.f4 false true false false) := by
  refine returnsInHanded_of_change (C := Try.checked) own started (by kernel_rfl) Try.func4
    (ChangeSpec.witness6 (enc := enc) (C := Try.checked) false ⟨#[], #[.slice none 0 0, .slice none 0 0, .int .u16 0, .int .u32 0], []⟩ 8 (by kernel_rfl) (by kernel_rfl) (by kernel_rfl) (by kernel_rfl)) ?_
  intro W base args ds gs before hval0 hW hcnd _
  have hval : ∀ (j : Nat) t v, Try.f4.params[j]? = some t → args[j]? = some v → Value.okWide Try.prog W .any base t v := hval0
  have hW' := hW
  obtain ⟨p, q, hA0, hV, rfl, hfz, hnd⟩ := hW
  have hA : DataW.TrodAll enc Try.prog W 0 (fun _ => true) true Try.f4.params.toList args.toList ds p := hA0
  rw [Try.params4] at hA hval
  obtain ⟨v0, vs0, d0, ds0, p0, q0, hargs, rfl, rfl, h0, r0⟩ := trodAll_cons hA
  obtain ⟨v1, vs1, d1, ds1, p1, q1, rfl, rfl, rfl, h1, r1⟩ := trodAll_cons r0
  obtain ⟨v2, vs2, d2, ds2, p2, q2, rfl, rfl, rfl, h2, r2⟩ := trodAll_cons r1
  obtain ⟨v3, vs3, d3, ds3, p3, q3, rfl, rfl, rfl, h3, r3⟩ := trodAll_cons r2
  obtain ⟨rfl, rfl, rfl⟩ := trodAll_nil r3
  obtain rfl : args = #[v0, v1, v2, v3] := by cases args; simp_all
  obtain ⟨rfl, rfl⟩ := trodVars_none hV
  obtain ⟨a0, len0, cap0, rfl⟩ := okWide_slice Try.underlying22 (hval 0 22 v0 rfl rfl)
  have k0 := h0
  have lt0 : ∀ x ∈ p0, x.block < W.heap.size := by obtain ⟨m, hm⟩ := k0; exact DataW.trod_lt m _ _ _ hm
  obtain ⟨z0, w0⟩ : ∃ zs, IsRow .u8 W a0 len0 cap0 zs := by
    obtain ⟨fuel, hf⟩ := h0
    rcases open_ints Try.underlying22 Try.underlying5 (by kernel_rfl) hf with ⟨hcs, _⟩ | ⟨x, l, c, zs, hcs, _, hl, hm, hz, _, hcell, hwz⟩
    · simp [Value.cells] at hcs
      obtain ⟨rfl, rfl, rfl⟩ := hcs
      exact ⟨[], .inl ⟨rfl, rfl, rfl, rfl⟩⟩
    · simp [Value.cells] at hcs
      obtain ⟨rfl, rfl, rfl⟩ := hcs
      exact ⟨zs, .inr ⟨_, rfl, hl, hm, by simpa using hz, hcell, hwz⟩⟩
  obtain ⟨a1, len1, cap1, rfl⟩ := okWide_slice Try.underlying22 (hval 1 22 v1 rfl rfl)
  have k1 := h1
  have lt1 : ∀ x ∈ p1, x.block < W.heap.size := by obtain ⟨m, hm⟩ := k1; exact DataW.trod_lt m _ _ _ hm
  obtain ⟨z1, w1⟩ : ∃ zs, IsRow .u8 W a1 len1 cap1 zs := by
    obtain ⟨fuel, hf⟩ := h1
    rcases open_ints Try.underlying22 Try.underlying5 (by kernel_rfl) hf with ⟨hcs, _⟩ | ⟨x, l, c, zs, hcs, _, hl, hm, hz, _, hcell, hwz⟩
    · simp [Value.cells] at hcs
      obtain ⟨rfl, rfl, rfl⟩ := hcs
      exact ⟨[], .inl ⟨rfl, rfl, rfl, rfl⟩⟩
    · simp [Value.cells] at hcs
      obtain ⟨rfl, rfl, rfl⟩ := hcs
      exact ⟨zs, .inr ⟨_, rfl, hl, hm, by simpa using hz, hcell, hwz⟩⟩
  obtain ⟨a2, rfl, rfl, rfl, w2⟩ := open_int Try.underlying32 (hval 2 32 v2 rfl rfl) h2
  obtain ⟨a3, rfl, rfl, rfl, w3⟩ := open_int Try.underlying25 (hval 3 25 v3 rfl rfl) h3
  clear hA0 hval0
  refine (walk a0 len0 cap0 z0 a1 len1 cap1 z1 a2 a3 W w0 w1 w2 w3).mono fun e W' ⟨he, bel⟩ => ?_
  subst he
  exact ⟨_, rfl, _, _, _, [], _, [], hW', trodAll_mk1 (shut_bool Try.underlying4 _), (trodAll_cons_mk (Below.trod laidOut (by kernel_rfl) (of_decide_eq_true (by kernel_rfl)) k0 bel lt0) (trodAll_cons_mk (Below.trod laidOut (by kernel_rfl) (of_decide_eq_true (by kernel_rfl)) k1 bel lt1) (trodAll_cons_mk (shut_int Try.underlying32 w2) (trodAll_cons_mk (shut_int Try.underlying25 w3) trodAll_mk0)))), rfl, bel.frame _, fun h => by cases h⟩

theorem over : Rows.frameBentRow.holds Try.pinned (OpenSpec.ofChange Rows.frameBentSpec) :=
  OpenClaim.holds_of_wide 4 Try.f4 rfl rfl rfl rfl rfl rfl rfl ⟨rfl, rfl, rfl, rfl, rfl⟩ rfl rfl rfl rfl rfl (by kernel_rfl) Try.func4 (by kernel_rfl)
    (of_decide_eq_true (by kernel_rfl)) (by unfold Func.isWrapper; first | (rw [if_pos (by decide +kernel)]; kernel_rfl) | (rw [if_neg (by decide +kernel)]; exact ⟨rfl, rfl⟩))
    (fun os started H enc _ => lifted os started H enc)

/-- ████ THE STATEMENT ████ -/
theorem proved : Rows.FrameBentSaid := over
#print axioms proved
end Go.Proofs.Ytpligjdpofcbbaa.frameBent
