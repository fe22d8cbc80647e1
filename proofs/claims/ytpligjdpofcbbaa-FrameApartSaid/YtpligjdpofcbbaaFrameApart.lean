/-
  FrameApart: what is sealed, and taken, is nobody else's: written over, nothing else is changed; what stands in the spare room of what is handed in stays; and there is no frame of more than 2^20 bytes. No condition.
-/
import Derived.Test.YtpligjdpofcbbaaRows
import Derived.Test.YtpligjdpofcbbaaFrAp
import Derived.WalkKit
import Derived.ProofKit
import Derived.OpenShut
import Derived.ShutString
import Derived.ChangeOld
import Derived.Below
namespace Go.Proofs.Ytpligjdpofcbbaa.frameApart
open Go.ChangeShapes Go.WideShapes Go.ChangeAt Go.RowKit
open Go.ChangeMaps (open_string shut_string)
set_option linter.unusedVariables false

theorem own : ownKnob Try.prog.godebug = none := by kernel_rfl
theorem laidOut : laidOutB Try.prog = true := by kernel_rfl

/-- WHAT THE WALK IS TOLD OF A SLICE OF INTEGERS THAT CAME IN: it is nil; or it leads to a row of 'cap' cells, the numbers 'zs' (the first 'len' are its elements, the rest its spare room), each fitting its kind. -/
def IsRow (k : IntKind) (w : World) (a : Option Addr) (len cap : Nat) (zs : List Int) : Prop :=
  (a = none ∧ len = 0 ∧ cap = 0 ∧ zs = []) ∨
  ∃ x, a = some x ∧ len ≤ cap ∧ cap ≤ maxLen ∧ zs.length = cap ∧ (∀ i, i < zs.length → w.cell? (x.add i) = some (.int k (zs.getD i 0))) ∧ ∀ n ∈ zs, (Lit.int k n).wf = true

/-! ### STEP 1: THE WALK -/
set_option maxRecDepth 100000 in
set_option maxHeartbeats 8000000 in
theorem walk (a0 : Option Addr) (len0 cap0 : Nat) (z0 : List Int) (a1 : Option Addr) (len1 cap1 : Nat) (z1 : List Int) (w : World) (w0 : IsRow .u8 w a0 len0 cap0 z0) (w1 : IsRow .u8 w a1 len1 cap1 z1) :
    Calls Try.prog 8 #[.slice a0 len0 cap0, .slice a1 len1 cap1] w fun e w' => e = .returned (.bool true) ∧ Below w.heap.size w w' := by
  obtain ⟨l0, hl0, hR0⟩ := rd_of_row w0
  obtain ⟨l1, hl1, hR1⟩ := rd_of_row w1
  have hcap0 := hR0.cap
  have hmax0 := hR0.max
  have hcap1 := hR1.cap
  have hmax1 := hR1.max
  unfold maxLen at hmax0 hmax1
  have hi0 : (len0 : Int) ≤ 9223372036854775807 := by omega
  have hi1 : (len1 : Int) ≤ 9223372036854775807 := by omega
  clear w0 w1 hmax0 hmax1
  by_cases h1 : 200 < len0
  · have hd1 : decide ((200 : Int) < (len0 : Int)) = true := by simp; omega
    clear hR0 hR1 hl0 hl1
    go_enter Try.func8, Try.ntmps8
    go_wp2_with fail
    refine awake_c.mono ?_
    rintro e w1 ⟨rfl, hb1⟩
    go_wp2_with fail
    go_ret
    exact ⟨rfl, hb1⟩

  have hd1 : decide ((200 : Int) < (len0 : Int)) = false := by simp; omega
  by_cases h2 : 60 < len1
  · have hd2 : decide ((60 : Int) < (len1 : Int)) = true := by simp; omega
    clear hR0 hR1 hl0 hl1
    go_enter Try.func8, Try.ntmps8
    go_wp2_with fail
    refine awake_c.mono ?_
    rintro e w1 ⟨rfl, hb1⟩
    go_wp2_with fail
    go_ret
    exact ⟨rfl, hb1⟩

  have hd2 : decide ((60 : Int) < (len1 : Int)) = false := by simp; omega
  have HL0 := Lib.hid hl0
  have HL1 := Lib.hid hl1
  have le0 : len0 ≤ 200 := by omega
  have le1 : len1 ≤ 60 := by omega
  clear h1 h2 hl0 hl1 hi0 hi1
  have hi0 : (len0 : Int) ≤ 200 := by omega
  have hi1 : (len1 : Int) ≤ 60 := by omega
  have g0 : Below w.heap.size w w := Below.refl _ _
  have hls := sealL_len l0
  have hb0 : l0.length ≤ 1048576 := by have := HL0.out; omega
  have htk := takeL_seal hb0 l1
  obtain ⟨m, hm⟩ : ∃ m, len0 + 8 = m := ⟨_, rfl⟩
  have lm : m ≤ 208 := by omega
  have lm8 : 8 ≤ m := by omega
  obtain ⟨M, hM⟩ : ∃ M, m + len1 = M := ⟨_, rfl⟩
  have lM : M ≤ 268 := by omega
  have hMi : (M : Int) ≤ 268 := by omega
  have HTK := Lib.hid htk
  have HLS := Lib.hid hls
  obtain ⟨S, hS⟩ : ∃ S, sealL l0 ++ l1 = S := ⟨_, rfl⟩
  have hSl : S.length = M := by rw [← hS, List.length_append, hls, HL0.out, HL1.out]; omega
  have HSL := Lib.hid hSl
  clear htk hls hb0 hSl
  go_enter Try.func8, Try.ntmps8
  go_wp2_with (first
    | (at_builtin; refine wpList_app rfl (.tmp 24) (.tmp 25) _ rfl Try.underlying22 info_u8 rfl rfl (Fr.new w 5 #[] rfl (Nat.le_refl _) (Nat.zero_le _)) rfl (hR0.alloc (Nat.le_refl _) _) (bv_one _) (by omega) (by omega) (by simp) ?_; intro A2 c2 w2 hap2; have hf2 : Fr w2 w.heap.size 5 A2 len0 c2 (bv l0) := (by have := hap2.fr; rwa [Nat.zero_add] at this); have hb2 : Below w.heap.size w w2 := ((Below.refl _ _).alloc (Nat.le_refl _) _).trans hap2.below; have hs2 := hb2.size)
    | (at_builtin; refine wpList_app rfl (.tmp 26) (.tmp 27) _ rfl Try.underlying22 info_u8 rfl rfl (hf2.alloc (.cells #[.int .u8 7] 5)) rfl (Rd.litb w2 [7] (g := w2.heap.size) rfl rfl rfl (by decide)) (bv_one _) (by omega) (by omega) (by simp; omega) ?_; intro A3 c3 w3 hap3; have hf3 := hap3.fr; have hc3 := (hf3.rd (Nat.le_refl _)).cap; have hsl := fun W => run_slice_hi_gen (P := Try.prog) (n := len0 + 1) (A := A3) 22 5 Try.underlying22 info_u8 .i64 (k := len0) (c := c3) (by omega) W))
  rw [← bv_append] at hf3
  have g0 : Below w.heap.size w w3 := (hb2.alloc hb2.size _).trans hap3.below
  have ro := hf3.rd (Nat.le_refl _)
  obtain ⟨go, rfl⟩ : ∃ go, A3 = some ⟨go, 0, none⟩ := by
    cases A3 with
    | none => have := ro.nil rfl; omega
    | some ad =>
      obtain ⟨-, -, h3, h4, -⟩ := hf3.frozen ad rfl
      exact ⟨ad.block, by rw [← h3, ← h4]⟩
  have rof := ro.front (k := len0) (by omega)
  rw [bv_take, show (l0 ++ [(7 : UInt8)]).take len0 = l0 from List.take_left' HL0.out] at rof
  have rb := hR0.now g0
  have rh := hR1.now g0
  clear hf2 hf3 hap2 hap3 hb2 hs2 hR0 hR1
  refine (seal_c rof (Nat.le_refl _) (by omega)).mono ?_
  rintro e w4 ⟨A4, n4, c4, rfl, hf4, hb4⟩
  obtain rfl : n4 = m := by rw [hf4.len_eq HLS.out, HL0.out, hm]
  have g3 : Below w3.heap.size w3 w4 := hb4
  have rh4 := rh.now hb4
  have hs4 := hb4.size
  have hni4 : (n4 : Int) ≤ 208 := by omega
  go_wp2_with (first
    | (at_builtin; refine wpList_app rfl (.tmp 33) (.tmp 34) _ rfl Try.underlying22 info_u8 rfl rfl (hf4) rfl (rh4) (bv_one _) (by omega) (by omega) (hs4) ?_; intro A5 c5 w5 hap5; have hf5 : Fr w5 w3.heap.size 5 A5 M c5 (bv S) := (by have := hap5.fr; rwa [← bv_append, hS, hM] at this); have g5 : Below w3.heap.size w3 w5 := hb4.trans hap5.below)
    | (at_builtin; refine wpList_app rfl (.tmp 36) (.tmp 37) _ rfl Try.underlying22 info_u8 rfl rfl (Fr.new w5 5 #[] rfl (Nat.le_refl _) (Nat.zero_le _)) rfl ((hf5.rd (Nat.le_refl _)).alloc (Nat.le_refl _) _) (bv_one _) (by omega) (by omega) (by simp) ?_; intro A6 c6 w6 hap6))
  have hf6 := hap6.fr
  rw [List.nil_append, Nat.zero_add] at hf6
  have hb6 : Below w5.heap.size w5 w6 := ((Below.refl _ _).alloc (Nat.le_refl _) _).trans hap6.below
  have g6 : Below w3.heap.size w3 w6 := bon g5 hb6
  have hf5b := hf5
  have hf5 := hf5.below hb6
  have ls5 : w3.heap.size ≤ w5.heap.size := g5.size
  obtain ⟨gs, rfl, hgs1, hgs2⟩ : ∃ gs, A5 = some ⟨gs, 0, none⟩ ∧ w3.heap.size ≤ gs ∧ gs < w5.heap.size := by
    cases A5 with
    | none => have := (hf5b.rd (Nat.le_refl _)).nil rfl; omega
    | some ad =>
      obtain ⟨h1, h2, h3, h4, -⟩ := hf5b.frozen ad rfl
      exact ⟨ad.block, by rw [← h3, ← h4], h1, h2⟩
  obtain ⟨gw, rfl⟩ : ∃ gw, A6 = some ⟨gw, 0, none⟩ := by
    cases A6 with
    | none => have := (hf6.rd (Nat.le_refl _)).nil rfl; omega
    | some ad =>
      obtain ⟨-, -, h3, h4, -⟩ := hf6.frozen ad rfl
      exact ⟨ad.block, by rw [← h3, ← h4]⟩
  have hs5 := hf5.rd (Nat.le_refl _)
  rw [← hS] at hs5
  clear hap5 hap6 hb6 hf5b hf4 hb4 g3 rh4 hs4 g5 rh rof
  refine ((takeF_c hs5 (Nat.le_refl _) (by omega)).mono (fun _ _ hp => tkPost_to HTK.out hp)).mono ?_
  rintro e w7 ⟨A7, n7, c7, A8, n8, c8, rfl, hf7, hf8, hb7⟩
  obtain rfl : n7 = len0 := by rw [hf7.len_eq HL0.out]
  obtain rfl : n8 = len1 := by rw [hf8.len_eq HL1.out]
  have f7 := Free.of_fr hf7
  have f8 := Free.of_fr hf8
  clear hf7 hf8 hs5
  have hinv : ApInv w6 w7.heap.size 2 (w7.alloc (.cells #[.slice A7 n7 c7, .slice A8 n8 c8] 22)) := by
    have hbl : Below w7.heap.size w7 (w7.alloc (.cells #[.slice A7 n7 c7, .slice A8 n8 c8] 22)) := (Below.refl _ _).alloc (Nat.le_refl _) _
    refine ⟨blit hb7 _, ⟨_, World.alloc_heap_new w7 _, rfl, fun k hk => ?_⟩, hb7.size⟩
    match k, hk with
    | 0, _ => exact ⟨A7, n7, c7, rfl, f7.below hbl, by omega⟩
    | 1, _ => exact ⟨A8, n8, c8, rfl, f8.below hbl, by omega⟩
  have HF5 := Lib.hid hf5
  have HF6 := Lib.hid hf6
  have RO := Lib.hid ro
  have RB := Lib.hid rb
  have G6 := Lib.hid g6
  have G0 := Lib.hid g0
  clear f7 f8 hb7 hf5 hf6 ro rb g6 g0
  go_wp2_with fail
  go_loopw [51] (fun iv wr => ∃ k : Nat, iv = .int .i64 (k : Int) ∧ k ≤ 2 ∧ ApInv w6 w7.heap.size 2 wr) (fun iv _ => (2 - intOf iv).toNat)
  case atStart => exact ⟨0, rfl, by omega, hinv⟩
  case round =>
    clear hinv
    obtain ⟨k, rfl, hk, hi⟩ := hrel
    by_cases hlt : k < 2
    · have hdk : decide ((k : Int) < 2) = true := by simp; omega
      obtain ⟨A, n, c, hcell, hfree, hn⟩ := hi.at_ hlt
      obtain ⟨wo, rfl⟩ : ∃ wo : World, wo = wr := ⟨_, rfl⟩
      have hni : (n : Int) ≤ 400 := by omega
      go_wp2_with fail
      go_loopw [57] (fun iv wi => ∃ j : Nat, iv = .int .i64 (j : Int) ∧ j ≤ n ∧ ApInv w6 w7.heap.size 2 wi ∧ Free wi w6.heap.size A n) (fun iv _ => (n - intOf iv).toNat)
      case atStart => exact ⟨0, rfl, Nat.zero_le _, hi, hfree⟩
      case round =>
        clear hi hfree hcell
        obtain ⟨j, rfl, hj, hi, hfree⟩ := hrel
        by_cases hjn : j < n
        · have hdj : decide ((j : Int) < (n : Int)) = true := by simp; omega
          have hdj2 : decide (j < n) = true := by simp; omega
          obtain ⟨g, rfl, hg, ⟨v, hv0, hv1, hv⟩, hfz, cur, hh⟩ := hfree.cell hjn
          have hh' := Lib.hid hh
          clear hh
          go_wp2_with fail
          go_roundw
          case rel => exact ⟨j + 1, by simp, by omega, hi.set j hg hh'.out (by omega) (by omega), hfree.set g j (by omega) (by omega)⟩
          case measure => simp [intOf]; omega
        · have hdj : decide ((j : Int) < (n : Int)) = false := by simp; omega
          have hdj2 : decide (j < n) = false := by simp; omega
          go_wp2_with fail
          go_roundw
          case rel => exact ⟨k + 1, by simp, by omega, hi⟩
          case measure => simp [intOf]; omega
    · have hdk : decide ((k : Int) < 2) = false := by simp; omega
      have hz : Below w6.heap.size w6 wr := hi.below
      have hf5 := HF5.out.below hz
      have hf6 := HF6.out.below hz
      have gz : Below w3.heap.size w3 wr := bon G6.out hz
      clear hi
      go_wp2_with fail
      go_loopw [70] (fun iv wr => ∃ (k : Nat) (T : List UInt8), iv = .int .i64 (k : Int) ∧ k ≤ M ∧ Fr wr w3.heap.size 5 (some ⟨gs, 0, none⟩) M c5 (bv T) ∧ (∀ j, k ≤ j → T[j]? = S[j]?) ∧ Fr wr w5.heap.size 5 (some ⟨gw, 0, none⟩) M c6 (bv S) ∧ Below w3.heap.size w3 wr) (fun iv _ => (M - intOf iv).toNat)
      case atStart => exact ⟨0, S, rfl, Nat.zero_le _, hf5, fun _ _ => rfl, hf6, gz⟩
      case round =>
        clear hf5 hf6 gz hz
        obtain ⟨k, T, rfl, hk, hf5, hT, hf6, gz⟩ := hrel
        by_cases hlt : k < M
        · have hdk2 : decide ((k : Int) < (M : Int)) = true := by simp; omega
          have hdk3 : decide (k < M) = true := by simp; omega
          obtain ⟨x, hx⟩ : ∃ x, S[k]? = some x := ⟨_, List.getElem?_eq_getElem (by rw [HSL.out]; exact hlt)⟩
          have hxT : T[k]? = some x := by rw [hT k (Nat.le_refl _)]; exact hx
          have c5' := hf5.cellAt hxT
          have c6' := hf6.cellAt hx
          have fz := hf5.own.frozenAt k
          have hput := hf5.put k (byteOf ((x.toNat + 1) % 256))
          have hv : b8 (byteOf ((x.toNat + 1) % 256)) = .int .u8 (((x.toNat : Int) + 1) % 256) := by
            rw [← u8_byte _ (Nat.mod_lt _ (by decide))]; simp
          rw [hv] at hput
          have hw6 : Fr (wr.setCell ⟨gs, k, none⟩ (.int .u8 (((x.toNat : Int) + 1) % 256))) w5.heap.size 5 (some ⟨gw, 0, none⟩) M c6 (bv S) := ⟨ownsRow_setCell_below hf6.own (a := ⟨gs, k, none⟩) hgs2 _⟩
          have hg2 := gz.setCell (p := ⟨gs, k, none⟩) hgs1 (.int .u8 (((x.toNat : Int) + 1) % 256))
          have hT2 : ∀ j, k + 1 ≤ j → (T.set k (byteOf ((x.toNat + 1) % 256)))[j]? = S[j]? := fun j hj => by
            rw [List.getElem?_set_ne (by omega)]; exact hT j (by omega)
          have hx8 : x.toNat < 256 := x.toNat_lt
          have HPUT := Lib.hid hput
          have HW6 := Lib.hid hw6
          have HG2 := Lib.hid hg2
          have HT2 := Lib.hid hT2
          clear hput hw6 hg2 hT2 hT hx hxT hf5 hf6 gz hv
          go_wp2_with fail
          go_region
          go_wp2_with fail
          go_roundw
          case rel => exact ⟨k + 1, _, by simp, by omega, HPUT.out.below (below_drewN (Below.refl _ _) 1), HT2.out, HW6.out.below (below_drewN (Below.refl _ _) 1), below_drewN HG2.out 1⟩
          case measure => simp [intOf]; omega
        · obtain rfl : k = M := by omega
          have hdk2 : decide ((k : Int) < (k : Int)) = false := by simp
          have hdk3 : decide (k < k) = false := by simp
          have q0 := RO.out.now gz
          have q1 := RB.out.now gz
          have q2 := q0.front (k := n7) (by omega)
          rw [bv_take, show (l0 ++ [(7 : UInt8)]).take n7 = l0 from List.take_left' HL0.out] at q2
          have hc7 : wr.cell? ⟨go, n7, none⟩ = some (.int .u8 7) := by
            obtain ⟨b, off, e, _, hc⟩ := q0.form (by omega)
            injection e with e
            injection e with e1 e2
            subst e1
            subst e2
            have := hc n7 (b8 7) (by rw [bv_append, List.getElem?_append_right (by rw [bv_length, HL0.out]; omega), bv_length, HL0.out, Nat.sub_self]; rfl)
            rwa [Nat.zero_add] at this
          have hs8 := fun W => run_slice_hi_gen (P := Try.prog) (n := n7) (A := some ⟨go, 0, none⟩) 22 5 Try.underlying22 info_u8 .i64 (k := n7 + 1) (c := c3) hc3 W
          rw [show ((n7 + 1 : Nat) : Int) = (n7 : Int) + 1 by omega] at hs8
          obtain ⟨i0, hi, hz0, hz1, hz2⟩ := info_parts info_u8
          have GZ := Lib.hid (bon G0.out gz)
          clear q0 hf5 hf6 gz hT
          have hii : (n7 : Int) < (n7 : Int) + 1 := by omega
          go_wp2_with fail
          refine (same_t q2 q1 rfl).mono ?_
          rintro e w' ⟨rfl, rfl⟩
          go_wp2_with (at_make; refine wpList_make_full_g _ rfl _ _ 22 rfl wr.heap.size 5 i0 _ 1 Try.underlying22 hi hz0 hz1 .i64 .i64 _ _ 1048577 rfl rfl rfl rfl (by rw [hz2]; decide) (by decide) (Nat.le_refl _) ?_; intro w8 hown8 hg8; have hb8 : Below wr.heap.size wr w8 := (Below.refl _ wr).grown hg8 (Nat.le_refl _) (fun k e => by cases e))
          clear hown8 hg8 hi hz0 hz1 hz2
          refine (seal_no (n := 1048577) (by decide)).mono ?_
          rintro e w' ⟨rfl, rfl⟩
          go_wp2_with fail
          refine awake_c.mono ?_
          rintro e w99 ⟨rfl, hb99⟩
          go_wp2_with fail
          go_ret
          exact ⟨rfl, bon (bon GZ.out hb8) hb99⟩

/-! ### THE ROW's STEP: WRITTEN OUT: LEAVE IT -/
set_option maxRecDepth 100000 in
theorem lifted (os : Os) (started : os.Started) (H : Type) (enc : TypeId × Value → H) :
    ReturnsInHanded {} Try.checked os 8 .any (Rows.frameApartSpec.pre6 enc Try.prog Try.f8 Rows.frameApartRow.domain false) (Rows.frameApartSpec.post enc Try.prog Try.f8 false true false false) := by
  refine returnsInHanded_of_change (C := Try.checked) own started (by kernel_rfl) Try.func8
    (ChangeSpec.witness6 (enc := enc) (C := Try.checked) false ⟨#[], #[.slice none 0 0, .slice none 0 0], []⟩ 8 (by kernel_rfl) (by kernel_rfl) (by kernel_rfl) (by kernel_rfl)) ?_
  intro W base args ds gs before hval0 hW hcnd _
  have hval : ∀ (j : Nat) t v, Try.f8.params[j]? = some t → args[j]? = some v → Value.okWide Try.prog W .any base t v := hval0
  have hW' := hW
  obtain ⟨p, q, hA0, hV, rfl, hfz, hnd⟩ := hW
  have hA : DataW.TrodAll enc Try.prog W 0 (fun _ => true) true Try.f8.params.toList args.toList ds p := hA0
  rw [Try.params8] at hA hval
  obtain ⟨v0, vs0, d0, ds0, p0, q0, hargs, rfl, rfl, h0, r0⟩ := trodAll_cons hA
  obtain ⟨v1, vs1, d1, ds1, p1, q1, rfl, rfl, rfl, h1, r1⟩ := trodAll_cons r0
  obtain ⟨rfl, rfl, rfl⟩ := trodAll_nil r1
  obtain rfl : args = #[v0, v1] := by cases args; simp_all
  obtain ⟨rfl, rfl⟩ := trodVars_none hV
  obtain ⟨a0, len0, cap0, rfl⟩ := okWide_slice Try.underlying22 (hval 0 22 v0 rfl rfl)
  have k0 := h0
  have lt0 : ∀ x ∈ p0, x.block < W.heap.size := by obtain ⟨m, hm⟩ := k0; exact DataW.trod_lt m _ _ _ hm
  obtain ⟨z0, w0⟩ : ∃ zs, IsRow .u8 W a0 len0 cap0 zs := by
    obtain ⟨fuel, hf⟩ := h0
    rcases open_ints Try.underlying22 Try.underlying5 (by kernel_rfl) hf with ⟨hcs, _⟩ | ⟨x, l, c, zs, hcs, _, hl, hm, hz, _, hcell, hwz⟩
    · simp [Value.cells] at hcs
      obtain ⟨rfl, rfl, rfl⟩ := hcs
      exact ⟨[], .inl ⟨rfl, rfl, rfl, rfl⟩⟩
    · simp [Value.cells] at hcs
      obtain ⟨rfl, rfl, rfl⟩ := hcs
      exact ⟨zs, .inr ⟨_, rfl, hl, hm, by simpa using hz, hcell, hwz⟩⟩
  obtain ⟨a1, len1, cap1, rfl⟩ := okWide_slice Try.underlying22 (hval 1 22 v1 rfl rfl)
  have k1 := h1
  have lt1 : ∀ x ∈ p1, x.block < W.heap.size := by obtain ⟨m, hm⟩ := k1; exact DataW.trod_lt m _ _ _ hm
  obtain ⟨z1, w1⟩ : ∃ zs, IsRow .u8 W a1 len1 cap1 zs := by
    obtain ⟨fuel, hf⟩ := h1
    rcases open_ints Try.underlying22 Try.underlying5 (by kernel_rfl) hf with ⟨hcs, _⟩ | ⟨x, l, c, zs, hcs, _, hl, hm, hz, _, hcell, hwz⟩
    · simp [Value.cells] at hcs
      obtain ⟨rfl, rfl, rfl⟩ := hcs
      exact ⟨[], .inl ⟨rfl, rfl, rfl, rfl⟩⟩
    · simp [Value.cells] at hcs
      obtain ⟨rfl, rfl, rfl⟩ := hcs
      exact ⟨zs, .inr ⟨_, rfl, hl, hm, by simpa using hz, hcell, hwz⟩⟩
  clear hA0 hval0
  refine (walk a0 len0 cap0 z0 a1 len1 cap1 z1 W w0 w1).mono fun e W' ⟨he, bel⟩ => ?_
  subst he
  exact ⟨_, rfl, _, _, _, [], _, [], hW', trodAll_mk1 (shut_bool Try.underlying4 _), (trodAll_cons_mk (Below.trod laidOut (by kernel_rfl) (of_decide_eq_true (by kernel_rfl)) k0 bel lt0) (trodAll_cons_mk (Below.trod laidOut (by kernel_rfl) (of_decide_eq_true (by kernel_rfl)) k1 bel lt1) trodAll_mk0)), rfl, bel.frame _, fun h => by cases h⟩

theorem over : Rows.frameApartRow.holds Try.pinned (OpenSpec.ofChange Rows.frameApartSpec) :=
  OpenClaim.holds_of_wide 8 Try.f8 rfl rfl rfl rfl rfl rfl rfl ⟨rfl, rfl, rfl, rfl, rfl⟩ rfl rfl rfl rfl rfl (by kernel_rfl) Try.func8 (by kernel_rfl)
    (of_decide_eq_true (by kernel_rfl)) (by unfold Func.isWrapper; first | (rw [if_pos (by decide +kernel)]; kernel_rfl) | (rw [if_neg (by decide +kernel)]; exact ⟨rfl, rfl⟩))
    (fun os started H enc _ => lifted os started H enc)

/-- ████ THE STATEMENT ████ -/
theorem proved : Rows.FrameApartSaid := over
#print axioms proved
end Go.Proofs.Ytpligjdpofcbbaa.frameApart
