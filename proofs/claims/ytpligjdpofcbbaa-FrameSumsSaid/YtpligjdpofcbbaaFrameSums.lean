/-
  FrameSums: of three rows of bytes as long as one another, and the one that has, bit by bit, what an odd number of them has on, the sums are so, too; with another last byte it is another sum. No condition.
-/
import Derived.Test.YtpligjdpofcbbaaRows
import Derived.Test.YtpligjdpofcbbaaFrS
import Derived.WalkKit
import Derived.ProofKit
import Derived.OpenShut
import Derived.ShutString
import Derived.ChangeOld
import Derived.Below
namespace Go.Proofs.Ytpligjdpofcbbaa.frameSums
open Go.ChangeShapes Go.WideShapes Go.ChangeAt Go.RowKit
open Go.ChangeMaps (open_string shut_string)
set_option linter.unusedVariables false

theorem own : ownKnob Try.prog.godebug = none := by kernel_rfl
theorem laidOut : laidOutB Try.prog = true := by kernel_rfl

/-- WHAT THE WALK IS TOLD OF A SLICE OF INTEGERS THAT CAME IN: it is nil; or it leads to a row of 'cap' cells, the numbers 'zs' (the first 'len' are its elements, the rest its spare room), each fitting its kind. -/
def IsRow (k : IntKind) (w : World) (a : Option Addr) (len cap : Nat) (zs : List Int) : Prop :=
  (a = none ∧ len = 0 ∧ cap = 0 ∧ zs = []) ∨
  ∃ x, a = some x ∧ len ≤ cap ∧ cap ≤ maxLen ∧ zs.length = cap ∧ (∀ i, i < zs.length → w.cell? (x.add i) = some (.int k (zs.getD i 0))) ∧ ∀ n ∈ zs, (Lit.int k n).wf = true

/-! ### STEP 1: THE WALK -/
set_option maxRecDepth 100000 in
set_option maxHeartbeats 8000000 in
theorem walk (a0 : Option Addr) (len0 cap0 : Nat) (z0 : List Int) (a1 : Option Addr) (len1 cap1 : Nat) (z1 : List Int) (a2 : Option Addr) (len2 cap2 : Nat) (z2 : List Int) (a3 : Int) (a4 : Int) (w : World) (w0 : IsRow .u8 w a0 len0 cap0 z0) (w1 : IsRow .u8 w a1 len1 cap1 z1) (w2 : IsRow .u8 w a2 len2 cap2 z2) (w3 : (Lit.int .u8 a3).wf = true) (w4 : (Lit.int .u8 a4).wf = true) :
    Calls Try.prog 7 #[.slice a0 len0 cap0, .slice a1 len1 cap1, .slice a2 len2 cap2, .int .u8 a3, .int .u8 a4] w fun e w' => e = .returned (.bool true) ∧ Below w.heap.size w w' := by
  obtain ⟨l0, hl0, hR0⟩ := rd_of_row w0
  have hcap0 := hR0.cap
  have hmax0 := hR0.max
  unfold maxLen at hmax0
  have hi0 : (len0 : Int) ≤ 9223372036854775807 := by omega
  obtain ⟨l1, hl1, hR1⟩ := rd_of_row w1
  have hcap1 := hR1.cap
  have hmax1 := hR1.max
  unfold maxLen at hmax1
  have hi1 : (len1 : Int) ≤ 9223372036854775807 := by omega
  obtain ⟨l2, hl2, hR2⟩ := rd_of_row w2
  have hcap2 := hR2.cap
  have hmax2 := hR2.max
  unfold maxLen at hmax2
  have hi2 : (len2 : Int) ≤ 9223372036854775807 := by omega
  have bd3 := bounds_u8' w3
  have bd4 := bounds_u8' w4
  clear w0 w1 w2 w3 w4 hmax0 hmax1 hmax2
  obtain ⟨x, rfl⟩ := Int.eq_ofNat_of_zero_le bd3.1
  obtain ⟨y, rfl⟩ := Int.eq_ofNat_of_zero_le bd4.1
  obtain ⟨n, hn0, hn1, hn2, hn3, hnn⟩ : ∃ n : Nat, n ≤ len0 ∧ n ≤ len1 ∧ n ≤ len2 ∧ n ≤ 200 ∧ n = min (min (min len0 len1) len2) 200 := ⟨_, by omega, by omega, by omega, by omega, rfl⟩
  have hmin : ∀ (W : World) (ts : Array TypeId) (t : TypeId), (Builtin.min_ ts t #[.int .i64 (len0 : Int), .int .i64 (len1 : Int), .int .i64 (len2 : Int), .int .i64 200]).run Try.prog W = .ok (.int .i64 (n : Int)) W := by
    intro W ts t; rw [run_min4, show min (min (min (len0 : Int) (len1 : Int)) (len2 : Int)) 200 = (n : Int) by omega]
  have hni : (n : Int) ≤ 200 := by omega
  have ha : (l0.take n).length = n := by rw [List.length_take]; omega
  have hb : (l1.take n).length = n := by rw [List.length_take]; omega
  have hc : (l2.take n).length = n := by rw [List.length_take]; omega
  obtain ⟨X, hX⟩ : ∃ X, xor3 (l0.take n) (l1.take n) (l2.take n) = X := ⟨_, rfl⟩
  have hXl : X.length = n := by rw [← hX]; exact xor3_len ha hb hc
  have hsum : sumL X = sumL (l0.take n) ^^^ sumL (l1.take n) ^^^ sumL (l2.take n) := by rw [← hX]; exact sum_xor3 _ _ _ (by omega) (by omega)
  have hget : ∀ k < n, ∃ u0 u1 u2 : UInt8, l0[k]? = some u0 ∧ l1[k]? = some u1 ∧ l2[k]? = some u2 ∧ X[k]? = some (u0 ^^^ u1 ^^^ u2) := by
    intro k hk
    obtain ⟨u0, e0⟩ : ∃ u, l0[k]? = some u := ⟨_, List.getElem?_eq_getElem (by omega)⟩
    obtain ⟨u1, e1⟩ : ∃ u, l1[k]? = some u := ⟨_, List.getElem?_eq_getElem (by omega)⟩
    obtain ⟨u2, e2⟩ : ∃ u, l2[k]? = some u := ⟨_, List.getElem?_eq_getElem (by omega)⟩
    refine ⟨_, _, _, e0, e1, e2, ?_⟩
    rw [← hX]
    exact xor3_get (by rw [List.getElem?_take_of_lt hk]; exact e0) (by rw [List.getElem?_take_of_lt hk]; exact e1) (by rw [List.getElem?_take_of_lt hk]; exact e2)
  have HGET := Lib.hid hget
  have HXL := Lib.hid hXl
  have HSUM := Lib.hid hsum
  have HLL0 := Lib.hid hl0
  have HLL1 := Lib.hid hl1
  have HLL2 := Lib.hid hl2
  clear hget hXl hsum hX ha hb hc hnn hl0 hl1 hl2
  obtain ⟨i0, hi, hz0, hz1, hz2⟩ := info_parts info_u8
  go_enter Try.func7, Try.ntmps7
  go_wp2_with (at_make; refine wpList_make_full _ rfl _ _ 22 rfl w.heap.size 5 i0 _ 1 Try.underlying22 hi hz0 hz1 .i64 .i64 _ _ n rfl rfl rfl rfl (by rw [hz2]; omega) (by unfold maxLen; omega) (Nat.le_refl _) ?_; intro w1 hown1 hg1; have hb1 : Below w.heap.size w w1 := (Below.refl _ w).grown hg1 (Nat.le_refl _) (fun k e => by cases e))
  have hf1 : Fr w1 w.heap.size 5 (some ⟨w.heap.size, 0, none⟩) n n (bv (fillL X n 0)) := ⟨by
    have := hown1
    rw [fill_zero]
    rw [show (Value.int .u8 0).cells = #[.int .u8 0] from rfl, Nat.mul_one, toList_madeCells_one] at this
    simpa [bv, b8] using this⟩
  clear hown1 hg1 hi hz0 hz1 hz2
  obtain ⟨g, hg⟩ : ∃ g, w.heap.size = g := ⟨_, rfl⟩
  rw [hg] at hf1 ⊢
  go_loopw [27] (fun iv wr => ∃ k : Nat, iv = .int .i64 (k : Int) ∧ k ≤ n ∧ Fr wr g 5 (some ⟨g, 0, none⟩) n n (bv (fillL X n k)) ∧ Below w.heap.size w wr) (fun iv _ => ((n : Int) - intOf iv).toNat)
  case atStart => exact ⟨0, rfl, Nat.zero_le _, hf1, hb1⟩
  case round =>
    clear hf1 hb1
    obtain ⟨k, rfl, hk, hf, gr⟩ := hrel
    by_cases hlt : k < n
    · have hdk : decide ((k : Int) < (n : Int)) = true := by simp; omega
      have hdk2 : decide (k < n) = true := by simp; omega
      obtain ⟨u0, u1, u2, e0, e1, e2, eX⟩ := HGET.out k hlt
      obtain ⟨hset, hzero⟩ := fill_next HXL.out eX
      obtain ⟨b0, off0, rfl, hbl0, hc0⟩ := hR0.form (by omega)
      obtain ⟨b1, off1, rfl, hbl1, hc1⟩ := hR1.form (by omega)
      obtain ⟨b2, off2, rfl, hbl2, hc2⟩ := hR2.form (by omega)
      have c0 : wr.cell? ⟨b0, off0 + k, none⟩ = some (.int .u8 (u0.toNat : Int)) := (gr.cell (p := ⟨b0, off0 + k, none⟩) hbl0).trans (hc0 k (b8 u0) (by simp [bv, e0]))
      have c1 : wr.cell? ⟨b1, off1 + k, none⟩ = some (.int .u8 (u1.toNat : Int)) := (gr.cell (p := ⟨b1, off1 + k, none⟩) hbl1).trans (hc1 k (b8 u1) (by simp [bv, e1]))
      have c2 : wr.cell? ⟨b2, off2 + k, none⟩ = some (.int .u8 (u2.toNat : Int)) := (gr.cell (p := ⟨b2, off2 + k, none⟩) hbl2).trans (hc2 k (b8 u2) (by simp [bv, e2]))
      have cg := hf.cellAt hzero
      have fg := hf.own.frozenAt k
      have x1 : bits .xor .u8 (u0.toNat : Int) (u1.toNat : Int) = ((u0 ^^^ u1).toNat : Int) := by rw [u8_xor_nat _ _ u0.toNat_lt u1.toNat_lt, UInt8.toNat_xor]
      have x2 : bits .xor .u8 ((u0 ^^^ u1).toNat : Int) (u2.toNat : Int) = ((u0 ^^^ u1 ^^^ u2).toNat : Int) := by rw [u8_xor_nat _ _ (u0 ^^^ u1).toNat_lt u2.toNat_lt, UInt8.toNat_xor (u0 ^^^ u1)]
      have hput := hf.put k (u0 ^^^ u1 ^^^ u2)
      rw [hset] at hput
      have hg2 := below_drewN (gr.setCell (p := ⟨g, k, none⟩) (by show w.heap.size ≤ g; omega) (b8 (u0 ^^^ u1 ^^^ u2))) 1
      generalize u0 ^^^ u1 ^^^ u2 = u3 at *
      generalize u0 ^^^ u1 = u4 at *
      have HPUT := Lib.hid hput
      have HG2 := Lib.hid hg2
      have HR0 := Lib.hid hR0
      have HR1 := Lib.hid hR1
      have HR2 := Lib.hid hR2
      clear hput hg2 hset hzero hf gr e0 e1 e2 eX hc0 hc1 hc2 hR0 hR1 hR2
      go_wp2_with fail
      go_region
      go_wp2_with fail
      go_roundw
      case rel => exact ⟨k + 1, by simp, by omega, HPUT.out.below (below_drewN (Below.refl _ _) 1), HG2.out⟩
      case measure => simp [intOf]; omega
    · obtain rfl : k = n := by omega
      have hdk : decide ((k : Int) < (k : Int)) = false := by simp
      have hdk2 : decide (k < k) = false := by simp
      rw [fill_all HXL.out] at hf
      have rd := hf.rd (Nat.le_refl _)
      clear hf
      have lx : x < 256 := by omega
      have ly : y < 256 := by omega
      go_wp2_with (first
        | (at_builtin; refine wpList_app rfl (.tmp 48) (.tmp 49) _ rfl Try.underlying22 info_u8 rfl rfl (Fr.new wr 5 #[] rfl (Nat.le_refl _) (Nat.zero_le _)) rfl (rd.alloc (Nat.le_refl _) _) (bv_one _) (by omega) (by omega) (by simp) ?_; intro A2 c2 w2 hap2; have hf2 : Fr w2 wr.heap.size 5 A2 k c2 (bv X) := (by have := hap2.fr; rwa [Nat.zero_add] at this); have hb2 : Below wr.heap.size wr w2 := ((Below.refl _ _).alloc (Nat.le_refl _) _).trans hap2.below; have hs2 := hb2.size)
        | (at_builtin; refine wpList_app rfl (.tmp 50) (.tmp 52) _ rfl Try.underlying22 info_u8 rfl rfl (hf2.alloc (.cells #[.int .u8 (x : Int)] 5)) rfl (Rd.litb w2 [byteOf x] (g := w2.heap.size) rfl (by simp [bv, u8_byte _ lx]) rfl (by decide)) (bv_one _) (by omega) (by omega) (by simp; omega) ?_; intro A3 c3 w3 hap3))
      have hf3 := hap3.fr
      rw [← bv_append] at hf3
      have hb3 : Below wr.heap.size wr w3 := (hb2.alloc hb2.size _).trans hap3.below
      have rd := rd.now hb3
      have gr := bon gr hb3
      have rs3 := hf3.rd (Nat.le_refl _)
      clear hf2 hap2 hap3 hf3 hb2 hb3 hs2
      refine (sum_c rs3 (Nat.le_refl _)).mono ?_
      rintro e w4 ⟨rfl, hb4⟩
      have rd := rd.now hb4
      have gr := bon gr hb4
      clear rs3 hb4
      go_wp2_with (first
        | (at_builtin; refine wpList_app rfl (.tmp 55) (.tmp 56) _ rfl Try.underlying22 info_u8 rfl rfl (Fr.new w4 5 #[] rfl (Nat.le_refl _) (Nat.zero_le _)) rfl (rd.alloc (Nat.le_refl _) _) (bv_one _) (by omega) (by omega) (by simp) ?_; intro A5 c5 w5 hap5; have hf5 : Fr w5 w4.heap.size 5 A5 k c5 (bv X) := (by have := hap5.fr; rwa [Nat.zero_add] at this); have hb5 : Below w4.heap.size w4 w5 := ((Below.refl _ _).alloc (Nat.le_refl _) _).trans hap5.below; have hs5 := hb5.size)
        | (at_builtin; refine wpList_app rfl (.tmp 57) (.tmp 59) _ rfl Try.underlying22 info_u8 rfl rfl (hf5.alloc (.cells #[.int .u8 (y : Int)] 5)) rfl (Rd.litb w5 [byteOf y] (g := w5.heap.size) rfl (by simp [bv, u8_byte _ ly]) rfl (by decide)) (bv_one _) (by omega) (by omega) (by simp; omega) ?_; intro A6 c6 w6 hap6))
      have hf6 := hap6.fr
      rw [← bv_append] at hf6
      have hb6 : Below w4.heap.size w4 w6 := (hb5.alloc hb5.size _).trans hap6.below
      have rd := rd.now hb6
      have gr := bon gr hb6
      have rs6 := hf6.rd (Nat.le_refl _)
      clear hf5 hap5 hap6 hf6 hb5 hb6 hs5
      refine (sum_c rs6 (Nat.le_refl _)).mono ?_
      rintro e w7 ⟨rfl, hb7⟩
      have rd := rd.now hb7
      have gr := bon gr hb7
      clear rs6 hb7
      have q0 := (hR0.now gr).front (k := k) hn0
      have q1 := (hR1.now gr).front (k := k) hn1
      have q2 := (hR2.now gr).front (k := k) hn2
      rw [bv_take] at q0 q1 q2
      have hsd : ∀ W, Below w7.heap.size w7 W → Calls Try.prog 11 #[.slice (some ⟨g, 0, none⟩) k k] W (RetU W (sumL X)) := fun W hb => sum_c ((rd).now hb) (Nat.le_refl _)
      have hsa : ∀ W, Below w7.heap.size w7 W → Calls Try.prog 11 #[.slice a0 k cap0] W (RetU W (sumL (l0.take k))) := fun W hb => sum_c ((q0).now hb) (Nat.le_refl _)
      have hsb : ∀ W, Below w7.heap.size w7 W → Calls Try.prog 11 #[.slice a1 k cap1] W (RetU W (sumL (l1.take k))) := fun W hb => sum_c ((q1).now hb) (Nat.le_refl _)
      have hsc : ∀ W, Below w7.heap.size w7 W → Calls Try.prog 11 #[.slice a2 k cap2] W (RetU W (sumL (l2.take k))) := fun W hb => sum_c ((q2).now hb) (Nat.le_refl _)
      have hx1 : bits .xor .u32 ((sumL (l0.take k)).toNat : Int) ((sumL (l1.take k)).toNat : Int) = ((sumL (l0.take k) ^^^ sumL (l1.take k)).toNat : Int) := by
        rw [u32_xor_nat _ _ (sumL (l0.take k)).isLt (sumL (l1.take k)).isLt, BitVec.toNat_xor]
      have hx2 : bits .xor .u32 ((sumL (l0.take k) ^^^ sumL (l1.take k)).toNat : Int) ((sumL (l2.take k)).toNat : Int) = ((sumL X).toNat : Int) := by
        rw [u32_xor_nat _ _ (sumL (l0.take k) ^^^ sumL (l1.take k)).isLt (sumL (l2.take k)).isLt, HSUM.out]
        simp only [BitVec.toNat_xor]
      obtain ⟨bb, hbb⟩ : ∃ bb, ((x : Int) == (y : Int)) = bb := ⟨_, rfl⟩
      have hbs : (((sumL (X ++ [byteOf x])).toNat : Int) == ((sumL (X ++ [byteOf y])).toNat : Int)) = bb := by
        rw [← hbb]
        by_cases e : x = y
        · subst e; rw [beq_self_eq_true, beq_self_eq_true]
        · have h1 : (x : Int) ≠ (y : Int) := by omega
          have h2 : ((sumL (X ++ [byteOf x])).toNat : Int) ≠ ((sumL (X ++ [byteOf y])).toNat : Int) := by
            intro h
            have h3 : sumL (X ++ [byteOf x]) = sumL (X ++ [byteOf y]) := BitVec.eq_of_toNat_eq (by omega)
            have h4 := congrArg UInt8.toNat ((sum_last X _ _).1 h3)
            rw [byteOf_toNat lx, byteOf_toNat ly] at h4
            exact e h4
          rw [beq_eq_false_iff_ne.2 h1, beq_eq_false_iff_ne.2 h2]
      have hs0 := fun W => run_slice_hi_gen (P := Try.prog) (n := len0) (A := a0) 22 5 Try.underlying22 info_u8 .i64 (k := k) (c := cap0) (by omega) W
      have hs1 := fun W => run_slice_hi_gen (P := Try.prog) (n := len1) (A := a1) 22 5 Try.underlying22 info_u8 .i64 (k := k) (c := cap1) (by omega) W
      have hs2 := fun W => run_slice_hi_gen (P := Try.prog) (n := len2) (A := a2) 22 5 Try.underlying22 info_u8 .i64 (k := k) (c := cap2) (by omega) W
      have GR := Lib.hid gr
      generalize sumL (X ++ [byteOf x]) = T1 at *
      generalize sumL (X ++ [byteOf y]) = T2 at *
      generalize sumL (l0.take k) ^^^ sumL (l1.take k) = T3 at *
      generalize sumL X = T4 at *
      generalize sumL (l0.take k) = T5 at *
      generalize sumL (l1.take k) = T6 at *
      generalize sumL (l2.take k) = T7 at *
      generalize (T1.toNat : Int) = t1 at *
      generalize (T2.toNat : Int) = t2 at *
      generalize (x : Int) = xi at *
      generalize (y : Int) = yi at *
      have HD := Lib.hid hsd
      have HA := Lib.hid hsa
      have HB := Lib.hid hsb
      have HC := Lib.hid hsc
      clear hsd hsa hsb hsc rd gr q0 q1 q2 hR0 hR1 hR2 HGET HSUM hmin
      have gx0 : Below w7.heap.size w7 w7.drew := below_drewN (Below.refl _ _) 1
      go_wp2_with fail
      refine wp_region_any (by kernel_rfl) ?_
      try (change wpAny _ _ _ _ _ _ _ (World.drew _))
      refine wpAny_take (i := 0) (oi := { dst := some 62, op := Op.move (Operand.tmp 12), type := 22, pos := "outright.go:88", after := #[], guard := none }) (v := ?v0) rfl (by kernel_rfl) (by kernel_rfl) (by kernel_rfl) (fun _ _ _ h => h) (Or.inl ⟨by rfl, ?hy0⟩) ?rest0
      case hy0 => (intro w; go_simp; try with_reducible rfl)
      try simp only [Act.put, List.setIfInBounds_toArray, List.set_cons_zero, List.set_cons_succ]
      refine wpAny_take (i := 2) (oi := { dst := some 64, op := Op.move (Operand.tmp 0), type := 22, pos := "outright.go:88", after := #[], guard := none }) (v := ?v2) rfl (by kernel_rfl) (by kernel_rfl) (by kernel_rfl) (fun _ _ _ h => h) (Or.inl ⟨by rfl, ?hy2⟩) ?rest2
      case hy2 => (intro w; go_simp; try with_reducible rfl)
      try simp only [Act.put, List.setIfInBounds_toArray, List.set_cons_zero, List.set_cons_succ]
      refine wpAny_take (i := 3) (oi := { dst := some 65, op := Op.move (Operand.tmp 11), type := 3, pos := "outright.go:88", after := #[], guard := none }) (v := ?v3) rfl (by kernel_rfl) (by kernel_rfl) (by kernel_rfl) (fun _ _ _ h => h) (Or.inl ⟨by rfl, ?hy3⟩) ?rest3
      case hy3 => (intro w; go_simp; try with_reducible rfl)
      try simp only [Act.put, List.setIfInBounds_toArray, List.set_cons_zero, List.set_cons_succ]
      refine wpAny_take (i := 4) (oi := { dst := some 66, op := Op.slice 22 (Operand.tmp 64) none (some (Operand.tmp 65)) none, type := 22, pos := "outright.go:88", after := #[{ on := 2, ground := Ground.data }, { on := 3, ground := Ground.data }], guard := none }) (v := ?v4) rfl (by kernel_rfl) (by kernel_rfl) (by kernel_rfl) (fun _ _ _ h => h) (Or.inl ⟨by rfl, ?hy4⟩) ?rest4
      case hy4 => (intro w; go_simp; try with_reducible rfl)
      try simp only [Act.put, List.setIfInBounds_toArray, List.set_cons_zero, List.set_cons_succ]
      refine wpAny_take (i := 6) (oi := { dst := some 68, op := Op.move (Operand.tmp 1), type := 22, pos := "outright.go:88", after := #[], guard := none }) (v := ?v6) rfl (by kernel_rfl) (by kernel_rfl) (by kernel_rfl) (fun _ _ _ h => h) (Or.inl ⟨by rfl, ?hy6⟩) ?rest6
      case hy6 => (intro w; go_simp; try with_reducible rfl)
      try simp only [Act.put, List.setIfInBounds_toArray, List.set_cons_zero, List.set_cons_succ]
      refine wpAny_take (i := 7) (oi := { dst := some 69, op := Op.move (Operand.tmp 11), type := 3, pos := "outright.go:88", after := #[], guard := none }) (v := ?v7) rfl (by kernel_rfl) (by kernel_rfl) (by kernel_rfl) (fun _ _ _ h => h) (Or.inl ⟨by rfl, ?hy7⟩) ?rest7
      case hy7 => (intro w; go_simp; try with_reducible rfl)
      try simp only [Act.put, List.setIfInBounds_toArray, List.set_cons_zero, List.set_cons_succ]
      refine wpAny_take (i := 8) (oi := { dst := some 70, op := Op.slice 22 (Operand.tmp 68) none (some (Operand.tmp 69)) none, type := 22, pos := "outright.go:88", after := #[{ on := 6, ground := Ground.data }, { on := 7, ground := Ground.data }], guard := none }) (v := ?v8) rfl (by kernel_rfl) (by kernel_rfl) (by kernel_rfl) (fun _ _ _ h => h) (Or.inl ⟨by rfl, ?hy8⟩) ?rest8
      case hy8 => (intro w; go_simp; try with_reducible rfl)
      try simp only [Act.put, List.setIfInBounds_toArray, List.set_cons_zero, List.set_cons_succ]
      refine wpAny_take (i := 11) (oi := { dst := some 73, op := Op.move (Operand.tmp 2), type := 22, pos := "outright.go:88", after := #[], guard := none }) (v := ?v11) rfl (by kernel_rfl) (by kernel_rfl) (by kernel_rfl) (fun _ _ _ h => h) (Or.inl ⟨by rfl, ?hy11⟩) ?rest11
      case hy11 => (intro w; go_simp; try with_reducible rfl)
      try simp only [Act.put, List.setIfInBounds_toArray, List.set_cons_zero, List.set_cons_succ]
      refine wpAny_take (i := 12) (oi := { dst := some 74, op := Op.move (Operand.tmp 11), type := 3, pos := "outright.go:88", after := #[], guard := none }) (v := ?v12) rfl (by kernel_rfl) (by kernel_rfl) (by kernel_rfl) (fun _ _ _ h => h) (Or.inl ⟨by rfl, ?hy12⟩) ?rest12
      case hy12 => (intro w; go_simp; try with_reducible rfl)
      try simp only [Act.put, List.setIfInBounds_toArray, List.set_cons_zero, List.set_cons_succ]
      refine wpAny_take (i := 13) (oi := { dst := some 75, op := Op.slice 22 (Operand.tmp 73) none (some (Operand.tmp 74)) none, type := 22, pos := "outright.go:88", after := #[{ on := 11, ground := Ground.data }, { on := 12, ground := Ground.data }], guard := none }) (v := ?v13) rfl (by kernel_rfl) (by kernel_rfl) (by kernel_rfl) (fun _ _ _ h => h) (Or.inl ⟨by rfl, ?hy13⟩) ?rest13
      case hy13 => (intro w; go_simp; try with_reducible rfl)
      try simp only [Act.put, List.setIfInBounds_toArray, List.set_cons_zero, List.set_cons_succ]
      refine wpAny_ready (rs := [1]) (by kernel_rfl) (by simp) ?_
      refine AllReady.cons (o := { dst := some 63, op := Op.call { callee := Callee.value (Operand.func 11), args := #[Operand.tmp 62], argTypes := #[22] }, type := 25, pos := "outright.go:88", after := #[{ on := 0, ground := Ground.data }], guard := none }) rfl (fun K hK => ?_) AllReady.nil
      go_simp
      refine (HD.out _ gx0).mono ?_
      rintro e v1 ⟨rfl, hq1⟩
      have gx1 := bon gx0 hq1
      dsimp only
      refine hK _ _ ?_
      clear hK K
      try simp only [Act.put, List.setIfInBounds_toArray, List.set_cons_zero, List.set_cons_succ]
      refine wpAny_ready (rs := [5]) (by kernel_rfl) (by simp) ?_
      refine AllReady.cons (o := { dst := some 67, op := Op.call { callee := Callee.value (Operand.func 11), args := #[Operand.tmp 66], argTypes := #[22] }, type := 25, pos := "outright.go:88", after := #[{ on := 4, ground := Ground.data }, { on := 1, ground := Ground.chain }], guard := none }) rfl (fun K hK => ?_) AllReady.nil
      go_simp
      refine (HA.out _ gx1).mono ?_
      rintro e v2 ⟨rfl, hq2⟩
      have gx2 := bon gx1 hq2
      dsimp only
      refine hK _ _ ?_
      clear hK K
      try simp only [Act.put, List.setIfInBounds_toArray, List.set_cons_zero, List.set_cons_succ]
      refine wpAny_ready (rs := [9]) (by kernel_rfl) (by simp) ?_
      refine AllReady.cons (o := { dst := some 71, op := Op.call { callee := Callee.value (Operand.func 11), args := #[Operand.tmp 70], argTypes := #[22] }, type := 25, pos := "outright.go:88", after := #[{ on := 8, ground := Ground.data }, { on := 5, ground := Ground.chain }], guard := none }) rfl (fun K hK => ?_) AllReady.nil
      go_simp
      refine (HB.out _ gx2).mono ?_
      rintro e v3 ⟨rfl, hq3⟩
      have gx3 := bon gx2 hq3
      dsimp only
      refine hK _ _ ?_
      clear hK K
      try simp only [Act.put, List.setIfInBounds_toArray, List.set_cons_zero, List.set_cons_succ]
      refine wpAny_take (i := 10) (oi := { dst := some 72, op := Op.binOp BinOp.xor 25 (Operand.tmp 67) (Operand.tmp 71) 25, type := 25, pos := "outright.go:88", after := #[{ on := 5, ground := Ground.data }, { on := 9, ground := Ground.data }], guard := none }) (v := ?v10) rfl (by kernel_rfl) (by kernel_rfl) (by kernel_rfl) (fun _ _ _ h => h) (Or.inl ⟨by rfl, ?hy10⟩) ?rest10
      case hy10 => (intro w; go_simp; try with_reducible rfl)
      try simp only [Act.put, List.setIfInBounds_toArray, List.set_cons_zero, List.set_cons_succ]
      refine wpAny_ready (rs := [14]) (by kernel_rfl) (by simp) ?_
      refine AllReady.cons (o := { dst := some 76, op := Op.call { callee := Callee.value (Operand.func 11), args := #[Operand.tmp 75], argTypes := #[22] }, type := 25, pos := "outright.go:88", after := #[{ on := 13, ground := Ground.data }, { on := 9, ground := Ground.chain }], guard := none }) rfl (fun K hK => ?_) AllReady.nil
      go_simp
      refine (HC.out _ gx3).mono ?_
      rintro e v4 ⟨rfl, hq4⟩
      have gx4 := bon gx3 hq4
      dsimp only
      refine hK _ _ ?_
      clear hK K
      try simp only [Act.put, List.setIfInBounds_toArray, List.set_cons_zero, List.set_cons_succ]
      refine wpAny_take (i := 15) (oi := { dst := some 77, op := Op.binOp BinOp.xor 25 (Operand.tmp 72) (Operand.tmp 76) 25, type := 25, pos := "outright.go:88", after := #[{ on := 10, ground := Ground.data }, { on := 14, ground := Ground.data }], guard := none }) (v := ?v15) rfl (by kernel_rfl) (by kernel_rfl) (by kernel_rfl) (fun _ _ _ h => h) (Or.inl ⟨by rfl, ?hy15⟩) ?rest15
      case hy15 => (intro w; go_simp; try with_reducible rfl)
      try simp only [Act.put, List.setIfInBounds_toArray, List.set_cons_zero, List.set_cons_succ]
      refine wpAny_take (i := 16) (oi := { dst := some 78, op := Op.binOp BinOp.eql 25 (Operand.tmp 63) (Operand.tmp 77) 25, type := 4, pos := "outright.go:88", after := #[{ on := 1, ground := Ground.data }, { on := 15, ground := Ground.data }], guard := none }) (v := ?v16) rfl (by kernel_rfl) (by kernel_rfl) (by kernel_rfl) (fun _ _ _ h => h) (Or.inl ⟨by rfl, ?hy16⟩) ?rest16
      case hy16 => (intro w; go_simp; try with_reducible rfl)
      try simp only [Act.put, List.setIfInBounds_toArray, List.set_cons_zero, List.set_cons_succ]
      refine wpAny_take (i := 17) (oi := { dst := some 79, op := Op.move (Operand.tmp 78), type := 4, pos := "outright.go:88", after := #[{ on := 16, ground := Ground.data }, { on := 14, ground := Ground.chain }], guard := none }) (v := ?v17) rfl (by kernel_rfl) (by kernel_rfl) (by kernel_rfl) (fun _ _ _ h => h) (Or.inl ⟨by rfl, ?hy17⟩) ?rest17
      case hy17 => (intro w; go_simp; try with_reducible rfl)
      try simp only [Act.put, List.setIfInBounds_toArray, List.set_cons_zero, List.set_cons_succ]
      refine wpAny_take (i := 18) (oi := { dst := some 80, op := Op.move (Operand.tmp 14), type := 25, pos := "outright.go:88", after := #[{ on := 17, ground := Ground.guard }], guard := some (17, true) }) (v := ?v18) rfl (by kernel_rfl) (by kernel_rfl) (by kernel_rfl) (fun _ _ _ h => h) (Or.inl ⟨by rfl, ?hy18⟩) ?rest18
      case hy18 => (intro w; go_simp; try with_reducible rfl)
      try simp only [Act.put, List.setIfInBounds_toArray, List.set_cons_zero, List.set_cons_succ]
      refine wpAny_take (i := 19) (oi := { dst := some 81, op := Op.move (Operand.tmp 15), type := 25, pos := "outright.go:88", after := #[{ on := 17, ground := Ground.guard }], guard := some (17, true) }) (v := ?v19) rfl (by kernel_rfl) (by kernel_rfl) (by kernel_rfl) (fun _ _ _ h => h) (Or.inl ⟨by rfl, ?hy19⟩) ?rest19
      case hy19 => (intro w; go_simp; try with_reducible rfl)
      try simp only [Act.put, List.setIfInBounds_toArray, List.set_cons_zero, List.set_cons_succ]
      refine wpAny_take (i := 20) (oi := { dst := some 82, op := Op.binOp BinOp.eql 25 (Operand.tmp 80) (Operand.tmp 81) 25, type := 4, pos := "outright.go:88", after := #[{ on := 18, ground := Ground.data }, { on := 19, ground := Ground.data }, { on := 17, ground := Ground.guard }], guard := some (17, true) }) (v := ?v20) rfl (by kernel_rfl) (by kernel_rfl) (by kernel_rfl) (fun _ _ _ h => h) (Or.inl ⟨by rfl, ?hy20⟩) ?rest20
      case hy20 => (intro w; go_simp; try with_reducible rfl)
      try simp only [Act.put, List.setIfInBounds_toArray, List.set_cons_zero, List.set_cons_succ]
      refine wpAny_take (i := 21) (oi := { dst := some 83, op := Op.move (Operand.tmp 3), type := 5, pos := "outright.go:88", after := #[{ on := 17, ground := Ground.guard }], guard := some (17, true) }) (v := ?v21) rfl (by kernel_rfl) (by kernel_rfl) (by kernel_rfl) (fun _ _ _ h => h) (Or.inl ⟨by rfl, ?hy21⟩) ?rest21
      case hy21 => (intro w; go_simp; try with_reducible rfl)
      try simp only [Act.put, List.setIfInBounds_toArray, List.set_cons_zero, List.set_cons_succ]
      refine wpAny_take (i := 22) (oi := { dst := some 84, op := Op.move (Operand.tmp 4), type := 5, pos := "outright.go:88", after := #[{ on := 17, ground := Ground.guard }], guard := some (17, true) }) (v := ?v22) rfl (by kernel_rfl) (by kernel_rfl) (by kernel_rfl) (fun _ _ _ h => h) (Or.inl ⟨by rfl, ?hy22⟩) ?rest22
      case hy22 => (intro w; go_simp; try with_reducible rfl)
      try simp only [Act.put, List.setIfInBounds_toArray, List.set_cons_zero, List.set_cons_succ]
      refine wpAny_take (i := 23) (oi := { dst := some 85, op := Op.binOp BinOp.eql 5 (Operand.tmp 83) (Operand.tmp 84) 5, type := 4, pos := "outright.go:88", after := #[{ on := 21, ground := Ground.data }, { on := 22, ground := Ground.data }, { on := 17, ground := Ground.guard }], guard := some (17, true) }) (v := ?v23) rfl (by kernel_rfl) (by kernel_rfl) (by kernel_rfl) (fun _ _ _ h => h) (Or.inl ⟨by rfl, ?hy23⟩) ?rest23
      case hy23 => (intro w; go_simp; try with_reducible rfl)
      try simp only [Act.put, List.setIfInBounds_toArray, List.set_cons_zero, List.set_cons_succ]
      refine wpAny_take (i := 24) (oi := { dst := some 86, op := Op.binOp BinOp.eql 4 (Operand.tmp 82) (Operand.tmp 85) 4, type := 4, pos := "outright.go:88", after := #[{ on := 20, ground := Ground.data }, { on := 23, ground := Ground.data }, { on := 17, ground := Ground.guard }], guard := some (17, true) }) (v := ?v24) rfl (by kernel_rfl) (by kernel_rfl) (by kernel_rfl) (fun _ _ _ h => h) (Or.inl ⟨by rfl, ?hy24⟩) ?rest24
      case hy24 => (intro w; go_simp; try with_reducible rfl)
      try simp only [Act.put, List.setIfInBounds_toArray, List.set_cons_zero, List.set_cons_succ]
      refine wpAny_take (i := 25) (oi := { dst := some 87, op := Op.pick (Operand.tmp 79) (Operand.tmp 86) (Operand.const (Value.bool false)), type := 4, pos := "outright.go:88", after := #[{ on := 17, ground := Ground.data }, { on := 24, ground := Ground.data }], guard := none }) (v := ?v25) rfl (by kernel_rfl) (by kernel_rfl) (by kernel_rfl) (fun _ _ _ h => h) (Or.inl ⟨by rfl, ?hy25⟩) ?rest25
      case hy25 => (intro w; go_simp; try with_reducible rfl)
      try simp only [Act.put, List.setIfInBounds_toArray, List.set_cons_zero, List.set_cons_succ]
      refine wpAny_take (i := 26) (oi := { dst := some 88, op := Op.move (Operand.tmp 87), type := 4, pos := "outright.go:88", after := #[{ on := 25, ground := Ground.data }, { on := 17, ground := Ground.chain }], guard := none }) (v := ?v26) rfl (by kernel_rfl) (by kernel_rfl) (by kernel_rfl) (fun _ _ _ h => h) (Or.inl ⟨by rfl, ?hy26⟩) ?rest26
      case hy26 => (intro w; go_simp; try with_reducible rfl)
      try simp only [Act.put, List.setIfInBounds_toArray, List.set_cons_zero, List.set_cons_succ]
      refine wpAny_ready (rs := [27]) (by kernel_rfl) (by simp) ?_
      refine AllReady.cons (o := { dst := some 89, op := Op.call { callee := Callee.value (Operand.func 9), args := #[], argTypes := #[] }, type := 4, pos := "outright.go:88", after := #[{ on := 26, ground := Ground.chain }, { on := 26, ground := Ground.guard }], guard := some (26, true) }) rfl (fun K hK => ?_) AllReady.nil
      go_simp
      refine (awake_c).mono ?_
      rintro e v5 ⟨rfl, hq5⟩
      have gx5 := bon gx4 hq5
      dsimp only
      refine hK _ _ ?_
      clear hK K
      try simp only [Act.put, List.setIfInBounds_toArray, List.set_cons_zero, List.set_cons_succ]
      refine wpAny_take (i := 28) (oi := { dst := some 90, op := Op.pick (Operand.tmp 88) (Operand.tmp 89) (Operand.const (Value.bool false)), type := 4, pos := "outright.go:88", after := #[{ on := 26, ground := Ground.data }, { on := 27, ground := Ground.data }], guard := none }) (v := ?v28) rfl (by kernel_rfl) (by kernel_rfl) (by kernel_rfl) (fun _ _ _ h => h) (Or.inl ⟨by rfl, ?hy28⟩) ?rest28
      case hy28 => (intro w; go_simp; try with_reducible rfl)
      try simp only [Act.put, List.setIfInBounds_toArray, List.set_cons_zero, List.set_cons_succ]
      refine wpAny_take (i := 29) (oi := { dst := some 10, op := Op.assign (Operand.tmp 90), type := 4, pos := "outright.go:88", after := #[{ on := 28, ground := Ground.data }, { on := 27, ground := Ground.chain }, { on := 0, ground := Ground.phase }, { on := 1, ground := Ground.phase }, { on := 2, ground := Ground.phase }, { on := 3, ground := Ground.phase }, { on := 4, ground := Ground.phase }, { on := 5, ground := Ground.phase }, { on := 6, ground := Ground.phase }, { on := 7, ground := Ground.phase }, { on := 8, ground := Ground.phase }, { on := 9, ground := Ground.phase }, { on := 10, ground := Ground.phase }, { on := 11, ground := Ground.phase }, { on := 12, ground := Ground.phase }, { on := 13, ground := Ground.phase }, { on := 14, ground := Ground.phase }, { on := 15, ground := Ground.phase }, { on := 16, ground := Ground.phase }, { on := 17, ground := Ground.phase }, { on := 18, ground := Ground.phase }, { on := 19, ground := Ground.phase }, { on := 20, ground := Ground.phase }, { on := 21, ground := Ground.phase }, { on := 22, ground := Ground.phase }, { on := 23, ground := Ground.phase }, { on := 24, ground := Ground.phase }, { on := 25, ground := Ground.phase }, { on := 26, ground := Ground.phase }, { on := 27, ground := Ground.phase }, { on := 28, ground := Ground.phase }], guard := none }) (v := ?v29) rfl (by kernel_rfl) (by kernel_rfl) (by kernel_rfl) (fun _ _ _ h => h) (Or.inl ⟨by rfl, ?hy29⟩) ?rest29
      case hy29 => (intro w; go_simp; try with_reducible rfl)
      try simp only [Act.put, List.setIfInBounds_toArray, List.set_cons_zero, List.set_cons_succ]
      refine wpAny_done (by kernel_rfl) ?_ _

      all_goals go_wp2_with fail
      all_goals go_ret
      all_goals exact ⟨rfl, bon GR.out gx5⟩

/-! ### THE ROW's STEP: WRITTEN OUT: LEAVE IT -/
set_option maxRecDepth 100000 in
theorem lifted (os : Os) (started : os.Started) (H : Type) (enc : TypeId × Value → H) :
    ReturnsInHanded {} Try.checked os 7 .any (Rows.frameSumsSpec.pre6 enc Try.prog Try.f7 Rows.frameSumsRow.domain false) (Rows.frameSumsSpec.post enc Try.prog Try.f7 false true false false) := by
  refine returnsInHanded_of_change (C := Try.checked) own started (by kernel_rfl) Try.func7
    (ChangeSpec.witness6 (enc := enc) (C := Try.checked) false ⟨#[], #[.slice none 0 0, .slice none 0 0, .slice none 0 0, .int .u8 0, .int .u8 0], []⟩ 8 (by kernel_rfl) (by kernel_rfl) (by kernel_rfl) (by kernel_rfl)) ?_
  intro W base args ds gs before hval0 hW hcnd _
  have hval : ∀ (j : Nat) t v, Try.f7.params[j]? = some t → args[j]? = some v → Value.okWide Try.prog W .any base t v := hval0
  have hW' := hW
  obtain ⟨p, q, hA0, hV, rfl, hfz, hnd⟩ := hW
  have hA : DataW.TrodAll enc Try.prog W 0 (fun _ => true) true Try.f7.params.toList args.toList ds p := hA0
  rw [Try.params7] at hA hval
  obtain ⟨v0, vs0, d0, ds0, p0, q0, hargs, rfl, rfl, h0, r0⟩ := trodAll_cons hA
  obtain ⟨v1, vs1, d1, ds1, p1, q1, rfl, rfl, rfl, h1, r1⟩ := trodAll_cons r0
  obtain ⟨v2, vs2, d2, ds2, p2, q2, rfl, rfl, rfl, h2, r2⟩ := trodAll_cons r1
  obtain ⟨v3, vs3, d3, ds3, p3, q3, rfl, rfl, rfl, h3, r3⟩ := trodAll_cons r2
  obtain ⟨v4, vs4, d4, ds4, p4, q4, rfl, rfl, rfl, h4, r4⟩ := trodAll_cons r3
  obtain ⟨rfl, rfl, rfl⟩ := trodAll_nil r4
  obtain rfl : args = #[v0, v1, v2, v3, v4] := by cases args; simp_all
  obtain ⟨rfl, rfl⟩ := trodVars_none hV
  obtain ⟨a0, len0, cap0, rfl⟩ := okWide_slice Try.underlying22 (hval 0 22 v0 rfl rfl)
  have k0 := h0
  have lt0 : ∀ x ∈ p0, x.block < W.heap.size := by obtain ⟨m, hm⟩ := k0; exact DataW.trod_lt m _ _ _ hm
  obtain ⟨z0, w0⟩ : ∃ zs, IsRow .u8 W a0 len0 cap0 zs := by
    obtain ⟨fuel, hf⟩ := h0
    rcases open_ints Try.underlying22 Try.underlying5 (by kernel_rfl) hf with ⟨hcs, _⟩ | ⟨x, l, c, zs, hcs, _, hl, hm, hz, _, hcell, hwz⟩
    · simp [Value.cells] at hcs
      obtain ⟨rfl, rfl, rfl⟩ := hcs
      exact ⟨[], .inl ⟨rfl, rfl, rfl, rfl⟩⟩
    · simp [Value.cells] at hcs
      obtain ⟨rfl, rfl, rfl⟩ := hcs
      exact ⟨zs, .inr ⟨_, rfl, hl, hm, by simpa using hz, hcell, hwz⟩⟩
  obtain ⟨a1, len1, cap1, rfl⟩ := okWide_slice Try.underlying22 (hval 1 22 v1 rfl rfl)
  have k1 := h1
  have lt1 : ∀ x ∈ p1, x.block < W.heap.size := by obtain ⟨m, hm⟩ := k1; exact DataW.trod_lt m _ _ _ hm
  obtain ⟨z1, w1⟩ : ∃ zs, IsRow .u8 W a1 len1 cap1 zs := by
    obtain ⟨fuel, hf⟩ := h1
    rcases open_ints Try.underlying22 Try.underlying5 (by kernel_rfl) hf with ⟨hcs, _⟩ | ⟨x, l, c, zs, hcs, _, hl, hm, hz, _, hcell, hwz⟩
    · simp [Value.cells] at hcs
      obtain ⟨rfl, rfl, rfl⟩ := hcs
      exact ⟨[], .inl ⟨rfl, rfl, rfl, rfl⟩⟩
    · simp [Value.cells] at hcs
      obtain ⟨rfl, rfl, rfl⟩ := hcs
      exact ⟨zs, .inr ⟨_, rfl, hl, hm, by simpa using hz, hcell, hwz⟩⟩
  obtain ⟨a2, len2, cap2, rfl⟩ := okWide_slice Try.underlying22 (hval 2 22 v2 rfl rfl)
  have k2 := h2
  have lt2 : ∀ x ∈ p2, x.block < W.heap.size := by obtain ⟨m, hm⟩ := k2; exact DataW.trod_lt m _ _ _ hm
  obtain ⟨z2, w2⟩ : ∃ zs, IsRow .u8 W a2 len2 cap2 zs := by
    obtain ⟨fuel, hf⟩ := h2
    rcases open_ints Try.underlying22 Try.underlying5 (by kernel_rfl) hf with ⟨hcs, _⟩ | ⟨x, l, c, zs, hcs, _, hl, hm, hz, _, hcell, hwz⟩
    · simp [Value.cells] at hcs
      obtain ⟨rfl, rfl, rfl⟩ := hcs
      exact ⟨[], .inl ⟨rfl, rfl, rfl, rfl⟩⟩
    · simp [Value.cells] at hcs
      obtain ⟨rfl, rfl, rfl⟩ := hcs
      exact ⟨zs, .inr ⟨_, rfl, hl, hm, by simpa using hz, hcell, hwz⟩⟩
  obtain ⟨a3, rfl, rfl, rfl, w3⟩ := open_int Try.underlying5 (hval 3 5 v3 rfl rfl) h3
  obtain ⟨a4, rfl, rfl, rfl, w4⟩ := open_int Try.underlying5 (hval 4 5 v4 rfl rfl) h4
  clear hA0 hval0
  refine (walk a0 len0 cap0 z0 a1 len1 cap1 z1 a2 len2 cap2 z2 a3 a4 W w0 w1 w2 w3 w4).mono fun e W' ⟨he, bel⟩ => ?_
  subst he
  exact ⟨_, rfl, _, _, _, [], _, [], hW', trodAll_mk1 (shut_bool Try.underlying4 _), (trodAll_cons_mk (Below.trod laidOut (by kernel_rfl) (of_decide_eq_true (by kernel_rfl)) k0 bel lt0) (trodAll_cons_mk (Below.trod laidOut (by kernel_rfl) (of_decide_eq_true (by kernel_rfl)) k1 bel lt1) (trodAll_cons_mk (Below.trod laidOut (by kernel_rfl) (of_decide_eq_true (by kernel_rfl)) k2 bel lt2) (trodAll_cons_mk (shut_int Try.underlying5 w3) (trodAll_cons_mk (shut_int Try.underlying5 w4) trodAll_mk0))))), rfl, bel.frame _, fun h => by cases h⟩

theorem over : Rows.frameSumsRow.holds Try.pinned (OpenSpec.ofChange Rows.frameSumsSpec) :=
  OpenClaim.holds_of_wide 7 Try.f7 rfl rfl rfl rfl rfl rfl rfl ⟨rfl, rfl, rfl, rfl, rfl⟩ rfl rfl rfl rfl rfl (by kernel_rfl) Try.func7 (by kernel_rfl)
    (of_decide_eq_true (by kernel_rfl)) (by unfold Func.isWrapper; first | (rw [if_pos (by decide +kernel)]; kernel_rfl) | (rw [if_neg (by decide +kernel)]; exact ⟨rfl, rfl⟩))
    (fun os started H enc _ => lifted os started H enc)

/-- ████ THE STATEMENT ████ -/
theorem proved : Rows.FrameSumsSaid := over
#print axioms proved
end Go.Proofs.Ytpligjdpofcbbaa.frameSums
