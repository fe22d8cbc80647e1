/-
  NumsApart: what is told is nobody else's memory: written over, nothing else is changed; what stands in the spare room of what is handed in stays. No condition.
-/
import Derived.Test.YtkdmhdciapnblaaRows
import Derived.Test.YtkdmhdciapnblaaApart
import Derived.WalkKit
import Derived.ProofKit
import Derived.OpenShut
import Derived.ShutString
import Derived.ChangeOld
import Derived.Below
namespace Go.Proofs.Ytkdmhdciapnblaa.numsApart
open Go.ChangeShapes Go.WideShapes Go.ChangeAt Go.RowKit
open Go.ChangeMaps (open_string shut_string)
set_option linter.unusedVariables false

theorem own : ownKnob Try.prog.godebug = none := by kernel_rfl
theorem laidOut : laidOutB Try.prog = true := by kernel_rfl

/-- WHAT THE WALK IS TOLD OF A SLICE OF INTEGERS THAT CAME IN: it is nil; or it leads to a row of 'cap' cells, the numbers 'zs' (the first 'len' are its elements, the rest its spare room), each fitting its kind. -/
def IsRow (k : IntKind) (w : World) (a : Option Addr) (len cap : Nat) (zs : List Int) : Prop :=
  (a = none ∧ len = 0 ∧ cap = 0 ∧ zs = []) ∨
  ∃ x, a = some x ∧ len ≤ cap ∧ cap ≤ maxLen ∧ zs.length = cap ∧ (∀ i, i < zs.length → w.cell? (x.add i) = some (.int k (zs.getD i 0))) ∧ ∀ n ∈ zs, (Lit.int k n).wf = true

/-! ### STEP 1: THE WALK -/
set_option maxRecDepth 100000 in
set_option maxHeartbeats 8000000 in
theorem walk (a0 : Option Addr) (len0 cap0 : Nat) (z0 : List Int) (a1 : Int) (a2 : ByteArray) (w : World) (w0 : IsRow .u8 w a0 len0 cap0 z0) (w1 : (Lit.int .u64 a1).wf = true) (w2 : a2.size ≤ maxLen) :
    Calls Try.prog 7 #[.slice a0 len0 cap0, .int .u64 a1, .string a2] w fun e w' => e = .returned (.bool true) ∧ Below w.heap.size w w' := by
  obtain ⟨l, hl, hR⟩ := rd_of_row w0
  have b1 := bounds_u64 w1
  have hcap := hR.cap
  have hmax := hR.max
  clear w0 w1
  by_cases h1 : len0 < 2
  · have hd1 : decide ((len0 : Int) < 2) = true := by simp; omega
    clear hR hl b1 w2 hmax hcap
    go_enter Try.func7, Try.ntmps7
    go_wp2_with fail
    refine awake_c.mono ?_
    rintro e w1 ⟨rfl, hb1⟩
    go_wp2_with fail
    go_ret
    exact ⟨rfl, hb1⟩

  have hd1 : decide ((len0 : Int) < 2) = false := by simp; omega
  by_cases h2 : 100 < len0
  · have hd3 : decide ((100 : Int) < (len0 : Int)) = true := by simp; omega
    clear hR hl b1 w2 hmax hcap
    go_enter Try.func7, Try.ntmps7
    go_wp2_with fail
    refine awake_c.mono ?_
    rintro e w1 ⟨rfl, hb1⟩
    go_wp2_with fail
    go_ret
    exact ⟨rfl, hb1⟩

  have hd2 : decide ((100 : Int) < (len0 : Int)) = false := by simp; omega
  by_cases h3 : 100 < a2.size
  · have hd4 : decide ((100 : Int) < (a2.size : Int)) = true := by simp; omega
    clear hR hl b1 w2 hmax hcap
    go_enter Try.func7, Try.ntmps7
    go_wp2_with fail
    refine awake_c.mono ?_
    rintro e w1 ⟨rfl, hb1⟩
    go_wp2_with fail
    go_ret
    exact ⟨rfl, hb1⟩

  have hd3 : decide ((100 : Int) < (a2.size : Int)) = false := by simp; omega
  obtain ⟨v, r, ok, hrk, htk⟩ := takePost_form' l
  obtain ⟨ts, tr, tok, hrt, htt⟩ := textPost_form' l 100
  obtain ⟨fv, fr, fok, hrf, htf⟩ : ∃ v r ok, r.length ≤ l.length ∧ ∀ W n c A (h : Rd W W.heap.size A n c (bv l)) (hn : n ≤ 70368744177664), Calls Try.prog 13 #[.slice A n c] W (RetNB W .u32 v r ok) := by
    by_cases h4 : 4 ≤ l.length
    · exact ⟨_, _, true, by simp, fun W n c A h hn => takeFour_c h (Nat.le_refl _) hn h4⟩
    · exact ⟨0, [], false, Nat.zero_le _, fun W n c A h hn => takeFour_no h (by omega)⟩
  have HTF := Lib.hid htf
  have HTK := Lib.hid htk
  have HTT := Lib.hid htt
  have HRK := Lib.hid (show r.length ≤ 100 by omega)
  have HRT := Lib.hid (show tr.length ≤ 100 by omega)
  have HRF := Lib.hid (show fr.length ≤ 100 by omega)
  have HA2 := Lib.hid (show a2.size ≤ 100 by omega)
  have hlen1 : len0 ≤ 100 := by omega
  have hlen2 : 2 ≤ len0 := by omega
  have hlt1 : (l.take 1).length = 1 := by simp; omega
  have HLT := Lib.hid hlt1
  have HL := Lib.hid hl
  clear htf htk htt hrk hrt hrf hl hlt1 h1 h2 h3 w2 hcap hmax
  go_enter Try.func7, Try.ntmps7
  go_wp2_with (at_builtin; refine wpList_app rfl (.tmp 38) (.tmp 39) _ rfl Try.underlying22 info_u8 rfl rfl (Fr.new w 5 #[] rfl (Nat.le_refl _) (Nat.zero_le _)) rfl (hR.alloc (Nat.le_refl _) _) (bv_one _) (by omega) (by omega) (by simp) ?_; intro A0 c0 w0 hap; have hc0 := (hap.fr.rd (Nat.le_refl _)).cap; have hsl1 := fun W => run_slice_hi_gen (P := Try.prog) (n := len0) (A := A0) 22 5 Try.underlying22 info_u8 .i64 (k := 1) (c := c0) (by omega) W; rw [show ((1 : Nat) : Int) = 1 from rfl] at hsl1)
  have hf0 := hap.fr
  rw [Nat.zero_add, show (#[] : Array Value).toList ++ bv l = bv l from rfl] at hf0
  have g0 : Below w.heap.size w w0 := ((Below.refl _ _).alloc (Nat.le_refl _) _).trans hap.below
  have g00 := g0
  have r0 := hf0.rd (Nat.le_refl _)
  have f0 := hf0.frozen
  have gg : Below w0.heap.size w0 w0 := Below.refl _ _
  clear hap
  have rh := r0.front (k := 1) (by omega)
  rw [bv_take] at rh
  go_wp2_with fail
  refine (put_c (rh.now gg) (Nat.le_refl _) (by omega) a1 b1.1 b1.2).mono ?_
  rintro e w1 ⟨A1, n1, c1, rfl, hf1, hb1⟩
  have z1 := gg.size
  have g0 := bon g0 hb1
  have gg := bon gg hb1
  have q1 := (Free.of_fr hf1).more z1
  have HN1 := Lib.hid hf1.len
  have hn1 : n1 ≤ 400 := by have h1 := HN1.out; have h2 := shortL_len a1.toNat; have h3 := HLT.out; simp only [bv_length, List.length_append] at h1; omega
  clear z1
  clear hb1 hf1
  go_wp2_with fail
  refine (putText_c (rh.now gg) (Nat.le_refl _) (by omega) a2 (by have := HA2.out; omega)).mono ?_
  rintro e w2 ⟨A2, n2, c2, rfl, hf2, hb2⟩
  have z2 := gg.size
  have g0 := bon g0 hb2
  have gg := bon gg hb2
  have q2 := (Free.of_fr hf2).more z2
  have HN2 := Lib.hid hf2.len
  have hn2 : n2 ≤ 400 := by have h1 := HN2.out; have h2 := textL_len a2; have h3 := shortL_len a2.size; have h4 := HLT.out; have h5 := HA2.out; simp only [bv_length, List.length_append] at h1; omega
  clear z2
  have q1 := q1.below hb2
  clear hb2 hf2
  go_wp2_with fail
  refine (putFour_c (rh.now gg) (Nat.le_refl _) (by omega) _ (by omega) (by omega)).mono ?_
  rintro e w3 ⟨A3, n3, c3, rfl, hf3, hb3⟩
  have z3 := gg.size
  have g0 := bon g0 hb3
  have gg := bon gg hb3
  have q3 := (Free.of_fr hf3).more z3
  have HN3 := Lib.hid hf3.len
  have hn3 : n3 ≤ 400 := by have h1 := HN3.out; have h4 := HLT.out; simp only [bv_length, List.length_append, fourL_len] at h1; omega
  clear z3
  have q1 := q1.below hb3
  have q2 := q2.below hb3
  clear hb3 hf3
  go_wp2_with fail
  refine ((take_c (r0.now gg) (Nat.le_refl _) (by omega)).mono (fun _ _ hp => HTK.out _ _ _ hp)).mono ?_
  rintro e w4 ⟨A4, n4, c4, rfl, hf4, hb4⟩
  have z4 := gg.size
  have g0 := bon g0 hb4
  have gg := bon gg hb4
  have q4 := (Free.of_fr hf4).more z4
  have HN4 := Lib.hid hf4.len
  have hn4 : n4 ≤ 400 := by have h1 := HN4.out; have h2 := HRK.out; simp at h1; omega
  clear z4
  have q1 := q1.below hb4
  have q2 := q2.below hb4
  have q3 := q3.below hb4
  clear hb4 hf4
  go_wp2_with fail
  refine ((takeText_c (r0.now gg) (Nat.le_refl _) (by omega) 100 (by decide) (by decide)).mono (fun _ _ hp => HTT.out _ _ _ hp)).mono ?_
  rintro e w5 ⟨A5, n5, c5, rfl, hf5, hb5⟩
  have z5 := gg.size
  have g0 := bon g0 hb5
  have gg := bon gg hb5
  have q5 := (Free.of_fr hf5).more z5
  have HN5 := Lib.hid hf5.len
  have hn5 : n5 ≤ 400 := by have h1 := HN5.out; have h2 := HRT.out; simp at h1; omega
  clear z5
  have q1 := q1.below hb5
  have q2 := q2.below hb5
  have q3 := q3.below hb5
  have q4 := q4.below hb5
  clear hb5 hf5
  go_wp2_with fail
  refine (HTF.out _ _ _ _ (r0.now gg) (by omega)).mono ?_
  rintro e w6 ⟨A6, n6, c6, rfl, hf6, hb6⟩
  have z6 := gg.size
  have g0 := bon g0 hb6
  have gg := bon gg hb6
  have q6 := (Free.of_fr hf6).more z6
  have HN6 := Lib.hid hf6.len
  have hn6 : n6 ≤ 400 := by have h1 := HN6.out; have h2 := HRF.out; simp at h1; omega
  clear z6
  have q1 := q1.below hb6
  have q2 := q2.below hb6
  have q3 := q3.below hb6
  have q4 := q4.below hb6
  have q5 := q5.below hb6
  clear hb6 hf6
  have hd1 : decide ((n1 : Int) < 2) = false := by have h1 := HN1.out; have h2 := shortL_pos a1.toNat; have h3 := HLT.out; simp only [bv_length, List.length_append] at h1; simp; omega
  have hd2 : decide ((n2 : Int) < 2) = false := by have h1 := HN2.out; have h2 := textL_len a2; have h3 := shortL_pos a2.size; have h4 := HLT.out; simp only [bv_length, List.length_append] at h1; simp; omega
  have hd3 : ((n3 : Int) != 5) = false := by have h1 := HN3.out; have h4 := HLT.out; simp only [bv_length, List.length_append, fourL_len] at h1; simp; omega
  have hinv : ApInv w0 w6.heap.size (w6.alloc (.cells #[.slice A1 n1 c1, .slice A2 n2 c2, .slice A3 n3 c3, .slice A4 n4 c4, .slice A5 n5 c5, .slice A6 n6 c6] 22)) := by
    have hbl : Below w6.heap.size w6 (w6.alloc (.cells #[.slice A1 n1 c1, .slice A2 n2 c2, .slice A3 n3 c3, .slice A4 n4 c4, .slice A5 n5 c5, .slice A6 n6 c6] 22)) := (Below.refl _ _).alloc (Nat.le_refl _) _
    refine ⟨blit gg _, ⟨_, World.alloc_heap_new w6 _, rfl, fun k hk => ?_⟩, gg.size⟩
    match k, hk with
    | 0, _ => exact ⟨A1, n1, c1, rfl, q1.below hbl, hn1⟩
    | 1, _ => exact ⟨A2, n2, c2, rfl, q2.below hbl, hn2⟩
    | 2, _ => exact ⟨A3, n3, c3, rfl, q3.below hbl, hn3⟩
    | 3, _ => exact ⟨A4, n4, c4, rfl, q4.below hbl, hn4⟩
    | 4, _ => exact ⟨A5, n5, c5, rfl, q5.below hbl, hn5⟩
    | 5, _ => exact ⟨A6, n6, c6, rfl, q6.below hbl, hn6⟩
  clear q1 q2 q3 q4 q5 q6 rh hsl1
  go_wp2_with fail
  go_loopw [92] (fun iv wr => ∃ k : Nat, iv = .int .i64 (k : Int) ∧ k ≤ 6 ∧ ApInv w0 w6.heap.size wr) (fun iv _ => (6 - intOf iv).toNat)
  case atStart => exact ⟨0, rfl, by omega, hinv⟩
  case round =>
    clear hinv
    obtain ⟨k, rfl, hk, hi⟩ := hrel
    by_cases hlt : k < 6
    · have hdk : decide ((k : Int) < 6) = true := by simp; omega
      obtain ⟨A, n, c, hcell, hfree, hn⟩ := hi.at_ hlt
      obtain ⟨wo, rfl⟩ : ∃ wo : World, wo = wr := ⟨_, rfl⟩
      have hni : (n : Int) ≤ 400 := by omega
      go_wp2_with fail
      go_loopw [98] (fun iv wi => ∃ j : Nat, iv = .int .i64 (j : Int) ∧ j ≤ n ∧ ApInv w0 w6.heap.size wi ∧ Free wi w0.heap.size A n) (fun iv _ => (n - intOf iv).toNat)
      case atStart => exact ⟨0, rfl, Nat.zero_le _, hi, hfree⟩
      case round =>
        clear hi hfree hcell
        obtain ⟨j, rfl, hj, hi, hfree⟩ := hrel
        by_cases hjn : j < n
        · have hdj : decide ((j : Int) < (n : Int)) = true := by simp; omega
          have hdj2 : decide (j < n) = true := by simp; omega
          obtain ⟨g, rfl, hg, ⟨v, hv0, hv1, hv⟩, hfz, cur, hh⟩ := hfree.cell hjn
          have hh' := Lib.hid hh
          clear hh
          go_wp2_with fail
          go_roundw
          case rel => exact ⟨j + 1, by simp, by omega, hi.set j hg hh'.out (by omega) (by omega), hfree.set g j (by omega) (by omega)⟩
          case measure => simp [intOf]; omega
        · have hdj : decide ((j : Int) < (n : Int)) = false := by simp; omega
          have hdj2 : decide (j < n) = false := by simp; omega
          go_wp2_with fail
          go_roundw
          case rel => exact ⟨k + 1, by simp, by omega, hi⟩
          case measure => simp [intOf]; omega
    · have hdk : decide ((k : Int) < 6) = false := by simp; omega
      have gz : Below w.heap.size w wr := g00.trans (hi.below.mono g00.size)
      go_wp2_with fail
      refine (same_t (r0.now hi.below) (hR.now gz) rfl).mono ?_
      rintro e w' ⟨rfl, rfl⟩
      go_wp2_with fail
      refine awake_c.mono ?_
      rintro e w99 ⟨rfl, hb99⟩
      go_wp2_with fail
      go_ret
      exact ⟨rfl, bon gz hb99⟩

/-! ### THE ROW's STEP: WRITTEN OUT: LEAVE IT -/
set_option maxRecDepth 100000 in
theorem lifted (os : Os) (started : os.Started) (H : Type) (enc : TypeId × Value → H) :
    ReturnsInHanded {} Try.checked os 7 .any (Rows.numsApartSpec.pre6 enc Try.prog Try.f7 Rows.numsApartRow.domain false) (Rows.numsApartSpec.post enc Try.prog Try.f7 false true false false) := by
  refine returnsInHanded_of_change (C := Try.checked) own started (by kernel_rfl) Try.func7
    (ChangeSpec.witness6 (enc := enc) (C := Try.checked) false ⟨#[], #[.slice none 0 0, .int .u64 0, .string ByteArray.empty], []⟩ 8 (by kernel_rfl) (by kernel_rfl) (by kernel_rfl) (by kernel_rfl)) ?_
  intro W base args ds gs before hval0 hW hcnd _
  have hval : ∀ (j : Nat) t v, Try.f7.params[j]? = some t → args[j]? = some v → Value.okWide Try.prog W .any base t v := hval0
  have hW' := hW
  obtain ⟨p, q, hA0, hV, rfl, hfz, hnd⟩ := hW
  have hA : DataW.TrodAll enc Try.prog W 0 (fun _ => true) true Try.f7.params.toList args.toList ds p := hA0
  rw [Try.params7] at hA hval
  obtain ⟨v0, vs0, d0, ds0, p0, q0, hargs, rfl, rfl, h0, r0⟩ := trodAll_cons hA
  obtain ⟨v1, vs1, d1, ds1, p1, q1, rfl, rfl, rfl, h1, r1⟩ := trodAll_cons r0
  obtain ⟨v2, vs2, d2, ds2, p2, q2, rfl, rfl, rfl, h2, r2⟩ := trodAll_cons r1
  obtain ⟨rfl, rfl, rfl⟩ := trodAll_nil r2
  obtain rfl : args = #[v0, v1, v2] := by cases args; simp_all
  obtain ⟨rfl, rfl⟩ := trodVars_none hV
  obtain ⟨a0, len0, cap0, rfl⟩ := okWide_slice Try.underlying22 (hval 0 22 v0 rfl rfl)
  have k0 := h0
  have lt0 : ∀ x ∈ p0, x.block < W.heap.size := by obtain ⟨m, hm⟩ := k0; exact DataW.trod_lt m _ _ _ hm
  obtain ⟨z0, w0⟩ : ∃ zs, IsRow .u8 W a0 len0 cap0 zs := by
    obtain ⟨fuel, hf⟩ := h0
    rcases open_ints Try.underlying22 Try.underlying5 (by kernel_rfl) hf with ⟨hcs, _⟩ | ⟨x, l, c, zs, hcs, _, hl, hm, hz, _, hcell, hwz⟩
    · simp [Value.cells] at hcs
      obtain ⟨rfl, rfl, rfl⟩ := hcs
      exact ⟨[], .inl ⟨rfl, rfl, rfl, rfl⟩⟩
    · simp [Value.cells] at hcs
      obtain ⟨rfl, rfl, rfl⟩ := hcs
      exact ⟨zs, .inr ⟨_, rfl, hl, hm, by simpa using hz, hcell, hwz⟩⟩
  obtain ⟨a1, rfl, rfl, rfl, w1⟩ := open_int Try.underlying23 (hval 1 23 v1 rfl rfl) h1
  obtain ⟨a2, rfl, rfl, rfl, w2⟩ := open_string Try.underlying9 (hval 2 9 v2 rfl rfl) h2
  clear hA0 hval0
  refine (walk a0 len0 cap0 z0 a1 a2 W w0 w1 w2).mono fun e W' ⟨he, bel⟩ => ?_
  subst he
  exact ⟨_, rfl, _, _, _, [], _, [], hW', trodAll_mk1 (shut_bool Try.underlying4 _), (trodAll_cons_mk (Below.trod laidOut (by kernel_rfl) (of_decide_eq_true (by kernel_rfl)) k0 bel lt0) (trodAll_cons_mk (shut_int Try.underlying23 w1) (trodAll_cons_mk (shut_string Try.underlying9 w2) trodAll_mk0))), rfl, bel.frame _, fun h => by cases h⟩

theorem over : Rows.numsApartRow.holds Try.pinned (OpenSpec.ofChange Rows.numsApartSpec) :=
  OpenClaim.holds_of_wide 7 Try.f7 rfl rfl rfl rfl rfl rfl rfl ⟨rfl, rfl, rfl, rfl, rfl⟩ rfl rfl rfl rfl rfl (by kernel_rfl) Try.func7 (by kernel_rfl)
    (of_decide_eq_true (by kernel_rfl)) (by unfold Func.isWrapper; first | (rw [if_pos (by decide +kernel)]; kernel_rfl) | (rw [if_neg (by decide +kernel)]; exact ⟨rfl, rfl⟩))
    (fun os started H enc _ => lifted os started H enc)

/-- ████ THE STATEMENT ████ -/
theorem proved : Rows.NumsApartSaid := over
#print axioms proved
end Go.Proofs.Ytkdmhdciapnblaa.numsApart
