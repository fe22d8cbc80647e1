/-
  Whatever edits come, the numbers of a version never fall, its notes stay, and only rise in their numbers; what is refused changes nothing; and from that of nothing the edit of all of it, if there are no more than 64 notes, comes to it: for every edits.
-/
import Derived.Test.YthgbafhfeblhaaaRows
import Derived.Test.YthgbafhfeblhaaaEdO
import Derived.WalkKit
import Derived.ProofKit
import Derived.OpenShut
import Derived.ShutString
import Derived.ChangeOld
import Derived.Below
namespace Go.Proofs.Ythgbafhfeblhaaa.editGrows
set_option maxRecDepth 100000
open Go.ChangeShapes Go.WideShapes Go.ChangeAt Go.RowKit
open Go.ChangeMaps (open_string shut_string)
set_option linter.unusedVariables false

theorem own : ownKnob Try.prog.godebug = none := by kernel_rfl
theorem laidOut : laidOutB Try.prog = true := by kernel_rfl

open Go.Shelf
set_option linter.unusedSimpArgs false
theorem few_len {e : Ed} (h : fewE e = true) : e.L.length ≤ 70 := by simp [fewE] at h; omega
theorem few_each {L : List Ev} (h : fewD L = true) : ∀ x ∈ L, x.e.L.length ≤ 70 := fun x hx => few_len (List.all_eq_true.1 h x hx)
theorem info_ed : (Try.prog.info? 25).map (fun i => (i.zero, i.size, i.bytes)) = some (some (.agg #[.slice none 0 0, .int .u64 0, .int .u64 0, .int .u64 0]), 4, 48) := by kernel_rfl
theorem run_slice_hi_ed {A : Option Addr} {n c : Nat} {k : Nat} (hk : k ≤ c) (W : World) :
    (Instr.slice 45 (.slice A n c) none (some (.int .i64 (k : Int))) none).run Try.prog W = .ok (.slice A k c) W := by
  obtain ⟨i, hi, hz0, hz1, hz2⟩ := info_parts info_ed
  simp [Instr.slice, Instr.sliceBounds, run_underlying Try.underlying45, run_sliceBound, hk, sizeOf, typeInfo, hi]
  cases A <;> simp [add_zero']
/-- A version that edits came to. -/
structure VOK (k : Nat) (v : Ed) : Prop where
  all : allB v.L = true
  len : v.L.length ≤ k * 64
  seq : (v.b : Int) ≤ 72057594037927935
theorem VOK.next {k : Nat} {v : Ed} (h : VOK k v) : VOK (k + 1) v := ⟨h.all, by have := h.len; omega, h.seq⟩
theorem allB_parts {L : List Mt} (h : allB L = true) : (∀ (i : Nat) (a : Mt), L[i]? = some a → noteB a = true) ∧ (∀ (i : Nat) (a b : Mt), L[i]? = some a → L[i + 1]? = some b → a.n < b.n) := by
  simp only [allB, Bool.and_eq_true, List.all_eq_true] at h
  exact ⟨fun i a ha => h.1 a (List.mem_of_getElem? ha), (risM_iff L).1 h.2⟩
theorem VOK.add {k : Nat} {v e : Ed} (h : VOK k v) (ho : okB v e = true) : VOK (k + 1) (addE v e) := by
  unfold okB at ho
  simp only [Bool.and_eq_true] at ho
  obtain ⟨hr, hf⟩ := ho
  have hn := rightE_notes hr
  rw [notesB_all] at hn
  simp only [Bool.and_eq_true, decide_eq_true_eq] at hn
  obtain ⟨v1, v2⟩ := allB_parts h.all
  obtain ⟨e1, e2⟩ := allB_parts hn.2
  have hlow : lowB v e = false := by
    unfold follB at hf
    simp only [Bool.and_eq_true, Bool.not_eq_true'] at hf
    exact hf.1.1.1
  have hb : (e.b : Int) ≤ 72057594037927935 := by
    unfold rightE at hr
    simp only [Bool.and_eq_true, decide_eq_true_eq] at hr
    exact hr.2
  refine ⟨?_, ?_, ?_⟩
  · refine allB_of (fun i a ha => ?_) (fun i a b ha hb' => ?_)
    · simp only [addE] at ha
      rcases Nat.lt_or_ge i v.L.length with h1 | h1
      · rw [List.getElem?_append_left h1] at ha; exact v1 i a ha
      · rw [List.getElem?_append_right h1] at ha; exact e1 _ a ha
    · simp only [addE] at ha hb'
      rcases Nat.lt_or_ge (i + 1) v.L.length with h1 | h1
      · rw [List.getElem?_append_left (by omega)] at ha
        rw [List.getElem?_append_left h1] at hb'
        exact v2 i a b ha hb'
      · rw [List.getElem?_append_right h1] at hb'
        rcases Nat.lt_or_ge i v.L.length with h2 | h2
        · rw [List.getElem?_append_left h2] at ha
          have hi : i + 1 = v.L.length := by omega
          rw [hi, Nat.sub_self] at hb'
          have hl := lastN_get (k := i) hi.symm ha
          have hh := headN_get hb'
          have hne : 0 < e.L.length := by
            rcases Nat.lt_or_ge 0 e.L.length with h3 | h3
            · exact h3
            · rw [List.getElem?_eq_none h3] at hb'; cases hb'
          unfold lowB at hlow
          rw [hl, hh] at hlow
          simp only [Bool.and_eq_false_iff, decide_eq_false_iff_not] at hlow
          omega
        · rw [List.getElem?_append_right h2] at ha
          exact e2 (i - v.L.length) a b ha (by rw [show i - v.L.length + 1 = i + 1 - v.L.length by omega]; exact hb')
  · simp only [addE, List.length_append]; have := h.len; omega
  · simp only [addE]; have := h.seq; omega
theorem first_ne {v : Ed} (h : v ≠ Ed.nil) : firstN v ≠ 0 := by
  intro h0
  apply h
  obtain ⟨L, a, b, c⟩ := v
  have e0 := first_bit ⟨L, a, b, c⟩ 0 (by omega)
  have e1 := first_bit ⟨L, a, b, c⟩ 1 (by omega)
  have e2 := first_bit ⟨L, a, b, c⟩ 2 (by omega)
  have e3 := first_bit ⟨L, a, b, c⟩ 3 (by omega)
  rw [h0] at e0 e1 e2 e3
  simp only [sayB, decide_eq_true_eq] at e0 e1 e2 e3
  have hL : L = [] := List.eq_nil_of_length_eq_zero (by split at e0 <;> omega)
  have ha : a = 0 := by split at e1 <;> omega
  have hb : b = 0 := by split at e2 <;> omega
  have hc : c = 0 := by split at e3 <;> omega
  subst hL; subst ha; subst hb; subst hc
  rfl
theorem VOK.right {k : Nat} {v : Ed} (h : VOK k v) (hl : v.L.length ≤ 64) (hn : v ≠ Ed.nil) : rightE v = true := by
  unfold rightE
  rw [notesB_all, h.all]
  simp [first_ne hn, hl, h.seq]
theorem apply_nil {e : Ed} (h : rightE e = true) : applyE Ed.nil e = e ∧ okB Ed.nil e = true := by
  have hf : follB Ed.nil e = true := by
    simp [follB, lowB, fallB, Ed.nil]
  have hk : okB Ed.nil e = true := by unfold okB; rw [h, hf]; rfl
  refine ⟨?_, hk⟩
  unfold applyE
  rw [if_pos hk]
  obtain ⟨L, a, b, c⟩ := e
  simp [addE, Ed.nil]
/-- The version in its box, its notes in a row of their own. -/
structure St (w : World) (gv : Nat) (A : Option Addr) (n c : Nat) (v : Ed) (W : World) : Prop where
  box : B4 W gv 28 (.slice A n c) (.int .u64 (v.a : Int)) (.int .u64 (v.b : Int)) (.int .u64 (v.c : Int))
  row : FrM W (gv + 1) A n c v.L
  below : Below w.heap.size w W
theorem St.now {w W W' : World} {gv n c : Nat} {A : Option Addr} {v : Ed} (h : St w gv A n c v W) (hb : Below W.heap.size W W') : St w gv A n c v W' :=
  ⟨h.box.now hb, h.row.below hb, bon h.below hb⟩

set_option maxRecDepth 100000 in
set_option maxHeartbeats 8000000 in
theorem walk (A0 : Option Addr) (n0 c0 : Nat) (L0 : List Ev) (w : World) (r0 : RdD w w.heap.size A0 n0 c0 L0) (o0 : ∀ x ∈ L0, EdIn x.e) :
    Calls Try.prog 5 #[.slice A0 n0 c0] w fun e w' => e = .returned (.bool true) ∧ Below w.heap.size w w' := by
  obtain ⟨N, hN⟩ : ∃ N, min n0 20 = N := ⟨_, rfl⟩
  have hN20 : N ≤ 20 := by omega
  have hNn : N ≤ n0 := by omega
  have hcap := r0.cap
  have hm0 : (n0 : Int) ≤ 9223372036854775807 := by have h2 := r0.max; unfold maxLen at h2; omega
  have hmin : ∀ (W : World) (ts : Array TypeId) (ty : TypeId), (Builtin.min_ ts ty #[.int .i64 (n0 : Int), .int .i64 20]).run Try.prog W = .ok (.int .i64 (N : Int)) W := fun W ts ty => by
    rw [Lib.run_min_ints]; congr 2; omega
  have hsl := fun W => run_slice_hi_ed (A := A0) (n := n0) (c := c0) (k := N) (by omega) W
  have hr := r0.front hNn
  obtain ⟨L, hL⟩ : ∃ L, L = L0.take N := ⟨_, rfl⟩
  rw [← hL] at hr
  clear hL
  have HR := Lib.hid hr
  have HL := Lib.hid hr.len
  have HFC := Lib.hid (few_c hr (Nat.le_refl _))
  have HN20 := Lib.hid hN20
  clear r0 o0 hN hNn hcap hr hN20
  go_enter Try.func5, Try.ntmps5
  go_wp2_with fail
  refine HFC.out.mono ?_
  rintro e w3 ⟨rfl, hb3⟩
  have HX3 := Lib.hid hb3
  clear hb3
  cases hfd : fewD L with
  | false =>
    clear hfd
    go_wp2_with fail
    refine (awake9_c _).mono ?_
    rintro e w99 ⟨rfl, hb99⟩
    go_wp2_with fail
    go_ret
    exact ⟨rfl, bon HX3.out hb99⟩
  | true =>
    have HFD := Lib.hid (few_each hfd)
    clear hfd
    obtain ⟨gv, hgv⟩ : ∃ gv, gv = w3.heap.size := ⟨_, rfl⟩
    obtain ⟨w4, hw4⟩ : ∃ w4, w4 = w3.alloc (.cells #[.slice none 0 0, .int .u64 0, .int .u64 0, .int .u64 0] 28) := ⟨_, rfl⟩
    have HST := Lib.hid (show St w gv none 0 0 Ed.nil w4 by
      rw [hw4, hgv]
      exact ⟨B4.new _ _ _ _ _ _ rfl, FrM.nil, blit HX3.out _⟩)
    have HGV := Lib.hid (show w.heap.size ≤ gv by rw [hgv]; exact HX3.out.size)
    have hNi : (N : Int) ≤ 20 := by have := HN20.out; omega
    go_upto_region 5 with (fail)
    rw [← hw4, ← hgv]
    clear hw4 hgv
    go_wp2_with fail
    go_loopw [25] (fun iv wr => ∃ (k : Nat) (A : Option Addr) (n c : Nat) (v : Ed), iv = .int .i64 (k : Int) ∧ k ≤ N ∧ VOK k v ∧ St w gv A n c v wr) (fun iv _ => ((N : Int) - intOf iv).toNat)
    case atStart => exact ⟨0, none, 0, 0, Ed.nil, rfl, by omega, ⟨rfl, by simp [Ed.nil], by decide⟩, HST.out⟩
    case round =>
      obtain ⟨k, AV, nv, cv, v, rfl, hkN, hvok, hst⟩ := hrel
      have HVO := Lib.hid hvok
      have HLV := Lib.hid hst.row.len
      have HNV := Lib.hid (show nv ≤ 1280 by have h1 := hst.row.len; have h2 := hvok.len; have := HN20.out; omega)
      have HSV := Lib.hid hst
      clear hvok hst
      by_cases hlt : k < N
      · obtain ⟨b, off, hA, hbB, hcell⟩ := HR.out.form (by omega)
        subst hA
        obtain ⟨⟨xA, xn, xc, e⟩, hx⟩ : ∃ x, L[k]? = some x := ⟨L[k]'(by have := HL.out; omega), List.getElem?_eq_getElem _⟩
        have hk (i : Nat) : wr.cell? ⟨b, i, none⟩ = w.cell? ⟨b, i, none⟩ := HSV.out.below.cell (by simp; omega)
        obtain ⟨x0, x1, x2, x3⟩ := hcell k _ hx
        rw [← hk] at x0 x1 x2 x3
        simp only at x0 x1 x2 x3
        have hki : (k : Int) < (N : Int) := by omega
        have hk0 : (0 : Int) ≤ (k : Int) := by omega
        obtain ⟨w5, hw5⟩ : ∃ w5, w5 = wr.alloc (.cells #[.slice xA xn xc, .int .u64 (e.a : Int), .int .u64 (e.b : Int), .int .u64 (e.c : Int)] 25) := ⟨_, rfl⟩
        have hbb : Below wr.heap.size wr w5 := by rw [hw5]; exact below_alloc wr _
        have HE5 := Lib.hid (show B4 w5 wr.heap.size 25 (.slice xA xn xc) (.int .u64 (e.a : Int)) (.int .u64 (e.b : Int)) (.int .u64 (e.c : Int)) by rw [hw5]; exact B4.new _ _ _ _ _ _ rfl)
        have HS5 := Lib.hid (HSV.out.now hbb)
        have hxr := HR.out.each _ (List.mem_of_getElem? hx)
        have hx70 := HFD.out _ (List.mem_of_getElem? hx)
        simp only at hxr hx70
        have HXN := Lib.hid (show xn ≤ 70 by have := hxr.len; omega)
        have HXL := Lib.hid hxr.len
        have HXR := Lib.hid (fun W (hW : Below w5.heap.size w5 W) => (hxr.below HS5.out.below (Nat.le_refl _)).below hW HS5.out.below.size)
        have HGV5 := Lib.hid (show gv + 1 ≤ w5.heap.size from HS5.out.box.lt)
        have HAP := Lib.hid (apply_c (w := w5) (v := v) (e := e) (HS5.out.row.rd (Nat.le_refl _)) ((HXR.out w5 (Below.refl _ _)).more HS5.out.below.size) (Nat.le_refl _) (by have := HNV.out; omega) (by have := HXN.out; omega))
        obtain ⟨q0, q1, q2, q3, _, _, _, _⟩ := HE5.out.cells
        obtain ⟨p0, p1, p2, p3, _, _, _, _⟩ := HS5.out.box.cells
        clear hcell hk hx hbb hxr hx70
        unfold edV at HAP
        go_upto_region 8 with (fail)
        rw [← hw5]
        clear hw5 x0 x1 x2 x3
        go_wp2_with fail
        refine HAP.out.mono ?_
        rintro e' w6 ⟨AW, nw, cw, rfl, hf6, hb6⟩
        cases hok : okB v e with
        | false =>
          have HE : errE false = 90 := rfl
          rw [HE]
          have hap : applyE v e = v := by unfold applyE; rw [hok]; rfl
          rw [hap] at hf6 ⊢
          obtain ⟨w7, hw7⟩ : ∃ w7, w7 = w6.alloc (.cells #[.slice AW nw cw, .int .u64 (v.a : Int), .int .u64 (v.b : Int), .int .u64 (v.c : Int)] 28) := ⟨_, rfl⟩
          have hb57 : Below w5.heap.size w5 w7 := by rw [hw7]; exact blit hb6 _
          have HW7 := Lib.hid (show B4 w7 w6.heap.size 28 (.slice AW nw cw) (.int .u64 (v.a : Int)) (.int .u64 (v.b : Int)) (.int .u64 (v.c : Int)) by rw [hw7]; exact B4.new _ _ _ _ _ _ rfl)
          have HRW := Lib.hid (show RdM w7 w7.heap.size AW nw cw v.L by rw [hw7]; exact (hf6.alloc _).rd (Nat.le_refl _))
          have HLW := Lib.hid hf6.len
          have HS7 := Lib.hid (HS5.out.now hb57)
          have HVS := Lib.hid (versions_c (v := v) (u := v) HRW.out (HS7.out.row.rd (Nat.le_refl _)) (Nat.le_refl _) (by have := HLW.out; have := HLV.out; have := HNV.out; omega) (by have := HNV.out; omega))
          rw [(sameE_eq v v).2 rfl] at HVS
          obtain ⟨t0, t1, t2, t3, _, _, _, _⟩ := HW7.out.cells
          obtain ⟨u0, u1, u2, u3, _, _, _, _⟩ := HS7.out.box.cells
          clear hok hap hf6 hb6 hb57 q0 q1 q2 q3 p0 p1 p2 p3 HE
          unfold edV at HVS
          unfold edV
          go_upto_region 9 with (fail)
          rw [← hw7]
          clear hw7
          go_wp2_with fail
          refine HVS.out.mono ?_
          rintro e' w8 ⟨rfl, hb8⟩
          have HS8 := Lib.hid (HS7.out.now hb8)
          clear hb8 t0 t1 t2 t3 u0 u1 u2 u3
          go_wp2_with fail
          go_roundw
          case rel => exact ⟨k + 1, AV, nv, cv, v, by simp, by omega, HVO.out.next, HS8.out⟩
          case measure => simp [intOf]; omega
        | true =>
          have HE : errE true = 0 := rfl
          rw [HE]
          have hap : applyE v e = addE v e := by unfold applyE; rw [hok]; rfl
          rw [hap] at hf6 ⊢
          obtain ⟨ma, hma⟩ : ∃ ma, ma = max v.a e.a := ⟨_, rfl⟩
          obtain ⟨mb, hmb⟩ : ∃ mb, mb = max v.b e.b := ⟨_, rfl⟩
          obtain ⟨mc, hmc⟩ : ∃ mc, mc = max v.c e.c := ⟨_, rfl⟩
          have hadd : addE v e = ⟨v.L ++ e.L, ma, mb, mc⟩ := by rw [hma, hmb, hmc]; rfl
          have HVN := Lib.hid (show VOK (k + 1) ⟨v.L ++ e.L, ma, mb, mc⟩ by rw [← hadd]; exact HVO.out.add hok)
          rw [hadd] at hf6 ⊢
          simp only at hf6
          have c1 : decide ((ma : Int) < (v.a : Int)) = false := by simp; omega
          have c1n : decide (ma < v.a) = false := by simp; omega
          have c2 : decide ((mb : Int) < (v.b : Int)) = false := by simp; omega
          have c2n : decide (mb < v.b) = false := by simp; omega
          have c3 : decide ((mc : Int) < (v.c : Int)) = false := by simp; omega
          have c3n : decide (mc < v.c) = false := by simp; omega
          have HRE := Lib.hid (show rightE e = true by unfold okB at hok; simp only [Bool.and_eq_true] at hok; exact hok.1)
          obtain ⟨w7, hw7⟩ : ∃ w7, w7 = w6.alloc (.cells #[.slice AW nw cw, .int .u64 (ma : Int), .int .u64 (mb : Int), .int .u64 (mc : Int)] 28) := ⟨_, rfl⟩
          have hb57 : Below w5.heap.size w5 w7 := by rw [hw7]; exact blit hb6 _
          have HW7a := Lib.hid (show B4 w7 w6.heap.size 28 (.slice AW nw cw) (.int .u64 (ma : Int)) (.int .u64 (mb : Int)) (.int .u64 (mc : Int)) by rw [hw7]; exact B4.new _ _ _ _ _ _ rfl)
          have HFW7a := Lib.hid (show FrM w7 (gv + 1) AW nw cw (v.L ++ e.L) by rw [hw7]; exact (hf6.alloc _).mono HGV5.out)
          have HLW := Lib.hid hf6.len
          have hnw : nw = nv + xn := by have h1 := hf6.len; rw [List.length_append, HLV.out, HXL.out] at h1; exact h1.symm
          have HNW := Lib.hid (show nw ≤ 10000 by have := HNV.out; have := HXN.out; omega)
          have hnwi : IntKind.i64.wrap ((nv : Int) + (xn : Int)) = (nw : Int) := by have := HNV.out; have := HXN.out; rw [wrapi _ (by omega) (by omega)]; omega
          have HS7a := Lib.hid (HS5.out.now hb57)
          have HE7 := Lib.hid (HE5.out.now hb57)
          have HRT := Lib.hid (right_c (w := w7) (e := e) ((HXR.out w7 hb57).more (Nat.le_trans HS5.out.below.size hb57.size)) (Nat.le_refl _) (by have := HXN.out; omega))
          rw [HRE.out] at HRT
          obtain ⟨t0, t1, t2, t3, _, _, _, _⟩ := HW7a.out.cells
          obtain ⟨u0, u1, u2, u3, _, _, _, _⟩ := HS7a.out.box.cells
          obtain ⟨s0, s1, s2, s3, _, _, _, _⟩ := HE7.out.cells
          clear hok hap hf6 hb6 hb57 q0 q1 q2 q3 p0 p1 p2 p3 HE hma hmb hmc hadd hnw
          unfold edV at HRT
          unfold edV
          go_upto_region 9 with (fail)
          rw [← hw7]
          clear hw7
          go_wp2_with fail
          refine HRT.out.mono ?_
          rintro e' w8 ⟨rfl, hb8⟩
          have HW8 := Lib.hid (HW7a.out.now hb8)
          have HS8 := Lib.hid (HS7a.out.now hb8)
          have HFW8 := Lib.hid (HFW7a.out.below hb8)
          clear hb8 t0 t1 t2 t3 u0 u1 u2 u3 s0 s1 s2 s3 c1 c1n c2 c2n c3 c3n hnwi
          have HW7 := HW8
          have HV7 := Lib.hid HS8.out.box
          have HFW7 := HFW8
          have HX7 := Lib.hid HS8.out.below
          have HRW := Lib.hid (HFW8.out.rd (Nat.le_refl _))
          have HRV := Lib.hid (HS8.out.row.rd (Nat.le_refl _))
          have HB77 := Lib.hid (Below.refl w8.heap.size w8)
          obtain ⟨t0, t1, t2, t3, _, _, _, _⟩ := HW7.out.cells
          go_wp2_with fail
          clear t0 t1 t2 t3
          go_loopw [85] (fun iv wx => ∃ j : Nat, iv = .int .i64 (j : Int) ∧ j ≤ nw ∧ Below w8.heap.size w8 wx) (fun iv _ => ((nw : Int) - intOf iv).toNat)
          case atStart => exact ⟨0, rfl, by omega, HB77.out⟩
          case round =>
            obtain ⟨j, rfl, hjn, hbi⟩ := hrel
            have hni : (nw : Int) ≤ 100000 := by have := HNW.out; omega
            by_cases hlt2 : j < nw
            · obtain ⟨⟨mn, mz, ms, mt⟩, hmx⟩ : ∃ m, (v.L ++ e.L)[j]? = some m := ⟨(v.L ++ e.L)[j]'(by have := HLW.out; omega), List.getElem?_eq_getElem _⟩
              obtain ⟨b1, o1, hA1, hbB1, hc1⟩ := (HRW.out.below hbi (Nat.le_refl _)).form (by omega)
              subst hA1
              obtain ⟨x0, x1, x2, x3⟩ := hc1 j _ hmx
              simp only at x0 x1 x2 x3
              have hji : (j : Int) < (nw : Int) := by omega
              have hj0 : (0 : Int) ≤ (j : Int) := by omega
              obtain ⟨wb, hwb⟩ : ∃ wb, wb = wr.alloc (.cells #[.int .u64 (mn : Int), .int .u64 (mz : Int), .string ms, .string mt] 47) := ⟨_, rfl⟩
              have hbb : Below wr.heap.size wr wb := by rw [hwb]; exact below_alloc wr _
              have hg9 : B4 wb wr.heap.size 47 (.int .u64 (mn : Int)) (.int .u64 (mz : Int)) (.string ms) (.string mt) := by rw [hwb]; exact B4.new _ _ _ _ _ _ rfl
              have HBI := Lib.hid (bon hbi hbb)
              obtain ⟨s0, s1, s2, s3, _, _, _, _⟩ := hg9.cells
              obtain ⟨t0, t1, t2, t3, _, _, _, _⟩ := (HW7.out.now (bon hbi hbb)).cells
              obtain ⟨u0, u1, u2, u3, _, _, _, _⟩ := (HV7.out.now (bon hbi hbb)).cells
              have HMX := Lib.hid hmx
              have HCW := Lib.hid (show ∀ i (m : Mt), (v.L ++ e.L)[i]? = some m → wb.cell? ⟨b1, o1 + i * 4, none⟩ = some (.int .u64 (m.n : Int)) from fun i m hm => by
                have hb1 : b1 < wr.heap.size := Nat.lt_of_lt_of_le hbB1 hbi.size
                rw [hbb.cell (by simp; omega)]
                exact (hc1 i m hm).1)
              have hnv : (nv : Int) ≤ 100000 := by have := HNV.out; omega
              go_upto_region 17 with (fail)
              rw [← hwb]
              clear hwb hc1 hbi hbb hg9 x0 x1 x2 x3 hmx
              by_cases hjv : j < nv
              · have d1 : decide ((j : Int) < (nv : Int)) = true := by simp; omega
                have d1n : decide (j < nv) = true := by simp; omega
                have hvx : v.L[j]? = some ⟨mn, mz, ms, mt⟩ := by have := HMX.out; rwa [List.getElem?_append_left (by have := HLV.out; omega)] at this
                obtain ⟨b2, o2, hA2, hbB2, hc2⟩ := (HRV.out.below HBI.out (Nat.le_refl _)).form (by omega)
                obtain ⟨y0, y1, y2, y3⟩ := hc2 j _ hvx
                simp only at y0 y1 y2 y3
                have HEQ := fun W => run_eq_mt W ⟨mn, mz, ms, mt⟩ ⟨mn, mz, ms, mt⟩
                rw [(sameM_eq ⟨mn, mz, ms, mt⟩ ⟨mn, mz, ms, mt⟩).2 rfl] at HEQ
                simp only at HEQ
                have hjvi : (j : Int) < (nv : Int) := by omega
                subst hA2
                clear hc2 hvx hjv
                by_cases hjz : j = 0
                · have d2 : decide ((0 : Int) < (j : Int)) = false := by simp; omega
                  have d2n : decide (0 < j) = false := by simp; omega
                  clear hjz
                  go_quiet (fail)
                  go_wp2_with fail
                  go_roundw
                  case rel => exact ⟨j + 1, by simp, by omega, below_drewN HBI.out _⟩
                  case measure => simp [intOf]; omega
                · obtain ⟨i, hi⟩ : ∃ i, j = i + 1 := ⟨j - 1, by omega⟩
                  obtain ⟨p, hp⟩ : ∃ p, (v.L ++ e.L)[i]? = some p := ⟨(v.L ++ e.L)[i]'(by have := HLW.out; omega), List.getElem?_eq_getElem _⟩
                  have w0 := HCW.out i p hp
                  have hlt3 : p.n < mn := (allB_parts HVN.out.all).2 i p _ hp (by rw [← hi]; exact HMX.out)
                  have d2 : decide ((0 : Int) < (j : Int)) = true := by simp; omega
                  have d2n : decide (0 < j) = true := by simp; omega
                  have d3 : decide ((mn : Int) ≤ (p.n : Int)) = false := by simp; omega
                  have d3n : decide (mn ≤ p.n) = false := by simp; omega
                  have hw : IntKind.i64.wrap ((j : Int) - 1) = (i : Int) := by rw [wrapi _ (by omega) (by omega)]; omega
                  have hii : (i : Int) < (nw : Int) := by omega
                  have hi0 : (0 : Int) ≤ (i : Int) := by omega
                  have hj00 : 0 < j := by omega
                  have HI := Lib.hid hi
                  clear hp hlt3 hi hjz
                  go_quiet (fail)
                  go_wp2_with fail
                  go_roundw
                  case rel => exact ⟨j + 1, by simp, by omega, below_drewN HBI.out _⟩
                  case measure => simp [intOf]; omega
              · have d1 : decide ((j : Int) < (nv : Int)) = false := by simp; omega
                have d1n : decide (j < nv) = false := by simp; omega
                clear hjv
                by_cases hjz : j = 0
                · have d2 : decide ((0 : Int) < (j : Int)) = false := by simp; omega
                  have d2n : decide (0 < j) = false := by simp; omega
                  clear hjz
                  go_quiet (fail)
                  go_wp2_with fail
                  go_roundw
                  case rel => exact ⟨j + 1, by simp, by omega, below_drewN HBI.out _⟩
                  case measure => simp [intOf]; omega
                · obtain ⟨i, hi⟩ : ∃ i, j = i + 1 := ⟨j - 1, by omega⟩
                  obtain ⟨p, hp⟩ : ∃ p, (v.L ++ e.L)[i]? = some p := ⟨(v.L ++ e.L)[i]'(by have := HLW.out; omega), List.getElem?_eq_getElem _⟩
                  have w0 := HCW.out i p hp
                  have hlt3 : p.n < mn := (allB_parts HVN.out.all).2 i p _ hp (by rw [← hi]; exact HMX.out)
                  have d2 : decide ((0 : Int) < (j : Int)) = true := by simp; omega
                  have d2n : decide (0 < j) = true := by simp; omega
                  have d3 : decide ((mn : Int) ≤ (p.n : Int)) = false := by simp; omega
                  have d3n : decide (mn ≤ p.n) = false := by simp; omega
                  have hw : IntKind.i64.wrap ((j : Int) - 1) = (i : Int) := by rw [wrapi _ (by omega) (by omega)]; omega
                  have hii : (i : Int) < (nw : Int) := by omega
                  have hi0 : (0 : Int) ≤ (i : Int) := by omega
                  have hj00 : 0 < j := by omega
                  have HI := Lib.hid hi
                  clear hp hlt3 hi hjz
                  go_quiet (fail)
                  go_wp2_with fail
                  go_roundw
                  case rel => exact ⟨j + 1, by simp, by omega, below_drewN HBI.out _⟩
                  case measure => simp [intOf]; omega
            · have hji : ¬ (j : Int) < (nw : Int) := by omega
              obtain rfl : nw = j := by omega
              obtain ⟨t0, t1, t2, t3, _, _, _, _⟩ := (HW7.out.now hbi).cells
              obtain ⟨u0, u1, u2, u3, z0, z1, z2, z3⟩ := (HV7.out.now hbi).cells
              have HBX := Lib.hid (HV7.out.now hbi)
              have HFW := Lib.hid (HFW7.out.below hbi)
              have HBW := Lib.hid (bon HX7.out hbi)
              have HOFF := Lib.hid (HFW7.out.block_ge)
              clear hbi hlt2 hjn
              go_wp2_with fail
              have HS := Lib.hid (HBX.out.set (.slice AW nw cw) (.int .u64 (ma : Int)) (.int .u64 (mb : Int)) (.int .u64 (mc : Int)))
              have HB := Lib.hid (set4_below HBW.out HGV.out (.slice AW nw cw) (.int .u64 (ma : Int)) (.int .u64 (mb : Int)) (.int .u64 (mc : Int)))
              have HFF := Lib.hid (HFW.out.offset4 (k := gv) (fun g off sp e => by have := HOFF.out g off sp e; omega) (.slice AW nw cw) (.int .u64 (ma : Int)) (.int .u64 (mb : Int)) (.int .u64 (mc : Int)))
              obtain ⟨wz, hwz⟩ : ∃ wz, wz = set4 wr gv (.slice AW nw cw) (.int .u64 (ma : Int)) (.int .u64 (mb : Int)) (.int .u64 (mc : Int)) := ⟨_, rfl⟩
              rw [← hwz] at HS HB HFF
              unfold set4 at hwz
              rw [← hwz]
              clear hwz t0 t1 t2 t3 u0 u1 u2 u3 z0 z1 z2 z3
              go_roundw
              case rel => exact ⟨k + 1, AW, nw, cw, ⟨v.L ++ e.L, ma, mb, mc⟩, by simp, by omega, HVN.out, HS.out, HFF.out, HB.out⟩
              case measure => simp [intOf]; omega
      · have hki : ¬ (k : Int) < (N : Int) := by omega
        obtain rfl : k = N := by omega
        obtain ⟨p0, p1, p2, p3, _, _, _, _⟩ := HSV.out.box.cells
        have HWH := Lib.hid (whole_c (w := wr) (v := v) (HSV.out.row.rd (Nat.le_refl _)) (Nat.le_refl _) (by have := HNV.out; omega))
        unfold edV at HWH
        clear hlt hkN
        go_wp2_with fail
        refine HWH.out.mono ?_
        rintro e w5 ⟨AX, nx, cx, rfl, hf5, hb5⟩
        obtain ⟨w6, hw6⟩ : ∃ w6, w6 = w5.alloc (.cells #[.slice AX nx cx, .int .u64 (v.a : Int), .int .u64 (v.b : Int), .int .u64 (v.c : Int)] 25) := ⟨_, rfl⟩
        have hb56 : Below wr.heap.size wr w6 := by rw [hw6]; exact blit hb5 _
        have HA6 := Lib.hid (show B4 w6 w5.heap.size 25 (.slice AX nx cx) (.int .u64 (v.a : Int)) (.int .u64 (v.b : Int)) (.int .u64 (v.c : Int)) by rw [hw6]; exact B4.new _ _ _ _ _ _ rfl)
        have HRX := Lib.hid (show RdM w6 w6.heap.size AX nx cx v.L by rw [hw6]; exact (hf5.alloc _).rd (Nat.le_refl _))
        have HLX := Lib.hid hf5.len
        have HS6 := Lib.hid (HSV.out.now hb56)
        have hnvi : (nv : Int) ≤ 1280 := by have := HNV.out; omega
        have HSM := Lib.hid (same_e (e := v) (f := Ed.nil) (n2 := 0) (c2 := 0) (A2 := none) HRX.out RdM.nilv (Nat.le_refl _) (by have := HLX.out; have := HLV.out; have := HNV.out; omega))
        obtain ⟨t0, t1, t2, t3, _, _, _, _⟩ := HA6.out.cells
        obtain ⟨u0, u1, u2, u3, _, _, _, _⟩ := HS6.out.box.cells
        clear hf5 hb5 hb56 p0 p1 p2 p3
        unfold edV Ed.nil at HSM
        unfold edV
        go_upto_region 23 with (fail)
        rw [← hw6]
        clear hw6
        by_cases h64 : nv ≤ 64
        · have d1 : decide ((64 : Int) < (nv : Int)) = false := by simp; omega
          have d1n : decide (64 < nv) = false := by simp; omega
          go_wp2_with fail
          refine HSM.out.mono ?_
          rintro e w7 ⟨rfl, hb7⟩
          have HS7 := Lib.hid (HS6.out.now hb7)
          have HA7 := Lib.hid (HA6.out.now hb7)
          have HRX7 := Lib.hid ((HRX.out.below hb7 (Nat.le_refl _)).more hb7.size)
          clear hb7 t0 t1 t2 t3 u0 u1 u2 u3
          have HIF := Lib.hid (show ∀ b, sameE v ⟨[], 0, 0, 0⟩ = b → b = false → v ≠ Ed.nil from fun b h1 h2 h3 => by
            rw [h2] at h1
            rw [h3] at h1
            have := (sameE_eq Ed.nil Ed.nil).2 rfl
            unfold Ed.nil at this h1
            rw [this] at h1
            cases h1)
          cases hsm : sameE v ⟨[], 0, 0, 0⟩ with
          | true =>
            clear hsm
            go_wp2_with fail
            refine (awake9_c _).mono ?_
            rintro e w99 ⟨rfl, hb99⟩
            go_wp2_with fail
            go_ret
            exact ⟨rfl, bon (HS7.out.below) hb99⟩
          | false =>
            have hne := HIF.out _ hsm rfl
            have hrv := HVO.out.right (by have := HLV.out; omega) hne
            have HAN := Lib.hid (apply_nil hrv)
            have HAPN := Lib.hid (apply_c (w := w7) (v := Ed.nil) (e := v) (A1 := none) (n1 := 0) (c1 := 0) RdM.nilv HRX7.out (Nat.le_refl _) (by decide) (by have := HLX.out; have := HLV.out; have := HNV.out; omega))
            obtain ⟨t0, t1, t2, t3, _, _, _, _⟩ := HA7.out.cells
            clear hsm hne hrv
            unfold edV Ed.nil at HAPN
            go_wp2_with fail
            refine HAPN.out.mono ?_
            rintro e w8 ⟨A8, n8, c8, rfl, hf8, hb8⟩
            have han := HAN.out
            unfold Ed.nil at han
            (try unfold Ed.nil at hf8)
            rw [han.1] at hf8
            rw [han.1, han.2]
            have HE : errE true = 0 := rfl
            rw [HE]
            obtain ⟨w9, hw9⟩ : ∃ w9, w9 = w8.alloc (.cells #[.slice A8 n8 c8, .int .u64 (v.a : Int), .int .u64 (v.b : Int), .int .u64 (v.c : Int)] 28) := ⟨_, rfl⟩
            have hb79 : Below w7.heap.size w7 w9 := by rw [hw9]; exact blit hb8 _
            have HB9 := Lib.hid (show B4 w9 w8.heap.size 28 (.slice A8 n8 c8) (.int .u64 (v.a : Int)) (.int .u64 (v.b : Int)) (.int .u64 (v.c : Int)) by rw [hw9]; exact B4.new _ _ _ _ _ _ rfl)
            have HR9 := Lib.hid (show RdM w9 w9.heap.size A8 n8 c8 v.L by rw [hw9]; exact (hf8.alloc _).rd (Nat.le_refl _))
            have HL9 := Lib.hid hf8.len
            have HS9 := Lib.hid (HS7.out.now hb79)
            have HVS := Lib.hid (versions_c (v := v) (u := v) HR9.out (HS9.out.row.rd (Nat.le_refl _)) (Nat.le_refl _) (by have := HL9.out; have := HLV.out; have := HNV.out; omega) (by have := HNV.out; omega))
            rw [(sameE_eq v v).2 rfl] at HVS
            clear hf8 hb8 hb79 t0 t1 t2 t3 HE han
            obtain ⟨t0, t1, t2, t3, _, _, _, _⟩ := HB9.out.cells
            obtain ⟨u0, u1, u2, u3, _, _, _, _⟩ := HS9.out.box.cells
            unfold edV at HVS
            unfold edV
            go_upto_region 26 with (fail)
            rw [← hw9]
            clear hw9
            go_wp2_with fail
            refine HVS.out.mono ?_
            rintro e w10 ⟨rfl, hb10⟩
            have HX10 := Lib.hid (bon HS9.out.below hb10)
            clear hb10 t0 t1 t2 t3 u0 u1 u2 u3
            go_wp2_with fail
            refine (awake9_c _).mono ?_
            rintro e w99 ⟨rfl, hb99⟩
            go_wp2_with fail
            go_ret
            exact ⟨rfl, bon (HX10.out) hb99⟩
        · have d1 : decide ((64 : Int) < (nv : Int)) = true := by simp; omega
          have d1n : decide (64 < nv) = true := by simp; omega
          go_wp2_with fail
          refine (awake9_c _).mono ?_
          rintro e w99 ⟨rfl, hb99⟩
          go_wp2_with fail
          go_ret
          exact ⟨rfl, bon (HS6.out.below) hb99⟩

set_option maxRecDepth 100000 in
theorem lifted (os : Os) (started : os.Started) (H : Type) (enc : TypeId × Value → H) :
    ReturnsInHanded {} Try.checked os 5 .any (Rows.editGrowsSpec.pre6 enc Try.prog Try.f5 Rows.editGrowsRow.domain false) (Rows.editGrowsSpec.post enc Try.prog Try.f5 false true false false) := by
  refine returnsInHanded_of_change (C := Try.checked) own started (by kernel_rfl) Try.func5
    (ChangeSpec.witness6 (enc := enc) (C := Try.checked) false ⟨#[], #[.slice none 0 0], []⟩ 8 (by kernel_rfl) (by kernel_rfl) (by kernel_rfl) (by kernel_rfl)) ?_
  intro W base args ds gs before hval0 hW hcnd _
  have hval : ∀ (j : Nat) t v, Try.f5.params[j]? = some t → args[j]? = some v → Value.okWide Try.prog W .any base t v := hval0
  have hW' := hW
  obtain ⟨p, q, hA0, hV, rfl, hfz, hnd⟩ := hW
  have hA : DataW.TrodAll enc Try.prog W 0 (fun _ => true) true Try.f5.params.toList args.toList ds p := hA0
  rw [Try.params5] at hA hval
  obtain ⟨v0, vs0, d0, ds0, p0, q0_, hargs, rfl, rfl, h0, r0_⟩ := trodAll_cons hA
  obtain ⟨rfl, rfl, rfl⟩ := trodAll_nil r0_
  obtain rfl : args = #[v0] := by cases args; simp_all
  obtain ⟨rfl, rfl⟩ := trodVars_none hV
  have kk0 := h0
  have lt0 : ∀ x ∈ p0, x.block < W.heap.size := by obtain ⟨m, hm⟩ := kk0; exact DataW.trod_lt m _ _ _ hm
  obtain ⟨A0, n0, c0, L0, e0, r0, o0⟩ := open_edits h0 (hval 0 _ v0 rfl rfl)
  subst e0
  clear hA0 hval0
  refine (walk A0 n0 c0 L0 W r0 o0).mono fun e W' ⟨he, bel⟩ => ?_
  subst he
  exact ⟨_, rfl, _, _, _, [], _, [], hW', trodAll_mk1 (shut_bool Try.underlying4 _), (trodAll_cons_mk (Below.trod laidOut (by kernel_rfl) (of_decide_eq_true (by kernel_rfl)) kk0 bel lt0) trodAll_mk0), rfl, bel.frame _, fun h => by cases h⟩

theorem over : Rows.editGrowsRow.holds Try.pinned (OpenSpec.ofChange Rows.editGrowsSpec) :=
  OpenClaim.holds_of_wide 5 Try.f5 rfl rfl rfl rfl rfl rfl rfl ⟨rfl, rfl, rfl, rfl, rfl⟩ rfl rfl rfl rfl rfl (by kernel_rfl) Try.func5 (by kernel_rfl)
    (of_decide_eq_true (by kernel_rfl)) (by unfold Func.isWrapper; first | (rw [if_pos (by decide +kernel)]; kernel_rfl) | (rw [if_neg (by decide +kernel)]; exact ⟨rfl, rfl⟩))
    (fun os started H enc _ => lifted os started H enc)

/-- The statement. -/
theorem proved : Rows.EditGrowsSaid := over
#print axioms proved
end Go.Proofs.Ythgbafhfeblhaaa.editGrows
