/-
  The chapter's examples: the contract of awake.
-/
import Derived.Test.YtkdjjdkcogolmaaGreatDoorTB
import Derived.Test.YtkdjjdkcogolmaaGreatDoorBK
import Derived.BigQuiet
namespace Go.Proofs.YtkdjjdkcogolmaaGreatDoor
set_option maxRecDepth 100000
open Go.RowKit Go.Shelf
set_option linter.unusedVariables false

def exX : Ent := ⟨⟨#[97]⟩, 5, 1, ⟨#[120]⟩⟩
def exF : List UInt8 := [22, 0, 0, 0, 1, 0, 0, 0, 82, 84, 76, 49]
theorem exX_tbl : tblB [exX] = true := by decide +kernel
theorem exX_ch : chL [exX] = [[exX]] := by rfl
theorem exX_blk : (blkL [exX]).length = 14 := by decide +kernel
theorem exX_idx : (idxL [[exX]]).length = 6 := by
  have h : (bkL [exX]).length = 22 := by unfold bkL; rw [sealL_len, exX_blk]
  unfold idxL linL
  rw [h]
  decide +kernel
theorem exX_fr : (frL [[exX]]).length = 22 := by
  have h : (bkL [exX]).length = 22 := by unfold bkL; rw [sealL_len, exX_blk]
  rw [frL_cons, List.length_append, h]; rfl
theorem exX_tab : ∃ T, tabL [exX] = T ++ exF ∧ T.length = 36 := by
  refine ⟨frL [[exX]] ++ sealL (idxL [[exX]]), ?_, ?_⟩
  · unfold tabL
    rw [exX_ch, exX_fr, List.append_assoc]
    rfl
  · rw [List.length_append, exX_fr, sealL_len, exX_idx]
theorem tab_last (L : List Ent) : ∃ T, tabL L = T ++ [49] := by
  refine ⟨frL (chL L) ++ (sealL (idxL (chL L)) ++ (fourL (frL (chL L)).length ++ (fourL L.length ++ [82, 84, 76]))), ?_⟩
  unfold tabL ftL
  simp only [List.append_assoc]
  rfl
/-- What is told of the example. -/
structure Ex8 (TL : List UInt8) (X : Ent) : Prop where
  blt : bltL [X] = TL
  blte : bltE [X] = 0
  len : TL.length = 48
  ft : TL.drop 36 = exF
  prt : prtE TL = 0
  met : metM 3 TL = ⟨3, 48, ⟨#[97]⟩, ⟨#[97]⟩⟩
  mete : metE 3 TL = 0
  cut : prtE (TL.take 47) = 80
  sk : skT TL X.s X.q X.k = X ∧ skTB TL X.s X.q X.k = true
  no : skT TL ⟨#[97]⟩ 4 1 = noE ∧ skTB TL ⟨#[97]⟩ 4 1 = false
theorem ex8 : ∃ TL, Ex8 TL exX := by
  obtain ⟨T, hT, hl⟩ := exX_tab
  obtain ⟨h1, h2⟩ := prt_yes exX_tbl rfl
  have hlen : (tabL [exX]).length = 48 := by rw [hT, List.length_append, hl]; rfl
  refine ⟨tabL [exX], if_pos exX_tbl, if_pos exX_tbl, hlen, ?_, h2, ?_, ?_, ?_, ?_, ?_⟩
  · rw [hT, ← hl, List.drop_left]
  · unfold metM
    rw [h1, h2, hlen]
    rfl
  · unfold metE
    rw [h2]; rfl
  · have hn : parseT ((tabL [exX]).take 47) = none := by
      refine parseT_none fun L h3 h4 => ?_
      obtain ⟨T2, hT2⟩ := tab_last L
      have e1 : ((tabL [exX]).take 47)[46]? = some 76 := by
        rw [List.getElem?_take, if_pos (by omega), hT, List.getElem?_append_right (by omega), hl]; rfl
      have e2 : (T2 ++ [(49 : UInt8)]).length = 47 := by rw [← hT2, h4, List.length_take, hlen]; rfl
      rw [← h4, hT2] at e1
      have e3 : T2.length = 46 := by simpa using e2
      rw [List.getElem?_append_right (by omega), e3] at e1
      exact absurd e1 (by decide)
    unfold prtE
    rw [hn]
    rfl
  · unfold skT skTB
    rw [h1]
    exact ⟨by rfl, by rfl⟩
  · unfold skT skTB
    rw [h1]
    exact ⟨by rfl, by rfl⟩
def sameM (x y : Mt) : Bool := decide (x.num = y.num) && (decide (x.size = y.size) && (decide (x.lo = y.lo) && decide (x.hi = y.hi)))
theorem sameM_iff {x y : Mt} : sameM x y = true ↔ x = y := by
  obtain ⟨a, b, c, d⟩ := x; obtain ⟨e, f, g, h⟩ := y
  simp [sameM]
set_option maxRecDepth 100000 in
theorem run_eq_mt (W : World) (x y : Mt) : (Op.equalIn 10000 44 (mtv x) (mtv y)).run Tryz.prog W = .ok (sameM x y) W := by
  unfold mtv
  rw [show (10000 : Nat) = 9998 + 1 + 1 from rfl, run_equalIn_agg W (9998 + 1) 44 _ _ (by kernel_rfl) (by kernel_rfl)]
  obtain ⟨fs, hfs⟩ : ∃ fs, (Tryz.prog.fieldsOf 44).toList = fs := ⟨_, rfl⟩
  rw [hfs]
  have h3 := hfs
  unfold Program.fieldsOf at h3
  rw [Tryz.underlying44] at h3
  simp only at h3
  subst h3
  simp only [Op.eqFields]
  have a0 : (part 22 #[Value.int .u64 (x.num : Int), .int .u64 (x.size : Int), .string x.lo, .string x.hi] 0).run Tryz.prog W = .ok (.int .u64 (x.num : Int)) W := by kernel_rfl
  have a1 : (part 22 #[Value.int .u64 (x.num : Int), .int .u64 (x.size : Int), .string x.lo, .string x.hi] 1).run Tryz.prog W = .ok (.int .u64 (x.size : Int)) W := by kernel_rfl
  have a2 : (part 9 #[Value.int .u64 (x.num : Int), .int .u64 (x.size : Int), .string x.lo, .string x.hi] 2).run Tryz.prog W = .ok (.string x.lo) W := by kernel_rfl
  have a3 : (part 9 #[Value.int .u64 (x.num : Int), .int .u64 (x.size : Int), .string x.lo, .string x.hi] 3).run Tryz.prog W = .ok (.string x.hi) W := by kernel_rfl
  have b0 : (part 22 #[Value.int .u64 (y.num : Int), .int .u64 (y.size : Int), .string y.lo, .string y.hi] 0).run Tryz.prog W = .ok (.int .u64 (y.num : Int)) W := by kernel_rfl
  have b1 : (part 22 #[Value.int .u64 (y.num : Int), .int .u64 (y.size : Int), .string y.lo, .string y.hi] 1).run Tryz.prog W = .ok (.int .u64 (y.size : Int)) W := by kernel_rfl
  have b2 : (part 9 #[Value.int .u64 (y.num : Int), .int .u64 (y.size : Int), .string y.lo, .string y.hi] 2).run Tryz.prog W = .ok (.string y.lo) W := by kernel_rfl
  have b3 : (part 9 #[Value.int .u64 (y.num : Int), .int .u64 (y.size : Int), .string y.lo, .string y.hi] 3).run Tryz.prog W = .ok (.string y.hi) W := by kernel_rfl
  have e0 := run_equalIn_int (P := Tryz.prog) W 9998 22 .u64 _ (x.num : Int) (y.num : Int) Tryz.underlying22
  have e1 := run_equalIn_int (P := Tryz.prog) W 9998 22 .u64 _ (x.size : Int) (y.size : Int) Tryz.underlying22
  have e2 := run_equalIn_string (P := Tryz.prog) W 9998 9 x.lo y.lo Tryz.underlying9
  have e3 := run_equalIn_string (P := Tryz.prog) W 9998 9 x.hi y.hi Tryz.underlying9
  rw [if_pos (by decide), if_pos (by decide), if_pos (by decide), if_pos (by decide)]
  rw [beq_strs] at e2 e3
  rw [show ((x.num : Int) == (y.num : Int)) = decide (x.num = y.num) by rw [Bool.eq_iff_iff]; simp; omega] at e0
  rw [show ((x.size : Int) == (y.size : Int)) = decide (x.size = y.size) by rw [Bool.eq_iff_iff]; simp; omega] at e1
  unfold sameM
  simp only [Sem.run_bind, a0, b0, e0, Result.andThen_ok, Sem.run_ite, a1, b1, e1, a2, b2, e2, a3, b3, e3, Sem.run_pure]
  cases decide (x.num = y.num) <;> cases decide (x.size = y.size) <;> cases decide (x.lo = y.lo) <;> cases decide (x.hi = y.hi) <;> rfl
theorem run_same_mt {x y : Mt} (h : x = y) (W : World) : (Op.equalIn 10000 44 (mtv x) (mtv y)).run Tryz.prog W = .ok true W := by
  rw [run_eq_mt, sameM_iff.2 h]

theorem tbuild_t {w : World} {B n c : Nat} {A : Option Addr} {L : List Ent} (h : RdE w B A n c L) (hB : B ≤ w.heap.size) (hn : (n : Int) ≤ 70368744000000) {l : List UInt8} {e0 : Int} (hl : bltL L = l) (he : bltE L = e0) :
    Calls Tryz.prog 9 #[.slice A n c] w (RetBE w l e0) := by rw [← hl, ← he]; exact tbuild_c h hB hn
theorem tparse_t {w : World} {B n c : Nat} {A : Option Addr} {l : List UInt8} (h : Rd w B A n c (bv l)) (hB : B ≤ w.heap.size) (hn : n ≤ 1000000000) {L : List Ent} {e0 : Int} (hl : prtL l = L) (he : prtE l = e0) :
    Calls Tryz.prog 14 #[.slice A n c] w (RetLE w L e0) := by rw [← hl, ← he]; exact tparse_c h hB hn
theorem tseek_t {w : World} {B n c : Nat} {A : Option Addr} {l : List UInt8} (h : Rd w B A n c (bv l)) (hB : B ≤ w.heap.size) (hn : n ≤ 1000000000) (s : ByteArray) (q k : Int) (q' k' : Nat) (hq : q = (q' : Int)) (hk : k = (k' : Int)) {x : Ent} {ok : Bool} {e0 : Int} (hx : skT l s q' k' = x) (ho : skTB l s q' k' = ok) (he : prtE l = e0) :
    Calls Tryz.prog 16 #[.slice A n c, .agg #[.string s, .int .u64 q, .int .u8 k]] w (RetEB w x ok e0) := by rw [hq, hk, ← hx, ← ho, ← he]; exact tseek_c h hB hn s q' k'
theorem tmeta_t {w : World} {B n c : Nat} {A : Option Addr} {l : List UInt8} (h : Rd w B A n c (bv l)) (hB : B ≤ w.heap.size) (hn : n ≤ 1000000000) (num : Int) (num' : Nat) (hnum : num = (num' : Int)) {m : Mt} {e0 : Int} (hm : metM num' l = m) (he : metE num' l = e0) :
    Calls Tryz.prog 18 #[.int .u64 num, .slice A n c] w (RetMt w m e0) := by rw [hnum, ← hm, ← he]; exact tmeta_c h hB hn num'

set_option maxRecDepth 100000 in
set_option maxHeartbeats 8000000 in
theorem awake8_c (w : World) : Calls Tryz.prog 6 #[] w (RetVl w (.bool true)) := by
  obtain ⟨X, hX⟩ : ∃ X, exX = X := ⟨_, rfl⟩
  obtain ⟨TL, h8⟩ := ex8
  rw [hX] at h8
  have H8 := Lib.hid h8
  obtain ⟨Y, hY⟩ : ∃ Y, X = Y := ⟨_, rfl⟩
  obtain ⟨M, hM⟩ : ∃ M : Mt, (⟨3, 48, ⟨#[97]⟩, ⟨#[97]⟩⟩ : Mt) = M := ⟨_, rfl⟩
  have E1 := fun W => run_same_en (x := Y) (y := X) hY.symm W
  have E2 : ∀ W, (Op.equalIn 10000 44 (.agg #[.int .u64 (M.num : Int), .int .u64 (M.size : Int), .string M.lo, .string M.hi]) (.agg #[.int .u64 3, .int .u64 48, .string ⟨#[97]⟩, .string ⟨#[97]⟩])).run Tryz.prog W = .ok true W := fun W => run_same_mt (x := M) (y := ⟨3, 48, ⟨#[97]⟩, ⟨#[97]⟩⟩) hM.symm W
  unfold en at E1
  have HX := Lib.hid hX
  have HY := Lib.hid hY
  have HM := Lib.hid hM
  clear h8 hX hY hM
  have g0 : Below w.heap.size w w := Below.refl _ _
  go_enter Tryz.func6, Tryz.ntmps6
  go_upto_region 2 with (fail)
  have bX : EnAt (w.alloc (.cells #[.string ⟨#[97]⟩, .int .u64 5, .int .u8 1, .string ⟨#[120]⟩] 40)) w.heap.size X := by rw [← HX.out]; exact EnAt.new w exX
  replace g0 := blit g0 (.cells #[.string ⟨#[97]⟩, .int .u64 5, .int .u8 1, .string ⟨#[120]⟩] 40)
  generalize w.alloc (.cells #[.string ⟨#[97]⟩, .int .u64 5, .int .u8 1, .string ⟨#[120]⟩] 40) = w1 at *
  obtain ⟨gX, hgX⟩ : ∃ gX, w.heap.size = gX := ⟨_, rfl⟩
  rw [hgX] at bX
  obtain ⟨i0, i1, i2, i3⟩ := bX.cells
  have hx1 : RdE (w1.alloc (.cells #[.string X.s, .int .u64 (X.q : Int), .int .u8 (X.k : Int), .string X.v] 40)) (w1.alloc (.cells #[.string X.s, .int .u64 (X.q : Int), .int .u8 (X.k : Int), .string X.v] 40)).heap.size (some ⟨w1.heap.size, 0, none⟩) 1 1 [X] := (FrE.one w1 (b := 0) (g := w1.heap.size) X rfl (Nat.zero_le _)).rd (Nat.le_refl _)
  have HB := Lib.hid (tbuild_t hx1 (Nat.le_refl _) (by decide) H8.out.blt H8.out.blte)
  replace g0 := blit g0 (.cells #[.string X.s, .int .u64 (X.q : Int), .int .u8 (X.k : Int), .string X.v] 40)
  replace bX := bX.below (below_alloc w1 (.cells #[.string X.s, .int .u64 (X.q : Int), .int .u8 (X.k : Int), .string X.v] 40))
  clear hx1
  go_wp2_with fail
  refine HB.out.mono ?_
  rintro e w2 ⟨A2, n2, c2, rfl, hf2, hb2⟩
  obtain rfl : n2 = 48 := hf2.len_eq H8.out.len
  have rb := hf2.rd (Nat.le_refl _)
  replace bX := bX.below hb2
  replace g0 := bon g0 hb2
  clear hf2 hb2 HB i0 i1 i2 i3
  go_wp2_with fail
  refine (tmeta_t rb (Nat.le_refl _) (by decide) 3 3 rfl H8.out.met H8.out.mete).mono ?_
  rw [HM.out]
  rintro e w3 ⟨rfl, hb3⟩
  replace rb := rb.now hb3
  replace bX := bX.below hb3
  replace g0 := bon g0 hb3
  clear hb3
  unfold mtv
  have bM := MtAt.new w3 M
  replace rb := rb.now (below_alloc w3 (.cells #[.int .u64 (M.num : Int), .int .u64 (M.size : Int), .string M.lo, .string M.hi] 44))
  replace bX := bX.below (below_alloc w3 (.cells #[.int .u64 (M.num : Int), .int .u64 (M.size : Int), .string M.lo, .string M.hi] 44))
  replace g0 := blit g0 (.cells #[.int .u64 (M.num : Int), .int .u64 (M.size : Int), .string M.lo, .string M.hi] 44)
  go_upto_region 4 with (fail)
  generalize w3.alloc (.cells #[.int .u64 (M.num : Int), .int .u64 (M.size : Int), .string M.lo, .string M.hi] 44) = w4 at *
  generalize w3.heap.size = gM at *
  obtain ⟨i0, i1, i2, i3⟩ := bX.cells
  go_wp2_with fail
  refine (tseek_t rb (Nat.le_refl _) (by decide) X.s (X.q : Int) (X.k : Int) X.q X.k rfl rfl H8.out.sk.1 H8.out.sk.2 H8.out.prt).mono ?_
  rw [HY.out]
  rintro e w5 ⟨rfl, hb5⟩
  replace rb := rb.now hb5
  replace bX := bX.below hb5
  replace bM := bM.below hb5
  replace g0 := bon g0 hb5
  clear hb5 i0 i1 i2 i3
  unfold en
  have bY := EnAt.new w5 Y
  replace rb := rb.now (below_alloc w5 (.cells #[.string Y.s, .int .u64 (Y.q : Int), .int .u8 (Y.k : Int), .string Y.v] 40))
  replace bX := bX.below (below_alloc w5 (.cells #[.string Y.s, .int .u64 (Y.q : Int), .int .u8 (Y.k : Int), .string Y.v] 40))
  replace bM := bM.below (below_alloc w5 (.cells #[.string Y.s, .int .u64 (Y.q : Int), .int .u8 (Y.k : Int), .string Y.v] 40))
  replace g0 := blit g0 (.cells #[.string Y.s, .int .u64 (Y.q : Int), .int .u8 (Y.k : Int), .string Y.v] 40)
  go_upto_region 5 with (fail)
  generalize w5.alloc (.cells #[.string Y.s, .int .u64 (Y.q : Int), .int .u8 (Y.k : Int), .string Y.v] 40) = w6 at *
  generalize w5.heap.size = gY at *
  go_wp2_with fail
  refine (tseek_t rb (Nat.le_refl _) (by decide) ⟨#[97]⟩ 4 1 4 1 rfl rfl H8.out.no.1 H8.out.no.2 H8.out.prt).mono ?_
  rintro e w7 ⟨rfl, hb7⟩
  replace rb := rb.now hb7
  replace bX := bX.below hb7
  replace bM := bM.below hb7
  replace bY := bY.below hb7
  replace g0 := bon g0 hb7
  clear hb7
  unfold en
  obtain ⟨Z, hZ⟩ : ∃ Z, noE = Z := ⟨_, rfl⟩
  (try rw [hZ])
  replace rb := rb.now (below_alloc w7 (.cells #[.string Z.s, .int .u64 (Z.q : Int), .int .u8 (Z.k : Int), .string Z.v] 40))
  replace bX := bX.below (below_alloc w7 (.cells #[.string Z.s, .int .u64 (Z.q : Int), .int .u8 (Z.k : Int), .string Z.v] 40))
  replace bM := bM.below (below_alloc w7 (.cells #[.string Z.s, .int .u64 (Z.q : Int), .int .u8 (Z.k : Int), .string Z.v] 40))
  replace bY := bY.below (below_alloc w7 (.cells #[.string Z.s, .int .u64 (Z.q : Int), .int .u8 (Z.k : Int), .string Z.v] 40))
  replace g0 := blit g0 (.cells #[.string Z.s, .int .u64 (Z.q : Int), .int .u8 (Z.k : Int), .string Z.v] 40)
  clear hZ
  go_upto_region 6 with (fail)
  generalize w7.alloc (.cells #[.string Z.s, .int .u64 (Z.q : Int), .int .u8 (Z.k : Int), .string Z.v] 40) = w8 at *
  have hcut := rb.front (k := 47) (by decide)
  rw [bv_take] at hcut
  have hs47 := fun W => run_slice_hi_gen (P := Tryz.prog) (n := 48) (A := A2) 24 5 Tryz.underlying24 info_u8 .i64 (k := 47) (c := c2) (by have := rb.cap; omega) W
  obtain ⟨A36, hs36, hr36⟩ := rb.slice_lo 24 5 (P := Tryz.prog) Tryz.underlying24 info_u8 .i64 (k := 36) (by decide)
  rw [bv_drop, H8.out.ft] at hr36
  rw [show ((47 : Nat) : Int) = 47 from rfl] at hs47
  rw [show ((36 : Nat) : Int) = 36 from rfl] at hs36
  have hmx : ∀ (W : World) (ts : Array TypeId) (ty : TypeId), (Builtin.max_ ts ty #[.int .i64 47, .int .i64 0]).run Tryz.prog W = .ok (.int .i64 47) W := fun W ts ty => by
    rw [Lib.run_max_ints]; rfl
  have HPP := Lib.hid (tparse_c hcut (Nat.le_refl _) (by decide))
  rw [H8.out.cut] at HPP
  clear hcut
  go_wp2_with fail
  refine HPP.out.mono ?_
  rintro e w9 ⟨A9, n9, c9, rfl, hf9, hb9⟩
  replace rb := rb.now hb9
  replace bX := bX.below hb9
  replace bM := bM.below hb9
  replace bY := bY.below hb9
  replace hr36 := hr36.now hb9
  replace g0 := bon g0 hb9
  clear hf9 hb9 HPP
  obtain ⟨m0, m1, m2, m3⟩ := bM.cells
  obtain ⟨y0, y1, y2, y3⟩ := bY.cells
  obtain ⟨i0, i1, i2, i3⟩ := bX.cells
  have hlit : Rd (w9.alloc (.cells #[.int .u8 22, .int .u8 0, .int .u8 0, .int .u8 0, .int .u8 1, .int .u8 0, .int .u8 0, .int .u8 0, .int .u8 82, .int .u8 84, .int .u8 76, .int .u8 49] 5)) (w9.heap.size + 1) (some ⟨w9.heap.size, 0, none⟩) 12 12 (bv exF) := Rd.litb w9 exF rfl (by rfl) (by rfl) (by decide)
  have HSM := Lib.hid (same_c (hr36.now (below_alloc w9 (.cells #[.int .u8 22, .int .u8 0, .int .u8 0, .int .u8 0, .int .u8 1, .int .u8 0, .int .u8 0, .int .u8 0, .int .u8 82, .int .u8 84, .int .u8 76, .int .u8 49] 5))) hlit)
  rw [show (exF == exF) = true by simp] at HSM
  have HBM := Lib.hid (bM.below (below_alloc w9 (.cells #[.int .u8 22, .int .u8 0, .int .u8 0, .int .u8 0, .int .u8 1, .int .u8 0, .int .u8 0, .int .u8 0, .int .u8 82, .int .u8 84, .int .u8 76, .int .u8 49] 5)))
  have HBY := Lib.hid (bY.below (below_alloc w9 (.cells #[.int .u8 22, .int .u8 0, .int .u8 0, .int .u8 0, .int .u8 1, .int .u8 0, .int .u8 0, .int .u8 0, .int .u8 82, .int .u8 84, .int .u8 76, .int .u8 49] 5)))
  have HBX := Lib.hid (bX.below (below_alloc w9 (.cells #[.int .u8 22, .int .u8 0, .int .u8 0, .int .u8 0, .int .u8 1, .int .u8 0, .int .u8 0, .int .u8 0, .int .u8 82, .int .u8 84, .int .u8 76, .int .u8 49] 5)))
  clear hr36 hlit bM bY bX m0 m1 m2 m3 y0 y1 y2 y3 i0 i1 i2 i3
  obtain ⟨m0, m1, m2, m3⟩ := HBM.out.cells
  obtain ⟨y0, y1, y2, y3⟩ := HBY.out.cells
  obtain ⟨i0, i1, i2, i3⟩ := HBX.out.cells
  replace g0 := blit g0 (.cells #[.int .u8 22, .int .u8 0, .int .u8 0, .int .u8 0, .int .u8 1, .int .u8 0, .int .u8 0, .int .u8 0, .int .u8 82, .int .u8 84, .int .u8 76, .int .u8 49] 5)
  have G0 := Lib.hid g0
  clear g0 rb
  go_wp2_with fail
  refine HSM.out.mono ?_
  rintro e w10 ⟨rfl, rfl⟩
  go_wp2_with fail
  go_ret
  exact ⟨rfl, G0.out⟩
end Go.Proofs.YtkdjjdkcogolmaaGreatDoor
