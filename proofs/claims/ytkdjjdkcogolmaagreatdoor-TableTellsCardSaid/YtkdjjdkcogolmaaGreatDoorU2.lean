/-
  The reference: what bytes say: the contract of Parse.
-/
import Derived.Test.YtkdjjdkcogolmaaGreatDoorU1
namespace Go.Proofs.YtkdjjdkcogolmaaGreatDoor
set_option maxRecDepth 100000
open Go.RowKit Go.Shelf
set_option linter.unusedVariables false

/-- What has been read of b, if it is a table's: M of its first blocks, r of their frames still to come. -/
def UPar (b : List UInt8) (M : List Ent) (r : List UInt8) : Prop := ∀ L, tblB L = true → tabL L = b → ∃ m, m ≤ cntL L ∧ M = (chK L m).flatten ∧ r = frL ((chL L).drop m)
theorem chL_len (L : List Ent) : (chL L).length = cntL L := by unfold chL; rw [chK_len]
theorem chL_at {L : List Ent} {m : Nat} (h : m < cntL L) : (chL L).drop m = chN L m :: (chL L).drop (m + 1) := by
  rw [List.drop_eq_getElem_cons (by rw [chL_len]; exact h)]
  congr 1
  simp [chL, chK]
theorem tab_at {L : List Ent} (h : tblB L = true) : 12 ≤ (tabL L).length ∧ leV (((tabL L).drop ((tabL L).length - 12)).take 4) = (frL (chL L)).length ∧ (frL (chL L)).length ≤ (tabL L).length ∧ (tabL L).take (frL (chL L)).length = frL (chL L) := by
  have h1 := (frL_len (chK_blk h (Nat.le_refl _))).1
  have h2 := cnt_le h
  rw [chK_len] at h1
  have h3 : (frL (chL L)).length < 4294967296 := by unfold chL; omega
  have e : tabL L = (frL (chL L) ++ sealL (idxL (chL L))) ++ (fourL (frL (chL L)).length ++ (fourL L.length ++ [82, 84, 76, 49])) := by
    unfold tabL ftL; rw [List.append_assoc]
  have el : (tabL L).length = (frL (chL L) ++ sealL (idxL (chL L))).length + 12 := by
    rw [e, List.length_append]; simp [fourL_len]
  refine ⟨by omega, ?_, ?_, ?_⟩
  · rw [show (tabL L).length - 12 = (frL (chL L) ++ sealL (idxL (chL L))).length by omega, e, List.drop_left]
    exact (four_take _ h3 _).1
  · rw [el, List.length_append]; omega
  · unfold tabL; rw [List.take_left]
theorem upar_start {b : List UInt8} {a : Nat} (h : leV ((b.drop (b.length - 12)).take 4) = a) : UPar b [] (b.take a) := fun L h1 h2 => by
  obtain ⟨_, e1, _, e2⟩ := tab_at h1
  rw [h2] at e1 e2
  rw [e1] at h
  exact ⟨0, Nat.zero_le _, rfl, by rw [← h, e2, List.drop_zero]⟩
theorem par80 {b : List UInt8} (h : ∀ L, tblB L = true → tabL L = b → False) : prtL b = [] ∧ prtE b = 80 := by
  have hn : parseT b = none := parseT_none (fun L h1 h2 => h L h1 h2)
  unfold prtL prtE
  rw [hn]
  exact ⟨rfl, rfl⟩
theorem upar_one {b : List UInt8} {M : List Ent} {r : List UInt8} (h : UPar b M r) (hr : r ≠ []) {L : List Ent} (h1 : tblB L = true) (h2 : tabL L = b) :
    ∃ m, m < cntL L ∧ M = (chK L m).flatten ∧ blkB (chN L m) = true ∧ takeL r = some (blkL (chN L m), frL ((chL L).drop (m + 1))) := by
  obtain ⟨m, hm, e1, e2⟩ := h L h1 h2
  have hlt : m < cntL L := by
    rcases Nat.lt_or_ge m (cntL L) with h3 | h3
    · exact h3
    · rw [List.drop_eq_nil_of_le (by rw [chL_len]; exact h3)] at e2
      exact absurd e2 hr
  have hb := (chN_blk h1 hlt).1
  refine ⟨m, hlt, e1, hb, ?_⟩
  rw [e2, chL_at hlt, frL_cons]
  exact takeL_seal (by have := blkL_len hb; omega) _
theorem upar_next {b : List UInt8} {M S : List Ent} {r x y : List UInt8} (h : UPar b M r) (hr : r ≠ []) (ht : takeL r = some (x, y)) (hp : prsL x = S) : UPar b (M ++ S) y := fun L h1 h2 => by
  obtain ⟨m, hm, e1, hb, e3⟩ := upar_one h hr h1 h2
  rw [ht] at e3
  simp only [Option.some.injEq, Prod.mk.injEq] at e3
  obtain ⟨e4, e5⟩ := e3
  have e6 := (par_yes hb e4.symm).1
  refine ⟨m + 1, hm, ?_, e5⟩
  rw [chK_succ, List.flatten_append, ← e1, ← hp, e6]
  simp
theorem upar_take {b : List UInt8} {M : List Ent} {r : List UInt8} (h : UPar b M r) (hr : r ≠ []) (ht : takeL r = none) : ∀ L, tblB L = true → tabL L = b → False := fun L h1 h2 => by
  obtain ⟨m, _, _, _, e3⟩ := upar_one h hr h1 h2
  rw [ht] at e3; cases e3
theorem upar_prs {b : List UInt8} {M : List Ent} {r x y : List UInt8} (h : UPar b M r) (hr : r ≠ []) (ht : takeL r = some (x, y)) (he : prsE x ≠ 0) : ∀ L, tblB L = true → tabL L = b → False := fun L h1 h2 => by
  obtain ⟨m, _, _, hb, e3⟩ := upar_one h hr h1 h2
  rw [ht] at e3
  simp only [Option.some.injEq, Prod.mk.injEq] at e3
  exact he (par_yes hb e3.1.symm).2
theorem upar_end {b : List UInt8} {M : List Ent} (h : UPar b M []) : ∀ L, tblB L = true → tabL L = b → L = M := fun L h1 h2 => by
  obtain ⟨m, hm, e1, e2⟩ := h L h1 h2
  have h3 : ∀ one ∈ (chL L).drop m, blkB one = true := fun one ho => chK_blk h1 (Nat.le_refl _) one (List.mem_of_mem_drop ho)
  have h4 := (frL_len h3).2
  rw [← e2, List.length_drop, chL_len] at h4
  have h5 : m = cntL L := by simp at h4; omega
  have h6 := chL_flat L
  unfold chL at h6
  rw [e1, h5, h6]
theorem upar_many {b : List UInt8} {M : List Ent} {r : List UInt8} (h : UPar b M r) (hM : 8192 < M.length) : ∀ L, tblB L = true → tabL L = b → L = M := fun L h1 h2 => by
  obtain ⟨m, hm, e1, e2⟩ := h L h1 h2
  rw [chK_flat] at e1
  have := congrArg List.length e1
  rw [List.length_take] at this
  have := (tblB_iff.1 h1).2.1
  omega
theorem prs_block {b : List UInt8} (h : prsE b = 0) : blkB (prsL b) = true := by
  unfold prsE at h
  unfold prsL
  cases hp : parseB b with
  | none => rw [hp] at h; exact absurd h (by decide)
  | some L => exact (parse_iff.1 hp).1
theorem prs_none {b : List UInt8} (h : prsE b ≠ 0) : prsL b = [] ∧ prsE b = 70 := by
  unfold prsE at h ⊢
  unfold prsL
  cases hp : parseB b with
  | none => exact ⟨rfl, rfl⟩
  | some L => rw [hp] at h; exact absurd rfl h
theorem prs_len64 (x : List UInt8) : (prsL x).length ≤ 64 := by
  by_cases hE : prsE x = 0
  · exact (blkB_iff.1 (prs_block hE)).2.1
  · rw [(prs_none hE).1]; simp

set_option maxRecDepth 100000 in
set_option maxHeartbeats 8000000 in
theorem refTParse_c {w : World} {n c : Nat} {A : Option Addr} {l : List UInt8} (h : Rd w w.heap.size A n c (bv l)) (hn : n ≤ 1000000) :
    Calls Tryz.prog 15 #[.slice A n c] w (RetLE w (prtL l) (prtE l)) := by
  have hll : l.length = n := by simpa using h.len
  have hni : (n : Int) ≤ 1000000 := by omega
  have HNO := Lib.hid (fun h => par80 (b := l) h)
  have HYES := Lib.hid (fun M h1 h2 => prt_yes (b := l) (L := M) h1 h2)
  generalize prtL l = PL at *
  generalize prtE l = PE at *
  by_cases h12 : n < 12
  · have d1 : decide ((n : Int) < 12) = true := by simp; omega
    have d1' : decide (n < 12) = true := by simpa using h12
    have HN := Lib.hid (HNO.out (fun L h1 h2 => by have := (tab_at h1).1; rw [h2] at this; omega))
    clear HNO HYES h hll h12
    go_enter Tryz.func15, Tryz.ntmps15
    go_wp2_with fail
    go_ret2
    refine ⟨none, 0, 0, ?_, ?_, Below.refl _ _⟩
    · rw [HN.out.2]; rfl
    · rw [HN.out.1]; exact FrE.nil
  obtain ⟨N, rfl⟩ : ∃ N, n = N + 12 := ⟨n - 12, by omega⟩
  have d1 : decide (((N + 12 : Nat) : Int) < 12) = false := by simp; omega
  have d1' : decide (N + 12 < 12) = false := by simp
  have d1'' : decide ((N : Int) + 12 < 12) = false := by simp; omega
  have hN0 : (0 : Int) ≤ (N : Int) := by omega
  have hNi : (N : Int) ≤ 1000000 := by omega
  have hwN : IntKind.i64.wrap (N : Int) = (N : Int) := wrapi _ (by omega) (by omega)
  obtain ⟨A9, hs9, hr9⟩ := h.slice_lo 24 5 (P := Tryz.prog) Tryz.underlying24 info_u8 .i64 (k := N) (by omega)
  rw [bv_drop] at hr9
  have HT := Lib.hid (refTakeFour_c hr9 (by omega) (by rw [List.length_drop]; omega))
  obtain ⟨a, ha⟩ : ∃ a, leV ((l.drop N).take 4) = a := ⟨_, rfl⟩
  have hau : a ≤ 4294967295 := by rw [← ha]; exact leV4_lt l N
  have hai : (a : Int) ≤ 4294967295 := by omega
  have hwa : IntKind.i64.wrap (a : Int) = (a : Int) := wrapi _ (by omega) (by omega)
  rw [ha] at HT
  have hup : UPar l [] (l.take a) := upar_start (by rw [hll, Nat.add_sub_cancel]; exact ha)
  have HUP := Lib.hid hup
  have HAT := Lib.hid (fun L (h1 : tblB L = true) (h2 : tabL L = l) => (show a ≤ N + 12 by
    obtain ⟨_, e1, e2, _⟩ := tab_at h1
    rw [h2, hll, Nat.add_sub_cancel, ha] at e1
    rw [h2] at e2
    omega))
  have HH := Lib.hid h
  have HLL := Lib.hid hll
  have hcap := h.cap
  rw [show N + 12 - N = 12 by omega] at hs9 HT
  clear hr9 ha hup h hll h12
  by_cases hat : N + 12 < a
  · have d2 : decide ((N : Int) + 12 < (a : Int)) = true := by simp; omega
    have d2' : decide (N + 12 < a) = true := by simpa using hat
    have HN := Lib.hid (HNO.out (fun L h1 h2 => by have := HAT.out L h1 h2; omega))
    clear HNO HYES HAT HUP HH HLL hat hcap
    go_enter Tryz.func15, Tryz.ntmps15
    go_wp2_with fail
    refine HT.out.mono ?_
    rintro e w2 ⟨A2, n2, c2, rfl, hf2, hb2⟩
    go_wp2_with fail
    go_ret2
    refine ⟨none, 0, 0, ?_, ?_, hb2⟩
    · rw [HN.out.2]; rfl
    · rw [HN.out.1]; exact FrE.nil
  have d2 : decide ((N : Int) + 12 < (a : Int)) = false := by simp; omega
  have d2' : decide (N + 12 < a) = false := by simpa using hat
  have hs36 := fun W => run_slice_hi_gen (P := Tryz.prog) (n := N + 12) (A := A) 24 5 Tryz.underlying24 info_u8 .u32 (k := a) (c := c) (by omega) W
  have HFR := Lib.hid (bv_take l a ▸ (HH.out.front (k := a) (by omega)))
  have hal : a ≤ N + 12 := by omega
  clear hat HAT hcap
  go_enter Tryz.func15, Tryz.ntmps15
  go_wp2_with fail
  refine HT.out.mono ?_
  rintro e w2 ⟨A2, n2, c2, rfl, hf2, hb2⟩
  have R0 := Lib.hid (HFR.out.now hb2)
  have G0 := Lib.hid hb2
  clear hf2 hb2 HT HFR
  go_wp2_with fail
  go_loopw [7, 8] (fun lv rv wr => ∃ (M : List Ent) (m c1 n2 c2 : Nat) (A1 A2 : Option Addr) (r : List UInt8), lv = .slice A1 m c1 ∧ rv = .slice A2 n2 c2 ∧ m ≤ 8256 ∧ FrE wr w.heap.size A1 m c1 M ∧ Rd wr wr.heap.size A2 n2 c2 (bv r) ∧ Below w.heap.size w wr ∧ n2 ≤ 1000000 ∧ UPar l M r) (fun _ rv _ => (match rv with | .slice _ m _ => m | _ => 0))
  case atStart => exact ⟨[], 0, 0, a, c, none, A, l.take a, rfl, rfl, by omega, FrE.nil, R0.out, G0.out, by omega, HUP.out⟩
  case round =>
    clear HUP R0 G0 hs9 hs36
    obtain ⟨M, m, c1, n2, c2, A1, A2, r, rfl, rfl, hm, f1, f2, gr, hn2, hpar⟩ := hrel
    have hml := f1.len
    have hrl : r.length = n2 := by simpa using f2.len
    have hmi : (m : Int) ≤ 8256 := by omega
    have hm0 : (0 : Int) ≤ (m : Int) := by omega
    by_cases hgo : 0 < n2 ∧ m ≤ 8192
    · have g1 : decide ((0 : Int) < (n2 : Int)) = true := by simp; omega
      have g1' : decide (0 < n2) = true := by simpa using hgo.1
      have g2 : decide ((m : Int) ≤ 8192) = true := by simp; omega
      have g2' : decide (m ≤ 8192) = true := by simpa using hgo.2
      have hr0 : r ≠ [] := fun e => by rw [e] at hrl; simp at hrl; omega
      have hm8 : m ≤ 8192 := hgo.2
      have HF := refTakeF_c f2 (Nat.le_refl _) (by omega)
      have F1 := Lib.hid f1
      have GR := Lib.hid gr
      have HPAR := Lib.hid hpar
      have HR0 := Lib.hid hr0
      have HRL := Lib.hid hrl
      clear f1 f2 gr hpar hr0 hrl hgo hml
      cases htk : takeL r with
      | none =>
        have HF2 := Lib.hid (HF.mono fun e w' hp => (show RetNo wr e w' by unfold TkPost at hp; rw [htk] at hp; exact hp))
        have HN := Lib.hid (HNO.out (upar_take HPAR.out HR0.out htk))
        clear HF htk
        go_wp2_with fail
        refine HF2.out.mono ?_
        rintro e w3 ⟨rfl, hb3⟩
        go_wp2_with fail
        go_ret2
        refine ⟨none, 0, 0, ?_, ?_, bon GR.out hb3⟩
        · rw [HN.out.2]; rfl
        · rw [HN.out.1]; exact FrE.nil
      | some p =>
        obtain ⟨x, y⟩ := p
        have HF2 := Lib.hid (HF.mono fun e w' hp => (show RetTk wr x y e w' by unfold TkPost at hp; rw [htk] at hp; exact hp))
        obtain ⟨hback, _⟩ := takeL_back htk
        have hlen : x.length + 8 + y.length = n2 := by rw [← HRL.out, ← hback, List.length_append, sealL_len]
        have HTK := Lib.hid htk
        clear HF htk hback
        go_wp2_with fail
        refine HF2.out.mono ?_
        rintro e w3 ⟨A3, n3, c3, A4, n4, c4, rfl, hf3, hf4, hb3⟩
        have hx3 : x.length = n3 := by have := hf3.len; rw [bv_length] at this; exact this
        have hy4 : y.length = n4 := by have := hf4.len; rw [bv_length] at this; exact this
        have HP := Lib.hid (refParse_c (hf3.rd (Nat.le_refl _)) (by omega))
        have f13 := F1.out.below hb3
        have HOW := Lib.hid (show ∀ i, (Value.slice A1 m c1).ownBlock = some i → i < wr.heap.size from fun i hi => (F1.out.own.lt i hi).2)
        have HOY := Lib.hid (show ∀ i, (Value.slice A4 n4 c4).ownBlock = some i → wr.heap.size ≤ i from fun i hi => (hf4.own.lt i hi).1)
        have F13 := Lib.hid f13
        have F4 := Lib.hid hf4
        have G3 := Lib.hid (bon GR.out hb3)
        have hlt4 : n4 < n2 := by omega
        clear f13 hf3 hf4 hb3 F1 GR HF2 hx3 hy4 hlen
        go_wp2_with fail
        refine HP.out.mono ?_
        rintro e w4 ⟨A5, n5, c5, rfl, hf5, hb5⟩
        have hn5 : n5 ≤ 64 := by have := hf5.len; have := prs_len64 x; omega
        have F15 := Lib.hid (F13.out.below hb5)
        have F45 := Lib.hid (F4.out.below hb5)
        have R5 := Lib.hid (hf5.rd (Nat.le_refl _))
        have G5 := Lib.hid (bon G3.out hb5)
        obtain ⟨S, hS⟩ : ∃ S, prsL x = S := ⟨_, rfl⟩
        obtain ⟨E, hE⟩ : ∃ E, prsE x = E := ⟨_, rfl⟩
        have HE := Lib.hid hE
        have HSS := Lib.hid hS
        rw [hS] at R5
        rw [hE]
        clear hf5 hb5 HP F13 F4 G3 hE hS
        by_cases hE0 : E = 0
        · subst hE0
          have f15 := F15.out
          have r5 := R5.out
          have hs5 := G5.out.size
          go_wp2_with (at_builtin; refine wpList_appE rfl (.tmp 60) (.tmp 61) rfl rfl f15 rfl r5 (by omega) hs5 ?_; intro A6 c6 w5 hap)
          have HOW2 := Lib.hid (show ∀ i, (Value.slice A4 n4 c4).ownBlock = some i → (Value.slice A1 m c1).ownBlock ≠ some i from fun i h3 h1 => by have := HOY.out i h3; have := HOW.out i h1; omega)
          have F6 := Lib.hid hap.fr
          have R6 := Lib.hid ((F45.out.grown hap.grown HOW2.out).rd (Nat.le_refl _))
          have G6 := Lib.hid (G5.out.trans hap.below)
          have HP2 := Lib.hid (upar_next HPAR.out HR0.out HTK.out HSS.out)
          clear hap f15 r5 hs5 HOW2
          go_wp2_with fail
          go_roundw
          case rel => exact ⟨M ++ S, m + n5, c6, n4, c4, A6, A4, y, rfl, rfl, by omega, F6.out, R6.out, G6.out, by omega, HP2.out⟩
          case measure => simp; omega
        · have e1 : (E == 0) = false := by simpa using hE0
          have e2 : (E != 0) = true := by simpa using hE0
          have HN := Lib.hid (HNO.out (upar_prs HPAR.out HR0.out HTK.out (by rw [HE.out]; exact hE0)))
          clear hE0
          go_wp2_with fail
          go_ret2
          refine ⟨none, 0, 0, ?_, ?_, G5.out⟩
          · rw [HN.out.2]; rfl
          · rw [HN.out.1]; exact FrE.nil
    · have hend : ∀ L, tblB L = true → tabL L = l → L = M := by
        rcases Nat.eq_zero_or_pos n2 with h0 | h0
        · have : r = [] := List.eq_nil_of_length_eq_zero (by omega)
          rw [this] at hpar
          exact upar_end hpar
        · exact upar_many hpar (by omega)
      have HEND := Lib.hid hend
      have HB := Lib.hid (refTBuild_c (f1.rd (Nat.le_refl _)) (Nat.le_refl _) (by omega))
      have F1 := Lib.hid f1
      have GR := Lib.hid gr
      obtain ⟨cond, hcond⟩ : ∃ q : Bool, (decide (0 < n2) && decide (m ≤ 8192)) = q := ⟨_, rfl⟩
      have hcf : cond = false := by
        rw [← hcond]
        rcases Nat.eq_zero_or_pos n2 with h0 | h0
        · simp [h0]
        · simp; omega
      have hor : (decide ((0 : Int) < (n2 : Int)) = false) ∨ (decide ((0 : Int) < (n2 : Int)) = true ∧ decide ((m : Int) ≤ 8192) = false) := by
        rcases Nat.eq_zero_or_pos n2 with h0 | h0
        · exact .inl (by simp; omega)
        · exact .inr ⟨by simp; omega, by simp; omega⟩
      clear f1 f2 gr hpar hend hcond hcf hgo hml hrl cond
      rcases hor with g1 | ⟨g1, g2⟩
      · have g1' : decide (0 < n2) = false := decide_eq_false (by have := of_decide_eq_false g1; omega)
        go_wp2_with fail
        refine HB.out.mono ?_
        rintro e w6 ⟨A6, n6, c6, rfl, hf6, hb6⟩
        have F6 := Lib.hid (F1.out.below hb6)
        have G6 := Lib.hid (bon GR.out hb6)
        have cv1 := run_str (P := Tryz.prog) (hf6.rd (Nat.le_refl _)) 24 9 5 Tryz.underlying24 Tryz.underlying5 Tryz.underlying9
        have cv2 := run_str (P := Tryz.prog) ((HH.out.now GR.out).now hb6) 24 9 5 Tryz.underlying24 Tryz.underlying5 Tryz.underlying9
        obtain ⟨E6, hE6⟩ : ∃ E6, bltE M = E6 := ⟨_, rfl⟩
        rw [hE6]
        obtain ⟨bb, hbb⟩ : ∃ bb, (bltL M == l) = bb := ⟨_, rfl⟩
        have cq := beq_bytes (bltL M) l
        rw [hbb] at cq
        have cq1 : ((⟨(bltL M).toArray⟩ : ByteArray).toList != (⟨l.toArray⟩ : ByteArray).toList) = !bb := by unfold bne; rw [cq]
        have cq2 := hbb
        have cq3 : (bltL M != l) = !bb := by unfold bne; rw [cq2]
        have HE6 := Lib.hid hE6
        have HBB := Lib.hid hbb
        clear hf6 hb6 hE6 hbb HB
        by_cases hb : tblB M = true
        case neg =>
          have e80 : E6 = 80 := by rw [← HE6.out]; exact if_neg hb
          have d5 : (E6 == 0) = false := by rw [e80]; decide
          have d6 : (E6 != 0) = true := by rw [e80]; decide
          have HN := Lib.hid (HNO.out (fun L h1 h2 => hb (by rw [← HEND.out L h1 h2]; exact h1)))
          clear hb e80
          go_wp2_with fail
          go_ret2
          refine ⟨none, 0, 0, ?_, ?_, G6.out⟩
          · rw [HN.out.2]; rfl
          · rw [HN.out.1]; exact FrE.nil
        have e0 : E6 = 0 := by rw [← HE6.out]; exact if_pos hb
        have eL : bltL M = tabL M := if_pos hb
        have hbb2 := HBB.out
        rw [eL] at hbb2
        subst e0
        cases bb with
        | false =>
          have hne : tabL M ≠ l := by simpa using hbb2
          have HN := Lib.hid (HNO.out (fun L h1 h2 => hne (by rw [← HEND.out L h1 h2]; exact h2)))
          clear hb hne hbb2 eL
          go_wp2_with fail
          go_ret2
          refine ⟨none, 0, 0, ?_, ?_, G6.out⟩
          · rw [HN.out.2]; rfl
          · rw [HN.out.1]; exact FrE.nil
        | true =>
          have heq : tabL M = l := by simpa using hbb2
          have HY := Lib.hid (HYES.out M hb heq)
          clear hb heq hbb2 eL
          go_wp2_with fail
          go_ret2
          refine ⟨A1, m, c1, ?_, ?_, G6.out⟩
          · rw [HY.out.2]; rfl
          · rw [HY.out.1]; exact F6.out
      · have g1' : decide (0 < n2) = true := by simpa using g1
        have g2' : decide (m ≤ 8192) = false := decide_eq_false (by have := of_decide_eq_false g2; omega)
        go_wp2_with fail
        refine HB.out.mono ?_
        rintro e w6 ⟨A6, n6, c6, rfl, hf6, hb6⟩
        have F6 := Lib.hid (F1.out.below hb6)
        have G6 := Lib.hid (bon GR.out hb6)
        have cv1 := run_str (P := Tryz.prog) (hf6.rd (Nat.le_refl _)) 24 9 5 Tryz.underlying24 Tryz.underlying5 Tryz.underlying9
        have cv2 := run_str (P := Tryz.prog) ((HH.out.now GR.out).now hb6) 24 9 5 Tryz.underlying24 Tryz.underlying5 Tryz.underlying9
        obtain ⟨E6, hE6⟩ : ∃ E6, bltE M = E6 := ⟨_, rfl⟩
        rw [hE6]
        obtain ⟨bb, hbb⟩ : ∃ bb, (bltL M == l) = bb := ⟨_, rfl⟩
        have cq := beq_bytes (bltL M) l
        rw [hbb] at cq
        have cq1 : ((⟨(bltL M).toArray⟩ : ByteArray).toList != (⟨l.toArray⟩ : ByteArray).toList) = !bb := by unfold bne; rw [cq]
        have cq2 := hbb
        have cq3 : (bltL M != l) = !bb := by unfold bne; rw [cq2]
        have HE6 := Lib.hid hE6
        have HBB := Lib.hid hbb
        clear hf6 hb6 hE6 hbb HB
        by_cases hb : tblB M = true
        case neg =>
          have e80 : E6 = 80 := by rw [← HE6.out]; exact if_neg hb
          have d5 : (E6 == 0) = false := by rw [e80]; decide
          have d6 : (E6 != 0) = true := by rw [e80]; decide
          have HN := Lib.hid (HNO.out (fun L h1 h2 => hb (by rw [← HEND.out L h1 h2]; exact h1)))
          clear hb e80
          go_wp2_with fail
          go_ret2
          refine ⟨none, 0, 0, ?_, ?_, G6.out⟩
          · rw [HN.out.2]; rfl
          · rw [HN.out.1]; exact FrE.nil
        have e0 : E6 = 0 := by rw [← HE6.out]; exact if_pos hb
        have eL : bltL M = tabL M := if_pos hb
        have hbb2 := HBB.out
        rw [eL] at hbb2
        subst e0
        cases bb with
        | false =>
          have hne : tabL M ≠ l := by simpa using hbb2
          have HN := Lib.hid (HNO.out (fun L h1 h2 => hne (by rw [← HEND.out L h1 h2]; exact h2)))
          clear hb hne hbb2 eL
          go_wp2_with fail
          go_ret2
          refine ⟨none, 0, 0, ?_, ?_, G6.out⟩
          · rw [HN.out.2]; rfl
          · rw [HN.out.1]; exact FrE.nil
        | true =>
          have heq : tabL M = l := by simpa using hbb2
          have HY := Lib.hid (HYES.out M hb heq)
          clear hb heq hbb2 eL
          go_wp2_with fail
          go_ret2
          refine ⟨A1, m, c1, ?_, ?_, G6.out⟩
          · rw [HY.out.2]; rfl
          · rw [HY.out.1]; exact F6.out
end Go.Proofs.YtkdjjdkcogolmaaGreatDoor
