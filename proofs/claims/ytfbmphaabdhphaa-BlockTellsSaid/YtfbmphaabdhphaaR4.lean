/-
  The reference: the contract of Parse.
-/
import Derived.Test.YtfbmphaabdhphaaR3
namespace Go.Proofs.Ytfbmphaabdhphaa
set_option maxRecDepth 100000
open Go.RowKit Go.Shelf
set_option linter.unusedVariables false

/-- What is behind the first m entries of a block. -/
def tailL (L : List Ent) (m : Nat) : List UInt8 := entsL m (lastK noS (L.take m)) (L.drop m) ++ (posL 0 0 noS L ++ fourL ((posL 0 0 noS L).length / 4))
theorem tailL_zero (L : List Ent) : tailL L 0 = blkL L := by simp [tailL, blkL, lastK]
theorem tailL_step {L : List Ent} {m : Nat} {x : Ent} (hx : L[m]? = some x) : tailL L m = entL (shB m (lastK noS (L.take m)) x.s) x ++ tailL L (m + 1) := by
  have hd : L.drop m = x :: L.drop (m + 1) := by
    have hm : m < L.length := by
      rcases Nat.lt_or_ge m L.length with h1 | h1
      · exact h1
      · rw [List.getElem?_eq_none h1] at hx; cases hx
    rw [List.drop_eq_getElem_cons hm]
    rw [List.getElem?_eq_getElem hm] at hx
    rw [Option.some.inj hx]
  unfold tailL
  rw [hd]
  simp only [entsL]
  rw [take_snocE hx, lastK_snoc, List.append_assoc]
theorem one_form {x : Ent} (hx : entB x = true) {n : Nat} {p : ByteArray} (h1 : n ≤ p.size) (h2 : n ≤ x.s.size) (h3 : takeS p n = takeS x.s n) (r : List UInt8) : oneE p (entL n x ++ r) = some (x, r) := by
  obtain ⟨a1, a2, a3, a4, a5, a6⟩ := entB_parts hx
  have e1 := takeN_short n (by omega) (textL (dropS x.s n) ++ (shortL (2 * x.q + x.k) ++ ((if x.k = 1 then textL x.v else []) ++ r)))
  have e2 : textTake (textL (dropS x.s n) ++ (shortL (2 * x.q + x.k) ++ ((if x.k = 1 then textL x.v else []) ++ r))) 64 = some ((dropS x.s n).data.toList, shortL (2 * x.q + x.k) ++ ((if x.k = 1 then textL x.v else []) ++ r)) := by
    rw [textTake_text _ (by rw [dropS_size]; omega), if_pos (by rw [dropS_size]; omega)]
  have e3 := takeN_short (2 * x.q + x.k) (by omega) ((if x.k = 1 then textL x.v else []) ++ r)
  unfold oneE entL
  simp only [List.append_assoc]
  rw [e1]
  simp only [List.drop_left]
  rw [if_neg (by omega), e2]
  simp only []
  rw [e3]
  simp only [List.drop_left]
  rw [show (2 * x.q + x.k) / 2 = x.q by omega, show (2 * x.q + x.k) % 2 = x.k by omega, string_eta, h3, takeS_dropS]
  rcases a6 with a6 | a6
  · rw [if_pos a6, if_pos a6, textTake_text _ (by omega), if_pos (by omega)]
  · by_cases hk : x.k = 1
    · rw [if_pos hk, if_pos hk, textTake_text _ (by omega), if_pos (by omega)]
    · rw [if_neg hk, if_neg hk, ← a6, List.nil_append]
theorem oneE_key {p : ByteArray} {l r : List UInt8} {x : Ent} (h : oneE p l = some (x, r)) : x.s.size ≤ p.size + 64 ∧ r.length ≤ l.length := by
  unfold oneE at h
  split at h
  · cases h
  · next v m h1 =>
    split at h
    · cases h
    · next hv =>
      split at h
      · cases h
      · next t r2 h2 =>
        have hr2 := textTake_rest h2
        have ht : t.length ≤ 64 := by
          unfold textTake at h2
          split at h2
          · split at h2
            · simp only [Option.some.injEq, Prod.mk.injEq] at h2
              rw [← h2.1, List.length_take]; omega
            · cases h2
          · cases h2
        have hsz : (takeS p v ++ (⟨t.toArray⟩ : ByteArray)).size ≤ p.size + 64 := by
          rw [ByteArray.size_append, takeS_size p (by omega)]
          have := size_toArray t
          omega
        rw [List.length_drop] at hr2
        split at h
        · cases h
        · next y m3 h3 =>
          split at h
          · split at h
            · cases h
            · next u r4 h4 =>
              have hr4 := textTake_rest h4
              rw [List.length_drop] at hr4
              simp only [Option.some.injEq, Prod.mk.injEq] at h
              rw [← h.1, ← h.2]
              exact ⟨hsz, by omega⟩
          · simp only [Option.some.injEq, Prod.mk.injEq] at h
            rw [← h.1, ← h.2, List.length_drop]
            exact ⟨hsz, by omega⟩
/-- Whatever block has these bytes: the first m entries of it are there, and what is behind them. -/
def ParP (b : List UInt8) (M : List Ent) (m : Nat) (a : ByteArray) (r : List UInt8) : Prop := ∀ L : List Ent, blkB L = true → blkL L = b → m < L.length ∧ M = L.take m ∧ a = lastK noS M ∧ r = tailL L m
theorem par_no {b : List UInt8} (h : ∀ L : List Ent, blkB L = true → blkL L = b → False) : prsL b = [] ∧ prsE b = 70 := by
  have hp : parseB b = none := by
    cases hp : parseB b with
    | none => rfl
    | some L => exact (h L (parse_iff.1 hp).1 (parse_iff.1 hp).2).elim
  unfold prsL prsE; rw [hp]; exact ⟨rfl, rfl⟩
theorem par_yes {b : List UInt8} {M : List Ent} (h1 : blkB M = true) (h2 : blkL M = b) : prsL b = M ∧ prsE b = 0 := by
  unfold prsL prsE; rw [parse_iff.2 ⟨h1, h2⟩]; exact ⟨rfl, rfl⟩
theorem par_one {b : List UInt8} {M : List Ent} {m : Nat} {a a' : ByteArray} {r : List UInt8} (h : ParP b M m a r) (ha : a' = if m % 4 = 0 then noS else a) {L : List Ent} (h1 : blkB L = true) (h2 : blkL L = b) :
    ∃ x, L[m]? = some x ∧ oneE a' r = some (x, tailL L (m + 1)) ∧ M ++ [x] = L.take (m + 1) ∧ x.s = lastK noS (M ++ [x]) := by
  obtain ⟨p1, p2, p3, p4⟩ := h L h1 h2
  have hx : L[m]? = some (L[m]'p1) := List.getElem?_eq_getElem p1
  refine ⟨_, hx, ?_, by rw [take_snocE hx, p2], by rw [lastK_snoc]⟩
  rw [p4, tailL_step hx]
  have hb := (blkB_iff.1 h1).2.2.1 _ (List.mem_of_getElem? hx)
  by_cases h4 : m % 4 = 0
  · rw [ha, if_pos h4]
    have hs : shB m (lastK noS (L.take m)) (L[m]'p1).s = 0 := if_pos h4
    rw [hs]
    exact one_form hb (Nat.zero_le _) (Nat.zero_le _) (by rw [takeS_zero, takeS_zero]) _
  · rw [ha, if_neg h4, p3, p2]
    obtain ⟨s1, s2, s3⟩ := shB_ok m (lastK noS (L.take m)) (L[m]'p1).s
    exact one_form hb s1 s2 s3 _
theorem beq_bytes (l1 l2 : List UInt8) : ((⟨l1.toArray⟩ : ByteArray).toList == (⟨l2.toArray⟩ : ByteArray).toList) = (l1 == l2) := by
  rw [Lib.toList_data, Lib.toList_data]

set_option maxRecDepth 100000 in
set_option maxHeartbeats 8000000 in
theorem refParse_c {w : World} {n c : Nat} {A : Option Addr} {l : List UInt8} (h : Rd w w.heap.size A n c (bv l)) (hn : n ≤ 1000000) :
    Calls Try.prog 13 #[.slice A n c] w (RetLE w (prsL l) (prsE l)) := by
  have hll : l.length = n := by simpa using h.len
  have HLL := Lib.hid hll
  have HH := Lib.hid h
  have P0 : ParP l [] 0 noS l := fun L h1 h2 => ⟨(blkB_iff.1 h1).1, rfl, rfl, by rw [tailL_zero, h2]⟩
  have HP0 := Lib.hid P0
  have HNO := Lib.hid (fun h => par_no (b := l) h)
  have HYES := Lib.hid (fun M h1 h2 => par_yes (b := l) (M := M) h1 h2)
  generalize prsL l = PL at *
  generalize prsE l = PE at *
  clear h hll P0
  go_enter Try.func13, Try.ntmps13
  go_wp2_with fail
  go_loopw [4, 5, 6] (fun lv rv av wr => ∃ (M : List Ent) (m c1 n2 c2 : Nat) (A1 A2 : Option Addr) (a : ByteArray) (r : List UInt8), lv = .slice A1 m c1 ∧ rv = .slice A2 n2 c2 ∧ av = .string a ∧ m ≤ 64 ∧ FrE wr w.heap.size A1 m c1 M ∧ Rd wr wr.heap.size A2 n2 c2 (bv r) ∧ Below w.heap.size w wr ∧ a.size ≤ 64 * m ∧ r.length ≤ l.length ∧ ParP l M m a r) (fun lv _ _ _ => 64 - (match lv with | .slice _ m _ => m | _ => 0))
  case atStart => exact ⟨[], 0, 0, n, c, none, A, noS, l, rfl, rfl, rfl, by omega, FrE.nil, HH.out, Below.refl _ _, by decide, Nat.le_refl _, HP0.out⟩
  case round =>
    clear HP0
    obtain ⟨M, m, c1, n2, c2, A1, A2, a, r, rfl, rfl, rfl, hm, f1, f2, gr, has, hrl, hpar⟩ := hrel
    have hml := f1.len
    have hn2 : n2 ≤ 1000000 := by have := f2.len; rw [bv_length] at this; have := HLL.out; omega
    by_cases hlt : m < 64
    · have d0 : decide ((m : Int) < 64) = true := by simp; omega
      have d0' : decide (m < 64) = true := by simpa using hlt
      have hm0 : (0 : Int) ≤ (m : Int) := by omega
      obtain ⟨a', ha'⟩ : ∃ a', (if m % 4 = 0 then noS else a) = a' := ⟨_, rfl⟩
      have has' : a'.size ≤ 64 * m := by
        rw [← ha']; split
        · exact Nat.zero_le _
        · exact has
      have HA' := Lib.hid ha'
      have HPAR := Lib.hid hpar
      have HRL := Lib.hid hrl
      have HAS := Lib.hid has'
      have F1 := Lib.hid f1
      have F2 := Lib.hid f2
      have GR := Lib.hid gr
      have HMLEN := Lib.hid hml
      clear f1 f2 gr has hrl hpar ha' has' hml
      go_upto_if 19 with fail
      go_cut [6] from 13 to 19 (fun av wx => av = .string a' ∧ wx = wr)
      case first =>
        have hA' := HA'.out
        by_cases h4 : m % 4 = 0
        · have d1 : ((m : Int) % 4 == 0) = true := by simp; omega
          have d2 : (Int.tmod (m : Int) 4 == 0) = true := by rw [Int.tmod_eq_emod_of_nonneg hm0]; simp; omega
          have d3 : (m % 4 == 0) = true := by simpa using h4
          rw [if_pos h4] at hA'
          have HAA := Lib.hid hA'
          clear h4 hA'
          go_wp2_with fail
          go_meet
          exact ⟨by rw [← HAA.out]; rfl, rfl⟩
        · have d1 : ((m : Int) % 4 == 0) = false := by simp; omega
          have d2 : (Int.tmod (m : Int) 4 == 0) = false := by rw [Int.tmod_eq_emod_of_nonneg hm0]; simp; omega
          have d3 : (m % 4 == 0) = false := by simpa using h4
          rw [if_neg h4] at hA'
          have HAA := Lib.hid hA'
          clear h4 hA'
          go_wp2_with fail
          go_meet
          exact ⟨by rw [← HAA.out], rfl⟩
      case rest =>
      obtain ⟨rfl, rfl⟩ := hcut
      have HC := Lib.hid (refOneE_c F2.out (Nat.le_refl _) (by omega) (p := a') (by have := HAS.out; omega))
      go_wp2_with fail
      refine HC.out.mono ?_
      rintro e w2 ⟨x, A3, n3, c3, r3, ok, rfl, hone, hr3, hb2⟩
      unfold en
      have f1 := F1.out.below hb2
      have g2 := bon GR.out hb2
      have hown : ∀ j, (Value.slice A1 m c1).ownBlock = some j → j < w2.heap.size := fun j hj => (f1.own.lt j hj).2
      have y0 := EnAt.new w2 x
      have ba := below_alloc w2 (.cells #[.string x.s, .int .u64 (x.q : Int), .int .u8 (x.k : Int), .string x.v] 38)
      have F3 := Lib.hid (f1.below ba)
      have hown3 : ∀ j, (Value.slice A3 n3 c3).ownBlock = some j → wc.heap.size ≤ j := fun j hj => (hr3.own.lt j hj).1
      have hown1 : ∀ j, (Value.slice A1 m c1).ownBlock = some j → j < wc.heap.size := fun j hj => (F1.out.own.lt j hj).2
      have HOW2 := Lib.hid (show ∀ j, (Value.slice A3 n3 c3).ownBlock = some j → (Value.slice A1 m c1).ownBlock ≠ some j from fun j h3 h1 => by have := hown3 j h3; have := hown1 j h1; omega)
      have R3 := Lib.hid (hr3.below ba)
      have G3 := Lib.hid (bon g2 ba)
      obtain ⟨be, hbe⟩ : ∃ be, w2.heap.size = be := ⟨_, rfl⟩
      rw [hbe] at y0 hown
      have HOWN := Lib.hid (show (Value.slice A1 m c1).ownBlock ≠ some be from fun e => absurd (hown be e) (Nat.lt_irrefl _))
      clear f1 g2 hr3 hb2 ba hown hown1 hown3 HC F1 F2 GR
      go_upto_region 8 with (fail)
      generalize hwa : w2.alloc (.cells #[.string x.s, .int .u64 (x.q : Int), .int .u8 (x.k : Int), .string x.v] 38) = wa at *
      clear hwa hbe
      cases ok with
      | false =>
        have hno := hone.no rfl
        have HN := Lib.hid (HNO.out (fun L h1 h2 => by
          obtain ⟨y, _, e2, _⟩ := par_one HPAR.out HA'.out.symm h1 h2
          rw [hno] at e2; cases e2))
        clear hone hno
        go_wp2_with fail
        go_ret2
        refine ⟨none, 0, 0, ?_, ?_, G3.out⟩
        · rw [HN.out.2]; rfl
        · rw [HN.out.1]; exact FrE.nil
      | true =>
        have hyes := hone.yes rfl
        have hkey := oneE_key hyes
        have HYS := Lib.hid hyes
        have HKY := Lib.hid hkey
        have Y0 := Lib.hid y0
        obtain ⟨x0, x1, x2, x3⟩ := y0.cells
        clear hone hyes hkey y0
        have hg : w.heap.size ≤ wa.heap.size := G3.out.size
        have f4 := F3.out.alloc (.cells #[.string x.s, .int .u64 (x.q : Int), .int .u8 (x.k : Int), .string x.v] 38)
        have hY : ∀ w5 A5 c5, AppE (wa.alloc (.cells #[.string x.s, .int .u64 (x.q : Int), .int .u8 (x.k : Int), .string x.v] 38)) w5 w.heap.size (.slice A1 m c1) A5 (m + 1) c5 (M ++ [x]) → EnAt w5 be x :=
          fun w5 A5 c5 hap => (Y0.out.below (below_alloc wa _)).app hap HOWN.out
        have HY := Lib.hid hY
        have HSZ := Lib.hid (show w.heap.size ≤ (wa.alloc (.cells #[.string x.s, .int .u64 (x.q : Int), .int .u8 (x.k : Int), .string x.v] 38)).heap.size from Nat.le_trans hg (below_alloc wa _).size)
        clear hY
        go_wp2_with (at_builtin; refine wpList_appE rfl (.tmp 29) (.tmp 31) rfl rfl f4 rfl ((FrE.one wa (b := 0) (g := wa.heap.size) x rfl (Nat.zero_le _)).rd (Nat.le_refl _)) (by omega) HSZ.out ?_; intro A5 c5 w5 hap; have HAP := Lib.hid hap; obtain ⟨j0, j1, j2, j3⟩ := (HY.out w5 A5 c5 hap).cells; clear hap)
        have hfr := HAP.out.fr
        have hb5 : Below w.heap.size w w5 := (blit G3.out (.cells #[.string x.s, .int .u64 (x.q : Int), .int .u8 (x.k : Int), .string x.v] 38)).trans HAP.out.below
        have HBD := Lib.hid (refBuild_c (hfr.rd (Nat.le_refl _)) (Nat.le_refl _) (by omega))
        have F5 := Lib.hid hfr
        have G5 := Lib.hid hb5
        have r5 : Rd w5 w5.heap.size A3 n3 c3 (bv r3) := ((R3.out.alloc _).grown HAP.out.grown HOW2.out).rd (Nat.le_refl _)
        have R5 := Lib.hid r5
        have HH5 := Lib.hid (HH.out.under hb5 (Nat.le_refl _))
        clear hfr hb5 r5 R3 F3 G3 HY HOW2 HOWN f4 HSZ x0 x1 x2 x3 hg
        refine HBD.out.mono ?_
        rintro e w6 ⟨A6, n6, c6, rfl, hf6, hb6⟩
        have F6 := Lib.hid (F5.out.below hb6)
        have R6 := Lib.hid (R5.out.now hb6)
        have G6 := Lib.hid (bon G5.out hb6)
        have cv1 := run_str (P := Try.prog) (hf6.rd (Nat.le_refl _)) 23 9 5 Try.underlying23 Try.underlying5 Try.underlying9
        have cv2 := run_str (P := Try.prog) (HH5.out.under hb6 G5.out.size) 23 9 5 Try.underlying23 Try.underlying5 Try.underlying9
        obtain ⟨E6, hE6⟩ : ∃ E6, bldE (M ++ [x]) = E6 := ⟨_, rfl⟩
        rw [hE6]
        obtain ⟨bb, hbb⟩ : ∃ bb, (bldL (M ++ [x]) == l) = bb := ⟨_, rfl⟩
        have cq := beq_bytes (bldL (M ++ [x])) l
        rw [hbb] at cq
        have HE6 := Lib.hid hE6
        have HBB := Lib.hid hbb
        have cq2 := hbb
        clear hf6 hb6 hE6 hbb HBD F5 R5 G5 HH5
        have hgo : (¬ (blkB (M ++ [x]) = true ∧ blkL (M ++ [x]) = l)) → ParP l (M ++ [x]) (m + 1) x.s r3 := fun hne L h1 h2 => by
          obtain ⟨y, e1, e2, e3, e4⟩ := par_one HPAR.out HA'.out.symm h1 h2
          rw [HYS.out] at e2
          simp only [Option.some.injEq, Prod.mk.injEq] at e2
          obtain ⟨rfl, e5⟩ := e2
          have hlt2 : m < L.length := by
            rcases Nat.lt_or_ge m L.length with h3 | h3
            · exact h3
            · rw [List.getElem?_eq_none h3] at e1; cases e1
          have hne2 : m + 1 ≠ L.length := fun h3 => hne (by rw [e3, h3, List.take_length]; exact ⟨h1, h2⟩)
          exact ⟨by omega, e3, e4, e5⟩
        have HGO := Lib.hid hgo
        clear hgo
        by_cases hb : blkB (M ++ [x]) = true
        case neg =>
          have hb' : blkB (M ++ [x]) = false := by simpa using hb
          have e70 : E6 = 70 := by rw [← HE6.out]; unfold bldE; rw [hb']; rfl
          have d1 : (E6 == 0) = false := by rw [e70]; decide
          have HP := Lib.hid (HGO.out (fun h => hb h.1))
          clear hb hb' e70
          go_wp2_with fail
          go_roundw
          case rel => exact ⟨M ++ [x], m + 1, c5, n3, c3, A5, A3, x.s, r3, rfl, rfl, rfl, by omega, F6.out, R6.out, G6.out, by have := HKY.out.1; have := HAS.out; omega, by have := HKY.out.2; have := HRL.out; omega, HP.out⟩
          case measure => simp; omega
        have e0 : E6 = 0 := by rw [← HE6.out]; unfold bldE; rw [hb]; rfl
        have eL : bldL (M ++ [x]) = blkL (M ++ [x]) := if_pos hb
        have d1 : (E6 == 0) = true := by rw [e0]; decide
        have hbb2 := HBB.out
        rw [eL] at hbb2
        cases bb with
        | false =>
          have hne : blkL (M ++ [x]) ≠ l := by simpa using hbb2
          have HP := Lib.hid (HGO.out (fun h => hne h.2))
          clear hb hne hbb2 e0 eL
          go_wp2_with fail
          go_roundw
          case rel => exact ⟨M ++ [x], m + 1, c5, n3, c3, A5, A3, x.s, r3, rfl, rfl, rfl, by omega, F6.out, R6.out, G6.out, by have := HKY.out.1; have := HAS.out; omega, by have := HKY.out.2; have := HRL.out; omega, HP.out⟩
          case measure => simp; omega
        | true =>
          have heq : blkL (M ++ [x]) = l := by simpa using hbb2
          have HY := Lib.hid (HYES.out _ hb heq)
          clear hb heq hbb2 e0 eL
          go_wp2_with fail
          go_ret2
          refine ⟨A5, m + 1, c5, ?_, ?_, G6.out⟩
          · rw [HY.out.2]; rfl
          · rw [HY.out.1]; exact F6.out
    · have d0 : decide ((m : Int) < 64) = false := by simp; omega
      have d0' : decide (m < 64) = false := by simpa using hlt
      have HN := Lib.hid (HNO.out (fun L h1 h2 => by have := (hpar L h1 h2).1; have := (blkB_iff.1 h1).2.1; omega))
      have GR := Lib.hid gr
      clear f1 f2 gr hpar hlt
      go_wp2_with fail
      go_ret2
      refine ⟨none, 0, 0, ?_, ?_, GR.out⟩
      · rw [HN.out.2]; rfl
      · rw [HN.out.1]; exact FrE.nil
end Go.Proofs.Ytfbmphaabdhphaa
