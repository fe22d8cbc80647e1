/-
  The texts W7, W8, W9, in one.
-/
import Derived.Test.YthgaiimgfnbkaaaGreatDoorW6
import Derived.Deep.QuietTactic
import Derived.BigQuiet
section
/-
  Contract: Number: the number whose name a text is.
-/
namespace Go.Proofs.YthgaiimgfnbkaaaGreatDoor
set_option maxRecDepth 100000
open Go.RowKit Go.Shelf Go.Sort
set_option linter.unusedVariables false

theorem parseM_snoc (M : Nat) (c : UInt8) : ∀ (l : List UInt8) (acc a : Nat), Lib.parseUintM M acc l = .ok a → 48 ≤ c.toNat → c.toNat ≤ 57 → a < 1844674407370955162 → a * 10 + (c.toNat - 48) ≤ M → Lib.parseUintM M acc (l ++ [c]) = .ok (a * 10 + (c.toNat - 48))
  | [], acc, a, h, h1, h2, h3, h4 => by
    simp only [Lib.parseUintM, Lib.NumEnd.ok.injEq] at h
    subst h
    simp only [List.nil_append, Lib.parseUintM]
    rw [if_pos ⟨h1, h2⟩, if_neg (by omega), if_neg (by omega)]
  | x :: l, acc, a, h, h1, h2, h3, h4 => by
    simp only [List.cons_append, Lib.parseUintM] at h ⊢
    split at h
    · rename_i hd
      rw [if_pos hd]
      split at h
      · cases h
      · rename_i hr
        rw [if_neg hr]
        split at h
        · cases h
        · rename_i hm
          rw [if_neg hm]
          exact parseM_snoc M c l _ a h h1 h2 h3 h4
    · cases h
theorem digit_toNat {k : Nat} (h : k < 10) : (UInt8.ofNat (48 + k)).toNat = 48 + k := by rw [UInt8.toNat_ofNat']; omega
theorem parse_digits : ∀ (v : Nat), v < 18446744073709551616 → Lib.parseUintM (2 ^ 64 - 1) 0 (Lib.decDigits v) = .ok v := by
  intro v
  induction v using Nat.strongRecOn with
  | _ v ih =>
    intro hv
    by_cases h : v < 10
    · rw [Lib.decDigits, dif_pos h]
      simp only [Lib.parseUintM, digit_toNat h]
      rw [if_pos (by omega), if_neg (by omega), if_neg (by omega)]
      congr 1; omega
    · rw [Lib.decDigits, dif_neg h]
      have h1 := ih (v / 10) (by omega) (by omega)
      have hd := digit_toNat (k := v % 10) (by omega)
      rw [parseM_snoc _ _ _ _ _ h1 (by omega) (by omega) (by omega) (by omega), hd]
      congr 1; omega
theorem parseB_digits {v : Nat} (h : v < 18446744073709551616) : Lib.parseUintB 64 (Lib.decDigits v) = .ok v := by
  unfold Lib.parseUintB
  rw [if_neg (by intro e; have := (digits_len h).2; rw [e] at this; simp at this), parse_digits v h]
theorem nameL_inj {u v : Nat} (hu : u < 18446744073709551616) (hv : v < 18446744073709551616) (h0 : 0 < u) (h1 : 0 < v) (h : nameL u = nameL v) : u = v := by
  unfold nameL at h
  rw [if_neg (by omega), if_neg (by omega)] at h
  have h2 := parse_digits u hu
  rw [List.append_cancel_left h, parse_digits v hv] at h2
  simpa using h2.symm
theorem nameL_len {u : Nat} (h : u < 18446744073709551616) : (nameL u).length ≤ 24 ∧ (0 < u → 5 ≤ (nameL u).length) := by
  have := digits_len h
  unfold nameL
  split
  · simp; omega
  · simp; omega

/-- What Number tells. -/
structure LogN (s : List UInt8) (u : Nat) (ok : Bool) : Prop where
  yes : ok = true → 0 < u ∧ u < 18446744073709551616 ∧ nameL u = s
  no : ok = false → u = 0 ∧ ∀ v, 0 < v → v < 18446744073709551616 → nameL v ≠ s
def NumPost (w : World) (s : List UInt8) (e : Ending) (w' : World) : Prop := ∃ (u : Nat) (ok : Bool), e = .returned (.tuple #[.int .u64 (u : Int), .bool ok]) ∧ LogN s u ok ∧ Below w.heap.size w w'
theorem LogN.one {s : List UInt8} {u u' : Nat} {ok ok' : Bool} (h : LogN s u ok) (h' : LogN s u' ok') : u = u' ∧ ok = ok' := by
  cases ok <;> cases ok'
  · exact ⟨by rw [(h.no rfl).1, (h'.no rfl).1], rfl⟩
  · have h1 := h'.yes rfl; exact absurd h1.2.2 ((h.no rfl).2 _ h1.1 h1.2.1)
  · have h1 := h.yes rfl; exact absurd h1.2.2 ((h'.no rfl).2 _ h1.1 h1.2.1)
  · have h1 := h.yes rfl
    have h2 := h'.yes rfl
    exact ⟨nameL_inj h1.2.1 h2.2.1 h1.1 h2.1 (h1.2.2.trans h2.2.2.symm), rfl⟩
theorem pre_iff (s : List UInt8) : Lib.hasPrefix s [108, 111, 103, 46] = true ↔ ∃ t, s = [108, 111, 103, 46] ++ t := by
  unfold Lib.hasPrefix
  rw [List.isPrefixOf_iff_prefix]
  constructor
  · rintro ⟨t, rfl⟩; exact ⟨t, rfl⟩
  · rintro ⟨t, rfl⟩; exact ⟨t, rfl⟩
theorem named_pre {s : List UInt8} {v : Nat} (h0 : 0 < v) (h : nameL v = s) : Lib.hasPrefix s [108, 111, 103, 46] = true ∧ s.drop 4 = Lib.decDigits v := by
  unfold nameL at h
  rw [if_neg (by omega)] at h
  subst h
  exact ⟨(pre_iff _).2 ⟨_, rfl⟩, rfl⟩
theorem beq_str (s t : ByteArray) : (s.toList == t.toList) = decide (s = t) := beq_strs s t

set_option maxHeartbeats 4000000 in
theorem number_c {w : World} (hv : Vars w) (s : ByteArray) (hs : s.size ≤ 281474976710656) :
    Calls Tryz.prog 6 #[.string s] w (NumPost w s.data.toList) := by
  have HC := Lib.hid (cut_c s ⟨#[108, 111, 103, 46]⟩ w)
  have hsz : s.data.toList.length = s.size := Array.length_toList
  cases hp : Lib.hasPrefix s.data.toList [108, 111, 103, 46] with
  | false =>
    have hno : LogN s.data.toList 0 false := ⟨fun h => (by cases h), fun _ => ⟨rfl, fun v h0 hv2 h => by rw [(named_pre h0 h).1] at hp; cases hp⟩⟩
    have HNO := Lib.hid hno
    have htp : Lib.trimPrefix s.data.toList [108, 111, 103, 46] = s.data.toList := by unfold Lib.trimPrefix; rw [hp]; rfl
    have hC : Calls Tryz.prog 17 #[.string s, .string ⟨#[108, 111, 103, 46]⟩] w fun e w' => e = .returned (.tuple #[.string s, .bool false]) ∧ w' = w := by
      have := HC.out
      rw [show (⟨#[108, 111, 103, 46]⟩ : ByteArray).data.toList = [108, 111, 103, 46] from rfl, hp, htp] at this
      exact this
    have HC2 := Lib.hid hC
    clear HC hC hp htp hno hsz
    by_cases hk : ∃ u, Lib.parseUintB 64 s.data.toList = .ok u
    · obtain ⟨u, hu⟩ := hk
      have HP := Lib.hid (parse_ok s (by omega) u hu w)
      clear hu hv hs
      go_enter Tryz.func6, Tryz.ntmps6
      go_wp2_with fail
      refine HC2.out.mono ?_
      rintro e w1 ⟨rfl, rfl⟩
      go_wp2_with fail
      refine HP.out.mono ?_
      rintro e w1 ⟨rfl, hb1⟩
      go_wp2_with fail
      go_ret2
      exact ⟨0, false, rfl, HNO.out, hb1⟩
    · have HP := Lib.hid (parse_err s hs (fun u hu => hk ⟨u, hu⟩) w hv)
      clear hk hv hs
      go_enter Tryz.func6, Tryz.ntmps6
      go_wp2_with fail
      refine HC2.out.mono ?_
      rintro e w1 ⟨rfl, rfl⟩
      go_wp2_with fail
      refine HP.out.mono ?_
      rintro e w1 ⟨u, t, N, rfl, hb1⟩
      go_wp2_with fail
      go_ret2
      exact ⟨0, false, rfl, HNO.out, hb1⟩
  | true =>
    obtain ⟨d, hd⟩ := (pre_iff _).1 hp
    have htp : Lib.trimPrefix s.data.toList [108, 111, 103, 46] = d := by unfold Lib.trimPrefix; rw [hp, hd]; rfl
    have hC : Calls Tryz.prog 17 #[.string s, .string ⟨#[108, 111, 103, 46]⟩] w fun e w' => e = .returned (.tuple #[.string ⟨d.toArray⟩, .bool true]) ∧ w' = w := by
      have := HC.out
      rw [show (⟨#[108, 111, 103, 46]⟩ : ByteArray).data.toList = [108, 111, 103, 46] from rfl, hp, htp] at this
      exact this
    have HC2 := Lib.hid hC
    have hdl : d.length + 4 = s.size := by rw [← hsz, hd]; simp
    have hds : (⟨d.toArray⟩ : ByteArray).size = d.length := ba_size d
    have hdd : (⟨d.toArray⟩ : ByteArray).data.toList = d := by simp
    by_cases hk : ∃ u, Lib.parseUintB 64 d = .ok u
    · obtain ⟨u, hu⟩ := hk
      have hu64 : u < 18446744073709551616 := by have := Lib.parseUintB_le hu; omega
      have HP := Lib.hid (parse_ok ⟨d.toArray⟩ (by rw [hds]; omega) u (by rw [hdd]; exact hu) w)
      have HN := Lib.hid (fun (W : World) (hb : Below w.heap.size w W) => name_c (hv.now hb) u hu64)
      by_cases he : s = ⟨(nameL u).toArray⟩
      · have hb := (beq_str s ⟨(nameL u).toArray⟩).trans (decide_eq_true he)
        have hu0 : 0 < u := by
          rcases Nat.eq_zero_or_pos u with h | h
          · subst h
            have : s.data.toList = [] := by rw [he]; rfl
            rw [hd] at this; cases this
          · exact h
        have HR := Lib.hid (show LogN s.data.toList u true from ⟨fun _ => ⟨hu0, hu64, by rw [he]⟩, fun h => (by cases h)⟩)
        clear HC hC hp htp hd hdl hds hdd hu hu64 he hu0 hv hs hsz
        generalize nameL u = nu at *
        have hb' := hb
        simp at hb'
        go_enter Tryz.func6, Tryz.ntmps6
        go_wp2_with fail
        refine HC2.out.mono ?_
        rintro e w1 ⟨rfl, rfl⟩
        go_wp2_with fail
        refine HP.out.mono ?_
        rintro e w2 ⟨rfl, hb1⟩
        have HN2 := Lib.hid (HN.out _ hb1)
        clear HN
        go_wp2_with fail
        refine HN2.out.mono ?_
        rintro e w3 ⟨rfl, hb2⟩
        go_wp2_with fail
        go_ret2
        exact ⟨u, true, rfl, HR.out, bon hb1 hb2⟩
      · have hb := (beq_str s ⟨(nameL u).toArray⟩).trans (decide_eq_false he)
        have HR := Lib.hid (show LogN s.data.toList 0 false from ⟨fun h => (by cases h), fun _ => ⟨rfl, fun v h0 hv2 h => by
          have h3 := (named_pre h0 h).2
          rw [hd] at h3
          have h4 : d = Lib.decDigits v := h3
          rw [h4, parseB_digits hv2] at hu
          simp only [Lib.NumEnd.ok.injEq] at hu
          subst hu
          exact he (by rw [h])⟩⟩)
        clear HC hC hp htp hd hdl hds hdd hu hu64 he hv hs hsz
        generalize nameL u = nu at *
        have hb' : (s.toList == nu) = false := by rw [← hb]; simp
        go_enter Tryz.func6, Tryz.ntmps6
        go_wp2_with fail
        refine HC2.out.mono ?_
        rintro e w1 ⟨rfl, rfl⟩
        go_wp2_with fail
        refine HP.out.mono ?_
        rintro e w2 ⟨rfl, hb1⟩
        have HN2 := Lib.hid (HN.out _ hb1)
        clear HN
        go_wp2_with fail
        refine HN2.out.mono ?_
        rintro e w3 ⟨rfl, hb2⟩
        go_wp2_with fail
        go_ret2
        exact ⟨0, false, rfl, HR.out, bon hb1 hb2⟩
    · have HP := Lib.hid (parse_err ⟨d.toArray⟩ (by rw [hds]; omega) (fun u hu => hk ⟨u, by rw [hdd] at hu; exact hu⟩) w hv)
      have HR := Lib.hid (show LogN s.data.toList 0 false from ⟨fun h => (by cases h), fun _ => ⟨rfl, fun v h0 hv2 h => by
          have h3 := (named_pre h0 h).2
          rw [hd] at h3
          have h4 : d = Lib.decDigits v := h3
          exact hk ⟨v, by rw [h4]; exact parseB_digits hv2⟩⟩⟩)
      clear HC hC hp htp hd hdl hds hdd hk hv hs hsz
      go_enter Tryz.func6, Tryz.ntmps6
      go_wp2_with fail
      refine HC2.out.mono ?_
      rintro e w1 ⟨rfl, rfl⟩
      go_wp2_with fail
      refine HP.out.mono ?_
      rintro e w1 ⟨u, t, N, rfl, hb1⟩
      go_wp2_with fail
      go_ret2
      exact ⟨0, false, rfl, HR.out, hb1⟩
end Go.Proofs.YthgaiimgfnbkaaaGreatDoor
end

section
/-
  Contracts: are two rows of records; are records few, and small.
-/
namespace Go.Proofs.YthgaiimgfnbkaaaGreatDoor
set_option maxRecDepth 100000
open Go.RowKit Go.Shelf
set_option linter.unusedVariables false

theorem RdO.drewN {w : World} {B n c : Nat} {A : Option Addr} {L : List Bop} (h : RdO w B A n c L) (k : Nat) : RdO (w.drewN k) B A n c L := h.keep fun _ _ => rfl
theorem wr_same {L M : List WR} {k : Nat} (h1 : L.length = k) (h2 : M.length = k) (h : ∀ i, i < k → (L[i]?).map WR.r = (M[i]?).map WR.r) : recsOf L = recsOf M := by
  apply List.ext_getElem?
  intro i
  unfold recsOf
  rw [List.getElem?_map, List.getElem?_map]
  rcases Nat.lt_or_ge i k with hi | hi
  · exact h i hi
  · rw [List.getElem?_eq_none (by omega), List.getElem?_eq_none (by omega)]

def sameRs (P Q : List Wr) : Bool := sameL (fun x y => decide (x.1 = y.1) && sameOs x.2 y.2) P Q
theorem sameRs_iff {P Q : List Wr} : sameRs P Q = true ↔ P = Q :=
  sameL_iff fun x y => by
    simp only [Bool.and_eq_true, decide_eq_true_eq, sameOs_iff]
    exact ⟨fun h => Prod.ext h.1 h.2, fun h => by rw [h]; exact ⟨rfl, rfl⟩⟩

set_option maxHeartbeats 4000000 in
theorem sameW_c {w : World} {n1 c1 n2 c2 : Nat} {A1 A2 : Option Addr} {L M : List WR} (h1 : Recs w A1 n1 c1 L) (h2 : Recs w A2 n2 c2 M) (hs1 : ∀ x ∈ L, (x.n : Int) ≤ 70368744000000) (hs2 : ∀ x ∈ M, (x.n : Int) ≤ 70368744000000) (hn : (n1 : Int) ≤ 70368744000000) :
    Calls Tryz.prog 15 #[.slice A1 n1 c1, .slice A2 n2 c2] w (RetQ w (.bool (sameRs (recsOf L) (recsOf M)))) := by
  have hl := h1.len
  have hl2 := h2.len
  have HR := Lib.hid (fun (b : Bool) (hb : b = true ↔ recsOf L = recsOf M) => show b = sameRs (recsOf L) (recsOf M) by rw [Bool.eq_iff_iff, hb, sameRs_iff])
  have HO1 := Lib.hid h1.ops
  have HO2 := Lib.hid h2.ops
  have H1 := Lib.hid h1.rd
  have H2 := Lib.hid h2.rd
  have HS1 := Lib.hid hs1
  have HS2 := Lib.hid hs2
  clear h1 h2 hs1 hs2
  by_cases hne : n1 = n2
  case neg =>
    have d1 : ((n1 : Int) != (n2 : Int)) = true := by simp; omega
    have hno := HR.out false (by constructor; (intro h; cases h); (intro h; have := congrArg List.length h; simp at this; omega))
    have HNO := Lib.hid hno
    clear hl hl2 hno HR hne
    go_enter Tryz.func15, Tryz.ntmps15
    go_wp2_with fail
    go_ret
    exact RetQ.bool HNO.out (q := 0) rfl
  subst hne
  have d1 : ((n1 : Int) != (n1 : Int)) = false := by simp
  go_enter Tryz.func15, Tryz.ntmps15
  go_wp2_with fail
  go_loopw [13] (fun iv wr => ∃ (k q : Nat), iv = .int .i64 (k : Int) ∧ k ≤ n1 ∧ (∀ i, i < k → (L[i]?).map WR.r = (M[i]?).map WR.r) ∧ wr = w.drewN q) (fun iv _ => ((n1 : Int) - intOf iv).toNat)
  case atStart => exact ⟨0, 0, rfl, Nat.zero_le _, fun i hi => by omega, rfl⟩
  case round =>
    obtain ⟨k, q, rfl, hkn, hall, hwr⟩ := hrel
    by_cases hlt : k < n1
    · obtain ⟨b, off, hA, hbB, hcell⟩ := H1.out.form (by omega)
      obtain ⟨b', off', hA', hbB', hcell'⟩ := H2.out.form (by omega)
      subst hA; subst hA'
      obtain ⟨x, hx⟩ : ∃ x, L[k]? = some x := ⟨L[k]'(by omega), List.getElem?_eq_getElem _⟩
      obtain ⟨y, hy⟩ : ∃ y, M[k]? = some y := ⟨M[k]'(by omega), List.getElem?_eq_getElem _⟩
      have hk (b i : Nat) : wr.cell? ⟨b, i, none⟩ = w.cell? ⟨b, i, none⟩ := by rw [hwr]; rfl
      obtain ⟨x0, x1⟩ := hcell k x hx
      obtain ⟨y0, y1⟩ := hcell' k y hy
      rw [← hk] at x0 x1 y0 y1
      have hki : (k : Int) < (n1 : Int) := by omega
      have hk0 : (0 : Int) ≤ (k : Int) := by omega
      have hxm := List.mem_of_getElem? hx
      have hym := List.mem_of_getElem? hy
      have hcall : ∀ j, Calls Tryz.prog 32 #[.slice x.A x.n x.c, .slice y.A y.n y.c] (wr.drewN j) fun e w' => e = .returned (.bool (sameOs x.L y.L)) ∧ ∃ m, w' = (wr.drewN j).drewN m := fun j => by
        have := sameO_c (w := wr.drewN j) (((HO1.out x hxm).drewN q).drewN j |> fun h => by rw [hwr]; exact h) (((HO2.out y hym).drewN q).drewN j |> fun h => by rw [hwr]; exact h) (HS1.out x hxm) (HS2.out y hym)
        exact this
      have HX := Lib.hid hx
      have HY := Lib.hid hy
      have HALL := Lib.hid hall
      have HW := Lib.hid hwr
      have HC := Lib.hid hcall
      clear hcell hcell' hk hall hwr hcall hxm hym hx hy
      obtain ⟨xq, xA, xn, xc, xL⟩ := x
      obtain ⟨yq, yA, yn, yc, yL⟩ := y
      dsimp only at x0 x1 y0 y1 HC
      by_cases hq : xq = yq
      · have d2 : ((xq : Int) != (yq : Int)) = false := by simp; omega
        have d3 : (xq != yq) = false := by simp; omega
        cases hb : sameOs xL yL with
        | true =>
          rw [hb] at HC
          have hLL := sameOs_iff.1 hb
          have HE := Lib.hid (And.intro hq hLL)
          clear hb hLL hl hl2 hq
          go_wp2_with fail
          go_quiet ((go_at_call 32; exact Calls.quiet_of (HC.out _)))
          go_wp2_with fail
          go_roundw
          case rel =>
            refine ⟨k + 1, q + _, by simp, by omega, fun i hi => ?_, by rw [HW.out]; exact drewN_add _ _ _⟩
            rcases Nat.lt_or_ge i k with h3 | h3
            · exact HALL.out i h3
            · obtain rfl : i = k := by omega
              rw [HX.out, HY.out]
              simp only [Option.map_some, WR.r]
              rw [HE.out.1, HE.out.2]
          case measure => simp [intOf]; omega
        | false =>
          rw [hb] at HC
          have hno := HR.out false (by
            constructor
            · intro h; cases h
            · intro h
              have e1 := congrArg (fun l : List Wr => l[k]?) h
              simp only [recsOf, List.getElem?_map, HX.out, HY.out, Option.map_some, Option.some.injEq, WR.r, Prod.mk.injEq] at e1
              rw [sameOs_iff.2 e1.2] at hb; cases hb)
          have HNO := Lib.hid hno
          clear hb hno hl hl2 hq
          go_wp2_with fail
          go_quiet ((go_at_call 32; exact Calls.quiet_of (HC.out _)))
          go_wp2_with fail
          go_ret
          exact RetQ.bool HNO.out (q := q + _) (by rw [HW.out]; exact drewN_add _ _ _)
      · have d2 : ((xq : Int) != (yq : Int)) = true := by simp; omega
        have d3 : (xq != yq) = true := by simp; omega
        have hno := HR.out false (by
            constructor
            · intro h; cases h
            · intro h
              have e1 := congrArg (fun l : List Wr => l[k]?) h
              simp only [recsOf, List.getElem?_map, HX.out, HY.out, Option.map_some, Option.some.injEq, WR.r, Prod.mk.injEq] at e1
              exact absurd e1.1 hq)
        have HNO := Lib.hid hno
        clear hno hl hl2 hq
        go_wp2_with fail
        go_quiet (fail)
        go_wp2_with fail
        go_ret
        exact RetQ.bool HNO.out (q := q + _) (by rw [HW.out]; exact drewN_add _ _ _)
    · obtain rfl : k = n1 := by omega
      have hyes := HR.out true (by constructor; (intro _; exact wr_same hl hl2 hall); (intro _; rfl))
      have HY := Lib.hid hyes
      have dk : decide ((k : Int) < (k : Int)) = false := by simp
      have dk2 : decide (k < k) = false := by simp
      have HW := Lib.hid hwr
      clear hyes hall hl hl2 hwr
      go_wp2_with fail
      go_ret
      exact RetQ.bool HY.out (q := q) HW.out

/-- Are records few, and small. -/
def fewW (L : List WR) (most : Int) : Bool := L.all (fun x => fewB x.L 140) && decide ((L.length : Int) ≤ most)
theorem fewW_yes {L : List WR} {n : Nat} (hl : L.length = n) (h : ∀ i x, i < n → L[i]? = some x → fewB x.L 140 = true) : L.all (fun x => fewB x.L 140) = true := by
  rw [List.all_eq_true]
  intro x hx
  obtain ⟨i, hi, rfl⟩ := List.getElem_of_mem hx
  exact h i _ (by omega) (List.getElem?_eq_getElem hi)
theorem fewW_no {L : List WR} {k : Nat} {x : WR} {most : Int} (hx : L[k]? = some x) (h : fewB x.L 140 = false) : fewW L most = false := by
  unfold fewW
  have : L.all (fun x => fewB x.L 140) = false := by
    rw [List.all_eq_false]
    exact ⟨x, List.mem_of_getElem? hx, by rw [h]; decide⟩
  rw [this]; rfl

set_option maxHeartbeats 4000000 in
theorem fewW_c {w : World} {n c : Nat} {A : Option Addr} {L : List WR} (h : Recs w A n c L) (most : Int) :
    Calls Tryz.prog 4 #[.slice A n c, .int .i64 most] w (RetVl w (.bool (fewW L most))) := by
  have hl := h.len
  have hcap := h.rd.cap
  have hmax := h.rd.max
  have hm : (n : Int) ≤ 9223372036854775807 := by have : maxLen ≤ 9223372036854775807 := by decide
                                                  omega
  have HO := Lib.hid h.ops
  have H := Lib.hid h.rd
  clear h
  go_enter Tryz.func4, Tryz.ntmps4
  go_wp2_with fail
  clear hcap hmax
  go_loopw [9] (fun iv wr => ∃ k : Nat, iv = .int .i64 (k : Int) ∧ k ≤ n ∧ (∀ i x, i < k → L[i]? = some x → fewB x.L 140 = true) ∧ Below w.heap.size w wr) (fun iv _ => ((n : Int) - intOf iv).toNat)
  case atStart => exact ⟨0, rfl, by omega, fun i a hi => by omega, Below.refl _ _⟩
  case round =>
    obtain ⟨k, rfl, hkn, hall, hbr⟩ := hrel
    by_cases hlt : k < n
    · obtain ⟨b, off, hA, hbB, hcell⟩ := H.out.form (by omega)
      subst hA
      obtain ⟨x, hx⟩ : ∃ x, L[k]? = some x := ⟨L[k]'(by omega), List.getElem?_eq_getElem _⟩
      have hk (i : Nat) : wr.cell? ⟨b, i, none⟩ = w.cell? ⟨b, i, none⟩ := hbr.cell (by simp; omega)
      obtain ⟨x0, x1⟩ := hcell k x hx
      rw [← hk] at x0 x1
      have hki : (k : Int) < (n : Int) := by omega
      have hk0 : (0 : Int) ≤ (k : Int) := by omega
      have hrd := ((HO.out x (List.mem_of_getElem? hx)).now hbr)
      obtain ⟨xq, xA, xn, xc, xL⟩ := x
      dsimp only at x0 x1 hrd
      have hF := few_c (hrd.lay (.cells #[.int .u64 (xq : Int), .slice xA xn xc] 25)) (Nat.le_refl _) 140
      have HX := Lib.hid hx
      have HALL := Lib.hid hall
      have HB := Lib.hid (blit hbr (.cells #[.int .u64 (xq : Int), .slice xA xn xc] 25))
      cases hf : fewB xL 140 with
      | true =>
        rw [hf] at hF
        have HF := Lib.hid hF
        have HE := Lib.hid hf
        clear hcell hk hx hkn hall hl hbr hF hf hrd
        go_wp2_with fail
        refine HF.out.mono ?_
        rintro e w2 ⟨rfl, hb2⟩
        go_wp2_with fail
        go_roundw
        case rel =>
          refine ⟨k + 1, by simp, by omega, fun i a hi ha => ?_, bon HB.out hb2⟩
          rcases Nat.lt_or_ge i k with h3 | h3
          · exact HALL.out i a h3 ha
          · obtain rfl : i = k := by omega
            rw [HX.out] at ha
            cases ha
            exact HE.out
        case measure => simp [intOf]; omega
      | false =>
        rw [hf] at hF
        have HF := Lib.hid hF
        have HE := Lib.hid (fewW_no (most := most) hx hf)
        clear hcell hk hx hkn hall hl hbr hF hf hrd
        go_wp2_with fail
        refine HF.out.mono ?_
        rintro e w2 ⟨rfl, hb2⟩
        go_wp2_with fail
        go_ret
        exact RetVl.of (u := .bool false) (by rw [HE.out]) (bon HB.out hb2)
    · obtain rfl : k = n := by omega
      have hyes := fewW_yes hl hall
      have HE := Lib.hid (show fewW L most = decide ((k : Int) ≤ most) by unfold fewW; rw [hyes, hl]; simp)
      have dk : decide ((k : Int) < (k : Int)) = false := by simp
      have dk2 : decide (k < k) = false := by simp
      have HB := Lib.hid hbr
      clear hyes hall hl hbr
      go_wp2_with fail
      go_ret
      exact RetVl.of (u := .bool (decide ((k : Int) ≤ most))) (by rw [HE.out]) HB.out
end Go.Proofs.YthgaiimgfnbkaaaGreatDoor
end

section
/-
  Words for laws over logs: what is read of a log that is known; the chapter's examples as mathematics.
-/
namespace Go.Proofs.YthgaiimgfnbkaaaGreatDoor
set_option maxRecDepth 100000
open Go.RowKit Go.Shelf
set_option linter.unusedVariables false

theorem chain_mem : ∀ {nx : Nat} {P : List Wr}, chain nx P → ∀ r ∈ P, recB r.1 r.2 = true
  | _, [], _, r, h => by cases h
  | nx, s :: P, hc, r, h => by
    rcases List.mem_cons.1 h with h | h
    · subst h; exact hc.2.1
    · exact chain_mem hc.2.2 r h
theorem oneL_nil : oneL [] = none := by
  cases h : oneL [] with
  | none => rfl
  | some p => obtain ⟨r, k⟩ := p; have := oneL_le h; simp at this; omega
/-- Of what is put one behind the other, and then of what no record that fits begins, just that is read. -/
theorem isRead_cat {P : List Wr} (h : chain 0 P) {t : List UInt8} (ht : ∀ q L k, oneL t = some ((q, L), k) → nextW 0 P ≠ 0 ∧ q ≠ nextW 0 P) : IsRead (catW P ++ t) P (catW P).length :=
  ⟨h, List.take_left, by rw [List.length_append]; omega, by rw [List.drop_left]; exact ht⟩
theorem isRead_all {P : List Wr} (h : chain 0 P) : IsRead (catW P) P (catW P).length := by
  have := isRead_cat h (t := []) (fun q L k h2 => by rw [oneL_nil] at h2; cases h2)
  rwa [List.append_nil] at this
/-- A front of a record is none. -/
theorem oneL_front {q : Nat} {L : List Bop} (h : recB q L = true) {k : Nat} (hk : k < (recL q L).length) : oneL ((recL q L).take k) = none := by
  cases h2 : oneL ((recL q L).take k) with
  | none => rfl
  | some p =>
    obtain ⟨⟨q', L'⟩, j⟩ := p
    obtain ⟨h3, rfl, t, h4⟩ := oneL_iff.1 h2
    have e1 := inL_len (q := q) (recB_iff.1 h).1
    have e2 := inL_len (q := q') (recB_iff.1 h3).1
    have h5 : (recL q L).take (recL q' L').length = recL q' L' := by
      have h6 : recL q L = recL q' L' ++ (t ++ (recL q L).drop k) := by rw [← List.append_assoc, ← h4, List.take_append_drop]
      rw [h6, List.take_left]
    have h7 := seal_front (b := inL q' L') (o := inL q L) (by omega) (by omega) h5
    have h8 := congrArg List.length h4
    rw [List.length_take, List.length_append] at h8
    have h9 : (recL q' L').length = (recL q L).length := by unfold recL; rw [h7]
    omega

/-- What Read answers, where the records are known. -/
def RdT (w : World) (P : List Wr) (u : Nat) (b : Bool) (e : Ending) (w' : World) : Prop :=
  ∃ (A : Option Addr) (n c : Nat) (R : List WR), e = .returned (.tuple #[.slice A n c, .int .i64 (u : Int), .bool b]) ∧ recsOf R = P ∧ Recs w' A n c R ∧ (∀ x ∈ R, (x.n : Int) ≤ 70368744000000) ∧ Below w.heap.size w w'
theorem read_t {w : World} {n c : Nat} {A : Option Addr} {l : List UInt8} (h : Rd w w.heap.size A n c (bv l)) (hn : n ≤ 1000000000) {P : List Wr} {u : Nat} {b : Bool} (hr : IsRead l P u) (hb : decide (u < l.length) = b) :
    Calls Tryz.prog 10 #[.slice A n c] w (RdT w P u b) :=
  (read_c6 h hn).mono fun e w' ⟨A', n', c', R, u', he, hi, hf, hbl⟩ => by
    obtain ⟨h1, h2⟩ := hi.one hr
    subst h2
    rw [hb] at he
    refine ⟨A', n', c', R, he, h1, ⟨hf.fr.here, fun x hx => (hf.ops x hx).here⟩, fun x hx => ?_, hbl⟩
    have h3 := chain_mem hi.ch x.r (List.mem_map.2 ⟨x, hx, rfl⟩)
    have h4 := (grpB_iff.1 (recB_iff.1 h3).1).2.1
    have h5 := (hf.ops x hx).len
    have h6 : x.r.2.length = x.n := h5
    omega
theorem walBytes_t {w : World} {q n c : Nat} {A : Option Addr} {L : List Bop} (h : RdO w w.heap.size A n c L) (hq : (q : Int) ≤ 18446744073709551615) (hn : (n : Int) ≤ 70368744000000) {l : List UInt8} {k : Int} (hl : walL q L = l) (hk : walE q L = k) :
    Calls Tryz.prog 8 #[.agg #[.int .u64 (q : Int), .slice A n c]] w (RetBE w l k) := by
  subst hl; subst hk
  exact walBytes_c (x := ⟨q, A, n, c, L⟩) h hq hn
theorem sameW_t {w : World} {n1 c1 n2 c2 : Nat} {A1 A2 : Option Addr} {L M : List WR} (h1 : Recs w A1 n1 c1 L) (h2 : Recs w A2 n2 c2 M) (hs1 : ∀ x ∈ L, (x.n : Int) ≤ 70368744000000) (hs2 : ∀ x ∈ M, (x.n : Int) ≤ 70368744000000) (hn : (n1 : Int) ≤ 70368744000000) {b : Bool} (hb : sameRs (recsOf L) (recsOf M) = b) :
    Calls Tryz.prog 15 #[.slice A1 n1 c1, .slice A2 n2 c2] w (RetVl w (.bool b)) := by
  subst hb
  exact (sameW_c h1 h2 hs1 hs2 hn).mono fun _ _ h => h.below
/-- Number, where the answer is known. -/
theorem number_t {w : World} (hv : Vars w) (s : ByteArray) (hs : s.size ≤ 281474976710656) {u : Nat} {ok : Bool} (h : LogN s.data.toList u ok) :
    Calls Tryz.prog 6 #[.string s] w (RetVl w (.tuple #[.int .u64 (u : Int), .bool ok])) :=
  (number_c hv s hs).mono fun e w' ⟨u', ok', he, h2, hb⟩ => by
    obtain ⟨rfl, rfl⟩ := h2.one h
    exact ⟨he, hb⟩
theorem logN_no {s : List UInt8} {d : List UInt8} (hd : s.drop 4 = d) {v : Nat} (hp : Lib.parseUintM (2 ^ 64 - 1) 0 d = .ok v) (hne : v = 0 ∨ Lib.decDigits v ≠ d) : LogN s 0 false :=
  ⟨fun h => (by cases h), fun _ => ⟨rfl, fun x h0 hx h => by
    have h1 := (named_pre h0 h).2
    rw [hd] at h1
    have h2 := parse_digits x hx
    rw [← h1, hp] at h2
    simp only [Lib.NumEnd.ok.injEq] at h2
    subst h2
    rcases hne with h3 | h3
    · omega
    · exact h3 h1.symm⟩⟩

/-! ## The examples -/
def exC : Bop := ⟨0, ⟨#[98]⟩, ⟨#[]⟩⟩
theorem ex_r1 : recB 1 [exA] = true := by decide
theorem ex_r2 : recB 2 [exC] = true := by decide
theorem ex_r3 : recB 3 [exC] = true := by decide
theorem ex_l1 : (recL 1 [exA]).length = 15 := by unfold recL; rw [sealL_len]; decide
theorem ex_l2 : (recL 2 [exC]).length = 13 := by unfold recL; rw [sealL_len]; decide
theorem ex_l3 : (recL 3 [exC]).length = 13 := by unfold recL; rw [sealL_len]; decide
theorem ex_c1 : chain 0 [(1, [exA])] := ⟨.inl rfl, ex_r1, trivial⟩
theorem ex_c2 : chain 0 [(1, [exA]), (2, [exC])] := ⟨.inl rfl, ex_r1, .inr rfl, ex_r2, trivial⟩
theorem ex_cat1 : catW [(1, [exA])] = recL 1 [exA] := by simp [catW]
theorem ex_cat2 : catW [(1, [exA]), (2, [exC])] = recL 1 [exA] ++ recL 2 [exC] := by simp [catW]
theorem ex_both : IsRead (recL 1 [exA] ++ recL 2 [exC]) [(1, [exA]), (2, [exC])] 28 := by
  have := isRead_all ex_c2
  rw [ex_cat2, List.length_append, ex_l1, ex_l2] at this
  exact this
theorem ex_cut : IsRead ((recL 1 [exA] ++ recL 2 [exC]).take 27) [(1, [exA])] 15 := by
  have h := isRead_cat ex_c1 (t := (recL 2 [exC]).take 12) (fun q L k h2 => by rw [oneL_front ex_r2 (by rw [ex_l2]; decide)] at h2; cases h2)
  rw [ex_cat1, ex_l1] at h
  rw [List.take_append, ex_l1, List.take_of_length_le (by rw [ex_l1]; decide)]
  exact h
theorem ex_jump : IsRead (recL 1 [exA] ++ recL 3 [exC]) [(1, [exA])] 15 := by
  have h := isRead_cat ex_c1 (t := recL 3 [exC]) (fun q L k h2 => by
    have h3 := (oneL_iff (b := recL 3 [exC])).2 ⟨ex_r3, rfl, [], by rw [List.append_nil]⟩
    rw [h3] at h2
    simp only [Option.some.injEq, Prod.mk.injEq] at h2
    rw [← h2.1.1]
    decide)
  rw [ex_cat1, ex_l1] at h
  exact h
theorem ex_none : IsRead [] [] 0 := isRead_all (P := []) trivial
theorem ex_07 : LogN [108, 111, 103, 46, 48, 55] 0 false := logN_no (d := [48, 55]) (v := 7) rfl (by decide) (.inr (by rw [Lib.decDigits, dif_pos (by decide)]; decide))
theorem ex_00 : LogN [108, 111, 103, 46, 48] 0 false := logN_no (d := [48]) (v := 0) rfl (by decide) (.inl rfl)
theorem ex_7 : nameL 7 = [108, 111, 103, 46, 55] := by unfold nameL; rw [if_neg (by decide), Lib.decDigits, dif_pos (by decide)]; decide
end Go.Proofs.YthgaiimgfnbkaaaGreatDoor
end
