/-
  Contracts: the reference's Numbered, Number.
-/
import Derived.Test.YthgaiimgfnbkaaaGreatDoorV5
namespace Go.Proofs.YthgaiimgfnbkaaaGreatDoor
set_option maxRecDepth 100000
open Go.RowKit Go.Shelf
set_option linter.unusedVariables false

def RetNb (w : World) (s : List UInt8) (e : Ending) (w' : World) : Prop := ∃ u : Nat, e = .returned (.int .u64 (u : Int)) ∧ NumbL s u ∧ Below w.heap.size w w'
theorem wrap64 (x : Int) : IntKind.u64.wrap x = x % 18446744073709551616 := by simp [IntKind.wrap, IntKind.bits, IntKind.signed]
theorem str_apart {s : ByteArray} {t : List UInt8} (h : s.data.toList ≠ t) : (s.toList == t) = false ∧ (s.toList != t) = true := by
  have h1 : ¬ s.toList = t := by rw [Lib.toList_data]; exact h
  exact ⟨by simpa using h1, by simpa using h1⟩

set_option maxHeartbeats 8000000 in
theorem refNumbered_c (w : World) (s : ByteArray) (hs : s.size ≤ 60) :
    Calls Tryz.prog 19 #[.string ⟨#[108, 111, 103, 46]⟩, .string s] w (RetNb w s.data.toList) := by
  have hsz : s.data.toList.length = s.size := Array.length_toList
  have g0 : Below w.heap.size w w := Below.refl _ _
  have hsi : (s.size : Int) ≤ 60 := by omega
  by_cases h4 : s.size ≤ 4
  · have d1 : decide ((s.size : Int) ≤ 4) = true := by simp; omega
    have d1' : decide (s.size ≤ 4) = true := by simp; omega
    have HN := Lib.hid (numb_len (s := s.data.toList) (.inl (by omega)))
    clear h4 hsz hs
    go_enter Tryz.func19, Tryz.ntmps19
    go_wp2_with fail
    go_ret
    exact ⟨0, rfl, HN.out, g0⟩
  have d1 : decide ((s.size : Int) ≤ 4) = false := by simp; omega
  have d1' : decide (s.size ≤ 4) = false := by simp; omega
  by_cases h24 : 24 < s.size
  · have d2 : decide ((24 : Int) < (s.size : Int)) = true := by simp; omega
    have d2' : decide (24 < s.size) = true := by simp; omega
    have HN := Lib.hid (numb_len (s := s.data.toList) (.inr (by omega)))
    clear h4 hsz hs h24
    go_enter Tryz.func19, Tryz.ntmps19
    go_wp2_with fail
    go_ret
    exact ⟨0, rfl, HN.out, g0⟩
  have d2 : decide ((24 : Int) < (s.size : Int)) = false := by simp; omega
  have d2' : decide (24 < s.size) = false := by simp; omega
  obtain ⟨p, hp⟩ : ∃ p : ByteArray, p = ⟨(s.data.toList.take 4).toArray⟩ := ⟨_, rfl⟩
  have hpl : p.data.toList = s.data.toList.take 4 := by rw [hp]
  have hsl : ∀ W, (Instr.slice 9 (.string s) none (some (.int .i64 4)) none).run Tryz.prog W = .ok (.string p) W := fun W => by
    refine (run_slice_string_h W 9 s Tryz.underlying9 .i64 4 (by decide) (by omega)).trans ?_
    rw [show (4 : Int).toNat = 4 from rfl, Lib.Pa.extract_upto, ← hp]
  clear hp
  by_cases hh : ¬ s.data.toList.take 4 = [108, 111, 103, 46]
  · obtain ⟨q1, q2⟩ := str_apart (s := p) (t := [108, 111, 103, 46]) (by rw [hpl]; exact hh)
    have HN := Lib.hid (numb_head (s := s.data.toList) hh)
    clear h4 hsz hs h24 hpl hh
    go_enter Tryz.func19, Tryz.ntmps19
    go_wp2_with fail
    go_ret
    exact ⟨0, rfl, HN.out, g0⟩
  replace hh := Classical.not_not.1 hh
  have hpe : p = ⟨#[108, 111, 103, 46]⟩ := by
    apply ByteArray.ext
    apply Array.toList_inj.1
    rw [hpl, hh]
  subst hpe
  have HSZ := Lib.hid hsz
  have h5 : 4 < s.size := by omega
  have HS24 := Lib.hid (show s.size ≤ 24 by omega)
  clear hpl hh hsz hs h24 h4
  go_enter Tryz.func19, Tryz.ntmps19
  go_wp2_with fail
  go_loopw [5, 6] (fun nv iv wr => ∃ (i u : Nat), nv = .int .u64 (u : Int) ∧ iv = .int .i64 (i : Int) ∧ 4 ≤ i ∧ i ≤ s.size ∧ valM ((s.data.toList.drop 4).take (i - 4)) = u ∧ Below w.heap.size w wr) (fun _ iv _ => ((s.size : Int) - intOf iv).toNat)
  case atStart => exact ⟨4, 0, rfl, rfl, Nat.le_refl _, by omega, rfl, g0⟩
  case round =>
    clear g0 hsl
    obtain ⟨i, u, rfl, rfl, hi4, his, hval, gr⟩ := hrel
    have hub : u < 18446744073709551616 := by rw [← hval]; exact valM_lt _
    have hui : (u : Int) ≤ 18446744073709551615 := by omega
    by_cases hlt : i < s.size
    · have hdk : decide ((i : Int) < (s.size : Int)) = true := by simp; omega
      have hdk2 : decide (i < s.size) = true := by simp; omega
      obtain ⟨cc, hcc⟩ : ∃ cc, s.data.toList[i]? = some cc := ⟨_, List.getElem?_eq_getElem (by rw [HSZ.out]; exact hlt)⟩
      have hix : ∀ W, (Instr.index 9 (.string s) (.int .i64 (i : Int))).run Tryz.prog W = .ok (.int .u8 (cc.toNat : Int)) W := fun W => by
        rw [run_index_string W 9 s .i64 (i : Int) Tryz.underlying9, dif_pos ⟨by omega, by omega⟩]
        have h1 : s[(i : Int).toNat]'(by simp; omega) = cc := by
          have h2 : s.data.toList[i]'(by rw [HSZ.out]; exact hlt) = cc := by
            rw [List.getElem?_eq_getElem (by rw [HSZ.out]; exact hlt)] at hcc
            exact Option.some.inj hcc
          rw [← h2]; rfl
        rw [h1]
      have hcb := cc.toNat_lt
      have HCC := Lib.hid hcc
      have HVAL := Lib.hid hval
      obtain ⟨d, hd⟩ : ∃ d, cc.toNat = d := ⟨_, rfl⟩
      have HD := Lib.hid hd
      rw [hd] at hix hcb
      clear hcc hval hd
      by_cases hlo : d < 48
      · have c1 : decide ((d : Int) < 48) = true := by simp; omega
        have c1' : decide (d < 48) = true := by simp; omega
        have HN := Lib.hid (numb_bad hi4 HCC.out (.inl (by rw [HD.out]; exact hlo)))
        clear hlo
        go_wp2_with fail
        go_ret
        exact ⟨0, rfl, HN.out, gr⟩
      · have c1 : decide ((d : Int) < 48) = false := by simp; omega
        have c1' : decide (d < 48) = false := by simp; omega
        by_cases hhi : 57 < d
        · have c2 : decide ((57 : Int) < (d : Int)) = true := by simp; omega
          have c2' : decide (57 < d) = true := by simp; omega
          have HN := Lib.hid (numb_bad hi4 HCC.out (.inr (by rw [HD.out]; exact hhi)))
          clear hlo hhi
          go_wp2_with fail
          go_ret
          exact ⟨0, rfl, HN.out, gr⟩
        · have c2 : decide ((57 : Int) < (d : Int)) = false := by simp; omega
          have c2' : decide (57 < d) = false := by simp; omega
          have hd1 : (48 : Int) ≤ (d : Int) := by omega
          have hd2 : (d : Int) ≤ 57 := by omega
          obtain ⟨v1, hv1⟩ : ∃ v1 : Nat, v1 = u * 10 % 18446744073709551616 := ⟨_, rfl⟩
          obtain ⟨v2, hv2⟩ : ∃ v2 : Nat, v2 = (v1 + (d - 48)) % 18446744073709551616 := ⟨_, rfl⟩
          have m1 : IntKind.u64.wrap ((u : Int) * 10) = (v1 : Int) := by rw [wrap64, hv1]; omega
          have m2 : IntKind.u64.wrap ((v1 : Int) + ((d : Int) - 48)) = (v2 : Int) := by rw [wrap64, hv2]; omega
          have hnext : valM ((s.data.toList.drop 4).take (i + 1 - 4)) = v2 := by
            have e1 : (s.data.toList.drop 4).take (i + 1 - 4) = (s.data.toList.drop 4).take (i - 4) ++ [cc] := by
              rw [show i + 1 - 4 = (i - 4) + 1 by omega, List.take_add_one, List.getElem?_drop, show 4 + (i - 4) = i by omega, HCC.out]; rfl
            rw [e1, valM_snoc, HVAL.out, HD.out, hv2, hv1]
            omega
          have HNX := Lib.hid hnext
          have hv1i : (v1 : Int) ≤ 18446744073709551615 := by omega
          clear hnext hv1 hv2 hlo hhi
          go_wp2_with fail
          go_roundw
          case rel => exact ⟨i + 1, v2, by simp, by simp, by omega, by omega, HNX.out, gr⟩
          case measure => simp [intOf]; omega
    · obtain rfl : i = s.size := by omega
      have hdk : decide ((s.size : Int) < (s.size : Int)) = false := by simp
      have hdk2 : decide (s.size < s.size) = false := by simp
      rw [List.take_of_length_le (by rw [List.length_drop, HSZ.out]; omega)] at hval
      have HC := Lib.hid (refNamed_c wr u hui)
      by_cases he : nameL u = s.data.toList
      · have he2 : (⟨(nameL u).toArray⟩ : ByteArray) = s := by rw [he]
        rw [he2] at HC
        have HN := Lib.hid (numb_yes hub (by rw [HSZ.out]; exact h5) he)
        have t3 : (s.toList != s.toList) = false := by simp
        clear he he2 hval hub
        go_wp2_with fail
        refine HC.out.mono ?_
        rintro e w1 ⟨rfl, hb1⟩
        go_wp2_with fail
        go_ret
        exact ⟨u, rfl, HN.out, bon gr hb1⟩
      · have HN := Lib.hid (numb_end hval he)
        obtain ⟨x, hx⟩ : ∃ x : ByteArray, (⟨(nameL u).toArray⟩ : ByteArray) = x := ⟨_, rfl⟩
        have hxs : x ≠ s := by
          intro h2
          apply he
          rw [← h2, ← hx]
        have t1 : (x.toList == s.toList) = false := by rw [beq_str]; simpa using hxs
        have t2 : (x.toList != s.toList) = true := by unfold bne; rw [t1]; rfl
        rw [hx] at HC
        clear he hval hub hx hxs
        go_wp2_with fail
        refine HC.out.mono ?_
        rintro e w1 ⟨rfl, hb1⟩
        go_wp2_with fail
        go_ret
        exact ⟨0, rfl, HN.out, bon gr hb1⟩

theorem refNumber_c (w : World) (s : ByteArray) (hs : s.size ≤ 60) :
    Calls Tryz.prog 7 #[.string s] w (NumPost w s.data.toList) := by
  have HF := Lib.hid (refNumbered_c w s hs)
  clear hs
  go_enter Tryz.func7, Tryz.ntmps7
  go_wp2_with fail
  refine HF.out.mono ?_
  rintro e w1 ⟨u, rfl, hu, hb1⟩
  have HU := Lib.hid hu.logN
  clear hu
  obtain ⟨b, hb⟩ : ∃ b, decide (0 < u) = b := ⟨_, rfl⟩
  have hbi : decide ((0 : Int) < (u : Int)) = b := by rw [← hb, decide_eq_decide]; omega
  rw [hb] at HU
  go_wp2_with fail
  go_ret2
  exact ⟨u, b, rfl, HU.out, hb1⟩
end Go.Proofs.YthgaiimgfnbkaaaGreatDoor
