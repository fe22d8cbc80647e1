/-
  Contracts: the reference's names and numbers of tables.
-/
import Derived.Test.YtkdjjdkcogolmaaGreatDoorTM
import Derived.Lib.PathFns
section
/-
  Contracts: the reference's Digits, Named, Name.
-/
namespace Go.Proofs.YtkdjjdkcogolmaaGreatDoor
set_option maxRecDepth 100000
open Go.RowKit Go.Shelf
set_option linter.unusedVariables false

theorem decD_lo {m : Nat} (h : m < 10) : Lib.decDigits m = [byteOf (48 + m)] := by
  rw [Lib.decDigits, dif_pos h]
  congr 1
theorem decD_hi {m : Nat} (h : ¬ m < 10) : Lib.decDigits m = Lib.decDigits (m / 10) ++ [byteOf (48 + m % 10)] := by
  rw [Lib.decDigits, dif_neg h]
  congr 1

set_option maxHeartbeats 4000000 in
theorem refDigits_c (w : World) (n : Nat) (hn : (n : Int) ≤ 18446744073709551615) :
    Calls Tryz.prog 62 #[.int .u64 (n : Int)] w (RetVl w (.string ⟨(Lib.decDigits n).toArray⟩)) := by
  have HD := Lib.hid (digits_len (u := n) (by omega))
  have g0 : Below w.heap.size w w := Below.refl _ _
  go_enter Tryz.func62, Tryz.ntmps62
  go_wp2_with fail
  go_loopw [0, 3] (fun nv sv wr => ∃ (m : Nat) (s : List UInt8), nv = .int .u64 (m : Int) ∧ sv = .string ⟨s.toArray⟩ ∧ Lib.decDigits n = Lib.decDigits m ++ s ∧ (m : Int) ≤ 18446744073709551615 ∧ Below w.heap.size w wr) (fun nv _ _ => (intOf nv).toNat)
  case atStart => exact ⟨n, [], rfl, rfl, by simp, hn, g0⟩
  case round =>
    clear g0
    obtain ⟨m, s, rfl, rfl, hs, hm, gr⟩ := hrel
    obtain ⟨x, hx⟩ : ∃ x, 48 + m % 10 = x := ⟨_, rfl⟩
    have hx1 : (48 : Int) + (m : Int) % 10 = (x : Int) := by omega
    have hxb : x < 256 := by omega
    have hxi : (x : Int) ≤ 255 := by omega
    have hxm : (x : Int) % 256 = (x : Int) := by omega
    have hsl : s.length ≤ 20 := by have h1 := HD.out.1; rw [hs, List.length_append] at h1; omega
    have hstr := run_str (P := Tryz.prog) (Rd.litb wr [byteOf x] (vs := #[.int .u8 (x : Int)]) (k := 1) (g := wr.heap.size) rfl (by rw [u8_byte _ hxb]; simp [bv]) rfl (by decide)) 24 9 5 Tryz.underlying24 Tryz.underlying5 Tryz.underlying9
    have hcat : ∀ W : World, (Op.stringOp .add ⟨[byteOf x].toArray⟩ ⟨s.toArray⟩).run Tryz.prog W = .ok (.string ⟨(byteOf x :: s).toArray⟩) W := fun W =>
      run_cat6 (by rw [ba_size s, ba_size [byteOf x]]; simp; omega) (ba_app [byteOf x] s)
    have hb1 := below_alloc wr (.cells #[.int .u8 (x : Int)] 5)
    have gr1 := bon gr hb1
    clear hb1 gr
    have hxmod : x = 48 + m % 10 := hx.symm
    clear hx
    by_cases h10 : m < 10
    · have hq : (m : Int) / 10 = 0 := by omega
      have hd : Lib.decDigits n = byteOf x :: s := by rw [hs, decD_lo h10, hxmod, Nat.mod_eq_of_lt h10]; rfl
      have HDD := Lib.hid hd
      clear hd hs hxmod hsl h10
      go_wp2_with fail
      go_ret
      rw [HDD.out]
      exact ⟨rfl, gr1⟩
    · obtain ⟨y, hy⟩ : ∃ y, m / 10 = y := ⟨_, rfl⟩
      have hq : (m : Int) / 10 = (y : Int) := by omega
      have hyi : (y : Int) ≤ 18446744073709551615 := by omega
      have hy1 : ((y : Int) == 0) = false := by simp; omega
      have hy2 : (y == 0) = false := by simp; omega
      have hym : y < m := by omega
      have hd : Lib.decDigits n = Lib.decDigits y ++ byteOf x :: s := by rw [hs, decD_hi h10, hxmod, hy, List.append_assoc]; rfl
      have HDD := Lib.hid hd
      clear hd hs hxmod hsl hy
      go_wp2_with fail
      go_roundw
      case rel => exact ⟨y, byteOf x :: s, rfl, rfl, HDD.out, hyi, gr1⟩
      case measure => simp [intOf]; omega
end Go.Proofs.YtkdjjdkcogolmaaGreatDoor
end
section
/-
  Contracts: the reference's Named, Name; Numbered, Number.
-/
namespace Go.Proofs.YtkdjjdkcogolmaaGreatDoor
set_option maxRecDepth 100000
open Go.RowKit Go.Shelf
set_option linter.unusedVariables false

set_option maxHeartbeats 4000000 in
theorem refNamed_c (w : World) (n : Nat) (hn : (n : Int) ≤ 18446744073709551615) :
    Calls Tryz.prog 34 #[.string ⟨#[116, 97, 98, 46]⟩, .int .u64 (n : Int)] w (RetVl w (.string ⟨(tnmL n).toArray⟩)) := by
  have HF := Lib.hid (refDigits_c w n hn)
  have hdl := digits_len (u := n) (by omega)
  unfold tnmL
  by_cases h0 : n = 0
  · subst h0
    rw [if_pos rfl]
    clear HF hdl
    go_enter Tryz.func34, Tryz.ntmps34
    go_wp2_with fail
    go_ret
    exact RetVl.of rfl (Below.refl _ _)
  · rw [if_neg h0]
    have d1 : ((n : Int) == 0) = false := by simp; omega
    have hcat : ∀ W : World, (Op.stringOp .add ⟨#[116, 97, 98, 46]⟩ ⟨(Lib.decDigits n).toArray⟩).run Tryz.prog W = .ok (.string ⟨([116, 97, 98, 46] ++ Lib.decDigits n).toArray⟩) W := fun W =>
      run_cat6 (by rw [ba_size (Lib.decDigits n)]; show 4 + _ ≤ 1000; omega) (ba_app [116, 97, 98, 46] _)
    generalize hds : Lib.decDigits n = ds at *
    generalize hdd : ([116, 97, 98, 46] ++ ds : List UInt8) = dd at *
    have hb1 : (ds.length : Int) ≤ 20 := by omega
    clear hdl hds hdd
    go_enter Tryz.func34, Tryz.ntmps34
    go_wp2_with fail
    refine HF.out.mono ?_
    rintro e w1 ⟨rfl, hb1⟩
    go_wp2_with fail
    go_ret
    exact RetVl.of rfl hb1
theorem refName_c (w : World) (n : Nat) (hn : (n : Int) ≤ 18446744073709551615) :
    Calls Tryz.prog 12 #[.int .u64 (n : Int)] w (RetVl w (.string ⟨(tnmL n).toArray⟩)) := by
  have HF := Lib.hid (refNamed_c w n hn)
  go_enter Tryz.func12, Tryz.ntmps12
  go_wp2_with fail
  refine HF.out.mono ?_
  rintro e w1 ⟨rfl, hb1⟩
  go_wp2_with fail
  go_ret
  exact ⟨rfl, hb1⟩

/-- What the digits come to, as numbers of 64 bits. -/
def valM (l : List UInt8) : Nat := l.foldl (fun a c => (a * 10 + (c.toNat - 48)) % 18446744073709551616) 0
theorem valM_snoc (l : List UInt8) (c : UInt8) : valM (l ++ [c]) = (valM l * 10 + (c.toNat - 48)) % 18446744073709551616 := by unfold valM; rw [List.foldl_append]; rfl
theorem valM_digits : ∀ (v : Nat), valM (Lib.decDigits v) = v % 18446744073709551616 := by
  intro v
  induction v using Nat.strongRecOn with
  | _ v ih =>
    by_cases h : v < 10
    · rw [decD_lo h]
      show (0 * 10 + ((byteOf (48 + v)).toNat - 48)) % _ = _
      rw [byteOf_toNat (by omega)]
      congr 1; omega
    · rw [decD_hi h, valM_snoc, ih (v / 10) (by omega), byteOf_toNat (by omega)]
      omega
theorem decD_all : ∀ (v : Nat), ∀ c ∈ Lib.decDigits v, 48 ≤ c.toNat ∧ c.toNat ≤ 57 := by
  intro v
  induction v using Nat.strongRecOn with
  | _ v ih =>
    intro c hc
    by_cases h : v < 10
    · rw [decD_lo h] at hc
      simp only [List.mem_singleton] at hc
      subst hc
      rw [byteOf_toNat (by omega)]; omega
    · rw [decD_hi h] at hc
      rcases List.mem_append.1 hc with h1 | h1
      · exact ih (v / 10) (by omega) c h1
      · simp only [List.mem_singleton] at h1
        subst h1
        rw [byteOf_toNat (by omega)]; omega
/-- What Numbered answers: the number whose name it is, or 0. -/
def NumbL (s : List UInt8) (u : Nat) : Prop := (0 < u ∧ u < 18446744073709551616 ∧ tnmL u = s) ∨ (u = 0 ∧ ∀ v, 0 < v → v < 18446744073709551616 → tnmL v ≠ s)
theorem NumbL.tabN {s : List UInt8} {u : Nat} (h : NumbL s u) : TabN s u (decide (0 < u)) := by
  rcases h with ⟨h1, h2, h3⟩ | ⟨h1, h2⟩
  · exact ⟨fun _ => ⟨h1, h2, h3⟩, fun h => by simp at h; omega⟩
  · subst h1
    exact ⟨fun h => by simp at h, fun _ => ⟨rfl, h2⟩⟩
theorem tnmL_of {v : Nat} (h0 : 0 < v) : tnmL v = [116, 97, 98, 46] ++ Lib.decDigits v := by unfold tnmL; rw [if_neg (by omega)]
theorem numb_len {s : List UInt8} (h : s.length ≤ 4 ∨ 24 < s.length) : NumbL s 0 := .inr ⟨rfl, fun v h0 hv e => by
  have := tnm_len hv
  rw [e] at this
  have := this.2 h0
  omega⟩
theorem numb_head {s : List UInt8} (h : s.take 4 ≠ [116, 97, 98, 46]) : NumbL s 0 := .inr ⟨rfl, fun v h0 hv e => h (by rw [← e, tnmL_of h0]; rfl)⟩
theorem numb_bad {s : List UInt8} {i : Nat} {c : UInt8} (hi : 4 ≤ i) (hc : s[i]? = some c) (hbad : c.toNat < 48 ∨ 57 < c.toNat) : NumbL s 0 := .inr ⟨rfl, fun v h0 hv e => by
  have h1 : c ∈ Lib.decDigits v := by
    rw [← e, tnmL_of h0, List.getElem?_append_right (by simpa using hi)] at hc
    exact List.mem_of_getElem? hc
  have := decD_all v c h1
  omega⟩
theorem numb_end {s : List UInt8} {u : Nat} (hu : valM (s.drop 4) = u) (hne : tnmL u ≠ s) : NumbL s 0 := .inr ⟨rfl, fun v h0 hv e => by
  have h1 : s.drop 4 = Lib.decDigits v := by rw [← e, tnmL_of h0]; rfl
  rw [h1, valM_digits, Nat.mod_eq_of_lt hv] at hu
  subst hu
  exact hne e⟩
theorem numb_yes {s : List UInt8} {u : Nat} (hu : u < 18446744073709551616) (h5 : 4 < s.length) (he : tnmL u = s) : NumbL s u := .inl ⟨by
  rcases Nat.eq_zero_or_pos u with h | h
  · subst h
    rw [← he] at h5
    simp [tnmL] at h5
  · exact h, hu, he⟩
theorem valM_lt (l : List UInt8) : valM l < 18446744073709551616 := by
  unfold valM
  rcases List.eq_nil_or_concat l with h | ⟨l', c, h⟩
  · rw [h]; decide
  · rw [h, List.concat_eq_append, List.foldl_append]
    exact Nat.mod_lt _ (by decide)
end Go.Proofs.YtkdjjdkcogolmaaGreatDoor
end
section
/-
  Contracts: the reference's Numbered, Number.
-/
namespace Go.Proofs.YtkdjjdkcogolmaaGreatDoor
set_option maxRecDepth 100000
open Go.RowKit Go.Shelf
set_option linter.unusedVariables false

def RetNb (w : World) (s : List UInt8) (e : Ending) (w' : World) : Prop := ∃ u : Nat, e = .returned (.int .u64 (u : Int)) ∧ NumbL s u ∧ Below w.heap.size w w'
theorem wrap64 (x : Int) : IntKind.u64.wrap x = x % 18446744073709551616 := by simp [IntKind.wrap, IntKind.bits, IntKind.signed]
theorem str_apart {s : ByteArray} {t : List UInt8} (h : s.data.toList ≠ t) : (s.toList == t) = false ∧ (s.toList != t) = true := by
  have h1 : ¬ s.toList = t := by rw [Lib.toList_data]; exact h
  exact ⟨by simpa using h1, by simpa using h1⟩

set_option maxHeartbeats 8000000 in
theorem refNumbered_c (w : World) (s : ByteArray) (hs : s.size ≤ 60) :
    Calls Tryz.prog 24 #[.string ⟨#[116, 97, 98, 46]⟩, .string s] w (RetNb w s.data.toList) := by
  have hsz : s.data.toList.length = s.size := Array.length_toList
  have g0 : Below w.heap.size w w := Below.refl _ _
  have hsi : (s.size : Int) ≤ 60 := by omega
  by_cases h4 : s.size ≤ 4
  · have d1 : decide ((s.size : Int) ≤ 4) = true := by simp; omega
    have d1' : decide (s.size ≤ 4) = true := by simp; omega
    have HN := Lib.hid (numb_len (s := s.data.toList) (.inl (by omega)))
    clear h4 hsz hs
    go_enter Tryz.func24, Tryz.ntmps24
    go_wp2_with fail
    go_ret
    exact ⟨0, rfl, HN.out, g0⟩
  have d1 : decide ((s.size : Int) ≤ 4) = false := by simp; omega
  have d1' : decide (s.size ≤ 4) = false := by simp; omega
  by_cases h24 : 24 < s.size
  · have d2 : decide ((24 : Int) < (s.size : Int)) = true := by simp; omega
    have d2' : decide (24 < s.size) = true := by simp; omega
    have HN := Lib.hid (numb_len (s := s.data.toList) (.inr (by omega)))
    clear h4 hsz hs h24
    go_enter Tryz.func24, Tryz.ntmps24
    go_wp2_with fail
    go_ret
    exact ⟨0, rfl, HN.out, g0⟩
  have d2 : decide ((24 : Int) < (s.size : Int)) = false := by simp; omega
  have d2' : decide (24 < s.size) = false := by simp; omega
  obtain ⟨p, hp⟩ : ∃ p : ByteArray, p = ⟨(s.data.toList.take 4).toArray⟩ := ⟨_, rfl⟩
  have hpl : p.data.toList = s.data.toList.take 4 := by rw [hp]
  have hsl : ∀ W, (Instr.slice 9 (.string s) none (some (.int .i64 4)) none).run Tryz.prog W = .ok (.string p) W := fun W => by
    refine (run_slice_string_h W 9 s Tryz.underlying9 .i64 4 (by decide) (by omega)).trans ?_
    rw [show (4 : Int).toNat = 4 from rfl, Lib.Pa.extract_upto, ← hp]
  clear hp
  by_cases hh : ¬ s.data.toList.take 4 = [116, 97, 98, 46]
  · obtain ⟨q1, q2⟩ := str_apart (s := p) (t := [116, 97, 98, 46]) (by rw [hpl]; exact hh)
    have HN := Lib.hid (numb_head (s := s.data.toList) hh)
    clear h4 hsz hs h24 hpl hh
    go_enter Tryz.func24, Tryz.ntmps24
    go_wp2_with fail
    go_ret
    exact ⟨0, rfl, HN.out, g0⟩
  replace hh := Classical.not_not.1 hh
  have hpe : p = ⟨#[116, 97, 98, 46]⟩ := by
    apply ByteArray.ext
    apply Array.toList_inj.1
    rw [hpl, hh]
  subst hpe
  have HSZ := Lib.hid hsz
  have h5 : 4 < s.size := by omega
  have HS24 := Lib.hid (show s.size ≤ 24 by omega)
  clear hpl hh hsz hs h24 h4
  go_enter Tryz.func24, Tryz.ntmps24
  go_wp2_with fail
  go_loopw [5, 6] (fun nv iv wr => ∃ (i u : Nat), nv = .int .u64 (u : Int) ∧ iv = .int .i64 (i : Int) ∧ 4 ≤ i ∧ i ≤ s.size ∧ valM ((s.data.toList.drop 4).take (i - 4)) = u ∧ Below w.heap.size w wr) (fun _ iv _ => ((s.size : Int) - intOf iv).toNat)
  case atStart => exact ⟨4, 0, rfl, rfl, Nat.le_refl _, by omega, rfl, g0⟩
  case round =>
    clear g0 hsl
    obtain ⟨i, u, rfl, rfl, hi4, his, hval, gr⟩ := hrel
    have hub : u < 18446744073709551616 := by rw [← hval]; exact valM_lt _
    have hui : (u : Int) ≤ 18446744073709551615 := by omega
    by_cases hlt : i < s.size
    · have hdk : decide ((i : Int) < (s.size : Int)) = true := by simp; omega
      have hdk2 : decide (i < s.size) = true := by simp; omega
      obtain ⟨cc, hcc⟩ : ∃ cc, s.data.toList[i]? = some cc := ⟨_, List.getElem?_eq_getElem (by rw [HSZ.out]; exact hlt)⟩
      have hix : ∀ W, (Instr.index 9 (.string s) (.int .i64 (i : Int))).run Tryz.prog W = .ok (.int .u8 (cc.toNat : Int)) W := fun W => by
        rw [run_index_string W 9 s .i64 (i : Int) Tryz.underlying9, dif_pos ⟨by omega, by omega⟩]
        have h1 : s[(i : Int).toNat]'(by simp; omega) = cc := by
          have h2 : s.data.toList[i]'(by rw [HSZ.out]; exact hlt) = cc := by
            rw [List.getElem?_eq_getElem (by rw [HSZ.out]; exact hlt)] at hcc
            exact Option.some.inj hcc
          rw [← h2]; rfl
        rw [h1]
      have hcb := cc.toNat_lt
      have HCC := Lib.hid hcc
      have HVAL := Lib.hid hval
      obtain ⟨d, hd⟩ : ∃ d, cc.toNat = d := ⟨_, rfl⟩
      have HD := Lib.hid hd
      rw [hd] at hix hcb
      clear hcc hval hd
      by_cases hlo : d < 48
      · have c1 : decide ((d : Int) < 48) = true := by simp; omega
        have c1' : decide (d < 48) = true := by simp; omega
        have HN := Lib.hid (numb_bad hi4 HCC.out (.inl (by rw [HD.out]; exact hlo)))
        clear hlo
        go_wp2_with fail
        go_ret
        exact ⟨0, rfl, HN.out, gr⟩
      · have c1 : decide ((d : Int) < 48) = false := by simp; omega
        have c1' : decide (d < 48) = false := by simp; omega
        by_cases hhi : 57 < d
        · have c2 : decide ((57 : Int) < (d : Int)) = true := by simp; omega
          have c2' : decide (57 < d) = true := by simp; omega
          have HN := Lib.hid (numb_bad hi4 HCC.out (.inr (by rw [HD.out]; exact hhi)))
          clear hlo hhi
          go_wp2_with fail
          go_ret
          exact ⟨0, rfl, HN.out, gr⟩
        · have c2 : decide ((57 : Int) < (d : Int)) = false := by simp; omega
          have c2' : decide (57 < d) = false := by simp; omega
          have hd1 : (48 : Int) ≤ (d : Int) := by omega
          have hd2 : (d : Int) ≤ 57 := by omega
          obtain ⟨v1, hv1⟩ : ∃ v1 : Nat, v1 = u * 10 % 18446744073709551616 := ⟨_, rfl⟩
          obtain ⟨v2, hv2⟩ : ∃ v2 : Nat, v2 = (v1 + (d - 48)) % 18446744073709551616 := ⟨_, rfl⟩
          have m1 : IntKind.u64.wrap ((u : Int) * 10) = (v1 : Int) := by rw [wrap64, hv1]; omega
          have m2 : IntKind.u64.wrap ((v1 : Int) + ((d : Int) - 48)) = (v2 : Int) := by rw [wrap64, hv2]; omega
          have hnext : valM ((s.data.toList.drop 4).take (i + 1 - 4)) = v2 := by
            have e1 : (s.data.toList.drop 4).take (i + 1 - 4) = (s.data.toList.drop 4).take (i - 4) ++ [cc] := by
              rw [show i + 1 - 4 = (i - 4) + 1 by omega, List.take_add_one, List.getElem?_drop, show 4 + (i - 4) = i by omega, HCC.out]; rfl
            rw [e1, valM_snoc, HVAL.out, HD.out, hv2, hv1]
            omega
          have HNX := Lib.hid hnext
          have hv1i : (v1 : Int) ≤ 18446744073709551615 := by omega
          clear hnext hv1 hv2 hlo hhi
          go_wp2_with fail
          go_roundw
          case rel => exact ⟨i + 1, v2, by simp, by simp, by omega, by omega, HNX.out, gr⟩
          case measure => simp [intOf]; omega
    · obtain rfl : i = s.size := by omega
      have hdk : decide ((s.size : Int) < (s.size : Int)) = false := by simp
      have hdk2 : decide (s.size < s.size) = false := by simp
      rw [List.take_of_length_le (by rw [List.length_drop, HSZ.out]; omega)] at hval
      have HC := Lib.hid (refNamed_c wr u hui)
      by_cases he : tnmL u = s.data.toList
      · have he2 : (⟨(tnmL u).toArray⟩ : ByteArray) = s := by rw [he]
        rw [he2] at HC
        have HN := Lib.hid (numb_yes hub (by rw [HSZ.out]; exact h5) he)
        have t3 : (s.toList != s.toList) = false := by simp
        clear he he2 hval hub
        go_wp2_with fail
        refine HC.out.mono ?_
        rintro e w1 ⟨rfl, hb1⟩
        go_wp2_with fail
        go_ret
        exact ⟨u, rfl, HN.out, bon gr hb1⟩
      · have HN := Lib.hid (numb_end hval he)
        obtain ⟨x, hx⟩ : ∃ x : ByteArray, (⟨(tnmL u).toArray⟩ : ByteArray) = x := ⟨_, rfl⟩
        have hxs : x ≠ s := by
          intro h2
          apply he
          rw [← h2, ← hx]
        have t1 : (x.toList == s.toList) = false := by rw [wbeq_str]; simpa using hxs
        have t2 : (x.toList != s.toList) = true := by unfold bne; rw [t1]; rfl
        rw [hx] at HC
        clear he hval hub hx hxs
        go_wp2_with fail
        refine HC.out.mono ?_
        rintro e w1 ⟨rfl, hb1⟩
        go_wp2_with fail
        go_ret
        exact ⟨0, rfl, HN.out, bon gr hb1⟩

theorem refNumber_c (w : World) (s : ByteArray) (hs : s.size ≤ 60) :
    Calls Tryz.prog 8 #[.string s] w (TNumPost w s.data.toList) := by
  have HF := Lib.hid (refNumbered_c w s hs)
  clear hs
  go_enter Tryz.func8, Tryz.ntmps8
  go_wp2_with fail
  refine HF.out.mono ?_
  rintro e w1 ⟨u, rfl, hu, hb1⟩
  have HU := Lib.hid hu.tabN
  clear hu
  obtain ⟨b, hb⟩ : ∃ b, decide (0 < u) = b := ⟨_, rfl⟩
  have hbi : decide ((0 : Int) < (u : Int)) = b := by rw [← hb, decide_eq_decide]; omega
  rw [hb] at HU
  go_wp2_with fail
  go_ret2
  exact ⟨u, b, rfl, HU.out, hb1⟩
end Go.Proofs.YtkdjjdkcogolmaaGreatDoor
end
