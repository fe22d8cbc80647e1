/-
  Contracts: the reference's Named, Name; Numbered, Number.
-/
import Derived.Test.YthgaiimgfnbkaaaGreatDoorV1
import Derived.Lib.PathFns
namespace Go.Proofs.YthgaiimgfnbkaaaGreatDoor
set_option maxRecDepth 100000
open Go.RowKit Go.Shelf
set_option linter.unusedVariables false

set_option maxHeartbeats 4000000 in
theorem refNamed_c (w : World) (n : Nat) (hn : (n : Int) ≤ 18446744073709551615) :
    Calls Tryz.prog 31 #[.string ⟨#[108, 111, 103, 46]⟩, .int .u64 (n : Int)] w (RetVl w (.string ⟨(nameL n).toArray⟩)) := by
  have HF := Lib.hid (refDigits_c w n hn)
  have hdl := digits_len (u := n) (by omega)
  unfold nameL
  by_cases h0 : n = 0
  · subst h0
    rw [if_pos rfl]
    clear HF hdl
    go_enter Tryz.func31, Tryz.ntmps31
    go_wp2_with fail
    go_ret
    exact RetVl.of rfl (Below.refl _ _)
  · rw [if_neg h0]
    have d1 : ((n : Int) == 0) = false := by simp; omega
    have hcat : ∀ W : World, (Op.stringOp .add ⟨#[108, 111, 103, 46]⟩ ⟨(Lib.decDigits n).toArray⟩).run Tryz.prog W = .ok (.string ⟨([108, 111, 103, 46] ++ Lib.decDigits n).toArray⟩) W := fun W =>
      run_cat6 (by rw [ba_size (Lib.decDigits n)]; show 4 + _ ≤ 1000; omega) (ba_app [108, 111, 103, 46] _)
    generalize hds : Lib.decDigits n = ds at *
    generalize hdd : ([108, 111, 103, 46] ++ ds : List UInt8) = dd at *
    have hb1 : (ds.length : Int) ≤ 20 := by omega
    clear hdl hds hdd
    go_enter Tryz.func31, Tryz.ntmps31
    go_wp2_with fail
    refine HF.out.mono ?_
    rintro e w1 ⟨rfl, hb1⟩
    go_wp2_with fail
    go_ret
    exact RetVl.of rfl hb1
theorem refName_c (w : World) (n : Nat) (hn : (n : Int) ≤ 18446744073709551615) :
    Calls Tryz.prog 13 #[.int .u64 (n : Int)] w (RetVl w (.string ⟨(nameL n).toArray⟩)) := by
  have HF := Lib.hid (refNamed_c w n hn)
  go_enter Tryz.func13, Tryz.ntmps13
  go_wp2_with fail
  refine HF.out.mono ?_
  rintro e w1 ⟨rfl, hb1⟩
  go_wp2_with fail
  go_ret
  exact ⟨rfl, hb1⟩

/-- What the digits come to, as numbers of 64 bits. -/
def valM (l : List UInt8) : Nat := l.foldl (fun a c => (a * 10 + (c.toNat - 48)) % 18446744073709551616) 0
theorem valM_snoc (l : List UInt8) (c : UInt8) : valM (l ++ [c]) = (valM l * 10 + (c.toNat - 48)) % 18446744073709551616 := by unfold valM; rw [List.foldl_append]; rfl
theorem valM_digits : ∀ (v : Nat), valM (Lib.decDigits v) = v % 18446744073709551616 := by
  intro v
  induction v using Nat.strongRecOn with
  | _ v ih =>
    by_cases h : v < 10
    · rw [decD_lo h]
      show (0 * 10 + ((byteOf (48 + v)).toNat - 48)) % _ = _
      rw [byteOf_toNat (by omega)]
      congr 1; omega
    · rw [decD_hi h, valM_snoc, ih (v / 10) (by omega), byteOf_toNat (by omega)]
      omega
theorem decD_all : ∀ (v : Nat), ∀ c ∈ Lib.decDigits v, 48 ≤ c.toNat ∧ c.toNat ≤ 57 := by
  intro v
  induction v using Nat.strongRecOn with
  | _ v ih =>
    intro c hc
    by_cases h : v < 10
    · rw [decD_lo h] at hc
      simp only [List.mem_singleton] at hc
      subst hc
      rw [byteOf_toNat (by omega)]; omega
    · rw [decD_hi h] at hc
      rcases List.mem_append.1 hc with h1 | h1
      · exact ih (v / 10) (by omega) c h1
      · simp only [List.mem_singleton] at h1
        subst h1
        rw [byteOf_toNat (by omega)]; omega
/-- What Numbered answers: the number whose name it is, or 0. -/
def NumbL (s : List UInt8) (u : Nat) : Prop := (0 < u ∧ u < 18446744073709551616 ∧ nameL u = s) ∨ (u = 0 ∧ ∀ v, 0 < v → v < 18446744073709551616 → nameL v ≠ s)
theorem NumbL.logN {s : List UInt8} {u : Nat} (h : NumbL s u) : LogN s u (decide (0 < u)) := by
  rcases h with ⟨h1, h2, h3⟩ | ⟨h1, h2⟩
  · exact ⟨fun _ => ⟨h1, h2, h3⟩, fun h => by simp at h; omega⟩
  · subst h1
    exact ⟨fun h => by simp at h, fun _ => ⟨rfl, h2⟩⟩
theorem nameL_of {v : Nat} (h0 : 0 < v) : nameL v = [108, 111, 103, 46] ++ Lib.decDigits v := by unfold nameL; rw [if_neg (by omega)]
theorem numb_len {s : List UInt8} (h : s.length ≤ 4 ∨ 24 < s.length) : NumbL s 0 := .inr ⟨rfl, fun v h0 hv e => by
  have := nameL_len hv
  rw [e] at this
  have := this.2 h0
  omega⟩
theorem numb_head {s : List UInt8} (h : s.take 4 ≠ [108, 111, 103, 46]) : NumbL s 0 := .inr ⟨rfl, fun v h0 hv e => h (by rw [← e, nameL_of h0]; rfl)⟩
theorem numb_bad {s : List UInt8} {i : Nat} {c : UInt8} (hi : 4 ≤ i) (hc : s[i]? = some c) (hbad : c.toNat < 48 ∨ 57 < c.toNat) : NumbL s 0 := .inr ⟨rfl, fun v h0 hv e => by
  have h1 : c ∈ Lib.decDigits v := by
    rw [← e, nameL_of h0, List.getElem?_append_right (by simpa using hi)] at hc
    exact List.mem_of_getElem? hc
  have := decD_all v c h1
  omega⟩
theorem numb_end {s : List UInt8} {u : Nat} (hu : valM (s.drop 4) = u) (hne : nameL u ≠ s) : NumbL s 0 := .inr ⟨rfl, fun v h0 hv e => by
  have h1 : s.drop 4 = Lib.decDigits v := by rw [← e, nameL_of h0]; rfl
  rw [h1, valM_digits, Nat.mod_eq_of_lt hv] at hu
  subst hu
  exact hne e⟩
theorem numb_yes {s : List UInt8} {u : Nat} (hu : u < 18446744073709551616) (h5 : 4 < s.length) (he : nameL u = s) : NumbL s u := .inl ⟨by
  rcases Nat.eq_zero_or_pos u with h | h
  · subst h
    rw [← he] at h5
    simp [nameL] at h5
  · exact h, hu, he⟩
theorem valM_lt (l : List UInt8) : valM l < 18446744073709551616 := by
  unfold valM
  rcases List.eq_nil_or_concat l with h | ⟨l', c, h⟩
  · rw [h]; decide
  · rw [h, List.concat_eq_append, List.foldl_append]
    exact Nat.mod_lt _ (by decide)
end Go.Proofs.YthgaiimgfnbkaaaGreatDoor
