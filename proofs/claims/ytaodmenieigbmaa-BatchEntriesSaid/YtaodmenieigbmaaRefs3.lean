/-
  Contracts: the reference's PutText, TakeText.
-/
import Derived.Test.YtaodmenieigbmaaRefs2
import Derived.Deep.RegionWith
namespace Go.Proofs.Ytaodmenieigbmaa
open Go.RowKit

def textL (s : ByteArray) : List UInt8 := shortL s.size ++ s.data.toList

set_option maxRecDepth 100000 in
set_option maxHeartbeats 400000 in
theorem refPutText_c {w : World} {B n c : Nat} {A : Option Addr} {l : List UInt8} (h : Rd w B A n c (bv l)) (hn : n ≤ 70368744100000) (s : ByteArray) (hs : s.size ≤ 60000) :
    Calls Try.prog 31 #[.slice A n c, .string s] w (RetB w (l ++ textL s)) := by
  have hl : l.length = n := by simpa using h.len
  have hp := refPut_c h (by omega) (s.size : Int) (by omega) (by omega)
  rw [Int.toNat_natCast] at hp
  have hsl := shortL_len s.size
  have HP := Lib.hid hp
  have HL := Lib.hid hl
  have HS := Lib.hid hsl
  have HN := Lib.hid hn
  clear hp hl hsl h hn
  go_enter Try.func31, Try.ntmps31
  go_wp2_with fail
  refine HP.out.mono ?_
  rintro e w1 ⟨A1, n1, c1, rfl, hf1, hb1⟩
  have hn1 : n1 ≤ 70368744100010 := by
    have := hf1.len; have := HL.out; have := HS.out; have := HN.out; simp at *; omega
  have HN1 := Lib.hid hn1
  have hbs := hb1.size
  clear hn1
  go_wp2_with (at_builtin; refine wpList_apps rfl (.tmp 9) (.tmp 10) _ _ rfl Try.underlying23 Try.underlying9 info_u8 rfl hf1 rfl (by have := HN1.out; omega) hbs ?_; intro A' c' w' hf hb hg)
  go_ret
  refine ⟨A', _, c', rfl, ?_, hb1.trans hb⟩
  unfold textL
  rw [← List.append_assoc, bv_append]
  exact hf

/-- The text that bytes begin with, of at most so many bytes; and the rest. -/
def textTake (l : List UInt8) (most : Int) : Option (List UInt8 × List UInt8) :=
  match takeN l with
  | some (v, m) => if 0 ≤ most ∧ (v : Int) ≤ most ∧ v ≤ (l.drop m).length then some ((l.drop m).take v, (l.drop m).drop v) else none
  | none => none

def RetSB (w : World) (s l : List UInt8) (ok : Bool) (e : Ending) (w' : World) : Prop :=
  ∃ A n c, e = .returned (.tuple #[.string ⟨s.toArray⟩, .slice A n c, .bool ok]) ∧ Fr w' w.heap.size 5 A n c (bv l) ∧ Below w.heap.size w w'
def TextPost (w : World) (l : List UInt8) (most : Int) (e : Ending) (w' : World) : Prop :=
  match textTake l most with
  | some (s, r) => RetSB w s r true e w'
  | none => RetSB w [] [] false e w'
theorem TextPost.some {w : World} {l s r : List UInt8} {most : Int} {e : Ending} {w' : World} (h : textTake l most = some (s, r)) (hp : RetSB w s r true e w') : TextPost w l most e w' := by
  simp only [TextPost, h]; exact hp
theorem TextPost.none {w : World} {l : List UInt8} {most : Int} {e : Ending} {w' : World} (h : textTake l most = none) (hp : RetSB w [] [] false e w') : TextPost w l most e w' := by
  simp only [TextPost, h]; exact hp

set_option maxRecDepth 100000 in
set_option maxHeartbeats 1000000 in
theorem refTakeText_c {w : World} {B n c : Nat} {A : Option Addr} {l : List UInt8} (h : Rd w B A n c (bv l)) (hBw : B ≤ w.heap.size) (hn : n ≤ 70368744177664) (most : Int) (hm0 : -9223372036854775808 ≤ most) (hm1 : most ≤ 9223372036854775807) :
    Calls Try.prog 47 #[.slice A n c, .int .i64 most] w (TextPost w l most) := by
  have ht := refTake_c h hBw hn
  have hl : l.length = n := by simpa using h.len
  cases hv : takeN l with
  | none =>
    have hres : textTake l most = none := by simp [textTake, hv]
    have HT := Lib.hid (ht.mono (R' := RetNB w .u64 0 [] false) (fun e w' hp => by simpa only [TakePost, hv] using hp))
    have HR := Lib.hid hres
    clear ht hl hv hres h hn hm0 hm1
    go_enter Try.func47, Try.ntmps47
    go_wp2_with fail
    refine HT.out.mono ?_
    rintro e w1 ⟨A1, n1, c1, rfl, hf1, hb1⟩
    go_wp2
    go_ret3
    exact TextPost.none HR.out ⟨none, 0, 0, rfl, Fr.nil, hb1⟩
  | some r =>
    obtain ⟨v, m⟩ := r
    have hres : textTake l most = if 0 ≤ most ∧ (v : Int) ≤ most ∧ v ≤ (l.drop m).length then some ((l.drop m).take v, (l.drop m).drop v) else none := by simp [textTake, hv]
    have hle := takeN_le hv
    have HT := Lib.hid (ht.mono (R' := RetNB w .u64 v (l.drop m) true) (fun e w' hp => by simpa only [TakePost, hv] using hp))
    have HLE := Lib.hid hle
    have HL := Lib.hid hl
    have HR := Lib.hid hres
    have HN := Lib.hid hn
    clear ht hl hv hres h hn hle
    by_cases h0 : most < 0
    · have hfin : textTake l most = none := by rw [HR.out, if_neg (by omega)]
      have HF := Lib.hid hfin
      clear hfin
      have hd : decide (most < 0) = true := by simp; omega
      go_enter Try.func47, Try.ntmps47
      go_wp2_with fail
      refine HT.out.mono ?_
      rintro e w1 ⟨A1, n1, c1, rfl, hf1, hb1⟩
      go_wp2
      go_ret3
      exact TextPost.none HF.out ⟨none, 0, 0, rfl, Fr.nil, hb1⟩
    · by_cases h1 : most < (v : Int)
      · have hfin : textTake l most = none := by rw [HR.out, if_neg (by omega)]
        have HF := Lib.hid hfin
        clear hfin
        have hd : decide (most < 0) = false := by simp; omega
        have hd1 : decide (most < (v : Int)) = true := by simp; omega
        have hp : 0 ≤ most := by omega
        go_enter Try.func47, Try.ntmps47
        go_wp2_with fail
        refine HT.out.mono ?_
        rintro e w1 ⟨A1, n1, c1, rfl, hf1, hb1⟩
        go_wp2
        go_ret3
        exact TextPost.none HF.out ⟨none, 0, 0, rfl, Fr.nil, hb1⟩
      · by_cases h2 : l.length - m < v
        · have hfin : textTake l most = none := by rw [HR.out, if_neg (by simp; omega)]
          have HF := Lib.hid hfin
          have H2 := Lib.hid h2
          clear hfin h2
          have hd : decide (most < 0) = false := by simp; omega
          have hd1 : decide (most < (v : Int)) = false := by simp; omega
          have hp : 0 ≤ most := by omega
          go_enter Try.func47, Try.ntmps47
          go_wp2_with fail
          refine HT.out.mono ?_
          rintro e w1 ⟨A1, n1, c1, rfl, hf1, hb1⟩
          have hn1 : n1 < v := by rw [← hf1.len]; have := H2.out; simpa using this
          have hd2 : decide ((n1 : Int) < (v : Int)) = true := by simp; omega
          have hd3 : decide (n1 < v) = true := by simp; omega
          have hb1n : (n1 : Int) ≤ 9223372036854775807 := by rw [← hf1.len]; have := HL.out; have := HN.out; simp; omega
          go_wp2
          go_ret3
          exact TextPost.none HF.out ⟨none, 0, 0, rfl, Fr.nil, hb1⟩
        · have hfin : textTake l most = some ((l.drop m).take v, (l.drop m).drop v) := by rw [HR.out, if_pos (by simp; omega)]
          have HF := Lib.hid hfin
          have H2 := Lib.hid h2
          clear hfin h2
          have hd : decide (most < 0) = false := by simp; omega
          have hd1 : decide (most < (v : Int)) = false := by simp; omega
          have hp : 0 ≤ most := by omega
          go_enter Try.func47, Try.ntmps47
          go_wp2_with fail
          refine HT.out.mono ?_
          rintro e w1 ⟨A1, n1, c1, rfl, hf1, hb1⟩
          have hn1 : v ≤ n1 := by rw [← hf1.len]; have := H2.out; simp; omega
          have hd2 : decide ((n1 : Int) < (v : Int)) = false := by simp; omega
          have hd3 : decide (n1 < v) = false := by simp; omega
          have hb1n : (n1 : Int) ≤ 9223372036854775807 := by rw [← hf1.len]; have := HL.out; have := HN.out; simp; omega
          have hcap := (hf1.rd (Nat.le_refl _)).cap
          have hsl := fun W => run_slice_hi_gen (P := Try.prog) (n := n1) (A := A1) 23 5 Try.underlying23 info_u8 .u64 (k := v) (c := c1) (by omega) W
          have hrd := hf1.rd (Nat.le_refl _)
          have hfr := hrd.front hn1
          rw [show (bv (l.drop m)).take v = bv ((l.drop m).take v) by simp [bv]] at hfr
          have r1 : ∀ W, Below w1.heap.size w1 W → (convert 23 9 (.slice A1 v c1)).run Try.prog W = .ok (.string ⟨((l.drop m).take v).toArray⟩) W := fun W hb => run_str (P := Try.prog) (hfr.below hb) 23 9 5 Try.underlying23 Try.underlying5 Try.underlying9
          have r0 := r1 _ (below_drewN (Below.refl _ _) 1)
          rw [show w1.drewN 1 = w1.drew from rfl] at r0
          have R1 := Lib.hid r1
          have hsm : n1 ≤ 70368744177664 := by rw [← hf1.len]; have := HL.out; have := HN.out; simp; omega
          have hrest := rest_c (w := w1.drew) hrd.drew hsm hn1
          have HREST := Lib.hid hrest
          have hwv : IntKind.i64.wrap (v : Int) = (v : Int) := IntWalk.i64_in _ (by omega)
          clear r1 hsm hrest hcap
          go_wp2_with fail
          go_region_with (go_at_call 46; refine HREST.out.mono ?_; rintro e w2 ⟨A2, n2, c2, rfl, hf2, hb2⟩; have r2 := R1.out w2 ((below_drewN (Below.refl _ _) 1).trans hb2))
          all_goals go_wp2
          all_goals go_ret3
          all_goals exact TextPost.some HF.out ⟨_, _, _, rfl, hf2.mono hb1.size, hb1.trans ((below_drewN (Below.refl _ _) 1).trans (hb2.mono hb1.size))⟩
end Go.Proofs.Ytaodmenieigbmaa
