/-
  Contracts: the program's TakeText.
-/
import Derived.Test.YtaodmenieigbmaaDev2
namespace Go.Proofs.Ytaodmenieigbmaa
open Go.RowKit

set_option maxRecDepth 100000 in
set_option maxHeartbeats 2000000 in
theorem takeText_c {w : World} {B n c : Nat} {A : Option Addr} {l : List UInt8} (h : Rd w B A n c (bv l)) (hBw : B ≤ w.heap.size) (hn : n ≤ 70368744177664) (most : Int) (hm0 : -9223372036854775808 ≤ most) (hm1 : most ≤ 9223372036854775807) :
    Calls Try.prog 51 #[.slice A n c, .int .i64 most] w (TextPost w l most) := by
  have hsh := shortAt_c h hn
  have hl : l.length = n := by simpa using h.len
  cases hv : takeN l with
  | none =>
    have hres : textTake l most = none := by simp [textTake, hv]
    have HT := Lib.hid (hsh.mono (R' := fun e w' => e = .returned (.tuple #[.int .u64 0, .int .i64 0]) ∧ w = w') (fun e w' hp => by
      rcases hp with ⟨v, m, h1, _⟩ | h2
      · rw [hv] at h1; cases h1
      · exact h2.2))
    obtain ⟨A1, hsl, hr⟩ := h.slice_lo 23 5 (P := Try.prog) Try.underlying23 info_u8 .i64 (k := 0) (by omega)
    rw [show ((0 : Nat) : Int) = 0 from rfl] at hsl
    have HR := Lib.hid hres
    clear hsh hl hv h hn hm0 hm1 hr hres
    go_enter Try.func51, Try.ntmps51
    go_wp2_with fail
    refine HT.out.mono ?_
    rintro e w1 ⟨rfl, rfl⟩
    go_wp2_with fail
    go_ret3
    exact TextPost.none HR.out ⟨none, 0, 0, rfl, Fr.nil, Below.refl _ _⟩
  | some r =>
    obtain ⟨v, m⟩ := r
    have hres : textTake l most = if 0 ≤ most ∧ (v : Int) ≤ most ∧ v ≤ (l.drop m).length then some ((l.drop m).take v, (l.drop m).drop v) else none := by simp [textTake, hv]
    have HT := Lib.hid (hsh.mono (R' := fun e w' => e = .returned (.tuple #[.int .u64 (v : Int), .int .i64 (m : Int)]) ∧ w = w') (fun e w' hp => by
      rcases hp with ⟨v', m', h1, h2⟩ | h2
      · rw [hv] at h1; cases h1; exact h2
      · rw [hv] at h2; cases h2.1))
    obtain ⟨hle1, hle2, _⟩ := takeN_le hv
    obtain ⟨A1, hsl, hr⟩ := h.slice_lo 23 5 (P := Try.prog) Try.underlying23 info_u8 .i64 (k := m) (by omega)
    rw [bv_drop] at hr
    have hcap := h.cap
    obtain ⟨n2, hn2⟩ : ∃ n2, n - m = n2 := ⟨_, rfl⟩
    obtain ⟨c2, hc2⟩ : ∃ c2, c - m = c2 := ⟨_, rfl⟩
    have hlen2 : (l.drop m).length = n2 := by simp; omega
    rw [hn2, hc2] at hsl hr
    rw [hlen2] at hres
    have hm00 : ((m : Int) == 0) = false := by simp; omega
    have hn2s : n2 ≤ 70368744177664 := by omega
    have HR := Lib.hid hres
    have hc2n : n2 ≤ c2 := by omega
    clear hsh hl hv hres h hn hle1 hle2 hn2 hc2 hcap hlen2
    generalize l.drop m = t at *
    by_cases h0 : most < 0
    · have hfin : textTake l most = none := by rw [HR.out, if_neg (by omega)]
      have HF := Lib.hid hfin
      clear hfin hr hn2s
      have hd : decide (most < 0) = true := by simp; omega
      go_enter Try.func51, Try.ntmps51
      go_wp2_with fail
      refine HT.out.mono ?_
      rintro e w1 ⟨rfl, rfl⟩
      go_wp2_with fail
      go_ret3
      exact TextPost.none HF.out ⟨none, 0, 0, rfl, Fr.nil, Below.refl _ _⟩
    · obtain ⟨M, hM⟩ : ∃ M : Nat, min most (n2 : Int) = (M : Int) := ⟨(min most (n2 : Int)).toNat, by omega⟩
      have hd : decide (most < 0) = false := by simp; omega
      by_cases h1 : M < v
      · have hfin : textTake l most = none := by rw [HR.out, if_neg (by omega)]
        have HF := Lib.hid hfin
        have hd1 : decide ((M : Int) < (v : Int)) = true := by simp; omega
        have hd2 : decide (M < v) = true := by simp; omega
        have hMb : (M : Int) ≤ 9223372036854775807 := by omega
        clear hfin hr hn2s
        go_enter Try.func51, Try.ntmps51
        go_wp2_with fail
        refine HT.out.mono ?_
        rintro e w1 ⟨rfl, rfl⟩
        go_wp2_with fail
        go_ret3
        exact TextPost.none HF.out ⟨none, 0, 0, rfl, Fr.nil, Below.refl _ _⟩
      · have hfin : textTake l most = some (t.take v, t.drop v) := by rw [HR.out, if_pos (by omega)]
        have HF := Lib.hid hfin
        have hd1 : decide ((M : Int) < (v : Int)) = false := by simp; omega
        have hd2 : decide (M < v) = false := by simp; omega
        have hMb : (M : Int) ≤ 9223372036854775807 := by omega
        have hvn : v ≤ n2 := by omega
        obtain ⟨A3, hsl3, hr3⟩ := hr.slice_lo 23 5 (P := Try.prog) Try.underlying23 info_u8 .u64 (k := v) hvn
        rw [bv_drop] at hr3
        have hsf := fun W => run_slice_hi_gen (P := Try.prog) (n := n2) (A := A1) 23 5 Try.underlying23 info_u8 .u64 (k := v) (c := c2) (by omega) W
        have hfr := hr.front hvn
        rw [bv_take] at hfr
        have r1 : ∀ W, Below w.heap.size w W → (convert 23 9 (.slice A1 v c2)).run Try.prog W = .ok (.string ⟨(t.take v).toArray⟩) W := fun W hb => run_str (P := Try.prog) (hfr.under hb hBw) 23 9 5 Try.underlying23 Try.underlying5 Try.underlying9
        have r0 := r1 _ (below_drewN (Below.refl _ _) 1)
        rw [show w.drewN 1 = w.drew from rfl] at r0
        have R1 := Lib.hid r1
        have hcl := clone_c (w := w.drew) hr3.drew hBw (by omega)
        have HC := Lib.hid hcl
        clear hfin hr hn2s r1 hcl hr3 hfr hc2n
        go_enter Try.func51, Try.ntmps51
        go_wp2_with fail
        refine HT.out.mono ?_
        rintro e w1 ⟨rfl, rfl⟩
        go_wp2_with fail
        go_region_with (go_at_call 43; refine HC.out.mono ?_; rintro e w2 ⟨A2, n3, c3, rfl, hf2, hb2⟩; have r2 := R1.out w2 ((below_drewN (Below.refl _ _) 1).trans hb2))
        all_goals go_wp2
        all_goals go_ret3
        all_goals exact TextPost.some HF.out ⟨_, _, _, rfl, hf2, (below_drewN (Below.refl _ _) 1).trans hb2⟩
end Go.Proofs.Ytaodmenieigbmaa
