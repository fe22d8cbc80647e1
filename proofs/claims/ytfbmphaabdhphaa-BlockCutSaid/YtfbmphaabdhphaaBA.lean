/-
  What is read: the contracts of text and entry.
-/
import Derived.Test.YtfbmphaabdhphaaB9
namespace Go.Proofs.Ytfbmphaabdhphaa
set_option maxRecDepth 100000
open Go.RowKit Go.Shelf
set_option linter.unusedVariables false

theorem txtR_some {l s r : List UInt8} {most : Nat} (h : textTake (l.take (10 + most)) (most : Int) = some (s, r)) : txtR most l = (s, l.drop ((l.take (10 + most)).length - r.length)) := by unfold txtR; rw [h]
theorem txtR_none {l : List UInt8} {most : Nat} (h : textTake (l.take (10 + most)) (most : Int) = none) : txtR most l = ([], l.drop (10 + most)) := by unfold txtR; rw [h]
theorem textTake_rest {l s r : List UInt8} {most : Int} (h : textTake l most = some (s, r)) : r.length ≤ l.length := by
  have h1 := (text_put h).1
  rw [← h1]; simp

set_option maxRecDepth 100000 in
set_option maxHeartbeats 2000000 in
theorem text_c {w : World} {g n c : Nat} {A : Option Addr} {l : List UInt8} (h : RrAt w g A n c l) (hn : n ≤ 1000000000) {most : Nat} (hmost : most ≤ 256) :
    Calls Try.prog 59 #[.pointer (some ⟨g, 0, none⟩), .int .i64 (most : Int)] w (RrPost w g (.string ⟨(txtR most l).1.toArray⟩) (txtR most l).2) := by
  have hlt := h.lt
  have hll := h.len
  have hsum : IntKind.i64.wrap (10 + (most : Int)) = ((10 + most : Nat) : Int) := by rw [wrapi _ (by omega) (by omega)]; omega
  have HN := Lib.hid (near_c h (most := 10 + most) (by omega) hn)
  have hT := fun q => takeText_c ((h.near (10 + most)).drewN q) (show g ≤ (w.drewN q).heap.size from Nat.le_of_lt hlt) (by omega) (most : Int) (by omega) (by omega)
  have hS := fun W (hW : Below w.heap.size w W) k (hk : k ≤ n) => skip_c (h.below hW) hk
  have HS := Lib.hid hS
  obtain ⟨M, hM⟩ : ∃ M, 10 + most = M := ⟨_, rfl⟩
  obtain ⟨k, hk⟩ : ∃ k, min M n = k := ⟨_, rfl⟩
  have hkn : k ≤ n := by omega
  have hki : (k : Int) ≤ 1000 := by omega
  rw [hM] at hsum
  simp only [hM, hk] at HN hT
  have hkl : (l.take M).length = k := by rw [List.length_take]; omega
  have HD := Lib.hid (show l.drop k = l.drop M by
    rcases Nat.le_total M n with h2 | h2
    · congr 1; omega
    · rw [List.drop_of_length_le (by omega), List.drop_of_length_le (by omega)])
  clear h hS hll hk
  cases ht : textTake (l.take M) (most : Int) with
  | none =>
    have HT := Lib.hid fun q => (hT q).mono (fun _ _ hp => textPost_no ht hp)
    have e1 := txtR_none (l := l) (most := most) (by rw [hM]; exact ht)
    rw [hM] at e1
    rw [e1]
    have hw0 : IntKind.i64.wrap (k : Int) = (k : Int) := wrapi _ (by omega) (by omega)
    clear hT ht e1 hM
    go_enter Try.func59, Try.ntmps59
    go_wp2_with fail
    refine HN.out.mono ?_
    rintro e w1 ⟨rfl, q, rfl⟩
    go_wp2_with fail
    refine (HT.out q).mono ?_
    rintro e w2 ⟨A2, n2, c2, rfl, hf2, hb2⟩
    obtain rfl : n2 = 0 := by have := hf2.len; simpa using this.symm
    have hb3 : Below w.heap.size w w2 := bon (below_drewN (Below.refl _ _) q) hb2
    clear hf2 hb2
    go_wp2_with fail
    refine (HS.out w2 hb3 k hkn).mono ?_
    rintro e w3 ⟨rfl, A3, n3, c3, h3, b3⟩
    rw [HD.out] at h3
    go_wp2_with fail
    go_ret
    exact ⟨rfl, A3, n3, c3, h3, (Only.of hb3).trans b3⟩
  | some p =>
    obtain ⟨s, r⟩ := p
    have HT := Lib.hid fun q => (hT q).mono (fun _ _ hp => textPost_to ht hp)
    have e1 := txtR_some (l := l) (most := most) (by rw [hM]; exact ht)
    rw [hM, hkl] at e1
    rw [e1]
    have hrl := textTake_rest ht
    rw [hkl] at hrl
    obtain ⟨m, hm⟩ : ∃ m, k - r.length = m := ⟨_, rfl⟩
    obtain ⟨v, hv⟩ : ∃ v, r.length = v := ⟨_, rfl⟩
    rw [hm]
    have hw0 : IntKind.i64.wrap ((k : Int) - (v : Int)) = (m : Int) := by rw [wrapi _ (by omega) (by omega)]; omega
    have hmk : m ≤ n := by omega
    have HV := Lib.hid hv
    clear hT ht e1 hM hrl hm hv
    go_enter Try.func59, Try.ntmps59
    go_wp2_with fail
    refine HN.out.mono ?_
    rintro e w1 ⟨rfl, q, rfl⟩
    go_wp2_with fail
    refine (HT.out q).mono ?_
    rintro e w2 ⟨A2, n2, c2, rfl, hf2, hb2⟩
    obtain rfl : n2 = v := by have := hf2.len; have := HV.out; simp at *; omega
    have hb3 : Below w.heap.size w w2 := bon (below_drewN (Below.refl _ _) q) hb2
    have HC := Lib.hid (HS.out w2 hb3 m hmk)
    have HB3 := Lib.hid hb3
    clear hf2 hb2 hkn hb3
    go_wp2_with fail
    refine HC.out.mono ?_
    rintro e w3 ⟨rfl, A3, n3, c3, h3, b3⟩
    go_wp2_with fail
    go_ret
    exact ⟨rfl, A3, n3, c3, h3, (Only.of HB3.out).trans b3⟩

theorem run_upto {s : ByteArray} {k : Nat} (h : k ≤ s.size) (kl : IntKind) (W : World) : (Instr.slice 9 (.string s) none (some (.int kl (k : Int))) none).run Try.prog W = .ok (.string (takeS s k)) W := by
  refine (run_slice_string_h W 9 s Try.underlying9 kl (k : Int) (by omega) (by omega)).trans ?_
  rw [Int.toNat_natCast, Lib.Pa.extract_upto]; rfl
theorem numR_le (l : List UInt8) : (numR l).1 < 2 ^ 64 ∧ (numR l).2.length ≤ l.length := by
  unfold numR
  split
  · next x m h => exact ⟨(takeN_le h).2.2.2.1, by simp⟩
  · simp
theorem txtR_le (most : Nat) (l : List UInt8) : (txtR most l).1.length ≤ most ∧ (txtR most l).2.length ≤ l.length := by
  unfold txtR
  split
  · next s r h =>
    refine ⟨?_, by simp⟩
    unfold textTake at h
    split at h
    · next v m hv =>
      split at h
      · simp only [Option.some.injEq, Prod.mk.injEq] at h
        rw [← h.1, List.length_take]; omega
      · cases h
    · cases h
  · simp
theorem RrAt.small {w : World} {g n c N : Nat} {A : Option Addr} {l : List UInt8} (h : RrAt w g A n c l) (hl : l.length ≤ N) : n ≤ N := by have := h.len; omega

/-- The result's box. -/
theorem ret_en {fn : Func} {p : Tmp} {R : Ending → World → Prop} {a : Act} {w : World} {g : Nat} {x : Ent} (h : fn.results = #[.cell p 38]) (hd : a.defers = [])
    (hp : a.tmps.getD p undef = .pointer (some ⟨g, 0, none⟩)) (hg : EnAt w g x) (hR : R (.returned (en x.s x.q x.k x.v)) w) : bodyPost Try.prog fn R .ret a w :=
  bodyPost_ret (results_cell_row h a.tmps w g 38 _ (0, 0) _ hp hg.h Try.underlying38 rfl (by kernel_rfl)) hd hR
theorem EnAt.set4 {w : World} {b : Nat} {x y : Ent} (h : EnAt w b x) :
    EnAt ((((w.setCell ⟨b, 0, none⟩ (.string y.s)).setCell ⟨b, 1, none⟩ (.int .u64 (y.q : Int))).setCell ⟨b, 2, none⟩ (.int .u8 (y.k : Int))).setCell ⟨b, 3, none⟩ (.string y.v)) b y := by
  refine ⟨by have := h.lt; simpa [World.setCell] using this, ?_⟩
  simp only [World.setCell, Array.getElem?_modify, if_pos, h.h]
  rfl
theorem EnAt.set1 {w : World} {b : Nat} {x : Ent} (h : EnAt w b x) (v : ByteArray) : EnAt (w.setCell ⟨b, 3, none⟩ (.string v)) b { x with v := v } := by
  refine ⟨by have := h.lt; simpa [World.setCell] using this, ?_⟩
  simp only [World.setCell, Array.getElem?_modify, if_pos, h.h]
  rfl
theorem EnAt.only {w w' : World} {b g : Nat} {x : Ent} (h : EnAt w b x) (ho : Only g w w') (hne : b ≠ g) : EnAt w' b x :=
  ⟨by have := h.lt; have := ho.size; omega, by rw [ho.block b h.lt hne]; exact h.h⟩
end Go.Proofs.Ytfbmphaabdhphaa
