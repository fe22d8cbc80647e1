/-
  What is read: the contract of read.
-/
import Derived.Test.YtfbmphaabdhphaaBC
namespace Go.Proofs.Ytfbmphaabdhphaa
set_option maxRecDepth 100000
open Go.RowKit Go.Shelf
set_option linter.unusedVariables false

theorem FrE.drew {w : World} {b n c : Nat} {A : Option Addr} {L : List Ent} (h : FrE w b A n c L) : FrE w.drew b A n c L := ⟨h.own⟩
theorem FrE.only {w w' : World} {b n c g : Nat} {A : Option Addr} {L : List Ent} (h : FrE w b A n c L) (ho : Only g w w') (hb : g < b) : FrE w' b A n c L := by
  obtain ⟨h1, h2⟩ := h.own
  refine ⟨h1, ?_⟩
  rcases h2 with h2 | ⟨k, cap, cur, e, hk, hh, r⟩
  · exact .inl h2
  · exact .inr ⟨k, cap, cur, e, hk, (ho.block k (Array.getElem?_eq_some_iff.1 hh).1 (by omega)).trans hh, r⟩
theorem RrAt.under {w w' : World} {g n c B : Nat} {A : Option Addr} {l : List UInt8} (h : RrAt w g A n c l) (hb : Below B w w') (hB : g < B) : RrAt w' g A n c l :=
  ⟨by have := h.lt; have := hb.size; omega, by rw [hb.block g hB]; exact h.h, h.rd.under hb (Nat.le_of_lt hB)⟩
theorem entR_key (p : ByteArray) (l : List UInt8) : (entR p l).1.s.size ≤ p.size + 64 := by
  have h2 := (txtR_le 64 (numR l).2).1
  unfold entR
  dsimp only
  have h3 := takeS_size p (k := min (numR l).1 p.size) (Nat.min_le_right _ _)
  have h4 := size_toArray (txtR 64 (numR l).2).1
  split <;> (rw [ByteArray.size_append, h3, h4]; omega)
theorem entR_rest (p : ByteArray) (l : List UInt8) : (entR p l).2.length ≤ l.length := by
  have h1 := (numR_le l).2
  have h2 := (txtR_le 64 (numR l).2).2
  have h3 := (numR_le (txtR 64 (numR l).2).2).2
  have h4 := (txtR_le 256 (numR (txtR 64 (numR l).2).2).2).2
  unfold entR
  dsimp only
  split <;> (dsimp only; omega)
theorem readR_step {f : Nat} {p : ByteArray} {l : List UInt8} (h : l ≠ []) : readR (f + 1) p l = (entR p l).1 :: readR f (entR p l).1.s (entR p l).2 := by
  simp only [readR]; rw [if_neg h]
theorem readR_nil (f : Nat) (p : ByteArray) : readR f p [] = [] := by cases f <;> simp [readR]
theorem EnAt.app {W w5 : World} {be b n c n' c' : Nat} {A A' : Option Addr} {L : List Ent} {x : Ent} (y : EnAt W be x) (hap : AppE W w5 b (.slice A n c) A' n' c' L) (hown : (Value.slice A n c).ownBlock ≠ some be) : EnAt w5 be x :=
  ⟨by have := hap.grown.size; have := y.lt; omega, (hap.grown.block be y.lt (fun e => hown e.symm)).trans y.h⟩
def RetEn (w : World) (L : List Ent) (e : Ending) (w' : World) : Prop :=
  ∃ A n c, e = .returned (.slice A n c) ∧ FrE w' w.heap.size A n c L ∧ Below w.heap.size w w'
set_option maxRecDepth 100000 in
set_option maxHeartbeats 4000000 in
theorem read_c {w : World} {n c : Nat} {A : Option Addr} {l : List UInt8} (h : Rd w w.heap.size A n c (bv l)) (hn : n ≤ 1000000000) :
    Calls Try.prog 29 #[.slice A n c] w (RetEn w (readR 64 noS l)) := by
  have hll : l.length = n := by simpa using h.len
  obtain ⟨g, hg⟩ : ∃ g, w.heap.size = g := ⟨_, rfl⟩
  have h0 : RrAt (w.alloc (.cells #[.slice A n c] 74)) g A n c l := by
    subst hg
    exact ⟨by simp, heap_alloc_new w _, h.alloc (Nat.le_refl _) _⟩
  have b0 : Below g w (w.alloc (.cells #[.slice A n c] 74)) := by subst hg; exact below_alloc w _
  have hln : l.length ≤ 1000000000 := by omega
  have H0 := Lib.hid h0
  have B0 := Lib.hid b0
  have HLN := Lib.hid hln
  obtain ⟨F, hF⟩ : ∃ F, readR 64 noS l = F := ⟨_, rfl⟩
  have HF := Lib.hid hF
  have HG := Lib.hid hg
  rw [hF]
  clear h h0 b0 hll hn hF hln
  go_enter Try.func29, Try.ntmps29
  go_wp2_with fail
  go_loopw [3, 5] (fun lv kv wr => ∃ (M : List Ent) (s : ByteArray) (A1 : Option Addr) (m c1 : Nat) (l1 : List UInt8) (A2 : Option Addr) (n2 c2 : Nat), lv = .slice A1 m c1 ∧ kv = .string s ∧ FrE wr (g + 1) A1 m c1 M ∧ RrAt wr g A2 n2 c2 l1 ∧ Below g w wr ∧ s.size ≤ 64 * m ∧ m ≤ 64 ∧ F = M ++ readR (64 - m) s l1 ∧ l1.length ≤ 1000000000) (fun lv _ _ => 64 - (match lv with | .slice _ m _ => m | _ => 0))
  case atStart => exact ⟨[], noS, none, 0, 0, l, A, n, c, rfl, rfl, FrE.nil, H0.out, B0.out, by decide, by omega, HF.out.symm, HLN.out⟩
  case round =>
    clear H0 B0
    obtain ⟨M, s, A1, m, c1, l1, A2, n2, c2, rfl, rfl, f1, r1, gr, hs, hm, hFm, hl1⟩ := hrel
    have hl2 := r1.len
    have x0 := r1.cell
    by_cases h1 : 0 < n2
    · have d1 : decide ((0 : Int) < (n2 : Int)) = true := by simp; omega
      have d1' : decide (0 < n2) = true := by simp; omega
      by_cases h2 : m < 64
      · have d2 : decide ((m : Int) < 64) = true := by simp; omega
        have d2' : decide (m < 64) = true := by simp; omega
        have hne : l1 ≠ [] := fun e => by rw [e] at hl2; simp at hl2; omega
        have HC := Lib.hid (rentry_c r1 (by omega) (p := s) (by omega))
        have hk1 := entR_key s l1
        have hk2 := entR_rest s l1
        have hF2 : F = M ++ (entR s l1).1 :: readR (64 - (m + 1)) (entR s l1).1.s (entR s l1).2 := by
          rw [hFm, show 64 - m = (64 - (m + 1)) + 1 by omega, readR_step hne]
        have hgw : g ≤ wr.heap.size := Nat.le_of_lt r1.lt
        obtain ⟨R, hR⟩ : ∃ R, entR s l1 = R := ⟨_, rfl⟩
        rw [hR] at HC hk1 hk2 hF2
        have hm2 : (entR s l1).1.s.size ≤ 64 * (m + 1) := by rw [hR]; omega
        rw [hR] at hm2
        obtain ⟨x, l3⟩ := R
        dsimp only at HC hk1 hk2 hF2 hm2
        have hl3 : l3.length ≤ 1000000000 := by omega
        have HF2 := Lib.hid hF2
        have F1 := Lib.hid f1
        have GR := Lib.hid gr
        have HM2 := Lib.hid hm2
        have HL3 := Lib.hid hl3
        unfold en at HC
        clear f1 gr hs hm hFm hl1 hl2 hne hk1 hk2 hF2 hR hm2 hl3 r1
        go_wp2_with fail
        refine HC.out.mono ?_
        rintro e w2 ⟨rfl, A3, n3, c3, r3, o3⟩
        have f3 := F1.out.only o3 (Nat.lt_succ_self g)
        have g3 := GR.out.trans (o3.below (Nat.le_refl _) hgw)
        have hown : ∀ k, (Value.slice A1 m c1).ownBlock = some k → k < w2.heap.size := fun k hk => (f3.own.lt k hk).2
        have y0 : EnAt (w2.alloc (.cells #[.string x.s, .int .u64 (x.q : Int), .int .u8 (x.k : Int), .string x.v] 38)) w2.heap.size x := EnAt.new w2 x
        have f4 : FrE (w2.alloc (.cells #[.string x.s, .int .u64 (x.q : Int), .int .u8 (x.k : Int), .string x.v] 38)) (g + 1) A1 m c1 M := f3.alloc _
        have r4 : RrAt (w2.alloc (.cells #[.string x.s, .int .u64 (x.q : Int), .int .u8 (x.k : Int), .string x.v] 38)) g A3 n3 c3 l3 := r3.below (below_alloc w2 _)
        have g4 : Below g w (w2.alloc (.cells #[.string x.s, .int .u64 (x.q : Int), .int .u8 (x.k : Int), .string x.v] 38)) := g3.trans ((below_alloc w2 _).mono (Nat.le_of_lt r3.lt))
        obtain ⟨be, hbe⟩ : ∃ be, w2.heap.size = be := ⟨_, rfl⟩
        rw [hbe] at y0 hown
        clear r3 o3 f3 g3 x0
        go_upto_region 5 with (fail)
        generalize hwa : w2.alloc (.cells #[.string x.s, .int .u64 (x.q : Int), .int .u8 (x.k : Int), .string x.v] 38) = wa at *
        clear hwa hbe
        obtain ⟨i0, i1, i2, i3⟩ := y0.drew.cells
        have Y0 := Lib.hid y0
        have F4 := Lib.hid f4
        have R4 := Lib.hid r4
        have G4 := Lib.hid g4
        have HOWN := Lib.hid (show (Value.slice A1 m c1).ownBlock ≠ some be from fun e => absurd (hown be e) (Nat.lt_irrefl _))
        have y1 : EnAt (wa.alloc (.cells #[.string x.s, .int .u64 (x.q : Int), .int .u8 (x.k : Int), .string x.v] 38)) be x := y0.below (below_alloc wa _)
        obtain ⟨v0, v1, v2, v3⟩ := y1.cells
        have Y1 := Lib.hid (show EnAt (wa.drew.alloc (.cells #[.string x.s, .int .u64 (x.q : Int), .int .u8 (x.k : Int), .string x.v] 38)) be x from y0.drew.below (below_alloc wa.drew _))
        have HSZ := Lib.hid (show wa.heap.size ≤ (wa.drew.alloc (.cells #[.string x.s, .int .u64 (x.q : Int), .int .u8 (x.k : Int), .string x.v] 38)).heap.size from (below_alloc wa.drew _).size)
        have hgl : g + 1 ≤ wa.heap.size := r4.lt
        have hm1 : m + 1 ≤ 65 := by omega
        clear y0 f4 r4 g4 hown y1
        go_region_law (first
          | (refine step_appE rfl (.tmp 20) (.tmp 22) rfl (F4.out.drew.alloc _) (by rfl) ((FrE.one wa.drew (b := 0) (g := wa.heap.size) x rfl (Nat.zero_le _)).rd (Nat.le_refl _)) (by rfl) (by omega) (Nat.le_trans hgl HSZ.out) ?_; intro A5 c5 w5 hap; have HAP := Lib.hid hap; have y5 : EnAt w5 be x := Y1.out.app hap HOWN.out; obtain ⟨j0, j1, j2, j3⟩ := y5.cells; clear hap))
        all_goals (
          (try go_simp)
          (try go_wp2_with fail)
          go_roundw
          case rel =>
            have hb5 : Below (g + 1) wa w5 := ((((below_drewN (Below.refl _ _) 1) : Below (g + 1) wa wa.drew)).alloc hgl _).trans HAP.out.below
            refine ⟨M ++ [x], x.s, A5, m + 1, c5, l3, A3, n3, c3, rfl, rfl, HAP.out.fr, R4.out.under hb5 (Nat.lt_succ_self g), G4.out.trans (hb5.mono (Nat.le_succ g)), HM2.out, by omega, ?_, HL3.out⟩
            rw [HF2.out, List.append_assoc]; rfl
          case measure => simp; omega)
      · have d2 : decide ((m : Int) < 64) = false := by simp; omega
        have d2' : decide (m < 64) = false := by simp; omega
        obtain rfl : m = 64 := by omega
        have HFIN := Lib.hid (show F = M by rw [hFm]; simp [readR])
        have F1 := Lib.hid f1
        have GR := Lib.hid gr
        clear f1 gr hs hm hFm hl1 hl2 r1
        go_wp2_with fail
        go_ret
        refine ⟨A1, _, c1, rfl, ?_, by rw [HG.out]; exact GR.out⟩
        rw [HFIN.out, HG.out]
        exact F1.out.mono (Nat.le_succ g)
    · have d1 : decide ((0 : Int) < (n2 : Int)) = false := by simp; omega
      have d1' : decide (0 < n2) = false := by simp; omega
      have hl0 : l1 = [] := List.eq_nil_of_length_eq_zero (by omega)
      have HFIN := Lib.hid (show F = M by rw [hFm, hl0, readR_nil, List.append_nil])
      have F1 := Lib.hid f1
      have GR := Lib.hid gr
      clear f1 gr hs hm hFm hl1 hl2 hl0 r1
      go_wp2_with fail
      go_ret
      refine ⟨A1, m, c1, rfl, ?_, by rw [HG.out]; exact GR.out⟩
      rw [HFIN.out, HG.out]
      exact F1.out.mono (Nat.le_succ g)
end Go.Proofs.Ytfbmphaabdhphaa
