/-
  The texts B9, BA, in one.
-/
import Derived.Test.YtkdjjdkcogolmaaGreatDoorB8
import Derived.BigQuiet
import Derived.Laws.Concat
section
/-
  What is read: the reader in memory; the contracts of near, skip, number, text, entry.
-/
namespace Go.Proofs.YtkdjjdkcogolmaaGreatDoor
set_option maxRecDepth 100000
open Go.RowKit Go.Shelf
set_option linter.unusedVariables false

/-- Of what there was nothing but block g has turned. -/
structure Only (g : Nat) (w w' : World) : Prop where
  os : w'.os = w.os
  tape : w'.tape = w.tape
  output : w'.output = w.output
  size : w.heap.size ≤ w'.heap.size
  block : ∀ i, i < w.heap.size → i ≠ g → w'.heap[i]? = w.heap[i]?
theorem Only.of {g : Nat} {w w' : World} (h : Below w.heap.size w w') : Only g w w' := ⟨h.os, h.tape, h.output, h.size, fun i hi _ => h.block i hi⟩
theorem Only.trans {g : Nat} {w w' w'' : World} (h : Only g w w') (h2 : Only g w' w'') : Only g w w'' :=
  ⟨h2.os.trans h.os, h2.tape.trans h.tape, h2.output.trans h.output, Nat.le_trans h.size h2.size, fun i hi hn => (h2.block i (Nat.lt_of_lt_of_le hi h.size) hn).trans (h.block i hi hn)⟩
theorem Only.below {g B : Nat} {w w' : World} (h : Only g w w') (hB : B ≤ g) (hg : g ≤ w.heap.size) : Below B w w' := ⟨h.os, h.tape, h.output, h.size, fun i hi => h.block i (by omega) (by omega)⟩
theorem Only.set (w : World) (g o : Nat) (u : Value) : Only g w (w.setCell ⟨g, o, none⟩ u) :=
  ⟨rfl, rfl, rfl, by simp [World.setCell], fun i _ hn => by simp only [World.setCell]; rw [Array.getElem?_modify, if_neg (Ne.symm hn)]⟩
/-- The reader lies in block g; its bytes lie below. -/
structure RrAt (w : World) (g : Nat) (A : Option Addr) (n c : Nat) (l : List UInt8) : Prop where
  lt : g < w.heap.size
  h : w.heap[g]? = some (.cells #[.slice A n c] 148 (0, 0))
  rd : Rd w g A n c (bv l)
section
variable {w w' : World} {g n c : Nat} {A : Option Addr} {l : List UInt8}
theorem RrAt.cell (h : RrAt w g A n c l) : w.cell? ⟨g, 0, none⟩ = some (.slice A n c) := by simp only [World.cell?, h.h]; rfl
theorem RrAt.frozen (h : RrAt w g A n c l) : w.frozen? ⟨g, 0, none⟩ = false := by simp [World.frozen?, h.h]
theorem RrAt.below (h : RrAt w g A n c l) (hb : Below w.heap.size w w') : RrAt w' g A n c l :=
  ⟨by have := h.lt; have := hb.size; omega, by rw [hb.block g h.lt]; exact h.h, h.rd.under hb (Nat.le_of_lt h.lt)⟩
theorem RrAt.len (h : RrAt w g A n c l) : l.length = n := by have := h.rd.len; simpa using this
theorem RrAt.set (h : RrAt w g A n c l) {A' : Option Addr} {k : Nat} (hr : Rd w g A' (n - k) (c - k) (bv (l.drop k))) : RrAt (w.setCell ⟨g, 0, none⟩ (.slice A' (n - k) (c - k))) g A' (n - k) (c - k) (l.drop k) ∧ Below g w (w.setCell ⟨g, 0, none⟩ (.slice A' (n - k) (c - k))) := by
  have hlt := h.lt
  refine ⟨⟨by simp [World.setCell]; omega, ?_, hr.setCell (Nat.le_refl _) _⟩, Below.setCell (Below.refl g w) (show g ≤ (⟨g, 0, none⟩ : Addr).block from Nat.le_refl _) _⟩
  simp only [World.setCell, Array.getElem?_modify, if_pos, h.h]
  rfl
end

set_option maxRecDepth 100000 in
set_option maxHeartbeats 2000000 in
theorem near_c {w : World} {g n c : Nat} {A : Option Addr} {l : List UInt8} (h : RrAt w g A n c l) {most : Nat} (hm : most ≤ 1000) (hn : n ≤ 1000000000) :
    Calls Tryz.prog 141 #[.pointer (some ⟨g, 0, none⟩), .int .i64 (most : Int)] w (RetQ w (.slice A (min most n) c)) := by
  have x0 := h.cell
  have hcap := h.rd.cap
  have hci : (n : Int) ≤ 1000000000 := by omega
  obtain ⟨k, hk⟩ : ∃ k, min most n = k := ⟨_, rfl⟩
  have hmin : ∀ (W : World) (ts : Array TypeId) (ty : TypeId), (Builtin.min_ ts ty #[.int .i64 (most : Int), .int .i64 (n : Int)]).run Tryz.prog W = .ok (.int .i64 (k : Int)) W := fun W ts ty => by
    rw [Lib.run_min_ints]; congr 2; omega
  have hsl := fun W => run_slice_hi_gen (P := Tryz.prog) (n := n) (A := A) 24 5 Tryz.underlying24 info_u8 .i64 (k := k) (c := c) (by omega) W
  rw [hk]
  clear h hcap hk hm hn
  go_enter Tryz.func141, Tryz.ntmps141
  go_wp2_with fail
  go_quiet (fail)
  go_wp2_with fail
  go_ret
  exact ⟨rfl, _, rfl⟩

set_option maxRecDepth 100000 in
set_option maxHeartbeats 2000000 in
theorem skip_c {w : World} {g n c : Nat} {A : Option Addr} {l : List UInt8} (h : RrAt w g A n c l) {k : Nat} (hk : k ≤ n) :
    Calls Tryz.prog 143 #[.pointer (some ⟨g, 0, none⟩), .int .i64 (k : Int)] w (fun e w' => e = .returned (.tuple #[]) ∧ ∃ A' n' c', RrAt w' g A' n' c' (l.drop k) ∧ Only g w w') := by
  have x0 := h.cell
  have z0 := h.frozen
  obtain ⟨A', hsl, hr⟩ := h.rd.slice_lo 24 5 (P := Tryz.prog) Tryz.underlying24 info_u8 .i64 (k := k) hk
  rw [bv_drop] at hr
  have HS := Lib.hid (h.set hr)
  clear h hr hk
  go_enter Tryz.func143, Tryz.ntmps143
  go_wp2_with fail
  first | refine bodyPost_end (results_none rfl _ _ _) rfl ?_ | refine bodyPost_ret (results_none rfl _ _ _) rfl ?_
  exact ⟨rfl, A', _, _, HS.out.1, Only.set _ _ _ _⟩

/-- What a reading call leaves. -/
def RrPost (w : World) (g : Nat) (v : Value) (l : List UInt8) (e : Ending) (w' : World) : Prop :=
  e = .returned v ∧ ∃ A n c, RrAt w' g A n c l ∧ Only g w w'
theorem numR_some {l : List UInt8} {x m : Nat} (h : takeN (l.take 10) = some (x, m)) : numR l = (x, l.drop m) := by unfold numR; rw [h]
theorem numR_none {l : List UInt8} (h : takeN (l.take 10) = none) : numR l = (0, l.drop 10) := by unfold numR; rw [h]
theorem RrAt.near {w : World} {g n c : Nat} {A : Option Addr} {l : List UInt8} (h : RrAt w g A n c l) (most : Nat) : Rd w g A (min most n) c (bv (l.take most)) := by
  have h1 := h.rd.front (k := min most n) (Nat.min_le_right _ _)
  rw [bv_take] at h1
  have e : l.take (min most n) = l.take most := by
    have := h.len
    rcases Nat.le_total most n with h2 | h2
    · rw [Nat.min_eq_left h2]
    · rw [Nat.min_eq_right h2, List.take_of_length_le (by omega), List.take_of_length_le (by omega)]
  rwa [e] at h1

set_option maxRecDepth 100000 in
set_option maxHeartbeats 2000000 in
theorem number_c {w : World} {g n c : Nat} {A : Option Addr} {l : List UInt8} (h : RrAt w g A n c l) (hn : n ≤ 1000000000) :
    Calls Tryz.prog 137 #[.pointer (some ⟨g, 0, none⟩)] w (RrPost w g (.int .u64 ((numR l).1 : Int)) (numR l).2) := by
  have hlt := h.lt
  have hll := h.len
  have HN := Lib.hid (near_c h (most := 10) (by omega) hn)
  have hT := fun q => take_c ((h.near 10).drewN q) (show g ≤ (w.drewN q).heap.size from Nat.le_of_lt hlt) (by omega)
  have hS := fun W (hW : Below w.heap.size w W) k (hk : k ≤ n) => skip_c (h.below hW) hk
  have HS := Lib.hid hS
  obtain ⟨k, hk⟩ : ∃ k, min 10 n = k := ⟨_, rfl⟩
  have hkn : k ≤ n := by omega
  have hki : (k : Int) ≤ 10 := by omega
  rw [hk] at HN
  simp only [hk] at hT
  have hkl : (l.take 10).length = k := by rw [List.length_take]; omega
  have HD := Lib.hid (show l.drop k = l.drop 10 by
    rcases Nat.le_total 10 n with h2 | h2
    · congr 1; omega
    · rw [List.drop_of_length_le (by omega), List.drop_of_length_le (by omega)])
  clear h hS hll hk
  cases ht : takeN (l.take 10) with
  | none =>
    have HT := Lib.hid fun q => (hT q).mono (fun _ _ hp => takePost_no ht hp)
    have e1 := numR_none ht
    rw [e1]
    have hw0 : IntKind.i64.wrap (k : Int) = (k : Int) := wrapi _ (by omega) (by omega)
    clear hT ht e1
    go_enter Tryz.func137, Tryz.ntmps137
    go_wp2_with fail
    refine HN.out.mono ?_
    rintro e w1 ⟨rfl, q, rfl⟩
    go_wp2_with fail
    refine (HT.out q).mono ?_
    rintro e w2 ⟨A2, n2, c2, rfl, hf2, hb2⟩
    obtain rfl : n2 = 0 := by have := hf2.len; simpa using this.symm
    have hb3 : Below w.heap.size w w2 := bon (below_drewN (Below.refl _ _) q) hb2
    clear hf2 hb2
    go_wp2_with fail
    refine (HS.out w2 hb3 k hkn).mono ?_
    rintro e w3 ⟨rfl, A3, n3, c3, h3, b3⟩
    rw [HD.out] at h3
    go_wp2_with fail
    go_ret
    exact ⟨rfl, A3, n3, c3, h3, (Only.of hb3).trans b3⟩
  | some p =>
    obtain ⟨x, m⟩ := p
    have HT := Lib.hid fun q => (hT q).mono (fun _ _ hp => takePost_to ⟨ht, rfl⟩ hp)
    have e1 := numR_some ht
    have hle := (takeN_le ht).1
    have hle2 := takeN_le ht
    rw [e1]
    have hm : m ≤ k := by have := hle2.1; have := hle2.2.1; rw [hkl] at *; omega
    have HLT := Lib.hid (show ((l.take 10).drop m).length = k - m by rw [List.length_drop, hkl])
    have hw0 : IntKind.i64.wrap ((k : Int) - ((k - m : Nat) : Int)) = (m : Int) := by rw [wrapi _ (by omega) (by omega)]; omega
    clear hT ht e1 hle hle2
    go_enter Tryz.func137, Tryz.ntmps137
    go_wp2_with fail
    refine HN.out.mono ?_
    rintro e w1 ⟨rfl, q, rfl⟩
    go_wp2_with fail
    refine (HT.out q).mono ?_
    rintro e w2 ⟨A2, n2, c2, rfl, hf2, hb2⟩
    obtain ⟨km, hkm⟩ : ∃ km, k - m = km := ⟨_, rfl⟩
    obtain rfl : n2 = km := by have := hf2.len; have := HLT.out; simp at *; omega
    rw [hkm] at hw0
    have hb3 : Below w.heap.size w w2 := bon (below_drewN (Below.refl _ _) q) hb2
    have HC := Lib.hid (HS.out w2 hb3 m (by omega))
    have HB3 := Lib.hid hb3
    clear hf2 hb2 hkm hm hki hkn hb3
    go_wp2_with fail
    refine HC.out.mono ?_
    rintro e w3 ⟨rfl, A3, n3, c3, h3, b3⟩
    go_wp2_with fail
    go_ret
    exact ⟨rfl, A3, n3, c3, h3, (Only.of HB3.out).trans b3⟩
end Go.Proofs.YtkdjjdkcogolmaaGreatDoor
end

section
/-
  What is read: the contracts of text and entry.
-/
namespace Go.Proofs.YtkdjjdkcogolmaaGreatDoor
set_option maxRecDepth 100000
open Go.RowKit Go.Shelf
set_option linter.unusedVariables false

theorem txtR_some {l s r : List UInt8} {most : Nat} (h : textTake (l.take (10 + most)) (most : Int) = some (s, r)) : txtR most l = (s, l.drop ((l.take (10 + most)).length - r.length)) := by unfold txtR; rw [h]
theorem txtR_none {l : List UInt8} {most : Nat} (h : textTake (l.take (10 + most)) (most : Int) = none) : txtR most l = ([], l.drop (10 + most)) := by unfold txtR; rw [h]
theorem textTake_rest {l s r : List UInt8} {most : Int} (h : textTake l most = some (s, r)) : r.length ≤ l.length := by
  have h1 := (text_put h).1
  rw [← h1]; simp

set_option maxRecDepth 100000 in
set_option maxHeartbeats 2000000 in
theorem text_c {w : World} {g n c : Nat} {A : Option Addr} {l : List UInt8} (h : RrAt w g A n c l) (hn : n ≤ 1000000000) {most : Nat} (hmost : most ≤ 256) :
    Calls Tryz.prog 138 #[.pointer (some ⟨g, 0, none⟩), .int .i64 (most : Int)] w (RrPost w g (.string ⟨(txtR most l).1.toArray⟩) (txtR most l).2) := by
  have hlt := h.lt
  have hll := h.len
  have hsum : IntKind.i64.wrap (10 + (most : Int)) = ((10 + most : Nat) : Int) := by rw [wrapi _ (by omega) (by omega)]; omega
  have HN := Lib.hid (near_c h (most := 10 + most) (by omega) hn)
  have hT := fun q => takeText_c ((h.near (10 + most)).drewN q) (show g ≤ (w.drewN q).heap.size from Nat.le_of_lt hlt) (by omega) (most : Int) (by omega) (by omega)
  have hS := fun W (hW : Below w.heap.size w W) k (hk : k ≤ n) => skip_c (h.below hW) hk
  have HS := Lib.hid hS
  obtain ⟨M, hM⟩ : ∃ M, 10 + most = M := ⟨_, rfl⟩
  obtain ⟨k, hk⟩ : ∃ k, min M n = k := ⟨_, rfl⟩
  have hkn : k ≤ n := by omega
  have hki : (k : Int) ≤ 1000 := by omega
  rw [hM] at hsum
  simp only [hM, hk] at HN hT
  have hkl : (l.take M).length = k := by rw [List.length_take]; omega
  have HD := Lib.hid (show l.drop k = l.drop M by
    rcases Nat.le_total M n with h2 | h2
    · congr 1; omega
    · rw [List.drop_of_length_le (by omega), List.drop_of_length_le (by omega)])
  clear h hS hll hk
  cases ht : textTake (l.take M) (most : Int) with
  | none =>
    have HT := Lib.hid fun q => (hT q).mono (fun _ _ hp => textPost_no ht hp)
    have e1 := txtR_none (l := l) (most := most) (by rw [hM]; exact ht)
    rw [hM] at e1
    rw [e1]
    have hw0 : IntKind.i64.wrap (k : Int) = (k : Int) := wrapi _ (by omega) (by omega)
    clear hT ht e1 hM
    go_enter Tryz.func138, Tryz.ntmps138
    go_wp2_with fail
    refine HN.out.mono ?_
    rintro e w1 ⟨rfl, q, rfl⟩
    go_wp2_with fail
    refine (HT.out q).mono ?_
    rintro e w2 ⟨A2, n2, c2, rfl, hf2, hb2⟩
    obtain rfl : n2 = 0 := by have := hf2.len; simpa using this.symm
    have hb3 : Below w.heap.size w w2 := bon (below_drewN (Below.refl _ _) q) hb2
    clear hf2 hb2
    go_wp2_with fail
    refine (HS.out w2 hb3 k hkn).mono ?_
    rintro e w3 ⟨rfl, A3, n3, c3, h3, b3⟩
    rw [HD.out] at h3
    go_wp2_with fail
    go_ret
    exact ⟨rfl, A3, n3, c3, h3, (Only.of hb3).trans b3⟩
  | some p =>
    obtain ⟨s, r⟩ := p
    have HT := Lib.hid fun q => (hT q).mono (fun _ _ hp => textPost_to ht hp)
    have e1 := txtR_some (l := l) (most := most) (by rw [hM]; exact ht)
    rw [hM, hkl] at e1
    rw [e1]
    have hrl := textTake_rest ht
    rw [hkl] at hrl
    obtain ⟨m, hm⟩ : ∃ m, k - r.length = m := ⟨_, rfl⟩
    obtain ⟨v, hv⟩ : ∃ v, r.length = v := ⟨_, rfl⟩
    rw [hm]
    have hw0 : IntKind.i64.wrap ((k : Int) - (v : Int)) = (m : Int) := by rw [wrapi _ (by omega) (by omega)]; omega
    have hmk : m ≤ n := by omega
    have HV := Lib.hid hv
    clear hT ht e1 hM hrl hm hv
    go_enter Tryz.func138, Tryz.ntmps138
    go_wp2_with fail
    refine HN.out.mono ?_
    rintro e w1 ⟨rfl, q, rfl⟩
    go_wp2_with fail
    refine (HT.out q).mono ?_
    rintro e w2 ⟨A2, n2, c2, rfl, hf2, hb2⟩
    obtain rfl : n2 = v := by have := hf2.len; have := HV.out; simp at *; omega
    have hb3 : Below w.heap.size w w2 := bon (below_drewN (Below.refl _ _) q) hb2
    have HC := Lib.hid (HS.out w2 hb3 m hmk)
    have HB3 := Lib.hid hb3
    clear hf2 hb2 hkn hb3
    go_wp2_with fail
    refine HC.out.mono ?_
    rintro e w3 ⟨rfl, A3, n3, c3, h3, b3⟩
    go_wp2_with fail
    go_ret
    exact ⟨rfl, A3, n3, c3, h3, (Only.of HB3.out).trans b3⟩

theorem run_upto {s : ByteArray} {k : Nat} (h : k ≤ s.size) (kl : IntKind) (W : World) : (Instr.slice 9 (.string s) none (some (.int kl (k : Int))) none).run Tryz.prog W = .ok (.string (takeS s k)) W := by
  refine (run_slice_string_h W 9 s Tryz.underlying9 kl (k : Int) (by omega) (by omega)).trans ?_
  rw [Int.toNat_natCast, Lib.Pa.extract_upto]; rfl
theorem numR_le (l : List UInt8) : (numR l).1 < 2 ^ 64 ∧ (numR l).2.length ≤ l.length := by
  unfold numR
  split
  · next x m h => exact ⟨(takeN_le h).2.2.2.1, by simp⟩
  · simp
theorem txtR_le (most : Nat) (l : List UInt8) : (txtR most l).1.length ≤ most ∧ (txtR most l).2.length ≤ l.length := by
  unfold txtR
  split
  · next s r h =>
    refine ⟨?_, by simp⟩
    unfold textTake at h
    split at h
    · next v m hv =>
      split at h
      · simp only [Option.some.injEq, Prod.mk.injEq] at h
        rw [← h.1, List.length_take]; omega
      · cases h
    · cases h
  · simp
theorem RrAt.small {w : World} {g n c N : Nat} {A : Option Addr} {l : List UInt8} (h : RrAt w g A n c l) (hl : l.length ≤ N) : n ≤ N := by have := h.len; omega

/-- The result's box. -/
theorem ret_en {fn : Func} {p : Tmp} {R : Ending → World → Prop} {a : Act} {w : World} {g : Nat} {x : Ent} (h : fn.results = #[.cell p 40]) (hd : a.defers = [])
    (hp : a.tmps.getD p undef = .pointer (some ⟨g, 0, none⟩)) (hg : EnAt w g x) (hR : R (.returned (en x.s x.q x.k x.v)) w) : bodyPost Tryz.prog fn R .ret a w :=
  bodyPost_ret (results_cell_row h a.tmps w g 40 _ (0, 0) _ hp hg.h Tryz.underlying40 rfl (by kernel_rfl)) hd hR
theorem EnAt.set4 {w : World} {b : Nat} {x y : Ent} (h : EnAt w b x) :
    EnAt ((((w.setCell ⟨b, 0, none⟩ (.string y.s)).setCell ⟨b, 1, none⟩ (.int .u64 (y.q : Int))).setCell ⟨b, 2, none⟩ (.int .u8 (y.k : Int))).setCell ⟨b, 3, none⟩ (.string y.v)) b y := by
  refine ⟨by have := h.lt; simpa [World.setCell] using this, ?_⟩
  simp only [World.setCell, Array.getElem?_modify, if_pos, h.h]
  rfl
theorem EnAt.set1 {w : World} {b : Nat} {x : Ent} (h : EnAt w b x) (v : ByteArray) : EnAt (w.setCell ⟨b, 3, none⟩ (.string v)) b { x with v := v } := by
  refine ⟨by have := h.lt; simpa [World.setCell] using this, ?_⟩
  simp only [World.setCell, Array.getElem?_modify, if_pos, h.h]
  rfl
theorem EnAt.only {w w' : World} {b g : Nat} {x : Ent} (h : EnAt w b x) (ho : Only g w w') (hne : b ≠ g) : EnAt w' b x :=
  ⟨by have := h.lt; have := ho.size; omega, by rw [ho.block b h.lt hne]; exact h.h⟩
end Go.Proofs.YtkdjjdkcogolmaaGreatDoor
end
