/-
  The texts IkO, Ik7, in one.
-/
import Derived.Test.YtkdjjdkcogolmaaGreatDoorIk5
import Derived.WalkKit
import Derived.ProofKit
import Derived.OpenShut
import Derived.Deep.Slices
import Derived.Deep.Strs
import Derived.Deep.RegionHeld3
section
/-
  What comes in: an internal key by value; a slice of entries.
-/
namespace Go.Proofs.YtkdjjdkcogolmaaGreatDoor
set_option maxRecDepth 100000
open Go.RowKit Go.Shelf Go.ChangeShapes Go.WideShapes Go.ChangeAt Go.Deep

section
variable {H : Type} {enc : TypeId × Value → H} {w : World} {base : Nat} {spare : Nat → Bool} {held : Bool}
theorem ik_cells {fuel : Nat} {cs : List Value} {x : DataW H × List MemPlace} (h : DataW.trod enc Tryz.prog w base spare held fuel 26 cs = some x) :
    ∃ (s : ByteArray) (q k : Nat), cs = [.string s, .int .u64 (q : Int), .int .u8 (k : Int)] ∧ s.size ≤ maxLen ∧ (q : Int) ≤ 18446744073709551615 ∧ (k : Int) ≤ 255 := by
  obtain ⟨y0, y1, y2, n, _, hl, h0, h1, h2⟩ := trod_struct3 Tryz.underlying26 h
  have hc : Tryz.prog.cellsOf 26 = 3 := by kernel_rfl
  have hs : Tryz.prog.cellsOf 9 = 1 := by kernel_rfl
  have hu : Tryz.prog.cellsOf 22 = 1 := by kernel_rfl
  have hb : Tryz.prog.cellsOf 5 = 1 := by kernel_rfl
  rw [hc] at hl
  match cs, hl with
  | [c0, c1, c2], _ =>
    simp only [hs, hu, hb, List.drop_zero, List.drop_succ_cons, List.take_succ_cons, List.take_zero] at h0 h1 h2
    obtain ⟨s, e0, _, hs⟩ := DataW.trod_string Tryz.underlying9 h0
    obtain ⟨q, e1, _, hq⟩ := DataW.trod_int Tryz.underlying22 h1
    obtain ⟨k, e2, _, hk⟩ := DataW.trod_int Tryz.underlying5 h2
    cases e0; cases e1; cases e2
    have hq := bounds_u64 hq
    have hk := bounds_u8 hk
    obtain ⟨q, rfl⟩ := Int.eq_ofNat_of_zero_le hq.1
    obtain ⟨k, rfl⟩ := Int.eq_ofNat_of_zero_le hk.1
    exact ⟨s, q, k, rfl, hs, hq.2, hk.2⟩
theorem open_ik {r : Reach} {b0 : Nat} {v : Value} {d : DataW H} {p : List MemPlace} (hv : Value.okWide Tryz.prog w r b0 26 v) (h : DataW.Trod enc Tryz.prog w base spare held 26 v d p) :
    ∃ (s : ByteArray) (q k : Nat), v = ik s q k ∧ s.size ≤ maxLen ∧ (q : Int) ≤ 18446744073709551615 ∧ (k : Int) ≤ 255 := by
  obtain ⟨cs, rfl, hsz⟩ := okWide_struct Tryz.underlying26 hv
  obtain ⟨fuel, hf⟩ := h
  obtain ⟨s, q, k, hc, hb⟩ := ik_cells hf
  refine ⟨s, q, k, ?_, hb⟩
  simp only [Value.cells] at hc
  unfold ik
  rw [← hc]

theorem en_cells {fuel : Nat} {cs : List Value} {x : DataW H × List MemPlace} (h : DataW.trod enc Tryz.prog w base spare held fuel 40 cs = some x) :
    ∃ (s : ByteArray) (q k : Nat) (v : ByteArray), cs = [.string s, .int .u64 (q : Int), .int .u8 (k : Int), .string v] ∧ s.size ≤ maxLen ∧ (q : Int) ≤ 18446744073709551615 ∧ (k : Int) ≤ 255 ∧ v.size ≤ maxLen := by
  obtain ⟨xs, n, _, _, hl, _, hf⟩ := DataW.trod_struct Tryz.underlying40 h
  have h0 : DataW.trod enc Tryz.prog w base spare held n 26 ((cs.drop 0).take (Tryz.prog.cellsOf 26)) = xs[0]? := hf 0 _ rfl
  have h1 : DataW.trod enc Tryz.prog w base spare held n 9 ((cs.drop 3).take (Tryz.prog.cellsOf 9)) = xs[1]? := hf 1 _ rfl
  have hc : Tryz.prog.cellsOf 40 = 4 := by kernel_rfl
  have hs : Tryz.prog.cellsOf 9 = 1 := by kernel_rfl
  have hk : Tryz.prog.cellsOf 26 = 3 := by kernel_rfl
  rw [hc] at hl
  match cs, hl with
  | [c0, c1, c2, c3], _ =>
    rw [hk] at h0
    rw [hs] at h1
    have hx0 : ∃ y, xs[0]? = some y := by
      cases e : xs[0]? with
      | none => simp_all
      | some y => exact ⟨y, rfl⟩
    have hx1 : ∃ y, xs[1]? = some y := by
      cases e : xs[1]? with
      | none => simp_all
      | some y => exact ⟨y, rfl⟩
    obtain ⟨y0, hy0⟩ := hx0
    obtain ⟨y1, hy1⟩ := hx1
    obtain ⟨s, q, k, e0, b0⟩ := ik_cells (h0.trans hy0)
    obtain ⟨v, e1, _, b1⟩ := DataW.trod_string Tryz.underlying9 (h1.trans hy1)
    cases e0; cases e1
    exact ⟨s, q, k, v, rfl, b0.1, b0.2.1, b0.2.2, b1⟩
end

/-- An entry's parts. -/
structure Ent where
  s : ByteArray
  q : Nat
  k : Nat
  v : ByteArray

/-- The slice value '.slice A n c' reads as the entries L, in blocks below B. -/
structure RdE (w : World) (B : Nat) (A : Option Addr) (n c : Nat) (L : List Ent) : Prop where
  len : L.length = n
  cap : n ≤ c
  max : c ≤ maxLen
  nil : A = none → n = 0 ∧ c = 0
  form : 0 < n → ∃ b off, A = some ⟨b, off, none⟩ ∧ b < B ∧ ∀ i x, L[i]? = some x →
    w.cell? ⟨b, off + i * 4, none⟩ = some (.string x.s) ∧ w.cell? ⟨b, off + i * 4 + 1, none⟩ = some (.int .u64 (x.q : Int)) ∧ w.cell? ⟨b, off + i * 4 + 2, none⟩ = some (.int .u8 (x.k : Int)) ∧ w.cell? ⟨b, off + i * 4 + 3, none⟩ = some (.string x.v)
structure EntOk (x : Ent) : Prop where
  s : x.s.size ≤ maxLen
  q : (x.q : Int) ≤ 18446744073709551615
  k : (x.k : Int) ≤ 255
  v : x.v.size ≤ maxLen
theorem RdE.nilv {w : World} {B : Nat} : RdE w B none 0 0 [] := ⟨rfl, Nat.le_refl _, Nat.zero_le _, fun _ => ⟨rfl, rfl⟩, fun h => absurd h (by decide)⟩
theorem RdE.keep {w w' : World} {B n c : Nat} {A : Option Addr} {L : List Ent} (h : RdE w B A n c L) (hk : ∀ p : Addr, p.block < B → w'.cell? p = w.cell? p) : RdE w' B A n c L :=
  ⟨h.len, h.cap, h.max, h.nil, fun hn => by
    obtain ⟨b, off, e, hb, hc⟩ := h.form hn
    refine ⟨b, off, e, hb, fun i x hx => ?_⟩
    obtain ⟨h0, h1, h2, h3⟩ := hc i x hx
    exact ⟨(hk _ hb).trans h0, (hk _ hb).trans h1, (hk _ hb).trans h2, (hk _ hb).trans h3⟩⟩
theorem RdE.more {w : World} {B B' n c : Nat} {A : Option Addr} {L : List Ent} (h : RdE w B A n c L) (hB : B ≤ B') : RdE w B' A n c L :=
  ⟨h.len, h.cap, h.max, h.nil, fun hn => by obtain ⟨b, off, e, hb, hc⟩ := h.form hn; exact ⟨b, off, e, by omega, hc⟩⟩
theorem RdE.below {w w' : World} {B B' n c : Nat} {A : Option Addr} {L : List Ent} (h : RdE w B A n c L) (hb : Below B' w w') (hB : B ≤ B') : RdE w' B A n c L := h.keep fun _ hp => (hb.mono hB).cell hp

section
variable {H : Type} {enc : TypeId × Value → H} {w : World} {base : Nat} {spare : Nat → Bool} {held : Bool}
theorem open_ents {r : Reach} {b0 : Nat} {v : Value} {d : DataW H} {p : List MemPlace} (h : DataW.Trod enc Tryz.prog w base spare held 23 v d p) (hv : Value.okWide Tryz.prog w r b0 23 v) :
    ∃ (A : Option Addr) (n c : Nat) (L : List Ent), v = .slice A n c ∧ RdE w w.heap.size A n c L ∧ ∀ x ∈ L, EntOk x := by
  obtain ⟨A, n, c, rfl⟩ := okWide_slice Tryz.underlying23 hv
  obtain ⟨fuel, hf⟩ := h
  have hC : Tryz.prog.cellsOf 40 = 4 := by kernel_rfl
  rcases open_slice Tryz.underlying23 hf with ⟨hcs, _⟩ | ⟨a, len, cap, m, n', D, Pl, hcs, hb, hl, hm, hmm, hx, hi⟩
  · simp [Value.cells] at hcs
    obtain ⟨rfl, rfl, rfl⟩ := hcs
    exact ⟨none, 0, 0, [], rfl, RdE.nilv, fun x hx => by cases hx⟩
  · simp [Value.cells] at hcs
    obtain ⟨rfl, rfl, rfl⟩ := hcs
    have hle : n ≤ m := by rw [hmm]; split <;> omega
    have he : ∀ i, i < n → ∃ x : Ent, EntOk x ∧ w.cell? (a.add (i * 4)) = some (.string x.s) ∧ w.cell? (a.add (i * 4 + 1)) = some (.int .u64 (x.q : Int)) ∧ w.cell? (a.add (i * 4 + 2)) = some (.int .u8 (x.k : Int)) ∧ w.cell? (a.add (i * 4 + 3)) = some (.string x.v) := by
      intro i hin
      obtain ⟨cs', hc, ht⟩ := hi i (by omega)
      rw [hC] at hc
      obtain ⟨s, q, k, v, hcs, b1, b2, b3, b4⟩ := en_cells ht
      subst hcs
      obtain ⟨_, _, hat⟩ := World.cells?_some hc
      have a0 := hat 0 (by omega)
      have a1 := hat 1 (by omega)
      have a2 := hat 2 (by omega)
      have a3 := hat 3 (by omega)
      rw [add_of_add] at a0 a1 a2 a3
      exact ⟨⟨s, q, k, v⟩, ⟨b1, b2, b3, b4⟩, a0, a1, a2, a3⟩
    have hlen : ∀ x : Addr, 0 < n → ∃ v, w.cell? (a.add (0 * 4)) = some v := fun _ hn => by obtain ⟨x, _, h, _⟩ := he 0 hn; exact ⟨_, h⟩
    refine ⟨some a, n, c, (List.range n).map fun i => if hi : i < n then (he i hi).choose else ⟨⟨#[]⟩, 0, 0, ⟨#[]⟩⟩, rfl, ⟨by simp, hl, hm, fun e => (by cases e), fun hn => ?_⟩, ?_⟩
    · obtain ⟨b, off, spot⟩ := a
      obtain ⟨v0, h0⟩ := hlen ⟨b, off, spot⟩ hn
      have hs : spot = none := by
        cases spot with
        | none => rfl
        | some s => simp [Addr.add, World.cell?] at h0; split at h0 <;> simp at h0
      subst hs
      have hlt : b < w.heap.size := by
        have := World.block_lt_of_cell? w _ h0
        rwa [block_of_add] at this
      refine ⟨b, off, rfl, hlt, fun i x hx => ?_⟩
      rw [List.getElem?_map] at hx
      by_cases hin : i < n
      · rw [List.getElem?_range hin] at hx
        simp only [Option.map_some, hin, dif_pos, Option.some.injEq] at hx
        subst hx
        have := (he i hin).choose_spec
        have hadd : ∀ j, (⟨b, off, none⟩ : Addr).add j = ⟨b, off + j, none⟩ := fun j => by unfold Addr.add; split <;> simp_all
        simpa only [hadd, Nat.add_assoc] using this.2
      · rw [List.getElem?_eq_none (by simpa using hin)] at hx; cases hx
    · intro x hx
      obtain ⟨i, hi', rfl⟩ := List.mem_map.1 hx
      have hin : i < n := by simpa using hi'
      simp only [hin, dif_pos]
      exact (he i hin).choose_spec.1
theorem open_bytes {r : Reach} {b0 : Nat} {v : Value} {d : DataW H} {p : List MemPlace} (h : DataW.Trod enc Tryz.prog w base (fun _ => true) held 24 v d p) (hv : Value.okWide Tryz.prog w r b0 24 v) :
    ∃ (A : Option Addr) (n c : Nat) (l : List UInt8), v = .slice A n c ∧ l.length = n ∧ Rd w w.heap.size A n c (bv l) := by
  obtain ⟨A, n, c, rfl⟩ := okWide_slice Tryz.underlying24 hv
  obtain ⟨fuel, hf⟩ := h
  rcases open_ints Tryz.underlying24 Tryz.underlying5 (by kernel_rfl) hf with ⟨hcs, _⟩ | ⟨x, l, c', zs, hcs, _, hl, hm, hz, _, hcell, hwz⟩
  · simp [Value.cells] at hcs
    obtain ⟨rfl, rfl, rfl⟩ := hcs
    exact ⟨none, 0, 0, [], rfl, rfl, Rd.nilv⟩
  · simp [Value.cells] at hcs
    obtain ⟨rfl, rfl, rfl⟩ := hcs
    obtain ⟨l, hl', hR⟩ := rd_of_row (w := w) (a := some x) (len := n) (cap := c) (zs := zs) (.inr ⟨_, rfl, hl, hm, by simpa using hz, hcell, hwz⟩)
    exact ⟨_, _, _, l, rfl, hl', hR⟩
end
end Go.Proofs.YtkdjjdkcogolmaaGreatDoor
end

section
/-
  Lists of entries: what rises, and what is few: the contracts of Rising, the program's and the reference's, and of Few.
-/
namespace Go.Proofs.YtkdjjdkcogolmaaGreatDoor
set_option maxRecDepth 100000
open Go.RowKit Go.Shelf

theorem wrapi (x : Int) (h0 : -9223372036854775808 ≤ x) (h1 : x ≤ 9223372036854775807) : IntKind.i64.wrap x = x := by
  simp [IntKind.wrap, IntKind.bits, IntKind.signed]; omega
def cmpE (a b : Ent) : Int := cmpV a.s a.q a.k b.s b.q b.k
def risB : List Ent → Bool
  | a :: b :: r => decide (cmpE a b < 0) && risB (b :: r)
  | _ => true
theorem risB_iff : ∀ L : List Ent, risB L = true ↔ ∀ i a b, L[i]? = some a → L[i + 1]? = some b → cmpE a b < 0
  | [] => by simp [risB]
  | [x] => by simp [risB]
  | x :: y :: r => by
    have ih := risB_iff (y :: r)
    simp only [risB, Bool.and_eq_true, decide_eq_true_eq, ih]
    constructor
    · rintro ⟨h0, h1⟩ i a b ha hb
      cases i with
      | zero => simp at ha hb; subst ha; subst hb; exact h0
      | succ i => exact h1 i a b (by simpa using ha) (by simpa using hb)
    · intro h
      exact ⟨h 0 x y rfl rfl, fun i a b ha hb => h (i + 1) a b (by simpa using ha) (by simpa using hb)⟩

set_option maxRecDepth 100000 in
set_option maxHeartbeats 2000000 in
theorem rising_c {w : World} {B n c : Nat} {A : Option Addr} {L : List Ent} (h : RdE w B A n c L) (hB : B ≤ w.heap.size) (hn : (n : Int) ≤ 70368744000000) :
    Calls Tryz.prog 47 #[.slice A n c] w (RetVl w (.bool (risB L))) := by
  have hl := h.len
  have HI := Lib.hid (risB_iff L)
  have HC := fun W (a b : Ent) => compare_c W a.s b.s a.q a.k b.q b.k
  unfold ik at HC
  have HC := Lib.hid HC
  have HL := Lib.hid hl
  go_enter Tryz.func47, Tryz.ntmps47
  go_wp2_with fail
  go_loopw [3] (fun iv wr => ∃ k : Nat, iv = .int .i64 (k : Int) ∧ 1 ≤ k ∧ (k ≤ n ∨ k = 1) ∧ (∀ i a b, i + 1 < k → L[i]? = some a → L[i + 1]? = some b → cmpE a b < 0) ∧ Below w.heap.size w wr) (fun iv _ => ((n : Int) - intOf iv).toNat)
  case atStart => exact ⟨1, rfl, by omega, .inr rfl, fun i a b hi => by omega, Below.refl _ _⟩
  case round =>
    obtain ⟨k, rfl, hk1, hkn, hall, hbr⟩ := hrel
    by_cases hlt : k < n
    · obtain ⟨j, hj⟩ : ∃ j, k = j + 1 := ⟨k - 1, by omega⟩
      obtain ⟨b, off, hA, hbB, hcell⟩ := h.form (by omega)
      subst hA
      obtain ⟨x, hx⟩ : ∃ x, L[j]? = some x := ⟨L[j]'(by omega), List.getElem?_eq_getElem _⟩
      obtain ⟨y, hy⟩ : ∃ y, L[k]? = some y := ⟨L[k]'(by omega), List.getElem?_eq_getElem _⟩
      have hk (i : Nat) : wr.cell? ⟨b, i, none⟩ = w.cell? ⟨b, i, none⟩ := hbr.cell (by simp; omega)
      obtain ⟨x0, x1, x2, _⟩ := hcell j x hx
      obtain ⟨y0, y1, y2, _⟩ := hcell k y hy
      rw [← hk] at x0 x1 x2 y0 y1 y2
      have hki : (k : Int) < (n : Int) := by omega
      have hji : (0 : Int) ≤ (j : Int) := by omega
      have hjn : (j : Int) < (n : Int) := by omega
      have hk0 : (0 : Int) ≤ (k : Int) := by omega
      have hw : IntKind.i64.wrap ((k : Int) - 1) = (j : Int) := by rw [wrapi _ (by omega) (by omega)]; omega
      have HC2 := Lib.hid (HC.out wr.drew x y)
      have hbw : b < wr.drew.heap.size := (by have := hbr.size; omega : b < wr.heap.size)
      have HB := Lib.hid hbw
      have HX := Lib.hid hx
      have HY := Lib.hid hy
      have HK := Lib.hid hj
      have HBR := Lib.hid hbr
      have HALL := Lib.hid hall
      clear hbw hcell hk hx hy hj hk1 hkn hall h hl hbr HC
      go_wp2_with fail
      go_region_held3 (fun w' => w'.cell? ⟨b, off + j * 4, none⟩ = some (.string x.s) ∧ w'.cell? ⟨b, off + j * 4 + 1, none⟩ = some (.int .u64 (x.q : Int)) ∧ w'.cell? ⟨b, off + j * 4 + 2, none⟩ = some (.int .u8 (x.k : Int)) ∧ w'.cell? ⟨b, off + k * 4, none⟩ = some (.string y.s) ∧ w'.cell? ⟨b, off + k * 4 + 1, none⟩ = some (.int .u64 (y.q : Int)) ∧ w'.cell? ⟨b, off + k * 4 + 2, none⟩ = some (.int .u8 (y.k : Int))) (go_keep)
        ((go_at_call 42; refine HC2.out.mono ?_; rintro e w2 ⟨rfl, hb2⟩; have hk2 := (fun (i : Nat) => hb2.cell (p := ⟨b, i, none⟩) HB.out); have z0 := (hk2 _).trans x0; have z1 := (hk2 _).trans x1; have z2 := (hk2 _).trans x2; have z3 := (hk2 _).trans y0; have z4 := (hk2 _).trans y1; have z5 := (hk2 _).trans y2; clear hk2 x0 x1 x2 y0 y1 y2))
      have hcv : cmpV x.s x.q x.k y.s y.q y.k = cmpE x y := rfl
      rw [hcv]
      generalize hce : cmpE x y = cv at *
      have HCE := Lib.hid hce
      have hb3 : Below w.heap.size w w2 := (HBR.out.trans (below_drewN (Below.refl _ _) 1)).trans (hb2.mono HBR.out.size)
      clear hcv hce hb2 z0 z1 z2 z3 z4 z5
      by_cases hneg : cv < 0
      · have hd : decide (0 ≤ cv) = false := by simp; omega
        go_wp2_with fail
        go_roundw
        case rel =>
          refine ⟨k + 1, by simp, by omega, .inl (by omega), fun i a b' hi ha hb' => ?_, hb3⟩
          rcases Nat.lt_or_ge (i + 1) k with h1 | h1
          · exact HALL.out i a b' h1 ha hb'
          · have hij : i = j := by have := HK.out; omega
            subst hij
            rw [HX.out] at ha
            rw [← HK.out, HY.out] at hb'
            cases ha; cases hb'
            rw [HCE.out]; exact hneg
        case measure => simp [intOf]; omega
      · have hd : decide (0 ≤ cv) = true := by simp; omega
        have hno : risB L = false := by
          cases hr : risB L with
          | false => rfl
          | true =>
            have := HI.out.1 hr j x y HX.out (by rw [← HK.out]; exact HY.out)
            rw [HCE.out] at this
            exact absurd this hneg
        have HNO := Lib.hid hno
        clear hno
        go_wp2_with fail
        go_ret
        exact RetVl.bool HNO.out.symm hb3
    · have hki : ¬ (k : Int) < (n : Int) := by omega
      have hyes : risB L = true := HI.out.2 fun i a b' ha hb' => by
        have : i + 1 < n := by
          rcases Nat.lt_or_ge (i + 1) L.length with h1 | h1
          · rw [HL.out] at h1; exact h1
          · rw [List.getElem?_eq_none h1] at hb'; cases hb'
        exact hall i a b' (by omega) ha hb'
      have HY := Lib.hid hyes
      clear hyes hall h hl HC
      go_wp2_with fail
      go_ret
      exact RetVl.bool HY.out.symm hbr
set_option maxRecDepth 100000 in
set_option maxHeartbeats 2000000 in
theorem refRising_c {w : World} {B n c : Nat} {A : Option Addr} {L : List Ent} (h : RdE w B A n c L) (hB : B ≤ w.heap.size) (hn : (n : Int) ≤ 70368744000000) :
    Calls Tryz.prog 55 #[.slice A n c] w (RetVl w (.bool (risB L))) := by
  have hl := h.len
  have HI := Lib.hid (risB_iff L)
  have HC := fun W (a b : Ent) => refCompare_c W a.s b.s a.q a.k b.q b.k
  unfold ik at HC
  have HC := Lib.hid HC
  have HL := Lib.hid hl
  go_enter Tryz.func55, Tryz.ntmps55
  go_wp2_with fail
  go_loopw [3] (fun iv wr => ∃ k : Nat, iv = .int .i64 (k : Int) ∧ 1 ≤ k ∧ (k ≤ n ∨ k = 1) ∧ (∀ i a b, i + 1 < k → L[i]? = some a → L[i + 1]? = some b → cmpE a b < 0) ∧ Below w.heap.size w wr) (fun iv _ => ((n : Int) - intOf iv).toNat)
  case atStart => exact ⟨1, rfl, by omega, .inr rfl, fun i a b hi => by omega, Below.refl _ _⟩
  case round =>
    obtain ⟨k, rfl, hk1, hkn, hall, hbr⟩ := hrel
    by_cases hlt : k < n
    · obtain ⟨j, hj⟩ : ∃ j, k = j + 1 := ⟨k - 1, by omega⟩
      obtain ⟨b, off, hA, hbB, hcell⟩ := h.form (by omega)
      subst hA
      obtain ⟨x, hx⟩ : ∃ x, L[j]? = some x := ⟨L[j]'(by omega), List.getElem?_eq_getElem _⟩
      obtain ⟨y, hy⟩ : ∃ y, L[k]? = some y := ⟨L[k]'(by omega), List.getElem?_eq_getElem _⟩
      have hk (i : Nat) : wr.cell? ⟨b, i, none⟩ = w.cell? ⟨b, i, none⟩ := hbr.cell (by simp; omega)
      obtain ⟨x0, x1, x2, _⟩ := hcell j x hx
      obtain ⟨y0, y1, y2, _⟩ := hcell k y hy
      rw [← hk] at x0 x1 x2 y0 y1 y2
      have hki : (k : Int) < (n : Int) := by omega
      have hji : (0 : Int) ≤ (j : Int) := by omega
      have hjn : (j : Int) < (n : Int) := by omega
      have hk0 : (0 : Int) ≤ (k : Int) := by omega
      have hw : IntKind.i64.wrap ((k : Int) - 1) = (j : Int) := by rw [wrapi _ (by omega) (by omega)]; omega
      have HC2 := Lib.hid (HC.out wr.drew x y)
      have hbw : b < wr.drew.heap.size := (by have := hbr.size; omega : b < wr.heap.size)
      have HB := Lib.hid hbw
      have HX := Lib.hid hx
      have HY := Lib.hid hy
      have HK := Lib.hid hj
      have HBR := Lib.hid hbr
      have HALL := Lib.hid hall
      clear hbw hcell hk hx hy hj hk1 hkn hall h hl hbr HC
      go_wp2_with fail
      go_region_held3 (fun w' => w'.cell? ⟨b, off + j * 4, none⟩ = some (.string x.s) ∧ w'.cell? ⟨b, off + j * 4 + 1, none⟩ = some (.int .u64 (x.q : Int)) ∧ w'.cell? ⟨b, off + j * 4 + 2, none⟩ = some (.int .u8 (x.k : Int)) ∧ w'.cell? ⟨b, off + k * 4, none⟩ = some (.string y.s) ∧ w'.cell? ⟨b, off + k * 4 + 1, none⟩ = some (.int .u64 (y.q : Int)) ∧ w'.cell? ⟨b, off + k * 4 + 2, none⟩ = some (.int .u8 (y.k : Int))) (go_keep)
        ((go_at_call 43; refine HC2.out.mono ?_; rintro e w2 ⟨rfl, hb2⟩; have hk2 := (fun (i : Nat) => hb2.cell (p := ⟨b, i, none⟩) HB.out); have z0 := (hk2 _).trans x0; have z1 := (hk2 _).trans x1; have z2 := (hk2 _).trans x2; have z3 := (hk2 _).trans y0; have z4 := (hk2 _).trans y1; have z5 := (hk2 _).trans y2; clear hk2 x0 x1 x2 y0 y1 y2))
      have hcv : cmpV x.s x.q x.k y.s y.q y.k = cmpE x y := rfl
      rw [hcv]
      generalize hce : cmpE x y = cv at *
      have HCE := Lib.hid hce
      have hb3 : Below w.heap.size w w2 := (HBR.out.trans (below_drewN (Below.refl _ _) 1)).trans (hb2.mono HBR.out.size)
      clear hcv hce hb2 z0 z1 z2 z3 z4 z5
      by_cases hneg : cv < 0
      · have hd : decide (0 ≤ cv) = false := by simp; omega
        go_wp2_with fail
        go_roundw
        case rel =>
          refine ⟨k + 1, by simp, by omega, .inl (by omega), fun i a b' hi ha hb' => ?_, hb3⟩
          rcases Nat.lt_or_ge (i + 1) k with h1 | h1
          · exact HALL.out i a b' h1 ha hb'
          · have hij : i = j := by have := HK.out; omega
            subst hij
            rw [HX.out] at ha
            rw [← HK.out, HY.out] at hb'
            cases ha; cases hb'
            rw [HCE.out]; exact hneg
        case measure => simp [intOf]; omega
      · have hd : decide (0 ≤ cv) = true := by simp; omega
        have hno : risB L = false := by
          cases hr : risB L with
          | false => rfl
          | true =>
            have := HI.out.1 hr j x y HX.out (by rw [← HK.out]; exact HY.out)
            rw [HCE.out] at this
            exact absurd this hneg
        have HNO := Lib.hid hno
        clear hno
        go_wp2_with fail
        go_ret
        exact RetVl.bool HNO.out.symm hb3
    · have hki : ¬ (k : Int) < (n : Int) := by omega
      have hyes : risB L = true := HI.out.2 fun i a b' ha hb' => by
        have : i + 1 < n := by
          rcases Nat.lt_or_ge (i + 1) L.length with h1 | h1
          · rw [HL.out] at h1; exact h1
          · rw [List.getElem?_eq_none h1] at hb'; cases hb'
        exact hall i a b' (by omega) ha hb'
      have HY := Lib.hid hyes
      clear hyes hall h hl HC
      go_wp2_with fail
      go_ret
      exact RetVl.bool HY.out.symm hbr

def smallB (x : Ent) : Bool := decide (x.s.size ≤ 70) && decide (x.v.size ≤ 300)
def fewB (L : List Ent) (most : Int) : Bool := L.all smallB && decide ((L.length : Int) ≤ most)

set_option maxRecDepth 100000 in
set_option maxHeartbeats 2000000 in
theorem few_c {w : World} {B n c : Nat} {A : Option Addr} {L : List Ent} (h : RdE w B A n c L) (hB : B ≤ w.heap.size) (most : Int) :
    Calls Tryz.prog 5 #[.slice A n c, .int .i64 most] w (RetVl w (.bool (fewB L most))) := by
  have hl := h.len
  have hcap := h.cap
  have hmax := h.max
  have hm : (n : Int) ≤ 9223372036854775807 := by have : maxLen ≤ 9223372036854775807 := by decide
                                                  omega
  go_enter Tryz.func5, Tryz.ntmps5
  go_wp2_with fail
  clear hcap hmax
  go_loopw [9] (fun iv wr => ∃ k : Nat, iv = .int .i64 (k : Int) ∧ k ≤ n ∧ (∀ i a, i < k → L[i]? = some a → smallB a = true) ∧ Below w.heap.size w wr) (fun iv _ => ((n : Int) - intOf iv).toNat)
  case atStart => exact ⟨0, rfl, by omega, fun i a hi => by omega, Below.refl _ _⟩
  case round =>
    obtain ⟨k, rfl, hkn, hall, hbr⟩ := hrel
    by_cases hlt : k < n
    · obtain ⟨b, off, hA, hbB, hcell⟩ := h.form (by omega)
      subst hA
      obtain ⟨x, hx⟩ : ∃ x, L[k]? = some x := ⟨L[k]'(by omega), List.getElem?_eq_getElem _⟩
      have hk (i : Nat) : wr.cell? ⟨b, i, none⟩ = w.cell? ⟨b, i, none⟩ := hbr.cell (by simp; omega)
      obtain ⟨x0, x1, x2, x3⟩ := hcell k x hx
      rw [← hk] at x0 x1 x2 x3
      have hki : (k : Int) < (n : Int) := by omega
      have hk0 : (0 : Int) ≤ (k : Int) := by omega
      have HX := Lib.hid hx
      have HALL := Lib.hid hall
      have hb3 := hbr.alloc hbr.size (.cells #[.string x.s, .int .u64 (x.q : Int), .int .u8 (x.k : Int), .string x.v] 40)
      have hsm : ∀ b, b = smallB x → (if x.s.size ≤ 70 then decide (x.v.size ≤ 300) else false) = b := fun b hb => by subst hb; unfold smallB; by_cases h1 : x.s.size ≤ 70 <;> simp [h1]
      have HSM := Lib.hid hsm
      have HBR := Lib.hid hbr
      clear hcell hk hx hkn hall h hl hbr hsm
      by_cases h1 : x.s.size ≤ 70
      · have d1 : decide ((70 : Int) < (x.s.size : Int)) = false := by simp; omega
        have d2 : decide (70 < x.s.size) = false := by simp; omega
        by_cases h2 : x.v.size ≤ 300
        · have d3 : decide ((300 : Int) < (x.v.size : Int)) = false := by simp; omega
          have d4 : decide (300 < x.v.size) = false := by simp; omega
          go_wp2_with fail
          go_roundw
          case rel =>
            refine ⟨k + 1, by simp, by omega, fun i a hi ha => ?_, hb3⟩
            rcases Nat.lt_or_ge i k with h3 | h3
            · exact HALL.out i a h3 ha
            · obtain rfl : i = k := by omega
              rw [HX.out] at ha
              cases ha
              simp [smallB, h1, h2]
          case measure => simp [intOf]; omega
        · have d3 : decide ((300 : Int) < (x.v.size : Int)) = true := by simp; omega
          have d4 : decide (300 < x.v.size) = true := by simp; omega
          have hno : fewB L most = false := by
            have : L.all smallB = false := by
              rw [List.all_eq_false]
              exact ⟨x, List.mem_of_getElem? HX.out, by simp [smallB, h2]⟩
            simp [fewB, this]
          have HNO := Lib.hid hno
          clear hno
          go_wp2_with fail
          go_ret
          exact RetVl.bool HNO.out.symm hb3
      · have d1 : decide ((70 : Int) < (x.s.size : Int)) = true := by simp; omega
        have d2 : decide (70 < x.s.size) = true := by simp; omega
        have hno : fewB L most = false := by
          have : L.all smallB = false := by
            rw [List.all_eq_false]
            exact ⟨x, List.mem_of_getElem? HX.out, by simp [smallB, h1]⟩
          simp [fewB, this]
        have HNO := Lib.hid hno
        clear hno
        go_wp2_with fail
        go_ret
        exact RetVl.bool HNO.out.symm hb3
    · have hki : ¬ (k : Int) < (n : Int) := by omega
      have hyes : L.all smallB = true := by
        rw [List.all_eq_true]
        intro x hx
        obtain ⟨i, hi⟩ := List.getElem?_of_mem hx
        have : i < n := by
          rcases Nat.lt_or_ge i L.length with h1 | h1
          · rw [hl] at h1; exact h1
          · rw [List.getElem?_eq_none h1] at hi; cases hi
        exact hall i x (by omega) hi
      have hfin : fewB L most = decide ((n : Int) ≤ most) := by simp [fewB, hyes, hl]
      have HF := Lib.hid hfin
      clear hfin hyes hall h hl
      go_wp2_with fail
      all_goals go_ret
      all_goals exact RetVl.bool (by rw [HF.out]) hbr
end Go.Proofs.YtkdjjdkcogolmaaGreatDoor
end
