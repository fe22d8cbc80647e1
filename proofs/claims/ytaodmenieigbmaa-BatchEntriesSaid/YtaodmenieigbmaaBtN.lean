/-
  The entries of operations: the contracts of Entries, the program's and the reference's.
-/
import Derived.Test.YtaodmenieigbmaaBtR
namespace Go.Proofs.Ytaodmenieigbmaa
open Go.RowKit Go.Shelf

def entAt (f i : Nat) (x : Bop) : Ent := ⟨x.s, (f + i) % 18446744073709551616, x.k, x.v⟩
def entsL (L : List Bop) (f : Nat) : List Ent := L.mapIdx (entAt f)
theorem entsL_len (L : List Bop) (f : Nat) : (entsL L f).length = L.length := by simp [entsL]
theorem entsL_get (L : List Bop) (f i : Nat) : (entsL L f)[i]? = (L[i]?).map (entAt f i) := by simp [entsL]
theorem entsL_next {L : List Bop} {f k : Nat} {x : Bop} (hx : L[k]? = some x) : entsL (L.take (k + 1)) f = entsL (L.take k) f ++ [entAt f k x] := by
  have hk : k < L.length := by
    rcases Nat.lt_or_ge k L.length with h | h
    · exact h
    · rw [List.getElem?_eq_none h] at hx; cases hx
  rw [take_snoc_of hx]
  unfold entsL
  rw [List.mapIdx_concat, List.length_take, Nat.min_eq_left (by omega)]
theorem entsL_app (L M : List Bop) (f : Nat) : entsL (L ++ M) f = entsL L f ++ entsL M ((f + L.length) % 18446744073709551616) := by
  apply List.ext_getElem?
  intro i
  rcases Nat.lt_or_ge i L.length with h | h
  · rw [entsL_get, List.getElem?_append_left h, List.getElem?_append_left (by rw [entsL_len]; exact h), entsL_get]
  · rw [entsL_get, List.getElem?_append_right h, List.getElem?_append_right (by rw [entsL_len]; exact h), entsL_get, entsL_len]
    congr 1
    funext x
    unfold entAt
    congr 1
    omega

/-- A row of n entries, made by this program, of which the first are P. -/
structure MkE (w : World) (b g n : Nat) (P : List Ent) : Prop where
  own : ∃ zs, w.ownsRow b 46 4 (.slice (some ⟨g, 0, none⟩) n n) n (evs P ++ zs)
section
variable {w w' : World} {b g n : Nat} {P : List Ent}
theorem MkE.le (h : MkE w b g n P) : P.length ≤ n := by
  obtain ⟨zs, h⟩ := h.own
  have := h.1
  rw [List.length_append, evs_len] at this
  omega
theorem MkE.lt (h : MkE w b g n P) : b ≤ g ∧ g < w.heap.size := by
  obtain ⟨zs, h⟩ := h.own
  rcases h.2 with ⟨e, _⟩ | ⟨g', cap, cur, e, hg, hh, _⟩
  · simp at e
  · injection e with e1 e2 e3
    cases e1
    exact ⟨hg, (Array.getElem?_eq_some_iff.1 hh).1⟩
theorem MkE.done (h : MkE w b g n P) (hk : P.length = n) : FrE w b (some ⟨g, 0, none⟩) n n P := by
  obtain ⟨zs, h⟩ := h.own
  have h1 := h.1
  rw [List.length_append, evs_len] at h1
  obtain rfl : zs = [] := List.eq_nil_of_length_eq_zero (by omega)
  rw [List.append_nil] at h
  exact ⟨h⟩
theorem MkE.below (h : MkE w b g n P) (hb : Below w.heap.size w w') : MkE w' b g n P := by
  obtain ⟨zs, h⟩ := h.own
  refine ⟨zs, h.1, ?_⟩
  rcases h.2 with h2 | ⟨g, cap, cur, e, hg, hh, r⟩
  · exact .inl h2
  · exact .inr ⟨g, cap, cur, e, hg, (hb.block g (Array.getElem?_eq_some_iff.1 hh).1).trans hh, r⟩
theorem MkE.alloc (h : MkE w b g n P) (o : Obj) : MkE (w.alloc o) b g n P := by
  obtain ⟨zs, h⟩ := h.own
  exact ⟨zs, h.alloc o⟩
theorem MkE.cells (h : MkE w b g n P) {k : Nat} (hlt : k < n) : ∃ z0 z1 z2 z3, (w.cell? ⟨g, k * 4, none⟩ = some z0 ∧ w.cell? ⟨g, k * 4 + 1, none⟩ = some z1 ∧ w.cell? ⟨g, k * 4 + 2, none⟩ = some z2 ∧ w.cell? ⟨g, k * 4 + 3, none⟩ = some z3) ∧
    (w.frozen? ⟨g, k * 4, none⟩ = false ∧ w.frozen? ⟨g, k * 4 + 1, none⟩ = false ∧ w.frozen? ⟨g, k * 4 + 2, none⟩ = false ∧ w.frozen? ⟨g, k * 4 + 3, none⟩ = false) := by
  obtain ⟨zs, h⟩ := h.own
  have h1 := h.1
  have hadd : ∀ j, (⟨g, 0, none⟩ : Addr).add j = ⟨g, j, none⟩ := fun j => by unfold Addr.add; split <;> simp_all
  have hc : ∀ j, j < n * 4 → ∃ z, w.cell? ⟨g, j, none⟩ = some z := fun j hj => by
    have := h.cells (g := g) rfl j _ (List.getElem?_eq_getElem (by omega))
    rw [hadd] at this
    exact ⟨_, this⟩
  obtain ⟨z0, h0⟩ := hc (k * 4) (by omega)
  obtain ⟨z1, h1⟩ := hc (k * 4 + 1) (by omega)
  obtain ⟨z2, h2⟩ := hc (k * 4 + 2) (by omega)
  obtain ⟨z3, h3⟩ := hc (k * 4 + 3) (by omega)
  exact ⟨z0, z1, z2, z3, ⟨h0, h1, h2, h3⟩, h.frozenAt _, h.frozenAt _, h.frozenAt _, h.frozenAt _⟩
theorem set_next {T : Type} (a zs : List T) (i : Nat) (u : T) : (a ++ zs).set (a.length + i) u = a ++ zs.set i u := by
  rw [List.set_append_right _ _ (Nat.le_add_right _ _), Nat.add_sub_cancel_left]
theorem MkE.store (h : MkE w b g n P) {k : Nat} (hk : P.length = k) (hlt : k < n) (x : Ent) :
    MkE ((((w.setCell ⟨g, k * 4, none⟩ (.string x.s)).setCell ⟨g, k * 4 + 1, none⟩ (.int .u64 (x.q : Int))).setCell ⟨g, k * 4 + 2, none⟩ (.int .u8 (x.k : Int))).setCell ⟨g, k * 4 + 3, none⟩ (.string x.v)) b g n (P ++ [x]) := by
  obtain ⟨zs, h⟩ := h.own
  have h1 := h.1
  rw [List.length_append, evs_len] at h1
  have h2 := (((((h.stored (k * 4) (.string x.s)).1.stored (k * 4 + 1) (.int .u64 (x.q : Int))).1.stored (k * 4 + 2) (.int .u8 (x.k : Int))).1).stored (k * 4 + 3) (.string x.v)).1
  have he : (evs P).length = k * 4 := by rw [evs_len, hk]
  match zs, h1 with
  | z0 :: z1 :: z2 :: z3 :: zs, _ =>
    refine ⟨zs, ?_⟩
    have e := h2
    rw [← he, show (evs P).length = (evs P).length + 0 by omega] at e
    simp only [Nat.add_assoc, set_next, Nat.zero_add] at e
    rw [he] at e
    rw [evs_app, List.append_assoc]
    simpa [evs, ev, Nat.add_assoc] using e
  | [], h => simp at h; omega
  | [_], h => simp at h; omega
  | [_, _], h => simp at h; omega
  | [_, _, _], h => simp at h; omega
end
theorem below_set4 {B : Nat} {a w : World} (h : Below B a w) {b : Nat} (hb : B ≤ b) (i j k l : Nat) (u v x y : Value) :
    Below B a ((((w.setCell ⟨b, i, none⟩ u).setCell ⟨b, j, none⟩ v).setCell ⟨b, k, none⟩ x).setCell ⟨b, l, none⟩ y) := (((h.setCell hb _).setCell hb _).setCell hb _).setCell hb _

/-- A fresh row of entries comes back, and nothing that was there has turned. -/
def RetE (w : World) (L : List Ent) (e : Ending) (w' : World) : Prop :=
  ∃ A n c, e = .returned (.slice A n c) ∧ FrE w' w.heap.size A n c L ∧ Below w.heap.size w w'

set_option maxRecDepth 100000 in
set_option maxHeartbeats 4000000 in
theorem entries_c {w : World} {B n c : Nat} {A : Option Addr} {L : List Bop} (h : RdO w B A n c L) (hB : B ≤ w.heap.size) (hn : (n : Int) ≤ 100000) (f : Nat) :
    Calls Try.prog 21 #[.slice A n c, .int .u64 (f : Int)] w (RetE w (entsL L f)) := by
  have hl := h.len
  obtain ⟨i0, hi, hz0, hz1, hz2⟩ := info_parts info_en
  have HO := fun W (x : Bop) (q : Nat) => entryOf_c W x q
  unfold ov en at HO
  have HO := Lib.hid HO
  go_enter Try.func21, Try.ntmps21
  go_wp2_with (at_make; refine wpList_make_full _ rfl _ _ 39 rfl w.heap.size 46 i0 _ 4 Try.underlying39 hi hz0 hz1 .i64 .i64 _ _ n rfl rfl rfl rfl (by rw [hz2]; omega) (by unfold maxLen; omega) (Nat.le_refl _) ?_; intro w1 hown1 hg1; have hb1 : Below w.heap.size w w1 := (Below.refl _ w).grown hg1 (Nat.le_refl _) (fun k e => by cases e))
  have hm1 : MkE w1 w.heap.size w.heap.size n (entsL (L.take 0) f) := ⟨_, by simpa [entsL, evs] using hown1⟩
  clear hown1 hg1 hi hz0 hz1 hz2
  go_loopw [13] (fun iv wr => ∃ k : Nat, iv = .int .i64 (k : Int) ∧ k ≤ n ∧ MkE wr w.heap.size w.heap.size n (entsL (L.take k) f) ∧ Below w.heap.size w wr) (fun iv _ => ((n : Int) - intOf iv).toNat)
  case atStart => exact ⟨0, rfl, Nat.zero_le _, hm1, hb1⟩
  case round =>
    clear hm1 hb1
    obtain ⟨k, rfl, hkn, hm, hbr⟩ := hrel
    by_cases hlt : k < n
    · obtain ⟨b, off, hA, hbB, hcell⟩ := h.form (by omega)
      subst hA
      obtain ⟨x, hx⟩ : ∃ x, L[k]? = some x := ⟨L[k]'(by omega), List.getElem?_eq_getElem _⟩
      have hk (i : Nat) : wr.cell? ⟨b, i, none⟩ = w.cell? ⟨b, i, none⟩ := hbr.cell (by simp; omega)
      obtain ⟨x0, x1, x2⟩ := hcell k x hx
      rw [← hk] at x0 x1 x2
      have hki : (k : Int) < (n : Int) := by omega
      have hk0 : (0 : Int) ≤ (k : Int) := by omega
      have hw1 : IntKind.u64.wrap (k : Int) = (k : Int) := by rw [wrapu]; omega
      obtain ⟨Q, hQ, hQ2⟩ : ∃ Q : Nat, IntKind.u64.wrap ((f : Int) + (k : Int)) = (Q : Int) ∧ Q = (f + k) % 18446744073709551616 := ⟨_, by rw [wrapu]; omega, rfl⟩
      have HX := Lib.hid (entsL_next (f := f) hx)
      have HQ2 := Lib.hid hQ2
      have hkl : (entsL (L.take k) f).length = k := by rw [entsL_len, List.length_take]; omega
      have HKL := Lib.hid hkl
      have HO2 := Lib.hid (HO.out (wr.alloc (.cells #[.int .u8 (x.k : Int), .string x.s, .string x.v] 28)) x Q)
      have HBR := Lib.hid hbr
      clear hcell hk hx h hl hbr HO hQ2 hkl
      go_wp2_with fail
      refine HO2.out.mono ?_
      rintro e w4 ⟨rfl, hb4⟩
      have hm4 := (hm.alloc (.cells #[.int .u8 (x.k : Int), .string x.s, .string x.v] 28)).below hb4
      have hbw : Below w.heap.size w w4 := bon (blit HBR.out _) hb4
      obtain ⟨z0, z1, z2, z3, ⟨a0, a1, a2, a3⟩, g0, g1, g2, g3⟩ := hm4.cells hlt
      have hst := Lib.hid (hm4.store HKL.out hlt ⟨x.s, Q, x.k, x.v⟩)
      have HBW := Lib.hid hbw
      clear x0 x1 x2 HO2 hm hm4 hb4 hbw
      go_wp2_with fail
      go_roundw
      case rel =>
        refine ⟨k + 1, by simp, by omega, ?_, below_set4 HBW.out (Nat.le_refl _) _ _ _ _ _ _ _ _⟩
        rw [HX.out]
        unfold entAt
        rw [← HQ2.out]
        exact hst.out
      case measure => simp [intOf]; omega
    · have hki : ¬ (k : Int) < (n : Int) := by omega
      obtain rfl : k = n := by omega
      rw [List.take_of_length_le (by omega)] at hm
      have hf := hm.done (by rw [entsL_len]; exact hl)
      clear hm h hl HO
      go_wp2_with fail
      go_ret
      exact ⟨_, _, _, rfl, hf, hbr⟩

set_option maxRecDepth 100000 in
set_option maxHeartbeats 4000000 in
theorem refEntries_c {w : World} {B n c : Nat} {A : Option Addr} {L : List Bop} (h : RdO w B A n c L) (hB : B ≤ w.heap.size) (hn : (n : Int) ≤ 100000) (f : Nat) :
    Calls Try.prog 22 #[.slice A n c, .int .u64 (f : Int)] w (RetE w (entsL L f)) := by
  have hl := h.len
  go_enter Try.func22, Try.ntmps22
  go_wp2_with fail
  go_loopw [5, 6] (fun ov iv wr => ∃ (k : Nat) (A : Option Addr) (c : Nat), ov = .slice A k c ∧ iv = .int .i64 (k : Int) ∧ k ≤ n ∧ FrE wr w.heap.size A k c (entsL (L.take k) f) ∧ Below w.heap.size w wr) (fun _ iv _ => ((n : Int) - intOf iv).toNat)
  case atStart => exact ⟨0, none, 0, rfl, rfl, Nat.zero_le _, FrE.nil, Below.refl _ _⟩
  case round =>
    obtain ⟨k, A3, c3, rfl, rfl, hkn, hf, hbr⟩ := hrel
    by_cases hlt : k < n
    · obtain ⟨b, off, hA, hbB, hcell⟩ := h.form (by omega)
      subst hA
      obtain ⟨x, hx⟩ : ∃ x, L[k]? = some x := ⟨L[k]'(by omega), List.getElem?_eq_getElem _⟩
      obtain ⟨z0, z1, z2⟩ := hcell k x hx
      have SK : ∀ W, Below w.heap.size w W → (Below w.heap.size w W ∧ W.cell? ⟨b, off + k * 3, none⟩ = some (.int .u8 (x.k : Int)) ∧ W.cell? ⟨b, off + k * 3 + 1, none⟩ = some (.string x.s) ∧ W.cell? ⟨b, off + k * 3 + 2, none⟩ = some (.string x.v)) :=
        fun W hW => ⟨hW, (hW.cell (by simp; omega)).trans z0, (hW.cell (by simp; omega)).trans z1, (hW.cell (by simp; omega)).trans z2⟩
      have hki : (k : Int) < (n : Int) := by omega
      have hk0 : (0 : Int) ≤ (k : Int) := by omega
      have hw1 : IntKind.u64.wrap (k : Int) = (k : Int) := by rw [wrapu]; omega
      obtain ⟨Q, hQ, hQ2⟩ : ∃ Q : Nat, IntKind.u64.wrap ((f : Int) + (k : Int)) = (Q : Int) ∧ Q = (f + k) % 18446744073709551616 := ⟨_, by rw [wrapu]; omega, rfl⟩
      have HX := Lib.hid (entsL_next (f := f) hx)
      have HQ2 := Lib.hid hQ2
      have HSK := Lib.hid SK
      have hbs := hbr.size
      obtain ⟨_, x0, x1, x2⟩ := SK wr hbr
      have hfd : FrE wr.drew w.heap.size A3 k c3 (entsL (L.take k) f) := ⟨hf.own⟩
      have hr1 := (FrE.one wr.drew ⟨x.s, Q, x.k, x.v⟩ (b := 0) (g := wr.heap.size) rfl (Nat.zero_le _)).rd (Nat.le_refl _)
      clear SK z0 z1 z2 hcell hx h hl hf hQ2
      go_wp2_with fail
      go_region_held3 (fun w' => Below w.heap.size w w' ∧ w'.cell? ⟨b, off + k * 3, none⟩ = some (.int .u8 (x.k : Int)) ∧ w'.cell? ⟨b, off + k * 3 + 1, none⟩ = some (.string x.s) ∧ w'.cell? ⟨b, off + k * 3 + 2, none⟩ = some (.string x.v))
        ((first | assumption | exact HSK.out _ (by assumption) | exact HSK.out _ (Below.drew hbr) | exact HSK.out _ (blit (And.left (by assumption)) _)))
        (first | (have hH : Below w.heap.size w _ := And.left (by assumption); refine step_appE rfl (.tmp 13) (.tmp 35) rfl (hfd.alloc (.cells #[.string x.s, .int .u64 (Q : Int), .int .u8 (x.k : Int), .string x.v] 46)) (by rfl) hr1 (by rfl) (by omega) hH.size ?_; intro A5 c5 w5 hap5; have hb5 : Below w.heap.size w w5 := hH.trans hap5.below))
      clear x0 x1 x2 hr1 hfd
      go_wp2_with fail
      go_roundw
      case rel =>
        refine ⟨k + 1, A5, c5, rfl, by simp, by omega, ?_, hb5⟩
        rw [HX.out]
        unfold entAt
        rw [← HQ2.out]
        exact hap5.fr
      case measure => simp [intOf]; omega
    · have hki : ¬ (k : Int) < (n : Int) := by omega
      obtain rfl : k = n := by omega
      rw [List.take_of_length_le (by omega)] at hf
      clear h hl
      go_wp2_with fail
      go_ret
      exact ⟨_, _, _, rfl, hf, hbr⟩
end Go.Proofs.Ytaodmenieigbmaa
