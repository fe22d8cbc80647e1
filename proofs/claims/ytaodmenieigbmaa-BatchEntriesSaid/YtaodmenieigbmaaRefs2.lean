/-
  Contracts: the reference's TakeFour, Take, TakeText, PutText.
-/
import Derived.Test.YtaodmenieigbmaaRefs
import Derived.Test.YtaodmenieigbmaaShort2
import Derived.LoopN
namespace Go.Proofs.Ytaodmenieigbmaa
open Go.RowKit

/-- What bytes say, eight bits each, the lowest first. -/
def leV : List UInt8 → Nat
  | [] => 0
  | c :: l => c.toNat + 256 * leV l

theorem tup3 {k : IntKind} {a b : Int} {y z : Value} (h : a = b) : Ending.returned (.tuple #[.int k a, y, z]) = .returned (.tuple #[.int k b, y, z]) := by rw [h]

/-- A tuple of a number, a fresh row of bytes, and a bool. -/
def RetNB (w : World) (k : IntKind) (x : Nat) (l : List UInt8) (ok : Bool) (e : Ending) (w' : World) : Prop :=
  ∃ A n c, e = .returned (.tuple #[.int k (x : Int), .slice A n c, .bool ok]) ∧ Fr w' w.heap.size 5 A n c (bv l) ∧ Below w.heap.size w w'

theorem four_form {l : List UInt8} (h : 4 ≤ l.length) : ∃ x0 x1 x2 x3 r, l = x0 :: x1 :: x2 :: x3 :: r := by
  match l, h with
  | x0 :: x1 :: x2 :: x3 :: r, _ => exact ⟨_, _, _, _, _, rfl⟩
/-- The first four cells of a row. -/
structure Four (w : World) (b off : Nat) (x0 x1 x2 x3 : UInt8) : Prop where
  c0 : w.cell? ⟨b, off, none⟩ = some (.int .u8 (x0.toNat : Int))
  c1 : w.cell? ⟨b, off + 1, none⟩ = some (.int .u8 (x1.toNat : Int))
  c2 : w.cell? ⟨b, off + 2, none⟩ = some (.int .u8 (x2.toNat : Int))
  c3 : w.cell? ⟨b, off + 3, none⟩ = some (.int .u8 (x3.toNat : Int))
theorem Rd.four {w : World} {B n c : Nat} {A : Option Addr} {x0 x1 x2 x3 : UInt8} {r : List UInt8} (h : Rd w B A n c (bv (x0 :: x1 :: x2 :: x3 :: r))) : ∃ b off, A = some ⟨b, off, none⟩ ∧ Four w b off x0 x1 x2 x3 := by
  obtain ⟨b, off, rfl, _, hc⟩ := h.form (by have := h.len; simp at this; omega)
  exact ⟨b, off, rfl, hc 0 _ rfl, hc 1 _ rfl, hc 2 _ rfl, hc 3 _ rfl⟩

/-! ## The reference's Take -/
def TakePost (w : World) (l : List UInt8) (e : Ending) (w' : World) : Prop :=
  match takeN l with
  | some (v, m) => RetNB w .u64 v (l.drop m) true e w'
  | none => RetNB w .u64 0 [] false e w'
theorem TakePost.some {w : World} {l : List UInt8} {v m : Nat} {e : Ending} {w' : World} (h : takeN l = some (v, m)) (hp : RetNB w .u64 v (l.drop m) true e w') : TakePost w l e w' := by
  simp only [TakePost, h]; exact hp
theorem TakePost.none {w : World} {l : List UInt8} {e : Ending} {w' : World} (h : takeN l = none) (hp : RetNB w .u64 0 [] false e w') : TakePost w l e w' := by
  simp only [TakePost, h]; exact hp

structure TkRel (l : List UInt8) (n k X Y : Nat) : Prop where
  kn : k ≤ n
  k10 : k ≤ 10
  x : X = valL (l.take k) % 2 ^ 64
  y : Y = 128 ^ k % 2 ^ 64
  hall : ∀ i c, i < k → l[i]? = some c → 128 ≤ c.toNat

theorem wrapu (x : Int) : IntKind.u64.wrap x = x % 18446744073709551616 := by
  simp [IntKind.wrap, IntKind.bits, IntKind.signed]

theorem TkRel.xnext {l : List UInt8} {n k X Y : Nat} (h : TkRel l n k X Y) {c : UInt8} (hc : l[k]? = some c) :
    IntKind.u64.wrap ((X : Int) + IntKind.u64.wrap ((c.toNat : Int) % 128 * (Y : Int))) = ((valL (l.take (k + 1)) % 2 ^ 64 : Nat) : Int) := by
  have hk : k < l.length := by
    rcases Nat.lt_or_ge k l.length with h | h
    · exact h
    · rw [List.getElem?_eq_none h] at hc; cases hc
  rw [take_snoc' hc, valL_snoc, List.length_take, Nat.min_eq_left (by omega), wrapu, wrapu, h.x, h.y]
  have key : ∀ V M D : Nat, (V % 18446744073709551616 + (D * (M % 18446744073709551616)) % 18446744073709551616) % 18446744073709551616 = (V + M * D) % 18446744073709551616 := by
    intro V M D
    rw [Nat.mul_mod_mod, ← Nat.add_mod, Nat.mul_comm]
  have := congrArg (fun t : Nat => (t : Int)) (key (valL (l.take k)) (128 ^ k) (c.toNat % 128))
  refine Eq.trans ?_ this
  simp
  rw [Int.add_emod, Int.mul_emod, ← Int.mul_emod, ← Int.add_emod, Int.add_emod, Int.mul_emod, Int.emod_emod, ← Int.mul_emod, ← Int.add_emod]

theorem TkRel.ynext {l : List UInt8} {n k X Y : Nat} (h : TkRel l n k X Y) : IntKind.u64.wrap ((Y : Int) * 128) = ((128 ^ (k + 1) % 2 ^ 64 : Nat) : Int) := by
  rw [wrapu, h.y, show (128 : Nat) ^ (k + 1) = 128 ^ k * 128 from rfl, show (2 : Nat) ^ 64 = 18446744073709551616 from rfl]
  simp
  rw [Int.mul_emod, Int.emod_emod, ← Int.mul_emod]

theorem TkRel.next {l : List UInt8} {n k X Y : Nat} (h : TkRel l n k X Y) {c : UInt8} (hl : l.length = n) (hc : l[k]? = some c) (h8 : 128 ≤ c.toNat) (hk : k < 10) :
    TkRel l n (k + 1) (valL (l.take (k + 1)) % 2 ^ 64) (128 ^ (k + 1) % 2 ^ 64) := by
  have hkn : k < l.length := by
    rcases Nat.lt_or_ge k l.length with h | h
    · exact h
    · rw [List.getElem?_eq_none h] at hc; cases hc
  refine ⟨by omega, by omega, rfl, rfl, fun i d hi hd => ?_⟩
  by_cases e : i = k
  · subst e; rw [hc] at hd; cases hd; exact h8
  · exact h.hall i d (by omega) hd

set_option maxRecDepth 100000 in
set_option maxHeartbeats 1000000 in
theorem refTake_c {w : World} {B n c : Nat} {A : Option Addr} {l : List UInt8} (h : Rd w B A n c (bv l)) (hBw : B ≤ w.heap.size) (hn : n ≤ 70368744177664) :
    Calls Try.prog 36 #[.slice A n c] w (TakePost w l) := by
  have hl : l.length = n := by simpa using h.len
  have H := Lib.hid h
  have hB := Lib.hid hBw
  have HL := Lib.hid hl
  have HN := Lib.hid hn
  have hr0 : TkRel l n 0 0 1 := ⟨by omega, by omega, rfl, rfl, fun i c hi => by omega⟩
  clear h hl hn hBw
  go_enter Try.func36, Try.ntmps36
  go_wp2
  go_loop [5, 6, 7] (fun x y i => ∃ k X Y : Nat, x = .int .u64 (X : Int) ∧ y = .int .u64 (Y : Int) ∧ i = .int .i64 (k : Int) ∧ TkRel l n k X Y) (fun _ _ i => (10 - intOf i).toNat)
  case atStart => exact ⟨0, 0, 1, rfl, rfl, rfl, hr0⟩
  case round =>
    clear hr0
    obtain ⟨k, X, Y, rfl, rfl, rfl, hr⟩ := hrel
    have hkn := hr.kn
    have hk10 := hr.k10
    by_cases hlt : k < n
    · by_cases hlt10 : k < 10
      · have hd1 : decide ((k : Int) < (n : Int)) = true := by simp; omega
        have hd2 : decide ((k : Int) < 10) = true := by simp; omega
        have hd3 : decide (k < n) = true := by simp; omega
        obtain ⟨cc, hcc⟩ : ∃ cc, l[k]? = some cc := ⟨_, List.getElem?_eq_getElem (by rw [HL.out]; exact hlt)⟩
        obtain ⟨b, off, rfl, _, hcell⟩ := H.out.form (by omega)
        have hcell := hcell k (b8 cc) (by simp [bv, hcc])
        unfold b8 at hcell
        have hx := hr.xnext hcc
        have hy := hr.ynext
        have hcb : cc.toNat < 256 := cc.toNat_lt
        have HC := Lib.hid hcc
        by_cases h8 : cc.toNat < 128
        · have hat := takeN_at hr.hall hcc h8 hlt10
          have hxe : (IntKind.u64.wrap ((X : Int) + IntKind.u64.wrap ((cc.toNat : Int) % 128 * (Y : Int)))).toNat = valL (l.take (k + 1)) % 2 ^ 64 := by rw [hx]; exact Int.toNat_natCast _
          have hxlt : valL (l.take (k + 1)) % 2 ^ 64 < 2 ^ 64 := Nat.mod_lt _ (by decide)
          have P1 : ∀ W, Calls Try.prog 30 #[.slice none 0 0, .int .u64 (IntKind.u64.wrap ((X : Int) + IntKind.u64.wrap ((cc.toNat : Int) % 128 * (Y : Int))))] W (RetB W (shortL (valL (l.take (k + 1)) % 2 ^ 64))) := fun W => by
            have := refPut_c (w := W) (B := 0) (l := []) Rd.nilv (Nat.zero_le _) (IntKind.u64.wrap ((X : Int) + IntKind.u64.wrap ((cc.toNat : Int) % 128 * (Y : Int)))) (by rw [hx]; omega) (by rw [hx]; omega)
            rwa [List.nil_append, hxe] at this
          have HP := Lib.hid P1
          have HA := Lib.hid hat
          have HX := Lib.hid hx
          generalize valL (l.take (k + 1)) % 2 ^ 64 = x' at *
          clear hx hy hcc P1 hat hxe hxlt
          have hend : decide ((cc.toNat : Int) < 128) = true := by simp; omega
          have hlk : (l.take (k + 1)).length = k + 1 := by rw [List.length_take, HL.out]; omega
          have hRl : ∀ W, Below w.heap.size w W → Rd W B (some ⟨b, off, none⟩) n c (bv l) := fun W hb => H.out.under hb hB.out
          have HRl := Lib.hid hRl
          by_cases hsame : l.take (shortL x').length = shortL x'
          · by_cases hlen : (shortL x').length = k + 1
            · have hres : takeN l = some (x', k + 1) := by rw [HA.out, if_pos (by rw [← hlen]; exact hsame)]
              have HRES := Lib.hid hres
              have hrest : ∀ (W : World) (hb : Below w.heap.size w W), Calls Try.prog 46 #[.slice (some ⟨b, off, none⟩) n c, .int .i64 ((k : Int) + 1)] W (RetB W (l.drop (k + 1))) := fun W hb => rest_c (k := k + 1) (HRl.out W hb) HN.out (by omega)
              have HREST := Lib.hid hrest
              have hbt : (l.take (shortL x').length == shortL x') = true := by simpa using hsame
              have HBT := Lib.hid hbt
              have HLEN := Lib.hid hlen
              clear hsame hlen hres hrest hbt hRl hlk
              go_wp2_with fail
              refine (HP.out _).mono ?_
              rintro e w1 ⟨A1, n1, c1, rfl, hf1, hb1⟩
              go_wp2_with fail
              refine (refSame_c (HRl.out _ hb1) (hf1.rd (Nat.le_refl _))).mono ?_
              rw [HBT.out]
              rintro e w2 ⟨rfl, q, rfl⟩
              go_wp2_with fail
              refine (HP.out _).mono ?_
              rintro e w3 ⟨A3, n3, c3, rfl, hf3, hb3⟩
              have hn3 : n3 = k + 1 := by rw [← hf3.len, ← HLEN.out]; simp
              have hne : ((n3 : Int) != (k : Int) + 1) = false := by simp; omega
              clear hn3
              have hb4 : Below w.heap.size w w3 := hb1.trans ((below_drewN (Below.refl _ _) q).trans (hb3.mono (by have := hb1.size; simpa using this)))
              go_wp2_with fail
              refine (HREST.out _ hb4).mono ?_
              rintro e w5 ⟨A5, n5, c5, rfl, hf5, hb5⟩
              go_wp2
              go_ret3
              exact TakePost.some HRES.out ⟨A5, n5, c5, tup3 HX.out, hf5.mono hb4.size, hb4.trans (hb5.mono hb4.size)⟩
            · have hres : takeN l = none := by rw [HA.out, if_neg (fun e => hlen (by rw [← e]; exact hlk))]
              have HRES := Lib.hid hres
              have hbt : (l.take (shortL x').length == shortL x') = true := by simpa using hsame
              have HBT := Lib.hid hbt
              have HLEN := Lib.hid hlen
              clear hsame hlen hres hbt hRl hlk
              go_wp2_with fail
              refine (HP.out _).mono ?_
              rintro e w1 ⟨A1, n1, c1, rfl, hf1, hb1⟩
              go_wp2_with fail
              refine (refSame_c (HRl.out _ hb1) (hf1.rd (Nat.le_refl _))).mono ?_
              rw [HBT.out]
              rintro e w2 ⟨rfl, q, rfl⟩
              go_wp2_with fail
              refine (HP.out _).mono ?_
              rintro e w3 ⟨A3, n3, c3, rfl, hf3, hb3⟩
              have hn3 : n3 ≠ k + 1 := by rw [← hf3.len]; simpa using HLEN.out
              have hne : ((n3 : Int) != (k : Int) + 1) = true := by simp; omega
              clear hn3
              have hb4 : Below w.heap.size w w3 := hb1.trans ((below_drewN (Below.refl _ _) q).trans (hb3.mono (by have := hb1.size; simpa using this)))
              go_wp2
              go_ret3
              exact TakePost.none HRES.out ⟨none, 0, 0, rfl, Fr.nil, hb4⟩
          · have hres : takeN l = none := by
              rw [HA.out, if_neg]
              intro e
              apply hsame
              rw [← e, hlk]
            have HRES := Lib.hid hres
            have hbt : (l.take (shortL x').length == shortL x') = false := by simpa using hsame
            have HBT := Lib.hid hbt
            clear hsame hres hbt hRl hlk
            go_wp2_with fail
            refine (HP.out _).mono ?_
            rintro e w1 ⟨A1, n1, c1, rfl, hf1, hb1⟩
            go_wp2_with fail
            refine (refSame_c (HRl.out _ hb1) (hf1.rd (Nat.le_refl _))).mono ?_
            rw [HBT.out]
            rintro e w2 ⟨rfl, q, rfl⟩
            go_wp2
            go_ret3
            exact TakePost.none HRES.out ⟨none, 0, 0, rfl, Fr.nil, below_drewN hb1 q⟩
        · have hnx := hr.next HL.out hcc (by omega) hlt10
          have HX := Lib.hid hx
          have HY := Lib.hid hy
          clear hx hy hcc
          go_wp2
          go_round
          case rel => exact ⟨_, _, _, by rw [HX.out], by rw [HY.out], by simp, hnx⟩
          case measure => simp [intOf]; omega
      · have hres : takeN l = none := takeN_none_of_all hr.hall (by omega)
        have HRES := Lib.hid hres
        have hd1 : decide ((k : Int) < (n : Int)) = true := by simp; omega
        have hd2 : decide ((k : Int) < 10) = false := by simp; omega
        have hd3 : decide (k < n) = true := by simp; omega
        clear hres
        go_wp2
        go_ret3
        exact TakePost.none HRES.out ⟨none, 0, 0, rfl, Fr.nil, Below.refl _ _⟩
    · have hres : takeN l = none := takeN_none_of_all hr.hall (by have := HL.out; omega)
      have HRES := Lib.hid hres
      have hd1 : decide ((k : Int) < (n : Int)) = false := by simp; omega
      have hd3 : decide (k < n) = false := by simp; omega
      clear hres
      go_wp2
      go_ret3
      exact TakePost.none HRES.out ⟨none, 0, 0, rfl, Fr.nil, Below.refl _ _⟩
end Go.Proofs.Ytaodmenieigbmaa
