/-
  Contracts: the reference's Put.
-/
import Derived.Test.YtaodmenieigbmaaSame
import Derived.Test.YtaodmenieigbmaaShort
import Derived.IntWalk
namespace Go.Proofs.Ytaodmenieigbmaa
open Go.RowKit

theorem u8_byte (m : Nat) (h : m < 256) : Value.int .u8 (m : Int) = b8 (byteOf m) := by
  simp only [b8, byteOf_toNat h]

structure PutRel (w : World) (l : List UInt8) (x : Nat) (out xv : Value) (wr : World) (A : Option Addr) (n c y f : Nat) (p : List UInt8) : Prop where
  o : out = .slice A n c
  v : xv = .int .u64 (y : Int)
  fr : Fr wr w.heap.size 5 A n c (bv (l ++ p))
  below : Below w.heap.size w wr
  eq : p ++ shortF f y = shortL x
  lt : y < 128 ^ (f + 1)
  le : (y : Int) ≤ 18446744073709551615
  len : p.length + f = 9
  sm : n ≤ 70368744177674

theorem PutRel.step {w : World} {l : List UInt8} {x : Nat} {wr : World} {A : Option Addr} {n c y f : Nat} {p : List UInt8} {o v : Value} (h : PutRel w l x o v wr A n c y f p) (hl : l.length ≤ 70368744177664) (hge : 128 ≤ y)
    {A' : Option Addr} {c' : Nat} {w' : World} {e : Value} (he : e = b8 (byteOf (y % 128 + 128))) (hap : App (wr.alloc (.cells #[e] 5)) w' w.heap.size 5 (.slice A n c) A' (n + 1) c' (bv (l ++ p) ++ [e])) :
    PutRel w l x (.slice A' (n + 1) c') (.int .u64 ((y : Int) / 128)) w' A' (n + 1) c' (y / 128) (f - 1) (p ++ [byteOf (y % 128 + 128)]) := by
  have hf : ∃ g, f = g + 1 := by
    cases f with
    | zero => have := h.lt; simp at this; omega
    | succ g => exact ⟨g, rfl⟩
  obtain ⟨g, rfl⟩ := hf
  have hlen := h.len
  have hfl := h.fr.len
  simp at hfl
  have hE := h.eq
  simp only [shortF] at hE
  rw [if_neg (by omega)] at hE
  refine ⟨rfl, by simp, ?_, ?_, ?_, ?_, ?_, ?_, ?_⟩
  · subst he
    have := hap.fr
    simpa [bv, b8, List.append_assoc] using this
  · exact (h.below.alloc h.below.size _).trans hap.below
  · rw [← hE]; simp
  · have := h.lt
    rw [Nat.add_sub_cancel, Nat.div_lt_iff_lt_mul (by omega)]; rw [Nat.pow_succ] at this; exact this
  · have := h.le; omega
  · simp; omega
  · omega

theorem PutRel.last {w : World} {l : List UInt8} {x : Nat} {wr : World} {A : Option Addr} {n c y f : Nat} {p : List UInt8} {o v : Value} (h : PutRel w l x o v wr A n c y f p) (hge : y < 128)
    {A' : Option Addr} {c' : Nat} {w' : World} {e : Value} (he : e = b8 (byteOf y)) (hap : App (wr.alloc (.cells #[e] 5)) w' w.heap.size 5 (.slice A n c) A' (n + 1) c' (bv (l ++ p) ++ [e])) :
    RetB w (l ++ shortL x) (.returned (.slice A' (n + 1) c')) w' := by
  have hE := h.eq
  have hsf : shortF f y = [byteOf y] := by
    cases f with
    | zero => simp only [shortF]; rw [Nat.mod_eq_of_lt hge]
    | succ g => simp only [shortF]; rw [if_pos hge]
  rw [hsf] at hE
  subst he
  refine ⟨A', _, c', rfl, ?_, (h.below.alloc h.below.size _).trans hap.below⟩
  rw [← hE]
  have := hap.fr
  simpa [bv, b8, List.append_assoc] using this

set_option maxRecDepth 100000 in
set_option maxHeartbeats 400000 in
theorem refPut_c {w : World} {B n c : Nat} {A : Option Addr} {l : List UInt8} (h : Rd w B A n c (bv l)) (hn : n ≤ 70368744177664) (x : Int) (hx0 : 0 ≤ x) (hx : x ≤ 18446744073709551615) :
    Calls Try.prog 30 #[.slice A n c, .int .u64 x] w (RetB w (l ++ shortL x.toNat)) := by
  obtain ⟨x, rfl⟩ := Int.eq_ofNat_of_zero_le hx0
  have hl : l.length = n := by simpa using h.len
  rw [Int.toNat_natCast]
  have h0 : ∀ A' c' w', App w w' w.heap.size 5 (.slice none 0 0) A' (0 + n) c' ([] ++ bv l) → PutRel w l x (.slice A' n c') (.int .u64 (x : Int)) w' A' n c' x 9 [] := fun A' c' w' hap =>
    ⟨rfl, rfl, by simpa using hap.fr, hap.below, rfl, by omega, by omega, rfl, by omega⟩
  have HL := Lib.hid hl
  have H0 := Lib.hid h0
  clear hl hx hx0 h0
  go_enter Try.func30, Try.ntmps30
  go_wp2_with (at_builtin; refine wpList_app rfl (.tmp 6) (.tmp 7) _ rfl Try.underlying23 info_u8 rfl rfl Fr.nil rfl h (bv_one _) (by omega) (by omega) (Nat.le_refl _) ?_; intro A' c' w' hap)
  have hr0 := H0.out _ _ _ hap
  clear hap H0 h
  go_loopw [5, 1] (fun out xv wr => ∃ A n c y f p, PutRel w l x out xv wr A n c y f p) (fun _ xv _ => (intOf xv).toNat)
  case atStart => exact ⟨_, _, _, _, _, _, hr0⟩
  case round =>
    clear hr0
    obtain ⟨A2, n2, c2, y, f, p, hr⟩ := hrel
    obtain rfl := hr.o
    obtain rfl := hr.v
    have hle := hr.le
    have HS := Lib.hid hr.sm
    have HN := Lib.hid hn
    have hbs := hr.below.size
    clear hn
    by_cases hge : 128 ≤ y
    · have hone : ∀ (k : Int), ∀ u ∈ [Value.int IntKind.u8 k], u.oneCell' = true := fun k u hu => by simp at hu; subst hu; rfl
      go_wp2_with (at_builtin; refine wpList_app rfl (.tmp 11) (.tmp 16) _ rfl Try.underlying23 info_u8 rfl rfl (hr.fr.alloc _) rfl (Rd.lit wr 5 [_] rfl (by decide) (Nat.lt_succ_self _)) (hone _) (by have := HS.out; omega) (by have := HS.out; omega) (by simp; omega) ?_; intro A' c' w' hap)
      have hst := hr.step (by have := HN.out; have := HL.out; omega) hge (by rw [← u8_byte _ (by omega)]; simp) hap
      go_roundw
      case rel => exact ⟨_, _, _, _, _, _, hst⟩
      case measure => simp [intOf]; omega
    · have hone : ∀ (k : Int), ∀ u ∈ [Value.int IntKind.u8 k], u.oneCell' = true := fun k u hu => by simp at hu; subst hu; rfl
      go_wp2_with (at_builtin; refine wpList_app rfl (.tmp 20) (.tmp 23) _ rfl Try.underlying23 info_u8 rfl rfl (hr.fr.alloc _) rfl (Rd.lit wr 5 [_] rfl (by decide) (Nat.lt_succ_self _)) (hone _) (by have := HS.out; omega) (by have := HS.out; omega) (by simp; omega) ?_; intro A' c' w' hap)
      go_ret
      exact hr.last (by omega) (u8_byte _ (by omega)) hap
end Go.Proofs.Ytaodmenieigbmaa
