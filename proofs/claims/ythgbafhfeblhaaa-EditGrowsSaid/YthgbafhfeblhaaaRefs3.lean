/-
  The texts Put, Refs, Short2, Refs2, Refs3, in one.
-/
import Derived.Test.YthgbafhfeblhaaaSame
import Derived.Test.YthgbafhfeblhaaaShort
import Derived.IntWalk
import Derived.Deep.QuietTactic
import Derived.BigQuiet
import Derived.LoopN
import Derived.Deep.RegionWith
section
/-
  Contracts: the reference's Put.
-/
namespace Go.Proofs.Ythgbafhfeblhaaa
set_option maxRecDepth 100000
open Go.RowKit

theorem u8_byte (m : Nat) (h : m < 256) : Value.int .u8 (m : Int) = b8 (byteOf m) := by
  simp only [b8, byteOf_toNat h]

structure PutRel (w : World) (l : List UInt8) (x : Nat) (out xv : Value) (wr : World) (A : Option Addr) (n c y f : Nat) (p : List UInt8) : Prop where
  o : out = .slice A n c
  v : xv = .int .u64 (y : Int)
  fr : Fr wr w.heap.size 5 A n c (bv (l ++ p))
  below : Below w.heap.size w wr
  eq : p ++ shortF f y = shortL x
  lt : y < 128 ^ (f + 1)
  le : (y : Int) ≤ 18446744073709551615
  len : p.length + f = 9
  sm : n ≤ 70368744177674

theorem PutRel.step {w : World} {l : List UInt8} {x : Nat} {wr : World} {A : Option Addr} {n c y f : Nat} {p : List UInt8} {o v : Value} (h : PutRel w l x o v wr A n c y f p) (hl : l.length ≤ 70368744177664) (hge : 128 ≤ y)
    {A' : Option Addr} {c' : Nat} {w' : World} {e : Value} (he : e = b8 (byteOf (y % 128 + 128))) (hap : App (wr.alloc (.cells #[e] 5)) w' w.heap.size 5 (.slice A n c) A' (n + 1) c' (bv (l ++ p) ++ [e])) :
    PutRel w l x (.slice A' (n + 1) c') (.int .u64 ((y : Int) / 128)) w' A' (n + 1) c' (y / 128) (f - 1) (p ++ [byteOf (y % 128 + 128)]) := by
  have hf : ∃ g, f = g + 1 := by
    cases f with
    | zero => have := h.lt; simp at this; omega
    | succ g => exact ⟨g, rfl⟩
  obtain ⟨g, rfl⟩ := hf
  have hlen := h.len
  have hfl := h.fr.len
  simp at hfl
  have hE := h.eq
  simp only [shortF] at hE
  rw [if_neg (by omega)] at hE
  refine ⟨rfl, by simp, ?_, ?_, ?_, ?_, ?_, ?_, ?_⟩
  · subst he
    have := hap.fr
    simpa [bv, b8, List.append_assoc] using this
  · exact (h.below.alloc h.below.size _).trans hap.below
  · rw [← hE]; simp
  · have := h.lt
    rw [Nat.add_sub_cancel, Nat.div_lt_iff_lt_mul (by omega)]; rw [Nat.pow_succ] at this; exact this
  · have := h.le; omega
  · simp; omega
  · omega

theorem PutRel.last {w : World} {l : List UInt8} {x : Nat} {wr : World} {A : Option Addr} {n c y f : Nat} {p : List UInt8} {o v : Value} (h : PutRel w l x o v wr A n c y f p) (hge : y < 128)
    {A' : Option Addr} {c' : Nat} {w' : World} {e : Value} (he : e = b8 (byteOf y)) (hap : App (wr.alloc (.cells #[e] 5)) w' w.heap.size 5 (.slice A n c) A' (n + 1) c' (bv (l ++ p) ++ [e])) :
    RetB w (l ++ shortL x) (.returned (.slice A' (n + 1) c')) w' := by
  have hE := h.eq
  have hsf : shortF f y = [byteOf y] := by
    cases f with
    | zero => simp only [shortF]; rw [Nat.mod_eq_of_lt hge]
    | succ g => simp only [shortF]; rw [if_pos hge]
  rw [hsf] at hE
  subst he
  refine ⟨A', _, c', rfl, ?_, (h.below.alloc h.below.size _).trans hap.below⟩
  rw [← hE]
  have := hap.fr
  simpa [bv, b8, List.append_assoc] using this

set_option maxRecDepth 100000 in
set_option maxHeartbeats 400000 in
theorem refPut_c {w : World} {B n c : Nat} {A : Option Addr} {l : List UInt8} (h : Rd w B A n c (bv l)) (hn : n ≤ 70368744177664) (x : Int) (hx0 : 0 ≤ x) (hx : x ≤ 18446744073709551615) :
    Calls Try.prog 25 #[.slice A n c, .int .u64 x] w (RetB w (l ++ shortL x.toNat)) := by
  obtain ⟨x, rfl⟩ := Int.eq_ofNat_of_zero_le hx0
  have hl : l.length = n := by simpa using h.len
  rw [Int.toNat_natCast]
  have h0 : ∀ A' c' w', App w w' w.heap.size 5 (.slice none 0 0) A' (0 + n) c' ([] ++ bv l) → PutRel w l x (.slice A' n c') (.int .u64 (x : Int)) w' A' n c' x 9 [] := fun A' c' w' hap =>
    ⟨rfl, rfl, by simpa using hap.fr, hap.below, rfl, by omega, by omega, rfl, by omega⟩
  have HL := Lib.hid hl
  have H0 := Lib.hid h0
  clear hl hx hx0 h0
  go_enter Try.func25, Try.ntmps25
  go_wp2_with (at_builtin; refine wpList_app rfl (.tmp 6) (.tmp 7) _ rfl Try.underlying26 info_u8 rfl rfl Fr.nil rfl h (bv_one _) (by omega) (by omega) (Nat.le_refl _) ?_; intro A' c' w' hap)
  have hr0 := H0.out _ _ _ hap
  clear hap H0 h
  go_loopw [5, 1] (fun out xv wr => ∃ A n c y f p, PutRel w l x out xv wr A n c y f p) (fun _ xv _ => (intOf xv).toNat)
  case atStart => exact ⟨_, _, _, _, _, _, hr0⟩
  case round =>
    clear hr0
    obtain ⟨A2, n2, c2, y, f, p, hr⟩ := hrel
    obtain rfl := hr.o
    obtain rfl := hr.v
    have hle := hr.le
    have HS := Lib.hid hr.sm
    have HN := Lib.hid hn
    have hbs := hr.below.size
    clear hn
    by_cases hge : 128 ≤ y
    · have hone : ∀ (k : Int), ∀ u ∈ [Value.int IntKind.u8 k], u.oneCell' = true := fun k u hu => by simp at hu; subst hu; rfl
      go_wp2_with (at_builtin; refine wpList_app rfl (.tmp 11) (.tmp 16) _ rfl Try.underlying26 info_u8 rfl rfl (hr.fr.alloc _) rfl (Rd.lit wr 5 [_] rfl (by decide) (Nat.lt_succ_self _)) (hone _) (by have := HS.out; omega) (by have := HS.out; omega) (by simp; omega) ?_; intro A' c' w' hap)
      have hst := hr.step (by have := HN.out; have := HL.out; omega) hge (by rw [← u8_byte _ (by omega)]; simp) hap
      go_roundw
      case rel => exact ⟨_, _, _, _, _, _, hst⟩
      case measure => simp [intOf]; omega
    · have hone : ∀ (k : Int), ∀ u ∈ [Value.int IntKind.u8 k], u.oneCell' = true := fun k u hu => by simp at hu; subst hu; rfl
      go_wp2_with (at_builtin; refine wpList_app rfl (.tmp 20) (.tmp 23) _ rfl Try.underlying26 info_u8 rfl rfl (hr.fr.alloc _) rfl (Rd.lit wr 5 [_] rfl (by decide) (Nat.lt_succ_self _)) (hone _) (by have := HS.out; omega) (by have := HS.out; omega) (by simp; omega) ?_; intro A' c' w' hap)
      go_ret
      exact hr.last (by omega) (u8_byte _ (by omega)) hap
end Go.Proofs.Ythgbafhfeblhaaa
end

section
/-
  Contracts: the reference's same, Take, TakeText, PutText, PutFour, TakeFour.
-/
namespace Go.Proofs.Ythgbafhfeblhaaa
set_option maxRecDepth 100000
open Go.RowKit

theorem take_beq_short {l hd : List UInt8} (h : l.length < hd.length) : (l.take hd.length == hd) = false := by
  rw [beq_eq_false_iff_ne]
  intro e
  have := congrArg List.length e
  simp at this; omega

set_option maxRecDepth 100000 in
set_option maxHeartbeats 400000 in
theorem refSame_c {w : World} {B1 B2 n1 c1 n2 c2 : Nat} {A1 A2 : Option Addr} {l hd : List UInt8} (h1 : Rd w B1 A1 n1 c1 (bv l)) (h2 : Rd w B2 A2 n2 c2 (bv hd)) :
    Calls Try.prog 52 #[.slice A1 n1 c1, .slice A2 n2 c2] w fun e w' => e = .returned (.bool (l.take hd.length == hd)) ∧ ∃ k, w' = w.drewN k := by
  have l1 : l.length = n1 := by simpa using h1.len
  have l2 : hd.length = n2 := by simpa using h2.len
  have k1 := h1.cap
  by_cases hge : n2 ≤ n1
  · have r2 := fun q => run_str (P := Try.prog) (h2.drewN q) 26 9 5 Try.underlying26 Try.underlying5 Try.underlying9
    have hf := h1.front hge
    rw [show (bv l).take n2 = bv (l.take n2) by simp [bv]] at hf
    have r1 := fun q => run_str (P := Try.prog) (hf.drewN q) 26 9 5 Try.underlying26 Try.underlying5 Try.underlying9
    have hs := fun W => run_slice_hi_gen (P := Try.prog) (n := n1) (A := A1) 26 5 Try.underlying26 info_u8 .i64 (k := n2) (c := c1) (by omega) W
    have hd1 : decide ((n2 : Int) ≤ (n1 : Int)) = true := by simp; omega
    have hd2 : decide (n2 ≤ n1) = true := by simp; omega
    have HL := Lib.hid l2
    clear l1 l2 h1 h2 hf k1
    go_enter Try.func52, Try.ntmps52
    go_wp2
    go_quiet (fail)
    go_wp2
    go_ret
    exact ⟨by rw [HL.out]; rfl, _, rfl⟩
  · have hd1 : decide ((n2 : Int) ≤ (n1 : Int)) = false := by simp; omega
    have hd2 : decide (n2 ≤ n1) = false := by simp; omega
    have hfin := take_beq_short (l := l) (hd := hd) (by omega)
    clear l1 l2 h1 h2 k1
    have HF := Lib.hid hfin
    clear hfin
    go_enter Try.func52, Try.ntmps52
    go_wp2
    go_quiet (fail)
    go_wp2
    go_ret
    exact ⟨by rw [HF.out]; rfl, _, rfl⟩

/-! ## The reference's PutFour, TakeFour, PutText -/
/-- Bytes of a number, the lowest eight bits first. -/
def leL : Nat → Nat → List UInt8
  | 0, _ => []
  | k + 1, x => byteOf (x % 256) :: leL k (x / 256)
/-- The four bytes of a number below 2^32. -/
def fourL (x : Nat) : List UInt8 := leL 4 x

structure FourRel (w : World) (l : List UInt8) (x : Nat) (out xv iv : Value) (wr : World) (A : Option Addr) (n c y k : Nat) (p : List UInt8) : Prop where
  o : out = .slice A n c
  v : xv = .int .u32 (y : Int)
  i : iv = .int .i64 (k : Int)
  fr : Fr wr w.heap.size 5 A n c (bv (l ++ p))
  below : Below w.heap.size w wr
  eq : p ++ leL (4 - k) y = fourL x
  le : (y : Int) ≤ 4294967295
  kle : k ≤ 4
  sm : n ≤ 70368744177664 + k

theorem FourRel.step {w : World} {l : List UInt8} {x : Nat} {wr : World} {A : Option Addr} {n c y k : Nat} {p : List UInt8} {o v i : Value} (h : FourRel w l x o v i wr A n c y k p) (hk : k < 4)
    {A' : Option Addr} {c' : Nat} {w' : World} {e : Value} (he : e = b8 (byteOf (y % 256))) (hap : App (wr.alloc (.cells #[e] 5)) w' w.heap.size 5 (.slice A n c) A' (n + 1) c' (bv (l ++ p) ++ [e])) :
    FourRel w l x (.slice A' (n + 1) c') (.int .u32 ((y : Int) / 256)) (.int .i64 ((k : Int) + 1)) w' A' (n + 1) c' (y / 256) (k + 1) (p ++ [byteOf (y % 256)]) := by
  have hE := h.eq
  rw [show 4 - k = (4 - (k + 1)) + 1 by omega] at hE
  simp only [leL] at hE
  refine ⟨rfl, by simp, by simp, ?_, ?_, ?_, ?_, by omega, by have := h.sm; omega⟩
  · subst he
    have := hap.fr
    simpa [bv, b8, List.append_assoc] using this
  · exact (h.below.alloc h.below.size _).trans hap.below
  · rw [← hE]; simp
  · have := h.le; omega

end Go.Proofs.Ythgbafhfeblhaaa
end

section
/-
  Plain mathematics of short forms, more: the first byte below 128 ends a form.
-/
namespace Go.Proofs.Ythgbafhfeblhaaa
set_option maxRecDepth 100000

theorem Formed.high {p : List UInt8} (h : Formed p) : ∀ i c, p[i]? = some c → i + 1 < p.length → 128 ≤ c.toNat := by
  induction p with
  | nil => exact h.elim
  | cons a p ih =>
    intro i c hc hi
    match p, h with
    | [], _ => simp at hi
    | d :: q, h =>
      cases i with
      | zero => simp at hc; subst hc; exact h.1
      | succ i => exact ih h.2.1 i c (by simpa using hc) (by simpa using hi)
theorem Formed.low {p : List UInt8} (h : Formed p) : ∀ c, p[p.length - 1]? = some c → c.toNat < 128 := by
  induction p with
  | nil => exact h.elim
  | cons a p ih =>
    intro c hc
    match p, h with
    | [], h => simp at hc; subst hc; exact h
    | d :: q, h => exact ih h.2.1 c (by simpa using hc)
theorem Formed.pos {p : List UInt8} (h : Formed p) : 0 < p.length := by
  match p, h with
  | [c], _ => simp
  | c :: d :: q, _ => simp

theorem prefix_get {p l : List UInt8} (h : p <+: l) {i : Nat} (hi : i < p.length) : l[i]? = p[i]? := by
  obtain ⟨t, rfl⟩ := h
  rw [List.getElem?_append_left hi]

/-- A form that bytes begin with ends at the first byte below 128. -/
theorem formed_end {l p : List UInt8} (hp : Formed p) (hpre : p <+: l) {k : Nat} (hall : ∀ i c, i < k → l[i]? = some c → 128 ≤ c.toNat) : k < p.length := by
  rcases Nat.lt_or_ge k p.length with h | h
  · exact h
  · have hpos := hp.pos
    have h1 : p.length - 1 < p.length := by omega
    have h2 := hp.low p[p.length - 1] (List.getElem?_eq_getElem h1)
    have h3 := hall (p.length - 1) p[p.length - 1] (by omega) (by rw [prefix_get hpre h1]; exact List.getElem?_eq_getElem h1)
    omega
theorem formed_at {l p : List UInt8} (hp : Formed p) (hpre : p <+: l) {k : Nat} {c : UInt8} (hc : l[k]? = some c) (hc8 : c.toNat < 128) : p.length ≤ k + 1 := by
  rcases Nat.lt_or_ge (k + 1) p.length with h | h
  · have h1 : k < p.length := by omega
    have := hp.high k c (by rw [← prefix_get hpre h1]; exact hc) h
    omega
  · exact h

theorem takeN_none_of_all {l : List UInt8} {k : Nat} (hall : ∀ i c, i < k → l[i]? = some c → 128 ≤ c.toNat) (hk : l.length ≤ k ∨ 10 ≤ k) : takeN l = none := by
  cases h : takeN l with
  | none => rfl
  | some r =>
    obtain ⟨v, m⟩ := r
    obtain ⟨h1, h2, h3⟩ := (takeN_iff _ _ _).1 h
    have := formed_end (formed_shortL v h1) h3 hall
    have h4 := h3.length_le
    have h5 := shortL_len v
    omega

theorem takeN_at {l : List UInt8} {k : Nat} {c : UInt8} (hall : ∀ i c, i < k → l[i]? = some c → 128 ≤ c.toNat) (hc : l[k]? = some c) (hc8 : c.toNat < 128) (_hk : k < 10) :
    takeN l = if l.take (k + 1) = shortL (valL (l.take (k + 1)) % 2 ^ 64) then some (valL (l.take (k + 1)) % 2 ^ 64, k + 1) else none := by
  have hkl : k < l.length := by
    rcases Nat.lt_or_ge k l.length with h | h
    · exact h
    · rw [List.getElem?_eq_none h] at hc; cases hc
  split
  · rename_i e
    rw [takeN_iff]
    refine ⟨Nat.mod_lt _ (by decide), ?_, ?_⟩
    · rw [← e]; simp; omega
    · rw [← e]; exact List.take_prefix _ _
  · rename_i e
    cases h : takeN l with
    | none => rfl
    | some r =>
      exfalso
      obtain ⟨v, m⟩ := r
      obtain ⟨h1, h2, h3⟩ := (takeN_iff _ _ _).1 h
      have g1 := formed_end (formed_shortL v h1) h3 hall
      have g2 := formed_at (formed_shortL v h1) h3 hc hc8
      have g3 : (shortL v).length = k + 1 := by omega
      have g4 : l.take (k + 1) = shortL v := by rw [← g3]; exact (List.prefix_iff_eq_take.1 h3).symm
      apply e
      rw [g4, valL_shortL v h1, Nat.mod_eq_of_lt h1]

theorem valL_snoc (p : List UInt8) (c : UInt8) : valL (p ++ [c]) = valL p + 128 ^ p.length * (c.toNat % 128) := by
  induction p with
  | nil => simp [valL]
  | cons d p ih =>
    simp only [List.cons_append, valL, ih, List.length_cons, Nat.pow_succ]
    rw [Nat.mul_add, ← Nat.add_assoc]
    congr 1
    ac_rfl
theorem take_snoc' {l : List UInt8} {k : Nat} {c : UInt8} (hc : l[k]? = some c) : l.take (k + 1) = l.take k ++ [c] := by
  rw [List.take_add_one, hc]; rfl
end Go.Proofs.Ythgbafhfeblhaaa
end

section
/-
  Contracts: the reference's TakeFour, Take, TakeText, PutText.
-/
namespace Go.Proofs.Ythgbafhfeblhaaa
set_option maxRecDepth 100000
open Go.RowKit

/-- What bytes say, eight bits each, the lowest first. -/
def leV : List UInt8 → Nat
  | [] => 0
  | c :: l => c.toNat + 256 * leV l

theorem tup3 {k : IntKind} {a b : Int} {y z : Value} (h : a = b) : Ending.returned (.tuple #[.int k a, y, z]) = .returned (.tuple #[.int k b, y, z]) := by rw [h]

/-- A tuple of a number, a fresh row of bytes, and a bool. -/
def RetNB (w : World) (k : IntKind) (x : Nat) (l : List UInt8) (ok : Bool) (e : Ending) (w' : World) : Prop :=
  ∃ A n c, e = .returned (.tuple #[.int k (x : Int), .slice A n c, .bool ok]) ∧ Fr w' w.heap.size 5 A n c (bv l) ∧ Below w.heap.size w w'

theorem four_form {l : List UInt8} (h : 4 ≤ l.length) : ∃ x0 x1 x2 x3 r, l = x0 :: x1 :: x2 :: x3 :: r := by
  match l, h with
  | x0 :: x1 :: x2 :: x3 :: r, _ => exact ⟨_, _, _, _, _, rfl⟩
/-- The first four cells of a row. -/
structure Four (w : World) (b off : Nat) (x0 x1 x2 x3 : UInt8) : Prop where
  c0 : w.cell? ⟨b, off, none⟩ = some (.int .u8 (x0.toNat : Int))
  c1 : w.cell? ⟨b, off + 1, none⟩ = some (.int .u8 (x1.toNat : Int))
  c2 : w.cell? ⟨b, off + 2, none⟩ = some (.int .u8 (x2.toNat : Int))
  c3 : w.cell? ⟨b, off + 3, none⟩ = some (.int .u8 (x3.toNat : Int))
theorem Rd.four {w : World} {B n c : Nat} {A : Option Addr} {x0 x1 x2 x3 : UInt8} {r : List UInt8} (h : Rd w B A n c (bv (x0 :: x1 :: x2 :: x3 :: r))) : ∃ b off, A = some ⟨b, off, none⟩ ∧ Four w b off x0 x1 x2 x3 := by
  obtain ⟨b, off, rfl, _, hc⟩ := h.form (by have := h.len; simp at this; omega)
  exact ⟨b, off, rfl, hc 0 _ rfl, hc 1 _ rfl, hc 2 _ rfl, hc 3 _ rfl⟩

/-! ## The reference's Take -/
def TakePost (w : World) (l : List UInt8) (e : Ending) (w' : World) : Prop :=
  match takeN l with
  | some (v, m) => RetNB w .u64 v (l.drop m) true e w'
  | none => RetNB w .u64 0 [] false e w'
theorem TakePost.some {w : World} {l : List UInt8} {v m : Nat} {e : Ending} {w' : World} (h : takeN l = some (v, m)) (hp : RetNB w .u64 v (l.drop m) true e w') : TakePost w l e w' := by
  simp only [TakePost, h]; exact hp
theorem TakePost.none {w : World} {l : List UInt8} {e : Ending} {w' : World} (h : takeN l = none) (hp : RetNB w .u64 0 [] false e w') : TakePost w l e w' := by
  simp only [TakePost, h]; exact hp

structure TkRel (l : List UInt8) (n k X Y : Nat) : Prop where
  kn : k ≤ n
  k10 : k ≤ 10
  x : X = valL (l.take k) % 2 ^ 64
  y : Y = 128 ^ k % 2 ^ 64
  hall : ∀ i c, i < k → l[i]? = some c → 128 ≤ c.toNat

theorem wrapu (x : Int) : IntKind.u64.wrap x = x % 18446744073709551616 := by
  simp [IntKind.wrap, IntKind.bits, IntKind.signed]

theorem TkRel.xnext {l : List UInt8} {n k X Y : Nat} (h : TkRel l n k X Y) {c : UInt8} (hc : l[k]? = some c) :
    IntKind.u64.wrap ((X : Int) + IntKind.u64.wrap ((c.toNat : Int) % 128 * (Y : Int))) = ((valL (l.take (k + 1)) % 2 ^ 64 : Nat) : Int) := by
  have hk : k < l.length := by
    rcases Nat.lt_or_ge k l.length with h | h
    · exact h
    · rw [List.getElem?_eq_none h] at hc; cases hc
  rw [take_snoc' hc, valL_snoc, List.length_take, Nat.min_eq_left (by omega), wrapu, wrapu, h.x, h.y]
  have key : ∀ V M D : Nat, (V % 18446744073709551616 + (D * (M % 18446744073709551616)) % 18446744073709551616) % 18446744073709551616 = (V + M * D) % 18446744073709551616 := by
    intro V M D
    rw [Nat.mul_mod_mod, ← Nat.add_mod, Nat.mul_comm]
  have := congrArg (fun t : Nat => (t : Int)) (key (valL (l.take k)) (128 ^ k) (c.toNat % 128))
  refine Eq.trans ?_ this
  simp
  rw [Int.add_emod, Int.mul_emod, ← Int.mul_emod, ← Int.add_emod, Int.add_emod, Int.mul_emod, Int.emod_emod, ← Int.mul_emod, ← Int.add_emod]

theorem TkRel.ynext {l : List UInt8} {n k X Y : Nat} (h : TkRel l n k X Y) : IntKind.u64.wrap ((Y : Int) * 128) = ((128 ^ (k + 1) % 2 ^ 64 : Nat) : Int) := by
  rw [wrapu, h.y, show (128 : Nat) ^ (k + 1) = 128 ^ k * 128 from rfl, show (2 : Nat) ^ 64 = 18446744073709551616 from rfl]
  simp
  rw [Int.mul_emod, Int.emod_emod, ← Int.mul_emod]

theorem TkRel.next {l : List UInt8} {n k X Y : Nat} (h : TkRel l n k X Y) {c : UInt8} (hl : l.length = n) (hc : l[k]? = some c) (h8 : 128 ≤ c.toNat) (hk : k < 10) :
    TkRel l n (k + 1) (valL (l.take (k + 1)) % 2 ^ 64) (128 ^ (k + 1) % 2 ^ 64) := by
  have hkn : k < l.length := by
    rcases Nat.lt_or_ge k l.length with h | h
    · exact h
    · rw [List.getElem?_eq_none h] at hc; cases hc
  refine ⟨by omega, by omega, rfl, rfl, fun i d hi hd => ?_⟩
  by_cases e : i = k
  · subst e; rw [hc] at hd; cases hd; exact h8
  · exact h.hall i d (by omega) hd

set_option maxRecDepth 100000 in
set_option maxHeartbeats 1000000 in
theorem refTake_c {w : World} {B n c : Nat} {A : Option Addr} {l : List UInt8} (h : Rd w B A n c (bv l)) (hBw : B ≤ w.heap.size) (hn : n ≤ 70368744177664) :
    Calls Try.prog 40 #[.slice A n c] w (TakePost w l) := by
  have hl : l.length = n := by simpa using h.len
  have H := Lib.hid h
  have hB := Lib.hid hBw
  have HL := Lib.hid hl
  have HN := Lib.hid hn
  have hr0 : TkRel l n 0 0 1 := ⟨by omega, by omega, rfl, rfl, fun i c hi => by omega⟩
  clear h hl hn hBw
  go_enter Try.func40, Try.ntmps40
  go_wp2
  go_loop [5, 6, 7] (fun x y i => ∃ k X Y : Nat, x = .int .u64 (X : Int) ∧ y = .int .u64 (Y : Int) ∧ i = .int .i64 (k : Int) ∧ TkRel l n k X Y) (fun _ _ i => (10 - intOf i).toNat)
  case atStart => exact ⟨0, 0, 1, rfl, rfl, rfl, hr0⟩
  case round =>
    clear hr0
    obtain ⟨k, X, Y, rfl, rfl, rfl, hr⟩ := hrel
    have hkn := hr.kn
    have hk10 := hr.k10
    by_cases hlt : k < n
    · by_cases hlt10 : k < 10
      · have hd1 : decide ((k : Int) < (n : Int)) = true := by simp; omega
        have hd2 : decide ((k : Int) < 10) = true := by simp; omega
        have hd3 : decide (k < n) = true := by simp; omega
        obtain ⟨cc, hcc⟩ : ∃ cc, l[k]? = some cc := ⟨_, List.getElem?_eq_getElem (by rw [HL.out]; exact hlt)⟩
        obtain ⟨b, off, rfl, _, hcell⟩ := H.out.form (by omega)
        have hcell := hcell k (b8 cc) (by simp [bv, hcc])
        unfold b8 at hcell
        have hx := hr.xnext hcc
        have hy := hr.ynext
        have hcb : cc.toNat < 256 := cc.toNat_lt
        have HC := Lib.hid hcc
        by_cases h8 : cc.toNat < 128
        · have hat := takeN_at hr.hall hcc h8 hlt10
          have hxe : (IntKind.u64.wrap ((X : Int) + IntKind.u64.wrap ((cc.toNat : Int) % 128 * (Y : Int)))).toNat = valL (l.take (k + 1)) % 2 ^ 64 := by rw [hx]; exact Int.toNat_natCast _
          have hxlt : valL (l.take (k + 1)) % 2 ^ 64 < 2 ^ 64 := Nat.mod_lt _ (by decide)
          have P1 : ∀ W, Calls Try.prog 25 #[.slice none 0 0, .int .u64 (IntKind.u64.wrap ((X : Int) + IntKind.u64.wrap ((cc.toNat : Int) % 128 * (Y : Int))))] W (RetB W (shortL (valL (l.take (k + 1)) % 2 ^ 64))) := fun W => by
            have := refPut_c (w := W) (B := 0) (l := []) Rd.nilv (Nat.zero_le _) (IntKind.u64.wrap ((X : Int) + IntKind.u64.wrap ((cc.toNat : Int) % 128 * (Y : Int)))) (by rw [hx]; omega) (by rw [hx]; omega)
            rwa [List.nil_append, hxe] at this
          have HP := Lib.hid P1
          have HA := Lib.hid hat
          have HX := Lib.hid hx
          generalize valL (l.take (k + 1)) % 2 ^ 64 = x' at *
          clear hx hy hcc P1 hat hxe hxlt
          have hend : decide ((cc.toNat : Int) < 128) = true := by simp; omega
          have hlk : (l.take (k + 1)).length = k + 1 := by rw [List.length_take, HL.out]; omega
          have hRl : ∀ W, Below w.heap.size w W → Rd W B (some ⟨b, off, none⟩) n c (bv l) := fun W hb => H.out.under hb hB.out
          have HRl := Lib.hid hRl
          by_cases hsame : l.take (shortL x').length = shortL x'
          · by_cases hlen : (shortL x').length = k + 1
            · have hres : takeN l = some (x', k + 1) := by rw [HA.out, if_pos (by rw [← hlen]; exact hsame)]
              have HRES := Lib.hid hres
              have hrest : ∀ (W : World) (hb : Below w.heap.size w W), Calls Try.prog 53 #[.slice (some ⟨b, off, none⟩) n c, .int .i64 ((k : Int) + 1)] W (RetB W (l.drop (k + 1))) := fun W hb => rest_c (k := k + 1) (HRl.out W hb) HN.out (by omega)
              have HREST := Lib.hid hrest
              have hbt : (l.take (shortL x').length == shortL x') = true := by simpa using hsame
              have HBT := Lib.hid hbt
              have HLEN := Lib.hid hlen
              clear hsame hlen hres hrest hbt hRl hlk
              go_wp2_with fail
              refine (HP.out _).mono ?_
              rintro e w1 ⟨A1, n1, c1, rfl, hf1, hb1⟩
              go_wp2_with fail
              refine (refSame_c (HRl.out _ hb1) (hf1.rd (Nat.le_refl _))).mono ?_
              rw [HBT.out]
              rintro e w2 ⟨rfl, q, rfl⟩
              go_wp2_with fail
              refine (HP.out _).mono ?_
              rintro e w3 ⟨A3, n3, c3, rfl, hf3, hb3⟩
              have hn3 : n3 = k + 1 := by rw [← hf3.len, ← HLEN.out]; simp
              have hne : ((n3 : Int) != (k : Int) + 1) = false := by simp; omega
              clear hn3
              have hb4 : Below w.heap.size w w3 := hb1.trans ((below_drewN (Below.refl _ _) q).trans (hb3.mono (by have := hb1.size; simpa using this)))
              go_wp2_with fail
              refine (HREST.out _ hb4).mono ?_
              rintro e w5 ⟨A5, n5, c5, rfl, hf5, hb5⟩
              go_wp2
              go_ret3
              exact TakePost.some HRES.out ⟨A5, n5, c5, tup3 HX.out, hf5.mono hb4.size, hb4.trans (hb5.mono hb4.size)⟩
            · have hres : takeN l = none := by rw [HA.out, if_neg (fun e => hlen (by rw [← e]; exact hlk))]
              have HRES := Lib.hid hres
              have hbt : (l.take (shortL x').length == shortL x') = true := by simpa using hsame
              have HBT := Lib.hid hbt
              have HLEN := Lib.hid hlen
              clear hsame hlen hres hbt hRl hlk
              go_wp2_with fail
              refine (HP.out _).mono ?_
              rintro e w1 ⟨A1, n1, c1, rfl, hf1, hb1⟩
              go_wp2_with fail
              refine (refSame_c (HRl.out _ hb1) (hf1.rd (Nat.le_refl _))).mono ?_
              rw [HBT.out]
              rintro e w2 ⟨rfl, q, rfl⟩
              go_wp2_with fail
              refine (HP.out _).mono ?_
              rintro e w3 ⟨A3, n3, c3, rfl, hf3, hb3⟩
              have hn3 : n3 ≠ k + 1 := by rw [← hf3.len]; simpa using HLEN.out
              have hne : ((n3 : Int) != (k : Int) + 1) = true := by simp; omega
              clear hn3
              have hb4 : Below w.heap.size w w3 := hb1.trans ((below_drewN (Below.refl _ _) q).trans (hb3.mono (by have := hb1.size; simpa using this)))
              go_wp2
              go_ret3
              exact TakePost.none HRES.out ⟨none, 0, 0, rfl, Fr.nil, hb4⟩
          · have hres : takeN l = none := by
              rw [HA.out, if_neg]
              intro e
              apply hsame
              rw [← e, hlk]
            have HRES := Lib.hid hres
            have hbt : (l.take (shortL x').length == shortL x') = false := by simpa using hsame
            have HBT := Lib.hid hbt
            clear hsame hres hbt hRl hlk
            go_wp2_with fail
            refine (HP.out _).mono ?_
            rintro e w1 ⟨A1, n1, c1, rfl, hf1, hb1⟩
            go_wp2_with fail
            refine (refSame_c (HRl.out _ hb1) (hf1.rd (Nat.le_refl _))).mono ?_
            rw [HBT.out]
            rintro e w2 ⟨rfl, q, rfl⟩
            go_wp2
            go_ret3
            exact TakePost.none HRES.out ⟨none, 0, 0, rfl, Fr.nil, below_drewN hb1 q⟩
        · have hnx := hr.next HL.out hcc (by omega) hlt10
          have HX := Lib.hid hx
          have HY := Lib.hid hy
          clear hx hy hcc
          go_wp2
          go_round
          case rel => exact ⟨_, _, _, by rw [HX.out], by rw [HY.out], by simp, hnx⟩
          case measure => simp [intOf]; omega
      · have hres : takeN l = none := takeN_none_of_all hr.hall (by omega)
        have HRES := Lib.hid hres
        have hd1 : decide ((k : Int) < (n : Int)) = true := by simp; omega
        have hd2 : decide ((k : Int) < 10) = false := by simp; omega
        have hd3 : decide (k < n) = true := by simp; omega
        clear hres
        go_wp2
        go_ret3
        exact TakePost.none HRES.out ⟨none, 0, 0, rfl, Fr.nil, Below.refl _ _⟩
    · have hres : takeN l = none := takeN_none_of_all hr.hall (by have := HL.out; omega)
      have HRES := Lib.hid hres
      have hd1 : decide ((k : Int) < (n : Int)) = false := by simp; omega
      have hd3 : decide (k < n) = false := by simp; omega
      clear hres
      go_wp2
      go_ret3
      exact TakePost.none HRES.out ⟨none, 0, 0, rfl, Fr.nil, Below.refl _ _⟩
end Go.Proofs.Ythgbafhfeblhaaa
end

section
/-
  Contracts: the reference's PutText, TakeText.
-/
namespace Go.Proofs.Ythgbafhfeblhaaa
set_option maxRecDepth 100000
open Go.RowKit

def textL (s : ByteArray) : List UInt8 := shortL s.size ++ s.data.toList

set_option maxRecDepth 100000 in
set_option maxHeartbeats 400000 in
theorem refPutText_c {w : World} {B n c : Nat} {A : Option Addr} {l : List UInt8} (h : Rd w B A n c (bv l)) (hn : n ≤ 70368744100000) (s : ByteArray) (hs : s.size ≤ 60000) :
    Calls Try.prog 26 #[.slice A n c, .string s] w (RetB w (l ++ textL s)) := by
  have hl : l.length = n := by simpa using h.len
  have hp := refPut_c h (by omega) (s.size : Int) (by omega) (by omega)
  rw [Int.toNat_natCast] at hp
  have hsl := shortL_len s.size
  have HP := Lib.hid hp
  have HL := Lib.hid hl
  have HS := Lib.hid hsl
  have HN := Lib.hid hn
  clear hp hl hsl h hn
  go_enter Try.func26, Try.ntmps26
  go_wp2_with fail
  refine HP.out.mono ?_
  rintro e w1 ⟨A1, n1, c1, rfl, hf1, hb1⟩
  have hn1 : n1 ≤ 70368744100010 := by
    have := hf1.len; have := HL.out; have := HS.out; have := HN.out; simp at *; omega
  have HN1 := Lib.hid hn1
  have hbs := hb1.size
  clear hn1
  go_wp2_with (at_builtin; refine wpList_apps rfl (.tmp 9) (.tmp 10) _ _ rfl Try.underlying26 Try.underlying9 info_u8 rfl hf1 rfl (by have := HN1.out; omega) hbs ?_; intro A' c' w' hf hb hg)
  go_ret
  refine ⟨A', _, c', rfl, ?_, hb1.trans hb⟩
  unfold textL
  rw [← List.append_assoc, bv_append]
  exact hf

/-- The text that bytes begin with, of at most so many bytes; and the rest. -/
def textTake (l : List UInt8) (most : Int) : Option (List UInt8 × List UInt8) :=
  match takeN l with
  | some (v, m) => if 0 ≤ most ∧ (v : Int) ≤ most ∧ v ≤ (l.drop m).length then some ((l.drop m).take v, (l.drop m).drop v) else none
  | none => none

def RetSB (w : World) (s l : List UInt8) (ok : Bool) (e : Ending) (w' : World) : Prop :=
  ∃ A n c, e = .returned (.tuple #[.string ⟨s.toArray⟩, .slice A n c, .bool ok]) ∧ Fr w' w.heap.size 5 A n c (bv l) ∧ Below w.heap.size w w'
def TextPost (w : World) (l : List UInt8) (most : Int) (e : Ending) (w' : World) : Prop :=
  match textTake l most with
  | some (s, r) => RetSB w s r true e w'
  | none => RetSB w [] [] false e w'
theorem TextPost.some {w : World} {l s r : List UInt8} {most : Int} {e : Ending} {w' : World} (h : textTake l most = some (s, r)) (hp : RetSB w s r true e w') : TextPost w l most e w' := by
  simp only [TextPost, h]; exact hp
theorem TextPost.none {w : World} {l : List UInt8} {most : Int} {e : Ending} {w' : World} (h : textTake l most = none) (hp : RetSB w [] [] false e w') : TextPost w l most e w' := by
  simp only [TextPost, h]; exact hp

set_option maxRecDepth 100000 in
set_option maxHeartbeats 1000000 in
theorem refTakeText_c {w : World} {B n c : Nat} {A : Option Addr} {l : List UInt8} (h : Rd w B A n c (bv l)) (hBw : B ≤ w.heap.size) (hn : n ≤ 70368744177664) (most : Int) (hm0 : -9223372036854775808 ≤ most) (hm1 : most ≤ 9223372036854775807) :
    Calls Try.prog 41 #[.slice A n c, .int .i64 most] w (TextPost w l most) := by
  have ht := refTake_c h hBw hn
  have hl : l.length = n := by simpa using h.len
  cases hv : takeN l with
  | none =>
    have hres : textTake l most = none := by simp [textTake, hv]
    have HT := Lib.hid (ht.mono (R' := RetNB w .u64 0 [] false) (fun e w' hp => by simpa only [TakePost, hv] using hp))
    have HR := Lib.hid hres
    clear ht hl hv hres h hn hm0 hm1
    go_enter Try.func41, Try.ntmps41
    go_wp2_with fail
    refine HT.out.mono ?_
    rintro e w1 ⟨A1, n1, c1, rfl, hf1, hb1⟩
    go_wp2
    go_ret3
    exact TextPost.none HR.out ⟨none, 0, 0, rfl, Fr.nil, hb1⟩
  | some r =>
    obtain ⟨v, m⟩ := r
    have hres : textTake l most = if 0 ≤ most ∧ (v : Int) ≤ most ∧ v ≤ (l.drop m).length then some ((l.drop m).take v, (l.drop m).drop v) else none := by simp [textTake, hv]
    have hle := takeN_le hv
    have HT := Lib.hid (ht.mono (R' := RetNB w .u64 v (l.drop m) true) (fun e w' hp => by simpa only [TakePost, hv] using hp))
    have HLE := Lib.hid hle
    have HL := Lib.hid hl
    have HR := Lib.hid hres
    have HN := Lib.hid hn
    clear ht hl hv hres h hn hle
    by_cases h0 : most < 0
    · have hfin : textTake l most = none := by rw [HR.out, if_neg (by omega)]
      have HF := Lib.hid hfin
      clear hfin
      have hd : decide (most < 0) = true := by simp; omega
      go_enter Try.func41, Try.ntmps41
      go_wp2_with fail
      refine HT.out.mono ?_
      rintro e w1 ⟨A1, n1, c1, rfl, hf1, hb1⟩
      go_wp2
      go_ret3
      exact TextPost.none HF.out ⟨none, 0, 0, rfl, Fr.nil, hb1⟩
    · by_cases h1 : most < (v : Int)
      · have hfin : textTake l most = none := by rw [HR.out, if_neg (by omega)]
        have HF := Lib.hid hfin
        clear hfin
        have hd : decide (most < 0) = false := by simp; omega
        have hd1 : decide (most < (v : Int)) = true := by simp; omega
        have hp : 0 ≤ most := by omega
        go_enter Try.func41, Try.ntmps41
        go_wp2_with fail
        refine HT.out.mono ?_
        rintro e w1 ⟨A1, n1, c1, rfl, hf1, hb1⟩
        go_wp2
        go_ret3
        exact TextPost.none HF.out ⟨none, 0, 0, rfl, Fr.nil, hb1⟩
      · by_cases h2 : l.length - m < v
        · have hfin : textTake l most = none := by rw [HR.out, if_neg (by simp; omega)]
          have HF := Lib.hid hfin
          have H2 := Lib.hid h2
          clear hfin h2
          have hd : decide (most < 0) = false := by simp; omega
          have hd1 : decide (most < (v : Int)) = false := by simp; omega
          have hp : 0 ≤ most := by omega
          go_enter Try.func41, Try.ntmps41
          go_wp2_with fail
          refine HT.out.mono ?_
          rintro e w1 ⟨A1, n1, c1, rfl, hf1, hb1⟩
          have hn1 : n1 < v := by rw [← hf1.len]; have := H2.out; simpa using this
          have hd2 : decide ((n1 : Int) < (v : Int)) = true := by simp; omega
          have hd3 : decide (n1 < v) = true := by simp; omega
          have hb1n : (n1 : Int) ≤ 9223372036854775807 := by rw [← hf1.len]; have := HL.out; have := HN.out; simp; omega
          go_wp2
          go_ret3
          exact TextPost.none HF.out ⟨none, 0, 0, rfl, Fr.nil, hb1⟩
        · have hfin : textTake l most = some ((l.drop m).take v, (l.drop m).drop v) := by rw [HR.out, if_pos (by simp; omega)]
          have HF := Lib.hid hfin
          have H2 := Lib.hid h2
          clear hfin h2
          have hd : decide (most < 0) = false := by simp; omega
          have hd1 : decide (most < (v : Int)) = false := by simp; omega
          have hp : 0 ≤ most := by omega
          go_enter Try.func41, Try.ntmps41
          go_wp2_with fail
          refine HT.out.mono ?_
          rintro e w1 ⟨A1, n1, c1, rfl, hf1, hb1⟩
          have hn1 : v ≤ n1 := by rw [← hf1.len]; have := H2.out; simp; omega
          have hd2 : decide ((n1 : Int) < (v : Int)) = false := by simp; omega
          have hd3 : decide (n1 < v) = false := by simp; omega
          have hb1n : (n1 : Int) ≤ 9223372036854775807 := by rw [← hf1.len]; have := HL.out; have := HN.out; simp; omega
          have hcap := (hf1.rd (Nat.le_refl _)).cap
          have hsl := fun W => run_slice_hi_gen (P := Try.prog) (n := n1) (A := A1) 26 5 Try.underlying26 info_u8 .u64 (k := v) (c := c1) (by omega) W
          have hrd := hf1.rd (Nat.le_refl _)
          have hfr := hrd.front hn1
          rw [show (bv (l.drop m)).take v = bv ((l.drop m).take v) by simp [bv]] at hfr
          have r1 : ∀ W, Below w1.heap.size w1 W → (convert 26 9 (.slice A1 v c1)).run Try.prog W = .ok (.string ⟨((l.drop m).take v).toArray⟩) W := fun W hb => run_str (P := Try.prog) (hfr.below hb) 26 9 5 Try.underlying26 Try.underlying5 Try.underlying9
          have r0 := r1 _ (below_drewN (Below.refl _ _) 1)
          rw [show w1.drewN 1 = w1.drew from rfl] at r0
          have R1 := Lib.hid r1
          have hsm : n1 ≤ 70368744177664 := by rw [← hf1.len]; have := HL.out; have := HN.out; simp; omega
          have hrest := rest_c (w := w1.drew) hrd.drew hsm hn1
          have HREST := Lib.hid hrest
          have hwv : IntKind.i64.wrap (v : Int) = (v : Int) := IntWalk.i64_in _ (by omega)
          clear r1 hsm hrest hcap
          go_wp2_with fail
          go_region_with (go_at_call 53; refine HREST.out.mono ?_; rintro e w2 ⟨A2, n2, c2, rfl, hf2, hb2⟩; have r2 := R1.out w2 ((below_drewN (Below.refl _ _) 1).trans hb2))
          all_goals go_wp2
          all_goals go_ret3
          all_goals exact TextPost.some HF.out ⟨_, _, _, rfl, hf2.mono hb1.size, hb1.trans ((below_drewN (Below.refl _ _) 1).trans (hb2.mono hb1.size))⟩
end Go.Proofs.Ythgbafhfeblhaaa
end
