/-
  What bytes begin with, shown near: the contracts of take, of texts and of numbers.
-/
import Derived.Test.YthgaiimgfnbkaaaGreatDoorBtP
import Derived.Deep.QuietTactic
import Derived.BigQuiet
import Derived.Lib.MinMax
namespace Go.Proofs.YthgaiimgfnbkaaaGreatDoor
set_option maxRecDepth 100000
open Go.RowKit Go.Shelf

theorem takeN_near {l : List UInt8} {N : Nat} (hN : 10 ≤ N ∨ l.length ≤ N) : takeN (l.take N) = takeN l := by
  rcases Nat.lt_or_ge N l.length with h | h
  · have hN : 10 ≤ N := by omega
    have key : ∀ v m, takeN (l.take N) = some (v, m) ↔ takeN l = some (v, m) := by
      intro v m
      rw [takeN_iff, takeN_iff]
      have := shortL_len v
      have hp : shortL v <+: l.take N ↔ shortL v <+: l := by
        rw [List.prefix_iff_eq_take, List.prefix_iff_eq_take, List.take_take, Nat.min_eq_left (by omega)]
      rw [hp]
    cases e : takeN l with
    | none =>
      cases e2 : takeN (l.take N) with
      | none => rfl
      | some x => obtain ⟨v, m⟩ := x; rw [(key v m).1 e2] at e; cases e
    | some x => obtain ⟨v, m⟩ := x; rw [(key v m).2 e]
  · rw [List.take_of_length_le h]
theorem near_text {l : List UInt8} {N most : Nat} (hN : N = min (10 + most) l.length) :
    (∀ s r, textTake (l.take N) (most : Int) = some (s, r) → textTake l (most : Int) = some (s, l.drop (N - r.length)) ∧ r.length ≤ N) ∧
    (textTake (l.take N) (most : Int) = none → textTake l (most : Int) = none) := by
  have hT := takeN_near (l := l) (N := N) (by omega)
  unfold textTake
  rw [hT]
  cases e : takeN l with
  | none => exact ⟨fun s r h => (by cases h), fun _ => rfl⟩
  | some x =>
    obtain ⟨v, m⟩ := x
    have hle := takeN_le e
    simp only [List.length_drop, List.length_take]
    by_cases hc : (v : Int) ≤ (most : Int) ∧ v ≤ l.length - m
    · rw [if_pos (show 0 ≤ (most : Int) ∧ (v : Int) ≤ (most : Int) ∧ v ≤ min N l.length - m by omega), if_pos (show 0 ≤ (most : Int) ∧ (v : Int) ≤ (most : Int) ∧ v ≤ l.length - m by omega)]
      refine ⟨fun s r h => ?_, fun h => by cases h⟩
      simp only [Option.some.injEq, Prod.mk.injEq] at h
      obtain ⟨rfl, rfl⟩ := h
      refine ⟨?_, by simp; omega⟩
      simp only [Option.some.injEq, Prod.mk.injEq]
      refine ⟨?_, ?_⟩
      · rw [List.drop_take, List.take_take, Nat.min_eq_left (by omega)]
      · rw [List.drop_drop]
        congr 1
        simp; omega
    · rw [if_neg (by omega), if_neg (by omega)]
      exact ⟨fun s r h => (by cases h), fun _ => rfl⟩

/-- A text, what is behind it, whether there is one. -/
structure NearR (l : List UInt8) (most : Int) (s r : List UInt8) (ok : Bool) : Prop where
  yes : ok = true → textTake l most = some (s, r)
  no : ok = false → textTake l most = none
  le : r.length ≤ l.length
def NearS (w : World) (B : Nat) (l : List UInt8) (most : Int) (e : Ending) (w' : World) : Prop :=
  ∃ s r ok A n c, e = .returned (.tuple #[.string ⟨s.toArray⟩, .slice A n c, .bool ok]) ∧ NearR l most s r ok ∧ Rd w' B A n c (bv r) ∧ Below w.heap.size w w'
/-- What a call of TakeText hands on, in one form. -/
structure TextR (l : List UInt8) (most : Int) (s r : List UInt8) (ok : Bool) : Prop where
  yes : ok = true → textTake l most = some (s, r)
  no : ok = false → textTake l most = none ∧ s = [] ∧ r = []
theorem TextPost.form {w : World} {l : List UInt8} {most : Int} {e : Ending} {w' : World} (h : TextPost w l most e w') : ∃ s r ok, TextR l most s r ok ∧ RetSB w s r ok e w' := by
  unfold TextPost at h
  split at h
  · next s r hs => exact ⟨s, r, true, ⟨fun _ => hs, fun e => (by cases e)⟩, h⟩
  · next hs => exact ⟨[], [], false, ⟨fun e => (by cases e), fun _ => ⟨hs, rfl, rfl⟩⟩, h⟩
theorem TextR.near {l s r : List UInt8} {N most : Nat} {ok : Bool} (hN : N = min (10 + most) l.length) (h : TextR (l.take N) (most : Int) s r ok) : r.length ≤ N ∧ NearR l (most : Int) s (l.drop (N - r.length)) ok := by
  obtain ⟨h1, h2⟩ := near_text hN
  cases ok with
  | true =>
    obtain ⟨h3, h4⟩ := h1 _ _ (h.yes rfl)
    exact ⟨h4, fun _ => h3, fun e => (by cases e), by simp⟩
  | false =>
    obtain ⟨h3, _, rfl⟩ := h.no rfl
    exact ⟨Nat.zero_le _, fun e => (by cases e), fun _ => h2 h3, by simp⟩
theorem bv_drop' (l : List UInt8) (k : Nat) : (bv l).drop k = bv (l.drop k) := by simp [bv]
theorem bv_take' (l : List UInt8) (k : Nat) : (bv l).take k = bv (l.take k) := by simp [bv]

set_option maxRecDepth 100000 in
set_option maxHeartbeats 1000000 in
theorem takeText1_c {w : World} {B n c : Nat} {A : Option Addr} {l : List UInt8} (h : Rd w B A n c (bv l)) (hB : B ≤ w.heap.size) (hn : n ≤ 70368744000000) (most : Nat) (hm : most ≤ 1000) {g : Nat} (hg : w.cell? ⟨g, 0, none⟩ = some (.int .i64 (most : Int))) :
    Calls Tryz.prog 106 #[.slice A n c, .pointer (some ⟨g, 0, none⟩)] w (TextPost w l (most : Int)) := by
  have HT := Lib.hid (takeText_c h hB (by omega) (most : Int) (by omega) (by omega))
  clear h hn hm
  go_enter Tryz.func106, Tryz.ntmps106
  go_wp2_with fail
  refine HT.out.mono ?_
  intro e w1 hp
  obtain ⟨s, r, ok, ht, A1, n1, c1, rfl, hf, hb⟩ := hp.form
  have HP := Lib.hid hp
  clear hp
  go_wp2_with fail
  go_ret3
  exact HP.out

set_option maxRecDepth 100000 in
set_option maxHeartbeats 1000000 in
theorem takeStr_c {w : World} {B n c : Nat} {A : Option Addr} {l : List UInt8} (h : Rd w B A n c (bv l)) (hB : B ≤ w.heap.size) (hn : n ≤ 70368744000000) (most : Nat) (hm : most ≤ 1000) {g : Nat} (hg : w.cell? ⟨g, 0, none⟩ = some (.int .i64 (most : Int))) :
    Calls Tryz.prog 105 #[.slice A n c, .int .i64 (10 + (most : Int)), .func (.func 106) #[] #[.pointer (some ⟨g, 0, none⟩)]] w (NearS w B l (most : Int)) := by
  have hl : l.length = n := by simpa using h.len
  have hcap := h.cap
  obtain ⟨N, hN⟩ : ∃ N, N = min (10 + most) l.length := ⟨_, rfl⟩
  have hNn : N ≤ n := by omega
  have hmin : min (10 + (most : Int)) (n : Int) = (N : Int) := by omega
  have hs := fun W => run_slice_hi_gen (P := Tryz.prog) (n := n) (A := A) 26 5 Tryz.underlying26 info_u8 .i64 (k := N) (c := c) (by omega) W
  have hfr := h.front hNn
  rw [bv_take'] at hfr
  have HT := Lib.hid (takeText1_c hfr hB (by omega) most hm hg)
  have H := Lib.hid h
  have HN := Lib.hid hN
  have HL := Lib.hid hl
  have HBw := Lib.hid hB
  have hNi : (N : Int) ≤ 70368744000000 := by omega
  have hmi : (most : Int) ≤ 1000 := by omega
  clear hfr h hN hl hg hcap hB
  go_enter Tryz.func105, Tryz.ntmps105
  go_wp2_with fail
  refine HT.out.mono ?_
  intro e w1 hp
  obtain ⟨s, r, ok, ht, A1, n1, c1, rfl, hf, hb⟩ := hp.form
  clear hp hs
  have hr1 : r.length = n1 := by simpa using hf.len
  obtain ⟨hrN, hnear⟩ := ht.near HN.out
  rw [hr1] at hrN hnear
  obtain ⟨K, hK⟩ : ∃ K, K = N - n1 := ⟨_, rfl⟩
  have hw1 : IntKind.i64.wrap ((N : Int) - (n1 : Int)) = (K : Int) := by rw [IntKind.wrap_i64]; omega
  have hKn : K ≤ n := by omega
  rw [← hK] at hnear
  obtain ⟨A2, hsl, hr2⟩ := (H.out.under hb HBw.out).slice_lo 26 5 (P := Tryz.prog) Tryz.underlying26 info_u8 .i64 (k := K) hKn
  rw [bv_drop'] at hr2
  have hn1i : (n1 : Int) ≤ (N : Int) := by omega
  have HR := Lib.hid hr2
  have HNR := Lib.hid hnear
  clear hr2 hnear ht hf hr1 hK hrN
  go_wp2_with fail
  go_quiet (fail)
  go_wp2_with fail
  go_ret3
  exact ⟨s, _, ok, A2, n - K, c - K, rfl, HNR.out, HR.out.drewN _, below_drewN hb _⟩

set_option maxRecDepth 100000 in
set_option maxHeartbeats 1000000 in
theorem takeTextN_c {w : World} {B n c : Nat} {A : Option Addr} {l : List UInt8} (h : Rd w B A n c (bv l)) (hB : B ≤ w.heap.size) (hn : n ≤ 70368744000000) (most : Nat) (hm : most ≤ 1000) :
    Calls Tryz.prog 101 #[.slice A n c, .int .i64 (most : Int)] w (NearS w B l (most : Int)) := by
  have HT := Lib.hid (takeStr_c (h.alloc hB (.cells #[.int .i64 (most : Int)] 3)) (by simp; omega) hn most hm (g := w.heap.size) (Boxed.new w 3 _).cell)
  have hmi : (most : Int) ≤ 1000 := by omega
  clear h hn hm
  go_enter Tryz.func101, Tryz.ntmps101
  go_wp2_with fail
  refine HT.out.mono ?_
  rintro e w1 ⟨s, r, ok, A1, n1, c1, rfl, hnr, hrd, hb⟩
  go_wp2_with fail
  go_ret3
  exact ⟨s, r, ok, A1, n1, c1, rfl, hnr, hrd, (below_alloc w _).trans (hb.mono (by simp))⟩

/-! ## A number -/
structure NumR (l : List UInt8) (x : Nat) (r : List UInt8) (ok : Bool) : Prop where
  yes : ok = true → ∃ m, takeN l = some (x, m) ∧ r = l.drop m
  no : ok = false → takeN l = none ∧ x = 0 ∧ r = []
  le : (x : Int) ≤ 18446744073709551615
theorem TakePost.form {w : World} {l : List UInt8} {e : Ending} {w' : World} (h : TakePost w l e w') : ∃ x r ok, NumR l x r ok ∧ RetNB w .u64 x r ok e w' := by
  unfold TakePost at h
  split at h
  · next v m hs => exact ⟨v, l.drop m, true, ⟨fun _ => ⟨m, hs, rfl⟩, fun e => (by cases e), (by have := (takeN_le hs).2.2.2.1; omega)⟩, h⟩
  · next hs => exact ⟨0, [], false, ⟨fun e => (by cases e), fun _ => ⟨hs, rfl, rfl⟩, by decide⟩, h⟩
/-- A number, what is behind it, whether there is one. -/
structure NearN (l : List UInt8) (x : Nat) (r : List UInt8) (ok : Bool) : Prop where
  yes : ok = true → ∃ m, takeN l = some (x, m) ∧ r = l.drop m
  no : ok = false → takeN l = none
  le : (x : Int) ≤ 18446744073709551615
  len : r.length ≤ l.length
theorem NumR.near {l r : List UInt8} {x N : Nat} {ok : Bool} (hN : N = min 10 l.length) (h : NumR (l.take N) x r ok) : r.length ≤ N ∧ NearN l x (l.drop (N - r.length)) ok := by
  have hT := takeN_near (l := l) (N := N) (by omega)
  cases ok with
  | true =>
    obtain ⟨m, h3, rfl⟩ := h.yes rfl
    have hm := (takeN_le h3).1
    rw [hT] at h3
    refine ⟨by simp; omega, fun _ => ⟨m, h3, ?_⟩, fun e => (by cases e), h.le, by simp⟩
    congr 1
    simp at *; omega
  | false =>
    obtain ⟨h3, _, rfl⟩ := h.no rfl
    rw [hT] at h3
    exact ⟨Nat.zero_le _, fun e => (by cases e), fun _ => h3, h.le, by simp⟩
def NearNP (w : World) (B : Nat) (l : List UInt8) (e : Ending) (w' : World) : Prop :=
  ∃ x r ok A n c, e = .returned (.tuple #[.int .u64 ((x : Nat) : Int), .slice A n c, .bool ok]) ∧ NearN l x r ok ∧ Rd w' B A n c (bv r) ∧ Below w.heap.size w w'

set_option maxRecDepth 100000 in
set_option maxHeartbeats 1000000 in
theorem takeNum_c {w : World} {B n c : Nat} {A : Option Addr} {l : List UInt8} (h : Rd w B A n c (bv l)) (hB : B ≤ w.heap.size) (hn : n ≤ 70368744000000) :
    Calls Tryz.prog 90 #[.slice A n c, .int .i64 10, .func (.func 69) #[] #[]] w (NearNP w B l) := by
  have hl : l.length = n := by simpa using h.len
  have hcap := h.cap
  obtain ⟨N, hN⟩ : ∃ N, N = min 10 l.length := ⟨_, rfl⟩
  have hNn : N ≤ n := by omega
  have hmin : min (10 : Int) (n : Int) = (N : Int) := by omega
  have hs := fun W => run_slice_hi_gen (P := Tryz.prog) (n := n) (A := A) 26 5 Tryz.underlying26 info_u8 .i64 (k := N) (c := c) (by omega) W
  have hfr := h.front hNn
  rw [bv_take'] at hfr
  have HT := Lib.hid (take_c hfr hB (by omega))
  have H := Lib.hid h
  have HN := Lib.hid hN
  have HL := Lib.hid hl
  have HBw := Lib.hid hB
  have hNi : (N : Int) ≤ 70368744000000 := by omega
  clear hfr h hN hl hcap hB
  go_enter Tryz.func90, Tryz.ntmps90
  go_wp2_with fail
  refine HT.out.mono ?_
  intro e w1 hp
  obtain ⟨x, r, ok, ht, A1, n1, c1, rfl, hf, hb⟩ := hp.form
  clear hp hs
  have hr1 : r.length = n1 := by simpa using hf.len
  obtain ⟨hrN, hnear⟩ := ht.near HN.out
  rw [hr1] at hrN hnear
  obtain ⟨K, hK⟩ : ∃ K, K = N - n1 := ⟨_, rfl⟩
  have hw1 : IntKind.i64.wrap ((N : Int) - (n1 : Int)) = (K : Int) := by rw [IntKind.wrap_i64]; omega
  have hKn : K ≤ n := by omega
  rw [← hK] at hnear
  obtain ⟨A2, hsl, hr2⟩ := (H.out.under hb HBw.out).slice_lo 26 5 (P := Tryz.prog) Tryz.underlying26 info_u8 .i64 (k := K) hKn
  rw [bv_drop'] at hr2
  have hn1i : (n1 : Int) ≤ (N : Int) := by omega
  have HR := Lib.hid hr2
  have HNR := Lib.hid hnear
  clear hr2 hnear ht hf hr1 hK hrN
  go_wp2_with fail
  go_quiet (fail)
  go_wp2_with fail
  go_ret3
  exact ⟨x, _, ok, A2, n - K, c - K, rfl, HNR.out, HR.out.drewN _, below_drewN hb _⟩
end Go.Proofs.YthgaiimgfnbkaaaGreatDoor
