/-
  What bytes begin with, taken: the contracts of edit's take (of a number, of a text), takeNumber, takeKey, takeNote.
-/
import Derived.Test.YthgbafhfeblhaaaEdB
import Derived.BigQuiet
import Derived.Handy
import Derived.Lib.MinMax
import Derived.Laws.Concat
namespace Go.Proofs.Ythgbafhfeblhaaa
set_option maxRecDepth 100000
open Go.RowKit Go.Shelf
set_option linter.unusedSimpArgs false
set_option linter.unusedVariables false

theorem wrapi (x : Int) (h0 : -9223372036854775808 ≤ x) (h1 : x ≤ 9223372036854775807) : IntKind.i64.wrap x = x := by
  simp [IntKind.wrap, IntKind.bits, IntKind.signed]; omega
theorem takeN_near (l : List UInt8) : takeN (l.take 10) = takeN l := by
  cases ht : takeN l with
  | none =>
    cases hu : takeN (l.take 10) with
    | none => rfl
    | some y => have := takeN_prefix (v := y.1) (m := y.2) hu (List.take_prefix 10 l); rw [ht] at this; cases this
  | some y =>
    obtain ⟨v, m⟩ := y
    obtain ⟨h1, h2, h3⟩ := (takeN_iff l v m).1 ht
    refine (takeN_iff _ v m).2 ⟨h1, h2, ?_⟩
    obtain ⟨r, rfl⟩ := h3
    have := shortL_len v
    rw [List.take_append, List.take_of_length_le (by omega)]
    exact List.prefix_append _ _
theorem drop_near {l : List UInt8} {m : Nat} (h : m ≤ (l.take 10).length) : (l.take 10).length - ((l.take 10).drop m).length = m := by
  rw [List.length_drop]; omega
theorem textTake_near (l : List UInt8) : textTake l 64 = match textTake (l.take 65) 64 with | some (s, r) => some (s, l.drop ((l.take 65).length - r.length)) | none => none := by
  cases hu : textTake (l.take 65) 64 with
  | some y =>
    obtain ⟨s, r⟩ := y
    have h1 := (text_put hu).1
    have h2 := textTake_64 hu
    have hl : l = textL ⟨s.toArray⟩ ++ (r ++ l.drop 65) := by rw [← List.append_assoc, h1, List.take_append_drop]
    have hs : (⟨s.toArray⟩ : ByteArray).size = s.length := by rw [← size_list]
    simp only
    have hk : (l.take 65).length - r.length = (textL ⟨s.toArray⟩).length := by rw [← h1, List.length_append]; omega
    rw [hk]
    have h3 := textTake_text ⟨s.toArray⟩ (by omega) (r ++ l.drop 65) 64
    rw [← hl, if_pos (by omega)] at h3
    rw [h3]
    have h4 : l.drop (textL ⟨s.toArray⟩).length = r ++ l.drop 65 := by
      have := List.drop_left' (l₁ := textL ⟨s.toArray⟩) (l₂ := r ++ l.drop 65) rfl
      rw [← hl] at this; exact this
    rw [h4]
  | none =>
    simp only
    cases ht : textTake l 64 with
    | none => rfl
    | some y =>
      obtain ⟨s, r⟩ := y
      have h1 := (text_put ht).1
      have h2 := textTake_64 ht
      have hs : (⟨s.toArray⟩ : ByteArray).size = s.length := by rw [← size_list]
      have hlen : (textL ⟨s.toArray⟩).length ≤ 65 := by
        rw [textL_len, hs]
        have : (shortL s.length).length = 1 := by
          unfold shortL; simp only [shortF]; rw [if_pos (by omega)]; rfl
        omega
      have h3 : l.take 65 = textL ⟨s.toArray⟩ ++ r.take (65 - (textL ⟨s.toArray⟩).length) := by
        rw [← h1, List.take_append, List.take_of_length_le hlen]
      rw [h3, textTake_text ⟨s.toArray⟩ (by omega), if_pos (by omega)] at hu
      cases hu

/-- A number, or a text, with what is behind it, and whether there is one. -/
def NumR (w : World) (B : Nat) (x : Nat × List UInt8 × Bool) (e : Ending) (w' : World) : Prop :=
  ∃ A n c, e = .returned (.tuple #[.int .u64 (x.1 : Int), .slice A n c, .bool x.2.2]) ∧ Rd w' B A n c (bv x.2.1) ∧ Below w.heap.size w w'
def TxtR (w : World) (B : Nat) (x : List UInt8 × List UInt8 × Bool) (e : Ending) (w' : World) : Prop :=
  ∃ A n c, e = .returned (.tuple #[.string ⟨x.1.toArray⟩, .slice A n c, .bool x.2.2]) ∧ Rd w' B A n c (bv x.2.1) ∧ Below w.heap.size w w'

set_option maxRecDepth 100000 in
set_option maxHeartbeats 4000000 in
theorem take64_c {w : World} {B n c : Nat} {A : Option Addr} {l : List UInt8} (h : Rd w B A n c (bv l)) (hB : B ≤ w.heap.size) (hn : n ≤ 1000000) :
    Calls Try.prog 64 #[.slice A n c, .int .i64 10, .func (.func 65) #[] #[]] w (NumR w B (numP l)) := by
  have hcap := h.cap
  have hll : l.length = n := by simpa using h.len
  obtain ⟨k, hk⟩ : ∃ k, min 10 n = k := ⟨_, rfl⟩
  have hkn : k ≤ n := by omega
  have hki : (k : Int) ≤ 10 := by omega
  have hkl : (l.take 10).length = k := by rw [List.length_take]; omega
  have hnear : Rd w B A k c (bv (l.take 10)) := by
    have h1 := h.front hkn
    rw [bv_take] at h1
    have e : l.take k = l.take 10 := by
      rcases Nat.le_total 10 n with h2 | h2
      · congr 1; omega
      · rw [List.take_of_length_le (by omega), List.take_of_length_le (by omega)]
    rwa [e] at h1
  have hmin : ∀ (W : World) (ts : Array TypeId) (ty : TypeId), (Builtin.min_ ts ty #[.int .i64 10, .int .i64 (n : Int)]).run Try.prog W = .ok (.int .i64 (k : Int)) W := fun W ts ty => by
    rw [Lib.run_min_ints]; congr 2; omega
  have hsl := fun W => run_slice_hi_gen (P := Try.prog) (n := n) (A := A) 26 5 Try.underlying26 info_u8 .i64 (k := k) (c := c) (by omega) W
  have hT := take_c hnear hB (by omega)
  have hni : (n : Int) ≤ 1000000 := by omega
  have hback := fun j (hj : j ≤ n) => h.slice_lo 26 5 (P := Try.prog) Try.underlying26 info_u8 .i64 (k := j) hj
  have HB := Lib.hid hback
  clear hnear hcap hk h hback
  cases ht : takeN (l.take 10) with
  | none =>
    have hres : numP l = (0, [], false) := by unfold numP; rw [← takeN_near, ht]
    have HT := Lib.hid (hT.mono (fun _ _ hp => takePost_no ht hp))
    rw [hres]
    clear hT ht hres hll hkl hn
    go_enter Try.func64, Try.ntmps64
    go_wp2_with fail
    refine HT.out.mono ?_
    rintro e w1 ⟨A1, n1, c1, rfl, hf1, hb1⟩
    go_wp2_with fail
    go_returns
    exact ⟨none, 0, 0, rfl, Rd.nilv, hb1⟩
  | some p =>
    obtain ⟨x, m⟩ := p
    have hres : numP l = (x, l.drop m, true) := by unfold numP; rw [← takeN_near, ht]
    have hle := (takeN_le ht).1
    have HT := Lib.hid (hT.mono (fun _ _ hp => takePost_to ⟨ht, rfl⟩ hp))
    obtain ⟨r, hr⟩ : ∃ r, (l.take 10).drop m = r := ⟨_, rfl⟩
    have hrl : k - r.length = m := by rw [← hr, List.length_drop, hkl]; rw [hkl] at hle; omega
    have hrk : r.length ≤ k := by rw [← hr, List.length_drop, hkl]; omega
    rw [hr] at HT
    rw [← hrl] at hres
    rw [hres]
    obtain ⟨j, hj⟩ : ∃ j, k - r.length = j := ⟨_, rfl⟩
    rw [hj]
    obtain ⟨A2, hs2, hr2⟩ := HB.out j (by omega)
    rw [bv_drop] at hr2
    have hw0 : IntKind.i64.wrap ((k : Int) - (r.length : Int)) = (j : Int) := by rw [wrapi _ (by omega) (by omega)]; omega
    have HR2 := Lib.hid hr2
    obtain ⟨rl, hrl2⟩ : ∃ rl, r.length = rl := ⟨_, rfl⟩
    rw [hrl2] at hw0 hrk
    have HRL := Lib.hid hrl2
    clear hT ht hres hll hkl hn hr2 hj hrl2
    clear hrl
    go_enter Try.func64, Try.ntmps64
    go_wp2_with fail
    refine HT.out.mono ?_
    rintro e w1 ⟨A1, n1, c1, rfl, hf1, hb1⟩
    obtain rfl : n1 = rl := by have := hf1.len; have := HRL.out; simp at *; omega
    have HB1 := Lib.hid hb1
    clear hf1 hb1
    go_wp2_with fail
    go_quiet (fail)
    go_wp2_with fail
    go_returns
    exact ⟨_, _, _, rfl, (HR2.out.under HB1.out hB).drewN _, below_drewN HB1.out _⟩

set_option maxRecDepth 100000 in
set_option maxHeartbeats 2000000 in
theorem takeKey1_c {w : World} {B n c : Nat} {A : Option Addr} {l : List UInt8} (h : Rd w B A n c (bv l)) (hB : B ≤ w.heap.size) (hn : n ≤ 1000000) :
    Calls Try.prog 71 #[.slice A n c] w (TextPost w l 64) := by
  have HT := Lib.hid (takeText_c h hB (by omega) 64 (by omega) (by omega))
  clear h hn
  go_enter Try.func71, Try.ntmps71
  go_wp2_with fail
  refine HT.out.mono ?_
  intro e w1 hp
  unfold TextPost at hp
  cases ht : textTake l 64 with
  | none =>
    rw [ht] at hp
    obtain ⟨A1, n1, c1, rfl, hf1, hb1⟩ := hp
    go_wp2_with fail
    go_returns
    unfold TextPost
    rw [ht]
    exact ⟨A1, n1, c1, rfl, hf1, hb1⟩
  | some p =>
    rw [ht] at hp
    obtain ⟨s, r⟩ := p
    obtain ⟨A1, n1, c1, rfl, hf1, hb1⟩ := hp
    go_wp2_with fail
    go_returns
    unfold TextPost
    rw [ht]
    exact ⟨A1, n1, c1, rfl, hf1, hb1⟩

set_option maxRecDepth 100000 in
set_option maxHeartbeats 4000000 in
theorem takeS_c {w : World} {B n c : Nat} {A : Option Addr} {l : List UInt8} (h : Rd w B A n c (bv l)) (hB : B ≤ w.heap.size) (hn : n ≤ 1000000) :
    Calls Try.prog 70 #[.slice A n c, .int .i64 65, .func (.func 71) #[] #[]] w (TxtR w B (txtP l)) := by
  have hcap := h.cap
  have hll : l.length = n := by simpa using h.len
  obtain ⟨k, hk⟩ : ∃ k, min 65 n = k := ⟨_, rfl⟩
  have hkn : k ≤ n := by omega
  have hki : (k : Int) ≤ 65 := by omega
  have hkl : (l.take 65).length = k := by rw [List.length_take]; omega
  have hnear : Rd w B A k c (bv (l.take 65)) := by
    have h1 := h.front hkn
    rw [bv_take] at h1
    have e : l.take k = l.take 65 := by
      rcases Nat.le_total 65 n with h2 | h2
      · congr 1; omega
      · rw [List.take_of_length_le (by omega), List.take_of_length_le (by omega)]
    rwa [e] at h1
  have hmin : ∀ (W : World) (ts : Array TypeId) (ty : TypeId), (Builtin.min_ ts ty #[.int .i64 65, .int .i64 (n : Int)]).run Try.prog W = .ok (.int .i64 (k : Int)) W := fun W ts ty => by
    rw [Lib.run_min_ints]; congr 2; omega
  have hsl := fun W => run_slice_hi_gen (P := Try.prog) (n := n) (A := A) 26 5 Try.underlying26 info_u8 .i64 (k := k) (c := c) (by omega) W
  have hT := takeKey1_c hnear hB (by omega)
  have hni : (n : Int) ≤ 1000000 := by omega
  have hback := fun j (hj : j ≤ n) => h.slice_lo 26 5 (P := Try.prog) Try.underlying26 info_u8 .i64 (k := j) hj
  have HB := Lib.hid hback
  clear hnear hcap hk h hback
  cases ht : textTake (l.take 65) 64 with
  | none =>
    have hres : txtP l = ([], [], false) := by unfold txtP; rw [textTake_near, ht]
    have HT := Lib.hid (hT.mono (fun _ _ hp => textPost_no ht hp))
    rw [hres]
    clear hT ht hres hll hkl hn
    go_enter Try.func70, Try.ntmps70
    go_wp2_with fail
    refine HT.out.mono ?_
    rintro e w1 ⟨A1, n1, c1, rfl, hf1, hb1⟩
    go_wp2_with fail
    go_returns
    exact ⟨none, 0, 0, rfl, Rd.nilv, hb1⟩
  | some p =>
    obtain ⟨x, r⟩ := p
    have hres : txtP l = (x, l.drop (k - r.length), true) := by unfold txtP; rw [textTake_near, ht, hkl]
    have hrk : r.length ≤ k := by have := congrArg List.length (text_put ht).1; rw [List.length_append, hkl] at this; omega
    have HT := Lib.hid (hT.mono (fun _ _ hp => textPost_to ht hp))
    rw [hres]
    obtain ⟨j, hj⟩ : ∃ j, k - r.length = j := ⟨_, rfl⟩
    rw [hj]
    obtain ⟨A2, hs2, hr2⟩ := HB.out j (by omega)
    rw [bv_drop] at hr2
    have hw0 : IntKind.i64.wrap ((k : Int) - (r.length : Int)) = (j : Int) := by rw [wrapi _ (by omega) (by omega)]; omega
    have HR2 := Lib.hid hr2
    obtain ⟨rl, hrl2⟩ : ∃ rl, r.length = rl := ⟨_, rfl⟩
    rw [hrl2] at hw0 hrk
    have HRL := Lib.hid hrl2
    clear hT ht hres hll hkl hn hr2 hj hrl2
    skip
    go_enter Try.func70, Try.ntmps70
    go_wp2_with fail
    refine HT.out.mono ?_
    rintro e w1 ⟨A1, n1, c1, rfl, hf1, hb1⟩
    obtain rfl : n1 = rl := by have := hf1.len; have := HRL.out; simp at *; omega
    have HB1 := Lib.hid hb1
    clear hf1 hb1
    go_wp2_with fail
    go_quiet (fail)
    go_wp2_with fail
    go_returns
    exact ⟨_, _, _, rfl, (HR2.out.under HB1.out hB).drewN _, below_drewN HB1.out _⟩

set_option maxRecDepth 100000 in
set_option maxHeartbeats 2000000 in
theorem takeNumber_c {w : World} {B n c : Nat} {A : Option Addr} {l : List UInt8} (h : Rd w B A n c (bv l)) (hB : B ≤ w.heap.size) (hn : n ≤ 1000000) :
    Calls Try.prog 57 #[.slice A n c] w (NumR w B (numP l)) := by
  have HT := Lib.hid (take64_c h hB hn)
  clear h hn
  go_enter Try.func57, Try.ntmps57
  go_wp2_with fail
  refine HT.out.mono ?_
  rintro e w1 ⟨A1, n1, c1, rfl, hr1, hb1⟩
  have HR := Lib.hid hr1
  clear hr1
  go_wp2_with fail
  go_returns
  exact ⟨A1, n1, c1, rfl, HR.out, hb1⟩

set_option maxRecDepth 100000 in
set_option maxHeartbeats 2000000 in
theorem takeKey_c {w : World} {B n c : Nat} {A : Option Addr} {l : List UInt8} (h : Rd w B A n c (bv l)) (hB : B ≤ w.heap.size) (hn : n ≤ 1000000) :
    Calls Try.prog 66 #[.slice A n c] w (TxtR w B (txtP l)) := by
  have HT := Lib.hid (takeS_c h hB hn)
  clear h hn
  go_enter Try.func66, Try.ntmps66
  go_wp2_with fail
  refine HT.out.mono ?_
  rintro e w1 ⟨A1, n1, c1, rfl, hr1, hb1⟩
  have HR := Lib.hid hr1
  clear hr1
  go_wp2_with fail
  go_returns
  exact ⟨A1, n1, c1, rfl, HR.out, hb1⟩

def NoteR (w : World) (B : Nat) (x : Mt × List UInt8 × Bool) (e : Ending) (w' : World) : Prop :=
  ∃ A n c, e = .returned (.tuple #[mv x.1, .slice A n c, .bool x.2.2]) ∧ Rd w' B A n c (bv x.2.1) ∧ Below w.heap.size w w'
theorem txtP_rest (l : List UInt8) : (txtP l).2.1.length ≤ l.length := by
  cases h : (txtP l).2.2 with
  | false => rw [txtP_bad h]; exact Nat.zero_le _
  | true => have := congrArg List.length (txtP_ok h); rw [List.length_append] at this; omega
theorem numP_rest (l : List UInt8) : (numP l).2.1.length ≤ l.length := by
  cases h : (numP l).2.2 with
  | false => rw [numP_bad h]; exact Nat.zero_le _
  | true => have := congrArg List.length (numP_ok h).1; rw [List.length_append] at this; omega
theorem noteP_rest (l : List UInt8) : (noteP l).2.1.length ≤ l.length := by
  have a1 := numP_rest l; have a2 := numP_rest (numP l).2.1; have a3 := txtP_rest (numP (numP l).2.1).2.1; have a4 := txtP_rest (txtP (numP (numP l).2.1).2.1).2.1
  unfold noteP
  simp only
  omega
theorem rd_n {w : World} {B n c : Nat} {A : Option Addr} {l : List UInt8} (h : Rd w B A n c (bv l)) : n = l.length := by have := h.len; simpa using this.symm

set_option maxRecDepth 100000 in
set_option maxHeartbeats 4000000 in
theorem takeNote_c {w : World} {B n c : Nat} {A : Option Addr} {l : List UInt8} (h : Rd w B A n c (bv l)) (hB : B ≤ w.heap.size) (hn : n ≤ 1000000) :
    Calls Try.prog 58 #[.slice A n c] w (NoteR w B (noteP l)) := by
  have hll := rd_n h
  have a1 := numP_rest l; have a2 := numP_rest (numP l).2.1; have a3 := txtP_rest (numP (numP l).2.1).2.1
  have hx : noteP l = (⟨(numP l).1, (numP (numP l).2.1).1, ⟨(txtP (numP (numP l).2.1).2.1).1.toArray⟩, ⟨(txtP (txtP (numP (numP l).2.1).2.1).2.1).1.toArray⟩⟩, (txtP (txtP (numP (numP l).2.1).2.1).2.1).2.1, (txtP (txtP (numP (numP l).2.1).2.1).2.1).2.2) := rfl
  rw [hx]
  clear hx
  have hb0 : Below w.heap.size w (w.alloc (.cells #[.int .u64 0, .int .u64 0, .string ⟨#[]⟩, .string ⟨#[]⟩] 47)) := below_alloc w _
  have HB0 := Lib.hid hb0
  have hs0 : (w.alloc (.cells #[.int .u64 0, .int .u64 0, .string ⟨#[]⟩, .string ⟨#[]⟩] 47)).heap.size = w.heap.size + 1 := by simp
  have hr0 := h.under hb0 hB
  have hg0 : (w.alloc (.cells #[.int .u64 0, .int .u64 0, .string ⟨#[]⟩, .string ⟨#[]⟩] 47)).heap[w.heap.size]? = some (.cells #[.int .u64 0, .int .u64 0, .string ⟨#[]⟩, .string ⟨#[]⟩] 47 (0, 0)) := heap_alloc_new w _
  have HC1 := Lib.hid (takeNumber_c hr0 (by omega) hn)
  have HG0 := Lib.hid hg0
  have HS0 := Lib.hid hs0
  obtain ⟨x1, e1⟩ : ∃ x1, x1 = numP l := ⟨_, rfl⟩
  rw [← e1] at a1 a2 a3 HC1 ⊢
  obtain ⟨x2, e2⟩ : ∃ x2, x2 = numP x1.2.1 := ⟨_, rfl⟩
  rw [← e2] at a2 a3 ⊢
  obtain ⟨x3, e3⟩ : ∃ x3, x3 = txtP x2.2.1 := ⟨_, rfl⟩
  rw [← e3] at a3 ⊢
  obtain ⟨x4, e4⟩ : ∃ x4, x4 = txtP x3.2.1 := ⟨_, rfl⟩
  rw [← e4]
  have A1 := Lib.hid a1
  have A2 := Lib.hid a2
  have A3 := Lib.hid a3
  have E1 := Lib.hid e1
  have E2 := Lib.hid e2
  have E3 := Lib.hid e3
  have E4 := Lib.hid e4
  have HN := Lib.hid (show l.length ≤ 1000000 by omega)
  clear h hn hll hb0 hr0 hg0 hs0 a1 a2 a3 e1 e2 e3 e4
  go_enter Try.func58, Try.ntmps58
  go_wp2_with fail
  refine HC1.out.mono ?_
  rintro e w1 ⟨A1', n1, c1, rfl, hr1, hb1⟩
  have HC2 := Lib.hid (takeNumber_c hr1 (Nat.le_trans hB (by have := hb1.size; have := HS0.out; omega)) (by have := rd_n hr1; have := A1.out; have := HN.out; omega))
  rw [← E2.out] at HC2
  have HB1 := Lib.hid hb1
  clear hr1 hb1
  go_wp2_with fail
  refine HC2.out.mono ?_
  rintro e w2 ⟨A2', n2, c2, rfl, hr2, hb2⟩
  have HC3 := Lib.hid (takeKey_c hr2 (Nat.le_trans hB (by have := HB1.out.size; have := hb2.size; have := HS0.out; omega)) (by have := rd_n hr2; have := A1.out; have := A2.out; have := HN.out; omega))
  rw [← E3.out] at HC3
  have HB2 := Lib.hid (bon HB1.out hb2)
  clear hr2 hb2
  go_wp2_with fail
  refine HC3.out.mono ?_
  rintro e w3 ⟨A3', n3, c3, rfl, hr3, hb3⟩
  have HC4 := Lib.hid (takeKey_c hr3 (Nat.le_trans hB (by have := HB2.out.size; have := hb3.size; have := HS0.out; omega)) (by have := rd_n hr3; have := A1.out; have := A2.out; have := A3.out; have := HN.out; omega))
  rw [← E4.out] at HC4
  have HB3 := Lib.hid (bon HB2.out hb3)
  clear hr3 hb3
  go_wp2_with fail
  refine HC4.out.mono ?_
  rintro e w4 ⟨A4', n4, c4, rfl, hr4, hb4⟩
  have hb5 := bon HB3.out hb4
  have hg4 : B4 w4 w.heap.size 47 (.int .u64 0) (.int .u64 0) (.string ⟨#[]⟩) (.string ⟨#[]⟩) := ⟨by rw [hb5.block _ (by have := HS0.out; omega)]; exact HG0.out⟩
  have HR4 := Lib.hid hr4
  have HB5 := Lib.hid (bon HB0.out hb5)
  have HG4 := Lib.hid hg4
  clear hr4 hb4 hb5
  obtain ⟨q0, q1, q2, q3, z0, z1, z2, z3⟩ := hg4.cells
  clear hg4
  go_wp2_with fail
  have hset := HG4.out.set (.int .u64 (x1.1 : Int)) (.int .u64 (x2.1 : Int)) (.string ⟨x3.1.toArray⟩) (.string ⟨x4.1.toArray⟩)
  have hbs := set4_below HB5.out (Nat.le_refl w.heap.size) (.int .u64 (x1.1 : Int)) (.int .u64 (x2.1 : Int)) (.string ⟨x3.1.toArray⟩) (.string ⟨x4.1.toArray⟩)
  have hrs := HR4.out.keep (w' := set4 w4 w.heap.size (.int .u64 (x1.1 : Int)) (.int .u64 (x2.1 : Int)) (.string ⟨x3.1.toArray⟩) (.string ⟨x4.1.toArray⟩)) (fun p hp => (set4_below (Below.refl w.heap.size w4) (Nat.le_refl _) _ _ _ _).cell (Nat.lt_of_lt_of_le hp hB))
  unfold set4 at hset hbs hrs
  revert hset hbs hrs
  generalize (((w4.setCell ⟨w.heap.size, 0, none⟩ (.int .u64 (x1.1 : Int))).setCell ⟨w.heap.size, 1, none⟩ (.int .u64 (x2.1 : Int))).setCell ⟨w.heap.size, 2, none⟩ (.string ⟨x3.1.toArray⟩)).setCell ⟨w.heap.size, 3, none⟩ (.string ⟨x4.1.toArray⟩) = wz
  intro hset hbs hrs
  obtain ⟨y0, y1, y2, y3, _, _, _, _⟩ := hset.cells
  (try simp only [Exit.inBlock, Exit.then])
  refine bodyPost_ret (v := .tuple #[mv ⟨x1.1, x2.1, ⟨x3.1.toArray⟩, ⟨x4.1.toArray⟩⟩, .slice A4' n4 c4, .bool x4.2.2]) (by simp [mv, results, Try.results58, go_sem, y0, y1, y2, y3]; try rfl) rfl ?_
  exact ⟨_, _, _, rfl, hrs, hbs⟩
end Go.Proofs.Ythgbafhfeblhaaa
