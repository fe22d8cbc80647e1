/-
  The texts TV, TO, TM, in one.
-/
import Derived.Test.YtkdjjdkcogolmaaGreatDoorTD
import Derived.Test.YtkdjjdkcogolmaaGreatDoorWp
import Derived.Lib.ItoaMem
import Derived.Lib.LaidTab
import Derived.Lib.SmallJoins
import Derived.Laws.Concat
import Derived.Laws.IdiomStrings
import Derived.BigCall
import Derived.BigGuard
import Derived.Test.YtkdjjdkcogolmaaGreatDoorCards
import Derived.Test.YtkdjjdkcogolmaaGreatDoorTie
import Derived.WalkKit
import Derived.ProofKit
import Derived.OpenShut
import Derived.ShutString
import Derived.Deep.DeepHandedRow
import Derived.Deep.Slices
import Derived.Stop.LaidErr
import Derived.LaidLaws
import Derived.Below
section
/-
  Names and numbers of logs.
-/
section
/-
  Contracts: the names and numbers of logs. What the library's package variables hold is a hypothesis ('Vars').
-/
namespace Go.Proofs.YtkdjjdkcogolmaaGreatDoor
set_option maxRecDepth 100000
open Go.RowKit Go.Shelf Go.Sort
set_option linter.unusedVariables false

/-- What the package variables hold that the library's code reads. -/
structure Vars (w : World) : Prop where
  tab : Lib.TabIs Tryz.prog w "internal/strconv.uint64pow10" .u64 Lib.pow10Tab
  es : ∃ tp p, w.cell? ⟨0, 0, none⟩ = some (.iface tp p)
  er : ∃ tp p, w.cell? ⟨1, 0, none⟩ = some (.iface tp p)
theorem gTab : Tryz.prog.globalNamed "internal/strconv.uint64pow10" = some 2 := by kernel_rfl
theorem Vars.now {w w' : World} (h : Vars w) (hb : Below w.heap.size w w') : Vars w' := by
  obtain ⟨h1, ⟨t1, p1, h2⟩, t2, p2, h3⟩ := h
  refine ⟨Joins.tab_stays gTab h1 hb (Nat.le_refl _), ⟨t1, p1, ?_⟩, t2, p2, ?_⟩
  · exact (hb.cell (p := ⟨0, 0, none⟩) (World.block_lt_of_cell? w _ h2)).trans h2
  · exact (hb.cell (p := ⟨1, 0, none⟩) (World.block_lt_of_cell? w _ h3)).trans h3

theorem small_c (i : Nat) (hi : i < 100) (w : World) : Calls Tryz.prog 104 #[.int .i64 (i : Int)] w fun e w' => e = .returned (.string ⟨(Lib.decDigits i).toArray⟩) ∧ w' = w := Any.internal_strconv_small Tryz.lays283 i hi w
theorem numDigits_c (u : Nat) (h1 : 1 ≤ u) (h2 : u < 18446744073709551616) (w : World) (h : Lib.TabIs Tryz.prog w "internal/strconv.uint64pow10" .u64 Lib.pow10Tab) :
    Calls Tryz.prog 105 #[.int .u64 (u : Int)] w fun e w' => e = .returned (.int .i64 (Lib.nDigits u : Int)) ∧ w' = w := Any.internal_strconv_numDigits Tryz.laysM284 u h1 h2 w h
theorem format_c (blk off cap u : Nat) (d : Array UInt8) (w : World) (hH : Holds (fun (b : UInt8) => Value.int .u8 (b.toNat : Int)) w blk off d) (hu : u < 10 ^ d.size) (hu64 : u < 18446744073709551616) (hsz : d.size < 4611686018427387904) :
    Calls Tryz.prog 106 #[.slice (some ⟨blk, off, none⟩) d.size cap, .int .u64 (u : Int)] w fun e w' =>
      e = .returned (.tuple #[]) ∧ ∃ (n v' : Nat) (dk : Array UInt8), w' = (putRow (fun (b : UInt8) => Value.int .u8 (b.toNat : Int)) w blk off dk).drewN n ∧ Lib.FmtInv d.size u 0 v' dk := Any.internal_strconv_formatBase10 Tryz.lays285 blk off cap u d w hH hu hu64 hsz
theorem cut_c (s p : ByteArray) (w : World) : Calls Tryz.prog 22 #[.string s, .string p] w fun e w' => e = .returned (.tuple #[.string ⟨(Lib.trimPrefix s.data.toList p.data.toList).toArray⟩, .bool (Lib.hasPrefix s.data.toList p.data.toList)]) ∧ w' = w := Any.strings_CutPrefix Tryz.lays103 s p w
theorem parse_ok (s : ByteArray) (hmax : s.size ≤ 9223372036854775806) (u : Nat) (h : Lib.parseUintB 64 s.data.toList = .ok u) (w : World) :
    Calls Tryz.prog 46 #[.string s, .int .i64 10, .int .i64 64] w fun e w' => e = .returned (.tuple #[.int .u64 (u : Int), .nilIface]) ∧ Below w.heap.size w w' :=
  (Any.strconv_ParseUint_10_at64_ok Tryz.laysPu14 s hmax u h w).mono fun e w' ⟨he, hw⟩ => ⟨he, by
    rcases hw with rfl | rfl
    · exact Below.refl _ _
    · exact Lib.bytesWorld_below _ _ _⟩
/-- Of what spells no number there is an error. -/
theorem parse_err (s : ByteArray) (hlim : s.size ≤ 281474976710656) (h : ∀ u, Lib.parseUintB 64 s.data.toList ≠ .ok u) (w : World) (hv : Vars w) :
    Calls Tryz.prog 46 #[.string s, .int .i64 10, .int .i64 64] w fun e w' => ∃ u t N, e = .returned (.tuple #[.int .u64 u, .iface t (.pointer (some ⟨N, 0, none⟩))]) ∧ Below w.heap.size w w' := by
  obtain ⟨t1, p1, h1⟩ := hv.es
  obtain ⟨t2, p2, h2⟩ := hv.er
  cases h3 : Lib.parseUintB 64 s.data.toList
  · exact absurd h3 (h _)
  · exact (Any.strconv_ParseUint_10_at64_syntax Tryz.laysPu14 s hlim h3 _ w h1 (.inr ⟨_, _, rfl⟩)).mono fun e w' ⟨N, he, _, _, hb⟩ => ⟨_, _, N, he, hb⟩
  · exact (Any.strconv_ParseUint_10_at64_range Tryz.laysPu14 s hlim h3 _ w h2 (.inr ⟨_, _, rfl⟩)).mono fun e w' ⟨N, he, _, _, hb⟩ => ⟨_, _, N, he, hb⟩

theorem holds_zero0 (w : World) (T : TypeId) (nd : Nat) (hs : nd ≤ 24) : Holds (fun (b : UInt8) => Value.int .u8 (b.toNat : Int)) (w.alloc (.cells Lib.zeros24 T)) w.heap.size 0 (Array.replicate nd (0 : UInt8)) := fun j hj => by
  have hj' : j < nd := by simpa using hj
  refine ⟨?_, World.frozen?_alloc_new _ _ _ _⟩
  rw [World.cell?_alloc_new, Lib.zeros24_at _ (by omega), getElem!_pos _ j hj]
  simp
theorem below_row (w : World) (o : Obj) (off : Nat) (d : Array UInt8) (k : Nat) : Below w.heap.size w ((putRow (fun (b : UInt8) => Value.int .u8 (b.toNat : Int)) (w.alloc o) w.heap.size off d).drewN k) := by
  refine below_drewN ?_ k
  refine (below_alloc w o).trans ⟨rfl, rfl, rfl, by simp [putRow, mapBlock], fun i hi => ?_⟩
  simp only [putRow, mapBlock]
  rw [Array.getElem?_modify, if_neg (by omega)]

set_option maxHeartbeats 4000000 in
theorem formatUint_c {w : World} (hv : Vars w) (u : Nat) (hu64 : u < 18446744073709551616) :
    Calls Tryz.prog 80 #[.int .u64 (u : Int), .int .i64 10] w (RetVl w (.string ⟨(Lib.decDigits u).toArray⟩)) := by
  by_cases hs : u < 100
  · have HS := Lib.hid fun W => small_c u hs W
    have hsi : (u : Int) < 100 := by omega
    have d1 : decide ((u : Int) < 100) = true := by simpa using hsi
    have d2 : decide (u < 100) = true := by simpa using hs
    clear hs
    go_enter Tryz.func80, Tryz.ntmps80
    go_wp2_with fail
    refine (HS.out _).mono ?_
    rintro e w1 ⟨rfl, rfl⟩
    go_wp2_with fail
    go_ret
    exact RetVl.of rfl (Below.refl _ _)
  · have hu1 : 1 ≤ u := by omega
    have hnd20 : Lib.nDigits u ≤ 20 := by have := Lib.numDigits_eq u hu1 hu64; split at this <;> omega
    have hal : Tryz.prog.arrayLen 123 = 24 := by kernel_rfl
    obtain ⟨nd, hnd⟩ : ∃ nd, Lib.nDigits u = nd := ⟨_, rfl⟩
    have hH0 := holds_zero0 w 123 nd (by omega)
    have hfmt := format_c w.heap.size 0 24 u (Array.replicate nd 0) (w.alloc (.cells Lib.zeros24 123)) hH0 (by rw [Array.size_replicate, ← hnd]; exact Lib.lt_pow_nDigits u) hu64 (by rw [Array.size_replicate]; omega)
    rw [Array.size_replicate] at hfmt
    have hnum := numDigits_c u hu1 hu64 (w.alloc (.cells Lib.zeros24 123)) (hv.now (below_alloc w _)).tab
    rw [hnd] at hnum hnd20
    have hsl : ∀ W, (Instr.sliceAt 123 (.pointer (some ⟨w.heap.size, 0, none⟩)) none (some (.int .i64 (nd : Int))) none).run Tryz.prog W = .ok (.slice (some ⟨w.heap.size, 0, none⟩) nd 24) W := fun W => by
      rw [run_sliceAt_array_h W 123 ⟨w.heap.size, 0, none⟩ (by kernel_rfl) .i64 (nd : Int) (by omega) (by rw [hal]; omega)]
      go_simp
    have HN := Lib.hid hnum
    have HF := Lib.hid hfmt
    have HH := Lib.hid hH0
    have HD := Lib.hid hnd
    have hui : (100 : Int) ≤ (u : Int) := by omega
    have d1 : decide ((u : Int) < 100) = false := by simp; omega
    have d2 : decide (u < 100) = false := by simp; omega
    clear hnum hfmt hH0 hnd hal hs hv hu1
    unfold Lib.zeros24 at HN HF
    go_enter Tryz.func80, Tryz.ntmps80
    go_wp2_with fail
    refine HN.out.mono ?_
    rintro e w1 ⟨rfl, rfl⟩
    go_wp2_with fail
    refine HF.out.mono ?_
    rintro e w1 ⟨rfl, k, v', dk, hw1, hF⟩
    have hcv : (convert 24 9 (.slice (some ⟨w.heap.size, 0, none⟩) nd 24)).run Tryz.prog w1 = .ok (.string ⟨(Lib.decDigits u).toArray⟩) w1 := by
      have h := run_convert_bytes_back (P := Tryz.prog) w1 24 9 5 ⟨w.heap.size, 0, none⟩ 24 (Lib.decDigits u) Tryz.underlying24 Tryz.underlying5 Tryz.underlying9 (fun j hj => by
        have hF' : Lib.FmtInv (Lib.nDigits u) u 0 v' dk := by rw [HD.out]; simpa using hF
        rw [Lib.row_is_numeral hF' j hj, Lib.add_plain, hw1, World.cell?_drewN]
        exact cell?_putRow (fun (b : UInt8) => Value.int .u8 (b.toNat : Int)) _ w.heap.size 0 _ dk HH.out (by rw [hF.size, Array.size_replicate]) j (by rw [hF.size]; rw [Lib.decDigits_length, HD.out] at hj; simpa using hj))
      rw [Lib.decDigits_length, HD.out] at h
      exact h
    have hb1 : Below w.heap.size w w1 := by rw [hw1]; exact below_row w _ 0 dk k
    clear hw1 hF
    go_wp2_with fail
    go_ret
    exact RetVl.of rfl hb1

set_option maxHeartbeats 1000000 in
theorem FormatUint_c {w : World} (hv : Vars w) (u : Nat) (hu64 : u < 18446744073709551616) :
    Calls Tryz.prog 61 #[.int .u64 (u : Int), .int .i64 10] w (RetVl w (.string ⟨(Lib.decDigits u).toArray⟩)) := by
  have HF := Lib.hid (formatUint_c hv u hu64)
  clear hv
  go_enter Tryz.func61, Tryz.ntmps61
  go_wp2_with fail
  refine HF.out.mono ?_
  rintro e w1 ⟨rfl, hb1⟩
  go_wp2_with fail
  go_ret
  exact ⟨rfl, hb1⟩

/-- A log's name. -/
def nameL (u : Nat) : List UInt8 := if u = 0 then [] else [108, 111, 103, 46] ++ Lib.decDigits u
theorem digits_len {u : Nat} (h : u < 18446744073709551616) : (Lib.decDigits u).length ≤ 20 ∧ 1 ≤ (Lib.decDigits u).length := by
  rw [Lib.decDigits_length]
  refine ⟨?_, Lib.nDigits_pos u⟩
  by_cases h1 : 1 ≤ u
  · have := Lib.numDigits_eq u h1 h; split at this <;> omega
  · obtain rfl : u = 0 := by omega
    rw [Lib.nDigits_small (by omega)]; omega
theorem run_cat6 {w : World} {a b c : ByteArray} (h : a.size + b.size ≤ 1000) (e : a ++ b = c) : (Op.stringOp .add a b).run Tryz.prog w = .ok (.string c) w := by
  rw [run_string_add_sum w a b (by omega), e]
theorem ba_app (a b : List UInt8) : (⟨a.toArray⟩ : ByteArray) ++ ⟨b.toArray⟩ = ⟨(a ++ b).toArray⟩ := by
  apply ByteArray.ext
  rw [ByteArray.data_append]
  simp
theorem ba_size (a : List UInt8) : (⟨a.toArray⟩ : ByteArray).size = a.length := by simp [ByteArray.size]

set_option maxHeartbeats 1000000 in
theorem name_c {w : World} (hv : Vars w) (u : Nat) (hu64 : u < 18446744073709551616) :
    Calls Tryz.prog 33 #[.int .u64 (u : Int)] w (RetVl w (.string ⟨(nameL u).toArray⟩)) := by
  have HF := Lib.hid (FormatUint_c hv u hu64)
  have hdl := digits_len hu64
  unfold nameL
  by_cases h0 : u = 0
  · subst h0
    rw [if_pos rfl]
    clear hv HF hdl
    go_enter Tryz.func33, Tryz.ntmps33
    go_wp2_with fail
    go_ret
    exact RetVl.of rfl (Below.refl _ _)
  · rw [if_neg h0]
    have d1 : ((u : Int) == 0) = false := by simp; omega
    have hcat : ∀ W : World, (Op.stringOp .add ⟨#[108, 111, 103, 46]⟩ ⟨(Lib.decDigits u).toArray⟩).run Tryz.prog W = .ok (.string ⟨([108, 111, 103, 46] ++ Lib.decDigits u).toArray⟩) W := fun W =>
      run_cat6 (by rw [ba_size (Lib.decDigits u)]; show 4 + _ ≤ 1000; omega) (ba_app [108, 111, 103, 46] _)
    generalize hds : Lib.decDigits u = ds at *
    generalize hdd : ([108, 111, 103, 46] ++ ds : List UInt8) = dd at *
    have hb1 : (ds.length : Int) ≤ 20 := by omega
    clear hv hdl hds hdd
    go_enter Tryz.func33, Tryz.ntmps33
    go_wp2_with fail
    refine HF.out.mono ?_
    rintro e w1 ⟨rfl, hb1⟩
    go_wp2_with fail
    go_ret
    exact RetVl.of rfl hb1
end Go.Proofs.YtkdjjdkcogolmaaGreatDoor
end
section
/-
  Contract: Number: the number whose name a text is.
-/
namespace Go.Proofs.YtkdjjdkcogolmaaGreatDoor
set_option maxRecDepth 100000
open Go.RowKit Go.Shelf Go.Sort
set_option linter.unusedVariables false

theorem parseM_snoc (M : Nat) (c : UInt8) : ∀ (l : List UInt8) (acc a : Nat), Lib.parseUintM M acc l = .ok a → 48 ≤ c.toNat → c.toNat ≤ 57 → a < 1844674407370955162 → a * 10 + (c.toNat - 48) ≤ M → Lib.parseUintM M acc (l ++ [c]) = .ok (a * 10 + (c.toNat - 48))
  | [], acc, a, h, h1, h2, h3, h4 => by
    simp only [Lib.parseUintM, Lib.NumEnd.ok.injEq] at h
    subst h
    simp only [List.nil_append, Lib.parseUintM]
    rw [if_pos ⟨h1, h2⟩, if_neg (by omega), if_neg (by omega)]
  | x :: l, acc, a, h, h1, h2, h3, h4 => by
    simp only [List.cons_append, Lib.parseUintM] at h ⊢
    split at h
    · rename_i hd
      rw [if_pos hd]
      split at h
      · cases h
      · rename_i hr
        rw [if_neg hr]
        split at h
        · cases h
        · rename_i hm
          rw [if_neg hm]
          exact parseM_snoc M c l _ a h h1 h2 h3 h4
    · cases h
theorem digit_toNat {k : Nat} (h : k < 10) : (UInt8.ofNat (48 + k)).toNat = 48 + k := by rw [UInt8.toNat_ofNat']; omega
theorem parse_digits : ∀ (v : Nat), v < 18446744073709551616 → Lib.parseUintM (2 ^ 64 - 1) 0 (Lib.decDigits v) = .ok v := by
  intro v
  induction v using Nat.strongRecOn with
  | _ v ih =>
    intro hv
    by_cases h : v < 10
    · rw [Lib.decDigits, dif_pos h]
      simp only [Lib.parseUintM, digit_toNat h]
      rw [if_pos (by omega), if_neg (by omega), if_neg (by omega)]
      congr 1; omega
    · rw [Lib.decDigits, dif_neg h]
      have h1 := ih (v / 10) (by omega) (by omega)
      have hd := digit_toNat (k := v % 10) (by omega)
      rw [parseM_snoc _ _ _ _ _ h1 (by omega) (by omega) (by omega) (by omega), hd]
      congr 1; omega
theorem parseB_digits {v : Nat} (h : v < 18446744073709551616) : Lib.parseUintB 64 (Lib.decDigits v) = .ok v := by
  unfold Lib.parseUintB
  rw [if_neg (by intro e; have := (digits_len h).2; rw [e] at this; simp at this), parse_digits v h]
theorem nameL_inj {u v : Nat} (hu : u < 18446744073709551616) (hv : v < 18446744073709551616) (h0 : 0 < u) (h1 : 0 < v) (h : nameL u = nameL v) : u = v := by
  unfold nameL at h
  rw [if_neg (by omega), if_neg (by omega)] at h
  have h2 := parse_digits u hu
  rw [List.append_cancel_left h, parse_digits v hv] at h2
  simpa using h2.symm
theorem nameL_len {u : Nat} (h : u < 18446744073709551616) : (nameL u).length ≤ 24 ∧ (0 < u → 5 ≤ (nameL u).length) := by
  have := digits_len h
  unfold nameL
  split
  · simp; omega
  · simp; omega

/-- What Number tells. -/
structure LogN (s : List UInt8) (u : Nat) (ok : Bool) : Prop where
  yes : ok = true → 0 < u ∧ u < 18446744073709551616 ∧ nameL u = s
  no : ok = false → u = 0 ∧ ∀ v, 0 < v → v < 18446744073709551616 → nameL v ≠ s
def NumPost (w : World) (s : List UInt8) (e : Ending) (w' : World) : Prop := ∃ (u : Nat) (ok : Bool), e = .returned (.tuple #[.int .u64 (u : Int), .bool ok]) ∧ LogN s u ok ∧ Below w.heap.size w w'
theorem LogN.one {s : List UInt8} {u u' : Nat} {ok ok' : Bool} (h : LogN s u ok) (h' : LogN s u' ok') : u = u' ∧ ok = ok' := by
  cases ok <;> cases ok'
  · exact ⟨by rw [(h.no rfl).1, (h'.no rfl).1], rfl⟩
  · have h1 := h'.yes rfl; exact absurd h1.2.2 ((h.no rfl).2 _ h1.1 h1.2.1)
  · have h1 := h.yes rfl; exact absurd h1.2.2 ((h'.no rfl).2 _ h1.1 h1.2.1)
  · have h1 := h.yes rfl
    have h2 := h'.yes rfl
    exact ⟨nameL_inj h1.2.1 h2.2.1 h1.1 h2.1 (h1.2.2.trans h2.2.2.symm), rfl⟩
theorem pre_iff (s : List UInt8) : Lib.hasPrefix s [108, 111, 103, 46] = true ↔ ∃ t, s = [108, 111, 103, 46] ++ t := by
  unfold Lib.hasPrefix
  rw [List.isPrefixOf_iff_prefix]
  constructor
  · rintro ⟨t, rfl⟩; exact ⟨t, rfl⟩
  · rintro ⟨t, rfl⟩; exact ⟨t, rfl⟩
theorem named_pre {s : List UInt8} {v : Nat} (h0 : 0 < v) (h : nameL v = s) : Lib.hasPrefix s [108, 111, 103, 46] = true ∧ s.drop 4 = Lib.decDigits v := by
  unfold nameL at h
  rw [if_neg (by omega)] at h
  subst h
  exact ⟨(pre_iff _).2 ⟨_, rfl⟩, rfl⟩
theorem wbeq_str (s t : ByteArray) : (s.toList == t.toList) = decide (s = t) := beq_strs s t

set_option maxHeartbeats 4000000 in
theorem wnumber_c {w : World} (hv : Vars w) (s : ByteArray) (hs : s.size ≤ 281474976710656) :
    Calls Tryz.prog 23 #[.string s] w (NumPost w s.data.toList) := by
  have HC := Lib.hid (cut_c s ⟨#[108, 111, 103, 46]⟩ w)
  have hsz : s.data.toList.length = s.size := Array.length_toList
  cases hp : Lib.hasPrefix s.data.toList [108, 111, 103, 46] with
  | false =>
    have hno : LogN s.data.toList 0 false := ⟨fun h => (by cases h), fun _ => ⟨rfl, fun v h0 hv2 h => by rw [(named_pre h0 h).1] at hp; cases hp⟩⟩
    have HNO := Lib.hid hno
    have htp : Lib.trimPrefix s.data.toList [108, 111, 103, 46] = s.data.toList := by unfold Lib.trimPrefix; rw [hp]; rfl
    have hC : Calls Tryz.prog 22 #[.string s, .string ⟨#[108, 111, 103, 46]⟩] w fun e w' => e = .returned (.tuple #[.string s, .bool false]) ∧ w' = w := by
      have := HC.out
      rw [show (⟨#[108, 111, 103, 46]⟩ : ByteArray).data.toList = [108, 111, 103, 46] from rfl, hp, htp] at this
      exact this
    have HC2 := Lib.hid hC
    clear HC hC hp htp hno hsz
    by_cases hk : ∃ u, Lib.parseUintB 64 s.data.toList = .ok u
    · obtain ⟨u, hu⟩ := hk
      have HP := Lib.hid (parse_ok s (by omega) u hu w)
      clear hu hv hs
      go_enter Tryz.func23, Tryz.ntmps23
      go_wp2_with fail
      refine HC2.out.mono ?_
      rintro e w1 ⟨rfl, rfl⟩
      go_wp2_with fail
      refine HP.out.mono ?_
      rintro e w1 ⟨rfl, hb1⟩
      go_wp2_with fail
      go_ret2
      exact ⟨0, false, rfl, HNO.out, hb1⟩
    · have HP := Lib.hid (parse_err s hs (fun u hu => hk ⟨u, hu⟩) w hv)
      clear hk hv hs
      go_enter Tryz.func23, Tryz.ntmps23
      go_wp2_with fail
      refine HC2.out.mono ?_
      rintro e w1 ⟨rfl, rfl⟩
      go_wp2_with fail
      refine HP.out.mono ?_
      rintro e w1 ⟨u, t, N, rfl, hb1⟩
      go_wp2_with fail
      go_ret2
      exact ⟨0, false, rfl, HNO.out, hb1⟩
  | true =>
    obtain ⟨d, hd⟩ := (pre_iff _).1 hp
    have htp : Lib.trimPrefix s.data.toList [108, 111, 103, 46] = d := by unfold Lib.trimPrefix; rw [hp, hd]; rfl
    have hC : Calls Tryz.prog 22 #[.string s, .string ⟨#[108, 111, 103, 46]⟩] w fun e w' => e = .returned (.tuple #[.string ⟨d.toArray⟩, .bool true]) ∧ w' = w := by
      have := HC.out
      rw [show (⟨#[108, 111, 103, 46]⟩ : ByteArray).data.toList = [108, 111, 103, 46] from rfl, hp, htp] at this
      exact this
    have HC2 := Lib.hid hC
    have hdl : d.length + 4 = s.size := by rw [← hsz, hd]; simp
    have hds : (⟨d.toArray⟩ : ByteArray).size = d.length := ba_size d
    have hdd : (⟨d.toArray⟩ : ByteArray).data.toList = d := by simp
    by_cases hk : ∃ u, Lib.parseUintB 64 d = .ok u
    · obtain ⟨u, hu⟩ := hk
      have hu64 : u < 18446744073709551616 := by have := Lib.parseUintB_le hu; omega
      have HP := Lib.hid (parse_ok ⟨d.toArray⟩ (by rw [hds]; omega) u (by rw [hdd]; exact hu) w)
      have HN := Lib.hid (fun (W : World) (hb : Below w.heap.size w W) => name_c (hv.now hb) u hu64)
      by_cases he : s = ⟨(nameL u).toArray⟩
      · have hb := (wbeq_str s ⟨(nameL u).toArray⟩).trans (decide_eq_true he)
        have hu0 : 0 < u := by
          rcases Nat.eq_zero_or_pos u with h | h
          · subst h
            have : s.data.toList = [] := by rw [he]; rfl
            rw [hd] at this; cases this
          · exact h
        have HR := Lib.hid (show LogN s.data.toList u true from ⟨fun _ => ⟨hu0, hu64, by rw [he]⟩, fun h => (by cases h)⟩)
        clear HC hC hp htp hd hdl hds hdd hu hu64 he hu0 hv hs hsz
        generalize nameL u = nu at *
        have hb' := hb
        simp at hb'
        go_enter Tryz.func23, Tryz.ntmps23
        go_wp2_with fail
        refine HC2.out.mono ?_
        rintro e w1 ⟨rfl, rfl⟩
        go_wp2_with fail
        refine HP.out.mono ?_
        rintro e w2 ⟨rfl, hb1⟩
        have HN2 := Lib.hid (HN.out _ hb1)
        clear HN
        go_wp2_with fail
        refine HN2.out.mono ?_
        rintro e w3 ⟨rfl, hb2⟩
        go_wp2_with fail
        go_ret2
        exact ⟨u, true, rfl, HR.out, bon hb1 hb2⟩
      · have hb := (wbeq_str s ⟨(nameL u).toArray⟩).trans (decide_eq_false he)
        have HR := Lib.hid (show LogN s.data.toList 0 false from ⟨fun h => (by cases h), fun _ => ⟨rfl, fun v h0 hv2 h => by
          have h3 := (named_pre h0 h).2
          rw [hd] at h3
          have h4 : d = Lib.decDigits v := h3
          rw [h4, parseB_digits hv2] at hu
          simp only [Lib.NumEnd.ok.injEq] at hu
          subst hu
          exact he (by rw [h])⟩⟩)
        clear HC hC hp htp hd hdl hds hdd hu hu64 he hv hs hsz
        generalize nameL u = nu at *
        have hb' : (s.toList == nu) = false := by rw [← hb]; simp
        go_enter Tryz.func23, Tryz.ntmps23
        go_wp2_with fail
        refine HC2.out.mono ?_
        rintro e w1 ⟨rfl, rfl⟩
        go_wp2_with fail
        refine HP.out.mono ?_
        rintro e w2 ⟨rfl, hb1⟩
        have HN2 := Lib.hid (HN.out _ hb1)
        clear HN
        go_wp2_with fail
        refine HN2.out.mono ?_
        rintro e w3 ⟨rfl, hb2⟩
        go_wp2_with fail
        go_ret2
        exact ⟨0, false, rfl, HR.out, bon hb1 hb2⟩
    · have HP := Lib.hid (parse_err ⟨d.toArray⟩ (by rw [hds]; omega) (fun u hu => hk ⟨u, by rw [hdd] at hu; exact hu⟩) w hv)
      have HR := Lib.hid (show LogN s.data.toList 0 false from ⟨fun h => (by cases h), fun _ => ⟨rfl, fun v h0 hv2 h => by
          have h3 := (named_pre h0 h).2
          rw [hd] at h3
          have h4 : d = Lib.decDigits v := h3
          exact hk ⟨v, by rw [h4]; exact parseB_digits hv2⟩⟩⟩)
      clear HC hC hp htp hd hdl hds hdd hk hv hs hsz
      go_enter Tryz.func23, Tryz.ntmps23
      go_wp2_with fail
      refine HC2.out.mono ?_
      rintro e w1 ⟨rfl, rfl⟩
      go_wp2_with fail
      refine HP.out.mono ?_
      rintro e w1 ⟨u, t, N, rfl, hb1⟩
      go_wp2_with fail
      go_ret2
      exact ⟨0, false, rfl, HR.out, hb1⟩
end Go.Proofs.YtkdjjdkcogolmaaGreatDoor
end
end

section
/-
  The world as the rows lay it, and what the package variables hold.
-/
namespace Go.Proofs.YtkdjjdkcogolmaaGreatDoor
set_option maxRecDepth 100000
open Go.RowKit Go.ChangeShapes Go.WideShapes Go.ChangeAt Go.Deep
set_option linter.unusedVariables false
/-- So many blocks has the settled world. -/
noncomputable def low : Nat := (World.holding Tryz.prog default ⟨#[], #[], []⟩).heap.size
/-- The settled world, the tables and the two errors laid as their initialisers lay them. -/
noncomputable def laidWorld (os : Os) : World :=
  let w0 := World.holding Tryz.prog os ⟨#[.cells #[.string ⟨#[118, 97, 108, 117, 101, 32, 111, 117, 116, 32, 111, 102, 32, 114, 97, 110, 103, 101]⟩] 154, .cells #[.string ⟨#[105, 110, 118, 97, 108, 105, 100, 32, 115, 121, 110, 116, 97, 120]⟩] 154], #[], []⟩
  { w0 with heap := ((((((((((w0.heap).modify 4 fun | .cells _ t frozen => .cells #[.int .u8 0, .int .u8 1, .int .u8 28, .int .u8 2, .int .u8 29, .int .u8 14, .int .u8 24, .int .u8 3, .int .u8 30, .int .u8 22, .int .u8 20, .int .u8 15, .int .u8 25, .int .u8 17, .int .u8 4, .int .u8 8, .int .u8 31, .int .u8 27, .int .u8 13, .int .u8 23, .int .u8 21, .int .u8 19, .int .u8 16, .int .u8 7, .int .u8 26, .int .u8 12, .int .u8 18, .int .u8 6, .int .u8 11, .int .u8 5, .int .u8 10, .int .u8 9] t frozen | o => o)).modify 5 fun | .cells _ t frozen => .cells #[.int .u8 0, .int .u8 1, .int .u8 56, .int .u8 2, .int .u8 57, .int .u8 49, .int .u8 28, .int .u8 3, .int .u8 61, .int .u8 58, .int .u8 42, .int .u8 50, .int .u8 38, .int .u8 29, .int .u8 17, .int .u8 4, .int .u8 62, .int .u8 47, .int .u8 59, .int .u8 36, .int .u8 45, .int .u8 43, .int .u8 51, .int .u8 22, .int .u8 53, .int .u8 39, .int .u8 33, .int .u8 30, .int .u8 24, .int .u8 18, .int .u8 12, .int .u8 5, .int .u8 63, .int .u8 55, .int .u8 48, .int .u8 27, .int .u8 60, .int .u8 41, .int .u8 37, .int .u8 16, .int .u8 46, .int .u8 35, .int .u8 44, .int .u8 21, .int .u8 52, .int .u8 32, .int .u8 23, .int .u8 11, .int .u8 54, .int .u8 26, .int .u8 40, .int .u8 15, .int .u8 34, .int .u8 20, .int .u8 31, .int .u8 10, .int .u8 25, .int .u8 14, .int .u8 19, .int .u8 9, .int .u8 13, .int .u8 8, .int .u8 7, .int .u8 6] t frozen | o => o)).modify 2 fun | .cells _ t frozen => .cells #[.int .u64 1, .int .u64 10, .int .u64 100, .int .u64 1000, .int .u64 10000, .int .u64 100000, .int .u64 1000000, .int .u64 10000000, .int .u64 100000000, .int .u64 1000000000, .int .u64 10000000000, .int .u64 100000000000, .int .u64 1000000000000, .int .u64 10000000000000, .int .u64 100000000000000, .int .u64 1000000000000000, .int .u64 10000000000000000, .int .u64 100000000000000000, .int .u64 1000000000000000000, .int .u64 10000000000000000000] t frozen | o => o)).modify 1 fun | .cells _ t frozen => .cells #[.iface 152 (.pointer (some ⟨low + 0, 0, none⟩))] t frozen | o => o)).modify 0 fun | .cells _ t frozen => .cells #[.iface 152 (.pointer (some ⟨low + 1, 0, none⟩))] t frozen | o => o) }

theorem gES : Tryz.prog.globalNamed "strconv.ErrSyntax" = some 0 := by kernel_rfl
theorem gESt : (Tryz.prog.globals[0]?).map (·.type) = some 74 := by kernel_rfl
theorem gER : Tryz.prog.globalNamed "strconv.ErrRange" = some 1 := by kernel_rfl
theorem gERt : (Tryz.prog.globals[1]?).map (·.type) = some 74 := by kernel_rfl
theorem gTabT : (Tryz.prog.globals[2]?).map (·.type) = some 143 := by kernel_rfl
theorem cellsTab : Tryz.prog.cellsOf 143 = 20 := by kernel_rfl
theorem cellsU64 : Tryz.prog.cellsOf 22 = 1 := by kernel_rfl
theorem cellsErr : Tryz.prog.cellsOf 154 = 1 := by kernel_rfl
theorem cellsStr : Tryz.prog.cellsOf 9 = 1 := by kernel_rfl

theorem rowErr (u : TypeId) (h : Tryz.prog.typeName? 3 u = some "*errors.errorString") : u = 152 := by
  have star : "*" ++ "errors.errorString" = "*errors.errorString" := by decide
  exact typeName_ptr_named (nm := "errors.errorString") (by rw [star]; kernel_rfl) (by kernel_rfl) (by decide) u (by rw [star]; exact h)
/-- What the rows' list gives. -/
theorem vars_of {W : World} (h : laidMet Tryz.prog [("math/bits.deBruijn32tab", Rows.laid_math_bits_deBruijn32tab), ("math/bits.deBruijn64tab", Rows.laid_math_bits_deBruijn64tab), ("internal/strconv.uint64pow10", Rows.laid_internal_strconv_uint64pow10), ("strconv.ErrRange", Rows.laid_strconv_ErrRange), ("strconv.ErrSyntax", Rows.laid_strconv_ErrSyntax)] W) : Vars W := by
  obtain ⟨a0, s0, hv0, -, -, -⟩ := laid_sentinel h.tail.tail.tail gER gERt Tryz.underlying74 rowErr Tryz.underlying152 Tryz.underlying154 rfl rfl Tryz.underlying9 cellsErr cellsStr
  obtain ⟨a1, s1, hv1, -, -, -⟩ := laid_sentinel h.tail.tail.tail.tail gES gESt Tryz.underlying74 rowErr Tryz.underlying152 Tryz.underlying154 rfl rfl Tryz.underlying9 cellsErr cellsStr
  have h0 := World.var?_cell gES hv1 0
  have h1 := World.var?_cell gER hv0 0
  simp at h0 h1
  exact ⟨Lib.tabIs_of_head gTab gTabT Tryz.underlying143 Tryz.underlying22 cellsU64 cellsTab h.tail.tail, ⟨_, _, h0⟩, _, _, h1⟩
end Go.Proofs.YtkdjjdkcogolmaaGreatDoor
end

section
/-
  Contracts: the names and numbers of tables.
-/
namespace Go.Proofs.YtkdjjdkcogolmaaGreatDoor
set_option maxRecDepth 100000
open Go.RowKit Go.Shelf
set_option linter.unusedVariables false

/-- A table's name. -/
def tnmL (u : Nat) : List UInt8 := if u = 0 then [] else [116, 97, 98, 46] ++ Lib.decDigits u
theorem tnm_len {u : Nat} (h : u < 18446744073709551616) : (tnmL u).length ≤ 24 ∧ (0 < u → 5 ≤ (tnmL u).length) := by
  have := digits_len h
  unfold tnmL
  split
  · simp; omega
  · simp; omega
/-- What Number tells. -/
structure TabN (s : List UInt8) (u : Nat) (ok : Bool) : Prop where
  yes : ok = true → 0 < u ∧ u < 18446744073709551616 ∧ tnmL u = s
  no : ok = false → u = 0 ∧ ∀ v, 0 < v → v < 18446744073709551616 → tnmL v ≠ s
theorem tnm_inj {u v : Nat} (hu : u < 18446744073709551616) (hv : v < 18446744073709551616) (h0 : 0 < u) (h1 : 0 < v) (h : tnmL u = tnmL v) : u = v := by
  unfold tnmL at h
  rw [if_neg (by omega), if_neg (by omega)] at h
  refine nameL_inj hu hv h0 h1 ?_
  unfold nameL
  rw [if_neg (by omega), if_neg (by omega), List.append_cancel_left h]
theorem TabN.one {s : List UInt8} {u u' : Nat} {ok ok' : Bool} (h : TabN s u ok) (h' : TabN s u' ok') : u = u' ∧ ok = ok' := by
  cases ok <;> cases ok'
  · exact ⟨by rw [(h.no rfl).1, (h'.no rfl).1], rfl⟩
  · have h1 := h'.yes rfl; exact absurd h1.2.2 ((h.no rfl).2 _ h1.1 h1.2.1)
  · have h1 := h.yes rfl; exact absurd h1.2.2 ((h'.no rfl).2 _ h1.1 h1.2.1)
  · have h1 := h.yes rfl
    have h2 := h'.yes rfl
    exact ⟨tnm_inj h1.2.1 h2.2.1 h1.1 h2.1 (h1.2.2.trans h2.2.2.symm), rfl⟩
def TNumPost (w : World) (s : List UInt8) (e : Ending) (w' : World) : Prop := ∃ (u : Nat) (ok : Bool), e = .returned (.tuple #[.int .u64 (u : Int), .bool ok]) ∧ TabN s u ok ∧ Below w.heap.size w w'
theorem tab_of_log {d : List UInt8} {u : Nat} {ok : Bool} (h : LogN ([108, 111, 103, 46] ++ d) u ok) : TabN ([116, 97, 98, 46] ++ d) u ok := by
  refine ⟨fun e => ?_, fun e => ?_⟩
  · obtain ⟨h1, h2, h3⟩ := h.yes e
    refine ⟨h1, h2, ?_⟩
    unfold nameL at h3
    unfold tnmL
    rw [if_neg (by omega)] at h3 ⊢
    rw [List.append_cancel_left h3]
  · obtain ⟨h1, h2⟩ := h.no e
    refine ⟨h1, fun v v0 v1 h3 => h2 v v0 v1 ?_⟩
    unfold tnmL at h3
    unfold nameL
    rw [if_neg (by omega)] at h3 ⊢
    rw [List.append_cancel_left h3]
theorem tpre_iff (s : List UInt8) : Lib.hasPrefix s [116, 97, 98, 46] = true ↔ ∃ t, s = [116, 97, 98, 46] ++ t := by
  unfold Lib.hasPrefix
  rw [List.isPrefixOf_iff_prefix]
  constructor
  · rintro ⟨t, rfl⟩; exact ⟨t, rfl⟩
  · rintro ⟨t, rfl⟩; exact ⟨t, rfl⟩
theorem tab_nohead {s : List UInt8} (hp : Lib.hasPrefix s [116, 97, 98, 46] = false) : TabN s 0 false :=
  ⟨fun h => (by cases h), fun _ => ⟨rfl, fun v h0 hv h => by
    unfold tnmL at h
    rw [if_neg (by omega)] at h
    rw [(tpre_iff s).2 ⟨_, h.symm⟩] at hp
    cases hp⟩⟩
theorem cut_yes {w : World} {s p : ByteArray} {d : List UInt8} (h : s.data.toList = p.data.toList ++ d) : Calls Tryz.prog 22 #[.string s, .string p] w fun e w' => e = .returned (.tuple #[.string ⟨d.toArray⟩, .bool true]) ∧ w' = w := by
  have hp : Lib.hasPrefix s.data.toList p.data.toList = true := by
    unfold Lib.hasPrefix
    rw [List.isPrefixOf_iff_prefix, h]
    exact ⟨d, rfl⟩
  have htp : Lib.trimPrefix s.data.toList p.data.toList = d := by unfold Lib.trimPrefix; rw [hp, h]; simp
  have := cut_c s p w
  rw [hp, htp] at this
  exact this
theorem cut_no {w : World} {s p : ByteArray} (hp : Lib.hasPrefix s.data.toList p.data.toList = false) : Calls Tryz.prog 22 #[.string s, .string p] w fun e w' => e = .returned (.tuple #[.string s, .bool false]) ∧ w' = w := by
  have htp : Lib.trimPrefix s.data.toList p.data.toList = s.data.toList := by unfold Lib.trimPrefix; rw [hp]; rfl
  have := cut_c s p w
  rw [hp, htp] at this
  exact this

set_option maxRecDepth 100000 in
set_option maxHeartbeats 1000000 in
theorem tname_c {w : World} (hv : Vars w) (u : Nat) (hu64 : u < 18446744073709551616) :
    Calls Tryz.prog 11 #[.int .u64 (u : Int)] w (RetVl w (.string ⟨(tnmL u).toArray⟩)) := by
  have HN := Lib.hid (name_c hv u hu64)
  have hdl := digits_len hu64
  unfold tnmL
  by_cases h0 : u = 0
  · subst h0
    rw [if_pos rfl]
    have HC := Lib.hid (fun W => cut_no (w := W) (s := ⟨(nameL 0).toArray⟩) (p := ⟨#[108, 111, 103, 46]⟩) rfl)
    rw [show (⟨(nameL 0).toArray⟩ : ByteArray) = ⟨#[]⟩ from rfl] at HN HC
    clear hv hdl
    go_enter Tryz.func11, Tryz.ntmps11
    go_wp2_with fail
    refine HN.out.mono ?_
    rintro e w1 ⟨rfl, hb1⟩
    go_wp2_with fail
    refine (HC.out _).mono ?_
    rintro e w2 ⟨rfl, rfl⟩
    go_wp2_with fail
    go_ret
    exact RetVl.of rfl hb1
  · rw [if_neg h0]
    have HC := Lib.hid (fun W => cut_yes (w := W) (s := ⟨(nameL u).toArray⟩) (p := ⟨#[108, 111, 103, 46]⟩) (d := Lib.decDigits u) (by show nameL u = _; unfold nameL; rw [if_neg h0]))
    have hcat : ∀ W : World, (Op.stringOp .add ⟨#[116, 97, 98, 46]⟩ ⟨(Lib.decDigits u).toArray⟩).run Tryz.prog W = .ok (.string ⟨([116, 97, 98, 46] ++ Lib.decDigits u).toArray⟩) W := fun W =>
      run_cat6 (by rw [ba_size (Lib.decDigits u)]; show 4 + _ ≤ 1000; omega) (ba_app [116, 97, 98, 46] _)
    generalize hnn : (⟨(nameL u).toArray⟩ : ByteArray) = nn at *
    generalize hds : Lib.decDigits u = ds at *
    generalize hdd : ([116, 97, 98, 46] ++ ds : List UInt8) = dd at *
    have hb1 : (ds.length : Int) ≤ 20 := by omega
    clear hv hdl hds hdd hnn
    go_enter Tryz.func11, Tryz.ntmps11
    go_wp2_with fail
    refine HN.out.mono ?_
    rintro e w1 ⟨rfl, hb1⟩
    go_wp2_with fail
    refine (HC.out _).mono ?_
    rintro e w2 ⟨rfl, rfl⟩
    go_wp2_with fail
    go_ret
    exact RetVl.of rfl hb1

set_option maxRecDepth 100000 in
set_option maxHeartbeats 1000000 in
theorem tnumber_c {w : World} (hv : Vars w) (s : ByteArray) (hs : s.size ≤ 900) :
    Calls Tryz.prog 7 #[.string s] w (TNumPost w s.data.toList) := by
  have hsz : s.data.toList.length = s.size := Array.length_toList
  cases hp : Lib.hasPrefix s.data.toList [116, 97, 98, 46] with
  | false =>
    have HC := Lib.hid (fun W => cut_no (w := W) (s := s) (p := ⟨#[116, 97, 98, 46]⟩) hp)
    have HNO := Lib.hid (tab_nohead hp)
    clear hp hsz hs hv
    go_enter Tryz.func7, Tryz.ntmps7
    go_wp2_with fail
    refine (HC.out _).mono ?_
    rintro e w2 ⟨rfl, rfl⟩
    go_wp2_with fail
    go_ret2
    exact ⟨0, false, rfl, HNO.out, Below.refl _ _⟩
  | true =>
    obtain ⟨d, hd⟩ := (tpre_iff _).1 hp
    have HC := Lib.hid (fun W => cut_yes (w := W) (s := s) (p := ⟨#[116, 97, 98, 46]⟩) (d := d) hd)
    have hdl : d.length ≤ 900 := by rw [hd] at hsz; simp at hsz; omega
    have hcat : ∀ W : World, (Op.stringOp .add ⟨#[108, 111, 103, 46]⟩ ⟨d.toArray⟩).run Tryz.prog W = .ok (.string ⟨([108, 111, 103, 46] ++ d).toArray⟩) W := fun W =>
      run_cat6 (by rw [ba_size d]; show 4 + _ ≤ 1000; omega) (ba_app [108, 111, 103, 46] _)
    have HN := Lib.hid (wnumber_c hv ⟨([108, 111, 103, 46] ++ d).toArray⟩ (by rw [ba_size]; simp; omega))
    have HX := Lib.hid (fun (u : Nat) (ok : Bool) (h : LogN (⟨([108, 111, 103, 46] ++ d).toArray⟩ : ByteArray).data.toList u ok) => (show TabN s.data.toList u ok by rw [hd]; exact tab_of_log h))
    generalize hdd : (⟨([108, 111, 103, 46] ++ d).toArray⟩ : ByteArray) = dd at *
    generalize (⟨d.toArray⟩ : ByteArray) = d1 at *
    clear hdd hp hd hsz hs hv hdl
    go_enter Tryz.func7, Tryz.ntmps7
    go_wp2_with fail
    refine (HC.out _).mono ?_
    rintro e w2 ⟨rfl, rfl⟩
    go_wp2_with fail
    refine HN.out.mono ?_
    rintro e w3 ⟨u, ok, rfl, hl, hb⟩
    go_wp2_with fail
    go_ret2
    exact ⟨u, ok, rfl, HX.out u ok hl, hb⟩
theorem tnumber_t {w : World} (hv : Vars w) (s : ByteArray) (hs : s.size ≤ 900) {u : Nat} {ok : Bool} (h : TabN s.data.toList u ok) :
    Calls Tryz.prog 7 #[.string s] w fun e w' => e = .returned (.tuple #[.int .u64 (u : Int), .bool ok]) ∧ Below w.heap.size w w' :=
  (tnumber_c hv s hs).mono fun e w' ⟨u', ok', he, h', hb⟩ => by
    obtain ⟨rfl, rfl⟩ := h.one h'
    exact ⟨he, hb⟩
end Go.Proofs.YtkdjjdkcogolmaaGreatDoor
end
