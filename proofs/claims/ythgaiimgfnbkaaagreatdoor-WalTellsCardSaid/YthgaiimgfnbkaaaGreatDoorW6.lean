/-
  Contracts: the names and numbers of logs. What the library's package variables hold is a hypothesis ('Vars').
-/
import Derived.Test.YthgaiimgfnbkaaaGreatDoorW5
import Derived.Test.YthgaiimgfnbkaaaGreatDoorWp
import Derived.Lib.ItoaMem
import Derived.Lib.LaidTab
import Derived.Lib.SmallJoins
import Derived.Laws.Concat
import Derived.Laws.IdiomStrings
import Derived.BigCall
import Derived.BigGuard
namespace Go.Proofs.YthgaiimgfnbkaaaGreatDoor
set_option maxRecDepth 100000
open Go.RowKit Go.Shelf Go.Sort
set_option linter.unusedVariables false

/-- What the package variables hold that the library's code reads. -/
structure Vars (w : World) : Prop where
  tab : Lib.TabIs Tryz.prog w "internal/strconv.uint64pow10" .u64 Lib.pow10Tab
  es : ∃ tp p, w.cell? ⟨0, 0, none⟩ = some (.iface tp p)
  er : ∃ tp p, w.cell? ⟨1, 0, none⟩ = some (.iface tp p)
theorem gTab : Tryz.prog.globalNamed "internal/strconv.uint64pow10" = some 2 := by kernel_rfl
theorem Vars.now {w w' : World} (h : Vars w) (hb : Below w.heap.size w w') : Vars w' := by
  obtain ⟨h1, ⟨t1, p1, h2⟩, t2, p2, h3⟩ := h
  refine ⟨Joins.tab_stays gTab h1 hb (Nat.le_refl _), ⟨t1, p1, ?_⟩, t2, p2, ?_⟩
  · exact (hb.cell (p := ⟨0, 0, none⟩) (World.block_lt_of_cell? w _ h2)).trans h2
  · exact (hb.cell (p := ⟨1, 0, none⟩) (World.block_lt_of_cell? w _ h3)).trans h3

theorem small_c (i : Nat) (hi : i < 100) (w : World) : Calls Tryz.prog 75 #[.int .i64 (i : Int)] w fun e w' => e = .returned (.string ⟨(Lib.decDigits i).toArray⟩) ∧ w' = w := Any.internal_strconv_small Tryz.lays283 i hi w
theorem numDigits_c (u : Nat) (h1 : 1 ≤ u) (h2 : u < 18446744073709551616) (w : World) (h : Lib.TabIs Tryz.prog w "internal/strconv.uint64pow10" .u64 Lib.pow10Tab) :
    Calls Tryz.prog 76 #[.int .u64 (u : Int)] w fun e w' => e = .returned (.int .i64 (Lib.nDigits u : Int)) ∧ w' = w := Any.internal_strconv_numDigits Tryz.laysM284 u h1 h2 w h
theorem format_c (blk off cap u : Nat) (d : Array UInt8) (w : World) (hH : Holds (fun (b : UInt8) => Value.int .u8 (b.toNat : Int)) w blk off d) (hu : u < 10 ^ d.size) (hu64 : u < 18446744073709551616) (hsz : d.size < 4611686018427387904) :
    Calls Tryz.prog 77 #[.slice (some ⟨blk, off, none⟩) d.size cap, .int .u64 (u : Int)] w fun e w' =>
      e = .returned (.tuple #[]) ∧ ∃ (n v' : Nat) (dk : Array UInt8), w' = (putRow (fun (b : UInt8) => Value.int .u8 (b.toNat : Int)) w blk off dk).drewN n ∧ Lib.FmtInv d.size u 0 v' dk := Any.internal_strconv_formatBase10 Tryz.lays285 blk off cap u d w hH hu hu64 hsz
theorem cut_c (s p : ByteArray) (w : World) : Calls Tryz.prog 17 #[.string s, .string p] w fun e w' => e = .returned (.tuple #[.string ⟨(Lib.trimPrefix s.data.toList p.data.toList).toArray⟩, .bool (Lib.hasPrefix s.data.toList p.data.toList)]) ∧ w' = w := Any.strings_CutPrefix Tryz.lays103 s p w
theorem parse_ok (s : ByteArray) (hmax : s.size ≤ 9223372036854775806) (u : Nat) (h : Lib.parseUintB 64 s.data.toList = .ok u) (w : World) :
    Calls Tryz.prog 18 #[.string s, .int .i64 10, .int .i64 64] w fun e w' => e = .returned (.tuple #[.int .u64 (u : Int), .nilIface]) ∧ Below w.heap.size w w' :=
  (Any.strconv_ParseUint_10_at64_ok Tryz.laysPu14 s hmax u h w).mono fun e w' ⟨he, hw⟩ => ⟨he, by
    rcases hw with rfl | rfl
    · exact Below.refl _ _
    · exact Lib.bytesWorld_below _ _ _⟩
/-- Of what spells no number there is an error. -/
theorem parse_err (s : ByteArray) (hlim : s.size ≤ 281474976710656) (h : ∀ u, Lib.parseUintB 64 s.data.toList ≠ .ok u) (w : World) (hv : Vars w) :
    Calls Tryz.prog 18 #[.string s, .int .i64 10, .int .i64 64] w fun e w' => ∃ u t N, e = .returned (.tuple #[.int .u64 u, .iface t (.pointer (some ⟨N, 0, none⟩))]) ∧ Below w.heap.size w w' := by
  obtain ⟨t1, p1, h1⟩ := hv.es
  obtain ⟨t2, p2, h2⟩ := hv.er
  cases h3 : Lib.parseUintB 64 s.data.toList
  · exact absurd h3 (h _)
  · exact (Any.strconv_ParseUint_10_at64_syntax Tryz.laysPu14 s hlim h3 _ w h1 (.inr ⟨_, _, rfl⟩)).mono fun e w' ⟨N, he, _, _, hb⟩ => ⟨_, _, N, he, hb⟩
  · exact (Any.strconv_ParseUint_10_at64_range Tryz.laysPu14 s hlim h3 _ w h2 (.inr ⟨_, _, rfl⟩)).mono fun e w' ⟨N, he, _, _, hb⟩ => ⟨_, _, N, he, hb⟩

theorem holds_zero0 (w : World) (T : TypeId) (nd : Nat) (hs : nd ≤ 24) : Holds (fun (b : UInt8) => Value.int .u8 (b.toNat : Int)) (w.alloc (.cells Lib.zeros24 T)) w.heap.size 0 (Array.replicate nd (0 : UInt8)) := fun j hj => by
  have hj' : j < nd := by simpa using hj
  refine ⟨?_, World.frozen?_alloc_new _ _ _ _⟩
  rw [World.cell?_alloc_new, Lib.zeros24_at _ (by omega), getElem!_pos _ j hj]
  simp
theorem below_row (w : World) (o : Obj) (off : Nat) (d : Array UInt8) (k : Nat) : Below w.heap.size w ((putRow (fun (b : UInt8) => Value.int .u8 (b.toNat : Int)) (w.alloc o) w.heap.size off d).drewN k) := by
  refine below_drewN ?_ k
  refine (below_alloc w o).trans ⟨rfl, rfl, rfl, by simp [putRow, mapBlock], fun i hi => ?_⟩
  simp only [putRow, mapBlock]
  rw [Array.getElem?_modify, if_neg (by omega)]

set_option maxHeartbeats 4000000 in
theorem formatUint_c {w : World} (hv : Vars w) (u : Nat) (hu64 : u < 18446744073709551616) :
    Calls Tryz.prog 52 #[.int .u64 (u : Int), .int .i64 10] w (RetVl w (.string ⟨(Lib.decDigits u).toArray⟩)) := by
  by_cases hs : u < 100
  · have HS := Lib.hid fun W => small_c u hs W
    have hsi : (u : Int) < 100 := by omega
    have d1 : decide ((u : Int) < 100) = true := by simpa using hsi
    have d2 : decide (u < 100) = true := by simpa using hs
    clear hs
    go_enter Tryz.func52, Tryz.ntmps52
    go_wp2_with fail
    refine (HS.out _).mono ?_
    rintro e w1 ⟨rfl, rfl⟩
    go_wp2_with fail
    go_ret
    exact RetVl.of rfl (Below.refl _ _)
  · have hu1 : 1 ≤ u := by omega
    have hnd20 : Lib.nDigits u ≤ 20 := by have := Lib.numDigits_eq u hu1 hu64; split at this <;> omega
    have hal : Tryz.prog.arrayLen 100 = 24 := by kernel_rfl
    obtain ⟨nd, hnd⟩ : ∃ nd, Lib.nDigits u = nd := ⟨_, rfl⟩
    have hH0 := holds_zero0 w 100 nd (by omega)
    have hfmt := format_c w.heap.size 0 24 u (Array.replicate nd 0) (w.alloc (.cells Lib.zeros24 100)) hH0 (by rw [Array.size_replicate, ← hnd]; exact Lib.lt_pow_nDigits u) hu64 (by rw [Array.size_replicate]; omega)
    rw [Array.size_replicate] at hfmt
    have hnum := numDigits_c u hu1 hu64 (w.alloc (.cells Lib.zeros24 100)) (hv.now (below_alloc w _)).tab
    rw [hnd] at hnum hnd20
    have hsl : ∀ W, (Instr.sliceAt 100 (.pointer (some ⟨w.heap.size, 0, none⟩)) none (some (.int .i64 (nd : Int))) none).run Tryz.prog W = .ok (.slice (some ⟨w.heap.size, 0, none⟩) nd 24) W := fun W => by
      rw [run_sliceAt_array_h W 100 ⟨w.heap.size, 0, none⟩ (by kernel_rfl) .i64 (nd : Int) (by omega) (by rw [hal]; omega)]
      go_simp
    have HN := Lib.hid hnum
    have HF := Lib.hid hfmt
    have HH := Lib.hid hH0
    have HD := Lib.hid hnd
    have hui : (100 : Int) ≤ (u : Int) := by omega
    have d1 : decide ((u : Int) < 100) = false := by simp; omega
    have d2 : decide (u < 100) = false := by simp; omega
    clear hnum hfmt hH0 hnd hal hs hv hu1
    unfold Lib.zeros24 at HN HF
    go_enter Tryz.func52, Tryz.ntmps52
    go_wp2_with fail
    refine HN.out.mono ?_
    rintro e w1 ⟨rfl, rfl⟩
    go_wp2_with fail
    refine HF.out.mono ?_
    rintro e w1 ⟨rfl, k, v', dk, hw1, hF⟩
    have hcv : (convert 26 9 (.slice (some ⟨w.heap.size, 0, none⟩) nd 24)).run Tryz.prog w1 = .ok (.string ⟨(Lib.decDigits u).toArray⟩) w1 := by
      have h := run_convert_bytes_back (P := Tryz.prog) w1 26 9 5 ⟨w.heap.size, 0, none⟩ 24 (Lib.decDigits u) Tryz.underlying26 Tryz.underlying5 Tryz.underlying9 (fun j hj => by
        have hF' : Lib.FmtInv (Lib.nDigits u) u 0 v' dk := by rw [HD.out]; simpa using hF
        rw [Lib.row_is_numeral hF' j hj, Lib.add_plain, hw1, World.cell?_drewN]
        exact cell?_putRow (fun (b : UInt8) => Value.int .u8 (b.toNat : Int)) _ w.heap.size 0 _ dk HH.out (by rw [hF.size, Array.size_replicate]) j (by rw [hF.size]; rw [Lib.decDigits_length, HD.out] at hj; simpa using hj))
      rw [Lib.decDigits_length, HD.out] at h
      exact h
    have hb1 : Below w.heap.size w w1 := by rw [hw1]; exact below_row w _ 0 dk k
    clear hw1 hF
    go_wp2_with fail
    go_ret
    exact RetVl.of rfl hb1

set_option maxHeartbeats 1000000 in
theorem FormatUint_c {w : World} (hv : Vars w) (u : Nat) (hu64 : u < 18446744073709551616) :
    Calls Tryz.prog 30 #[.int .u64 (u : Int), .int .i64 10] w (RetVl w (.string ⟨(Lib.decDigits u).toArray⟩)) := by
  have HF := Lib.hid (formatUint_c hv u hu64)
  clear hv
  go_enter Tryz.func30, Tryz.ntmps30
  go_wp2_with fail
  refine HF.out.mono ?_
  rintro e w1 ⟨rfl, hb1⟩
  go_wp2_with fail
  go_ret
  exact ⟨rfl, hb1⟩

/-- A log's name. -/
def nameL (u : Nat) : List UInt8 := if u = 0 then [] else [108, 111, 103, 46] ++ Lib.decDigits u
theorem digits_len {u : Nat} (h : u < 18446744073709551616) : (Lib.decDigits u).length ≤ 20 ∧ 1 ≤ (Lib.decDigits u).length := by
  rw [Lib.decDigits_length]
  refine ⟨?_, Lib.nDigits_pos u⟩
  by_cases h1 : 1 ≤ u
  · have := Lib.numDigits_eq u h1 h; split at this <;> omega
  · obtain rfl : u = 0 := by omega
    rw [Lib.nDigits_small (by omega)]; omega
theorem run_cat6 {w : World} {a b c : ByteArray} (h : a.size + b.size ≤ 1000) (e : a ++ b = c) : (Op.stringOp .add a b).run Tryz.prog w = .ok (.string c) w := by
  rw [run_string_add_sum w a b (by omega), e]
theorem ba_app (a b : List UInt8) : (⟨a.toArray⟩ : ByteArray) ++ ⟨b.toArray⟩ = ⟨(a ++ b).toArray⟩ := by
  apply ByteArray.ext
  rw [ByteArray.data_append]
  simp
theorem ba_size (a : List UInt8) : (⟨a.toArray⟩ : ByteArray).size = a.length := by simp [ByteArray.size]

set_option maxHeartbeats 1000000 in
theorem name_c {w : World} (hv : Vars w) (u : Nat) (hu64 : u < 18446744073709551616) :
    Calls Tryz.prog 12 #[.int .u64 (u : Int)] w (RetVl w (.string ⟨(nameL u).toArray⟩)) := by
  have HF := Lib.hid (FormatUint_c hv u hu64)
  have hdl := digits_len hu64
  unfold nameL
  by_cases h0 : u = 0
  · subst h0
    rw [if_pos rfl]
    clear hv HF hdl
    go_enter Tryz.func12, Tryz.ntmps12
    go_wp2_with fail
    go_ret
    exact RetVl.of rfl (Below.refl _ _)
  · rw [if_neg h0]
    have d1 : ((u : Int) == 0) = false := by simp; omega
    have hcat : ∀ W : World, (Op.stringOp .add ⟨#[108, 111, 103, 46]⟩ ⟨(Lib.decDigits u).toArray⟩).run Tryz.prog W = .ok (.string ⟨([108, 111, 103, 46] ++ Lib.decDigits u).toArray⟩) W := fun W =>
      run_cat6 (by rw [ba_size (Lib.decDigits u)]; show 4 + _ ≤ 1000; omega) (ba_app [108, 111, 103, 46] _)
    generalize hds : Lib.decDigits u = ds at *
    generalize hdd : ([108, 111, 103, 46] ++ ds : List UInt8) = dd at *
    have hb1 : (ds.length : Int) ≤ 20 := by omega
    clear hv hdl hds hdd
    go_enter Tryz.func12, Tryz.ntmps12
    go_wp2_with fail
    refine HF.out.mono ?_
    rintro e w1 ⟨rfl, hb1⟩
    go_wp2_with fail
    go_ret
    exact RetVl.of rfl hb1
end Go.Proofs.YthgaiimgfnbkaaaGreatDoor
