/-
  What comes in: records, rows of operations; what the listed package variables give; a world in which they hold what they should.
-/
import Derived.Test.YthgaiimgfnbkaaaGreatDoorWA
import Derived.Test.YthgaiimgfnbkaaaGreatDoorCards
import Derived.Test.YthgaiimgfnbkaaaGreatDoorTie
import Derived.WalkKit
import Derived.ProofKit
import Derived.OpenShut
import Derived.ShutString
import Derived.Deep.DeepHandedRow
import Derived.Deep.Slices
import Derived.Lib.LaidTab
import Derived.Stop.LaidErr
import Derived.LaidLaws
import Derived.Below
namespace Go.Proofs.YthgaiimgfnbkaaaGreatDoor
set_option maxRecDepth 100000
open Go.RowKit Go.ChangeShapes Go.WideShapes Go.ChangeAt Go.Deep
set_option linter.unusedVariables false

section
variable {H : Type} {enc : TypeId × Value → H} {w : World} {base : Nat} {spare : Nat → Bool} {held : Bool}
theorem ops_of_trod {fuel : Nat} {cs : List Value} {x : DataW H × List MemPlace} (h : DataW.trod enc Tryz.prog w base spare held fuel 23 cs = some x) :
    ∃ (A : Option Addr) (n c : Nat) (L : List Bop), cs = [.slice A n c] ∧ RdO w w.heap.size A n c L := by
  have hC : Tryz.prog.cellsOf 43 = 3 := by kernel_rfl
  rcases open_slice Tryz.underlying23 h with ⟨hcs, _⟩ | ⟨a, len, cap, m, n', D, Pl, hcs, hb, hl, hm, hmm, hx, hi⟩
  · exact ⟨none, 0, 0, [], hcs, RdO.nilv⟩
  · have hle : len ≤ m := by rw [hmm]; split <;> omega
    have he : ∀ i, i < len → ∃ x : Bop, w.cell? (a.add (i * 3)) = some (.int .u8 (x.k : Int)) ∧ w.cell? (a.add (i * 3 + 1)) = some (.string x.s) ∧ w.cell? (a.add (i * 3 + 2)) = some (.string x.v) := by
      intro i hin
      obtain ⟨cs', hc, ht⟩ := hi i (by omega)
      rw [hC] at hc
      obtain ⟨y, hcs, b1⟩ := op_cells ht
      subst hcs
      obtain ⟨_, _, hat⟩ := World.cells?_some hc
      have a0 := hat 0 (by omega)
      have a1 := hat 1 (by omega)
      have a2 := hat 2 (by omega)
      rw [add_of_add] at a0 a1 a2
      exact ⟨y, a0, a1, a2⟩
    refine ⟨some a, len, cap, (List.range len).map fun i => if hi : i < len then (he i hi).choose else ⟨0, ⟨#[]⟩, ⟨#[]⟩⟩, hcs, ⟨by simp, hl, hm, fun e => (by cases e), fun hn => ?_⟩⟩
    obtain ⟨b, off, spot⟩ := a
    obtain ⟨x0, h0, -⟩ := he 0 hn
    have hs : spot = none := by
      cases spot with
      | none => rfl
      | some s => simp [Addr.add, World.cell?] at h0; split at h0 <;> simp at h0
    subst hs
    have hlt : b < w.heap.size := by
      have := World.block_lt_of_cell? w _ h0
      rwa [block_of_add] at this
    refine ⟨b, off, rfl, hlt, fun i x hx => ?_⟩
    rw [List.getElem?_map] at hx
    by_cases hin : i < len
    · rw [List.getElem?_range hin] at hx
      simp only [Option.map_some, hin, dif_pos, Option.some.injEq] at hx
      subst hx
      have := (he i hin).choose_spec
      have hadd : ∀ j, (⟨b, off, none⟩ : Addr).add j = ⟨b, off + j, none⟩ := fun j => by unfold Addr.add; split <;> simp_all
      simpa only [hadd, Nat.add_assoc] using this
    · rw [List.getElem?_eq_none (by simpa using hin)] at hx; cases hx

/-- A record that comes in. -/
theorem open_rec {r : Reach} {b0 : Nat} {v : Value} {d : DataW H} {p : List MemPlace} (hv : Value.okWide Tryz.prog w r b0 25 v) (h : DataW.Trod enc Tryz.prog w base spare held 25 v d p) :
    ∃ x : WR, v = wrv x ∧ (x.q : Int) ≤ 18446744073709551615 ∧ RdO w w.heap.size x.A x.n x.c x.L := by
  obtain ⟨cs, rfl, hsz⟩ := okWide_struct Tryz.underlying25 hv
  obtain ⟨fuel, hf⟩ := h
  obtain ⟨y0, y1, n, _, hl, h0, h1⟩ := trod_struct2 Tryz.underlying25 hf
  have hc : Tryz.prog.cellsOf 25 = 2 := by kernel_rfl
  have hs : Tryz.prog.cellsOf 23 = 1 := by kernel_rfl
  have hb : Tryz.prog.cellsOf 22 = 1 := by kernel_rfl
  rw [hc] at hl
  simp only [Value.cells] at hl h0 h1
  obtain ⟨l⟩ := cs
  match l, hl with
  | [c0, c1], _ =>
    simp only [hs, hb, List.drop_zero, List.drop_succ_cons, List.take_succ_cons, List.take_zero] at h0 h1
    obtain ⟨q, e0, _, hq⟩ := DataW.trod_int Tryz.underlying22 h0
    obtain ⟨A, n', c, L, e1, hR⟩ := ops_of_trod h1
    cases e0; cases e1
    have hq := bounds_u64 hq
    obtain ⟨q, rfl⟩ := Int.eq_ofNat_of_zero_le hq.1
    exact ⟨⟨q, A, n', c, L⟩, rfl, hq.2, hR⟩

/-- A row of operations that came in. -/
structure OpsRow where
  a : Option Addr
  n : Nat
  c : Nat
  L : List Bop
def OpsRow.v (r : OpsRow) : Value := .slice r.a r.n r.c
structure OpsAt (w : World) (A : Option Addr) (n c : Nat) (Ls : List OpsRow) : Prop where
  rd : Rd w w.heap.size A n c (Ls.map OpsRow.v)
  row : ∀ r ∈ Ls, RdO w w.heap.size r.a r.n r.c r.L
theorem OpsAt.now {w w' : World} {n c : Nat} {A : Option Addr} {Ls : List OpsRow} (h : OpsAt w A n c Ls) (hb : Below w.heap.size w w') : OpsAt w' A n c Ls := ⟨h.rd.now hb, fun r hr => (h.row r hr).now hb⟩
theorem OpsAt.front {w : World} {n c : Nat} {A : Option Addr} {Ls : List OpsRow} (h : OpsAt w A n c Ls) {k : Nat} (hk : k ≤ n) : OpsAt w A k c (Ls.take k) :=
  ⟨by rw [List.map_take]; exact h.rd.front hk, fun r hr => h.row r (List.mem_of_mem_take hr)⟩
theorem info_opss : (Tryz.prog.info? 23).map (fun i => (i.zero, i.size, i.bytes)) = some (some (.slice none 0 0), 1, 24) := by kernel_rfl
end

/-- So many blocks has the settled world. -/
noncomputable def low : Nat := (World.holding Tryz.prog default ⟨#[], #[], []⟩).heap.size
/-- The settled world, the tables and the two errors laid as their initialisers lay them. -/
noncomputable def laidWorld (os : Os) : World :=
  let w0 := World.holding Tryz.prog os ⟨#[.cells #[.string ⟨#[118, 97, 108, 117, 101, 32, 111, 117, 116, 32, 111, 102, 32, 114, 97, 110, 103, 101]⟩] 134, .cells #[.string ⟨#[105, 110, 118, 97, 108, 105, 100, 32, 115, 121, 110, 116, 97, 120]⟩] 134], #[], []⟩
  { w0 with heap := ((((((((((w0.heap).modify 3 fun | .cells _ t frozen => .cells #[.int .u8 0, .int .u8 1, .int .u8 28, .int .u8 2, .int .u8 29, .int .u8 14, .int .u8 24, .int .u8 3, .int .u8 30, .int .u8 22, .int .u8 20, .int .u8 15, .int .u8 25, .int .u8 17, .int .u8 4, .int .u8 8, .int .u8 31, .int .u8 27, .int .u8 13, .int .u8 23, .int .u8 21, .int .u8 19, .int .u8 16, .int .u8 7, .int .u8 26, .int .u8 12, .int .u8 18, .int .u8 6, .int .u8 11, .int .u8 5, .int .u8 10, .int .u8 9] t frozen | o => o)).modify 4 fun | .cells _ t frozen => .cells #[.int .u8 0, .int .u8 1, .int .u8 56, .int .u8 2, .int .u8 57, .int .u8 49, .int .u8 28, .int .u8 3, .int .u8 61, .int .u8 58, .int .u8 42, .int .u8 50, .int .u8 38, .int .u8 29, .int .u8 17, .int .u8 4, .int .u8 62, .int .u8 47, .int .u8 59, .int .u8 36, .int .u8 45, .int .u8 43, .int .u8 51, .int .u8 22, .int .u8 53, .int .u8 39, .int .u8 33, .int .u8 30, .int .u8 24, .int .u8 18, .int .u8 12, .int .u8 5, .int .u8 63, .int .u8 55, .int .u8 48, .int .u8 27, .int .u8 60, .int .u8 41, .int .u8 37, .int .u8 16, .int .u8 46, .int .u8 35, .int .u8 44, .int .u8 21, .int .u8 52, .int .u8 32, .int .u8 23, .int .u8 11, .int .u8 54, .int .u8 26, .int .u8 40, .int .u8 15, .int .u8 34, .int .u8 20, .int .u8 31, .int .u8 10, .int .u8 25, .int .u8 14, .int .u8 19, .int .u8 9, .int .u8 13, .int .u8 8, .int .u8 7, .int .u8 6] t frozen | o => o)).modify 2 fun | .cells _ t frozen => .cells #[.int .u64 1, .int .u64 10, .int .u64 100, .int .u64 1000, .int .u64 10000, .int .u64 100000, .int .u64 1000000, .int .u64 10000000, .int .u64 100000000, .int .u64 1000000000, .int .u64 10000000000, .int .u64 100000000000, .int .u64 1000000000000, .int .u64 10000000000000, .int .u64 100000000000000, .int .u64 1000000000000000, .int .u64 10000000000000000, .int .u64 100000000000000000, .int .u64 1000000000000000000, .int .u64 10000000000000000000] t frozen | o => o)).modify 1 fun | .cells _ t frozen => .cells #[.iface 132 (.pointer (some ⟨low + 0, 0, none⟩))] t frozen | o => o)).modify 0 fun | .cells _ t frozen => .cells #[.iface 132 (.pointer (some ⟨low + 1, 0, none⟩))] t frozen | o => o) }

theorem gES : Tryz.prog.globalNamed "strconv.ErrSyntax" = some 0 := by kernel_rfl
theorem gESt : (Tryz.prog.globals[0]?).map (·.type) = some 47 := by kernel_rfl
theorem gER : Tryz.prog.globalNamed "strconv.ErrRange" = some 1 := by kernel_rfl
theorem gERt : (Tryz.prog.globals[1]?).map (·.type) = some 47 := by kernel_rfl
theorem gTabT : (Tryz.prog.globals[2]?).map (·.type) = some 127 := by kernel_rfl
theorem cellsTab : Tryz.prog.cellsOf 127 = 20 := by kernel_rfl
theorem cellsU64 : Tryz.prog.cellsOf 22 = 1 := by kernel_rfl
theorem cellsErr : Tryz.prog.cellsOf 134 = 1 := by kernel_rfl
theorem cellsStr : Tryz.prog.cellsOf 9 = 1 := by kernel_rfl

theorem rowErr (u : TypeId) (h : Tryz.prog.typeName? 3 u = some "*errors.errorString") : u = 132 := by
  have star : "*" ++ "errors.errorString" = "*errors.errorString" := by decide
  exact typeName_ptr_named (nm := "errors.errorString") (by rw [star]; kernel_rfl) (by kernel_rfl) (by decide) u (by rw [star]; exact h)
/-- What the rows' list gives. -/
theorem vars_of {W : World} (h : laidMet Tryz.prog [("math/bits.deBruijn32tab", Rows.laid_math_bits_deBruijn32tab), ("math/bits.deBruijn64tab", Rows.laid_math_bits_deBruijn64tab), ("internal/strconv.uint64pow10", Rows.laid_internal_strconv_uint64pow10), ("strconv.ErrRange", Rows.laid_strconv_ErrRange), ("strconv.ErrSyntax", Rows.laid_strconv_ErrSyntax)] W) : Vars W := by
  obtain ⟨a0, s0, hv0, -, -, -⟩ := laid_sentinel h.tail.tail.tail gER gERt Tryz.underlying47 rowErr Tryz.underlying132 Tryz.underlying134 rfl rfl Tryz.underlying9 cellsErr cellsStr
  obtain ⟨a1, s1, hv1, -, -, -⟩ := laid_sentinel h.tail.tail.tail.tail gES gESt Tryz.underlying47 rowErr Tryz.underlying132 Tryz.underlying134 rfl rfl Tryz.underlying9 cellsErr cellsStr
  have h0 := World.var?_cell gES hv1 0
  have h1 := World.var?_cell gER hv0 0
  simp at h0 h1
  exact ⟨Lib.tabIs_of_head gTab gTabT Tryz.underlying127 Tryz.underlying22 cellsU64 cellsTab h.tail.tail, ⟨_, _, h0⟩, _, _, h1⟩
end Go.Proofs.YthgaiimgfnbkaaaGreatDoor
