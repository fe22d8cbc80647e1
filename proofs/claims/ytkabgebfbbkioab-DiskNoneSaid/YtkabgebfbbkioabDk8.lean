/-
  Contracts: grow.
-/
import Derived.Test.YtkabgebfbbkioabDk7
namespace Go.Proofs.Ytkabgebfbbkioab
open Go.RowKit Go.Maps

theorem ownBlock_row (r : Option Nat) (n c : Nat) : (Value.slice (rowAt r) n c).ownBlock = r := by cases r <;> rfl

theorem append_file {w w' : World} {f : FileS} {c N c' : Nat} {A' : Option Addr} {l : List UInt8} (hs : f.safe ≤ f.bytes.length) (hc : w.heap[f.blk]? = some (.cells #[.slice (rowAt f.row) f.bytes.length c, .int .i64 (f.safe : Int)] 52 (0, 0)))
    (hn : ∀ g, f.row = some g → g ≠ f.blk) (hN : N = f.bytes.length + l.length) (hap : App w w' 0 5 (.slice (rowAt f.row) f.bytes.length c) A' N c' (bv f.bytes ++ bv l)) :
    ∃ r', A' = rowAt r' ∧ FileAt (w'.setCell ⟨f.blk, 0, none⟩ (.slice A' N c')) ⟨f.blk, r', f.bytes ++ l, f.safe⟩ ∧ Off (f.blk :: f.row.toList) w (w'.setCell ⟨f.blk, 0, none⟩ (.slice A' N c')) ∧
      (r' = f.row ∨ ∃ g, r' = some g ∧ w.heap.size ≤ g ∧ g < (w'.setCell ⟨f.blk, 0, none⟩ (.slice A' N c')).heap.size) := by
  have hlt : f.blk < w.heap.size := (Array.getElem?_eq_some_iff.1 hc).1
  have hg := hap.grown
  rw [ownBlock_row] at hg
  have hat := hap.at_
  rw [ownBlock_row] at hat
  obtain ⟨r', rfl⟩ : ∃ r', A' = rowAt r' := by
    rcases hap.fr.own.2 with ⟨e, h0⟩ | ⟨g, cap, cur, e, _⟩
    · injection e with e1 _ _; exact ⟨none, e1⟩
    · injection e with e1 _ _; exact ⟨some g, e1⟩
  rw [ownBlock_row] at hat
  have hne : ∀ g, r' = some g → g ≠ f.blk := by
    intro g eg
    rcases hat with hat | hat
    · exact hn g (by rw [← hat, eg])
    · rw [eg] at hat; injection hat with hat; omega
  have hrlt : ∀ g, r' = some g → g < w'.heap.size := by
    intro g eg
    subst eg
    exact (hap.fr.frozen _ rfl).2.1
  refine ⟨r', rfl, ⟨⟨c', ?_, ?_⟩, by simp; omega⟩, ?_, ?_⟩
  · have h1 : w'.heap[f.blk]? = w.heap[f.blk]? := hg.block f.blk hlt (fun e => hn _ e.symm rfl)
    simp only [World.setCell, Array.getElem?_modify, if_pos, h1, hc, List.length_append]
    rw [hN]
    rfl
  · have := hap.fr.kept (w' := w'.setCell ⟨f.blk, 0, none⟩ (.slice (rowAt r') N c')) fun g e => heap_setCell_other _ _ _ (hne g e)
    rw [← bv_append] at this
    simpa [List.length_append, hN] using this
  · refine Off.setCell ⟨hg.os, hg.tape, hg.output, hg.size, fun k hk hn' => hg.block k hk (fun e => hn' ?_)⟩ (.inl (by simp)) _
    simp [← e]
  · rcases hat with hat | hat
    · exact .inl hat
    · exact .inr ⟨w.heap.size, hat, Nat.le_refl _, by rw [size_setCell]; exact hrlt _ hat⟩

/-- Behind a file's growth. -/
def GrowP (S : DiskS) (s : List UInt8) (f : FileS) (l : List UInt8) (w : World) (e : Ending) (w' : World) : Prop :=
  e = .returned (.tuple #[]) ∧ ∃ r', DiskAt w' { S with files := setF S.files s ⟨f.blk, r', f.bytes ++ l, f.safe⟩, used := S.used + (l.length : Int) } ∧ Off (S.dp :: f.blk :: f.row.toList) w w' ∧
    (r' = f.row ∨ ∃ g, r' = some g ∧ w.heap.size ≤ g)

theorem Off.wide {F G : List Nat} {a b : World} (h : Off F a b) (hs : ∀ k ∈ F, k ∈ G) : Off G a b := ⟨h.os, h.tape, h.output, h.size, fun k hk hn => h.block k hk (fun e => hn (hs k e))⟩

set_option maxRecDepth 100000 in
set_option maxHeartbeats 1000000 in
theorem grow_c {w : World} {S : DiskS} (h : DiskAt w S) {s : List UInt8} {f : FileS} (hl : lookF S.files s = some f) {B n c : Nat} {A : Option Addr} {l : List UInt8} (hr : Rd w B A n c (bv l))
    (hf : f.bytes.length ≤ 35184372088832) (hn : n ≤ 35184372088832) (hu0 : 0 ≤ S.used) (hu : S.used ≤ 35184372088832) :
    Calls Try.prog 32 #[.pointer (some ⟨S.dp, 0, none⟩), .pointer (some ⟨f.blk, 0, none⟩), .slice A n c] w (GrowP S s f l w) := by
  have hll : l.length = n := by simpa using hr.len
  obtain ⟨hfa, hm, hrow, hlt⟩ := h.file hl
  have hne := h.row_ne hl
  have hdn : S.dp ≠ f.blk := fun e => by
    obtain ⟨a, b, e', -, -⟩ := lookF_parts hl
    exact (h.dp_ne.2.2.2 f.blk (mem_feet (p := (s, f)) (by rw [e']; simp)).1).1 e.symm
  obtain ⟨⟨cf, hc, hfr⟩, hsf⟩ := hfa
  have c0 : w.cell? ⟨f.blk, 0, none⟩ = some (.slice (rowAt f.row) f.bytes.length cf) := by simp [World.cell?, hc]
  have KEY : ∀ A' c' w', App w w' 0 5 (.slice (rowAt f.row) f.bytes.length cf) A' (f.bytes.length + n) c' (bv f.bytes ++ bv l) →
      w'.cell? ⟨f.blk, 0, none⟩ = some (.slice (rowAt f.row) f.bytes.length cf) ∧ w'.frozen? ⟨f.blk, 0, none⟩ = false ∧
      (w'.setCell ⟨f.blk, 0, none⟩ (.slice A' (f.bytes.length + n) c')).cell? ⟨S.dp, 2, none⟩ = some (.int .i64 S.used) ∧ (w'.setCell ⟨f.blk, 0, none⟩ (.slice A' (f.bytes.length + n) c')).frozen? ⟨S.dp, 2, none⟩ = false ∧
      Hid (GrowP S s f l w (.returned (.tuple #[])) ((w'.setCell ⟨f.blk, 0, none⟩ (.slice A' (f.bytes.length + n) c')).setCell ⟨S.dp, 2, none⟩ (.int .i64 (S.used + (n : Int))))) := by
    intro A' c' w' hap
    have hg := hap.grown
    rw [ownBlock_row] at hg
    have h1 : w'.heap[f.blk]? = w.heap[f.blk]? := hg.block f.blk hlt (fun e => hne _ e.symm rfl)
    obtain ⟨r', rfl, hfile, hoff, hrr⟩ := append_file hsf hc hne (by rw [hll]) hap
    have hd := h.setFile hl (f' := ⟨f.blk, r', f.bytes ++ l, f.safe⟩) rfl hrr hoff hfile
    refine ⟨by simp [World.cell?, h1, hc], by simp [World.frozen?, h1, hc], hd.cells.c2, hd.cells.fz 2, Lib.hid ⟨rfl, r', ?_, ?_, ?_⟩⟩
    · have := hd.setUsed (S.used + (n : Int))
      rw [hll]
      exact this
    · exact Off.setCell (hoff.wide (by intro k hk; simp only [List.mem_cons] at hk ⊢; grind)) (.inl (by simp)) _
    · rcases hrr with hrr | ⟨g, h1, h2, _⟩
      · exact .inl hrr
      · exact .inr ⟨g, h1, h2⟩
  have hd2 := h.cells.c2
  have KH := Lib.hid KEY
  clear KEY h hm hrow hc
  go_enter Try.func32, Try.ntmps32
  go_wp2_with (at_builtin; refine wpList_app rfl (.tmp 10) (.tmp 11) _ rfl Try.underlying22 info_u8 rfl rfl hfr rfl hr (bv_one _) (by omega) (by omega) (Nat.zero_le _) ?_; intro A' c' w' hap; obtain ⟨k1, k2, k3, k4, k5⟩ := KH.out A' c' w' hap)
  go_end0
  exact k5.out
end Go.Proofs.Ytkabgebfbbkioab
