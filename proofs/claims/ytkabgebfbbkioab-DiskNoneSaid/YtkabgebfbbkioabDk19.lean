/-
  Contracts: what a crash does with a file.
-/
import Derived.Test.YtkabgebfbbkioabDk18
namespace Go.Proofs.Ytkabgebfbbkioab
open Go.RowKit Go.Maps

def goneN (f : List UInt8 × Nat) (keep : Nat) : Nat := (f.1.length - f.2) - min keep (f.1.length - f.2)
def crashF (f : FileS) (keep : Nat) : FileS := ⟨f.blk, f.row, f.bytes.take (f.bytes.length - goneN (f.bytes, f.safe) keep), f.bytes.length - goneN (f.bytes, f.safe) keep⟩

theorem FileAt.crash {w : World} {f : FileS} (h : FileAt w f) (hn : ∀ g, f.row = some g → g ≠ f.blk) {k c : Nat} (hk : k ≤ f.bytes.length) (hc : w.heap[f.blk]? = some (.cells #[.slice (rowAt f.row) f.bytes.length c, .int .i64 (f.safe : Int)] 52 (0, 0))) :
    FileAt ((w.setCell ⟨f.blk, 0, none⟩ (.slice (rowAt f.row) k c)).setCell ⟨f.blk, 1, none⟩ (.int .i64 (k : Int))) ⟨f.blk, f.row, f.bytes.take k, k⟩ := by
  have hl : (f.bytes.take k).length = k := by rw [List.length_take]; omega
  obtain ⟨⟨c', hc', hf⟩, hs⟩ := h
  rw [hc] at hc'
  simp only [Option.some.injEq, Obj.cells.injEq, Array.mk.injEq, List.cons.injEq, Value.slice.injEq, true_and, and_true] at hc'
  have hcc : c = c' := by simpa using hc'
  subst hcc
  refine ⟨⟨c, ?_, ?_⟩, by simp; omega⟩
  · simp only [World.setCell, Array.getElem?_modify, if_pos, hc, hl]
    rfl
  · have hf2 := hf.kept (w' := (w.setCell ⟨f.blk, 0, none⟩ (.slice (rowAt f.row) k c)).setCell ⟨f.blk, 1, none⟩ (.int .i64 (k : Int))) fun g e => (heap_setCell_other _ _ _ (hn g e)).trans (heap_setCell_other _ _ _ (hn g e))
    refine ⟨?_⟩
    obtain ⟨o1, o2⟩ := hf2.own
    refine ⟨by simp [hl], ?_⟩
    rcases o2 with ⟨e, h0⟩ | ⟨g, cap, cur, e, hg, hh, h1, h2, h3, h4⟩
    · injection e with e1 e2 e3
      have : k = 0 := by omega
      subst this
      rw [e1, e3, hl]
      exact .inl ⟨rfl, rfl⟩
    · injection e with e1 e2 e3
      refine .inr ⟨g, cap, cur, by rw [e1, e3, hl], hg, hh, by rw [hl]; omega, h2, h3, ?_⟩
      rw [hl, Nat.mul_one] at *
      rw [show bv (f.bytes.take k) = (bv f.bytes).take k by simp [bv], ← h4, List.take_take]
      congr 1
      omega

set_option maxRecDepth 100000 in
set_option maxHeartbeats 1000000 in
theorem crash1_c {w : World} {S : DiskS} (h : DiskAt w S) {s : List UInt8} {f : FileS} (hl : lookF S.files s = some f) (K : Nat) {kb db : Nat}
    (ck : w.cell? ⟨kb, 0, none⟩ = some (.int .i64 (K : Int))) (cd : w.cell? ⟨db, 0, none⟩ = some (.pointer (some ⟨S.dp, 0, none⟩))) (hf : f.bytes.length ≤ 70368744177664) (hu0 : (f.bytes.length : Int) ≤ S.used) (hu : S.used ≤ 70368744177664) :
    Calls Try.prog 21 #[.pointer (some ⟨f.blk, 0, none⟩), .pointer (some ⟨kb, 0, none⟩), .pointer (some ⟨db, 0, none⟩)] w
      (ErrR fun i w' => i = 0 ∧ DiskAt w' { S with files := setF S.files s (crashF f K), used := S.used - (goneN (f.bytes, f.safe) K : Int) } ∧ Off [S.dp, f.blk] w w') := by
  obtain ⟨hfa, hm, hrow, hlt⟩ := h.file hl
  have hrne := h.row_ne hl
  obtain ⟨⟨c, hch, hfr⟩, hsf0⟩ := id hfa
  have hbd : f.blk ≠ S.dp := by
    obtain ⟨a, b, e', -, -⟩ := lookF_parts hl
    exact (h.dp_ne.2.2.2 f.blk (mem_feet (p := (s, f)) (by rw [e']; simp)).1).1
  obtain ⟨G, hG⟩ : ∃ G, G = goneN (f.bytes, f.safe) K := ⟨_, rfl⟩
  have hsf := hfa.safe
  have hG' : G = (f.bytes.length - f.safe) - min K (f.bytes.length - f.safe) := hG
  have hq : ∀ n, Calls Try.prog 22 #[.pointer (some ⟨f.blk, 0, none⟩)] (w.drewN n) fun e w' => e = .returned (.int .i64 ((f.bytes.length - f.safe : Nat) : Int)) ∧ ∃ m, w' = (w.drewN n).drewN m :=
    fun n => floose_c (hfa.kept rfl (fun _ _ => rfl)) hf
  have HQ := Lib.hid hq
  have wr1 : IntKind.i64.wrap (((f.bytes.length - f.safe : Nat) : Int) - min (K : Int) ((f.bytes.length - f.safe : Nat) : Int)) = (G : Int) := by
    rw [IntWalk.i64_in _ (by omega)]; omega
  have wr2 : IntKind.i64.wrap (S.used - (G : Int)) = S.used - (G : Int) := IntWalk.i64_in _ (by omega)
  have wr3 : IntKind.i64.wrap ((f.bytes.length : Int) - (G : Int)) = ((f.bytes.length - G : Nat) : Int) := by rw [IntWalk.i64_in _ (by omega)]; omega
  have hcap := (hfr.rd (Nat.le_refl _)).cap
  have hsl := fun W => run_slice_hi_gen (P := Try.prog) (n := f.bytes.length) (A := rowAt f.row) 22 5 Try.underlying22 info_u8 .i64 (k := f.bytes.length - G) (c := c) (by omega) W
  have d2 := h.cells.c2
  have e2 := h.cells.fz 2
  rw [← hG]
  have hGu : (G : Int) ≤ S.used := by omega
  have HG := Lib.hid hG
  clear hq hu0 hf hcap hG' hsf hG
  go_enter Try.func21, Try.ntmps21
  go_wp2_with fail
  go_quiet ((go_at_call 22; exact Calls.quiet_of (HQ.out _)))
  go_wp2_with fail
  obtain ⟨W, hW⟩ : ∃ W, W = (w.drewN nq).setCell ⟨S.dp, 2, none⟩ (.int .i64 (S.used - (G : Int))) := ⟨_, rfl⟩
  rw [← hW]
  have h1 : DiskAt W { S with used := S.used - (G : Int) } := by rw [hW]; exact (h.drewN nq).setUsed _
  have o1 : Off [S.dp] w W := by
    have o0 : Off [S.dp] w (w.drewN nq) := ⟨rfl, rfl, rfl, Nat.le_refl _, fun _ _ _ => rfl⟩
    rw [hW]; exact o0.setCell (p := ⟨S.dp, 2, none⟩) (.inl (List.mem_singleton.2 rfl)) _
  have hcW : W.heap[f.blk]? = some (.cells #[.slice (rowAt f.row) f.bytes.length c, .int .i64 (f.safe : Int)] 52 (0, 0)) := (o1.block _ hlt (fun e => hbd (List.mem_singleton.1 e))).trans hch
  have c0 : W.cell? ⟨f.blk, 0, none⟩ = some (.slice (rowAt f.row) f.bytes.length c) := by simp [World.cell?, hcW]
  have c1 : W.cell? ⟨f.blk, 1, none⟩ = some (.int .i64 (f.safe : Int)) := by simp [World.cell?, hcW]
  have f0 : W.frozen? ⟨f.blk, 0, none⟩ = false := by simp [World.frozen?, hcW]
  have f1 : W.frozen? ⟨f.blk, 1, none⟩ = false := by simp [World.frozen?, hcW]
  have hFin : Hid (DiskAt (((W.setCell ⟨f.blk, 0, none⟩ (.slice (rowAt f.row) (f.bytes.length - G) c)).setCell ⟨f.blk, 1, none⟩ (.int .i64 ((f.bytes.length - G : Nat) : Int))).drew) { S with files := setF S.files s (crashF f K), used := S.used - (G : Int) } ∧
      Off [S.dp, f.blk] w (((W.setCell ⟨f.blk, 0, none⟩ (.slice (rowAt f.row) (f.bytes.length - G) c)).setCell ⟨f.blk, 1, none⟩ (.int .i64 ((f.bytes.length - G : Nat) : Int))).drew)) := by
    have hfc := (h1.file (S := { S with used := S.used - (G : Int) }) hl).1.crash hrne (k := f.bytes.length - G) (Nat.sub_le _ _) hcW
    have oo : Off (f.blk :: f.row.toList) W ((W.setCell ⟨f.blk, 0, none⟩ (.slice (rowAt f.row) (f.bytes.length - G) c)).setCell ⟨f.blk, 1, none⟩ (.int .i64 ((f.bytes.length - G : Nat) : Int))) :=
      ((Off.refl _ _).setCell (.inl (by simp)) _).setCell (.inl (by simp)) _
    have hd := h1.setFile (S := { S with used := S.used - (G : Int) }) (f' := crashF f K) hl rfl (.inl rfl) oo (by unfold crashF; rw [← HG.out]; exact hfc)
    refine Lib.hid ⟨DiskAt.drew hd, ?_⟩
    exact (((o1.wide (by simp)).setCell (.inl (by simp)) _).setCell (.inl (by simp)) _).drew
  clear hW h1 o1 hcW ck cd d2 e2 wr1 wr2 HQ h hfa hm hrow hlt hch hfr hrne hsf0 hbd hl
  go_region
  go_wp2
  go_ret
  exact ⟨0, rfl, rfl, hFin.out.1, hFin.out.2⟩
end Go.Proofs.Ytkabgebfbbkioab
