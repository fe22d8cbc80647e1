/-
  Contracts: Loose, Read.
-/
import Derived.Test.YtkabgebfbbkioabDk11
namespace Go.Proofs.Ytkabgebfbbkioab
open Go.RowKit Go.Maps

set_option maxRecDepth 100000 in
theorem loose_c {w : World} {S : DiskS} (h : DiskAt w S) (s : ByteArray) (hfl : ∀ f, lookF S.files s.data.toList = some f → f.bytes.length ≤ 70368744177664) :
    Calls Try.prog 8 #[.pointer (some ⟨S.dp, 0, none⟩), .string s] w (RetNI w (looseM (see S) s)) := by
  have hmf : ∀ (fn : Fn) (first cap : Array Value) (w : World), (Instr.makeFunc fn first cap).run Try.prog w = .ok (.func fn first cap) w := fun _ _ _ _ => rfl
  obtain ⟨w1, hw1⟩ : ∃ w1, w1 = w.alloc (.cells #[.int .i64 0] 3) := ⟨_, rfl⟩
  have h1 : DiskAt w1 S := by rw [hw1]; exact h.alloc _
  have hb1 : Below w.heap.size w w1 := by rw [hw1]; exact (Below.refl _ _).alloc (Nat.le_refl _) _
  have hbox : w1.heap[w.heap.size]? = some (.cells #[.int .i64 0] 3) := by rw [hw1]; exact heap_alloc_new w _
  have C := Lib.hid (with_ask (T := fun k w' => w'.cell? ⟨w.heap.size, 0, none⟩ = some (.int .i64 (k : Int)) ∧ Below w.heap.size w w') h1 (s := s) (z := 0) (g := fun f => f.1.length - f.2) (fn := 26) (cs := #[.pointer (some ⟨w.heap.size, 0, none⟩)])
    (enters_of Try.func26 (by kernel_rfl) rfl) ⟨by simp [World.cell?, hbox], hb1⟩ (by
      intro f hv hl
      show Calls Try.prog 26 #[.pointer (some ⟨f.blk, 0, none⟩), .pointer (some ⟨w.heap.size, 0, none⟩)] w1 _
      have L := Lib.hid (floose_c (h1.file hl).1 (hfl f hl))
      have cb : w1.cell? ⟨w.heap.size, 0, none⟩ = some (.int .i64 0) := by simp [World.cell?, hbox]
      have fb : w1.frozen? ⟨w.heap.size, 0, none⟩ = false := by simp [World.frozen?, hbox]
      have hT : Hid (∀ n, ((w1.drewN n).setCell ⟨w.heap.size, 0, none⟩ (.int .i64 ((f.bytes.length - f.safe : Nat) : Int))).cell? ⟨w.heap.size, 0, none⟩ = some (.int .i64 ((f.bytes.length - f.safe : Nat) : Int)) ∧ Below w.heap.size w ((w1.drewN n).setCell ⟨w.heap.size, 0, none⟩ (.int .i64 ((f.bytes.length - f.safe : Nat) : Int)))) := by
        refine Lib.hid fun n => ⟨?_, ?_⟩
        · simp only [World.cell?, World.setCell, World.drewN, Array.getElem?_modify, if_pos, hbox]; rfl
        · exact (below_drewN hb1 n).setCell (Nat.le_refl _) _
      clear hfl hl h h1 hb1 hbox hw1
      go_enter Try.func26, Try.ntmps26
      go_wp2_with fail
      refine L.out.mono ?_
      rintro e w4 ⟨rfl, n, rfl⟩
      go_wp2
      go_ret
      exact ⟨0, rfl, rfl, hT.out n⟩))
  clear h h1 hb1 hbox hfl
  subst hw1
  go_enter Try.func8, Try.ntmps8
  go_wp2_with fail
  refine C.out.mono ?_
  rintro e w4 ⟨i, rfl, rfl, hc, hb⟩
  go_wp2
  go_ret2
  exact ⟨rfl, hb⟩

/-- A fresh row of bytes comes back, and nothing that was there has turned. -/
def RetB (w : World) (l : List UInt8) (e : Ending) (w' : World) : Prop :=
  ∃ A n c, e = .returned (.slice A n c) ∧ Fr w' w.heap.size 5 A n c (bv l) ∧ Below w.heap.size w w'

theorem sclone_c {w : World} {B n c : Nat} {A : Option Addr} {l : List UInt8} (h : Rd w B A n c (bv l)) (hB : B ≤ w.heap.size) (hn : n ≤ 70368744177664) :
    Calls Try.prog 24 #[.slice A n c] w (RetB w l) := by
  have hl : l.length = n := by simpa using h.len
  cases A with
  | none =>
    obtain ⟨rfl, rfl⟩ := h.nil rfl
    obtain rfl : l = [] := List.eq_nil_of_length_eq_zero hl
    clear h hl
    have q := fun (w : World) (a : Option Addr) (n c : Nat) => Lib.run_eql_slice_nil (P := Try.prog) w _ _ a n c 0 0 Try.underlying22
    go_enter Try.func24, Try.ntmps24
    go_wp2
    go_ret
    exact ⟨none, 0, 0, rfl, Fr.nil, Below.refl _ _⟩
  | some ad =>
    clear hl
    have q := fun (w : World) (a : Option Addr) (n c : Nat) => Lib.run_eql_slice_nil (P := Try.prog) w _ _ a n c 0 0 Try.underlying22
    go_enter Try.func24, Try.ntmps24
    go_wp2_with (at_builtin; refine wpList_app rfl (.tmp 5) (.tmp 6) _ rfl Try.underlying22 info_u8 rfl rfl (Fr.new w 5 #[] rfl (Nat.le_refl _) (Nat.zero_le _)) rfl (h.alloc hB _) (bv_one _) (by omega) (by omega) (by simp) ?_; intro A' c' w' hap)
    go_ret
    exact ⟨A', _, c', rfl, by simpa using hap.fr, ((Below.refl _ _).alloc (Nat.le_refl _) _).trans hap.below⟩

set_option maxRecDepth 100000 in
theorem read_c {w : World} {S : DiskS} (h : DiskAt w S) (s : ByteArray) (hfl : ∀ f, lookF S.files s.data.toList = some f → f.bytes.length ≤ 70368744177664) :
    Calls Try.prog 6 #[.pointer (some ⟨S.dp, 0, none⟩), .string s] w (RetBI w (readM (see S) s)) := by
  have hmf : ∀ (fn : Fn) (first cap : Array Value) (w : World), (Instr.makeFunc fn first cap).run Try.prog w = .ok (.func fn first cap) w := fun _ _ _ _ => rfl
  obtain ⟨w1, hw1⟩ : ∃ w1, w1 = w.alloc (.cells #[.slice none 0 0] 22) := ⟨_, rfl⟩
  have h1 : DiskAt w1 S := by rw [hw1]; exact h.alloc _
  have hb1 : Below w.heap.size w w1 := by rw [hw1]; exact (Below.refl _ _).alloc (Nat.le_refl _) _
  have hbox : w1.heap[w.heap.size]? = some (.cells #[.slice none 0 0] 22) := by rw [hw1]; exact heap_alloc_new w _
  have hsz : w1.heap.size = w.heap.size + 1 := by rw [hw1]; simp
  have C := Lib.hid (with_ask (T := fun l w' => ∃ A n c, w'.cell? ⟨w.heap.size, 0, none⟩ = some (.slice A n c) ∧ Fr w' w.heap.size 5 A n c (bv l) ∧ Below w.heap.size w w') h1 (s := s) (z := []) (g := fun f => f.1) (fn := 23) (cs := #[.pointer (some ⟨w.heap.size, 0, none⟩)])
    (enters_of Try.func23 (by kernel_rfl) rfl) ⟨none, 0, 0, by simp [World.cell?, hbox], Fr.nil, hb1⟩ (by
      intro f hv hl
      show Calls Try.prog 23 #[.pointer (some ⟨f.blk, 0, none⟩), .pointer (some ⟨w.heap.size, 0, none⟩)] w1 _
      obtain ⟨c, t⟩ := (h1.file hl).1.two
      have c0 := t.c0
      have L := Lib.hid (sclone_c (t.fr.rd (Nat.le_refl _)) (Nat.le_refl _) (hfl f hl))
      have hT : Hid (∀ A n c w', Fr w' w1.heap.size 5 A n c (bv f.bytes) → Below w1.heap.size w1 w' → w'.cell? ⟨w.heap.size, 0, none⟩ = some (.slice none 0 0) ∧ w'.frozen? ⟨w.heap.size, 0, none⟩ = false ∧
          ((w'.setCell ⟨w.heap.size, 0, none⟩ (.slice A n c)).cell? ⟨w.heap.size, 0, none⟩ = some (.slice A n c) ∧ Fr (w'.setCell ⟨w.heap.size, 0, none⟩ (.slice A n c)) w.heap.size 5 A n c (bv f.bytes) ∧ Below w.heap.size w (w'.setCell ⟨w.heap.size, 0, none⟩ (.slice A n c)))) := by
        refine Lib.hid fun A n c w' hf hb => ?_
        have hx : w'.heap[w.heap.size]? = some (.cells #[.slice none 0 0] 22) := (hb.block _ (by omega)).trans hbox
        refine ⟨by simp [World.cell?, hx], by simp [World.frozen?, hx], ?_, ?_, ?_⟩
        · simp only [World.cell?, World.setCell, Array.getElem?_modify, if_pos, hx]; rfl
        · obtain ⟨o1, o2⟩ := hf.own
          refine ⟨o1, ?_⟩
          rcases o2 with o2 | ⟨g, cap, cur, e, hg, hh, r⟩
          · exact .inl o2
          · exact .inr ⟨g, cap, cur, e, by omega, (heap_setCell_other _ _ _ (by simp only []; omega)).trans hh, r⟩
        · exact (hb1.trans (hb.mono (by omega))).setCell (Nat.le_refl _) _
      clear hfl hl h h1 hb1 hbox hw1 t hsz
      go_enter Try.func23, Try.ntmps23
      go_wp2_with fail
      refine L.out.mono ?_
      rintro e w4 ⟨A, n, c', rfl, hf, hb⟩
      obtain ⟨k1, k2, k3⟩ := hT.out A n c' w4 hf hb
      replace k3 := Lib.hid k3
      clear hf hb
      go_wp2
      go_ret
      exact ⟨0, rfl, rfl, A, n, c', k3.out⟩))
  clear h h1 hb1 hbox hfl hsz
  subst hw1
  go_enter Try.func6, Try.ntmps6
  go_wp2_with fail
  refine C.out.mono ?_
  rintro e w4 ⟨i, rfl, rfl, A, n, c', hc, hf, hb⟩
  go_wp2
  go_ret2
  exact ⟨A, n, c', rfl, hf, hb⟩
end Go.Proofs.Ytkabgebfbbkioab
