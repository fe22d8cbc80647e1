/-
  Contract: List.
-/
import Derived.Test.YtkabgebfbbkioabDk15
import Derived.Test.YtkabgebfbbkioabDkI
import Derived.OwnWalkIn
import Derived.TacticsInMore
namespace Go.Proofs.Ytkabgebfbbkioab
open Go.RowKit Go.Maps Go.Sort Go.Shelf

theorem before_le : ∀ x y : List UInt8, bytesBefore x y = true → x ≤ y
  | [], [], h => by simp [bytesBefore] at h
  | [], b :: s, _ => by simp
  | a :: r, [], h => by simp [bytesBefore] at h
  | a :: r, b :: s, h => by
    rw [bytesBefore.eq_4] at h
    simp only [Bool.or_eq_true, decide_eq_true_eq, Bool.and_eq_true, beq_iff_eq] at h
    rw [List.cons_le_cons_iff]
    rcases h with h | ⟨h1, h2⟩
    · exact .inl h
    · exact .inr ⟨h1, before_le r s h2⟩

theorem strKeys_FD (fs : List (List UInt8 × FileS)) : strKeys (FD fs) = fs.map (·.1) := by
  simp only [strKeys, FD, List.map_map]
  rfl

theorem sorted_keys {fs : List (List UInt8 × FileS)} (hc : Canon (FD fs)) {ss : List (List UInt8)} (hp : ss.Perm (strKeys (FD fs))) : ss.mergeSort (fun x y => decide (x ≤ y)) = fs.map (·.1) := by
  rw [strKeys_FD] at hp
  have h1 : (fs.map (·.1)).Pairwise (fun x y : List UInt8 => decide (x ≤ y) = true) := by
    obtain ⟨es, e, hpw, -⟩ := hc
    injection e with e
    subst e
    rw [List.pairwise_map] at hpw ⊢
    exact hpw.imp fun {a b} h => by simpa using before_le _ _ h
  have h2 := List.pairwise_mergeSort (le := fun x y : List UInt8 => decide (x ≤ y)) (fun a b c h1 h2 => by simp at h1 h2 ⊢; exact List.le_trans h1 h2) (fun a b => by simp; exact List.le_total a b) ss
  exact List.Perm.eq_of_pairwise (fun a b _ _ h1 h2 => by simp at h1 h2; exact List.le_antisymm h1 h2) h2 h1 ((List.mergeSort_perm ss _).trans hp)

def ListP (w : World) (names : List (List UInt8)) (e : Ending) (w' : World) : Prop :=
  ∃ A n c, e = .returned (.slice A n c) ∧ Fr w' w.heap.size 9 A n c (names.map encStr) ∧ Below w.heap.size w w'

set_option maxRecDepth 100000 in
theorem list_c {w : World} {S : DiskS} (h : DiskAt w S) (hn : S.files.length ≤ 8000000) :
    Calls Try.prog 16 #[.pointer (some ⟨S.dp, 0, none⟩)] w (ListP w (S.files.map (·.1))) := by
  have c5 := h.cells.c5
  have hown := h.names
  have hsz : Maps.size (FD S.files) = S.files.length := by simp [Maps.size, FD]
  have hmax : Maps.size (FD S.files) ≤ maxLen := by rw [hsz]; unfold maxLen; omega
  have hbytes : Maps.size (FD S.files) * 16 ≤ 140737488355328 := by rw [hsz]; omega
  have SRT := Lib.hid fun (ss : List (List UInt8)) (hp : ss.Perm (strKeys (FD S.files))) => sorted_keys (hown.canon keyed_s) hp
  refine (callsIn_wide (n := 6)).1 ?_
  have hfK : Fence.wide.fn 40 := trivial
  have hfS : Fence.wide.fn 39 := trivial
  have hfM : Fence.wide.fn 38 := trivial
  have M := Lib.hid (callsIn_wide (n := 5) |>.2 (made_c h))
  clear h hsz hn
  refine callsIn_of_wp Try.func16 rfl trivial ?_ rfl
  simp only [Try.ntmps16, List.size_toArray, List.length_cons, List.length_nil, Nat.reduceAdd, Nat.reduceSub, Array.replicate_succ, Array.replicate_zero, List.push_toArray, List.append_toArray, List.nil_append, List.cons_append]
  gi_wp2_with (first
    | (gi_at_call 38; refine M.out.mono ?_; rintro e w' ⟨rfl, rfl⟩)
    | (gi_at_call 40; refine (Try.maps_Keys_40 _ _).mono ?_; rintro e w' ⟨rfl, rfl⟩)
    | (gi_at_call 39; refine (Try.slices_Sorted_keys_39_40 S.fb S.fn (FD S.files) ptrR w hown hmax hbytes).mono ?_; rintro e w' ⟨v, ss, rfl, hS, hrow, hnil, hb⟩))
  go_ret
  have hform : ∃ A' n' c', v = .slice A' n' c' := by
    rcases hrow.2 with ⟨e, h0⟩ | ⟨g, cap, cur, e, _⟩
    · exact ⟨none, 0, 0, e⟩
    · exact ⟨_, _, _, e⟩
  obtain ⟨A', n', c', rfl⟩ := hform
  rw [SRT.out ss hS] at hrow
  refine ⟨A', n', c', rfl, ⟨?_⟩, ((Below.refl _ w).alloc (Nat.le_refl _) _).trans (hb.mono (by simp))⟩
  obtain ⟨o1, o2⟩ := hrow
  rcases o2 with ⟨e, h0⟩ | ⟨g, cap, cur, e, hg, r⟩
  · injection e with e1 e2 e3
    subst e1; subst e2; subst e3
    rw [h0] at o1
    exact ⟨o1, .inl ⟨rfl, rfl⟩⟩
  · injection e with e1 e2 e3
    subst e1; subst e2; subst e3
    exact ⟨o1, .inr ⟨g, _, cur, rfl, by simp at hg; omega, r⟩⟩
end Go.Proofs.Ytkabgebfbbkioab
