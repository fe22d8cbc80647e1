/-
  Two maps of files held against each other: the contract of same, where they are the same.
-/
import Derived.Test.YtkabgebfbbkioaaDkE
import Derived.Maps.RangeWalk
import Derived.Sort.MapsRangeIn
import Derived.Laws.StructEq
namespace Go.Proofs.Ytkabgebfbbkioaa
open Go.RowKit Go.Maps Go.Sort

theorem bonD {a W W' : World} (h : Below a.heap.size a W) (hb : Below W.heap.size W W') : Below a.heap.size a W' := h.trans (hb.mono h.size)
theorem beq_strD (s t : ByteArray) : (s.toList == t.toList) = decide (s = t) := by
  rw [Bool.eq_iff_iff, beq_iff_eq, decide_eq_true_iff]
  constructor
  · intro h
    apply ByteArray.ext
    apply Array.toList_inj.1
    rw [← Lib.toList_data, ← Lib.toList_data, h]
  · rintro rfl; rfl
set_option maxRecDepth 100000 in
theorem eq_fileG (W : World) (b : ByteArray) (n : Int) (b' : ByteArray) (n' : Int) : (Op.equalIn 10000 58 (.agg #[.string b, .int .i64 n]) (.agg #[.string b', .int .i64 n'])).run Try.prog W = .ok (decide (b = b') && decide (n = n')) W := by
  rw [show (10000 : Nat) = 9998 + 1 + 1 from rfl, run_equalIn_agg W (9998 + 1) 58 _ _ (by kernel_rfl) (by kernel_rfl)]
  obtain ⟨fs, hfs⟩ : ∃ fs, (Try.prog.fieldsOf 58).toList = fs := ⟨_, rfl⟩
  rw [hfs]
  have h3 := hfs
  unfold Program.fieldsOf at h3
  rw [Try.underlying58] at h3
  simp only at h3
  subst h3
  simp only [Op.eqFields]
  have a0 : (part 9 #[Value.string b, Value.int IntKind.i64 n] 0).run Try.prog W = .ok (.string b) W := by kernel_rfl
  have a1 : (part 3 #[Value.string b, Value.int IntKind.i64 n] 1).run Try.prog W = .ok (.int .i64 n) W := by kernel_rfl
  have b0 : (part 9 #[Value.string b', Value.int IntKind.i64 n'] 0).run Try.prog W = .ok (.string b') W := by kernel_rfl
  have b1 : (part 3 #[Value.string b', Value.int IntKind.i64 n'] 1).run Try.prog W = .ok (.int .i64 n') W := by kernel_rfl
  have e0 := run_equalIn_string (P := Try.prog) W 9998 9 b b' Try.underlying9
  have e1 := run_equalIn_int (P := Try.prog) W 9998 3 .i64 _ n n' Try.underlying3
  rw [if_pos (by decide), if_pos (by decide)]
  rw [beq_strD] at e0
  rw [show (n == n') = decide (n = n') by rw [Bool.eq_iff_iff]; simp] at e1
  simp only [Sem.run_bind, a0, b0, e0, Result.andThen_ok, Sem.run_ite, a1, b1, e1, Sem.run_pure]
  cases decide (b = b') <;> cases decide (n = n') <;> rfl
theorem eq_fileT (W : World) (b : ByteArray) (n : Int) : (Op.equalIn 10000 58 (.agg #[.string b, .int .i64 n]) (.agg #[.string b, .int .i64 n])).run Try.prog W = .ok true W := (eq_fileG W b n b n).trans (by simp)

def mkF (c : ByteArray × Int) : Value := .agg #[.string c.1, .int .i64 c.2]
theorem mkF_inv {v : Value} {y : DataW Unit × List MemPlace} (h : fileR v = some y) : ∃ c, v = mkF c := by
  unfold fileR at h
  split at h
  case h_2 => cases h
  rename_i xs
  unfold fileRL at h
  split at h
  · rename_i s' n' hx
    have hx : xs = #[.string s', .int .i64 n'] := by rw [← Array.toList_inj]; exact hx
    exact ⟨(s', n'), by rw [hx]; rfl⟩
  · cases h
theorem key_inv {x : ByteArray} {kl : Lit} (h : keyOf Try.prog 9 (.string x) = some kl) : x.size ≤ maxLen ∧ kl = .string x.data.toList := by
  have h1 : x.size ≤ maxLen := by
    rcases Nat.lt_or_ge maxLen x.size with hx | hx
    · exfalso
      simp [keyOf, Try.underlying9, mapKey] at h
      omega
    · exact hx
  rw [key_s h1] at h
  exact ⟨h1, (Option.some.inj h).symm⟩
/-- An entry that a range meets. -/
theorem meets {fs : MF} {x : ByteArray} {kl : Lit} {c : ByteArray × Int} {y : DataW Unit × List MemPlace} (hk : keyOf Try.prog 9 (.string x) = some kl) (hy : fileR (mkF c) = some y) (hat : ∀ zd, (FM fs).atKey kl zd = y.1) :
    x.size ≤ maxLen ∧ kl = .string x.data.toList ∧ ∃ f, lookM fs x.data.toList = some f ∧ mkF c = fileV f.1 ((f.1.length - f.2 : Nat) : Int) := by
  obtain ⟨h1, rfl⟩ := key_inv hk
  refine ⟨h1, rfl, ?_⟩
  have a1 := hat .nil
  have a2 := hat (.lit (.bool true))
  rw [at_FM] at a1 a2
  cases hl : lookM fs x.data.toList with
  | none =>
    rw [hl] at a1 a2
    simp only [] at a1 a2
    rw [← a1] at a2
    cases a2
  | some f =>
    rw [hl] at a1
    simp only [] at a1
    refine ⟨f, rfl, ?_⟩
    obtain ⟨y1, y2⟩ := y
    simp only at a1
    rw [← a1] at hy
    exact fileR_inv hy

set_option maxRecDepth 100000 in
set_option maxHeartbeats 4000000 in
theorem same_c {w : World} {b1 q1 b2 q2 : Nat} {fs : MF} (h1 : w.ownsMap Try.prog 9 fileR b1 q1 (FM fs)) (h2 : w.ownsMap Try.prog 9 fileR b2 q2 (FM fs)) :
    Calls Try.prog 23 #[.map (some b1), .map (some b2)] w (RetV w (.bool true)) := by
  have hb2 := h2.lt
  go_enter Try.func23, Try.ntmps23
  go_wp2_with (at_range; refine wpList_range_own _ rfl _ 51 rfl 9 58 keyed_s Try.underlying51 fileR b1 q1 _ rfl h1 ?_; intro w0 hrg0 hg0 hs0)
  go_frame
  go_loopw [5] (fun _ wr => ∃ (left : Lit → Bool) (cnt : Nat), wr.ranges Try.prog 9 fileR b1 w.heap.size q1 (FM fs) left cnt ∧ wr.ownsMap Try.prog 9 fileR b2 q2 (FM fs) ∧ Below w.heap.size w wr) (fun _ wr => wr.rangeLeft b1 w.heap.size)
  case atStart => exact ⟨_, _, hrg0, h2.kept hg0 (by simp), (Below.refl _ _).grown hg0 (Nat.le_refl _) (fun j hj => by cases hj)⟩
  case round =>
    clear hrg0 hg0 hs0 h1 h2
    obtain ⟨left, cnt, hrg, ho2, hbw⟩ := hrel
    go_wp2_with (at_next; refine wpList_next_ranges _ rfl _ rfl 9 keyed_s fileR Value.string mkF (fun key kl hk => Go.Maps.keyOf_string_inv Try.underlying9 hk) (fun v y hv => mkF_inv hv) b1 w.heap.size q1 _ _ _ rfl hrg ?_ ?_)
    · intro _ _
      have l1 := fun ty => hrg.owns.len Try.underlying51 ty
      have l2 := fun ty => ho2.len Try.underlying51 ty
      have HB := Lib.hid hbw
      generalize Maps.size (FM fs) = sz at l1 l2
      clear hrg ho2 hbw
      go_wp2_with fail
      go_ret
      exact RetV.bool (by simp) HB.out
    · intro x cb cn kl y1 y2 w1 cnt1 hkx hlx hy hat hrg1 hlt hg1 hs1 hen
      obtain ⟨hsx, rfl, f, hf, hc⟩ := meets hkx hy hat
      rw [hc] at hen ⊢
      obtain ⟨n, hn⟩ : ∃ n, n = ((f.1.length - f.2 : Nat) : Int) := ⟨_, rfl⟩
      rw [← hn] at hen ⊢
      have ho3 := ho2.kept hg1 (fun e => by have e := Option.some.inj e; omega)
      have hlk := run_lookM_ok (ho3.alloc (.cells #[.string ⟨f.1.toArray⟩, .int .i64 n] 58)) hsx
      rw [hf] at hlk
      simp only [lookV, fileV, Option.isSome_some] at hlk
      rw [← hn] at hlk
      have hE := fun W => eq_fileT W ⟨f.1.toArray⟩ n
      have hb1 := hbw.grown hg1 hbw.size (fun j hj => by cases hj; exact Nat.le_refl _)
      have HB := Lib.hid hb1
      have HO := Lib.hid ho3
      have HL := Lib.hid hlt
      have HR := Lib.hid hrg1
      have HRG := Lib.hid hrg
      unfold fileV at hen ⊢
      clear hc hf hy hat hkx hsx hn hlx hrg ho2 hbw ho3 hb1 hg1 hs1 hlt hrg1
      go_wp2_with fail
      go_roundw
      case rel => exact ⟨_, cnt1, (HR.out.alloc _).alloc _, (HO.out.alloc _).alloc _, (HB.out.alloc HB.out.size _).alloc (by have := HB.out.size; simp; omega) _⟩
      case measure => rw [((HR.out.alloc _).alloc _).left_eq, HRG.out.left_eq]; exact HL.out
end Go.Proofs.Ytkabgebfbbkioaa
