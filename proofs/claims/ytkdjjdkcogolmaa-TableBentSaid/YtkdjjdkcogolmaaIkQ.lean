/-
  Two internal keys held against each other by '=='.
-/
import Derived.Test.YtkdjjdkcogolmaaIkS
import Derived.Laws.StructEq
namespace Go.Proofs.Ytkdjjdkcogolmaa
set_option maxRecDepth 100000
open Go.RowKit Go.Shelf

def sameK (s : ByteArray) (q k : Nat) (t : ByteArray) (q' k' : Nat) : Bool := decide (s = t ∧ q = q' ∧ k = k')
set_option maxRecDepth 100000 in
theorem run_eq_ik (W : World) (s : ByteArray) (q k : Nat) (t : ByteArray) (q' k' : Nat) :
    (Op.equalIn 10000 43 (.agg #[.string s, .int .u64 (q : Int), .int .u8 (k : Int)]) (.agg #[.string t, .int .u64 (q' : Int), .int .u8 (k' : Int)])).run Try.prog W = .ok (sameK s q k t q' k') W := by
  have hs : (s.toList == t.toList) = decide (s = t) := by rw [beq_str]; simp [cmpS_eq]
  rw [show (10000 : Nat) = 9998 + 1 + 1 from rfl, run_equalIn_agg W (9998 + 1) 43 _ _ (by kernel_rfl) (by kernel_rfl)]
  obtain ⟨fs, hfs⟩ : ∃ fs, (Try.prog.fieldsOf 43).toList = fs := ⟨_, rfl⟩
  rw [hfs]
  have h2 := Try.underlying43
  have h3 := hfs
  unfold Program.fieldsOf at h3
  rw [h2] at h3
  simp only at h3
  subst h3
  simp only [Op.eqFields]
  have a0 : (part 9 #[Value.string s, Value.int IntKind.u64 (q : Int), Value.int IntKind.u8 (k : Int)] 0).run Try.prog W = .ok (.string s) W := by kernel_rfl
  have a1 : (part 41 #[Value.string s, Value.int IntKind.u64 (q : Int), Value.int IntKind.u8 (k : Int)] 1).run Try.prog W = .ok (.int .u64 (q : Int)) W := by kernel_rfl
  have a2 : (part 5 #[Value.string s, Value.int IntKind.u64 (q : Int), Value.int IntKind.u8 (k : Int)] 2).run Try.prog W = .ok (.int .u8 (k : Int)) W := by kernel_rfl
  have b0 : (part 9 #[Value.string t, Value.int IntKind.u64 (q' : Int), Value.int IntKind.u8 (k' : Int)] 0).run Try.prog W = .ok (.string t) W := by kernel_rfl
  have b1 : (part 41 #[Value.string t, Value.int IntKind.u64 (q' : Int), Value.int IntKind.u8 (k' : Int)] 1).run Try.prog W = .ok (.int .u64 (q' : Int)) W := by kernel_rfl
  have b2 : (part 5 #[Value.string t, Value.int IntKind.u64 (q' : Int), Value.int IntKind.u8 (k' : Int)] 2).run Try.prog W = .ok (.int .u8 (k' : Int)) W := by kernel_rfl
  have e0 := run_equalIn_string (P := Try.prog) W 9998 9 s t Try.underlying9
  have e1 := run_equalIn_int (P := Try.prog) W 9998 41 .u64 _ (q : Int) (q' : Int) Try.underlying41
  have e2 := run_equalIn_int (P := Try.prog) W 9998 5 .u8 _ (k : Int) (k' : Int) Try.underlying5
  rw [if_pos (by decide), if_pos (by decide), if_pos (by decide)]
  rw [hs] at e0
  rw [show ((q : Int) == (q' : Int)) = decide (q = q') by rw [Bool.eq_iff_iff]; simp; omega] at e1
  rw [show ((k : Int) == (k' : Int)) = decide (k = k') by rw [Bool.eq_iff_iff]; simp; omega] at e2
  have hgoal : sameK s q k t q' k' = if !decide (s = t) then false else if !decide (q = q') then false else if !decide (k = k') then false else true := by
    unfold sameK
    by_cases h0 : s = t <;> by_cases h1 : q = q' <;> by_cases h2 : k = k' <;> simp [h0, h1, h2]
  rw [hgoal]
  simp only [Sem.run_bind, a0, b0, e0, Result.andThen_ok, Sem.run_ite, a1, b1, e1, a2, b2, e2, Sem.run_pure]
  cases decide (s = t) <;> cases decide (q = q') <;> cases decide (k = k') <;> rfl
end Go.Proofs.Ytkdjjdkcogolmaa
