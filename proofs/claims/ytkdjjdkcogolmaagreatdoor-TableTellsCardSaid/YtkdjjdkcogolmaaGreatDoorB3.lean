/-
  The texts BS, B2, B3, in one.
-/
import Derived.Test.YtkdjjdkcogolmaaGreatDoorB1
import Derived.Laws.StructEq
import Derived.Deep.QuietTactic
import Derived.BigQuiet
import Derived.Lib.MinMax
section
/-
  Operations, and entries, held against each other: the statements' Same and Entries.
-/
namespace Go.Proofs.YtkdjjdkcogolmaaGreatDoor
set_option maxRecDepth 100000
open Go.RowKit Go.Shelf

def sameE (x y : Ent) : Bool := decide (x.s = y.s) && (decide (x.q = y.q) && (decide (x.k = y.k) && decide (x.v = y.v)))
theorem sameE_iff {x y : Ent} : sameE x y = true ↔ x = y := by
  obtain ⟨a, b, c, d⟩ := x; obtain ⟨e, f, g, h⟩ := y
  simp [sameE]
def sameL {T : Type} (f : T → T → Bool) : List T → List T → Bool
  | [], [] => true
  | x :: L, y :: M => f x y && sameL f L M
  | _, _ => false
theorem sameL_iff {T : Type} {f : T → T → Bool} (hf : ∀ x y, f x y = true ↔ x = y) : ∀ {L M : List T}, sameL f L M = true ↔ L = M
  | [], [] => by simp [sameL]
  | x :: L, y :: M => by simp [sameL, hf, sameL_iff hf]
  | [], y :: M => by simp [sameL]
  | x :: L, [] => by simp [sameL]
def sameEs (L M : List Ent) : Bool := sameL sameE L M
theorem sameEs_iff {L M : List Ent} : sameEs L M = true ↔ L = M := sameL_iff (fun _ _ => sameE_iff)
theorem list_same {T : Type} {L M : List T} {n : Nat} (h1 : L.length = n) (h2 : M.length = n) (h : ∀ i, i < n → L[i]? = M[i]?) : L = M := by
  apply List.ext_getElem?
  intro i
  rcases Nat.lt_or_ge i n with hi | hi
  · exact h i hi
  · rw [List.getElem?_eq_none (by omega), List.getElem?_eq_none (by omega)]
theorem beq_strs (s t : ByteArray) : (s.toList == t.toList) = decide (s = t) := by
  rw [Bool.eq_iff_iff, beq_iff_eq, decide_eq_true_iff]
  constructor
  · intro h
    apply ByteArray.ext
    apply Array.toList_inj.1
    rw [← Lib.toList_data, ← Lib.toList_data, h]
  · rintro rfl; rfl

set_option maxRecDepth 100000 in
theorem run_eq_key (W : World) (d : Nat) (x y : Ent) :
    (Op.equalIn (d + 1 + 1) 26 (.agg #[.string x.s, .int .u64 (x.q : Int), .int .u8 (x.k : Int)]) (.agg #[.string y.s, .int .u64 (y.q : Int), .int .u8 (y.k : Int)])).run Tryz.prog W = .ok (decide (x.s = y.s) && (decide (x.q = y.q) && decide (x.k = y.k))) W := by
  rw [run_equalIn_agg W (d + 1) 26 _ _ (by kernel_rfl) (by kernel_rfl)]
  obtain ⟨fs, hfs⟩ : ∃ fs, (Tryz.prog.fieldsOf 26).toList = fs := ⟨_, rfl⟩
  rw [hfs]
  have h3 := hfs
  unfold Program.fieldsOf at h3
  rw [Tryz.underlying26] at h3
  simp only at h3
  subst h3
  simp only [Op.eqFields]
  have a0 : (part 9 #[Value.string x.s, .int .u64 (x.q : Int), .int .u8 (x.k : Int)] 0).run Tryz.prog W = .ok (.string x.s) W := by kernel_rfl
  have a1 : (part 22 #[Value.string x.s, .int .u64 (x.q : Int), .int .u8 (x.k : Int)] 1).run Tryz.prog W = .ok (.int .u64 (x.q : Int)) W := by kernel_rfl
  have a2 : (part 5 #[Value.string x.s, .int .u64 (x.q : Int), .int .u8 (x.k : Int)] 2).run Tryz.prog W = .ok (.int .u8 (x.k : Int)) W := by kernel_rfl
  have b0 : (part 9 #[Value.string y.s, .int .u64 (y.q : Int), .int .u8 (y.k : Int)] 0).run Tryz.prog W = .ok (.string y.s) W := by kernel_rfl
  have b1 : (part 22 #[Value.string y.s, .int .u64 (y.q : Int), .int .u8 (y.k : Int)] 1).run Tryz.prog W = .ok (.int .u64 (y.q : Int)) W := by kernel_rfl
  have b2 : (part 5 #[Value.string y.s, .int .u64 (y.q : Int), .int .u8 (y.k : Int)] 2).run Tryz.prog W = .ok (.int .u8 (y.k : Int)) W := by kernel_rfl
  have e0 := run_equalIn_string (P := Tryz.prog) W d 9 x.s y.s Tryz.underlying9
  have e1 := run_equalIn_int (P := Tryz.prog) W d 22 .u64 _ (x.q : Int) (y.q : Int) Tryz.underlying22
  have e2 := run_equalIn_int (P := Tryz.prog) W d 5 .u8 _ (x.k : Int) (y.k : Int) Tryz.underlying5
  rw [if_pos (by decide), if_pos (by decide), if_pos (by decide)]
  rw [beq_strs] at e0
  rw [show ((x.q : Int) == (y.q : Int)) = decide (x.q = y.q) by rw [Bool.eq_iff_iff]; simp; omega] at e1
  rw [show ((x.k : Int) == (y.k : Int)) = decide (x.k = y.k) by rw [Bool.eq_iff_iff]; simp; omega] at e2
  simp only [Sem.run_bind, a0, b0, e0, Result.andThen_ok, Sem.run_ite, a1, b1, e1, a2, b2, e2, Sem.run_pure]
  cases decide (x.s = y.s) <;> cases decide (x.q = y.q) <;> cases decide (x.k = y.k) <;> rfl
set_option maxRecDepth 100000 in
theorem run_eq_en (W : World) (x y : Ent) : (Op.equalIn 10000 40 (en x.s x.q x.k x.v) (en y.s y.q y.k y.v)).run Tryz.prog W = .ok (sameE x y) W := by
  unfold en
  rw [show (10000 : Nat) = 9997 + 1 + 1 + 1 from rfl, run_equalIn_agg W (9997 + 1 + 1) 40 _ _ (by kernel_rfl) (by kernel_rfl)]
  obtain ⟨fs, hfs⟩ : ∃ fs, (Tryz.prog.fieldsOf 40).toList = fs := ⟨_, rfl⟩
  rw [hfs]
  have h3 := hfs
  unfold Program.fieldsOf at h3
  rw [Tryz.underlying40] at h3
  simp only at h3
  subst h3
  simp only [Op.eqFields]
  have a0 : (part 26 #[Value.string x.s, .int .u64 (x.q : Int), .int .u8 (x.k : Int), .string x.v] 0).run Tryz.prog W = .ok (.agg #[.string x.s, .int .u64 (x.q : Int), .int .u8 (x.k : Int)]) W := by kernel_rfl
  have a1 : (part 9 #[Value.string x.s, .int .u64 (x.q : Int), .int .u8 (x.k : Int), .string x.v] 3).run Tryz.prog W = .ok (.string x.v) W := by kernel_rfl
  have b0 : (part 26 #[Value.string y.s, .int .u64 (y.q : Int), .int .u8 (y.k : Int), .string y.v] 0).run Tryz.prog W = .ok (.agg #[.string y.s, .int .u64 (y.q : Int), .int .u8 (y.k : Int)]) W := by kernel_rfl
  have b1 : (part 9 #[Value.string y.s, .int .u64 (y.q : Int), .int .u8 (y.k : Int), .string y.v] 3).run Tryz.prog W = .ok (.string y.v) W := by kernel_rfl
  have e0 := run_eq_key W 9997 x y
  have e1 := run_equalIn_string (P := Tryz.prog) W (9997 + 1) 9 x.v y.v Tryz.underlying9
  rw [if_pos (by decide), if_pos (by decide)]
  rw [beq_strs] at e1
  unfold sameE
  simp only [Sem.run_bind, a0, b0, e0, Result.andThen_ok, Sem.run_ite, a1, b1, e1, Sem.run_pure]
  cases decide (x.s = y.s) <;> cases decide (x.q = y.q) <;> cases decide (x.k = y.k) <;> cases decide (x.v = y.v) <;> rfl

/-- A call that returned a value, and only read. -/
def RetQ (w : World) (v : Value) (e : Ending) (w' : World) : Prop := e = .returned v ∧ ∃ q, w' = w.drewN q
theorem RetQ.bool {w w' : World} {b c : Bool} (h : b = c) {q : Nat} (hq : w' = w.drewN q) : RetQ w (.bool c) (.returned (.bool b)) w' := ⟨by rw [h], q, hq⟩
theorem RetQ.below {w w' : World} {v : Value} {e : Ending} (h : RetQ w v e w') : RetVl w v e w' := by
  obtain ⟨h1, q, rfl⟩ := h
  exact ⟨h1, below_drewN (Below.refl _ _) q⟩
theorem drewN_add (w : World) (a b : Nat) : (w.drewN a).drewN b = w.drewN (a + b) := by
  simp [World.drewN, Nat.add_assoc]
set_option maxRecDepth 100000 in
set_option maxHeartbeats 2000000 in
theorem sameE_c {w : World} {B1 B2 n1 c1 n2 c2 : Nat} {A1 A2 : Option Addr} {L M : List Ent} (h1 : RdE w B1 A1 n1 c1 L) (h2 : RdE w B2 A2 n2 c2 M) (hn : (n1 : Int) ≤ 70368744000000) (hm : (n2 : Int) ≤ 70368744000000) :
    Calls Tryz.prog 20 #[.slice A1 n1 c1, .slice A2 n2 c2] w (RetQ w (.bool (sameEs L M))) := by
  have hl := h1.len
  have hl2 := h2.len
  have hret : ∀ b : Bool, (b = true ↔ L = M) → b = sameEs L M := fun b hb => by rw [Bool.eq_iff_iff, hb, sameEs_iff]
  have HR := Lib.hid hret
  clear hret
  by_cases hne : n1 = n2
  case neg =>
    have d1 : ((n1 : Int) != (n2 : Int)) = true := by simp; omega
    have hno := HR.out false (by constructor; (intro h; cases h); (intro h; subst h; omega))
    have HNO := Lib.hid hno
    clear h1 h2 hl hl2 hno HR hne
    go_enter Tryz.func20, Tryz.ntmps20
    go_wp2_with fail
    go_ret
    exact RetQ.bool HNO.out (q := 0) rfl
  subst hne
  have d1 : ((n1 : Int) != (n1 : Int)) = false := by simp
  go_enter Tryz.func20, Tryz.ntmps20
  go_wp2_with fail
  go_loopw [13] (fun iv wr => ∃ (k q : Nat), iv = .int .i64 (k : Int) ∧ k ≤ n1 ∧ (∀ i, i < k → L[i]? = M[i]?) ∧ wr = w.drewN q) (fun iv _ => ((n1 : Int) - intOf iv).toNat)
  case atStart => exact ⟨0, 0, rfl, Nat.zero_le _, fun i hi => by omega, rfl⟩
  case round =>
    obtain ⟨k, q, rfl, hkn, hall, hwr⟩ := hrel
    by_cases hlt : k < n1
    · obtain ⟨b, off, hA, hbB, hcell⟩ := h1.form (by omega)
      obtain ⟨b', off', hA', hbB', hcell'⟩ := h2.form (by omega)
      subst hA; subst hA'
      obtain ⟨x, hx⟩ : ∃ x, L[k]? = some x := ⟨L[k]'(by omega), List.getElem?_eq_getElem _⟩
      obtain ⟨y, hy⟩ : ∃ y, M[k]? = some y := ⟨M[k]'(by omega), List.getElem?_eq_getElem _⟩
      have hk (b i : Nat) : wr.cell? ⟨b, i, none⟩ = w.cell? ⟨b, i, none⟩ := by rw [hwr]; rfl
      obtain ⟨x0, x1, x2, x3⟩ := hcell k x hx
      obtain ⟨y0, y1, y2, y3⟩ := hcell' k y hy
      rw [← hk] at x0 x1 x2 x3 y0 y1 y2 y3
      have hki : (k : Int) < (n1 : Int) := by omega
      have hk0 : (0 : Int) ≤ (k : Int) := by omega
      have hE := fun W => run_eq_en W x y
      unfold en at hE
      generalize hsm : sameE x y = bb at *
      have HS := Lib.hid hsm
      have HX := Lib.hid hx
      have HY := Lib.hid hy
      have HALL := Lib.hid hall
      have HW := Lib.hid hwr
      clear hcell hcell' hk hx hy hall hwr h1 h2 hl hl2 hsm
      cases bb with
      | true =>
        go_wp2_with fail
        go_quiet (fail)
        go_wp2_with fail
        go_roundw
        case rel =>
          refine ⟨k + 1, q + _, by simp, by omega, fun i hi => ?_, by rw [HW.out]; exact drewN_add _ _ _⟩
          rcases Nat.lt_or_ge i k with h3 | h3
          · exact HALL.out i h3
          · obtain rfl : i = k := by omega
            rw [HX.out, HY.out, sameE_iff.1 HS.out]
        case measure => simp [intOf]; omega
      | false =>
        have hno := HR.out false (by constructor; (intro h; cases h); (intro h; have e1 := HX.out; rw [h, HY.out] at e1; cases e1; exact absurd HS.out (by rw [sameE_iff.2 rfl]; decide)))
        have HNO := Lib.hid hno
        clear hno
        go_wp2_with fail
        go_quiet (fail)
        go_wp2_with fail
        go_ret
        exact RetQ.bool HNO.out (by rw [HW.out]; exact drewN_add _ _ _)
    · have hki : ¬ (k : Int) < (n1 : Int) := by omega
      have hyes := HR.out true (by simp; exact list_same hl hl2 (fun i hi => hall i (by omega)))
      have HY := Lib.hid hyes
      have HW := Lib.hid hwr
      clear hyes hall h1 h2 hl hl2 HR hwr
      go_wp2_with fail
      go_ret
      exact RetQ.bool HY.out HW.out
end Go.Proofs.YtkdjjdkcogolmaaGreatDoor
end

section
/-
  Which entries are a block: the contracts of right, the program's and the reference's.
-/
namespace Go.Proofs.YtkdjjdkcogolmaaGreatDoor
set_option maxRecDepth 100000
open Go.RowKit Go.Shelf
set_option linter.unusedVariables false

theorem allE_yes {L : List Ent} {n : Nat} (hl : L.length = n) (h : ∀ i a, i < n → L[i]? = some a → entB a = true) : L.all entB = true := by
  rw [List.all_eq_true]
  intro x hx
  obtain ⟨i, hi⟩ := List.getElem?_of_mem hx
  have : i < n := by
    rcases Nat.lt_or_ge i L.length with h1 | h1
    · omega
    · rw [List.getElem?_eq_none h1] at hi; cases hi
  exact h i x this hi
theorem allE_no {L : List Ent} {k : Nat} {x : Ent} (hx : L[k]? = some x) (h : entB x = false) : L.all entB = false := by
  rw [List.all_eq_false]
  exact ⟨x, List.mem_of_getElem? hx, by simp [h]⟩

set_option maxRecDepth 100000 in
set_option maxHeartbeats 2000000 in
theorem blkRight_c {w : World} {B n c : Nat} {A : Option Addr} {L : List Ent} (h : RdE w B A n c L) (hB : B ≤ w.heap.size) (hn : (n : Int) ≤ 70368744000000) :
    Calls Tryz.prog 97 #[.slice A n c] w (RetVl w (.bool (blkB L))) := by
  have hl := h.len
  have HO := fun W (x : Ent) => entry_c W x.s x.q x.k x.v
  unfold en at HO
  have HO := Lib.hid HO
  have HR := Lib.hid fun W (hW : Below w.heap.size w W) => rising_c (h.below hW hB) (Nat.le_trans hB hW.size) hn
  by_cases h0 : n < 1
  · have d1 : decide ((n : Int) < 1) = true := by simp; omega
    have hno : blkB L = false := by unfold blkB; rw [hl]; simp; omega
    have HNO := Lib.hid hno
    clear hno h hl HR
    go_enter Tryz.func97, Tryz.ntmps97
    go_wp2_with fail
    go_ret
    exact RetVl.bool HNO.out.symm (Below.refl _ _)
  have d1 : decide ((n : Int) < 1) = false := by simp; omega
  by_cases h2 : 64 < n
  · have d2 : decide (64 < n) = true := by simpa using h2
    have d3 : decide ((64 : Int) < (n : Int)) = true := by simp; omega
    have hno : blkB L = false := by unfold blkB; rw [hl]; simp; omega
    have HNO := Lib.hid hno
    clear hno h hl HR
    go_enter Tryz.func97, Tryz.ntmps97
    go_wp2_with fail
    go_ret
    exact RetVl.bool HNO.out.symm (Below.refl _ _)
  have d2 : decide (64 < n) = false := by simpa using h2
  have d3 : decide ((64 : Int) < (n : Int)) = false := by simp; omega
  have hg : blkB L = (L.all entB && risB L) := by
    unfold blkB
    rw [hl, show decide (1 ≤ n) = true by simp; omega, show decide (n ≤ 64) = true by simp; omega]
    rfl
  have HG := Lib.hid hg
  clear hg
  go_enter Tryz.func97, Tryz.ntmps97
  go_wp2_with fail
  go_loopw [15] (fun iv wr => ∃ k : Nat, iv = .int .i64 (k : Int) ∧ k ≤ n ∧ (∀ i a, i < k → L[i]? = some a → entB a = true) ∧ Below w.heap.size w wr) (fun iv _ => ((n : Int) - intOf iv).toNat)
  case atStart => exact ⟨0, rfl, by omega, fun i a hi => by omega, Below.refl _ _⟩
  case round =>
    obtain ⟨k, rfl, hkn, hall, hbr⟩ := hrel
    by_cases hlt : k < n
    · obtain ⟨b, off, hA, hbB, hcell⟩ := h.form (by omega)
      subst hA
      obtain ⟨x, hx⟩ : ∃ x, L[k]? = some x := ⟨L[k]'(by omega), List.getElem?_eq_getElem _⟩
      have hk (i : Nat) : wr.cell? ⟨b, i, none⟩ = w.cell? ⟨b, i, none⟩ := hbr.cell (by simp; omega)
      obtain ⟨x0, x1, x2, x3⟩ := hcell k x hx
      rw [← hk] at x0 x1 x2 x3
      have hki : (k : Int) < (n : Int) := by omega
      have hk0 : (0 : Int) ≤ (k : Int) := by omega
      have HX := Lib.hid hx
      have HALL := Lib.hid hall
      have HO2 := Lib.hid (HO.out (wr.alloc (.cells #[.string x.s, .int .u64 (x.q : Int), .int .u8 (x.k : Int), .string x.v] 40)) x)
      have HBR := Lib.hid hbr
      clear hcell hk hx hkn hall h hl hbr HO HR
      go_wp2_with fail
      refine HO2.out.mono ?_
      rintro e w2 ⟨rfl, hb2⟩
      have hbr := HBR.out
      have hb3 : Below w.heap.size w w2 := bon (blit hbr (.cells #[.string x.s, .int .u64 (x.q : Int), .int .u8 (x.k : Int), .string x.v] 40)) hb2
      clear hb2 hbr HO2 x0 x1 x2 x3
      generalize hox : entryB x.s x.q x.k x.v = ox at *
      have HOX := Lib.hid hox
      clear hox
      cases ox with
      | true =>
        go_wp2_with fail
        go_roundw
        case rel =>
          refine ⟨k + 1, by simp, by omega, fun i a hi ha => ?_, hb3⟩
          rcases Nat.lt_or_ge i k with h3 | h3
          · exact HALL.out i a h3 ha
          · obtain rfl : i = k := by omega
            rw [HX.out] at ha
            cases ha
            exact HOX.out
        case measure => simp [intOf]; omega
      | false =>
        have hno : L.all entB = false := allE_no HX.out HOX.out
        have hno : blkB L = false := by rw [HG.out, hno]; rfl
        have HNO := Lib.hid hno
        clear hno
        go_wp2_with fail
        go_ret
        exact RetVl.bool HNO.out.symm hb3
    · have hki : ¬ (k : Int) < (n : Int) := by omega
      have hyes : L.all entB = true := allE_yes hl (fun i a hi ha => hall i a (by omega) ha)
      have hyes : blkB L = risB L := by rw [HG.out, hyes]; rfl
      have HY := Lib.hid hyes
      have HR2 := Lib.hid (HR.out wr hbr)
      clear hyes hall h hl HO HR
      go_wp2_with fail
      refine HR2.out.mono ?_
      rintro e w2 ⟨rfl, hb2⟩
      have hb3 := bon hbr hb2
      clear hb2 HR2
      go_wp2_with fail
      go_ret
      exact RetVl.bool HY.out.symm hb3
set_option maxRecDepth 100000 in
set_option maxHeartbeats 2000000 in
theorem refBlkRight_c {w : World} {B n c : Nat} {A : Option Addr} {L : List Ent} (h : RdE w B A n c L) (hB : B ≤ w.heap.size) (hn : (n : Int) ≤ 70368744000000) :
    Calls Tryz.prog 56 #[.slice A n c] w (RetVl w (.bool (blkB L))) := by
  have hl := h.len
  have HO := fun W (x : Ent) => refEntry_c W x.s x.q x.k x.v
  unfold en at HO
  have HO := Lib.hid HO
  have HR := Lib.hid fun W (hW : Below w.heap.size w W) => refRising_c (h.below hW hB) (Nat.le_trans hB hW.size) hn
  have HG : ∀ k, k = n → L.all entB = true → blkB L = (decide (1 ≤ k) && (decide (k ≤ 64) && risB L)) := fun k hk ha => by subst hk; unfold blkB; rw [hl, ha]; rfl
  have HG := Lib.hid HG
  have HGN : L.all entB = false → blkB L = false := fun ha => by unfold blkB; rw [ha]; simp
  have HGN := Lib.hid HGN
  go_enter Tryz.func56, Tryz.ntmps56
  go_wp2_with fail
  go_loopw [3] (fun iv wr => ∃ k : Nat, iv = .int .i64 (k : Int) ∧ k ≤ n ∧ (∀ i a, i < k → L[i]? = some a → entB a = true) ∧ Below w.heap.size w wr) (fun iv _ => ((n : Int) - intOf iv).toNat)
  case atStart => exact ⟨0, rfl, by omega, fun i a hi => by omega, Below.refl _ _⟩
  case round =>
    obtain ⟨k, rfl, hkn, hall, hbr⟩ := hrel
    by_cases hlt : k < n
    · obtain ⟨b, off, hA, hbB, hcell⟩ := h.form (by omega)
      subst hA
      obtain ⟨x, hx⟩ : ∃ x, L[k]? = some x := ⟨L[k]'(by omega), List.getElem?_eq_getElem _⟩
      have hk (i : Nat) : wr.cell? ⟨b, i, none⟩ = w.cell? ⟨b, i, none⟩ := hbr.cell (by simp; omega)
      obtain ⟨x0, x1, x2, x3⟩ := hcell k x hx
      rw [← hk] at x0 x1 x2 x3
      have hki : (k : Int) < (n : Int) := by omega
      have hk0 : (0 : Int) ≤ (k : Int) := by omega
      have HX := Lib.hid hx
      have HALL := Lib.hid hall
      have HO2 := Lib.hid (HO.out wr x)
      have HBR := Lib.hid hbr
      clear hcell hk hx hkn hall h hl hbr HO HR
      go_wp2_with fail
      refine HO2.out.mono ?_
      rintro e w2 ⟨rfl, hb2⟩
      have hb3 : Below w.heap.size w w2 := bon HBR.out hb2
      clear hb2 HO2 x0 x1 x2 x3
      generalize hox : entryB x.s x.q x.k x.v = ox at *
      have HOX := Lib.hid hox
      clear hox
      cases ox with
      | true =>
        go_wp2_with fail
        go_roundw
        case rel =>
          refine ⟨k + 1, by simp, by omega, fun i a hi ha => ?_, hb3⟩
          rcases Nat.lt_or_ge i k with h3 | h3
          · exact HALL.out i a h3 ha
          · obtain rfl : i = k := by omega
            rw [HX.out] at ha
            cases ha
            exact HOX.out
        case measure => simp [intOf]; omega
      | false =>
        have hno : L.all entB = false := allE_no HX.out HOX.out
        have hno : blkB L = false := HGN.out hno
        have HNO := Lib.hid hno
        clear hno
        go_wp2_with fail
        go_ret
        exact RetVl.bool HNO.out.symm hb3
    · have hki : ¬ (k : Int) < (n : Int) := by omega
      have hyes : L.all entB = true := allE_yes hl (fun i a hi ha => hall i a (by omega) ha)
      have hyes := HG.out n rfl hyes
      have HY := Lib.hid hyes
      have HR2 := Lib.hid (HR.out wr hbr)
      clear hyes hall h hl HO HR hkn
      by_cases h1 : 1 ≤ n
      case neg =>
        have d1 : decide ((1 : Int) ≤ (n : Int)) = false := by simp; omega
        have d1' : decide (1 ≤ n) = false := by simpa using h1
        have HD := Lib.hid d1'
        have hno : blkB L = false := by rw [HY.out, d1']; rfl
        have HNO := Lib.hid hno
        clear hno
        go_wp2_with fail
        go_ret
        first | exact RetVl.bool HNO.out.symm hbr | exact RetVl.bool rfl hbr
      have d1 : decide ((1 : Int) ≤ (n : Int)) = true := by simp; omega
      have d1' : decide (1 ≤ n) = true := by simpa using h1
      have HD := Lib.hid d1'
      by_cases h2 : n ≤ 64
      case neg =>
        have d2 : decide ((n : Int) ≤ 64) = false := by simp; omega
        have d2' : decide (n ≤ 64) = false := by simpa using h2
        have hno : blkB L = false := by rw [HY.out, d1', d2']; rfl
        have HNO := Lib.hid hno
        clear hno
        go_wp2_with fail
        go_ret
        first | exact RetVl.bool HNO.out.symm hbr | exact RetVl.bool rfl hbr
      have d2 : decide ((n : Int) ≤ 64) = true := by simp; omega
      have d2' : decide (n ≤ 64) = true := by simpa using h2
      have hno : blkB L = risB L := by rw [HY.out, d1', d2']; rfl
      have HNO := Lib.hid hno
      clear hno
      go_wp2_with fail
      refine HR2.out.mono ?_
      rintro e w2 ⟨rfl, hb2⟩
      have hb3 := bon hbr hb2
      clear hb2 HR2
      go_wp2_with fail
      go_ret
      exact RetVl.bool HNO.out.symm hb3
end Go.Proofs.YtkdjjdkcogolmaaGreatDoor
end

section
/-
  How many bytes two user keys have in common: the contracts of common, and of the reference's shared.
-/
namespace Go.Proofs.YtkdjjdkcogolmaaGreatDoor
set_option maxRecDepth 100000
open Go.RowKit Go.Shelf
set_option linter.unusedVariables false

theorem run_ix {s : ByteArray} {k : Nat} {c : UInt8} (hc : s.data.toList[k]? = some c) (W : World) : (Instr.index 9 (.string s) (.int .i64 (k : Int))).run Tryz.prog W = .ok (.int .u8 (c.toNat : Int)) W := by
  have hlt : k < s.data.toList.length := by
    rcases Nat.lt_or_ge k s.data.toList.length with h | h
    · exact h
    · rw [List.getElem?_eq_none h] at hc; cases hc
  have hs : k < s.size := by rw [← size_list]; exact hlt
  rw [run_index_string W 9 s .i64 (k : Int) Tryz.underlying9, dif_pos ⟨by omega, by omega⟩]
  have h1 : s[(k : Int).toNat]'(by simp; omega) = c := by
    rw [List.getElem?_eq_getElem hlt] at hc
    rw [← Option.some.inj hc]; rfl
  rw [h1]
theorem com_stop {s t : ByteArray} {k : Nat} (h : ∀ i, i < k → i < s.size ∧ i < t.size ∧ s.data.toList[i]? = t.data.toList[i]?) (h2 : k < s.size → k < t.size → s.data.toList[k]? ≠ t.data.toList[k]?) : com s t = k :=
  comL_at _ _ _ (fun i hi => by rw [size_list, size_list]; exact h i hi) (fun h3 h4 => h2 (by rwa [size_list] at h3) (by rwa [size_list] at h4))

set_option maxRecDepth 100000 in
set_option maxHeartbeats 2000000 in
theorem common_c (w : World) (s t : ByteArray) (hs : s.size ≤ 100000) (ht : t.size ≤ 100000) :
    Calls Tryz.prog 134 #[.string s, .string t] w (RetQ w (.int .i64 (com s t : Int))) := by
  have hsi : (s.size : Int) ≤ 100000 := by omega
  have hti : (t.size : Int) ≤ 100000 := by omega
  go_enter Tryz.func134, Tryz.ntmps134
  go_wp2_with fail
  go_loopw [5] (fun iv wr => ∃ k q : Nat, iv = .int .i64 (k : Int) ∧ k ≤ s.size ∧ k ≤ t.size ∧ (∀ i, i < k → i < s.size ∧ i < t.size ∧ s.data.toList[i]? = t.data.toList[i]?) ∧ wr = w.drewN q) (fun iv _ => ((s.size : Int) - intOf iv).toNat)
  case atStart => exact ⟨0, 0, rfl, by omega, by omega, fun i hi => by omega, rfl⟩
  case round =>
    obtain ⟨k, q, rfl, hks, hkt, hall, rfl⟩ := hrel
    have hk0 : (0 : Int) ≤ (k : Int) := by omega
    obtain ⟨M, hM⟩ : ∃ M : Nat, min s.size t.size = M := ⟨_, rfl⟩
    have hmin : ∀ (W : World) (ts : Array TypeId) (ty : TypeId), (Builtin.min_ ts ty #[.int .i64 (s.size : Int), .int .i64 (t.size : Int)]).run Tryz.prog W = .ok (.int .i64 (M : Int)) W := fun W ts ty => by
      rw [Lib.run_min_ints]; congr 2; omega
    by_cases hlt : k < M
    · have hks' : k < s.size := by omega
      have hkt' : k < t.size := by omega
      obtain ⟨x, hx⟩ : ∃ x, s.data.toList[k]? = some x := ⟨_, List.getElem?_eq_getElem (by rw [size_list]; exact hks')⟩
      obtain ⟨y, hy⟩ : ∃ y, t.data.toList[k]? = some y := ⟨_, List.getElem?_eq_getElem (by rw [size_list]; exact hkt')⟩
      have ix := run_ix hx
      have iy := run_ix hy
      have d1 : decide ((k : Int) < (M : Int)) = true := by simp; omega
      have d1' : decide (k < M) = true := by simp; omega
      by_cases hxy : x = y
      · have e1 : ((x.toNat : Int) == (y.toNat : Int)) = true := by subst hxy; simp
        have e1' : (x.toNat == y.toNat) = true := by subst hxy; simp
        have HALL := Lib.hid hall
        have HX := Lib.hid hx
        have HY := Lib.hid hy
        have HXY := Lib.hid hxy
        have HM := Lib.hid hM
        clear hall hx hy hxy hM
        go_wp2_with fail
        go_quiet (fail)
        go_wp2_with fail
        go_roundw
        case rel =>
          refine ⟨k + 1, q + nq, by simp, by omega, by omega, fun i hi => ?_, ?_⟩
          · rcases Nat.lt_or_ge i k with h1 | h1
            · exact HALL.out i h1
            · obtain rfl : i = k := by omega
              exact ⟨hks', hkt', by rw [HX.out, HY.out, HXY.out]⟩
          · first | rfl | exact drewN_add _ _ _
        case measure => simp [intOf]; omega
      · have e1 : ((x.toNat : Int) == (y.toNat : Int)) = false := by
          simp; intro h; exact hxy (UInt8.toNat_inj.1 (by omega))
        have e1' : (x.toNat == y.toNat) = false := by
          simp; intro h; exact hxy (UInt8.toNat_inj.1 (by omega))
        have hc : com s t = k := com_stop hall (fun _ _ => by rw [hx, hy]; simpa using hxy)
        have HC := Lib.hid hc
        clear hall hx hy hxy hM hc
        go_wp2_with fail
        go_quiet (fail)
        go_wp2_with fail
        go_ret
        exact ⟨by rw [HC.out]; rfl, _, drewN_add _ _ _⟩
    · have d1 : decide ((k : Int) < (M : Int)) = false := by simp; omega
      have d1' : decide (k < M) = false := by simp; omega
      have hc : com s t = k := com_stop hall (fun h1 h2 => by omega)
      have HC := Lib.hid hc
      clear hall hM hc
      go_wp2_with fail
      go_quiet (fail)
      go_wp2_with fail
      go_ret
      exact ⟨by rw [HC.out]; rfl, _, drewN_add _ _ _⟩
end Go.Proofs.YtkdjjdkcogolmaaGreatDoor
end
