/-
  A block that is cut short, or has a byte more, or less in its midst, is none, or another one; and in no more bytes than its keys and values have, and some for each entry. No condition.
-/
import Derived.Test.YtfbmphaabdhphaaRows
import Derived.Test.YtfbmphaabdhphaaBK
import Derived.WalkKit
import Derived.ProofKit
import Derived.OpenShut
import Derived.ShutString
import Derived.ChangeOld
import Derived.Below
import Derived.Deep.AppendSrc
import Derived.Deep.RegionLaw
import Derived.Deep.Cut
import Derived.Deep.CutRange
namespace Go.Proofs.Ytfbmphaabdhphaa.blockCut
set_option maxRecDepth 100000
open Go.ChangeShapes Go.WideShapes Go.ChangeAt Go.RowKit
open Go.ChangeMaps (open_string shut_string)
set_option linter.unusedVariables false

theorem own : ownKnob Try.prog.godebug = none := by kernel_rfl
theorem laidOut : laidOutB Try.prog = true := by kernel_rfl

open Go.Shelf
set_option linter.unusedSimpArgs false
theorem prs_of {O : List Ent} (h : blkB O = true) : prsL (blkL O) = O ∧ prsE (blkL O) = 0 := by
  have hp := parse_form h
  unfold prsL prsE; rw [hp]; exact ⟨rfl, rfl⟩
theorem few_n {L : List Ent} {n : Nat} (hl : L.length = n) (h : fewB L 70 = true) : n ≤ 70 := by
  unfold fewB at h
  simp only [Bool.and_eq_true, decide_eq_true_eq] at h
  omega
theorem shortF_le : ∀ (m f x : Nat), x < 128 ^ (m + 1) → (shortF f x).length ≤ m + 1
  | m, 0, x, _ => by simp [shortF]
  | 0, f + 1, x, h => by
    simp only [shortF]
    rw [if_pos (by simpa using h)]
    simp
  | m + 1, f + 1, x, h => by
    simp only [shortF]
    split
    · simp
    · have := shortF_le m f (x / 128) (by rw [Nat.div_lt_iff_lt_mul (by omega)]; rw [Nat.pow_succ] at h; exact h)
      simp; omega
def sumE : List Ent → Nat
  | [] => 0
  | x :: L => x.s.size + x.v.size + 14 + sumE L
theorem sumE_snoc : ∀ (L : List Ent) (x : Ent), sumE (L ++ [x]) = sumE L + (x.s.size + x.v.size + 14)
  | [], x => by simp [sumE]
  | y :: L, x => by
    have := sumE_snoc L x
    simp only [List.cons_append, sumE, this]; omega
theorem entL_sum {n : Nat} {x : Ent} (h : entB x = true) (hn : n ≤ x.s.size) : (entL n x).length ≤ x.s.size + x.v.size + 14 := by
  obtain ⟨_, h1, h2, h3, h4, _⟩ := entB_parts h
  unfold entL
  have a1 : (shortL n).length ≤ 1 := shortF_le 0 9 n (by omega)
  have a2 : (shortL (dropS x.s n).size).length ≤ 1 := shortF_le 0 9 _ (by rw [dropS_size]; omega)
  have a3 : (shortL (2 * x.q + x.k)).length ≤ 9 := shortF_le 8 9 _ (by have : (128 : Nat) ^ (8 + 1) = 9223372036854775808 := by decide
                                                                       omega)
  have a4 : (shortL x.v.size).length ≤ 2 := shortF_le 1 9 _ (by have : (128 : Nat) ^ (1 + 1) = 16384 := by decide
                                                                omega)
  have a5 := dropS_size x.s n
  simp only [List.length_append, textL_len]
  split
  · rw [textL_len]; omega
  · simp; omega
theorem entsL_sum : ∀ (L : List Ent) (i : Nat) (p : ByteArray), (∀ x ∈ L, entB x = true) → (entsL i p L).length ≤ sumE L
  | [], i, p, _ => by simp [entsL, sumE]
  | y :: L, i, p, h => by
    have a := entsL_sum L (i + 1) y.s (fun x hx => h x (List.mem_cons_of_mem _ hx))
    have b := entL_sum (n := shB i p y.s) (h y List.mem_cons_self) (shB_ok i p y.s).2.1
    simp only [entsL, List.length_append, sumE]; omega
theorem blk_sum {L : List Ent} (h : blkB L = true) : (blkL L).length ≤ 4 * (L.length + 2) + sumE L := by
  obtain ⟨h0, h1, h2, _⟩ := blkB_iff.1 h
  have := entsL_sum L 0 noS h2
  rw [blkL_eq]
  simp only [List.length_append, posL_len0, fourL_len]; omega
theorem blk_pos {L : List Ent} : 2 ≤ (blkL L).length := by rw [blkL_eq]; simp only [List.length_append, fourL_len]; omega
theorem sumE_le : ∀ (L : List Ent), (∀ x ∈ L, entB x = true) → sumE L ≤ 400 * L.length
  | [], _ => by simp [sumE]
  | y :: L, h => by
    have a := sumE_le L (fun x hx => h x (List.mem_cons_of_mem _ hx))
    obtain ⟨_, h1, _, _, h4, _⟩ := entB_parts (h y List.mem_cons_self)
    simp only [sumE, List.length_cons]; omega
/-- Bytes that are not as many as a block's say another one, or none. -/
theorem cut_no {O : List Ent} {l : List UInt8} (hl : l.length ≠ (blkL O).length) (h : prsE l = 0) : sameEs (prsL l) O = false := by
  cases hs : sameEs (prsL l) O with
  | false => rfl
  | true =>
    exfalso
    have e := sameEs_iff.1 hs
    cases hp : parseB l with
    | none => unfold prsE at h; rw [hp] at h; exact absurd h (by decide)
    | some M =>
      unfold prsL at e
      rw [hp] at e
      simp only [] at e
      subst e
      exact hl (by rw [(parse_iff.1 hp).2])
theorem run_app0 (w : World) (ty : TypeId) (A : Option Addr) {B m c2 : Nat} {A2 : Option Addr} {l : List UInt8} (hr : Rd w B A2 m c2 (bv l)) (hm : 0 < m) (hby : m ≤ 1000000) :
    ∃ A' c' w', (Builtin.append_ #[23, 23] ty #[.slice A 0 0, .slice A2 m c2]).run Try.prog w = .ok (.slice A' m c') w' ∧ Fr w' w.heap.size 5 A' m c' (bv l) ∧ Below w.heap.size w w' := by
  obtain ⟨i, hi, hz0, hz1, hz2⟩ := info_parts info_u8
  have hold : (Builtin.firstCells i.size 0 (.slice A 0 0)).run Try.prog w.drew = .ok ([] : List Value).toArray w.drew := by
    cases A with
    | none => exact run_firstCells_none w.drew i.size 0 0 0
    | some a => exact run_firstCells_some w.drew i.size 0 a 0 0 [] (by simp) (fun j v hj => by simp at hj)
  obtain ⟨b, off, hA2, _, _⟩ := hr.form hm
  subst hA2
  have hsrc : Src Try.prog i.size 23 (.slice (some ⟨b, off, none⟩) m c2) m (bv l) w := Src.ofSlice w Try.underlying23 _ m c2 (bv l) (by rw [hr.len, hz1, Nat.mul_one]) (hr.at_ _ rfl) (bv_one _)
  have hfit : Builtin.nextslicecap (0 + m) 0 * i.bytes ≤ 281474976710656 := growslice_fits (by omega) (by rw [hz2]; omega)
  have hrun := run_append_grow_src (P := Try.prog) (w := w) 23 23 ty 5 i _ Try.underlying23 hi hz0 A 0 0 [] hold _ m (bv l) hsrc (by omega) (by omega) hfit
  have hge := grownCap_ge w (0 + m) 0 5
  have hle := grownCap_le_maxLen w (0 + m) 0 5 (by unfold maxLen; omega)
  rw [Nat.zero_add] at hrun hge hle
  have hl : (bv l).length = m := hr.len
  refine ⟨_, _, _, hrun, ⟨⟨by rw [hl]; omega, .inr ⟨w.heap.size, _, _, rfl, Nat.le_refl _, heap_alloc_new w.drew _, hge, hle, ?_, ?_⟩⟩⟩, ((below_drewN (Below.refl _ _) 1 : Below w.heap.size w w.drew)).alloc (Nat.le_refl _) _⟩
  · rw [List.nil_append, Array.size_append, List.size_toArray, hl]
    simp [Builtin.zeroCells, Value.cells]
    omega
  · rw [List.nil_append, Array.toList_append, Nat.mul_one, List.take_append_of_le_length (l₁ := (bv l).toArray.toList) (Nat.le_of_eq hl.symm), List.take_of_length_le (l := (bv l).toArray.toList) (Nat.le_of_eq hl)]
theorem step_app0 {ops : Array Oper} {o : Oper} {a : Act} {K : Act → World → Prop} {Q : Exit → Act → World → Prop} {E : Prop} {w : World} (hgd : o.guard = none) (s x : Operand)
    (ho : o.op = .call { callee := .builtin .append, args := #[s, x], argTypes := #[23, 23] })
    {A : Option Addr} (hs : a.eval s = .slice A 0 0)
    {B m c2 : Nat} {A2 : Option Addr} {l : List UInt8} (hr : Rd w B A2 m c2 (bv l)) (hx : a.eval x = .slice A2 m c2) (hm : 0 < m) (hby : m ≤ 1000000)
    (hk : ∀ A' c' w', Fr w' w.heap.size 5 A' m c' (bv l) → Below w.heap.size w w' → K (a.put o.dst (.slice A' m c')) w') :
    if Region.wanted o (yielded ops a.tmps) = true then Oper.wp Try.prog o a w K Q else E := by
  have hw : Region.wanted o (yielded ops a.tmps) = true := by simp [Region.wanted, hgd]
  rw [if_pos hw]
  obtain ⟨A', c', w', hrun, h2, h3⟩ := run_app0 w o.type A hr hm hby
  unfold Oper.wp execOp
  simp only [ho, resolve, invoke, builtin, Sem.run_bind, Sem.run_pure, Result.andThen_ok, List.map_toArray, List.map_cons, List.map_nil, hs, hx, hrun]
  exact hk A' c' w' h2 h3
/-- Nothing is appended to a slice without room. -/
theorem step_app00 {ops : Array Oper} {o : Oper} {a : Act} {K : Act → World → Prop} {Q : Exit → Act → World → Prop} {E : Prop} {w : World} (hgd : o.guard = none) (s x : Operand)
    (ho : o.op = .call { callee := .builtin .append, args := #[s, x], argTypes := #[23, 23] })
    {A : Option Addr} (hs : a.eval s = .slice A 0 0) {m c2 : Nat} {A2 : Option Addr} (hx : a.eval x = .slice A2 m c2) (hm0 : m = 0)
    (hk : K (a.put o.dst (.slice A 0 0)) w) :
    if Region.wanted o (yielded ops a.tmps) = true then Oper.wp Try.prog o a w K Q else E := by
  have hw : Region.wanted o (yielded ops a.tmps) = true := by simp [Region.wanted, hgd]
  rw [if_pos hw]
  subst hm0
  obtain ⟨i, hi, hz0, hz1, hz2⟩ := info_parts info_u8
  have hfc : (Builtin.firstCells 1 0 (.slice A2 0 c2)).run Try.prog w = .ok ([] : List Value).toArray w := by
    cases A2 with
    | none => exact run_firstCells_none w 1 0 0 c2
    | some a2 => exact run_firstCells_some w 1 0 a2 0 c2 [] (by simp) (fun j v hj => by simp at hj)
  have hrun : (Builtin.append_ #[23, 23] o.type #[.slice A 0 0, .slice A2 0 c2]).run Try.prog w = .ok (.slice A 0 0) w := by
    have hfc' := hfc
    cases A <;> simp [Builtin.append_, run_underlying Try.underlying23, sizeOf, typeInfo, hi, hz1, Builtin.lenOf, hfc', storeCells]
  unfold Oper.wp execOp
  simp only [ho, resolve, invoke, builtin, Sem.run_bind, Sem.run_pure, Result.andThen_ok, List.map_toArray, List.map_cons, List.map_nil, hs, hx, hrun]
  exact hk
theorem Below.size_trans {u v x : World} (h : Below u.heap.size u v) (h2 : Below v.heap.size v x) : Below u.heap.size u x := h.trans (h2.mono h.size)
theorem Below.size_of {u v x : World} (h : Below u.heap.size u v) (h2 : Below v.heap.size v x) : u.heap.size ≤ v.heap.size := h.size
theorem Below.size_trans2 {B b : Nat} {u v x : World} (h : Below B u v) (h2 : Below b v x) (hB : B ≤ b) : Below B u x := h.trans (h2.mono hB)
theorem bv_fr {w : World} {b n c : Nat} {e : TypeId} {A : Option Addr} {x y : List UInt8} (h : Fr w b e A n c (bv x ++ bv y)) : Fr w b e A n c (bv (x ++ y)) := by rw [bv_append]; exact h
theorem lt11 (x : Nat) : x < x + 1 + 1 := by omega
theorem lt111 (x : Nat) : x < x + 1 + 1 + 1 := by omega
theorem Rd.of_cell {w : World} {X : Nat} {c : UInt8} (h : w.cell? ⟨X, 0, none⟩ = some (b8 c)) : Rd w (X + 1) (some ⟨X, 0, none⟩) 1 1 (bv [c]) :=
  ⟨rfl, Nat.le_refl _, by decide, fun e => (by cases e), fun _ ad e => (by cases e; exact Nat.lt_succ_self X), fun ad e j u hu => by
    cases e
    match j, hu with
    | 0, hu =>
      simp [bv] at hu
      subst hu
      rw [add_zero']; exact h⟩
theorem step_one {ops : Array Oper} {o : Oper} {a : Act} {K : Act → World → Prop} {Q : Exit → Act → World → Prop} {E : Prop} {w : World} (hgd : o.guard = none) (s x : Operand)
    (ho : o.op = .call { callee := .builtin .append, args := #[s, x], argTypes := #[23, 23] })
    {b : Nat} {A : Option Addr} {n c : Nat} {l : List UInt8} (h : Fr w b 5 A n c (bv l)) (hs : a.eval s = .slice A n c)
    {X : Nat} (hx : a.eval x = .slice (some ⟨X, 0, none⟩) 1 1) {cc : UInt8} (hcell : w.cell? ⟨X, 0, none⟩ = some (b8 cc)) (h63 : n ≤ 1000000) (hb : b ≤ w.heap.size)
    (hk : ∀ A' c' w', App w w' b 5 (.slice A n c) A' (n + 1) c' (bv (l ++ [cc])) → K (a.put o.dst (.slice A' (n + 1) c')) w') :
    if Region.wanted o (yielded ops a.tmps) = true then Oper.wp Try.prog o a w K Q else E :=
  step_app hgd s x ho h hs (Rd.of_cell hcell) hx (bv_one _) (by omega) hb (fun A' c' w' hap => hk A' c' w' (by rw [bv_append]; exact hap))
/-- Three rows of bytes, none as long as the block's own. -/
structure CutAt (w : World) (g N : Nat) (r1 r2 r3 : Row) (l1 l2 l3 : List UInt8) : Prop where
  lt : g < w.heap.size
  h : w.heap[g]? = some (.cells #[r1.v, r2.v, r3.v] 23 (0, 0))
  d1 : Rd w w.heap.size r1.A r1.n r1.c (bv l1)
  d2 : Rd w w.heap.size r2.A r2.n r2.c (bv l2)
  d3 : Rd w w.heap.size r3.A r3.n r3.c (bv l3)
  n1 : l1.length ≠ N ∧ l1.length ≤ 24001
  n2 : l2.length ≠ N ∧ l2.length ≤ 24001
  n3 : l3.length ≠ N ∧ l3.length ≤ 24001
section
variable {w w' : World} {g N : Nat} {r1 r2 r3 : Row} {l1 l2 l3 : List UInt8}
theorem CutAt.now (h : CutAt w g N r1 r2 r3 l1 l2 l3) (hb : Below w.heap.size w w') : CutAt w' g N r1 r2 r3 l1 l2 l3 :=
  ⟨by have := h.lt; have := hb.size; omega, by rw [hb.block g h.lt]; exact h.h, h.d1.now hb, h.d2.now hb, h.d3.now hb, h.n1, h.n2, h.n3⟩
theorem CutAt.at_ (h : CutAt w g N r1 r2 r3 l1 l2 l3) {k : Nat} (hk : k < 3) : ∃ (A : Option Addr) (n c : Nat) (l : List UInt8), w.cell? ⟨g, k, none⟩ = some (.slice A n c) ∧ Rd w w.heap.size A n c (bv l) ∧ l.length ≠ N ∧ l.length ≤ 24001 := by
  have h2 : k = 0 ∨ k = 1 ∨ k = 2 := by omega
  rcases h2 with rfl | rfl | rfl
  · exact ⟨_, _, _, l1, by simp only [World.cell?, h.h]; rfl, h.d1, h.n1⟩
  · exact ⟨_, _, _, l2, by simp only [World.cell?, h.h]; rfl, h.d2, h.n2⟩
  · exact ⟨_, _, _, l3, by simp only [World.cell?, h.h]; rfl, h.d3, h.n3⟩
end

set_option maxRecDepth 100000 in
set_option maxHeartbeats 8000000 in
theorem walk (A0 : Option Addr) (n0 c0 : Nat) (L0 : List Ent) (a1 : Nat) (a2 : Nat) (w : World) (r0 : RdE w w.heap.size A0 n0 c0 L0) (o0 : ∀ x ∈ L0, EntOk x) (w1 : (a1 : Int) ≤ 65535) (w2 : (a2 : Int) ≤ 255) :
    Calls Try.prog 6 #[.slice A0 n0 c0, .int .u16 (a1 : Int), .int .u8 (a2 : Int)] w fun e w' => e = .returned (.bool true) ∧ Below w.heap.size w w' := by
  have g0 : Below w.heap.size w w := Below.refl _ _
  have hl0 := r0.len
  have HL0 := Lib.hid hl0
  have HH0 := Lib.hid r0
  obtain ⟨cc, hcc0⟩ : ∃ cc : UInt8, cc = UInt8.ofNat a2 := ⟨_, rfl⟩
  have hcc : Value.int .u8 (a2 : Int) = b8 cc := by
    rw [hcc0]
    have : (UInt8.ofNat a2).toNat = a2 := by rw [UInt8.toNat_ofNat']; omega
    unfold b8; rw [this]
  have HCC := Lib.hid hcc
  clear o0 hl0 hcc0 r0 hcc
  go_enter Try.func6, Try.ntmps6
  go_wp2_with fail
  refine (few_c HH0.out (Nat.le_refl _) 70).mono ?_
  rintro e w2 ⟨rfl, hb2⟩
  have rr := HH0.out.now hb2
  replace g0 := bon g0 hb2
  clear hb2
  cases hfew : fewB L0 70 with
  | false =>
    have G0 := Lib.hid g0
    clear g0 rr hfew
    go_wp2_with fail
    refine (awake7_c _).mono ?_
    rintro e w99 ⟨rfl, hb99⟩
    go_wp2_with fail
    go_ret
    exact ⟨rfl, bon G0.out hb99⟩
  | true =>
  have hn := few_n HL0.out hfew
  clear hfew
  have HS := Lib.hid (sorted_c rr hn)
  have G0 := Lib.hid g0
  clear g0 rr
  go_wp2_with fail
  refine HS.out.mono ?_
  rintro e w3 ⟨A3, n3, c3, rfl, hf3, hb3⟩
  obtain ⟨O, hO⟩ : ∃ O, sortE 64 L0 = O := ⟨_, rfl⟩
  have hsb := sortE_blk L0
  rw [hO] at hf3 hsb
  have hl3 := hf3.len
  have r3 := hf3.rd (Nat.le_refl _)
  have G3 := Lib.hid (bon G0.out hb3)
  clear hf3 hb3 HS G0 hO
  by_cases hz : n3 = 0
  · have d1 : ((n3 : Int) == 0) = true := by simp; omega
    have d1' : (n3 == 0) = true := by simpa using hz
    clear hz hsb hl3 r3
    go_wp2_with fail
    refine (awake7_c _).mono ?_
    rintro e w99 ⟨rfl, hb99⟩
    go_wp2_with fail
    go_ret
    exact ⟨rfl, bon G3.out hb99⟩
  have d1 : ((n3 : Int) == 0) = false := by simp; omega
  have d1' : (n3 == 0) = false := by simpa using hz
  have hblk : blkB O = true := hsb (fun h => hz (by rw [← hl3, h]; rfl))
  have hn64 : n3 ≤ 64 := by have := (blkB_iff.1 hblk).2.1; omega
  have hni : (n3 : Int) ≤ 64 := by omega
  have HB := Lib.hid (build_t r3 (Nat.le_refl _) (by omega) (if_pos hblk : bldL O = blkL O) (if_pos hblk : bldE O = 0))
  have HBLK := Lib.hid hblk
  have HL3 := Lib.hid hl3
  have HLB := Lib.hid (blkL_len hblk)
  have HSUM := Lib.hid (blk_sum hblk)
  have HSL := Lib.hid (fun (k : Nat) => sumE_le (O.take k) (fun x hx => (blkB_iff.1 hblk).2.2.1 x (List.mem_of_mem_take hx)))
  obtain ⟨bb, hbb⟩ : ∃ bb, blkL O = bb := ⟨_, rfl⟩
  have hbp := blk_pos (L := O)
  rw [hbb] at HB HLB HSUM hbp
  have HBB := Lib.hid hbb
  clear hz hsb hblk hl3 hbb
  go_wp2_with fail
  refine HB.out.mono ?_
  rintro e w4 ⟨A4, n4, c4, rfl, hf4, hb4⟩
  have hn4l : bb.length = n4 := by have := hf4.len; rw [bv_length] at this; exact this
  have hn4 : n4 ≤ 24000 := by have := HLB.out; omega
  have hn42 : 2 ≤ n4 := by omega
  have hn40 : 0 < n4 := by omega
  have r4 := hf4.rd (Nat.le_refl _)
  replace r3 := r3.now hb4
  have g4 := bon G3.out hb4
  have e1 : ((n4 : Int) == 0) = false := by simp; omega
  have e1' : (n4 == 0) = false := by simp; omega
  obtain ⟨k, hk⟩ : ∃ k, a1 % n4 = k := ⟨_, rfl⟩
  have hkn : k < n4 := by rw [← hk]; exact Nat.mod_lt _ hn40
  have t1 : Int.tmod (a1 : Int) (n4 : Int) = (k : Int) := by rw [Int.tmod_eq_emod_of_nonneg (by omega), ← hk]; rfl
  have t1' : (a1 : Int) % (n4 : Int) = (k : Int) := by rw [← hk]; rfl
  have t2 : IntKind.i64.wrap (a1 : Int) = (a1 : Int) := wrapi _ (by omega) (by omega)
  have t3 : IntKind.i64.wrap (k : Int) = (k : Int) := wrapi _ (by omega) (by omega)
  have t4 : IntKind.i64.wrap ((n3 : Int) + 2) = (n3 : Int) + 2 := wrapi _ (by omega) (by omega)
  have t5 : IntKind.i64.wrap (4 * ((n3 : Int) + 2)) = 4 * ((n3 : Int) + 2) := wrapi _ (by omega) (by omega)
  have hn4i : (n4 : Int) ≤ 24000 := by omega
  have hn4z : (n4 : Int) ≠ 0 := by omega
  have HN4 := Lib.hid hn4l
  clear hf4 hb4 HB G3 d1 d1' hk hbp hn4l
  have R3 := Lib.hid r3
  have R4 := Lib.hid r4
  have G4 := Lib.hid g4
  clear r3 r4 g4
  go_wp2_with fail
  go_loopw [10, 50] (fun sv iv wr => ∃ j : Nat, sv = .int .i64 (4 * ((n3 : Int) + 2) + (sumE (O.take j) : Nat)) ∧ iv = .int .i64 (j : Int) ∧ j ≤ n3 ∧ RdE wr wr.heap.size A3 n3 c3 O ∧ Rd wr wr.heap.size A4 n4 c4 (bv bb) ∧ Below w.heap.size w wr) (fun _ iv _ => ((n3 : Int) - intOf iv).toNat)
  case atStart => exact ⟨0, by simp [sumE], rfl, Nat.zero_le _, R3.out, R4.out, G4.out⟩
  case round =>
    clear R3 R4 G4
    obtain ⟨j, rfl, rfl, hjn, r3, r4, g4⟩ := hrel
    have hsl := HSL.out j
    have hslj : (O.take j).length ≤ 64 := by rw [List.length_take]; omega
    have hsi : ((sumE (O.take j) : Nat) : Int) ≤ 30000 := by omega
    have hsi0 : (0 : Int) ≤ ((sumE (O.take j) : Nat) : Int) := by omega
    by_cases hlt : j < n3
    · obtain ⟨x, hx⟩ : ∃ x, O[j]? = some x := ⟨O[j]'(by have := HL3.out; omega), List.getElem?_eq_getElem _⟩
      have r3' := r3
      obtain ⟨b, off, hA, hbB, hcell⟩ := r3'.form (by omega)
      subst hA
      obtain ⟨x0, x1, x2, x3⟩ := hcell j x hx
      obtain ⟨_, p2, _, _, p5, _⟩ := entB_parts ((blkB_iff.1 HBLK.out).2.2.1 x (List.mem_of_getElem? hx))
      have hki : (j : Int) < (n3 : Int) := by omega
      have hk0 : (0 : Int) ≤ (j : Int) := by omega
      have HSN := Lib.hid (show sumE (O.take (j + 1)) = sumE (O.take j) + (x.s.size + x.v.size + 14) by rw [take_snocE hx, sumE_snoc])
      generalize sumE (O.take j) = T at *
      have hsz1 : (x.s.size : Int) ≤ 64 := by omega
      have hsz2 : (x.v.size : Int) ≤ 256 := by omega
      have y0 := EnAt.new wr x
      have ba := below_alloc wr (.cells #[.string x.s, .int .u64 (x.q : Int), .int .u8 (x.k : Int), .string x.v] 38)
      have R3 := Lib.hid (r3.now ba)
      have R4 := Lib.hid (r4.now ba)
      have G4 := Lib.hid (bon g4 ba)
      clear r3 r3' r4 g4 hcell hbB hx ba p2 p5 hsl hslj
      go_upto_region 14 with (fail)
      generalize hwb : wr.alloc (.cells #[.string x.s, .int .u64 (x.q : Int), .int .u8 (x.k : Int), .string x.v] 38) = wb at *
      generalize hbe : wr.heap.size = be at *
      clear hwb hbe x0 x1 x2 x3
      obtain ⟨x0, x1, x2, x3⟩ := y0.cells
      have u1 : IntKind.i64.wrap ((x.s.size : Int) + (x.v.size : Int)) = (x.s.size : Int) + (x.v.size : Int) := wrapi _ (by omega) (by omega)
      have u2 : IntKind.i64.wrap ((x.s.size : Int) + (x.v.size : Int) + 1) = (x.s.size : Int) + (x.v.size : Int) + 1 := wrapi _ (by omega) (by omega)
      have u3 : IntKind.i64.wrap ((x.s.size : Int) + (x.v.size : Int) + 1 + 2) = (x.s.size : Int) + (x.v.size : Int) + 1 + 2 := wrapi _ (by omega) (by omega)
      have u4 : IntKind.i64.wrap ((x.s.size : Int) + (x.v.size : Int) + 1 + 2 + 9) = (x.s.size : Int) + (x.v.size : Int) + 1 + 2 + 9 := wrapi _ (by omega) (by omega)
      have u5 : IntKind.i64.wrap ((x.s.size : Int) + (x.v.size : Int) + 1 + 2 + 9 + 2) = (x.s.size : Int) + (x.v.size : Int) + 1 + 2 + 9 + 2 := wrapi _ (by omega) (by omega)
      have u6 : IntKind.i64.wrap (4 * ((n3 : Int) + 2) + (T : Int) + ((x.s.size : Int) + (x.v.size : Int) + 1 + 2 + 9 + 2)) = 4 * ((n3 : Int) + 2) + (T : Int) + ((x.s.size : Int) + (x.v.size : Int) + 1 + 2 + 9 + 2) := wrapi _ (by omega) (by omega)
      clear y0
      go_wp2_with fail
      go_roundw
      case rel => exact ⟨j + 1, by rw [HSN.out]; congr 1; simp; omega, by simp, by omega, R3.out, R4.out, G4.out⟩
      case measure => simp [intOf]; omega
    · have hki : ¬ (j : Int) < (n3 : Int) := by omega
      obtain rfl : j = n3 := by omega
      have hfull : sumE (O.take j) = sumE O := by rw [List.take_of_length_le (by have := HL3.out; omega)]
      rw [hfull] at hsi hsi0 ⊢
      have HSZ := Lib.hid (show n4 ≤ 4 * (j + 2) + sumE O by have := HSUM.out; have := HL3.out; have := HN4.out; omega)
      generalize sumE O = T at *
      have hwk : IntKind.i64.wrap ((k : Int) + 1) = (k : Int) + 1 := wrapi _ (by omega) (by omega)
      have hcap := r4.cap
      have hs71 := fun W => run_slice_hi_gen (P := Try.prog) (n := n4) (A := A4) 23 5 Try.underlying23 info_u8 .i64 (k := k) (c := c4) (by omega) W
      obtain ⟨A86, hs86, hr86⟩ := r4.slice_lo 23 5 (P := Try.prog) Try.underlying23 info_u8 .i64 (k := k + 1) (by omega)
      rw [bv_drop] at hr86
      have hr81 := r4.front (k := k) (by omega)
      rw [bv_take] at hr81
      have hc1 : (((k + 1 : Nat)) : Int) = (k : Int) + 1 := by omega
      rw [hc1] at hs86
      have R3 := Lib.hid r3
      have R4 := Lib.hid r4
      have R81 := Lib.hid hr81
      have R86 := Lib.hid hr86
      have G4 := Lib.hid g4
      clear r3 r4 g4 hr81 hr86 hcap hfull hsl hslj hki
      go_upto_region 16 with (fail)
      generalize hwd : wr = wd at *
      clear hwd
      have HB0 := Lib.hid (Below.refl wd.heap.size wd)
      go_cut [88, 89, 90] from 69 to 90 (fun s88 s89 s90 wx => ∃ (g : Nat) (r2 r3 : Row), s88 = .slice (some ⟨g, 0, none⟩) 3 3 ∧ s89 = .int .i64 3 ∧ s90 = .int .i64 0 ∧ CutAt wx g n4 ⟨A4, k, c4⟩ r2 r3 (bb.take k) (bb ++ [cc]) (bb.take k ++ bb.drop (k + 1)) ∧ Below wd.heap.size wd wx)
      case first =>
        have hend : ∀ (w87 : World) (A77 : Option Addr) (c77 : Nat) (A87 : Option Addr) (c87 n87 : Nat) (l87 : List UInt8), Rd w87 w87.heap.size A77 (n4 + 1) c77 (bv (bb ++ [cc])) → Rd w87 w87.heap.size A87 n87 c87 (bv l87) → Below wd.heap.size wd w87 → n87 = n4 - 1 → l87 = bb.take k ++ bb.drop (k + 1) →
            CutAt (w87.alloc (.cells #[.slice A4 k c4, .slice A77 (n4 + 1) c77, .slice A87 n87 c87] 23)) w87.heap.size n4 ⟨A4, k, c4⟩ ⟨A77, n4 + 1, c77⟩ ⟨A87, n87, c87⟩ (bb.take k) (bb ++ [cc]) (bb.take k ++ bb.drop (k + 1)) ∧ Below wd.heap.size wd (w87.alloc (.cells #[.slice A4 k c4, .slice A77 (n4 + 1) c77, .slice A87 n87 c87] 23)) := by
          intro w87 A77 c77 A87 c87 n87 l87 h1 h2 h3 e4 e5
          subst e5
          have hl := HN4.out
          refine ⟨⟨by simp, heap_alloc_new w87 _, ((R81.out.now h3)).now (below_alloc w87 _), h1.now (below_alloc w87 _), h2.now (below_alloc w87 _), ?_, ?_, ?_⟩, blit h3 _⟩
          · rw [List.length_take]; omega
          · rw [List.length_append]; simp; omega
          · rw [List.length_append, List.length_take, List.length_drop]; omega
        have HEND := Lib.hid hend
        clear hend
        by_cases hk0 : k = 0
        · have HK0 := Lib.hid hk0
          have hdr := Lib.hid (show 0 < n4 - (k + 1) by omega)
          clear hk0
          go_region_law (first
            | (refine step_app0 rfl (.tmp 72) (.tmp 73) rfl (by rfl) (R4.out.under (by first | exact HB0.out.drew | exact (blit HB0.out _).drew | exact (blit (blit HB0.out _) _).drew | exact (blit (blit (blit HB0.out _) _) _).drew) (Nat.le_refl _)) (by rfl) hn40 (by omega) ?_; intro A74 c74 w74 hf74 hb74; have F74 := Lib.hid hf74; have B74 := Lib.hid (Below.size_trans (by first | exact HB0.out.drew | exact (blit HB0.out _).drew | exact (blit (blit HB0.out _) _).drew | exact (blit (blit (blit HB0.out _) _) _).drew) hb74); have S74 := Lib.hid hb74.size; have C74 := Lib.hid (fun (n i : Nat) (h : n < _) => hb74.cell (p := ⟨n, i, none⟩) h); clear hf74 hb74)
            | (refine step_one (cc := cc) rfl (.tmp 74) (.tmp 76) rfl (by first | exact F74.out | exact F74.out.alloc _ | exact (F74.out.alloc _).alloc _ | exact ((F74.out.alloc _).alloc _).alloc _) (by rfl) (by rfl) (by first | (simp [World.cell?_alloc_at, World.cell?_alloc_past, lt11, lt111, HCC.out]; done) | (rw [C74.out _ _ (by simp <;> omega)]; simp [World.cell?_alloc_at, World.cell?_alloc_past, lt11, lt111, HCC.out]; done) | (rw [World.cell?_alloc_lt _ _ _ (by have := S74.out; simp at this ⊢ <;> omega), C74.out _ _ (by simp <;> omega)]; simp [World.cell?_alloc_at, World.cell?_alloc_past, lt11, lt111, HCC.out]; done) | (rw [World.cell?_alloc_lt _ _ _ (by have := S74.out; simp at this ⊢ <;> omega), World.cell?_alloc_lt _ _ _ (by have := S74.out; simp at this ⊢ <;> omega), C74.out _ _ (by simp <;> omega)]; simp [World.cell?_alloc_at, World.cell?_alloc_past, lt11, lt111, HCC.out]; done) | (rw [World.cell?_alloc_lt _ _ _ (by have := S74.out; simp at this ⊢ <;> omega), World.cell?_alloc_lt _ _ _ (by have := S74.out; simp at this ⊢ <;> omega), World.cell?_alloc_lt _ _ _ (by have := S74.out; simp at this ⊢ <;> omega), C74.out _ _ (by simp <;> omega)]; simp [World.cell?_alloc_at, World.cell?_alloc_past, lt11, lt111, HCC.out]; done) | (rw [World.cell?_alloc_lt _ _ _ (by have := S74.out; simp at this ⊢ <;> omega)]; simp [World.cell?_alloc_at, HCC.out]; done)) (by omega) (by first | exact S74.out | (have h := S74.out; simp at h ⊢ <;> omega)) ?_; intro A77 c77 w77 hap77; have F77 := Lib.hid hap77.fr; have B77 := Lib.hid (Below.size_trans2 (by first | exact B74.out | exact blit B74.out _ | exact blit (blit B74.out _) _ | exact blit (blit (blit B74.out _) _) _) hap77.below (by have h := B74.out.size; have h2 := S74.out; simp at h h2 ⊢ <;> omega)); have X77 := Lib.hid (Below.refl w77.heap.size w77); clear hap77)
            | (refine step_app00 rfl (.tmp 78) (.tmp 81) rfl (by rfl) (by rfl) HK0.out ?_)
            | (refine step_app0 rfl (.tmp 82) (.tmp 86) rfl (by rfl) (R86.out.under (by first | exact B77.out | exact blit B77.out _ | exact blit (blit B77.out _) _ | exact blit (blit (blit B77.out _) _) _) (Nat.le_refl _)) (by rfl) hdr.out (by omega) ?_; intro A87 c87 w87 hf87 hb87; have F87 := Lib.hid hf87; have X87 := Lib.hid (Below.size_trans (by first | exact X77.out | exact blit X77.out _ | exact blit (blit X77.out _) _ | exact blit (blit (blit X77.out _) _) _) hb87); clear hf87 hb87))
          all_goals (
            (try go_simp)
            (try go_wp2_with fail)
            go_meet
            exact ⟨_, _, _, rfl, rfl, rfl, HEND.out _ _ _ _ _ _ _ ((F77.out.rd (Nat.le_refl _)).now X87.out) (F87.out.rd (Nat.le_refl _)) (B77.out.trans (X87.out.mono B77.out.size)) (by have := HK0.out; omega) (by rw [HK0.out, List.take_zero, List.nil_append])⟩)
        · have HK0 := Lib.hid (show 0 < k by omega)
          clear hk0
          go_region_law (first
            | (refine step_app0 rfl (.tmp 72) (.tmp 73) rfl (by rfl) (R4.out.under (by first | exact HB0.out.drew | exact (blit HB0.out _).drew | exact (blit (blit HB0.out _) _).drew | exact (blit (blit (blit HB0.out _) _) _).drew) (Nat.le_refl _)) (by rfl) hn40 (by omega) ?_; intro A74 c74 w74 hf74 hb74; have F74 := Lib.hid hf74; have B74 := Lib.hid (Below.size_trans (by first | exact HB0.out.drew | exact (blit HB0.out _).drew | exact (blit (blit HB0.out _) _).drew | exact (blit (blit (blit HB0.out _) _) _).drew) hb74); have S74 := Lib.hid hb74.size; have C74 := Lib.hid (fun (n i : Nat) (h : n < _) => hb74.cell (p := ⟨n, i, none⟩) h); clear hf74 hb74)
            | (refine step_one (cc := cc) rfl (.tmp 74) (.tmp 76) rfl (by first | exact F74.out | exact F74.out.alloc _ | exact (F74.out.alloc _).alloc _ | exact ((F74.out.alloc _).alloc _).alloc _) (by rfl) (by rfl) (by first | (simp [World.cell?_alloc_at, World.cell?_alloc_past, lt11, lt111, HCC.out]; done) | (rw [C74.out _ _ (by simp <;> omega)]; simp [World.cell?_alloc_at, World.cell?_alloc_past, lt11, lt111, HCC.out]; done) | (rw [World.cell?_alloc_lt _ _ _ (by have := S74.out; simp at this ⊢ <;> omega), C74.out _ _ (by simp <;> omega)]; simp [World.cell?_alloc_at, World.cell?_alloc_past, lt11, lt111, HCC.out]; done) | (rw [World.cell?_alloc_lt _ _ _ (by have := S74.out; simp at this ⊢ <;> omega), World.cell?_alloc_lt _ _ _ (by have := S74.out; simp at this ⊢ <;> omega), C74.out _ _ (by simp <;> omega)]; simp [World.cell?_alloc_at, World.cell?_alloc_past, lt11, lt111, HCC.out]; done) | (rw [World.cell?_alloc_lt _ _ _ (by have := S74.out; simp at this ⊢ <;> omega), World.cell?_alloc_lt _ _ _ (by have := S74.out; simp at this ⊢ <;> omega), World.cell?_alloc_lt _ _ _ (by have := S74.out; simp at this ⊢ <;> omega), C74.out _ _ (by simp <;> omega)]; simp [World.cell?_alloc_at, World.cell?_alloc_past, lt11, lt111, HCC.out]; done) | (rw [World.cell?_alloc_lt _ _ _ (by have := S74.out; simp at this ⊢ <;> omega)]; simp [World.cell?_alloc_at, HCC.out]; done)) (by omega) (by first | exact S74.out | (have h := S74.out; simp at h ⊢ <;> omega)) ?_; intro A77 c77 w77 hap77; have F77 := Lib.hid hap77.fr; have B77 := Lib.hid (Below.size_trans2 (by first | exact B74.out | exact blit B74.out _ | exact blit (blit B74.out _) _ | exact blit (blit (blit B74.out _) _) _) hap77.below (by have h := B74.out.size; have h2 := S74.out; simp at h h2 ⊢ <;> omega)); have X77 := Lib.hid (Below.refl w77.heap.size w77); clear hap77)
            | (refine step_app0 rfl (.tmp 78) (.tmp 81) rfl (by rfl) (R81.out.under (by first | exact B77.out | exact blit B77.out _ | exact blit (blit B77.out _) _ | exact blit (blit (blit B77.out _) _) _) (Nat.le_refl _)) (by rfl) HK0.out (by omega) ?_; intro A82 c82 w82 hf82 hb82; have F82 := Lib.hid hf82; have T82 := Lib.hid (Below.size_of (by first | exact X77.out | exact blit X77.out _ | exact blit (blit X77.out _) _ | exact blit (blit (blit X77.out _) _) _) hb82); have X82 := Lib.hid (Below.size_trans (by first | exact X77.out | exact blit X77.out _ | exact blit (blit X77.out _) _ | exact blit (blit (blit X77.out _) _) _) hb82); have B82 := Lib.hid (Below.size_trans (by first | exact B77.out | exact blit B77.out _ | exact blit (blit B77.out _) _ | exact blit (blit (blit B77.out _) _) _) hb82); have S82 := Lib.hid hb82.size; clear hf82 hb82)
            | (refine step_app rfl (.tmp 82) (.tmp 86) rfl (by first | exact F82.out | exact F82.out.alloc _ | exact (F82.out.alloc _).alloc _ | exact ((F82.out.alloc _).alloc _).alloc _) (by rfl) (R86.out.under (by first | exact B82.out | exact blit B82.out _ | exact blit (blit B82.out _) _ | exact blit (blit (blit B82.out _) _) _) (Nat.le_refl _)) (by rfl) (bv_one _) (by omega) (by first | exact S82.out | (have h := S82.out; simp at h ⊢ <;> omega)) ?_; intro A87 c87 w87 hap87; have F87 := Lib.hid (bv_fr hap87.fr); have X87 := Lib.hid (Below.size_trans2 (by first | exact X82.out | exact blit X82.out _ | exact blit (blit X82.out _) _ | exact blit (blit (blit X82.out _) _) _) hap87.below T82.out); clear hap87))
          all_goals (
            (try go_simp)
            (try go_wp2_with fail)
            go_meet
            exact ⟨_, _, _, rfl, rfl, rfl, HEND.out _ _ _ _ _ _ _ ((F77.out.rd (Nat.le_refl _)).now X87.out) (F87.out.rd (Nat.le_refl _)) (B77.out.trans (X87.out.mono B77.out.size)) (by omega) rfl⟩)
      case rest =>
      obtain ⟨g, ra, rb, rfl, rfl, rfl, tw, gx⟩ := hcut
      generalize hwx : wc = wx at *
      clear hwx
      have TW := Lib.hid tw
      have R3x := Lib.hid (R3.out.now gx)
      have Gx := Lib.hid (bon G4.out gx)
      clear tw gx R3 G4 R4 R81 R86
      go_wp2_with fail
      go_loopw [90] (fun iv wr => ∃ i : Nat, iv = .int .i64 (i : Int) ∧ i ≤ 3 ∧ CutAt wr g n4 ⟨A4, k, c4⟩ ra rb (bb.take k) (bb ++ [cc]) (bb.take k ++ bb.drop (k + 1)) ∧ RdE wr wr.heap.size A3 j c3 O ∧ Below w.heap.size w wr) (fun iv _ => ((3 : Int) - intOf iv).toNat)
      case atStart => exact ⟨0, rfl, by omega, TW.out, R3x.out, Gx.out⟩
      case round =>
        clear TW R3x Gx
        obtain ⟨i, rfl, hi3, tw, r3, g0⟩ := hrel
        by_cases hlt : i < 3
        · skip
          obtain ⟨Ax, nx, cx, lx, z0, rx, hx1, hx2⟩ := tw.at_ hlt
          have hlx : lx.length = nx := by simpa using rx.len
          have hnx2 : nx ≤ 24001 := by omega
          have hki : (i : Int) < 3 := by omega
          have hj0 : (0 : Int) ≤ (i : Int) := by omega
          obtain ⟨M, hM⟩ : ∃ M, prsL lx = M := ⟨_, rfl⟩
          obtain ⟨E, hE⟩ : ∃ E, prsE lx = E := ⟨_, rfl⟩
          have HP := Lib.hid (parse_t rx (Nat.le_refl _) (by omega) hM hE)
          have HNO := Lib.hid (fun h => cut_no (O := O) (l := lx) (by rw [HBB.out, HN4.out]; exact hx1) h)
          rw [hM, hE] at HNO
          have HM64 := Lib.hid (show M.length ≤ 64 by
            by_cases h0 : prsE lx = 0
            · rw [← hM]; exact (blkB_iff.1 (prs_block h0)).2.1
            · rw [← hM, (prs_none h0).1]; simp)
          have TW := Lib.hid tw
          have R3 := Lib.hid r3
          have G0 := Lib.hid g0
          clear hx1 hx2 hlx rx tw r3 g0 hM hE
          go_wp2_with fail
          refine HP.out.mono ?_
          rintro e w11 ⟨A11, n11, c11, rfl, hf11, hb11⟩
          have TW1 := Lib.hid (TW.out.now hb11)
          have R31 := Lib.hid (R3.out.now hb11)
          have G1 := Lib.hid (bon G0.out hb11)
          have hn11 : n11 ≤ 64 := by have := hf11.len; have := HM64.out; omega
          have HSE := Lib.hid (sameE_c (hf11.rd (Nat.le_refl _)) R31.out (by omega) (by omega))
          clear hf11 hb11 HP TW R3 G0 z0
          by_cases hE0 : E = 0
          · subst hE0
            have hs := HNO.out rfl
            rw [hs] at HSE
            clear hs
            go_wp2_with fail
            refine HSE.out.mono ?_
            intro e w12 hq
            obtain ⟨rfl, hb12⟩ := hq.below
            have TW2 := Lib.hid (TW1.out.now hb12)
            have R32 := Lib.hid (R31.out.now hb12)
            have G2 := Lib.hid (bon G1.out hb12)
            clear hq hb12 HSE TW1 R31 G1
            go_wp2_with fail
            go_roundw
            case rel => exact ⟨i + 1, by simp, by omega, TW2.out, R32.out, G2.out⟩
            case measure => simp [intOf]; omega
          · have d1 : (E == 0) = false := by simpa using hE0
            go_wp2_with fail
            go_roundw
            case rel => exact ⟨i + 1, by simp, by omega, TW1.out, R31.out, G1.out⟩
            case measure => simp [intOf]; omega
        · have hki : ¬ (i : Int) < 3 := by omega
          have hle : decide ((n4 : Int) ≤ 4 * ((j : Int) + 2) + (T : Int)) = true := by have := HSZ.out; simp; omega
          have G0 := Lib.hid g0
          clear tw r3 g0
          go_wp2_with fail
          refine (awake7_c _).mono ?_
          rintro e w99 ⟨rfl, hb99⟩
          go_wp2_with fail
          go_ret
          exact ⟨rfl, bon G0.out hb99⟩

set_option maxRecDepth 100000 in
theorem lifted (os : Os) (started : os.Started) (H : Type) (enc : TypeId × Value → H) :
    ReturnsInHanded {} Try.checked os 6 .any (Rows.blockCutSpec.pre6 enc Try.prog Try.f6 Rows.blockCutRow.domain false) (Rows.blockCutSpec.post enc Try.prog Try.f6 false true false false) := by
  refine returnsInHanded_of_change (C := Try.checked) own started (by kernel_rfl) Try.func6
    (ChangeSpec.witness6 (enc := enc) (C := Try.checked) false ⟨#[], #[.slice none 0 0, .int .u16 0, .int .u8 0], []⟩ 8 (by kernel_rfl) (by kernel_rfl) (by kernel_rfl) (by kernel_rfl)) ?_
  intro W base args ds gs before hval0 hW hcnd _
  have hval : ∀ (j : Nat) t v, Try.f6.params[j]? = some t → args[j]? = some v → Value.okWide Try.prog W .any base t v := hval0
  have hW' := hW
  obtain ⟨p, q, hA0, hV, rfl, hfz, hnd⟩ := hW
  have hA : DataW.TrodAll enc Try.prog W 0 (fun _ => true) true Try.f6.params.toList args.toList ds p := hA0
  rw [Try.params6] at hA hval
  obtain ⟨v0, vs0, d0, ds0, p0, q0_, hargs, rfl, rfl, h0, r0_⟩ := trodAll_cons hA
  obtain ⟨v1, vs1, d1, ds1, p1, q1_, rfl, rfl, rfl, h1, r1_⟩ := trodAll_cons r0_
  obtain ⟨v2, vs2, d2, ds2, p2, q2_, rfl, rfl, rfl, h2, r2_⟩ := trodAll_cons r1_
  obtain ⟨rfl, rfl, rfl⟩ := trodAll_nil r2_
  obtain rfl : args = #[v0, v1, v2] := by cases args; simp_all
  obtain ⟨rfl, rfl⟩ := trodVars_none hV
  have kk0 := h0
  have lt0 : ∀ x ∈ p0, x.block < W.heap.size := by obtain ⟨m, hm⟩ := kk0; exact DataW.trod_lt m _ _ _ hm
  have kk1 := h1
  have lt1 : ∀ x ∈ p1, x.block < W.heap.size := by obtain ⟨m, hm⟩ := kk1; exact DataW.trod_lt m _ _ _ hm
  have kk2 := h2
  have lt2 : ∀ x ∈ p2, x.block < W.heap.size := by obtain ⟨m, hm⟩ := kk2; exact DataW.trod_lt m _ _ _ hm
  obtain ⟨A0, n0, c0, L0, e0, r0, o0⟩ := open_ents h0 (hval 0 _ v0 rfl rfl)
  subst e0
  obtain ⟨a1, e1, _, _, w1⟩ := open_int Try.underlying48 (hval 1 _ v1 rfl rfl) h1
  subst e1
  replace w1 := bounds_u16 w1
  obtain ⟨a1, rfl⟩ := Int.eq_ofNat_of_zero_le w1.1
  obtain ⟨a2, e2, _, _, w2⟩ := open_int Try.underlying5 (hval 2 _ v2 rfl rfl) h2
  subst e2
  replace w2 := bounds_u8 w2
  obtain ⟨a2, rfl⟩ := Int.eq_ofNat_of_zero_le w2.1
  clear hA0 hval0
  refine (walk A0 n0 c0 L0 a1 a2 W r0 o0 w1.2 w2.2).mono fun e W' ⟨he, bel⟩ => ?_
  subst he
  exact ⟨_, rfl, _, _, _, [], _, [], hW', trodAll_mk1 (shut_bool Try.underlying4 _), (trodAll_cons_mk (Below.trod laidOut (by kernel_rfl) (of_decide_eq_true (by kernel_rfl)) kk0 bel lt0) (trodAll_cons_mk (Below.trod laidOut (by kernel_rfl) (of_decide_eq_true (by kernel_rfl)) kk1 bel lt1) (trodAll_cons_mk (Below.trod laidOut (by kernel_rfl) (of_decide_eq_true (by kernel_rfl)) kk2 bel lt2) trodAll_mk0))), rfl, bel.frame _, fun h => by cases h⟩

theorem over : Rows.blockCutRow.holds Try.pinned (OpenSpec.ofChange Rows.blockCutSpec) :=
  OpenClaim.holds_of_wide 6 Try.f6 rfl rfl rfl rfl rfl rfl rfl ⟨rfl, rfl, rfl, rfl, rfl⟩ rfl rfl rfl rfl rfl (by kernel_rfl) Try.func6 (by kernel_rfl)
    (of_decide_eq_true (by kernel_rfl)) (by unfold Func.isWrapper; first | (rw [if_pos (by decide +kernel)]; kernel_rfl) | (rw [if_neg (by decide +kernel)]; exact ⟨rfl, rfl⟩))
    (fun os started H enc _ => lifted os started H enc)

/-- The statement. -/
theorem proved : Rows.BlockCutSaid := over
#print axioms proved
end Go.Proofs.Ytfbmphaabdhphaa.blockCut
