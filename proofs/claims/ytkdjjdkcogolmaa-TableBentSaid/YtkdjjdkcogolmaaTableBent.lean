/-
  A table in which some bits are turned, all within 32 beside one another, is none, or not the same; cut short, or with a byte more, it is none, or not the same. No condition.
-/
import Derived.Test.YtkdjjdkcogolmaaRows
import Derived.Test.YtkdjjdkcogolmaaTD
import Derived.Test.YtkdjjdkcogolmaaFrB
import Derived.WalkKit
import Derived.ProofKit
import Derived.OpenShut
import Derived.ShutString
import Derived.ChangeOld
import Derived.Below
import Derived.Deep.AppendSrc
import Derived.Deep.CutRange
import Derived.Deep.RegionLaw
import Derived.BigRegion
namespace Go.Proofs.Ytkdjjdkcogolmaa.tableBent
set_option maxRecDepth 100000
open Go.ChangeShapes Go.WideShapes Go.ChangeAt Go.RowKit
open Go.ChangeMaps (open_string shut_string)
set_option linter.unusedVariables false

theorem own : ownKnob Try.prog.godebug = none := by kernel_rfl
theorem laidOut : laidOutB Try.prog = true := by kernel_rfl

open Go.Shelf
set_option linter.unusedSimpArgs false
theorem run_app0 (w : World) (ty : TypeId) (A : Option Addr) {B m c2 : Nat} {A2 : Option Addr} {l : List UInt8} (hr : Rd w B A2 m c2 (bv l)) (hm : 0 < m) (hby : m ≤ 1000000) :
    ∃ A' c' w', (Builtin.append_ #[23, 23] ty #[.slice A 0 0, .slice A2 m c2]).run Try.prog w = .ok (.slice A' m c') w' ∧ Fr w' w.heap.size 5 A' m c' (bv l) ∧ Below w.heap.size w w' := by
  obtain ⟨i, hi, hz0, hz1, hz2⟩ := info_parts info_u8
  have hold : (Builtin.firstCells i.size 0 (.slice A 0 0)).run Try.prog w.drew = .ok ([] : List Value).toArray w.drew := by
    cases A with
    | none => exact run_firstCells_none w.drew i.size 0 0 0
    | some a => exact run_firstCells_some w.drew i.size 0 a 0 0 [] (by simp) (fun j v hj => by simp at hj)
  obtain ⟨b, off, hA2, _, _⟩ := hr.form hm
  subst hA2
  have hsrc : Src Try.prog i.size 23 (.slice (some ⟨b, off, none⟩) m c2) m (bv l) w := Src.ofSlice w Try.underlying23 _ m c2 (bv l) (by rw [hr.len, hz1, Nat.mul_one]) (hr.at_ _ rfl) (bv_one _)
  have hfit : Builtin.nextslicecap (0 + m) 0 * i.bytes ≤ 281474976710656 := growslice_fits (by omega) (by rw [hz2]; omega)
  have hrun := run_append_grow_src (P := Try.prog) (w := w) 23 23 ty 5 i _ Try.underlying23 hi hz0 A 0 0 [] hold _ m (bv l) hsrc (by omega) (by omega) hfit
  have hge := grownCap_ge w (0 + m) 0 5
  have hle := grownCap_le_maxLen w (0 + m) 0 5 (by unfold maxLen; omega)
  rw [Nat.zero_add] at hrun hge hle
  have hl : (bv l).length = m := hr.len
  refine ⟨_, _, _, hrun, ⟨⟨by rw [hl]; omega, .inr ⟨w.heap.size, _, _, rfl, Nat.le_refl _, heap_alloc_new w.drew _, hge, hle, ?_, ?_⟩⟩⟩, ((below_drewN (Below.refl _ _) 1 : Below w.heap.size w w.drew)).alloc (Nat.le_refl _) _⟩
  · rw [List.nil_append, Array.size_append, List.size_toArray, hl]
    simp [Builtin.zeroCells, Value.cells]
    omega
  · rw [List.nil_append, Array.toList_append, Nat.mul_one, List.take_append_of_le_length (l₁ := (bv l).toArray.toList) (Nat.le_of_eq hl.symm), List.take_of_length_le (l := (bv l).toArray.toList) (Nat.le_of_eq hl)]
theorem step_app0 {ops : Array Oper} {o : Oper} {a : Act} {K : Act → World → Prop} {Q : Exit → Act → World → Prop} {E : Prop} {w : World} (hgd : o.guard = none) (s x : Operand)
    (ho : o.op = .call { callee := .builtin .append, args := #[s, x], argTypes := #[23, 23] })
    {A : Option Addr} (hs : a.eval s = .slice A 0 0)
    {B m c2 : Nat} {A2 : Option Addr} {l : List UInt8} (hr : Rd w B A2 m c2 (bv l)) (hx : a.eval x = .slice A2 m c2) (hm : 0 < m) (hby : m ≤ 1000000)
    (hk : ∀ A' c' w', Fr w' w.heap.size 5 A' m c' (bv l) → Below w.heap.size w w' → K (a.put o.dst (.slice A' m c')) w') :
    if Region.wanted o (yielded ops a.tmps) = true then Oper.wp Try.prog o a w K Q else E := by
  have hw : Region.wanted o (yielded ops a.tmps) = true := by simp [Region.wanted, hgd]
  rw [if_pos hw]
  obtain ⟨A', c', w', hrun, h2, h3⟩ := run_app0 w o.type A hr hm hby
  unfold Oper.wp execOp
  simp only [ho, resolve, invoke, builtin, Sem.run_bind, Sem.run_pure, Result.andThen_ok, List.map_toArray, List.map_cons, List.map_nil, hs, hx, hrun]
  exact hk A' c' w' h2 h3
theorem Below.size_trans {u v x : World} (h : Below u.heap.size u v) (h2 : Below v.heap.size v x) : Below u.heap.size u x := h.trans (h2.mono h.size)
theorem Below.size_of {u v x : World} (h : Below u.heap.size u v) (h2 : Below v.heap.size v x) : u.heap.size ≤ v.heap.size := h.size
theorem Below.size_trans2 {B b : Nat} {u v x : World} (h : Below B u v) (h2 : Below b v x) (hB : B ≤ b) : Below B u x := h.trans (h2.mono hB)
theorem bv_fr {w : World} {b n c : Nat} {e : TypeId} {A : Option Addr} {x y : List UInt8} (h : Fr w b e A n c (bv x ++ bv y)) : Fr w b e A n c (bv (x ++ y)) := by rw [bv_append]; exact h
theorem lt11 (x : Nat) : x < x + 1 + 1 := by omega
theorem lt111 (x : Nat) : x < x + 1 + 1 + 1 := by omega
theorem Rd.of_cell {w : World} {X : Nat} {c : UInt8} (h : w.cell? ⟨X, 0, none⟩ = some (b8 c)) : Rd w (X + 1) (some ⟨X, 0, none⟩) 1 1 (bv [c]) :=
  ⟨rfl, Nat.le_refl _, by decide, fun e => (by cases e), fun _ ad e => (by cases e; exact Nat.lt_succ_self X), fun ad e j u hu => by
    cases e
    match j, hu with
    | 0, hu =>
      simp [bv] at hu
      subst hu
      rw [add_zero']; exact h⟩
theorem step_one {ops : Array Oper} {o : Oper} {a : Act} {K : Act → World → Prop} {Q : Exit → Act → World → Prop} {E : Prop} {w : World} (hgd : o.guard = none) (s x : Operand)
    (ho : o.op = .call { callee := .builtin .append, args := #[s, x], argTypes := #[23, 23] })
    {b : Nat} {A : Option Addr} {n c : Nat} {l : List UInt8} (h : Fr w b 5 A n c (bv l)) (hs : a.eval s = .slice A n c)
    {X : Nat} (hx : a.eval x = .slice (some ⟨X, 0, none⟩) 1 1) {cc : UInt8} (hcell : w.cell? ⟨X, 0, none⟩ = some (b8 cc)) (h63 : n ≤ 1000000) (hb : b ≤ w.heap.size)
    (hk : ∀ A' c' w', App w w' b 5 (.slice A n c) A' (n + 1) c' (bv (l ++ [cc])) → K (a.put o.dst (.slice A' (n + 1) c')) w') :
    if Region.wanted o (yielded ops a.tmps) = true then Oper.wp Try.prog o a w K Q else E :=
  step_app hgd s x ho h hs (Rd.of_cell hcell) hx (bv_one _) (by omega) hb (fun A' c' w' hap => hk A' c' w' (by rw [bv_append]; exact hap))

theorem byteOf_xor {c : UInt8} {j : Nat} (hj : j < 8) : (c ^^^ byteOf (2 ^ j)).toNat = c.toNat ^^^ 2 ^ j := by
  have hp : (2 : Nat) ^ j < 256 := Nat.lt_of_le_of_lt (Nat.pow_le_pow_right (by decide) (show j ≤ 7 by omega)) (by decide)
  rw [UInt8.toNat_xor, byteOf_toNat hp]
/-- Some bits of s have been turned, all from the bit a on, and before the bit a + k. -/
structure TBent (s : List UInt8) (a k : Nat) (l : List UInt8) (bo : Bool) : Prop where
  len : l.length = s.length
  same : ∀ (i t : Nat) (c d : UInt8), l[i]? = some c → s[i]? = some d → t < 8 → a + k ≤ 8 * i + t → c.toNat.testBit t = d.toNat.testBit t
  diff : bo = true ↔ l ≠ s
theorem TBent.start (s : List UInt8) (a : Nat) : TBent s a 0 s false := ⟨rfl, fun i t c d h1 h2 _ _ => by rw [h1] at h2; cases h2; rfl, by simp⟩
theorem TBent.pass {s l : List UInt8} {a k : Nat} {bo : Bool} (h : TBent s a k l bo) : TBent s a (k + 1) l bo := ⟨h.len, fun i t c d h1 h2 h3 h4 => h.same i t c d h1 h2 h3 (by omega), h.diff⟩
theorem TBent.turn {s l : List UInt8} {a k : Nat} {bo : Bool} (h : TBent s a k l bo) {c : UInt8} (hc : l[(a + k) / 8]? = some c) :
    TBent s a (k + 1) (l.set ((a + k) / 8) (c ^^^ byteOf (2 ^ ((a + k) % 8)))) true := by
  have hlt : (a + k) / 8 < l.length := by
    rcases Nat.lt_or_ge ((a + k) / 8) l.length with h1 | h1
    · exact h1
    · rw [List.getElem?_eq_none h1] at hc; cases hc
  have h8 : (a + k) % 8 < 8 := Nat.mod_lt _ (by decide)
  refine ⟨by rw [List.length_set]; exact h.len, ?_, ?_⟩
  · intro i t c2 d h1 h2 h3 h4
    by_cases hi : i = (a + k) / 8
    · subst hi
      rw [List.getElem?_set_self hlt] at h1
      cases h1
      rw [byteOf_xor h8, Nat.testBit_xor, Nat.testBit_two_pow, show decide ((a + k) % 8 = t) = false by simp; omega, Bool.xor_false]
      exact h.same _ t c d hc h2 h3 (by omega)
    · rw [List.getElem?_set_ne (Ne.symm hi)] at h1
      exact h.same i t c2 d h1 h2 h3 (by omega)
  · refine ⟨fun _ he => ?_, fun _ => rfl⟩
    obtain ⟨d, hd⟩ : ∃ d, s[(a + k) / 8]? = some d := ⟨_, List.getElem?_eq_getElem (by rw [← h.len]; exact hlt)⟩
    have h1 := h.same _ ((a + k) % 8) c d hc hd h8 (by omega)
    have h2 : (l.set ((a + k) / 8) (c ^^^ byteOf (2 ^ ((a + k) % 8))))[(a + k) / 8]? = some d := by rw [he]; exact hd
    rw [List.getElem?_set_self hlt] at h2
    injection h2 with h2
    rw [← h2, byteOf_xor h8, Nat.testBit_xor, Nat.testBit_two_pow_self] at h1
    cases hb : c.toNat.testBit ((a + k) % 8) <;> rw [hb] at h1 <;> cases h1
/-- Other bytes than a table's say another one, or none. -/
theorem bent_no {O : List Ent} {l : List UInt8} (hl : l ≠ tabL O) (h : prtE l = 0) : sameEs (prtL l) O = false := by
  cases hs : sameEs (prtL l) O with
  | false => rfl
  | true =>
    exfalso
    have e := sameEs_iff.1 hs
    rcases prt_cases l with ⟨h1, _⟩ | ⟨_, _, h3, _⟩
    · rw [h1] at h; exact absurd h (by decide)
    · rw [e] at h3; exact hl h3.symm
theorem prt_len (l : List UInt8) : (prtL l).length ≤ 8192 := by
  rcases prt_cases l with ⟨_, h, _⟩ | ⟨_, h, _⟩
  · rw [h]; simp
  · exact (tblB_iff.1 h).2.1
/-- Two rows of bytes, none as long as the table's own. -/
structure CutAt (w : World) (g N : Nat) (r1 r2 : Row) (l1 l2 : List UInt8) : Prop where
  lt : g < w.heap.size
  h : w.heap[g]? = some (.cells #[r1.v, r2.v] 23 (0, 0))
  d1 : Rd w w.heap.size r1.A r1.n r1.c (bv l1)
  d2 : Rd w w.heap.size r2.A r2.n r2.c (bv l2)
  n1 : l1.length ≠ N ∧ l1.length ≤ 130001
  n2 : l2.length ≠ N ∧ l2.length ≤ 130001
section
variable {w w' : World} {g N : Nat} {r1 r2 : Row} {l1 l2 : List UInt8}
theorem CutAt.now (h : CutAt w g N r1 r2 l1 l2) (hb : Below w.heap.size w w') : CutAt w' g N r1 r2 l1 l2 :=
  ⟨by have := h.lt; have := hb.size; omega, by rw [hb.block g h.lt]; exact h.h, h.d1.now hb, h.d2.now hb, h.n1, h.n2⟩
theorem CutAt.at_ (h : CutAt w g N r1 r2 l1 l2) {k : Nat} (hk : k < 2) : ∃ (A : Option Addr) (n c : Nat) (l : List UInt8), w.cell? ⟨g, k, none⟩ = some (.slice A n c) ∧ Rd w w.heap.size A n c (bv l) ∧ l.length ≠ N ∧ l.length ≤ 130001 := by
  have h2 : k = 0 ∨ k = 1 := by omega
  rcases h2 with rfl | rfl
  · exact ⟨_, _, _, l1, by simp only [World.cell?, h.h]; rfl, h.d1, h.n1⟩
  · exact ⟨_, _, _, l2, by simp only [World.cell?, h.h]; rfl, h.d2, h.n2⟩
end

set_option maxRecDepth 100000 in
set_option maxHeartbeats 8000000 in
theorem walk (A0 : Option Addr) (n0 c0 : Nat) (L0 : List Ent) (a1 : Nat) (a2 : Nat) (a3 : Nat) (a4 : Nat) (w : World) (r0 : RdE w w.heap.size A0 n0 c0 L0) (o0 : ∀ x ∈ L0, EntOk x) (w1 : (a1 : Int) ≤ 65535) (w2 : (a2 : Int) ≤ 4294967295) (w3 : (a3 : Int) ≤ 65535) (w4 : (a4 : Int) ≤ 255) :
    Calls Try.prog 4 #[.slice A0 n0 c0, .int .u16 (a1 : Int), .int .u32 (a2 : Int), .int .u16 (a3 : Int), .int .u8 (a4 : Int)] w fun e w' => e = .returned (.bool true) ∧ Below w.heap.size w w' := by
  have g0 : Below w.heap.size w w := Below.refl _ _
  have hl0 := r0.len
  have HL0 := Lib.hid hl0
  have HH0 := Lib.hid r0
  obtain ⟨cc, hcc0⟩ : ∃ cc : UInt8, cc = UInt8.ofNat a4 := ⟨_, rfl⟩
  have hcc : Value.int .u8 (a4 : Int) = b8 cc := by
    rw [hcc0]
    have : (UInt8.ofNat a4).toNat = a4 := by rw [UInt8.toNat_ofNat']; omega
    unfold b8; rw [this]
  have HCC := Lib.hid hcc
  obtain ⟨p, hpp⟩ : ∃ p, a2 = p := ⟨_, rfl⟩
  rw [hpp] at w2 ⊢
  clear o0 hl0 hcc0 r0 hcc hpp
  go_enter Try.func4, Try.ntmps4
  go_wp2_with fail
  refine (few_c HH0.out (Nat.le_refl _) 70).mono ?_
  rintro e w2 ⟨rfl, hb2⟩
  have rr := HH0.out.now hb2
  replace g0 := bon g0 hb2
  clear hb2
  cases hfew : fewB L0 70 with
  | false =>
    have G0 := Lib.hid g0
    clear g0 rr hfew
    go_wp2_with fail
    refine (awake8_c _).mono ?_
    rintro e w99 ⟨rfl, hb99⟩
    go_wp2_with fail
    go_ret
    exact ⟨rfl, bon G0.out hb99⟩
  | true =>
  have hn : n0 ≤ 70 := few_t HL0.out hfew
  clear hfew
  have HS := Lib.hid (sorted_c rr (by omega) 70 (by decide))
  have G0 := Lib.hid g0
  clear g0 rr
  go_wp2_with fail
  refine HS.out.mono ?_
  rintro e w3 ⟨A3, n3, c3, rfl, hf3, hb3⟩
  obtain ⟨O, hO⟩ : ∃ O, sortE 70 L0 = O := ⟨_, rfl⟩
  have hsb := sort_tbl (mo := 70) (by decide) L0
  have hol := (sortE_ok 70 L0).2.2
  rw [hO] at hf3 hsb hol
  have hl3 := hf3.len
  have r3 := hf3.rd (Nat.le_refl _)
  have G3 := Lib.hid (bon G0.out hb3)
  clear hf3 hb3 HS G0 hO
  by_cases hz : n3 = 0
  · have d1 : ((n3 : Int) == 0) = true := by simp; omega
    have d1' : (n3 == 0) = true := by simpa using hz
    clear hz hsb hl3 r3 hol
    go_wp2_with fail
    refine (awake8_c _).mono ?_
    rintro e w99 ⟨rfl, hb99⟩
    go_wp2_with fail
    go_ret
    exact ⟨rfl, bon G3.out hb99⟩
  have d1 : ((n3 : Int) == 0) = false := by simp; omega
  have d1' : (n3 == 0) = false := by simpa using hz
  have hblk : tblB O = true := hsb (fun h => hz (by rw [← hl3, h]; rfl))
  have hn64 : n3 ≤ 70 := by omega
  have hni : (n3 : Int) ≤ 70 := by omega
  have HB := Lib.hid (tbuild_t r3 (Nat.le_refl _) (by omega) (if_pos hblk : bltL O = tabL O) (if_pos hblk : bltE O = 0))
  have HPF := Lib.hid (prt_of hblk)
  have HLB := Lib.hid (show (tabL O).length ≤ 130000 by have := tab_bound hblk (m := 70) (by omega); omega)
  obtain ⟨bb, hbb⟩ : ∃ bb, tabL O = bb := ⟨_, rfl⟩
  have hbp : 1 ≤ (tabL O).length := by obtain ⟨T, hT⟩ := tab_last O; rw [hT, List.length_append]; simp
  rw [hbb] at HB HLB hbp HPF
  have HBB := Lib.hid hbb
  clear hz hsb hblk hl3 hbb hol
  go_wp2_with fail
  refine HB.out.mono ?_
  rintro e w4 ⟨A4, n4, c4, rfl, hf4, hb4⟩
  have hn4l : bb.length = n4 := by have := hf4.len; rw [bv_length] at this; exact this
  have hn4 : n4 ≤ 130000 := by have := HLB.out; omega
  have hn40 : 0 < n4 := by omega
  have r4 := hf4.rd (Nat.le_refl _)
  replace r3 := r3.now hb4
  have g4 := bon G3.out hb4
  have e1 : ((n4 : Int) == 0) = false := by simp; omega
  have e1' : (n4 == 0) = false := by simp; omega
  obtain ⟨bits_, hbits⟩ : ∃ x, 8 * n4 = x := ⟨_, rfl⟩
  have lb : bits_ ≤ 1040000 := by omega
  have lb0 : 8 ≤ bits_ := by omega
  obtain ⟨at0, hat⟩ : ∃ k, a1 % bits_ = k := ⟨_, rfl⟩
  have hatl : at0 < bits_ := by rw [← hat]; exact Nat.mod_lt _ (by omega)
  have hkm : (a1 : Int) % (bits_ : Int) = (at0 : Int) := by rw [← hat]; simp
  have hkw : ((a1 : Int)).tmod (bits_ : Int) = (at0 : Int) := by rw [← hat]; rfl
  have hbm : (8 : Int) * (n4 : Int) = (bits_ : Int) := by omega
  have hbz : (bits_ : Int) ≠ 0 := by omega
  have hbi : (bits_ : Int) ≤ 1040000 := by omega
  have hali : (at0 : Int) < (bits_ : Int) := by omega
  have ta : IntKind.i64.wrap (a1 : Int) = (a1 : Int) := wrapi _ (by omega) (by omega)
  obtain ⟨k, hk⟩ : ∃ k, a3 % n4 = k := ⟨_, rfl⟩
  have hkn : k < n4 := by rw [← hk]; exact Nat.mod_lt _ hn40
  have t1 : Int.tmod (a3 : Int) (n4 : Int) = (k : Int) := by rw [Int.tmod_eq_emod_of_nonneg (by omega), ← hk]; rfl
  have t1' : (a3 : Int) % (n4 : Int) = (k : Int) := by rw [← hk]; rfl
  have t2 : IntKind.i64.wrap (a3 : Int) = (a3 : Int) := wrapi _ (by omega) (by omega)
  have t3 : IntKind.i64.wrap (k : Int) = (k : Int) := wrapi _ (by omega) (by omega)
  have hn4i : (n4 : Int) ≤ 130000 := by omega
  have hn4z : (n4 : Int) ≠ 0 := by omega
  have hn4zz : n4 ≠ 0 := by omega
  have hpl : (p : Int) ≤ 4294967295 := by omega
  have HN4 := Lib.hid hn4l
  have HBI := Lib.hid hbits
  have HAT := Lib.hid hatl
  clear hf4 hb4 HB G3 d1 d1' hk hbp hn4l hbits hat hatl
  have R3 := Lib.hid r3
  have R4 := Lib.hid r4
  have G4 := Lib.hid g4
  clear r3 r4 g4
  go_wp2_with (at_builtin; refine wpList_app rfl (.tmp 45) (.tmp 46) _ rfl Try.underlying23 info_u8 rfl rfl (Fr.new w4 5 #[] rfl (Nat.le_refl _) (Nat.zero_le _)) rfl (R4.out.alloc (Nat.le_refl _) _) (bv_one _) (by omega) (by omega) (by simp) ?_; intro A6 c6 w6 hap6)
  have hf6 := hap6.fr
  rw [List.nil_append, Nat.zero_add] at hf6
  have hb6 : Below w4.heap.size w4 w6 := ((Below.refl _ _).alloc (Nat.le_refl _) _).trans hap6.below
  have G6 := Lib.hid (bon G4.out hb6)
  obtain ⟨g, rfl⟩ : ∃ g, A6 = some ⟨g, 0, none⟩ := by
    cases A6 with
    | none => have := (hf6.rd (Nat.le_refl _)).nil rfl; omega
    | some ad =>
      obtain ⟨-, -, h3, h4, -⟩ := hf6.frozen ad rfl
      exact ⟨ad.block, by rw [← h3, ← h4]⟩
  have hg4 : w4.heap.size ≤ g := (hf6.frozen _ rfl).1
  have HB6 := Lib.hid hb6
  have hbent := TBent.start bb at0
  clear hap6 hb6
  go_loopw [14, 48] (fun av iv wr => ∃ (k : Nat) (l : List UInt8) (bo : Bool), iv = .int .i64 (k : Int) ∧ k ≤ 32 ∧ av = .bool bo ∧ TBent bb at0 k l bo ∧ Fr wr w4.heap.size 5 (some ⟨g, 0, none⟩) n4 c6 (bv l) ∧ Below w4.heap.size w4 wr) (fun _ iv => (fun _ => (32 - intOf iv).toNat))
  case atStart => exact ⟨0, bb, false, rfl, by omega, rfl, hbent, hf6, HB6.out⟩
  case round =>
    clear hf6 hbent HB6 G6
    obtain ⟨kk, l, bo, rfl, hk, rfl, hbt, hf, gr⟩ := hrel
    by_cases hlt : kk < 32
    · have hdk : decide ((kk : Int) < 32) = true := by simp; omega
      obtain ⟨a, ha⟩ : ∃ a, at0 + kk = a := ⟨_, rfl⟩
      have hai : (at0 : Int) + (kk : Int) = (a : Int) := by omega
      obtain ⟨pb, hpb⟩ : ∃ pb, p / 2 ^ kk % 2 = pb := ⟨_, rfl⟩
      have hbit : bits .and .u32 ((p : Int) / 2 ^ kk) 1 = (pb : Int) := by
        have := u32_and_nat (p / 2 ^ kk) 1 (Nat.lt_of_le_of_lt (Nat.div_le_self _ _) (by omega)) (by omega)
        rw [Nat.and_one_is_mod, hpb] at this
        rw [← this]
        simp
      have hki : (kk : Int) ≤ 31 := by omega
      have ha16 : (a : Int) ≤ 1100000 := by have := HAT.out; omega
      have hpass := hbt.pass
      by_cases hp1 : pb = 1
      · have hdp : ((pb : Int) == 1) = true := by simp; omega
        by_cases hab : a < bits_
        · have hda : decide ((a : Int) < (bits_ : Int)) = true := by simp; omega
          have hda2 : decide (a < bits_) = true := by simp; omega
          obtain ⟨i, hi⟩ : ∃ i, a / 8 = i := ⟨_, rfl⟩
          obtain ⟨j, hj⟩ : ∃ j, a % 8 = j := ⟨_, rfl⟩
          have hil : i < n4 := by have := HBI.out; omega
          have hjl : j < 8 := by omega
          have hii : (a : Int) / 8 = (i : Int) := by omega
          have hji : (a : Int) % 8 = (j : Int) := by omega
          have hii' : (a : Int).tdiv 8 = (i : Int) := by rw [Int.tdiv_eq_ediv_of_nonneg (by omega)]; exact hii
          have hji' : (a : Int).tmod 8 = (j : Int) := by rw [Int.tmod_eq_emod_of_nonneg (by omega)]; exact hji
          have hll := hbt.len
          obtain ⟨cc2, hcc⟩ : ∃ cc, l[i]? = some cc := ⟨_, List.getElem?_eq_getElem (by have := HN4.out; omega)⟩
          have hcell := hf.cellAt hcc
          have hfz := hf.own.frozenAt i
          have hturn := hbt.turn (c := cc2) (by rw [ha, hi]; exact hcc)
          rw [ha, hi, hj] at hturn
          have hset := hf.put i (cc2 ^^^ byteOf (2 ^ j))
          have hpj : (2 : Nat) ^ j < 256 := Nat.lt_of_le_of_lt (Nat.pow_le_pow_right (by decide) (show j ≤ 7 by omega)) (by decide)
          have hx : bits .xor .u8 (cc2.toNat : Int) ((2 : Int) ^ j % 256) = ((cc2 ^^^ byteOf (2 ^ j)).toNat : Int) := by
            have e2 : ((2 : Int) ^ j) = ((2 ^ j : Nat) : Int) := by simp
            rw [e2, Int.emod_eq_of_lt (Int.natCast_nonneg _) (by exact_mod_cast hpj), u8_xor_nat _ _ cc2.toNat_lt hpj, UInt8.toNat_xor, byteOf_toNat hpj]
          have hii2 : (i : Int) < (n4 : Int) := by omega
          have HT := Lib.hid hturn
          have HSET := Lib.hid hset
          have hg2 := below_drewN (gr.setCell (p := ⟨g, i, none⟩) hg4 (b8 (cc2 ^^^ byteOf (2 ^ j)))) 1
          generalize cc2 ^^^ byteOf (2 ^ j) = dd at *
          have HG2 := Lib.hid hg2
          clear hturn hset hf hbt hpass hcc hll hpb hp1 hab hi hj hg2 gr hpj hii' hji'
          go_wp2_with fail
          go_region
          go_wp2_with fail
          go_roundw
          case rel => exact ⟨kk + 1, _, true, by simp, by omega, rfl, HT.out, HSET.out.below (below_drewN (Below.refl _ _) 1), HG2.out⟩
          case measure => simp [intOf]; omega
        · have hda : decide ((a : Int) < (bits_ : Int)) = false := by simp; omega
          have hda2 : decide (a < bits_) = false := by simp; omega
          have HP := Lib.hid hpass
          have HF := Lib.hid hf
          clear hbt hpass hpb hp1 hab hf
          go_wp2_with fail
          go_roundw
          case rel => exact ⟨kk + 1, _, bo, by simp, by omega, rfl, HP.out, HF.out, gr⟩
          case measure => simp [intOf]; omega
      · have hdp : ((pb : Int) == 1) = false := by simp; omega
        have HP := Lib.hid hpass
        have HF := Lib.hid hf
        clear hbt hpass hpb hp1 hf
        go_wp2_with fail
        go_roundw
        case rel => exact ⟨kk + 1, _, bo, by simp, by omega, rfl, HP.out, HF.out, gr⟩
        case measure => simp [intOf]; omega
    · obtain rfl : kk = 32 := by omega
      have hdk : decide (((32 : Nat) : Int) < 32) = false := by decide
      obtain ⟨M, hM⟩ : ∃ M, prtL l = M := ⟨_, rfl⟩
      obtain ⟨E, hE⟩ : ∃ E, prtE l = E := ⟨_, rfl⟩
      have HPB := Lib.hid (tparse_t (hf.rd (Nat.le_refl _)) (Nat.le_refl _) (by omega) hM hE)
      have HDI := Lib.hid hbt.diff
      have hml := prt_len l
      have hno : l ≠ bb → E = 0 → sameEs M O = false := fun h1 h2 => by rw [← hM]; exact bent_no (by rw [HBB.out]; exact h1) (by rw [hE]; exact h2)
      have hyes : l = bb → E = 0 ∧ sameEs M O = true := fun h1 => by
        rw [h1, HPF.out.1] at hM
        rw [h1, HPF.out.2] at hE
        exact ⟨hE.symm, by rw [← hM]; exact sameEs_iff.2 rfl⟩
      rw [hM] at hml
      have HNO := Lib.hid hno
      have HYES := Lib.hid hyes
      have HML := Lib.hid hml
      have R3a := Lib.hid (R3.out.now gr)
      have R4a := Lib.hid (R4.out.now gr)
      have G4a := Lib.hid (bon G4.out gr)
      clear hf hbt hno hyes hml hM hE gr R3 R4 G4
      go_wp2_with fail
      refine HPB.out.mono ?_
      rintro e w7 ⟨A7, n7, c7, rfl, hf7, hb7⟩
      have h7 : n7 ≤ 8192 := by have := hf7.len; have := HML.out; omega
      have HSE := Lib.hid (sameE_c (hf7.rd (Nat.le_refl _)) (R3a.out.now hb7) (by omega) (by omega))
      have R3b := Lib.hid (R3a.out.now hb7)
      have R4b := Lib.hid (R4a.out.now hb7)
      have G4b := Lib.hid (bon G4a.out hb7)
      clear hf7 hb7 HPB R3a R4a G4a
      have hc4 := R4b.out.cap
      by_cases hE0 : E = 0
      · subst hE0
        obtain ⟨bs, hbs⟩ : ∃ bs, sameEs M O = bs := ⟨_, rfl⟩
        rw [hbs] at HSE
        have hcmp : (bo == bs) = false := by
          cases bo with
          | true => rw [← hbs, HNO.out (HDI.out.1 rfl) rfl]; rfl
          | false =>
            have : l = bb := by
              rcases Classical.em (l = bb) with h | h
              · exact h
              · have := HDI.out.2 h; cases this
            rw [← hbs, (HYES.out this).2]; rfl
        clear hbs
        go_wp2_with fail
        refine HSE.out.mono ?_
        intro e w8 hq
        obtain ⟨rfl, hb8⟩ := hq.below
        have R3 := Lib.hid (R3b.out.now hb8)
        have R4 := Lib.hid (R4b.out.now hb8)
        have G8 := Lib.hid (bon G4b.out hb8)
        have R81 := Lib.hid (bv_take bb k ▸ (R4.out.front (k := k) (by omega)))
        have hs := fun W => run_slice_hi_gen (P := Try.prog) (n := n4) (A := A4) 23 5 Try.underlying23 info_u8 .i64 (k := k) (c := c4) (by omega) W
        clear hq hb8 HSE R3b R4b G4b HNO HYES HDI HML
        go_upto_region 22 with (fail)
        generalize hwd : w8 = wd at *
        clear hwd
        have HB0 := Lib.hid (Below.refl wd.heap.size wd)
        go_cut [109, 110, 111] from 96 to 111 (fun s88 s89 s90 wx => ∃ (g : Nat) (r2 : Row), s88 = .slice (some ⟨g, 0, none⟩) 2 2 ∧ s89 = .int .i64 2 ∧ s90 = .int .i64 0 ∧ CutAt wx g n4 ⟨A4, k, c4⟩ r2 (bb.take k) (bb ++ [cc]) ∧ Below wd.heap.size wd wx)
        case first =>
          have hend : ∀ (w87 : World) (A77 : Option Addr) (c77 : Nat), Rd w87 w87.heap.size A77 (n4 + 1) c77 (bv (bb ++ [cc])) → Below wd.heap.size wd w87 →
              CutAt (w87.alloc (.cells #[.slice A4 k c4, .slice A77 (n4 + 1) c77] 23)) w87.heap.size n4 ⟨A4, k, c4⟩ ⟨A77, n4 + 1, c77⟩ (bb.take k) (bb ++ [cc]) ∧ Below wd.heap.size wd (w87.alloc (.cells #[.slice A4 k c4, .slice A77 (n4 + 1) c77] 23)) := by
            intro w87 A77 c77 h1 h3
            have hl := HN4.out
            refine ⟨⟨by simp, heap_alloc_new w87 _, ((R81.out.now h3)).now (below_alloc w87 _), h1.now (below_alloc w87 _), ?_, ?_⟩, blit h3 _⟩
            · rw [List.length_take]; omega
            · rw [List.length_append]; simp; omega
          have HEND := Lib.hid hend
          clear hend
          go_region_law (first
              | (refine step_app0 rfl (.tmp 103) (.tmp 104) rfl (by rfl) (R4.out.under (by first | exact HB0.out.drew | exact (blit HB0.out _).drew | exact (blit (blit HB0.out _) _).drew | exact (blit (blit (blit HB0.out _) _) _).drew) (Nat.le_refl _)) (by rfl) hn40 (by omega) ?_; intro A74 c74 w74 hf74 hb74; have F74 := Lib.hid hf74; have B74 := Lib.hid (Below.size_trans (by first | exact HB0.out.drew | exact (blit HB0.out _).drew | exact (blit (blit HB0.out _) _).drew | exact (blit (blit (blit HB0.out _) _) _).drew) hb74); have S74 := Lib.hid hb74.size; have C74 := Lib.hid (fun (n i : Nat) (h : n < _) => hb74.cell (p := ⟨n, i, none⟩) h); clear hf74 hb74)
              | (refine step_one (cc := cc) rfl (.tmp 105) (.tmp 107) rfl (by first | exact F74.out | exact F74.out.alloc _ | exact (F74.out.alloc _).alloc _ | exact ((F74.out.alloc _).alloc _).alloc _) (by rfl) (by rfl) (by first | (simp [World.cell?_alloc_at, World.cell?_alloc_past, lt11, lt111, HCC.out]; done) | (rw [C74.out _ _ (by simp <;> omega)]; simp [World.cell?_alloc_at, World.cell?_alloc_past, lt11, lt111, HCC.out]; done) | (rw [World.cell?_alloc_lt _ _ _ (by have := S74.out; simp at this ⊢ <;> omega), C74.out _ _ (by simp <;> omega)]; simp [World.cell?_alloc_at, World.cell?_alloc_past, lt11, lt111, HCC.out]; done) | (rw [World.cell?_alloc_lt _ _ _ (by have := S74.out; simp at this ⊢ <;> omega), World.cell?_alloc_lt _ _ _ (by have := S74.out; simp at this ⊢ <;> omega), C74.out _ _ (by simp <;> omega)]; simp [World.cell?_alloc_at, World.cell?_alloc_past, lt11, lt111, HCC.out]; done) | (rw [World.cell?_alloc_lt _ _ _ (by have := S74.out; simp at this ⊢ <;> omega), World.cell?_alloc_lt _ _ _ (by have := S74.out; simp at this ⊢ <;> omega), World.cell?_alloc_lt _ _ _ (by have := S74.out; simp at this ⊢ <;> omega), C74.out _ _ (by simp <;> omega)]; simp [World.cell?_alloc_at, World.cell?_alloc_past, lt11, lt111, HCC.out]; done) | (rw [World.cell?_alloc_lt _ _ _ (by have := S74.out; simp at this ⊢ <;> omega)]; simp [World.cell?_alloc_at, HCC.out]; done)) (by omega) (by first | exact S74.out | (have h := S74.out; simp at h ⊢ <;> omega)) ?_; intro A77 c77 w77 hap77; have F77 := Lib.hid hap77.fr; have B77 := Lib.hid (Below.size_trans2 (by first | exact B74.out | exact blit B74.out _ | exact blit (blit B74.out _) _ | exact blit (blit (blit B74.out _) _) _) hap77.below (by have h := B74.out.size; have h2 := S74.out; simp at h h2 ⊢ <;> omega)); have X77 := Lib.hid (Below.refl w77.heap.size w77); clear hap77))
          all_goals (
              (try go_simp)
              (try go_wp2_with fail)
              go_meet
              exact ⟨_, _, rfl, rfl, rfl, HEND.out _ _ _ (F77.out.rd (Nat.le_refl _)) B77.out⟩)
        case rest =>
        obtain ⟨g, rb, rfl, rfl, rfl, tw, gx⟩ := hcut
        generalize hwx : wc = wx at *
        clear hwx
        have TW := Lib.hid tw
        have R3x := Lib.hid (R3.out.now gx)
        have Gx := Lib.hid (bon G8.out gx)
        clear tw gx R3 G8 R4 R81
        go_wp2_with fail
        go_loopw [111] (fun iv wr => ∃ i : Nat, iv = .int .i64 (i : Int) ∧ i ≤ 2 ∧ CutAt wr g n4 ⟨A4, k, c4⟩ rb (bb.take k) (bb ++ [cc]) ∧ RdE wr wr.heap.size A3 n3 c3 O ∧ Below w.heap.size w wr) (fun iv _ => ((2 : Int) - intOf iv).toNat)
        case atStart => exact ⟨0, rfl, by omega, TW.out, R3x.out, Gx.out⟩
        case round =>
          clear TW R3x Gx
          obtain ⟨i, rfl, hi2, tw, r3, g0⟩ := hrel
          by_cases hlt : i < 2
          · obtain ⟨Ax, nx, cx, lx, z0, rx, hx1, hx2⟩ := tw.at_ hlt
            have hlx : lx.length = nx := by simpa using rx.len
            have hnx2 : nx ≤ 130001 := by omega
            have hki : (i : Int) < 2 := by omega
            have hj0 : (0 : Int) ≤ (i : Int) := by omega
            obtain ⟨M, hM⟩ : ∃ M, prtL lx = M := ⟨_, rfl⟩
            obtain ⟨E, hE⟩ : ∃ E, prtE lx = E := ⟨_, rfl⟩
            have HP := Lib.hid (tparse_t rx (Nat.le_refl _) (by omega) hM hE)
            have HNO := Lib.hid (fun h => bent_no (O := O) (l := lx) (fun e => hx1 (by rw [e, HBB.out, HN4.out])) h)
            have HM64 := Lib.hid (prt_len lx)
            rw [hM, hE] at HNO
            rw [hM] at HM64
            have TW := Lib.hid tw
            have R3 := Lib.hid r3
            have G0 := Lib.hid g0
            clear hx1 hx2 hlx rx tw r3 g0 hM hE
            go_wp2_with fail
            refine HP.out.mono ?_
            rintro e w11 ⟨A11, n11, c11, rfl, hf11, hb11⟩
            have TW1 := Lib.hid (TW.out.now hb11)
            have R31 := Lib.hid (R3.out.now hb11)
            have G1 := Lib.hid (bon G0.out hb11)
            have hn11 : n11 ≤ 8192 := by have := hf11.len; have := HM64.out; omega
            have HSE := Lib.hid (sameE_c (hf11.rd (Nat.le_refl _)) R31.out (by omega) (by omega))
            clear hf11 hb11 HP TW R3 G0 z0
            by_cases hE0 : E = 0
            · subst hE0
              have hs := HNO.out rfl
              rw [hs] at HSE
              clear hs
              go_wp2_with fail
              refine HSE.out.mono ?_
              intro e w12 hq
              obtain ⟨rfl, hb12⟩ := hq.below
              have TW2 := Lib.hid (TW1.out.now hb12)
              have R32 := Lib.hid (R31.out.now hb12)
              have G2 := Lib.hid (bon G1.out hb12)
              clear hq hb12 HSE TW1 R31 G1
              go_wp2_with fail
              go_roundw
              case rel => exact ⟨i + 1, by simp, by omega, TW2.out, R32.out, G2.out⟩
              case measure => simp [intOf]; omega
            · have d1 : (E == 0) = false := by simpa using hE0
              go_wp2_with fail
              go_roundw
              case rel => exact ⟨i + 1, by simp, by omega, TW1.out, R31.out, G1.out⟩
              case measure => simp [intOf]; omega
          · have hki : ¬ (i : Int) < 2 := by omega
            obtain rfl : i = 2 := by omega
            have G0 := Lib.hid g0
            clear tw r3 g0
            go_wp2_with fail
            refine (awake8_c _).mono ?_
            rintro e w99 ⟨rfl, hb99⟩
            go_wp2_with fail
            go_ret
            exact ⟨rfl, bon G0.out hb99⟩

      · have d1 : (E == 0) = false := by simpa using hE0
        have hbo : bo = true := by
          cases bo with
          | true => rfl
          | false =>
            have : l = bb := by
              rcases Classical.em (l = bb) with h | h
              · exact h
              · have := HDI.out.2 h; cases this
            exact absurd (HYES.out this).1 hE0
        subst hbo
        obtain ⟨w8, hw8⟩ : ∃ w8, w7 = w8 := ⟨_, rfl⟩
        subst hw8
        have R3 := Lib.hid R3b.out
        have R4 := Lib.hid R4b.out
        have G8 := Lib.hid G4b.out
        have R81 := Lib.hid (bv_take bb k ▸ (R4.out.front (k := k) (by omega)))
        have hs := fun W => run_slice_hi_gen (P := Try.prog) (n := n4) (A := A4) 23 5 Try.underlying23 info_u8 .i64 (k := k) (c := c4) (by omega) W
        clear HSE R3b R4b G4b HNO HYES HDI HML
        go_upto_region 22 with (fail)
        generalize hwd : w7 = wd at *
        clear hwd
        have HB0 := Lib.hid (Below.refl wd.heap.size wd)
        go_cut [109, 110, 111] from 96 to 111 (fun s88 s89 s90 wx => ∃ (g : Nat) (r2 : Row), s88 = .slice (some ⟨g, 0, none⟩) 2 2 ∧ s89 = .int .i64 2 ∧ s90 = .int .i64 0 ∧ CutAt wx g n4 ⟨A4, k, c4⟩ r2 (bb.take k) (bb ++ [cc]) ∧ Below wd.heap.size wd wx)
        case first =>
          have hend : ∀ (w87 : World) (A77 : Option Addr) (c77 : Nat), Rd w87 w87.heap.size A77 (n4 + 1) c77 (bv (bb ++ [cc])) → Below wd.heap.size wd w87 →
              CutAt (w87.alloc (.cells #[.slice A4 k c4, .slice A77 (n4 + 1) c77] 23)) w87.heap.size n4 ⟨A4, k, c4⟩ ⟨A77, n4 + 1, c77⟩ (bb.take k) (bb ++ [cc]) ∧ Below wd.heap.size wd (w87.alloc (.cells #[.slice A4 k c4, .slice A77 (n4 + 1) c77] 23)) := by
            intro w87 A77 c77 h1 h3
            have hl := HN4.out
            refine ⟨⟨by simp, heap_alloc_new w87 _, ((R81.out.now h3)).now (below_alloc w87 _), h1.now (below_alloc w87 _), ?_, ?_⟩, blit h3 _⟩
            · rw [List.length_take]; omega
            · rw [List.length_append]; simp; omega
          have HEND := Lib.hid hend
          clear hend
          go_region_law (first
              | (refine step_app0 rfl (.tmp 103) (.tmp 104) rfl (by rfl) (R4.out.under (by first | exact HB0.out.drew | exact (blit HB0.out _).drew | exact (blit (blit HB0.out _) _).drew | exact (blit (blit (blit HB0.out _) _) _).drew) (Nat.le_refl _)) (by rfl) hn40 (by omega) ?_; intro A74 c74 w74 hf74 hb74; have F74 := Lib.hid hf74; have B74 := Lib.hid (Below.size_trans (by first | exact HB0.out.drew | exact (blit HB0.out _).drew | exact (blit (blit HB0.out _) _).drew | exact (blit (blit (blit HB0.out _) _) _).drew) hb74); have S74 := Lib.hid hb74.size; have C74 := Lib.hid (fun (n i : Nat) (h : n < _) => hb74.cell (p := ⟨n, i, none⟩) h); clear hf74 hb74)
              | (refine step_one (cc := cc) rfl (.tmp 105) (.tmp 107) rfl (by first | exact F74.out | exact F74.out.alloc _ | exact (F74.out.alloc _).alloc _ | exact ((F74.out.alloc _).alloc _).alloc _) (by rfl) (by rfl) (by first | (simp [World.cell?_alloc_at, World.cell?_alloc_past, lt11, lt111, HCC.out]; done) | (rw [C74.out _ _ (by simp <;> omega)]; simp [World.cell?_alloc_at, World.cell?_alloc_past, lt11, lt111, HCC.out]; done) | (rw [World.cell?_alloc_lt _ _ _ (by have := S74.out; simp at this ⊢ <;> omega), C74.out _ _ (by simp <;> omega)]; simp [World.cell?_alloc_at, World.cell?_alloc_past, lt11, lt111, HCC.out]; done) | (rw [World.cell?_alloc_lt _ _ _ (by have := S74.out; simp at this ⊢ <;> omega), World.cell?_alloc_lt _ _ _ (by have := S74.out; simp at this ⊢ <;> omega), C74.out _ _ (by simp <;> omega)]; simp [World.cell?_alloc_at, World.cell?_alloc_past, lt11, lt111, HCC.out]; done) | (rw [World.cell?_alloc_lt _ _ _ (by have := S74.out; simp at this ⊢ <;> omega), World.cell?_alloc_lt _ _ _ (by have := S74.out; simp at this ⊢ <;> omega), World.cell?_alloc_lt _ _ _ (by have := S74.out; simp at this ⊢ <;> omega), C74.out _ _ (by simp <;> omega)]; simp [World.cell?_alloc_at, World.cell?_alloc_past, lt11, lt111, HCC.out]; done) | (rw [World.cell?_alloc_lt _ _ _ (by have := S74.out; simp at this ⊢ <;> omega)]; simp [World.cell?_alloc_at, HCC.out]; done)) (by omega) (by first | exact S74.out | (have h := S74.out; simp at h ⊢ <;> omega)) ?_; intro A77 c77 w77 hap77; have F77 := Lib.hid hap77.fr; have B77 := Lib.hid (Below.size_trans2 (by first | exact B74.out | exact blit B74.out _ | exact blit (blit B74.out _) _ | exact blit (blit (blit B74.out _) _) _) hap77.below (by have h := B74.out.size; have h2 := S74.out; simp at h h2 ⊢ <;> omega)); have X77 := Lib.hid (Below.refl w77.heap.size w77); clear hap77))
          all_goals (
              (try go_simp)
              (try go_wp2_with fail)
              go_meet
              exact ⟨_, _, rfl, rfl, rfl, HEND.out _ _ _ (F77.out.rd (Nat.le_refl _)) B77.out⟩)
        case rest =>
        obtain ⟨g, rb, rfl, rfl, rfl, tw, gx⟩ := hcut
        generalize hwx : wc = wx at *
        clear hwx
        have TW := Lib.hid tw
        have R3x := Lib.hid (R3.out.now gx)
        have Gx := Lib.hid (bon G8.out gx)
        clear tw gx R3 G8 R4 R81
        go_wp2_with fail
        go_loopw [111] (fun iv wr => ∃ i : Nat, iv = .int .i64 (i : Int) ∧ i ≤ 2 ∧ CutAt wr g n4 ⟨A4, k, c4⟩ rb (bb.take k) (bb ++ [cc]) ∧ RdE wr wr.heap.size A3 n3 c3 O ∧ Below w.heap.size w wr) (fun iv _ => ((2 : Int) - intOf iv).toNat)
        case atStart => exact ⟨0, rfl, by omega, TW.out, R3x.out, Gx.out⟩
        case round =>
          clear TW R3x Gx
          obtain ⟨i, rfl, hi2, tw, r3, g0⟩ := hrel
          by_cases hlt : i < 2
          · obtain ⟨Ax, nx, cx, lx, z0, rx, hx1, hx2⟩ := tw.at_ hlt
            have hlx : lx.length = nx := by simpa using rx.len
            have hnx2 : nx ≤ 130001 := by omega
            have hki : (i : Int) < 2 := by omega
            have hj0 : (0 : Int) ≤ (i : Int) := by omega
            obtain ⟨M, hM⟩ : ∃ M, prtL lx = M := ⟨_, rfl⟩
            obtain ⟨E, hE⟩ : ∃ E, prtE lx = E := ⟨_, rfl⟩
            have HP := Lib.hid (tparse_t rx (Nat.le_refl _) (by omega) hM hE)
            have HNO := Lib.hid (fun h => bent_no (O := O) (l := lx) (fun e => hx1 (by rw [e, HBB.out, HN4.out])) h)
            have HM64 := Lib.hid (prt_len lx)
            rw [hM, hE] at HNO
            rw [hM] at HM64
            have TW := Lib.hid tw
            have R3 := Lib.hid r3
            have G0 := Lib.hid g0
            clear hx1 hx2 hlx rx tw r3 g0 hM hE
            go_wp2_with fail
            refine HP.out.mono ?_
            rintro e w11 ⟨A11, n11, c11, rfl, hf11, hb11⟩
            have TW1 := Lib.hid (TW.out.now hb11)
            have R31 := Lib.hid (R3.out.now hb11)
            have G1 := Lib.hid (bon G0.out hb11)
            have hn11 : n11 ≤ 8192 := by have := hf11.len; have := HM64.out; omega
            have HSE := Lib.hid (sameE_c (hf11.rd (Nat.le_refl _)) R31.out (by omega) (by omega))
            clear hf11 hb11 HP TW R3 G0 z0
            by_cases hE0 : E = 0
            · subst hE0
              have hs := HNO.out rfl
              rw [hs] at HSE
              clear hs
              go_wp2_with fail
              refine HSE.out.mono ?_
              intro e w12 hq
              obtain ⟨rfl, hb12⟩ := hq.below
              have TW2 := Lib.hid (TW1.out.now hb12)
              have R32 := Lib.hid (R31.out.now hb12)
              have G2 := Lib.hid (bon G1.out hb12)
              clear hq hb12 HSE TW1 R31 G1
              go_wp2_with fail
              go_roundw
              case rel => exact ⟨i + 1, by simp, by omega, TW2.out, R32.out, G2.out⟩
              case measure => simp [intOf]; omega
            · have d1 : (E == 0) = false := by simpa using hE0
              go_wp2_with fail
              go_roundw
              case rel => exact ⟨i + 1, by simp, by omega, TW1.out, R31.out, G1.out⟩
              case measure => simp [intOf]; omega
          · have hki : ¬ (i : Int) < 2 := by omega
            obtain rfl : i = 2 := by omega
            have G0 := Lib.hid g0
            clear tw r3 g0
            go_wp2_with fail
            refine (awake8_c _).mono ?_
            rintro e w99 ⟨rfl, hb99⟩
            go_wp2_with fail
            go_ret
            exact ⟨rfl, bon G0.out hb99⟩


set_option maxRecDepth 100000 in
theorem lifted (os : Os) (started : os.Started) (H : Type) (enc : TypeId × Value → H) :
    ReturnsInHanded {} Try.checked os 4 .any (Rows.tableBentSpec.pre6 enc Try.prog Try.f4 Rows.tableBentRow.domain false) (Rows.tableBentSpec.post enc Try.prog Try.f4 false true false false) := by
  refine returnsInHanded_of_change (C := Try.checked) own started (by kernel_rfl) Try.func4
    (ChangeSpec.witness6 (enc := enc) (C := Try.checked) false ⟨#[], #[.slice none 0 0, .int .u16 0, .int .u32 0, .int .u16 0, .int .u8 0], []⟩ 8 (by kernel_rfl) (by kernel_rfl) (by kernel_rfl) (by kernel_rfl)) ?_
  intro W base args ds gs before hval0 hW hcnd _
  have hval : ∀ (j : Nat) t v, Try.f4.params[j]? = some t → args[j]? = some v → Value.okWide Try.prog W .any base t v := hval0
  have hW' := hW
  obtain ⟨p, q, hA0, hV, rfl, hfz, hnd⟩ := hW
  have hA : DataW.TrodAll enc Try.prog W 0 (fun _ => true) true Try.f4.params.toList args.toList ds p := hA0
  rw [Try.params4] at hA hval
  obtain ⟨v0, vs0, d0, ds0, p0, q0_, hargs, rfl, rfl, h0, r0_⟩ := trodAll_cons hA
  obtain ⟨v1, vs1, d1, ds1, p1, q1_, rfl, rfl, rfl, h1, r1_⟩ := trodAll_cons r0_
  obtain ⟨v2, vs2, d2, ds2, p2, q2_, rfl, rfl, rfl, h2, r2_⟩ := trodAll_cons r1_
  obtain ⟨v3, vs3, d3, ds3, p3, q3_, rfl, rfl, rfl, h3, r3_⟩ := trodAll_cons r2_
  obtain ⟨v4, vs4, d4, ds4, p4, q4_, rfl, rfl, rfl, h4, r4_⟩ := trodAll_cons r3_
  obtain ⟨rfl, rfl, rfl⟩ := trodAll_nil r4_
  obtain rfl : args = #[v0, v1, v2, v3, v4] := by cases args; simp_all
  obtain ⟨rfl, rfl⟩ := trodVars_none hV
  have kk0 := h0
  have lt0 : ∀ x ∈ p0, x.block < W.heap.size := by obtain ⟨m, hm⟩ := kk0; exact DataW.trod_lt m _ _ _ hm
  have kk1 := h1
  have lt1 : ∀ x ∈ p1, x.block < W.heap.size := by obtain ⟨m, hm⟩ := kk1; exact DataW.trod_lt m _ _ _ hm
  have kk2 := h2
  have lt2 : ∀ x ∈ p2, x.block < W.heap.size := by obtain ⟨m, hm⟩ := kk2; exact DataW.trod_lt m _ _ _ hm
  have kk3 := h3
  have lt3 : ∀ x ∈ p3, x.block < W.heap.size := by obtain ⟨m, hm⟩ := kk3; exact DataW.trod_lt m _ _ _ hm
  have kk4 := h4
  have lt4 : ∀ x ∈ p4, x.block < W.heap.size := by obtain ⟨m, hm⟩ := kk4; exact DataW.trod_lt m _ _ _ hm
  obtain ⟨A0, n0, c0, L0, e0, r0, o0⟩ := open_ents h0 (hval 0 _ v0 rfl rfl)
  subst e0
  obtain ⟨a1, e1, _, _, w1⟩ := open_int Try.underlying37 (hval 1 _ v1 rfl rfl) h1
  subst e1
  replace w1 := bounds_u16 w1
  obtain ⟨a1, rfl⟩ := Int.eq_ofNat_of_zero_le w1.1
  obtain ⟨a2, e2, _, _, w2⟩ := open_int Try.underlying38 (hval 2 _ v2 rfl rfl) h2
  subst e2
  replace w2 := bounds_u32 w2
  obtain ⟨a2, rfl⟩ := Int.eq_ofNat_of_zero_le w2.1
  obtain ⟨a3, e3, _, _, w3⟩ := open_int Try.underlying37 (hval 3 _ v3 rfl rfl) h3
  subst e3
  replace w3 := bounds_u16 w3
  obtain ⟨a3, rfl⟩ := Int.eq_ofNat_of_zero_le w3.1
  obtain ⟨a4, e4, _, _, w4⟩ := open_int Try.underlying5 (hval 4 _ v4 rfl rfl) h4
  subst e4
  replace w4 := bounds_u8 w4
  obtain ⟨a4, rfl⟩ := Int.eq_ofNat_of_zero_le w4.1
  clear hA0 hval0
  refine (walk A0 n0 c0 L0 a1 a2 a3 a4 W r0 o0 w1.2 w2.2 w3.2 w4.2).mono fun e W' ⟨he, bel⟩ => ?_
  subst he
  exact ⟨_, rfl, _, _, _, [], _, [], hW', trodAll_mk1 (shut_bool Try.underlying4 _), (trodAll_cons_mk (Below.trod laidOut (by kernel_rfl) (of_decide_eq_true (by kernel_rfl)) kk0 bel lt0) (trodAll_cons_mk (Below.trod laidOut (by kernel_rfl) (of_decide_eq_true (by kernel_rfl)) kk1 bel lt1) (trodAll_cons_mk (Below.trod laidOut (by kernel_rfl) (of_decide_eq_true (by kernel_rfl)) kk2 bel lt2) (trodAll_cons_mk (Below.trod laidOut (by kernel_rfl) (of_decide_eq_true (by kernel_rfl)) kk3 bel lt3) (trodAll_cons_mk (Below.trod laidOut (by kernel_rfl) (of_decide_eq_true (by kernel_rfl)) kk4 bel lt4) trodAll_mk0))))), rfl, bel.frame _, fun h => by cases h⟩

theorem over : Rows.tableBentRow.holds Try.pinned (OpenSpec.ofChange Rows.tableBentSpec) :=
  OpenClaim.holds_of_wide 4 Try.f4 rfl rfl rfl rfl rfl rfl rfl ⟨rfl, rfl, rfl, rfl, rfl⟩ rfl rfl rfl rfl rfl (by kernel_rfl) Try.func4 (by kernel_rfl)
    (of_decide_eq_true (by kernel_rfl)) (by unfold Func.isWrapper; first | (rw [if_pos (by decide +kernel)]; kernel_rfl) | (rw [if_neg (by decide +kernel)]; exact ⟨rfl, rfl⟩))
    (fun os started H enc _ => lifted os started H enc)

/-- The statement. -/
theorem proved : Rows.TableBentSaid := over
#print axioms proved
end Go.Proofs.Ytkdjjdkcogolmaa.tableBent
