/-
  TableNames: each number above 0 has one name, by which it is known again; 0 has none; no other text is a table name; and what is told of a table. The package variables of the library that are read hold what their own initialisers lay.
-/
import Derived.Test.YtkdjjdkcogolmaaGreatDoorTM
import Derived.Test.YtkdjjdkcogolmaaGreatDoorCards
import Derived.Test.YtkdjjdkcogolmaaGreatDoorTie
import Derived.WalkKit
import Derived.ProofKit
import Derived.OpenShut
import Derived.ShutString
import Derived.ChangeOld
import Derived.Below
import Derived.Deep.DeepHandedRow
import Derived.BigRegion
import Derived.Lib.PathFns
import Derived.StillTailTactics
namespace Go.Proofs.YtkdjjdkcogolmaaGreatDoor.tableNames
set_option maxRecDepth 100000
open Go.ChangeShapes Go.WideShapes Go.ChangeAt Go.RowKit
open Go.ChangeMaps (open_string shut_string)
set_option linter.unusedVariables false
set_option maxRecDepth 100000

theorem own : ownKnob Tryz.prog.godebug = none := by kernel_rfl
theorem laidOut : laidOutB Tryz.prog = true := by kernel_rfl

open Go.Shelf
theorem str_emp (s : ByteArray) : s.toList.isEmpty = decide (s.size = 0) := by
  rw [Bool.eq_iff_iff]
  simp only [List.isEmpty_iff, decide_eq_true_eq]
  rw [Lib.toList_data, ← List.length_eq_zero_iff, ← Lib.size_eq]
theorem digits_all : ∀ (v : Nat), ∀ c ∈ Lib.decDigits v, 48 ≤ c.toNat ∧ c.toNat ≤ 57 := by
  intro v
  induction v using Nat.strongRecOn with
  | _ v ih =>
    intro c hc
    by_cases h : v < 10
    · rw [Lib.decDigits, dif_pos h] at hc
      simp only [List.mem_singleton] at hc
      subst hc
      have := digit_toNat h
      omega
    · rw [Lib.decDigits, dif_neg h] at hc
      rcases List.mem_append.1 hc with h1 | h1
      · exact ih (v / 10) (by omega) c h1
      · simp only [List.mem_singleton] at h1
        subst h1
        have := digit_toNat (k := v % 10) (by omega)
        omega
theorem no_of {s : List UInt8} (h : ∀ v, 0 < v → v < 18446744073709551616 → tnmL v ≠ s) : TabN s 0 false := ⟨fun h => (by cases h), fun _ => ⟨rfl, h⟩⟩
theorem named_d {s : List UInt8} {v : Nat} (h0 : 0 < v) (h : tnmL v = s) : s = [116, 97, 98, 46] ++ Lib.decDigits v := by
  unfold tnmL at h
  rw [if_neg (by omega)] at h
  exact h.symm
theorem no_bad {d : List UInt8} {c : UInt8} (hc : c ∈ d) (hbad : c.toNat < 48 ∨ 57 < c.toNat) : TabN ([116, 97, 98, 46] ++ d) 0 false :=
  no_of fun v h0 hv h => by
    have h1 := named_d h0 h
    have h2 := List.append_cancel_left h1
    have h3 := digits_all v c (by rw [← h2]; exact hc)
    omega
theorem no_zero {u : Nat} (hu : u < 18446744073709551616) : TabN ([116, 97, 98, 46] ++ 48 :: Lib.decDigits u) 0 false :=
  no_of fun v h0 hv h => by
    have h1 := List.append_cancel_left (named_d h0 h)
    have h2 := parse_digits v hv
    rw [← h1] at h2
    have h3 : Lib.parseUintM (2 ^ 64 - 1) 0 (48 :: Lib.decDigits u) = Lib.parseUintM (2 ^ 64 - 1) 0 (Lib.decDigits u) := by
      simp [Lib.parseUintM]
    rw [h3, parse_digits u hu] at h2
    simp only [Lib.NumEnd.ok.injEq] at h2
    subst h2
    have := congrArg List.length h1
    simp at this
theorem no_head {s : List UInt8} {c : UInt8} {t : List UInt8} (hs : s = c :: t) (hc : c ≠ 116) : TabN s 0 false :=
  no_of fun v h0 hv h => by
    have h1 := named_d h0 h
    rw [hs] at h1
    exact hc (by simpa using (List.cons.inj h1).1)
theorem yes_name {u : Nat} (h0 : 0 < u) (hu : u < 18446744073709551616) : TabN (tnmL u) u true := ⟨fun _ => ⟨h0, hu, rfl⟩, fun h => (by cases h)⟩
theorem no_name : TabN (tnmL 0) 0 false := no_of fun v h0 hv h => by have := named_d h0 h; simp [tnmL] at this
/-- The five other texts. -/
def others (d : List UInt8) : List (List UInt8) := [[116, 97, 98, 46] ++ (d ++ [120]), [116, 97, 98, 46] ++ 48 :: d, [116, 97, 98, 46] ++ 43 :: d, [108, 111, 103, 46] ++ d, d]
theorem others_no {u : Nat} (hu : u < 18446744073709551616) : ∀ s ∈ others (Lib.decDigits u), TabN s 0 false ∧ s.length ≤ 30 := by
  have hl := digits_len hu
  intro s hs
  unfold others at hs
  simp only [List.mem_cons, List.not_mem_nil, or_false] at hs
  rcases hs with rfl | rfl | rfl | rfl | rfl
  · exact ⟨no_bad (c := 120) (by simp) (.inr (by decide)), by simp; omega⟩
  · exact ⟨no_zero hu, by simp; omega⟩
  · exact ⟨no_bad (c := 43) (by simp) (.inl (by decide)), by simp; omega⟩
  · exact ⟨no_head rfl (by decide), by simp; omega⟩
  · refine ⟨?_, by omega⟩
    cases hd : Lib.decDigits u with
    | nil => rw [hd] at hl; simp at hl
    | cons c t =>
      refine no_head rfl fun h => ?_
      have := digits_all u c (by rw [hd]; simp)
      rw [h] at this
      revert this; decide
/-- Texts in a block of their own. -/
structure Txt (W : World) (g : Nat) (L : List ByteArray) : Prop where
  lt : g < W.heap.size
  cell : ∀ i x, L[i]? = some x → W.cell? ⟨g, i, none⟩ = some (.string x)
theorem Txt.now {w w' : World} {g : Nat} {L : List ByteArray} (h : Txt w g L) (hb : Below w.heap.size w w') : Txt w' g L :=
  ⟨Nat.lt_of_lt_of_le h.lt hb.size, fun i x hx => (hb.cell (p := ⟨g, i, none⟩) h.lt).trans (h.cell i x hx)⟩
theorem lay5 (w : World) (t : TypeId) (a b c d e : ByteArray) : Txt (w.alloc (.cells #[.string a, .string b, .string c, .string d, .string e] t)).drew w.heap.size [a, b, c, d, e] ∧ Below w.heap.size w (w.alloc (.cells #[.string a, .string b, .string c, .string d, .string e] t)).drew := by
  refine ⟨⟨by show _ < (w.alloc _).heap.size; simp, fun i x hx => ?_⟩, (below_alloc _ _).drew⟩
  show (w.alloc _).cell? _ = _
  rw [World.cell?_alloc_mark]
  show (([a, b, c, d, e].map Value.string).toArray)[i]? = _
  rw [List.getElem?_toArray, List.getElem?_map, hx]; rfl
theorem prt_nil : prtE [] = 80 ∧ prtL [] = [] := by
  rcases prt_cases [] with ⟨h1, h2, _⟩ | ⟨_, _, h3, _⟩
  · exact ⟨h1, h2⟩
  · obtain ⟨T, hT⟩ := tab_last (prtL [])
    rw [hT] at h3
    simp at h3
theorem met_zero (l : List UInt8) : metM 0 l = noM ∧ metE 0 l = 2 := ⟨if_pos (.inl rfl), if_pos rfl⟩
theorem met_none {u : Nat} (h : 0 < u) : metM u [] = noM ∧ metE u [] = 80 := by
  unfold metM metE
  rw [prt_nil.1, if_pos (.inr (by decide)), if_neg (by omega)]
  exact ⟨rfl, rfl⟩
theorem met_yes {u : Nat} (h : 0 < u) {O : List Ent} (hb : tblB O = true) : metM u (tabL O) = ⟨u, (tabL O).length, (O[0]?.getD noE).s, (lastE O).s⟩ ∧ metE u (tabL O) = 0 := by
  obtain ⟨h1, h2⟩ := prt_of hb
  unfold metM metE
  rw [h1, h2, if_neg (by simp; omega), if_neg (by omega)]
  exact ⟨rfl, rfl⟩

set_option maxHeartbeats 8000000 in
theorem walk (a0 : Nat) (a1 : ByteArray) (A2 : Option Addr) (n2 c2 : Nat) (L2 : List Ent) (w : World) (w0 : (a0 : Int) ≤ 18446744073709551615) (w1 : a1.size ≤ maxLen) (r2 : RdE w w.heap.size A2 n2 c2 L2) (o2 : ∀ x ∈ L2, EntOk x) (hv : Vars w) :
    Calls Tryz.prog 4 #[.int .u64 (a0 : Int), .string a1, .slice A2 n2 c2] w fun e w' => e = .returned (.bool true) ∧ Below w.heap.size w w' := by
  have g0 : Below w.heap.size w w := Below.refl _ _
  have hu64 : a0 < 18446744073709551616 := by omega
  by_cases hlen : 60 < a1.size
  · have d1 : decide ((60 : Int) < (a1.size : Int)) = true := by simp; omega
    have d2 : decide (60 < a1.size) = true := by simpa using hlen
    have G0 := Lib.hid g0
    clear hlen hv hu64 r2 o2 g0
    go_enter Tryz.func4, Tryz.ntmps4
    go_wp2_with fail
    refine (awake8_c _).mono ?_
    rintro e w99 ⟨rfl, hb99⟩
    go_wp2_with fail
    go_ret
    exact ⟨rfl, bon G0.out hb99⟩
  have d1 : decide ((60 : Int) < (a1.size : Int)) = false := by simp; omega
  have d2 : decide (60 < a1.size) = false := by simpa using hlen
  have hni : (a1.size : Int) ≤ 60 := by omega
  have HL0 := Lib.hid r2.len
  have HH0 := Lib.hid r2
  have HV := Lib.hid hv
  clear hlen r2 o2 hv
  go_enter Tryz.func4, Tryz.ntmps4
  go_wp2_with fail
  refine (few_c HH0.out (Nat.le_refl _) 40).mono ?_
  rintro e w1 ⟨rfl, hb0⟩
  have hv := HV.out.now hb0
  have hg := bon g0 hb0
  clear hb0 g0 HV
  cases hfew : fewB L2 40 with
  | false =>
    have G0 := Lib.hid hg
    clear hg hfew hv
    go_wp2_with fail
    refine (awake8_c _).mono ?_
    rintro e w99 ⟨rfl, hb99⟩
    go_wp2_with fail
    go_ret
    exact ⟨rfl, bon G0.out hb99⟩
  | true =>
  have hn : n2 ≤ 40 := few_t HL0.out hfew
  clear hfew
  have HN := Lib.hid (tname_c hv a0 hu64)
  -- what is told of the given text, and the rest, from whatever world
  have HNUM := Lib.hid (fun (W : World) (hW : Vars W) => tnumber_c hW a1 (by omega))
  rcases Nat.eq_zero_or_pos a0 with h0 | h0
  · subst h0
    have HN2 := Lib.hid (fun (W : World) (hW : Vars W) => tnumber_t hW ⟨(tnmL 0).toArray⟩ (by decide) (show TabN (tnmL 0) 0 false from no_name))
    have e0 : (⟨(tnmL 0).toArray⟩ : ByteArray) = ⟨#[]⟩ := rfl
    rw [e0] at HN HN2
    clear e0 hu64
    go_wp2_with fail
    refine HN.out.mono ?_
    rintro e w2 ⟨rfl, hb1⟩
    replace hv := hv.now hb1
    replace hg := bon hg hb1
    clear hb1
    go_wp2_with fail
    refine (HN2.out _ hv).mono ?_
    rintro e w2b ⟨rfl, hb2⟩
    replace hv := hv.now hb2
    replace hg := bon hg hb2
    clear hb2 HN HN2
    go_wp2_with fail
    refine (HNUM.out _ hv).mono ?_
    rintro e w3 ⟨m, is, rfl, hm, hb3⟩
    replace hv := hv.now hb3
    replace hg := bon hg hb3
    clear hb3 HNUM
    cases is with
    | false =>
      obtain ⟨rfl, -⟩ := hm.no rfl
      clear hm
      have HR := Lib.hid (sorted_c (HH0.out.now hg) (by omega) 40 (by decide))
      have HG := Lib.hid hg
      clear hg hv
      go_wp2_with fail
      refine HR.out.mono ?_
      rintro e w5 ⟨A3, n3, c3, rfl, hf3, hb3⟩
      obtain ⟨O, hO⟩ : ∃ O, sortE 40 L2 = O := ⟨_, rfl⟩
      have hsb := sort_tbl (mo := 40) (by decide) L2
      have hol := (sortE_ok 40 L2).2.2
      rw [hO] at hf3 hsb hol
      have hl3 := hf3.len
      have r3 := hf3.rd (Nat.le_refl _)
      have G3 := Lib.hid (bon HG.out hb3)
      clear hf3 hb3 HR HG hO
      by_cases hz : O = []
      · have hnb : tblB O = false := by rw [hz]; rfl
        have HB := Lib.hid (tbuild_t r3 (Nat.le_refl _) (by omega) (blt_no hnb).1 (blt_no hnb).2)
        have HLB := Lib.hid (show ([] : List UInt8).length ≤ 130000 by decide)
        clear hsb hol hl3 r3 hnb hz
        obtain ⟨M, hM⟩ : ∃ M, noM = M := ⟨_, rfl⟩
        have E2 : ∀ W, (Op.equalIn 10000 44 (.agg #[.int .u64 (M.num : Int), .int .u64 (M.size : Int), .string M.lo, .string M.hi]) (.agg #[.int .u64 0, .int .u64 0, .string ⟨#[]⟩, .string ⟨#[]⟩])).run Tryz.prog W = .ok true W := fun W => run_same_mt (x := M) (y := noM) hM.symm W
        go_wp2_with fail
        refine HB.out.mono ?_
        rintro e w6 ⟨A6, n6, c6, rfl, hf6, hb6⟩
        have hn6 : n6 ≤ 200000 := by have := hf6.len; rw [bv_length] at this; have := HLB.out; omega
        have HME := Lib.hid (tmeta_t (hf6.rd (Nat.le_refl _)) (Nat.le_refl _) (by omega) _ 0 rfl ((met_zero []).1.trans hM) (met_zero []).2)
        have G6 := Lib.hid (bon G3.out hb6)
        clear hf6 hb6 HB G3 hM hn6 HLB
        go_wp2_with fail
        refine HME.out.mono ?_
        rintro e w7 ⟨rfl, hb7⟩
        have G7 := Lib.hid (blit (bon G6.out hb7) (.cells #[.int .u64 (M.num : Int), .int .u64 (M.size : Int), .string M.lo, .string M.hi] 44))
        unfold mtv
        have bM := MtAt.new w7 M
        go_upto_region 21 with (fail)
        obtain ⟨w8, hw8⟩ : ∃ w8, w7.alloc (.cells #[.int .u64 (M.num : Int), .int .u64 (M.size : Int), .string M.lo, .string M.hi] 44) = w8 := ⟨_, rfl⟩
        obtain ⟨gM, hgM⟩ : ∃ gM, w7.heap.size = gM := ⟨_, rfl⟩
        rw [hw8] at bM G7
        rw [hgM] at bM
        rw [hw8, hgM]
        obtain ⟨m0, m1, m2, m3⟩ := bM.cells
        clear bM hb7 hw8 hgM
        go_wp2_with fail
        refine (awake8_c _).mono ?_
        rintro e w99 ⟨rfl, hb99⟩
        go_wp2_with fail
        go_ret
        exact ⟨rfl, bon G7.out hb99⟩
      have htb : tblB O = true := hsb hz
      have HB := Lib.hid (tbuild_t r3 (Nat.le_refl _) (by omega) (blt_yes htb).1 (blt_yes htb).2)
      have HLB := Lib.hid (show (tabL O).length ≤ 130000 by have := tab_bound htb (m := 70) (by omega); omega)
      have hb1 : 0 < O.length := by cases O with | nil => exact absurd rfl hz | cons _ _ => simp
      clear hsb hol hl3 r3 hz hb1 htb
      obtain ⟨M, hM⟩ : ∃ M, noM = M := ⟨_, rfl⟩
      have E2 : ∀ W, (Op.equalIn 10000 44 (.agg #[.int .u64 (M.num : Int), .int .u64 (M.size : Int), .string M.lo, .string M.hi]) (.agg #[.int .u64 0, .int .u64 0, .string ⟨#[]⟩, .string ⟨#[]⟩])).run Tryz.prog W = .ok true W := fun W => run_same_mt (x := M) (y := noM) hM.symm W
      go_wp2_with fail
      refine HB.out.mono ?_
      rintro e w6 ⟨A6, n6, c6, rfl, hf6, hb6⟩
      have hn6 : n6 ≤ 200000 := by have := hf6.len; rw [bv_length] at this; have := HLB.out; omega
      have HME := Lib.hid (tmeta_t (hf6.rd (Nat.le_refl _)) (Nat.le_refl _) (by omega) _ 0 rfl ((met_zero (tabL O)).1.trans hM) (met_zero (tabL O)).2)
      have G6 := Lib.hid (bon G3.out hb6)
      clear hf6 hb6 HB G3 hM hn6 HLB
      go_wp2_with fail
      refine HME.out.mono ?_
      rintro e w7 ⟨rfl, hb7⟩
      have G7 := Lib.hid (blit (bon G6.out hb7) (.cells #[.int .u64 (M.num : Int), .int .u64 (M.size : Int), .string M.lo, .string M.hi] 44))
      unfold mtv
      have bM := MtAt.new w7 M
      go_upto_region 21 with (fail)
      obtain ⟨w8, hw8⟩ : ∃ w8, w7.alloc (.cells #[.int .u64 (M.num : Int), .int .u64 (M.size : Int), .string M.lo, .string M.hi] 44) = w8 := ⟨_, rfl⟩
      obtain ⟨gM, hgM⟩ : ∃ gM, w7.heap.size = gM := ⟨_, rfl⟩
      rw [hw8] at bM G7
      rw [hgM] at bM
      rw [hw8, hgM]
      obtain ⟨m0, m1, m2, m3⟩ := bM.cells
      clear bM hb7 hw8 hgM
      go_wp2_with fail
      refine (awake8_c _).mono ?_
      rintro e w99 ⟨rfl, hb99⟩
      go_wp2_with fail
      go_ret
      exact ⟨rfl, bon G7.out hb99⟩
    | true =>
      obtain ⟨hm0, hm64, hmn⟩ := hm.yes rfl
      have hmi : (m : Int) ≤ 18446744073709551615 := by omega
      have t1 : decide ((0 : Int) < (m : Int)) = true := by simp; omega
      have t2 : decide (0 < m) = true := by simpa using hm0
      have hma : (⟨(tnmL m).toArray⟩ : ByteArray) = a1 := by rw [hmn]
      have HNM := Lib.hid (tname_c hv m hm64)
      rw [hma] at HNM
      have t3 : (a1.toList == a1.toList) = true := by simp
      clear hm hm0 hm64 hmn hma
      go_wp2_with fail
      refine HNM.out.mono ?_
      rintro e w4 ⟨rfl, hb4⟩
      replace hv := hv.now hb4
      replace hg := bon hg hb4
      clear hb4 HNM
      have HR := Lib.hid (sorted_c (HH0.out.now hg) (by omega) 40 (by decide))
      have HG := Lib.hid hg
      clear hg hv
      go_wp2_with fail
      refine HR.out.mono ?_
      rintro e w5 ⟨A3, n3, c3, rfl, hf3, hb3⟩
      obtain ⟨O, hO⟩ : ∃ O, sortE 40 L2 = O := ⟨_, rfl⟩
      have hsb := sort_tbl (mo := 40) (by decide) L2
      have hol := (sortE_ok 40 L2).2.2
      rw [hO] at hf3 hsb hol
      have hl3 := hf3.len
      have r3 := hf3.rd (Nat.le_refl _)
      have G3 := Lib.hid (bon HG.out hb3)
      clear hf3 hb3 HR HG hO
      by_cases hz : O = []
      · have hnb : tblB O = false := by rw [hz]; rfl
        have HB := Lib.hid (tbuild_t r3 (Nat.le_refl _) (by omega) (blt_no hnb).1 (blt_no hnb).2)
        have HLB := Lib.hid (show ([] : List UInt8).length ≤ 130000 by decide)
        clear hsb hol hl3 r3 hnb hz
        obtain ⟨M, hM⟩ : ∃ M, noM = M := ⟨_, rfl⟩
        have E2 : ∀ W, (Op.equalIn 10000 44 (.agg #[.int .u64 (M.num : Int), .int .u64 (M.size : Int), .string M.lo, .string M.hi]) (.agg #[.int .u64 0, .int .u64 0, .string ⟨#[]⟩, .string ⟨#[]⟩])).run Tryz.prog W = .ok true W := fun W => run_same_mt (x := M) (y := noM) hM.symm W
        go_wp2_with fail
        refine HB.out.mono ?_
        rintro e w6 ⟨A6, n6, c6, rfl, hf6, hb6⟩
        have hn6 : n6 ≤ 200000 := by have := hf6.len; rw [bv_length] at this; have := HLB.out; omega
        have HME := Lib.hid (tmeta_t (hf6.rd (Nat.le_refl _)) (Nat.le_refl _) (by omega) _ 0 rfl ((met_zero []).1.trans hM) (met_zero []).2)
        have G6 := Lib.hid (bon G3.out hb6)
        clear hf6 hb6 HB G3 hM hn6 HLB
        go_wp2_with fail
        refine HME.out.mono ?_
        rintro e w7 ⟨rfl, hb7⟩
        have G7 := Lib.hid (blit (bon G6.out hb7) (.cells #[.int .u64 (M.num : Int), .int .u64 (M.size : Int), .string M.lo, .string M.hi] 44))
        unfold mtv
        have bM := MtAt.new w7 M
        go_upto_region 21 with (fail)
        obtain ⟨w8, hw8⟩ : ∃ w8, w7.alloc (.cells #[.int .u64 (M.num : Int), .int .u64 (M.size : Int), .string M.lo, .string M.hi] 44) = w8 := ⟨_, rfl⟩
        obtain ⟨gM, hgM⟩ : ∃ gM, w7.heap.size = gM := ⟨_, rfl⟩
        rw [hw8] at bM G7
        rw [hgM] at bM
        rw [hw8, hgM]
        obtain ⟨m0, m1, m2, m3⟩ := bM.cells
        clear bM hb7 hw8 hgM
        go_wp2_with fail
        refine (awake8_c _).mono ?_
        rintro e w99 ⟨rfl, hb99⟩
        go_wp2_with fail
        go_ret
        exact ⟨rfl, bon G7.out hb99⟩
      have htb : tblB O = true := hsb hz
      have HB := Lib.hid (tbuild_t r3 (Nat.le_refl _) (by omega) (blt_yes htb).1 (blt_yes htb).2)
      have HLB := Lib.hid (show (tabL O).length ≤ 130000 by have := tab_bound htb (m := 70) (by omega); omega)
      have hb1 : 0 < O.length := by cases O with | nil => exact absurd rfl hz | cons _ _ => simp
      clear hsb hol hl3 r3 hz hb1 htb
      obtain ⟨M, hM⟩ : ∃ M, noM = M := ⟨_, rfl⟩
      have E2 : ∀ W, (Op.equalIn 10000 44 (.agg #[.int .u64 (M.num : Int), .int .u64 (M.size : Int), .string M.lo, .string M.hi]) (.agg #[.int .u64 0, .int .u64 0, .string ⟨#[]⟩, .string ⟨#[]⟩])).run Tryz.prog W = .ok true W := fun W => run_same_mt (x := M) (y := noM) hM.symm W
      go_wp2_with fail
      refine HB.out.mono ?_
      rintro e w6 ⟨A6, n6, c6, rfl, hf6, hb6⟩
      have hn6 : n6 ≤ 200000 := by have := hf6.len; rw [bv_length] at this; have := HLB.out; omega
      have HME := Lib.hid (tmeta_t (hf6.rd (Nat.le_refl _)) (Nat.le_refl _) (by omega) _ 0 rfl ((met_zero (tabL O)).1.trans hM) (met_zero (tabL O)).2)
      have G6 := Lib.hid (bon G3.out hb6)
      clear hf6 hb6 HB G3 hM hn6 HLB
      go_wp2_with fail
      refine HME.out.mono ?_
      rintro e w7 ⟨rfl, hb7⟩
      have G7 := Lib.hid (blit (bon G6.out hb7) (.cells #[.int .u64 (M.num : Int), .int .u64 (M.size : Int), .string M.lo, .string M.hi] 44))
      unfold mtv
      have bM := MtAt.new w7 M
      go_upto_region 21 with (fail)
      obtain ⟨w8, hw8⟩ : ∃ w8, w7.alloc (.cells #[.int .u64 (M.num : Int), .int .u64 (M.size : Int), .string M.lo, .string M.hi] 44) = w8 := ⟨_, rfl⟩
      obtain ⟨gM, hgM⟩ : ∃ gM, w7.heap.size = gM := ⟨_, rfl⟩
      rw [hw8] at bM G7
      rw [hgM] at bM
      rw [hw8, hgM]
      obtain ⟨m0, m1, m2, m3⟩ := bM.cells
      clear bM hb7 hw8 hgM
      go_wp2_with fail
      refine (awake8_c _).mono ?_
      rintro e w99 ⟨rfl, hb99⟩
      go_wp2_with fail
      go_ret
      exact ⟨rfl, bon G7.out hb99⟩
  · have HLEN := Lib.hid (tnm_len hu64)
    have HD := Lib.hid (show tnmL a0 = [116, 97, 98, 46] ++ Lib.decDigits a0 by unfold tnmL; rw [if_neg (by omega)])
    have HOTH := Lib.hid (others_no hu64)
    obtain ⟨s, hs⟩ : ∃ s : ByteArray, s = ⟨(tnmL a0).toArray⟩ := ⟨_, rfl⟩
    have hsl : s.data.toList = tnmL a0 := by rw [hs]
    have hss : s.size = (tnmL a0).length := by rw [hs]; exact ba_size _
    have HN2 := Lib.hid (fun (W : World) (hW : Vars W) => tnumber_t hW s (by rw [hss]; have := HLEN.out.1; omega) (by rw [hsl]; exact yes_name h0 hu64))
    rw [← hs] at HN
    have hs1 : (s.size : Int) ≤ 24 := by rw [hss]; have := HLEN.out.1; omega
    have hs5 : (5 : Int) ≤ (s.size : Int) := by rw [hss]; have := HLEN.out.2 h0; omega
    have hse : s.toList.isEmpty = false := by rw [str_emp]; exact decide_eq_false (by omega)
    have hse2 : (s.toList == ([] : List UInt8)) = false := by
      cases h : s.toList with
      | nil => rw [h] at hse; cases hse
      | cons _ _ => rfl
    have g1 : decide ((0 : Int) < (a0 : Int)) = true := by simp; omega
    have g2 : decide (0 < a0) = true := by simpa using h0
    have g3 : ((a0 : Int) == 0) = false := by simp; omega
    have g4 : (a0 == 0) = false := by simp; omega
    have g7 : decide ((s.size : Int) < 5) = false := by simp; omega
    have g8 : decide (s.size < 5) = false := by simp; omega
    -- the five texts
    obtain ⟨d, hd⟩ : ∃ d, Lib.decDigits a0 = d := ⟨_, rfl⟩
    rw [hd] at HD HOTH
    have hsd : s = ⟨([116, 97, 98, 46] ++ d).toArray⟩ := by rw [hs, HD.out]
    obtain ⟨t4, ht4⟩ : ∃ t4 : ByteArray, t4 = ⟨d.toArray⟩ := ⟨_, rfl⟩
    have hdl : d.length ≤ 20 := by rw [← hd]; exact (digits_len hu64).1
    have hx4 : ∀ W, (Instr.slice 9 (.string s) (some (.int .i64 4)) none none).run Tryz.prog W = .ok (.string t4) W := fun W => by
      refine (run_slice_string_l W 9 s Tryz.underlying9 .i64 4 (by decide) (by omega)).trans ?_
      rw [show (4 : Int).toNat = 4 from rfl, Lib.Pa.extract_from, hsd, ht4]; rfl
    have k1 : ∀ W : World, (Op.stringOp .add s ⟨#[120]⟩).run Tryz.prog W = .ok (.string ⟨([116, 97, 98, 46] ++ (d ++ [120])).toArray⟩) W := fun W => by
      rw [hsd]; exact run_cat6 (by rw [ba_size]; show _ + 1 ≤ 1000; simp; omega) ((ba_app _ [120]).trans (by rw [List.append_assoc]))
    have k2 : ∀ W : World, (Op.stringOp .add ⟨#[116, 97, 98, 46, 48]⟩ t4).run Tryz.prog W = .ok (.string ⟨([116, 97, 98, 46] ++ 48 :: d).toArray⟩) W := fun W => by
      rw [ht4]; exact run_cat6 (by rw [ba_size d]; show 5 + _ ≤ 1000; omega) (ba_app [116, 97, 98, 46, 48] d)
    have k3 : ∀ W : World, (Op.stringOp .add ⟨#[116, 97, 98, 46, 43]⟩ t4).run Tryz.prog W = .ok (.string ⟨([116, 97, 98, 46] ++ 43 :: d).toArray⟩) W := fun W => by
      rw [ht4]; exact run_cat6 (by rw [ba_size d]; show 5 + _ ≤ 1000; omega) (ba_app [116, 97, 98, 46, 43] d)
    have k4 : ∀ W : World, (Op.stringOp .add ⟨#[108, 111, 103, 46]⟩ t4).run Tryz.prog W = .ok (.string ⟨([108, 111, 103, 46] ++ d).toArray⟩) W := fun W => by
      rw [ht4]; exact run_cat6 (by rw [ba_size d]; show 4 + _ ≤ 1000; omega) (ba_app [108, 111, 103, 46] d)
    have HT := Lib.hid (And.intro hdl ht4)
    clear hs hsl hss hsd ht4 hdl hd hu64
    generalize e1 : (⟨([116, 97, 98, 46] ++ (d ++ [120])).toArray⟩ : ByteArray) = q1 at k1
    generalize e2 : (⟨([116, 97, 98, 46] ++ 48 :: d).toArray⟩ : ByteArray) = q2 at k2
    generalize e3 : (⟨([116, 97, 98, 46] ++ 43 :: d).toArray⟩ : ByteArray) = q3 at k3
    generalize e4 : (⟨([108, 111, 103, 46] ++ d).toArray⟩ : ByteArray) = q4 at k4
    have HQ := Lib.hid (show ∀ x ∈ [q1, q2, q3, q4, t4], TabN x.data.toList 0 false ∧ x.size ≤ 30 by
      have h := HOTH.out
      unfold others at h
      simp only [List.mem_cons, List.not_mem_nil, or_false, forall_eq_or_imp, forall_eq] at h ⊢
      obtain ⟨h1, h2, h3, h4, h5⟩ := h
      rw [← e1, ← e2, ← e3, ← e4, HT.out.2]
      exact ⟨⟨h1.1, by rw [ba_size]; exact h1.2⟩, ⟨h2.1, by rw [ba_size]; exact h2.2⟩, ⟨h3.1, by rw [ba_size]; exact h3.2⟩, ⟨h4.1, by rw [ba_size]; exact h4.2⟩, ⟨h5.1, by rw [ba_size]; exact h5.2⟩⟩)
    clear e1 e2 e3 e4 HOTH HT HD HLEN
    go_wp2_with fail
    refine HN.out.mono ?_
    rintro e w2 ⟨rfl, hb1⟩
    replace hv := hv.now hb1
    replace hg := bon hg hb1
    clear hb1
    go_wp2_with fail
    refine (HN2.out _ hv).mono ?_
    rintro e w2b ⟨rfl, hb2⟩
    replace hv := hv.now hb2
    replace hg := bon hg hb2
    clear hb2 HN HN2
    go_wp2_with fail
    refine (HNUM.out _ hv).mono ?_
    rintro e w3 ⟨m, is, rfl, hm, hb3⟩
    replace hv := hv.now hb3
    replace hg := bon hg hb3
    clear hb3 HNUM
    cases is with
    | false =>
      obtain ⟨rfl, -⟩ := hm.no rfl
      clear hm
      go_wp2_with fail
      obtain ⟨wn, ewn⟩ : ∃ wn : World, wn = w3 := ⟨_, rfl⟩
      rw [← ewn] at hv hg ⊢
      clear ewn
      go_region
      obtain ⟨T, T2⟩ := lay5 wn 9 q1 q2 q3 q4 t4
      obtain ⟨wz, hwz⟩ : ∃ wz, wz = (wn.alloc (.cells #[.string q1, .string q2, .string q3, .string q4, .string t4] 9)).drew := ⟨_, rfl⟩
      rw [← hwz] at T T2 ⊢
      obtain ⟨g, hgg⟩ : ∃ g, g = wn.heap.size := ⟨_, rfl⟩
      replace hv := hv.now T2
      replace hg := bon hg T2
      rw [← hgg] at T ⊢
      clear hwz T2 hgg hx4 k1 k2 k3 k4
      go_wp2_with fail
      go_loopw [96] (fun iv wr => ∃ k : Nat, iv = .int .i64 (k : Int) ∧ k ≤ 5 ∧ Vars wr ∧ Txt wr g [q1, q2, q3, q4, t4] ∧ Below w.heap.size w wr) (fun iv _ => ((5 : Int) - intOf iv).toNat)
      case atStart => exact ⟨0, rfl, by omega, hv, T, hg⟩
      case round =>
        clear hv T hg
        obtain ⟨k, rfl, hk, hv, T, hg⟩ := hrel
        by_cases hlt : k < 5
        · have hdk : decide ((k : Int) < (5 : Int)) = true := by simp; omega
          have hdk2 : decide (k < 5) = true := by simp; omega
          obtain ⟨x, hx⟩ : ∃ x, [q1, q2, q3, q4, t4][k]? = some x := ⟨_, List.getElem?_eq_getElem (by simpa using hlt)⟩
          have cx := T.cell k x hx
          obtain ⟨hxn, hxl⟩ := HQ.out x (List.mem_of_getElem? hx)
          have HC := Lib.hid (fun (W : World) (hW : Vars W) => tnumber_t hW x (by omega) hxn)
          clear hx hxn hxl
          go_wp2_with fail
          refine (HC.out _ hv).mono ?_
          rintro e w5 ⟨rfl, hb5⟩
          replace hv := hv.now hb5
          replace T := T.now hb5
          replace hg := bon hg hb5
          clear hb5 HC cx
          go_wp2_with fail
          go_roundw
          case rel => exact ⟨k + 1, by simp, by omega, hv, T, hg⟩
          case measure => simp [intOf]; omega
        · obtain rfl : k = 5 := by omega
          clear HQ T
          have HR := Lib.hid (sorted_c (HH0.out.now hg) (by omega) 40 (by decide))
          have HG := Lib.hid hg
          clear hg hv
          go_wp2_with fail
          refine HR.out.mono ?_
          rintro e w5 ⟨A3, n3, c3, rfl, hf3, hb3⟩
          obtain ⟨O, hO⟩ : ∃ O, sortE 40 L2 = O := ⟨_, rfl⟩
          have hsb := sort_tbl (mo := 40) (by decide) L2
          have hol := (sortE_ok 40 L2).2.2
          rw [hO] at hf3 hsb hol
          have hl3 := hf3.len
          have r3 := hf3.rd (Nat.le_refl _)
          have G3 := Lib.hid (bon HG.out hb3)
          clear hf3 hb3 HR HG hO
          by_cases hz : O = []
          · have hnb : tblB O = false := by rw [hz]; rfl
            have HB := Lib.hid (tbuild_t r3 (Nat.le_refl _) (by omega) (blt_no hnb).1 (blt_no hnb).2)
            have HLB := Lib.hid (show ([] : List UInt8).length ≤ 130000 by decide)
            clear hsb hol hl3 r3 hnb hz
            obtain ⟨M, hM⟩ : ∃ M, noM = M := ⟨_, rfl⟩
            have E2 : ∀ W, (Op.equalIn 10000 44 (.agg #[.int .u64 (M.num : Int), .int .u64 (M.size : Int), .string M.lo, .string M.hi]) (.agg #[.int .u64 0, .int .u64 0, .string ⟨#[]⟩, .string ⟨#[]⟩])).run Tryz.prog W = .ok true W := fun W => run_same_mt (x := M) (y := noM) hM.symm W
            go_wp2_with fail
            refine HB.out.mono ?_
            rintro e w6 ⟨A6, n6, c6, rfl, hf6, hb6⟩
            have hn6 : n6 ≤ 200000 := by have := hf6.len; rw [bv_length] at this; have := HLB.out; omega
            have HME := Lib.hid (tmeta_t (hf6.rd (Nat.le_refl _)) (Nat.le_refl _) (by omega) _ a0 rfl ((met_none h0).1.trans hM) (met_none h0).2)
            have G6 := Lib.hid (bon G3.out hb6)
            clear hf6 hb6 HB G3 hM hn6 HLB
            go_wp2_with fail
            refine HME.out.mono ?_
            rintro e w7 ⟨rfl, hb7⟩
            have G7 := Lib.hid (blit (bon G6.out hb7) (.cells #[.int .u64 (M.num : Int), .int .u64 (M.size : Int), .string M.lo, .string M.hi] 44))
            unfold mtv
            have bM := MtAt.new w7 M
            go_upto_region 21 with (fail)
            obtain ⟨w8, hw8⟩ : ∃ w8, w7.alloc (.cells #[.int .u64 (M.num : Int), .int .u64 (M.size : Int), .string M.lo, .string M.hi] 44) = w8 := ⟨_, rfl⟩
            obtain ⟨gM, hgM⟩ : ∃ gM, w7.heap.size = gM := ⟨_, rfl⟩
            rw [hw8] at bM G7
            rw [hgM] at bM
            rw [hw8, hgM]
            obtain ⟨m0, m1, m2, m3⟩ := bM.cells
            clear bM hb7 hw8 hgM
            go_wp2_with fail
            refine (awake8_c _).mono ?_
            rintro e w99 ⟨rfl, hb99⟩
            go_wp2_with fail
            go_ret
            exact ⟨rfl, bon G7.out hb99⟩
          have htb : tblB O = true := hsb hz
          have HB := Lib.hid (tbuild_t r3 (Nat.le_refl _) (by omega) (blt_yes htb).1 (blt_yes htb).2)
          have HLB := Lib.hid (show (tabL O).length ≤ 130000 by have := tab_bound htb (m := 70) (by omega); omega)
          have hb1 : 0 < O.length := by cases O with | nil => exact absurd rfl hz | cons _ _ => simp
          clear hsb hz
          obtain ⟨x, hx⟩ : ∃ x, O[0]? = some x := ⟨_, List.getElem?_eq_getElem hb1⟩
          obtain ⟨y, hy⟩ : ∃ y, lastE O = y := ⟨_, rfl⟩
          have hyat : O[O.length - 1]? = some y := by rw [← hy]; exact lastE_of hb1
          obtain ⟨N, rfl⟩ : ∃ N, n3 = N + 1 := ⟨n3 - 1, by omega⟩
          rw [hl3, Nat.add_sub_cancel] at hyat
          have HMY := Lib.hid (met_yes h0 htb)
          rw [hx, hy] at HMY
          have HX := Lib.hid hx
          have HY := Lib.hid hyat
          have HR3 := Lib.hid r3
          clear hx hy hyat htb hb1 r3
          go_wp2_with fail
          refine HB.out.mono ?_
          rintro e w6 ⟨A6, n6, c6, rfl, hf6, hb6⟩
          have hnl : (tabL O).length = n6 := by have := hf6.len; rw [bv_length] at this; exact this
          have hn6 : n6 ≤ 200000 := by have := HLB.out; omega
          rw [hnl] at HMY
          obtain ⟨M, hM⟩ : ∃ M : Mt, (⟨a0, n6, x.s, y.s⟩ : Mt) = M := ⟨_, rfl⟩
          have HME := Lib.hid (tmeta_t (hf6.rd (Nat.le_refl _)) (Nat.le_refl _) (by omega) _ a0 rfl (HMY.out.1.trans hM) HMY.out.2)
          have E2 : ∀ W, (Op.equalIn 10000 44 (.agg #[.int .u64 (M.num : Int), .int .u64 (M.size : Int), .string M.lo, .string M.hi]) (.agg #[.int .u64 (a0 : Int), .int .u64 (n6 : Int), .string x.s, .string y.s])).run Tryz.prog W = .ok true W := fun W => run_same_mt (x := M) (y := ⟨a0, n6, x.s, y.s⟩) hM.symm W
          have G6 := Lib.hid (bon G3.out hb6)
          have HR6 := Lib.hid (HR3.out.now hb6)
          have hn6i : (n6 : Int) ≤ 200000 := by omega
          have hwn : IntKind.u64.wrap (n6 : Int) = (n6 : Int) := by rw [wrapu]; omega
          clear hf6 hb6 HB G3 hM hn6 HLB HR3 HMY hnl
          go_wp2_with fail
          refine HME.out.mono ?_
          rintro e w7 ⟨rfl, hb7⟩
          have G7 := Lib.hid (blit (bon G6.out hb7) (.cells #[.int .u64 (M.num : Int), .int .u64 (M.size : Int), .string M.lo, .string M.hi] 44))
          have hr7 := (HR6.out.now hb7).now (below_alloc w7 (.cells #[.int .u64 (M.num : Int), .int .u64 (M.size : Int), .string M.lo, .string M.hi] 44))
          unfold mtv
          have bM := MtAt.new w7 M
          go_upto_region 21 with (fail)
          obtain ⟨w8, hw8⟩ : ∃ w8, w7.alloc (.cells #[.int .u64 (M.num : Int), .int .u64 (M.size : Int), .string M.lo, .string M.hi] 44) = w8 := ⟨_, rfl⟩
          obtain ⟨gM, hgM⟩ : ∃ gM, w7.heap.size = gM := ⟨_, rfl⟩
          rw [hw8] at bM G7 hr7
          rw [hgM] at bM
          rw [hw8, hgM]
          obtain ⟨m0, m1, m2, m3⟩ := bM.cells
          obtain ⟨b, off, hA, hbB, hcell⟩ := hr7.form (by omega)
          subst hA
          obtain ⟨x0, _⟩ := hcell 0 x HX.out
          rw [Nat.zero_mul, Nat.add_zero] at x0
          obtain ⟨y0, _⟩ := hcell N y HY.out
          have hN0 : (0 : Int) ≤ (N : Int) := by omega
          have hNl : (N : Int) < (N : Int) + 1 := by omega
          have hN1 : (0 : Int) < (N : Int) + 1 := by omega
          have hni3 : (N : Int) + 1 ≤ 8192 := by omega
          have hw1 : IntKind.i64.wrap (N : Int) = (N : Int) := wrapi _ (by omega) (by omega)
          clear bM hb7 hw8 hgM hcell hbB hr7 HX HY hl3 HR6
          go_wp2_with fail
          go_still_tail 25, (by kernel_rfl)
          change wpList _ _ _ _ _ w8.drew
          go_wp2_with fail
          refine (awake8_c _).mono ?_
          rintro e w99 ⟨rfl, hb99⟩
          go_wp2_with fail
          go_ret
          exact ⟨rfl, bon (G7.out.drew) hb99⟩
    | true =>
      obtain ⟨hm0, hm64, hmn⟩ := hm.yes rfl
      have hmi : (m : Int) ≤ 18446744073709551615 := by omega
      have t1 : decide ((0 : Int) < (m : Int)) = true := by simp; omega
      have t2 : decide (0 < m) = true := by simpa using hm0
      have hma : (⟨(tnmL m).toArray⟩ : ByteArray) = a1 := by rw [hmn]
      have HNM := Lib.hid (tname_c hv m hm64)
      rw [hma] at HNM
      have t3 : (a1.toList == a1.toList) = true := by simp
      clear hm hm0 hm64 hmn hma
      go_wp2_with fail
      refine HNM.out.mono ?_
      rintro e w4 ⟨rfl, hb4⟩
      replace hv := hv.now hb4
      replace hg := bon hg hb4
      clear hb4 HNM
      go_wp2_with fail
      obtain ⟨wn, ewn⟩ : ∃ wn : World, wn = w4 := ⟨_, rfl⟩
      rw [← ewn] at hv hg ⊢
      clear ewn
      go_region
      obtain ⟨T, T2⟩ := lay5 wn 9 q1 q2 q3 q4 t4
      obtain ⟨wz, hwz⟩ : ∃ wz, wz = (wn.alloc (.cells #[.string q1, .string q2, .string q3, .string q4, .string t4] 9)).drew := ⟨_, rfl⟩
      rw [← hwz] at T T2 ⊢
      obtain ⟨g, hgg⟩ : ∃ g, g = wn.heap.size := ⟨_, rfl⟩
      replace hv := hv.now T2
      replace hg := bon hg T2
      rw [← hgg] at T ⊢
      clear hwz T2 hgg hx4 k1 k2 k3 k4
      go_wp2_with fail
      go_loopw [96] (fun iv wr => ∃ k : Nat, iv = .int .i64 (k : Int) ∧ k ≤ 5 ∧ Vars wr ∧ Txt wr g [q1, q2, q3, q4, t4] ∧ Below w.heap.size w wr) (fun iv _ => ((5 : Int) - intOf iv).toNat)
      case atStart => exact ⟨0, rfl, by omega, hv, T, hg⟩
      case round =>
        clear hv T hg
        obtain ⟨k, rfl, hk, hv, T, hg⟩ := hrel
        by_cases hlt : k < 5
        · have hdk : decide ((k : Int) < (5 : Int)) = true := by simp; omega
          have hdk2 : decide (k < 5) = true := by simp; omega
          obtain ⟨x, hx⟩ : ∃ x, [q1, q2, q3, q4, t4][k]? = some x := ⟨_, List.getElem?_eq_getElem (by simpa using hlt)⟩
          have cx := T.cell k x hx
          obtain ⟨hxn, hxl⟩ := HQ.out x (List.mem_of_getElem? hx)
          have HC := Lib.hid (fun (W : World) (hW : Vars W) => tnumber_t hW x (by omega) hxn)
          clear hx hxn hxl
          go_wp2_with fail
          refine (HC.out _ hv).mono ?_
          rintro e w5 ⟨rfl, hb5⟩
          replace hv := hv.now hb5
          replace T := T.now hb5
          replace hg := bon hg hb5
          clear hb5 HC cx
          go_wp2_with fail
          go_roundw
          case rel => exact ⟨k + 1, by simp, by omega, hv, T, hg⟩
          case measure => simp [intOf]; omega
        · obtain rfl : k = 5 := by omega
          clear HQ T
          have HR := Lib.hid (sorted_c (HH0.out.now hg) (by omega) 40 (by decide))
          have HG := Lib.hid hg
          clear hg hv
          go_wp2_with fail
          refine HR.out.mono ?_
          rintro e w5 ⟨A3, n3, c3, rfl, hf3, hb3⟩
          obtain ⟨O, hO⟩ : ∃ O, sortE 40 L2 = O := ⟨_, rfl⟩
          have hsb := sort_tbl (mo := 40) (by decide) L2
          have hol := (sortE_ok 40 L2).2.2
          rw [hO] at hf3 hsb hol
          have hl3 := hf3.len
          have r3 := hf3.rd (Nat.le_refl _)
          have G3 := Lib.hid (bon HG.out hb3)
          clear hf3 hb3 HR HG hO
          by_cases hz : O = []
          · have hnb : tblB O = false := by rw [hz]; rfl
            have HB := Lib.hid (tbuild_t r3 (Nat.le_refl _) (by omega) (blt_no hnb).1 (blt_no hnb).2)
            have HLB := Lib.hid (show ([] : List UInt8).length ≤ 130000 by decide)
            clear hsb hol hl3 r3 hnb hz
            obtain ⟨M, hM⟩ : ∃ M, noM = M := ⟨_, rfl⟩
            have E2 : ∀ W, (Op.equalIn 10000 44 (.agg #[.int .u64 (M.num : Int), .int .u64 (M.size : Int), .string M.lo, .string M.hi]) (.agg #[.int .u64 0, .int .u64 0, .string ⟨#[]⟩, .string ⟨#[]⟩])).run Tryz.prog W = .ok true W := fun W => run_same_mt (x := M) (y := noM) hM.symm W
            go_wp2_with fail
            refine HB.out.mono ?_
            rintro e w6 ⟨A6, n6, c6, rfl, hf6, hb6⟩
            have hn6 : n6 ≤ 200000 := by have := hf6.len; rw [bv_length] at this; have := HLB.out; omega
            have HME := Lib.hid (tmeta_t (hf6.rd (Nat.le_refl _)) (Nat.le_refl _) (by omega) _ a0 rfl ((met_none h0).1.trans hM) (met_none h0).2)
            have G6 := Lib.hid (bon G3.out hb6)
            clear hf6 hb6 HB G3 hM hn6 HLB
            go_wp2_with fail
            refine HME.out.mono ?_
            rintro e w7 ⟨rfl, hb7⟩
            have G7 := Lib.hid (blit (bon G6.out hb7) (.cells #[.int .u64 (M.num : Int), .int .u64 (M.size : Int), .string M.lo, .string M.hi] 44))
            unfold mtv
            have bM := MtAt.new w7 M
            go_upto_region 21 with (fail)
            obtain ⟨w8, hw8⟩ : ∃ w8, w7.alloc (.cells #[.int .u64 (M.num : Int), .int .u64 (M.size : Int), .string M.lo, .string M.hi] 44) = w8 := ⟨_, rfl⟩
            obtain ⟨gM, hgM⟩ : ∃ gM, w7.heap.size = gM := ⟨_, rfl⟩
            rw [hw8] at bM G7
            rw [hgM] at bM
            rw [hw8, hgM]
            obtain ⟨m0, m1, m2, m3⟩ := bM.cells
            clear bM hb7 hw8 hgM
            go_wp2_with fail
            refine (awake8_c _).mono ?_
            rintro e w99 ⟨rfl, hb99⟩
            go_wp2_with fail
            go_ret
            exact ⟨rfl, bon G7.out hb99⟩
          have htb : tblB O = true := hsb hz
          have HB := Lib.hid (tbuild_t r3 (Nat.le_refl _) (by omega) (blt_yes htb).1 (blt_yes htb).2)
          have HLB := Lib.hid (show (tabL O).length ≤ 130000 by have := tab_bound htb (m := 70) (by omega); omega)
          have hb1 : 0 < O.length := by cases O with | nil => exact absurd rfl hz | cons _ _ => simp
          clear hsb hz
          obtain ⟨x, hx⟩ : ∃ x, O[0]? = some x := ⟨_, List.getElem?_eq_getElem hb1⟩
          obtain ⟨y, hy⟩ : ∃ y, lastE O = y := ⟨_, rfl⟩
          have hyat : O[O.length - 1]? = some y := by rw [← hy]; exact lastE_of hb1
          obtain ⟨N, rfl⟩ : ∃ N, n3 = N + 1 := ⟨n3 - 1, by omega⟩
          rw [hl3, Nat.add_sub_cancel] at hyat
          have HMY := Lib.hid (met_yes h0 htb)
          rw [hx, hy] at HMY
          have HX := Lib.hid hx
          have HY := Lib.hid hyat
          have HR3 := Lib.hid r3
          clear hx hy hyat htb hb1 r3
          go_wp2_with fail
          refine HB.out.mono ?_
          rintro e w6 ⟨A6, n6, c6, rfl, hf6, hb6⟩
          have hnl : (tabL O).length = n6 := by have := hf6.len; rw [bv_length] at this; exact this
          have hn6 : n6 ≤ 200000 := by have := HLB.out; omega
          rw [hnl] at HMY
          obtain ⟨M, hM⟩ : ∃ M : Mt, (⟨a0, n6, x.s, y.s⟩ : Mt) = M := ⟨_, rfl⟩
          have HME := Lib.hid (tmeta_t (hf6.rd (Nat.le_refl _)) (Nat.le_refl _) (by omega) _ a0 rfl (HMY.out.1.trans hM) HMY.out.2)
          have E2 : ∀ W, (Op.equalIn 10000 44 (.agg #[.int .u64 (M.num : Int), .int .u64 (M.size : Int), .string M.lo, .string M.hi]) (.agg #[.int .u64 (a0 : Int), .int .u64 (n6 : Int), .string x.s, .string y.s])).run Tryz.prog W = .ok true W := fun W => run_same_mt (x := M) (y := ⟨a0, n6, x.s, y.s⟩) hM.symm W
          have G6 := Lib.hid (bon G3.out hb6)
          have HR6 := Lib.hid (HR3.out.now hb6)
          have hn6i : (n6 : Int) ≤ 200000 := by omega
          have hwn : IntKind.u64.wrap (n6 : Int) = (n6 : Int) := by rw [wrapu]; omega
          clear hf6 hb6 HB G3 hM hn6 HLB HR3 HMY hnl
          go_wp2_with fail
          refine HME.out.mono ?_
          rintro e w7 ⟨rfl, hb7⟩
          have G7 := Lib.hid (blit (bon G6.out hb7) (.cells #[.int .u64 (M.num : Int), .int .u64 (M.size : Int), .string M.lo, .string M.hi] 44))
          have hr7 := (HR6.out.now hb7).now (below_alloc w7 (.cells #[.int .u64 (M.num : Int), .int .u64 (M.size : Int), .string M.lo, .string M.hi] 44))
          unfold mtv
          have bM := MtAt.new w7 M
          go_upto_region 21 with (fail)
          obtain ⟨w8, hw8⟩ : ∃ w8, w7.alloc (.cells #[.int .u64 (M.num : Int), .int .u64 (M.size : Int), .string M.lo, .string M.hi] 44) = w8 := ⟨_, rfl⟩
          obtain ⟨gM, hgM⟩ : ∃ gM, w7.heap.size = gM := ⟨_, rfl⟩
          rw [hw8] at bM G7 hr7
          rw [hgM] at bM
          rw [hw8, hgM]
          obtain ⟨m0, m1, m2, m3⟩ := bM.cells
          obtain ⟨b, off, hA, hbB, hcell⟩ := hr7.form (by omega)
          subst hA
          obtain ⟨x0, _⟩ := hcell 0 x HX.out
          rw [Nat.zero_mul, Nat.add_zero] at x0
          obtain ⟨y0, _⟩ := hcell N y HY.out
          have hN0 : (0 : Int) ≤ (N : Int) := by omega
          have hNl : (N : Int) < (N : Int) + 1 := by omega
          have hN1 : (0 : Int) < (N : Int) + 1 := by omega
          have hni3 : (N : Int) + 1 ≤ 8192 := by omega
          have hw1 : IntKind.i64.wrap (N : Int) = (N : Int) := wrapi _ (by omega) (by omega)
          clear bM hb7 hw8 hgM hcell hbB hr7 HX HY hl3 HR6
          go_wp2_with fail
          go_still_tail 25, (by kernel_rfl)
          change wpList _ _ _ _ _ w8.drew
          go_wp2_with fail
          refine (awake8_c _).mono ?_
          rintro e w99 ⟨rfl, hb99⟩
          go_wp2_with fail
          go_ret
          exact ⟨rfl, bon (G7.out.drew) hb99⟩

theorem contract (H : Type) (enc : TypeId × Value → H) (W : World) (base : Nat) (args : Array Value) (ds gs : List (DataW H)) (before : List MemPlace)
    (hval0 : ∀ (j : Nat) t v, Tryz.f4.params[j]? = some t → args[j]? = some v → Value.okWide Tryz.prog W .any base t v)
    (hW : DataW.Whole enc Tryz.prog Tryz.f4.params.toList Rows.tableNamesSpec.vars false W args.toList ds gs before) (hL : laidMetH Tryz.prog Rows.tableNamesRow.laid W) :
    Calls Tryz.prog 4 args W fun e W' => ∃ v, e = .returned v ∧ Rows.tableNamesSpec.post enc Tryz.prog Tryz.f4 false true false false W args v W' := by
  have hval : ∀ (j : Nat) t v, Tryz.f4.params[j]? = some t → args[j]? = some v → Value.okWide Tryz.prog W .any base t v := hval0
  have hW' := hW
  obtain ⟨p, q, hA0, hV, rfl, hfz, hnd⟩ := hW
  have hA : DataW.TrodAll enc Tryz.prog W 0 (fun _ => true) true Tryz.f4.params.toList args.toList ds p := hA0
  rw [Tryz.params4] at hA hval
  obtain ⟨v0, vs0, d0, ds0, p0, q0_, hargs, rfl, rfl, h0, r0_⟩ := trodAll_cons hA
  obtain ⟨v1, vs1, d1, ds1, p1, q1_, rfl, rfl, rfl, h1, r1_⟩ := trodAll_cons r0_
  obtain ⟨v2, vs2, d2, ds2, p2, q2_, rfl, rfl, rfl, h2, r2_⟩ := trodAll_cons r1_
  obtain ⟨rfl, rfl, rfl⟩ := trodAll_nil r2_
  obtain rfl : args = #[v0, v1, v2] := by cases args; simp_all
  obtain ⟨rfl, rfl⟩ := trodVars_none hV
  have kk0 := h0
  have lt0 : ∀ x ∈ p0, x.block < W.heap.size := by obtain ⟨m, hm⟩ := kk0; exact DataW.trod_lt m _ _ _ hm
  have kk1 := h1
  have lt1 : ∀ x ∈ p1, x.block < W.heap.size := by obtain ⟨m, hm⟩ := kk1; exact DataW.trod_lt m _ _ _ hm
  have kk2 := h2
  have lt2 : ∀ x ∈ p2, x.block < W.heap.size := by obtain ⟨m, hm⟩ := kk2; exact DataW.trod_lt m _ _ _ hm
  obtain ⟨a0, e0, _, _, w0⟩ := open_int Tryz.underlying22 (hval 0 _ v0 rfl rfl) h0
  subst e0
  replace w0 := bounds_u64 w0
  obtain ⟨a0, rfl⟩ := Int.eq_ofNat_of_zero_le w0.1
  obtain ⟨a1, e1, _, _, w1⟩ := open_string Tryz.underlying9 (hval 1 _ v1 rfl rfl) h1
  subst e1
  obtain ⟨A2, n2, c2, L2, e2, r2, o2⟩ := open_ents h2 (hval 2 _ v2 rfl rfl)
  subst e2
  clear hA0 hval0
  refine (walk a0 a1 A2 n2 c2 L2 W w0.2 w1 r2 o2 (vars_of hL)).mono fun e W' ⟨he, bel⟩ => ?_
  subst he
  exact ⟨_, rfl, _, _, _, [], _, [], hW', trodAll_mk1 (shut_bool Tryz.underlying4 _), (trodAll_cons_mk (Below.trod laidOut (by kernel_rfl) (of_decide_eq_true (by kernel_rfl)) kk0 bel lt0) (trodAll_cons_mk (Below.trod laidOut (by kernel_rfl) (of_decide_eq_true (by kernel_rfl)) kk1 bel lt1) (trodAll_cons_mk (Below.trod laidOut (by kernel_rfl) (of_decide_eq_true (by kernel_rfl)) kk2 bel lt2) trodAll_mk0))), rfl, bel.frame _, fun h => by cases h⟩

theorem laid_met (os : Os) : laidMet Tryz.prog Rows.tableNamesRow.laid ((laidWorld os).forCall (fun _ _ => 0) ⟨#[], #[.int .u64 0, .string ByteArray.empty, .slice none 0 0], []⟩).memory :=
  laidMet_of_run' 8 (by kernel_rfl) (by kernel_rfl)
theorem reads (os : Os) {H : Type} (enc : TypeId × Value → H) : ∃ places, DataW.whole enc Tryz.prog ((laidWorld os).forCall (fun _ _ => 0) ⟨#[], #[.int .u64 0, .string ByteArray.empty, .slice none 0 0], []⟩).memory Tryz.f4.params.toList Rows.tableNamesSpec.vars false (#[.int .u64 0, .string ByteArray.empty, .slice none 0 0] : Array Value).toList 8 = some ([.lit (.int .u64 0), .lit (.string []), .nil], [], places) :=
  ⟨[], by kernel_rfl⟩
theorem lifted (os : Os) (started : os.Started) (H : Type) (enc : TypeId × Value → H) (F0 : Stop.Interp) :
    ReturnsInHanded {} Tryz.checked os 4 .any ((OpenSpec.ofChange Rows.tableNamesSpec).preRow enc Tryz.prog Tryz.f4 Rows.tableNamesRow.domain false Rows.tableNamesRow.laid) (((OpenSpec.ofChange Rows.tableNamesSpec).at F0).post enc Tryz.prog Tryz.f4 false true false false) := by
  obtain ⟨places, hx⟩ := reads os enc
  refine returnsInHanded_of_row (C := Tryz.checked) (s := OpenSpec.ofChange Rows.tableNamesSpec) own started (by kernel_rfl) Tryz.func4
    (witness_row_at (enc := enc) (C := Tryz.checked) false (laidWorld os) #[.int .u64 0, .string ByteArray.empty, .slice none 0 0] rfl (by kernel_rfl) (by kernel_rfl) (by kernel_rfl)
      (OpenSpec.preRow_of_cond 8 hx (by kernel_rfl) (fun k hk => by cases hk) (by kernel_rfl) (laid_met os))) ?_
  intro W base args ds gs before hval hW _ _ _ hL _ _
  exact contract H enc W base args ds gs before hval hW hL

theorem said : Rows.TableNamesSaid :=
  OpenClaim.holds_of_cond 4 Tryz.f4 rfl rfl rfl rfl rfl rfl rfl ⟨rfl, rfl, rfl, rfl, rfl⟩ rfl rfl rfl rfl rfl (by kernel_rfl) Tryz.func4 (by kernel_rfl)
    (of_decide_eq_true (by kernel_rfl)) (by unfold Func.isWrapper; first | (rw [if_pos (by decide +kernel)]; kernel_rfl) | (rw [if_neg (by decide +kernel)]; exact ⟨rfl, rfl⟩))
    (fun os started H enc _ F0 => by rw [OpenClaim.pre_eq_preRow]; exact lifted os started H enc F0)

theorem plain (f : FuncId) (fn : Func) (hf : Tryz.pinned.checked.prog.funcNamed Tryz.f4.name = some f) (hfn : Tryz.pinned.checked.prog.funcs[f]? = some fn) :
    true = Tryz.pinned.checked.prog.looks [] ∧ ∀ (j : Nat) t, fn.params[j]? = some t → Tryz.pinned.checked.prog.wantsStandIn t = false := by
  obtain rfl : f = 4 := Option.some.inj ((show Tryz.prog.funcNamed Tryz.f4.name = some 4 by kernel_rfl).symm.trans hf) |>.symm
  obtain rfl : fn = Tryz.f4 := (Option.some.inj (Tryz.func4.symm.trans hfn)).symm
  refine ⟨by kernel_rfl, fun j t ht => ?_⟩
  rw [Tryz.params4] at ht
  have hm := Array.mem_of_getElem? ht
  simp only [List.mem_toArray, List.mem_cons, List.not_mem_nil, or_false] at hm
  rcases hm with rfl | rfl | rfl
  · exact (show Tryz.prog.wantsStandIn 22 = false by kernel_rfl)
  · exact (show Tryz.prog.wantsStandIn 9 = false by kernel_rfl)
  · exact (show Tryz.prog.wantsStandIn 23 = false by kernel_rfl)

/-- The statement: the card. -/
theorem proved : Rows.TableNamesCardSaid :=
  Claim7.holds_tied_plain_at .later [] _ _ _ _ said (fun _ h => by cases h) (by kernel_rfl) (fun _ h => by cases h) tableNames_row_tie rfl ⟨rfl, rfl⟩ (by kernel_rfl) rfl plain (by kernel_rfl)
#print axioms proved
end Go.Proofs.YtkdjjdkcogolmaaGreatDoor.tableNames
