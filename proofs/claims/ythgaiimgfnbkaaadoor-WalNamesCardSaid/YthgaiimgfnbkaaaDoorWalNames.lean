/-
  WalNames: each number above 0 has one name, by which it is known again; 0 has none; and no other text is a log name: for every number, every text. The package variables of the library that are read hold what their own initialisers lay.
-/
import Derived.Test.YthgaiimgfnbkaaaDoorWO
import Derived.Test.YthgaiimgfnbkaaaDoorCards
import Derived.Test.YthgaiimgfnbkaaaDoorTie
import Derived.WalkKit
import Derived.ProofKit
import Derived.OpenShut
import Derived.ShutString
import Derived.ChangeOld
import Derived.Below
import Derived.Deep.DeepHandedRow
import Derived.BigRegion
import Derived.Lib.PathFns
namespace Go.Proofs.YthgaiimgfnbkaaaDoor.walNames
set_option maxRecDepth 100000
open Go.ChangeShapes Go.WideShapes Go.ChangeAt Go.RowKit
open Go.ChangeMaps (open_string shut_string)
set_option linter.unusedVariables false
set_option maxRecDepth 100000

theorem own : ownKnob Tryd.prog.godebug = none := by kernel_rfl
theorem laidOut : laidOutB Tryd.prog = true := by kernel_rfl

theorem digits_all : ∀ (v : Nat), ∀ c ∈ Lib.decDigits v, 48 ≤ c.toNat ∧ c.toNat ≤ 57 := by
  intro v
  induction v using Nat.strongRecOn with
  | _ v ih =>
    intro c hc
    by_cases h : v < 10
    · rw [Lib.decDigits, dif_pos h] at hc
      simp only [List.mem_singleton] at hc
      subst hc
      have := digit_toNat h
      omega
    · rw [Lib.decDigits, dif_neg h] at hc
      rcases List.mem_append.1 hc with h1 | h1
      · exact ih (v / 10) (by omega) c h1
      · simp only [List.mem_singleton] at h1
        subst h1
        have := digit_toNat (k := v % 10) (by omega)
        omega
theorem no_of {s : List UInt8} (h : ∀ v, 0 < v → v < 18446744073709551616 → nameL v ≠ s) : LogN s 0 false := ⟨fun h => (by cases h), fun _ => ⟨rfl, h⟩⟩
theorem named_d {s : List UInt8} {v : Nat} (h0 : 0 < v) (h : nameL v = s) : s = [108, 111, 103, 46] ++ Lib.decDigits v := by
  unfold nameL at h
  rw [if_neg (by omega)] at h
  exact h.symm
theorem no_bad {d : List UInt8} {c : UInt8} (hc : c ∈ d) (hbad : c.toNat < 48 ∨ 57 < c.toNat) : LogN ([108, 111, 103, 46] ++ d) 0 false :=
  no_of fun v h0 hv h => by
    have h1 := named_d h0 h
    have h2 := List.append_cancel_left h1
    have h3 := digits_all v c (by rw [← h2]; exact hc)
    omega
theorem no_zero {u : Nat} (hu : u < 18446744073709551616) : LogN ([108, 111, 103, 46] ++ 48 :: Lib.decDigits u) 0 false :=
  no_of fun v h0 hv h => by
    have h1 := List.append_cancel_left (named_d h0 h)
    have h2 := parse_digits v hv
    rw [← h1] at h2
    have h3 : Lib.parseUintM (2 ^ 64 - 1) 0 (48 :: Lib.decDigits u) = Lib.parseUintM (2 ^ 64 - 1) 0 (Lib.decDigits u) := by
      simp [Lib.parseUintM]
    rw [h3, parse_digits u hu] at h2
    simp only [Lib.NumEnd.ok.injEq] at h2
    subst h2
    have := congrArg List.length h1
    simp at this
theorem no_head {s : List UInt8} {c : UInt8} {t : List UInt8} (hs : s = c :: t) (hc : c ≠ 108) : LogN s 0 false :=
  no_of fun v h0 hv h => by
    have h1 := named_d h0 h
    rw [hs] at h1
    exact hc (by simpa using (List.cons.inj h1).1)
theorem yes_name {u : Nat} (h0 : 0 < u) (hu : u < 18446744073709551616) : LogN (nameL u) u true := ⟨fun _ => ⟨h0, hu, rfl⟩, fun h => (by cases h)⟩
theorem no_name : LogN (nameL 0) 0 false := no_of fun v h0 hv h => by have := named_d h0 h; simp [nameL] at this
/-- The seven other texts. -/
def others (d : List UInt8) : List (List UInt8) := [[108, 111, 103, 46] ++ (d ++ [120]), [108, 111, 103, 46] ++ 48 :: d, [108, 111, 103, 46] ++ 43 :: d, [116, 97, 98, 46] ++ d, d, 32 :: ([108, 111, 103, 46] ++ d), [108, 111, 103, 46] ++ (d ++ [32])]
theorem others_no {u : Nat} (hu : u < 18446744073709551616) : ∀ s ∈ others (Lib.decDigits u), LogN s 0 false ∧ s.length ≤ 30 := by
  have hl := digits_len hu
  intro s hs
  unfold others at hs
  simp only [List.mem_cons, List.not_mem_nil, or_false] at hs
  rcases hs with rfl | rfl | rfl | rfl | rfl | rfl | rfl
  · exact ⟨no_bad (c := 120) (by simp) (.inr (by decide)), by simp; omega⟩
  · exact ⟨no_zero hu, by simp; omega⟩
  · exact ⟨no_bad (c := 43) (by simp) (.inl (by decide)), by simp; omega⟩
  · exact ⟨no_head rfl (by decide), by simp; omega⟩
  · refine ⟨?_, by omega⟩
    cases hd : Lib.decDigits u with
    | nil => rw [hd] at hl; simp at hl
    | cons c t =>
      refine no_head rfl fun h => ?_
      have := digits_all u c (by rw [hd]; simp)
      rw [h] at this
      revert this; decide
  · exact ⟨no_head rfl (by decide), by simp; omega⟩
  · exact ⟨no_bad (c := 32) (by simp) (.inl (by decide)), by simp; omega⟩
/-- Texts in a block of their own. -/
structure Txt (W : World) (g : Nat) (L : List ByteArray) : Prop where
  lt : g < W.heap.size
  cell : ∀ i x, L[i]? = some x → W.cell? ⟨g, i, none⟩ = some (.string x)
theorem Txt.now {w w' : World} {g : Nat} {L : List ByteArray} (h : Txt w g L) (hb : Below w.heap.size w w') : Txt w' g L :=
  ⟨Nat.lt_of_lt_of_le h.lt hb.size, fun i x hx => (hb.cell (p := ⟨g, i, none⟩) h.lt).trans (h.cell i x hx)⟩
theorem lay7 (w : World) (t : TypeId) (a b c d e f g : ByteArray) : Txt (w.alloc (.cells #[.string a, .string b, .string c, .string d, .string e, .string f, .string g] t)).drew w.heap.size [a, b, c, d, e, f, g] ∧ Below w.heap.size w (w.alloc (.cells #[.string a, .string b, .string c, .string d, .string e, .string f, .string g] t)).drew := by
  refine ⟨⟨by show _ < (w.alloc _).heap.size; simp, fun i x hx => ?_⟩, (below_alloc _ _).drew⟩
  show (w.alloc _).cell? _ = _
  rw [World.cell?_alloc_mark]
  show (([a, b, c, d, e, f, g].map Value.string).toArray)[i]? = _
  rw [List.getElem?_toArray, List.getElem?_map, hx]; rfl
theorem others_len (d : List UInt8) : (others d).length = 7 := rfl

set_option maxHeartbeats 8000000 in
theorem walk (a0 : Nat) (a1 : ByteArray) (w : World) (w0 : (a0 : Int) ≤ 18446744073709551615) (w1 : a1.size ≤ maxLen) (hv : Vars w) :
    Calls Tryd.prog 5 #[.int .u64 (a0 : Int), .string a1] w fun e w' => e = .returned (.bool true) ∧ Below w.heap.size w w' := by
  have hsz : a1.size ≤ 60 → a1.size ≤ 281474976710656 := fun h => by omega
  have hu64 : a0 < 18446744073709551616 := by omega
  by_cases hlen : 60 < a1.size
  · have d1 : decide ((60 : Int) < (a1.size : Int)) = true := by simp; omega
    have d2 : decide (60 < a1.size) = true := by simpa using hlen
    have HA := Lib.hid (awake6_c hv)
    clear hlen hsz hv hu64
    go_enter Tryd.func5, Tryd.ntmps5
    go_wp2_with fail
    refine HA.out.mono ?_
    rintro e w99 ⟨rfl, hb99⟩
    go_wp2_with fail
    go_ret
    exact ⟨rfl, hb99⟩
  have d1 : decide ((60 : Int) < (a1.size : Int)) = false := by simp; omega
  have d2 : decide (60 < a1.size) = false := by simpa using hlen
  have hsz := hsz (by omega)
  have hni : (a1.size : Int) ≤ 60 := by omega
  clear hlen
  have HN := Lib.hid (name_c hv a0 hu64)
  -- what is told of the given text, and the rest, from whatever world
  have HNUM := Lib.hid (fun (W : World) (hW : Vars W) => number_c hW a1 hsz)
  rcases Nat.eq_zero_or_pos a0 with h0 | h0
  · subst h0
    have HN2 := Lib.hid (fun (W : World) (hW : Vars W) => number_t hW ⟨(nameL 0).toArray⟩ (by decide) (show LogN (nameL 0) 0 false from no_name))
    have e0 : (⟨(nameL 0).toArray⟩ : ByteArray) = ⟨#[]⟩ := rfl
    rw [e0] at HN HN2
    clear e0
    go_enter Tryd.func5, Tryd.ntmps5
    go_wp2_with fail
    refine HN.out.mono ?_
    rintro e w1 ⟨rfl, hb1⟩
    replace hv := hv.now hb1
    go_wp2_with fail
    refine (HN2.out _ hv).mono ?_
    rintro e w2 ⟨rfl, hb2⟩
    replace hv := hv.now hb2
    have hg := bon hb1 hb2
    clear hb1 hb2 HN HN2
    go_wp2_with fail
    refine (HNUM.out _ hv).mono ?_
    rintro e w3 ⟨m, is, rfl, hm, hb3⟩
    replace hv := hv.now hb3
    replace hg := bon hg hb3
    clear hb3 HNUM
    cases is with
    | false =>
      obtain ⟨rfl, -⟩ := hm.no rfl
      clear hm
      go_wp2_with fail
      refine (awake6_c hv).mono ?_
      rintro e w99 ⟨rfl, hb99⟩
      go_wp2_with fail
      go_ret
      exact ⟨rfl, bon hg hb99⟩
    | true =>
      obtain ⟨hm0, hm64, hmn⟩ := hm.yes rfl
      have hmi : (m : Int) ≤ 18446744073709551615 := by omega
      have t1 : decide ((0 : Int) < (m : Int)) = true := by simp; omega
      have t2 : decide (0 < m) = true := by simpa using hm0
      have hma : (⟨(nameL m).toArray⟩ : ByteArray) = a1 := by rw [hmn]
      have HNM := Lib.hid (name_c hv m hm64)
      rw [hma] at HNM
      have t3 : (a1.toList == a1.toList) = true := by simp
      clear hm hm0 hm64 hmn hma
      go_wp2_with fail
      refine HNM.out.mono ?_
      rintro e w4 ⟨rfl, hb4⟩
      replace hv := hv.now hb4
      replace hg := bon hg hb4
      clear hb4 HNM
      go_wp2_with fail
      refine (awake6_c hv).mono ?_
      rintro e w99 ⟨rfl, hb99⟩
      go_wp2_with fail
      go_ret
      exact ⟨rfl, bon hg hb99⟩
  · have HLEN := Lib.hid (nameL_len hu64)
    have HD := Lib.hid (show nameL a0 = [108, 111, 103, 46] ++ Lib.decDigits a0 by unfold nameL; rw [if_neg (by omega)])
    have HOTH := Lib.hid (others_no hu64)
    obtain ⟨s, hs⟩ : ∃ s : ByteArray, s = ⟨(nameL a0).toArray⟩ := ⟨_, rfl⟩
    have hsl : s.data.toList = nameL a0 := by rw [hs]
    have hss : s.size = (nameL a0).length := by rw [hs]; exact ba_size _
    have HN2 := Lib.hid (fun (W : World) (hW : Vars W) => number_t hW s (by rw [hss]; have := HLEN.out.1; omega) (by rw [hsl]; exact yes_name h0 hu64))
    rw [← hs] at HN
    have hs1 : (s.size : Int) ≤ 24 := by rw [hss]; have := HLEN.out.1; omega
    have hs5 : (5 : Int) ≤ (s.size : Int) := by rw [hss]; have := HLEN.out.2 h0; omega
    have hse : s.toList.isEmpty = false := by rw [str_emp]; exact decide_eq_false (by omega)
    have hse2 : (s.toList == ([] : List UInt8)) = false := by
      cases h : s.toList with
      | nil => rw [h] at hse; cases hse
      | cons _ _ => rfl
    have g1 : decide ((0 : Int) < (a0 : Int)) = true := by simp; omega
    have g2 : decide (0 < a0) = true := by simpa using h0
    have g3 : ((a0 : Int) == 0) = false := by simp; omega
    have g4 : (a0 == 0) = false := by simp; omega
    have g5 : decide ((24 : Int) < (s.size : Int)) = false := by simp; omega
    have g6 : decide (24 < s.size) = false := by simp; omega
    have g7 : decide ((s.size : Int) < 5) = false := by simp; omega
    have g8 : decide (s.size < 5) = false := by simp; omega
    have HS := Lib.hid hsl
    -- the seven texts
    obtain ⟨d, hd⟩ : ∃ d, Lib.decDigits a0 = d := ⟨_, rfl⟩
    rw [hd] at HD HOTH
    have hsd : s = ⟨([108, 111, 103, 46] ++ d).toArray⟩ := by rw [hs, HD.out]
    obtain ⟨t4, ht4⟩ : ∃ t4 : ByteArray, t4 = ⟨d.toArray⟩ := ⟨_, rfl⟩
    have hdl : d.length ≤ 20 := by rw [← hd]; exact (digits_len hu64).1
    have hx4 : ∀ W, (Instr.slice 9 (.string s) (some (.int .i64 4)) none none).run Tryd.prog W = .ok (.string t4) W := fun W => by
      refine (run_slice_string_l W 9 s Tryd.underlying9 .i64 4 (by decide) (by omega)).trans ?_
      rw [show (4 : Int).toNat = 4 from rfl, Lib.Pa.extract_from, hsd, ht4]; rfl
    have k1 : ∀ W : World, (Op.stringOp .add s ⟨#[120]⟩).run Tryd.prog W = .ok (.string ⟨([108, 111, 103, 46] ++ (d ++ [120])).toArray⟩) W := fun W => by
      rw [hsd]; exact run_cat6 (by rw [ba_size]; show _ + 1 ≤ 1000; simp; omega) ((ba_app _ [120]).trans (by rw [List.append_assoc]))
    have k2 : ∀ W : World, (Op.stringOp .add ⟨#[108, 111, 103, 46, 48]⟩ t4).run Tryd.prog W = .ok (.string ⟨([108, 111, 103, 46] ++ 48 :: d).toArray⟩) W := fun W => by
      rw [ht4]; exact run_cat6 (by rw [ba_size d]; show 5 + _ ≤ 1000; omega) (ba_app [108, 111, 103, 46, 48] d)
    have k3 : ∀ W : World, (Op.stringOp .add ⟨#[108, 111, 103, 46, 43]⟩ t4).run Tryd.prog W = .ok (.string ⟨([108, 111, 103, 46] ++ 43 :: d).toArray⟩) W := fun W => by
      rw [ht4]; exact run_cat6 (by rw [ba_size d]; show 5 + _ ≤ 1000; omega) (ba_app [108, 111, 103, 46, 43] d)
    have k4 : ∀ W : World, (Op.stringOp .add ⟨#[116, 97, 98, 46]⟩ t4).run Tryd.prog W = .ok (.string ⟨([116, 97, 98, 46] ++ d).toArray⟩) W := fun W => by
      rw [ht4]; exact run_cat6 (by rw [ba_size d]; show 4 + _ ≤ 1000; omega) (ba_app [116, 97, 98, 46] d)
    have k6 : ∀ W : World, (Op.stringOp .add ⟨#[32]⟩ s).run Tryd.prog W = .ok (.string ⟨(32 :: ([108, 111, 103, 46] ++ d)).toArray⟩) W := fun W => by
      rw [hsd]; exact run_cat6 (by rw [ba_size ([108, 111, 103, 46] ++ d)]; show 1 + _ ≤ 1000; simp; omega) (ba_app [32] _)
    have k7 : ∀ W : World, (Op.stringOp .add s ⟨#[32]⟩).run Tryd.prog W = .ok (.string ⟨([108, 111, 103, 46] ++ (d ++ [32])).toArray⟩) W := fun W => by
      rw [hsd]; exact run_cat6 (by rw [ba_size]; show _ + 1 ≤ 1000; simp; omega) ((ba_app _ [32]).trans (by rw [List.append_assoc]))
    have HT := Lib.hid (And.intro hdl ht4)
    clear hs hsl hss hsd ht4 hdl hd h0
    generalize e1 : (⟨([108, 111, 103, 46] ++ (d ++ [120])).toArray⟩ : ByteArray) = q1 at k1
    generalize e2 : (⟨([108, 111, 103, 46] ++ 48 :: d).toArray⟩ : ByteArray) = q2 at k2
    generalize e3 : (⟨([108, 111, 103, 46] ++ 43 :: d).toArray⟩ : ByteArray) = q3 at k3
    generalize e4 : (⟨([116, 97, 98, 46] ++ d).toArray⟩ : ByteArray) = q4 at k4
    generalize e6 : (⟨(32 :: ([108, 111, 103, 46] ++ d)).toArray⟩ : ByteArray) = q6 at k6
    generalize e7 : (⟨([108, 111, 103, 46] ++ (d ++ [32])).toArray⟩ : ByteArray) = q7 at k7
    have HQ := Lib.hid (show ∀ x ∈ [q1, q2, q3, q4, t4, q6, q7], LogN x.data.toList 0 false ∧ x.size ≤ 30 by
      have h := HOTH.out
      unfold others at h
      simp only [List.mem_cons, List.not_mem_nil, or_false, forall_eq_or_imp, forall_eq] at h ⊢
      obtain ⟨h1, h2, h3, h4, h5, h6, h7⟩ := h
      rw [← e1, ← e2, ← e3, ← e4, ← e6, ← e7, HT.out.2]
      exact ⟨⟨h1.1, by rw [ba_size]; exact h1.2⟩, ⟨h2.1, by rw [ba_size]; exact h2.2⟩, ⟨h3.1, by rw [ba_size]; exact h3.2⟩, ⟨h4.1, by rw [ba_size]; exact h4.2⟩, ⟨h5.1, by rw [ba_size]; exact h5.2⟩, ⟨h6.1, by rw [ba_size]; exact h6.2⟩, ⟨h7.1, by rw [ba_size]; exact h7.2⟩⟩)
    clear e1 e2 e3 e4 e6 e7 HOTH HT
    go_enter Tryd.func5, Tryd.ntmps5
    go_wp2_with fail
    refine HN.out.mono ?_
    rintro e w1 ⟨rfl, hb1⟩
    replace hv := hv.now hb1
    go_wp2_with fail
    refine (HN2.out _ hv).mono ?_
    rintro e w2 ⟨rfl, hb2⟩
    replace hv := hv.now hb2
    have hg := bon hb1 hb2
    clear hb1 hb2 HN HN2
    go_wp2_with fail
    refine (HNUM.out _ hv).mono ?_
    rintro e w3 ⟨m, is, rfl, hm, hb3⟩
    replace hv := hv.now hb3
    replace hg := bon hg hb3
    clear hb3 HNUM
    cases is with
    | false =>
      obtain ⟨rfl, -⟩ := hm.no rfl
      clear hm
      go_wp2_with fail
      obtain ⟨wn, ewn⟩ : ∃ wn : World, wn = w3 := ⟨_, rfl⟩
      rw [← ewn] at hv hg ⊢
      clear ewn
      go_region
      obtain ⟨T, T2⟩ := lay7 wn 9 q1 q2 q3 q4 t4 q6 q7
      obtain ⟨wz, hwz⟩ : ∃ wz, wz = (wn.alloc (.cells #[.string q1, .string q2, .string q3, .string q4, .string t4, .string q6, .string q7] 9)).drew := ⟨_, rfl⟩
      rw [← hwz] at T T2 ⊢
      obtain ⟨g, hgg⟩ : ∃ g, g = wn.heap.size := ⟨_, rfl⟩
      replace hv := hv.now T2
      replace hg := bon hg T2
      rw [← hgg] at T ⊢
      clear hwz T2 hgg hx4 k1 k2 k3 k4 k6 k7
      go_wp2_with fail
      go_loopw [89] (fun iv wr => ∃ k : Nat, iv = .int .i64 (k : Int) ∧ k ≤ 7 ∧ Vars wr ∧ Txt wr g [q1, q2, q3, q4, t4, q6, q7] ∧ Below w.heap.size w wr) (fun iv _ => ((7 : Int) - intOf iv).toNat)
      case atStart => exact ⟨0, rfl, by omega, hv, T, hg⟩
      case round =>
        clear hv T hg
        obtain ⟨k, rfl, hk, hv, T, hg⟩ := hrel
        by_cases hlt : k < 7
        · have hdk : decide ((k : Int) < (7 : Int)) = true := by simp; omega
          have hdk2 : decide (k < 7) = true := by simp; omega
          obtain ⟨x, hx⟩ : ∃ x, [q1, q2, q3, q4, t4, q6, q7][k]? = some x := ⟨_, List.getElem?_eq_getElem (by simpa using hlt)⟩
          have cx := T.cell k x hx
          obtain ⟨hxn, hxl⟩ := HQ.out x (List.mem_of_getElem? hx)
          have HC := Lib.hid (fun (W : World) (hW : Vars W) => number_t hW x (by omega) hxn)
          clear hx hxn hxl
          go_wp2_with fail
          refine (HC.out _ hv).mono ?_
          rintro e w5 ⟨rfl, hb5⟩
          replace hv := hv.now hb5
          replace T := T.now hb5
          replace hg := bon hg hb5
          clear hb5 HC cx
          go_wp2_with fail
          go_roundw
          case rel => exact ⟨k + 1, by simp, by omega, hv, T, hg⟩
          case measure => simp [intOf]; omega
        · obtain rfl : k = 7 := by omega
          go_wp2_with fail
          refine (awake6_c hv).mono ?_
          rintro e w99 ⟨rfl, hb99⟩
          go_wp2_with fail
          go_ret
          exact ⟨rfl, bon hg hb99⟩
    | true =>
      obtain ⟨hm0, hm64, hmn⟩ := hm.yes rfl
      have hmi : (m : Int) ≤ 18446744073709551615 := by omega
      have t1 : decide ((0 : Int) < (m : Int)) = true := by simp; omega
      have t2 : decide (0 < m) = true := by simpa using hm0
      have hma : (⟨(nameL m).toArray⟩ : ByteArray) = a1 := by rw [hmn]
      have HNM := Lib.hid (name_c hv m hm64)
      rw [hma] at HNM
      have t3 : (a1.toList == a1.toList) = true := by simp
      clear hm hm0 hm64 hmn hma
      go_wp2_with fail
      refine HNM.out.mono ?_
      rintro e w4 ⟨rfl, hb4⟩
      replace hv := hv.now hb4
      replace hg := bon hg hb4
      clear hb4 HNM
      go_wp2_with fail
      obtain ⟨wn, ewn⟩ : ∃ wn : World, wn = w4 := ⟨_, rfl⟩
      rw [← ewn] at hv hg ⊢
      clear ewn
      go_region
      obtain ⟨T, T2⟩ := lay7 wn 9 q1 q2 q3 q4 t4 q6 q7
      obtain ⟨wz, hwz⟩ : ∃ wz, wz = (wn.alloc (.cells #[.string q1, .string q2, .string q3, .string q4, .string t4, .string q6, .string q7] 9)).drew := ⟨_, rfl⟩
      rw [← hwz] at T T2 ⊢
      obtain ⟨g, hgg⟩ : ∃ g, g = wn.heap.size := ⟨_, rfl⟩
      replace hv := hv.now T2
      replace hg := bon hg T2
      rw [← hgg] at T ⊢
      clear hwz T2 hgg hx4 k1 k2 k3 k4 k6 k7
      go_wp2_with fail
      go_loopw [89] (fun iv wr => ∃ k : Nat, iv = .int .i64 (k : Int) ∧ k ≤ 7 ∧ Vars wr ∧ Txt wr g [q1, q2, q3, q4, t4, q6, q7] ∧ Below w.heap.size w wr) (fun iv _ => ((7 : Int) - intOf iv).toNat)
      case atStart => exact ⟨0, rfl, by omega, hv, T, hg⟩
      case round =>
        clear hv T hg
        obtain ⟨k, rfl, hk, hv, T, hg⟩ := hrel
        by_cases hlt : k < 7
        · have hdk : decide ((k : Int) < (7 : Int)) = true := by simp; omega
          have hdk2 : decide (k < 7) = true := by simp; omega
          obtain ⟨x, hx⟩ : ∃ x, [q1, q2, q3, q4, t4, q6, q7][k]? = some x := ⟨_, List.getElem?_eq_getElem (by simpa using hlt)⟩
          have cx := T.cell k x hx
          obtain ⟨hxn, hxl⟩ := HQ.out x (List.mem_of_getElem? hx)
          have HC := Lib.hid (fun (W : World) (hW : Vars W) => number_t hW x (by omega) hxn)
          clear hx hxn hxl
          go_wp2_with fail
          refine (HC.out _ hv).mono ?_
          rintro e w5 ⟨rfl, hb5⟩
          replace hv := hv.now hb5
          replace T := T.now hb5
          replace hg := bon hg hb5
          clear hb5 HC cx
          go_wp2_with fail
          go_roundw
          case rel => exact ⟨k + 1, by simp, by omega, hv, T, hg⟩
          case measure => simp [intOf]; omega
        · obtain rfl : k = 7 := by omega
          go_wp2_with fail
          refine (awake6_c hv).mono ?_
          rintro e w99 ⟨rfl, hb99⟩
          go_wp2_with fail
          go_ret
          exact ⟨rfl, bon hg hb99⟩

theorem contract (H : Type) (enc : TypeId × Value → H) (W : World) (base : Nat) (args : Array Value) (ds gs : List (DataW H)) (before : List MemPlace)
    (hval0 : ∀ (j : Nat) t v, Tryd.f5.params[j]? = some t → args[j]? = some v → Value.okWide Tryd.prog W .any base t v)
    (hW : DataW.Whole enc Tryd.prog Tryd.f5.params.toList Rows.walNamesSpec.vars false W args.toList ds gs before) (hL : laidMetH Tryd.prog Rows.walNamesRow.laid W) :
    Calls Tryd.prog 5 args W fun e W' => ∃ v, e = .returned v ∧ Rows.walNamesSpec.post enc Tryd.prog Tryd.f5 false true false false W args v W' := by
  have hval : ∀ (j : Nat) t v, Tryd.f5.params[j]? = some t → args[j]? = some v → Value.okWide Tryd.prog W .any base t v := hval0
  have hW' := hW
  obtain ⟨p, q, hA0, hV, rfl, hfz, hnd⟩ := hW
  have hA : DataW.TrodAll enc Tryd.prog W 0 (fun _ => true) true Tryd.f5.params.toList args.toList ds p := hA0
  rw [Tryd.params5] at hA hval
  obtain ⟨v0, vs0, d0, ds0, p0, q0_, hargs, rfl, rfl, h0, r0_⟩ := trodAll_cons hA
  obtain ⟨v1, vs1, d1, ds1, p1, q1_, rfl, rfl, rfl, h1, r1_⟩ := trodAll_cons r0_
  obtain ⟨rfl, rfl, rfl⟩ := trodAll_nil r1_
  obtain rfl : args = #[v0, v1] := by cases args; simp_all
  obtain ⟨rfl, rfl⟩ := trodVars_none hV
  have kk0 := h0
  have lt0 : ∀ x ∈ p0, x.block < W.heap.size := by obtain ⟨m, hm⟩ := kk0; exact DataW.trod_lt m _ _ _ hm
  have kk1 := h1
  have lt1 : ∀ x ∈ p1, x.block < W.heap.size := by obtain ⟨m, hm⟩ := kk1; exact DataW.trod_lt m _ _ _ hm
  obtain ⟨a0, e0, _, _, w0⟩ := open_int Tryd.underlying22 (hval 0 _ v0 rfl rfl) h0
  subst e0
  replace w0 := bounds_u64 w0
  obtain ⟨a0, rfl⟩ := Int.eq_ofNat_of_zero_le w0.1
  obtain ⟨a1, e1, _, _, w1⟩ := open_string Tryd.underlying9 (hval 1 _ v1 rfl rfl) h1
  subst e1
  clear hA0 hval0
  refine (walk a0 a1 W w0.2 w1 (vars_of hL)).mono fun e W' ⟨he, bel⟩ => ?_
  subst he
  exact ⟨_, rfl, _, _, _, [], _, [], hW', trodAll_mk1 (shut_bool Tryd.underlying4 _), (trodAll_cons_mk (Below.trod laidOut (by kernel_rfl) (of_decide_eq_true (by kernel_rfl)) kk0 bel lt0) (trodAll_cons_mk (Below.trod laidOut (by kernel_rfl) (of_decide_eq_true (by kernel_rfl)) kk1 bel lt1) trodAll_mk0)), rfl, bel.frame _, fun h => by cases h⟩

theorem laid_met (os : Os) : laidMet Tryd.prog Rows.walNamesRow.laid ((laidWorld os).forCall (fun _ _ => 0) ⟨#[], #[.int .u64 0, .string ByteArray.empty], []⟩).memory :=
  laidMet_of_run' 8 (by kernel_rfl) (by kernel_rfl)
theorem reads (os : Os) {H : Type} (enc : TypeId × Value → H) : ∃ places, DataW.whole enc Tryd.prog ((laidWorld os).forCall (fun _ _ => 0) ⟨#[], #[.int .u64 0, .string ByteArray.empty], []⟩).memory Tryd.f5.params.toList Rows.walNamesSpec.vars false (#[.int .u64 0, .string ByteArray.empty] : Array Value).toList 8 = some ([.lit (.int .u64 0), .lit (.string [])], [], places) :=
  ⟨[], by kernel_rfl⟩
theorem lifted (os : Os) (started : os.Started) (H : Type) (enc : TypeId × Value → H) (F0 : Stop.Interp) :
    ReturnsInHanded {} Tryd.checked os 5 .any ((OpenSpec.ofChange Rows.walNamesSpec).preRow enc Tryd.prog Tryd.f5 Rows.walNamesRow.domain false Rows.walNamesRow.laid) (((OpenSpec.ofChange Rows.walNamesSpec).at F0).post enc Tryd.prog Tryd.f5 false true false false) := by
  obtain ⟨places, hx⟩ := reads os enc
  refine returnsInHanded_of_row (C := Tryd.checked) (s := OpenSpec.ofChange Rows.walNamesSpec) own started (by kernel_rfl) Tryd.func5
    (witness_row_at (enc := enc) (C := Tryd.checked) false (laidWorld os) #[.int .u64 0, .string ByteArray.empty] rfl (by kernel_rfl) (by kernel_rfl) (by kernel_rfl)
      (OpenSpec.preRow_of_cond 8 hx (by kernel_rfl) (fun k hk => by cases hk) (by kernel_rfl) (laid_met os))) ?_
  intro W base args ds gs before hval hW _ _ _ hL _ _
  exact contract H enc W base args ds gs before hval hW hL

theorem said : Rows.WalNamesSaid :=
  OpenClaim.holds_of_cond 5 Tryd.f5 rfl rfl rfl rfl rfl rfl rfl ⟨rfl, rfl, rfl, rfl, rfl⟩ rfl rfl rfl rfl rfl (by kernel_rfl) Tryd.func5 (by kernel_rfl)
    (of_decide_eq_true (by kernel_rfl)) (by unfold Func.isWrapper; first | (rw [if_pos (by decide +kernel)]; kernel_rfl) | (rw [if_neg (by decide +kernel)]; exact ⟨rfl, rfl⟩))
    (fun os started H enc _ F0 => by rw [OpenClaim.pre_eq_preRow]; exact lifted os started H enc F0)

theorem plain (f : FuncId) (fn : Func) (hf : Tryd.pinned.checked.prog.funcNamed Tryd.f5.name = some f) (hfn : Tryd.pinned.checked.prog.funcs[f]? = some fn) :
    true = Tryd.pinned.checked.prog.looks [] ∧ ∀ (j : Nat) t, fn.params[j]? = some t → Tryd.pinned.checked.prog.wantsStandIn t = false := by
  obtain rfl : f = 5 := Option.some.inj ((show Tryd.prog.funcNamed Tryd.f5.name = some 5 by kernel_rfl).symm.trans hf) |>.symm
  obtain rfl : fn = Tryd.f5 := (Option.some.inj (Tryd.func5.symm.trans hfn)).symm
  refine ⟨by kernel_rfl, fun j t ht => ?_⟩
  rw [Tryd.params5] at ht
  have hm := Array.mem_of_getElem? ht
  simp only [List.mem_toArray, List.mem_cons, List.not_mem_nil, or_false] at hm
  rcases hm with rfl | rfl
  · exact (show Tryd.prog.wantsStandIn 22 = false by kernel_rfl)
  · exact (show Tryd.prog.wantsStandIn 9 = false by kernel_rfl)

/-- The statement: the card. -/
theorem proved : Rows.WalNamesCardSaid :=
  Claim7.holds_tied_plain_at .later [] _ _ _ _ said (fun _ h => by cases h) (by kernel_rfl) (fun _ h => by cases h) walNames_row_tie rfl ⟨rfl, rfl⟩ (by kernel_rfl) rfl plain (by kernel_rfl)
#print axioms proved
end Go.Proofs.YthgaiimgfnbkaaaDoor.walNames
