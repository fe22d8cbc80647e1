/-
  DiskNames: a file that is called otherwise is as it was, and one that was called so is gone; made, it has no bytes; taken away it is not there; and names rise: for every input.
-/
import Derived.Test.YtkabgebfbbkioaaRows
import Derived.Test.YtkabgebfbbkioaaDkE
import Derived.Test.YtkabgebfbbkioaaDk23
import Derived.WalkKit
import Derived.ProofKit
import Derived.OpenShut
import Derived.ShutString
import Derived.ChangeOld
import Derived.Below
import Derived.Deep.QuietTactic
import Derived.BigQuiet
import Derived.Laws.StructEq
namespace Go.Proofs.Ytkabgebfbbkioaa.diskNames
open Go.Maps Go.Sort Go.ChangeShapes Go.WideShapes Go.ChangeAt Go.RowKit
open Go.ChangeMaps (open_string shut_string)
set_option linter.unusedVariables false

theorem own : ownKnob Try.prog.godebug = none := by kernel_rfl
theorem laidOut : laidOutB Try.prog = true := by kernel_rfl

theorem bonD {a W W' : World} (h : Below a.heap.size a W) (hb : Below W.heap.size W W') : Below a.heap.size a W' := h.trans (hb.mono h.size)
theorem str_emp' (s : ByteArray) : s.toList.isEmpty = decide (s.size = 0) := by
  rw [Lib.toList_data, Bool.eq_iff_iff]
  rw [List.isEmpty_iff, ← List.length_eq_zero_iff, decide_eq_true_iff, Array.length_toList]
  rfl
theorem str_nil' (s : ByteArray) : s.toList = [] ↔ s.size = 0 := by
  rw [← List.isEmpty_iff, str_emp', decide_eq_true_iff]
theorem str_ne {s : ByteArray} (h : 0 < s.size) : s.toList.isEmpty = false ∧ (s.toList == []) = false ∧ ¬ s.toList = [] ∧ (s.toList != []) = true := by
  have h1 : ¬ s.toList = [] := fun e => by have := (str_nil' s).1 e; omega
  refine ⟨by rw [str_emp', decide_eq_false_iff_not]; omega, by simpa using h1, h1, by simpa using h1⟩
theorem str_eq0 {s : ByteArray} (h : s.size = 0) : s.toList = [] := (str_nil' s).2 h
theorem strs_ne {s t : ByteArray} (h : s ≠ t) : (s.toList == t.toList) = false ∧ (s.toList != t.toList) = true ∧ ¬ s.toList = t.toList := by
  have h1 : ¬ s.toList = t.toList := fun e => h (by
    apply ByteArray.ext
    apply Array.toList_inj.1
    rw [← Lib.toList_data, ← Lib.toList_data, e])
  exact ⟨by simpa using h1, by simpa using h1, h1⟩
set_option maxRecDepth 100000 in
theorem eq_file (W : World) (b : ByteArray) (n : Int) : (Op.equalIn 10000 58 (.agg #[.string b, .int .i64 n]) (.agg #[.string b, .int .i64 n])).run Try.prog W = .ok true W := by
  rw [show (10000 : Nat) = 9998 + 1 + 1 from rfl, run_equalIn_agg W (9998 + 1) 58 _ _ (by kernel_rfl) (by kernel_rfl)]
  obtain ⟨fs, hfs⟩ : ∃ fs, (Try.prog.fieldsOf 58).toList = fs := ⟨_, rfl⟩
  rw [hfs]
  have h3 := hfs
  unfold Program.fieldsOf at h3
  rw [Try.underlying58] at h3
  simp only at h3
  subst h3
  simp only [Op.eqFields]
  have a0 : (part 9 #[Value.string b, Value.int IntKind.i64 n] 0).run Try.prog W = .ok (.string b) W := by kernel_rfl
  have a1 : (part 3 #[Value.string b, Value.int IntKind.i64 n] 1).run Try.prog W = .ok (.int .i64 n) W := by kernel_rfl
  have e0 := run_equalIn_string (P := Try.prog) W 9998 9 b b Try.underlying9
  have e1 := run_equalIn_int (P := Try.prog) W 9998 3 .i64 _ n n Try.underlying3
  rw [if_pos (by decide), if_pos (by decide)]
  rw [beq_self_eq_true] at e0 e1
  simp only [Sem.run_bind, a0, e0, Result.andThen_ok, Sem.run_ite, a1, e1, Sem.run_pure]
  rfl
theorem next_boxcell {w0 w w' : World} {S S' : DiskS} {m m' : MD} {o : Obj} (h : At w0 w S m) (hN : Next w0 (w.alloc o) S m' w' S') (j : Nat) : w'.cell? ⟨w.heap.size, j, none⟩ = (w.alloc o).cell? ⟨w.heap.size, j, none⟩ :=
  hN.off.cell (by simp) (fun hm => by have := h.disk.there _ hm; simp only at this; omega)
theorem drewN_addD (w : World) (a b : Nat) : (w.drewN a).drewN b = w.drewN (a + b) := by simp [World.drewN, Nat.add_assoc]

set_option maxRecDepth 100000 in
set_option maxHeartbeats 8000000 in
theorem walk (a0 : Int) (A1 : Option Addr) (n1 c1 : Nat) (L1 : List LOp) (a2 : ByteArray) (a3 : ByteArray) (w : World) (w0 : -9223372036854775808 ≤ a0 ∧ a0 ≤ 9223372036854775807) (r1 : RdL w w.heap.size A1 n1 c1 L1) (w2 : a2.size ≤ maxLen) (w3 : a3.size ≤ maxLen) :
    Calls Try.prog 8 #[.int .i64 a0, .slice A1 n1 c1, .string a2, .string a3] w fun e w' => e = .returned (.bool true) ∧ Below w.heap.size w w' := by
  have hl1 := r1.len
  have HF := Lib.hid (fewL_c r1 (Nat.le_refl _) 40)
  have HFN := Lib.hid (fun (h : fewL L1 40 = true) => fewL_iff.1 h)
  have HW0 := Lib.hid w0
  clear w0
  go_enter Try.func8, Try.ntmps8
  go_wp2_with fail
  refine HF.out.mono ?_
  rintro e wq ⟨rfl, hg⟩
  cases hf : fewL L1 40 with
  | false =>
    go_wp2_with fail
    refine awake_c.mono ?_
    rintro e w99 ⟨rfl, hb99⟩
    go_wp2_with fail
    go_ret
    exact ⟨rfl, bonD hg hb99⟩
  | true =>
    obtain ⟨hsm, hn40⟩ := HFN.out hf
    have hn1 : n1 ≤ 40 := by rw [hl1] at hn40; omega
    have hn1i : (n1 : Int) ≤ 40 := by omega
    have HSM := Lib.hid hsm
    clear hf HF HFN hsm hn40
    by_cases h2 : 60 < a2.size
    · have d1 : decide ((60 : Int) < (a2.size : Int)) = true := by simp; omega
      have d2 : decide (60 < a2.size) = true := by simpa using h2
      go_wp2_with fail
      refine awake_c.mono ?_
      rintro e w99 ⟨rfl, hb99⟩
      go_wp2_with fail
      go_ret
      exact ⟨rfl, bonD hg hb99⟩
    have d1 : decide ((60 : Int) < (a2.size : Int)) = false := by simp; omega
    have d2 : decide (60 < a2.size) = false := by simpa using h2
    by_cases h3 : 60 < a3.size
    · have d3 : decide ((60 : Int) < (a3.size : Int)) = true := by simp; omega
      have d4 : decide (60 < a3.size) = true := by simpa using h3
      go_wp2_with fail
      refine awake_c.mono ?_
      rintro e w99 ⟨rfl, hb99⟩
      go_wp2_with fail
      go_ret
      exact ⟨rfl, bonD hg hb99⟩
    have d3 : decide ((60 : Int) < (a3.size : Int)) = false := by simp; omega
    have d4 : decide (60 < a3.size) = false := by simpa using h3
    have HNEW := Lib.hid (new_c (w := wq) a0 (fails := []) (parts := []) (Rd.nilv : Rd wq 0 none 0 0 []) (Rd.nilv : Rd wq 0 none 0 0 []) (Nat.zero_le _) (Nat.zero_le _) (by decide) (by simp) (by simp))
    clear h2 h3
    go_wp2_with fail
    refine HNEW.out.mono ?_
    rintro e wn ⟨S, rfl, hd3, hsee, hb3, hold⟩
    have hat0 : At w wn S ⟨max a0 0, 0, 0, .map [], []⟩ := ⟨hd3, hsee, fun k hk => Nat.le_trans hg.size (hold k hk), bonD hg hb3⟩
    have hinv0 := inv_new HW0.out.2
    obtain ⟨m0, hm0⟩ : ∃ m0 : MD, m0 = ⟨max a0 0, 0, 0, .map [], []⟩ := ⟨_, rfl⟩
    rw [← hm0] at hat0 hinv0
    have hpl0 : m0.plan = .map [] := by rw [hm0]
    obtain ⟨dp, hdp⟩ : ∃ dp, S.dp = dp := ⟨_, rfl⟩
    rw [hdp]
    clear hd3 hsee hb3 hold HNEW hg hm0
    go_wp2_with fail
    go_loopw [44] (fun iv wr => ∃ (k : Nat) (S' : DiskS), iv = .int .i64 (k : Int) ∧ k ≤ n1 ∧ S'.dp = dp ∧ At w wr S' (runM m0 ((L1.take k).map LOp.op)) ∧ Inv (runM m0 ((L1.take k).map LOp.op)) k) (fun iv _ => ((n1 : Int) - intOf iv).toNat)
    case atStart => exact ⟨0, S, rfl, Nat.zero_le _, hdp, hat0, hinv0⟩
    case round =>
      clear hat0 hinv0 hdp
      obtain ⟨k, S', rfl, hk, hdpk, hatk, hinvk⟩ := hrel
      by_cases hlt : k < n1
      · obtain ⟨b, off, hA, hbB, hcell⟩ := r1.form (by omega)
        subst hA
        obtain ⟨x, hx⟩ : ∃ x, L1[k]? = some x := ⟨L1[k]'(by omega), List.getElem?_eq_getElem _⟩
        obtain ⟨x0, x1, x2, x3, x4⟩ := hcell k x hx
        have hkc (i : Nat) : wr.cell? ⟨b, i, none⟩ = w.cell? ⟨b, i, none⟩ := hatk.below.cell hbB
        rw [← hkc] at x0 x1 x2 x3 x4
        have hki : (k : Int) < (n1 : Int) := by omega
        have hk0 : (0 : Int) ≤ (k : Int) := by omega
        have hxm := List.mem_of_getElem? hx
        have hxok := r1.ok x hxm
        have hxn : x.n ≤ 60 := ((smallL_iff x).1 (HSM.out x hxm)).2.2.1
        have hrun : runM m0 ((L1.take (k + 1)).map LOp.op) = (doesM (runM m0 ((L1.take k).map LOp.op)) x.op).1 := by
          rw [List.take_add_one, hx, Option.toList_some, List.map_append, List.map_singleton, runM_snoc]
        have HINV := Lib.hid (hinvk.does hatk.nodup (o := x.op) (by show x.b.length ≤ 60; have := hxok.b.len; simp at this; omega))
        have HD := does_a (hatk.boxed (.cells #[.int .u8 (x.what : Int), .string x.s, .string x.t, .slice x.A x.n x.c, .slice x.A2 x.n2 x.c2] 36)) (hinvk.good (by omega)) x hxok hxn
        unfold lv at HD
        rw [hdpk] at HD
        have HD := Lib.hid HD
        have HRUN := Lib.hid hrun
        have HDP := Lib.hid hdpk
        clear hrun hxok hxn hxm hkc hcell hx hatk hinvk hdpk hpl0 r1 hl1
        go_wp2_with fail
        refine HD.out.mono ?_
        intro e w5 hp
        obtain ⟨rfl, S2, hN⟩ := hp
        have HN := Lib.hid hN.box
        clear hN HD x0 x1 x2 x3 x4
        go_wp2_with fail
        go_roundw
        case rel => exact ⟨k + 1, S2, by simp, by omega, HN.out.dp.trans HDP.out, by rw [HRUN.out]; exact HN.out.at_, by rw [HRUN.out]; exact HINV.out⟩
        case measure => simp [intOf]; omega
      · have hki : ¬ (k : Int) < (n1 : Int) := by omega
        obtain rfl : k = n1 := by omega
        rw [List.take_of_length_le (by omega)] at hatk hinvk
        have hpl : (runM m0 (L1.map LOp.op)).plan = .map [] := (runM_plan _ _).trans hpl0
        generalize runM m0 (L1.map LOp.op) = m at *
        clear hpl0
        have HL := list_a hatk (hinvk.good (by omega))
        rw [hdpk] at HL
        have HL := Lib.hid HL
        have hri := hatk.rise
        have hinv := hinvk
        go_wp2_with fail
        refine HL.out.mono ?_
        rintro e w6 ⟨A6, n6, c6, rfl, hf6, hb6⟩
        have hat6 := hatk.below_next hb6
        have hlen6 : m.files.length = n6 := by have := hf6.len; simpa using this
        have hn6i : (n6 : Int) ≤ 100000 := by have := hinv.few; omega
        clear HL hatk hb6
        go_wp2_with fail
        go_loopw [56] (fun iv wr => ∃ j q : Nat, iv = .int .i64 (j : Int) ∧ j ≤ n6 ∧ wr = w6.drewN q) (fun iv _ => ((n6 : Int) - intOf iv).toNat)
        case atStart => exact ⟨0, 0, rfl, Nat.zero_le _, rfl⟩
        case round =>
          obtain ⟨j, q, rfl, hj, hwr⟩ := hrel
          by_cases hjl : j < n6
          · have hji : (j : Int) < (n6 : Int) := by omega
            have hj0 : (0 : Int) ≤ (j : Int) := by omega
            have HW := Lib.hid hwr
            by_cases h0 : j = 0
            · subst h0
              have dj : decide ((0 : Int) < ((0 : Nat) : Int)) = false := by decide
              clear hwr hri hf6 hat6 hinv hinvk
              go_wp2_with fail
              go_quiet (fail)
              go_wp2_with fail
              go_roundw
              case rel => exact ⟨1, q + _, by simp, by omega, by rw [HW.out]; exact drewN_addD _ _ _⟩
              case measure => simp [intOf]; omega
            · obtain ⟨i, rfl⟩ : ∃ i, j = i + 1 := ⟨j - 1, by omega⟩
              have dj : decide ((0 : Int) < ((i + 1 : Nat) : Int)) = true := decide_eq_true (by omega)
              obtain ⟨gb, off, rfl, hgb, hcell⟩ := (hf6.rd (Nat.le_refl _)).form (by omega)
              obtain ⟨p, hp⟩ : ∃ p, m.files[i]? = some p := ⟨m.files[i]'(by omega), List.getElem?_eq_getElem _⟩
              obtain ⟨p2, hp2⟩ : ∃ p2, m.files[i + 1]? = some p2 := ⟨m.files[i + 1]'(by omega), List.getElem?_eq_getElem _⟩
              have x0 : wr.cell? ⟨gb, off + i, none⟩ = some (.string ⟨p.1.toArray⟩) := by rw [hwr]; exact hcell i (encStr p.1) (by rw [List.getElem?_map, List.getElem?_map, hp]; rfl)
              have x1 : wr.cell? ⟨gb, off + (i + 1), none⟩ = some (.string ⟨p2.1.toArray⟩) := by rw [hwr]; exact hcell (i + 1) (encStr p2.1) (by rw [List.getElem?_map, List.getElem?_map, hp2]; rfl)
              have hless : Op.bytesLess (⟨p.1.toArray⟩ : ByteArray).toList (⟨p2.1.toArray⟩ : ByteArray).toList = true := by
                rw [less_before, Lib.toList_data, Lib.toList_data]
                have h1 := List.getElem?_eq_some_iff.1 hp
                have h2 := List.getElem?_eq_some_iff.1 hp2
                have := List.pairwise_iff_getElem.1 hri i (i + 1) h1.1 h2.1 (by omega)
                rw [h1.2, h2.2] at this
                exact this
              have hwi : IntKind.i64.wrap (((i + 1 : Nat) : Int) - 1) = (i : Int) := by rw [IntKind.wrap_i64]; omega
              have hji2 : (i : Int) < (n6 : Int) := by omega
              have hj02 : (0 : Int) ≤ (i : Int) := by omega
              generalize (⟨p.1.toArray⟩ : ByteArray) = s1 at *
              generalize (⟨p2.1.toArray⟩ : ByteArray) = s2 at *
              obtain ⟨J, hJ⟩ : ∃ J : Nat, J = i + 1 := ⟨_, rfl⟩
              rw [← hJ] at x1 dj hwi hji hj0 ⊢
              have dj2 : decide (0 < J) = true := decide_eq_true (by omega)
              have HJ := Lib.hid hJ
              clear hwr hri hf6 hat6 hinv hinvk hcell hp hp2 hJ
              go_wp2_with fail
              go_quiet (fail)
              go_wp2_with fail
              go_roundw
              case rel => exact ⟨J + 1, q + _, by simp, by have := HJ.out; omega, by rw [HW.out]; exact drewN_addD _ _ _⟩
              case measure => simp [intOf]; have := HJ.out; omega
          · have hji : ¬ (j : Int) < (n6 : Int) := by omega
            have hat7 : At w wr S' m := by rw [hwr]; exact hat6.below_next (below_drewN (Below.refl _ _) q)
            have hdp7 := hdpk
            clear hat6 hf6 hwr hri hdpk hinvk
            have HF1 := files_a hat7 (hinv.good (by omega))
            rw [hdp7] at HF1
            have HF1 := Lib.hid HF1
            go_wp2_with fail
            refine HF1.out.mono ?_
            rintro e w8 ⟨b8, q8, rfl, hown8, hb81, hb8⟩
            have hat8 := hat7.below_next hb8
            have hdp8 := hdp7
            have hlk8 := run_lookM_ok hown8 (s := a2) w2
            clear hat7 hdp7 HF1
            rcases rename_cases hinv hpl a2 a3 with ⟨hev, hro⟩ | ⟨hev, hwhy⟩
            · obtain ⟨f, hro⟩ := hro
              have HEV := Lib.hid hev
              have hwas := hro.was
              have hvt := hro.valid
              rw [hwas] at hlk8
              simp only [lookV, fileV, Option.isSome_some] at hlk8
              have HRO := Lib.hid hro
              obtain ⟨u, hu⟩ : ∃ u, u = ((f.1.length - f.2 : Nat) : Int) := ⟨_, rfl⟩
              rw [← hu] at hlk8
              have HU := Lib.hid hu
              clear hev hro hwas hu
              have hatB := hat8.boxed (.cells #[.string ⟨f.1.toArray⟩, .int .i64 u] 58)
              have HRN := rename_a hatB (hinv.good (by omega)) a2 a3
              rw [hdp8] at HRN
              have HRN := Lib.hid HRN
              have hinvX := hinv.rename hat8.nodup a2 a3
              have hplX := (renameM_plan m a2 a3).trans hpl
              generalize renameM m a2 a3 = rn at *
              clear hatB hown8 hb81 hb8
              go_wp2_with fail
              refine HRN.out.mono ?_
              intro e w9 hp
              obtain ⟨he, S9, hN9⟩ := hp
              rw [HEV.out] at he
              subst he
              have k0 := next_boxcell hat8 hN9 0
              have k1 := next_boxcell hat8 hN9 1
              rw [World.cell?_alloc_at _ _ _ _ rfl] at k0 k1
              replace k0 : w9.cell? ⟨w8.heap.size, 0, none⟩ = some (.string ⟨f.1.toArray⟩) := k0
              replace k1 : w9.cell? ⟨w8.heap.size, 1, none⟩ = some (.int .i64 u) := k1
              have hg15 : w8.heap.size < w9.heap.size := by have := hN9.off.size; simp at this; omega
              have hdp9 := hN9.dp.trans hdp8
              have hat9 := hN9.at_
              have HF2 := files_a hat9 (hinvX.good (by omega))
              rw [hdp9] at HF2
              have HF2 := Lib.hid HF2
              clear hN9 HRN hlk8 hat8
              go_wp2_with fail
              refine HF2.out.mono ?_
              rintro e w10 ⟨b10, q10, rfl, howk0, hb101, hb10⟩
              have hatX := hat9.below_next hb10
              have hdpX := hdp9
              replace k0 := (hb10.cell (p := ⟨w8.heap.size, 0, none⟩) hg15).trans k0
              replace k1 := (hb10.cell (p := ⟨w8.heap.size, 1, none⟩) hg15).trans k1
              have invX := hinvX
              obtain ⟨mX, hmX⟩ : ∃ mX, mX = rn.1 := ⟨_, rfl⟩
              have hlkn := run_lookM howk0 (s := a3) w3
              have hlko := run_lookM_ok howk0 (s := a2) w2
              rw [← hmX] at hatX invX hplX hlkn hlko
              clear hat9 hdp9 howk0 hb101 hb10 HF2 hinvX
              have hro := HRO.out
              rw [← hmX] at hro
              rw [hro.now] at hlkn
              simp only [lookV, fileV] at hlkn
              rw [← HU.out] at hlkn
              have hE := fun W => eq_file W ⟨f.1.toArray⟩ u
              have hsz3 : 0 < a3.size ∧ a3.size ≤ 40 := by simp only [validB, Bool.and_eq_true, decide_eq_true_eq] at hvt; omega
              obtain ⟨t1, t2, t3, t4⟩ := str_ne hsz3.1
              have t5 : decide ((40 : Int) < (a3.size : Int)) = false := by simp; omega
              have t6 : decide (40 < a3.size) = false := by simp; omega
              have HS3 := Lib.hid hsz3
              clear hsz3 hvt
              by_cases hsame : a2 = a3
              · replace hsame := hsame.symm
                subst hsame
                clear hlko hro
                go_wp2_with fail
                clear hlkn hE k0 k1
                have HR := remove_a hatX (invX.good (by omega)) a3
                rw [hdpX] at HR
                have HR := Lib.hid HR
                have hinvR := invX.remove hatX.nodup a3
                have hplR := (removeM_plan mX a3).trans hplX
                have hrc := remove_cases hplX a3
                generalize removeM mX a3 = rr at *
                have HRC := Lib.hid hrc
                clear hrc
                go_wp2_with fail
                refine HR.out.mono ?_
                intro e wR hp
                obtain ⟨he, SR, hNR⟩ := hp
                have hdpR := hNR.dp.trans hdpX
                have hatR := hNR.at_
                clear HR hNR hatX hdpX
                rcases HRC.out with ⟨hv, hvn, hgone⟩ | hv | hv
                · rw [hv] at he
                  subst he
                  have HF3 := files_a hatR (hinvR.good (by omega))
                  rw [hdpR] at HF3
                  have HF3 := Lib.hid HF3
                  obtain ⟨c1, c2, c3⟩ := create_new hplR hvn hgone
                  have hinvC := hinvR.create a3
                  have HHG := Lib.hid hgone
                  clear hv hvn hgone invX hplX HRC
                  go_wp2_with fail
                  refine HF3.out.mono ?_
                  rintro e wF ⟨bF, qF, rfl, hownF, hbF1, hbF⟩
                  have hatF := (hatR.below_next hbF).boxed (.cells #[.string ⟨#[]⟩, .int .i64 0] 58)
                  have hlkF := run_lookM_ok hownF (s := a3) w3
                  rw [HHG.out] at hlkF
                  simp only [lookV, fileV, Option.isSome_none] at hlkF
                  replace hlkF : (Instr.lookup 51 (.map (some bF)) (.string a3) true).run Try.prog wF = .ok (.tuple #[.agg #[.string ⟨#[]⟩, .int .i64 0], .bool false]) wF := hlkF
                  have HC1 := create_a hatF (hinvR.good (by omega)) a3
                  rw [hdpR] at HC1
                  have HC1 := Lib.hid HC1
                  have HV := Lib.hid c1
                  have HV2 := Lib.hid c2
                  have HV3 := Lib.hid c3
                  generalize createM rr.1 a3 = cc at *
                  clear c1 c2 c3 hatR hownF hbF hbF1 HF3 hatF
                  go_wp2_with fail
                  refine HC1.out.mono ?_
                  intro e wC hp
                  obtain ⟨he, SC, hNC⟩ := hp
                  rw [HV.out] at he
                  subst he
                  have hdpC := hNC.dp.trans hdpR
                  have hatC := hNC.at_
                  have HSZ := size_a hatC a3
                  rw [hdpC, HV2.out] at HSZ
                  have HSZ := Lib.hid HSZ
                  clear hNC HC1 hlkF
                  go_wp2_with fail
                  refine HSZ.out.mono ?_
                  rintro e wD ⟨rfl, hbD, hatD⟩
                  have HC2 := create_a hatD (hinvC.good (by omega)) a3
                  rw [hdpC] at HC2
                  have HC2 := Lib.hid HC2
                  generalize createM cc.1 a3 = c2 at *
                  clear HSZ hatC hbD hatD
                  go_wp2_with fail
                  refine HC2.out.mono ?_
                  intro e wE hp
                  obtain ⟨he, SE, hNE⟩ := hp
                  rw [HV3.out] at he
                  subst he
                  have hgE := hNE.at_.below
                  clear hNE HC2
                  go_wp2_with fail
                  refine awake_c.mono ?_
                  rintro e w99 ⟨rfl, hb99⟩
                  go_wp2_with fail
                  go_ret
                  exact ⟨rfl, bonD hgE hb99⟩
                · rw [hv] at he
                  subst he
                  have hgR := hatR.below
                  clear hatR hv HRC
                  go_wp2_with fail
                  refine awake_c.mono ?_
                  rintro e w99 ⟨rfl, hb99⟩
                  go_wp2_with fail
                  go_ret
                  exact ⟨rfl, bonD hgR hb99⟩
                · rw [hv] at he
                  subst he
                  have hgR := hatR.below
                  clear hatR hv HRC
                  go_wp2_with fail
                  refine awake_c.mono ?_
                  rintro e w99 ⟨rfl, hb99⟩
                  go_wp2_with fail
                  go_ret
                  exact ⟨rfl, bonD hgR hb99⟩
              · obtain ⟨s1, s2, s3⟩ := strs_ne hsame
                rw [hro.gone hsame] at hlko
                simp only [lookV, fileV, Option.isSome_none] at hlko
                replace hlko : (Instr.lookup 51 (.map (some b10)) (.string a2) true).run Try.prog w10 = .ok (.tuple #[.agg #[.string ⟨#[]⟩, .int .i64 0], .bool false]) w10 := hlko
                replace hatX := hatX.boxed (.cells #[.string ⟨#[]⟩, .int .i64 0] 58)
                clear hsame hro
                go_wp2_with fail
                clear hlkn hlko hE k0 k1
                have HR := remove_a hatX (invX.good (by omega)) a3
                rw [hdpX] at HR
                have HR := Lib.hid HR
                have hinvR := invX.remove hatX.nodup a3
                have hplR := (removeM_plan mX a3).trans hplX
                have hrc := remove_cases hplX a3
                generalize removeM mX a3 = rr at *
                have HRC := Lib.hid hrc
                clear hrc
                go_wp2_with fail
                refine HR.out.mono ?_
                intro e wR hp
                obtain ⟨he, SR, hNR⟩ := hp
                have hdpR := hNR.dp.trans hdpX
                have hatR := hNR.at_
                clear HR hNR hatX hdpX
                rcases HRC.out with ⟨hv, hvn, hgone⟩ | hv | hv
                · rw [hv] at he
                  subst he
                  have HF3 := files_a hatR (hinvR.good (by omega))
                  rw [hdpR] at HF3
                  have HF3 := Lib.hid HF3
                  obtain ⟨c1, c2, c3⟩ := create_new hplR hvn hgone
                  have hinvC := hinvR.create a3
                  have HHG := Lib.hid hgone
                  clear hv hvn hgone invX hplX HRC
                  go_wp2_with fail
                  refine HF3.out.mono ?_
                  rintro e wF ⟨bF, qF, rfl, hownF, hbF1, hbF⟩
                  have hatF := (hatR.below_next hbF).boxed (.cells #[.string ⟨#[]⟩, .int .i64 0] 58)
                  have hlkF := run_lookM_ok hownF (s := a3) w3
                  rw [HHG.out] at hlkF
                  simp only [lookV, fileV, Option.isSome_none] at hlkF
                  replace hlkF : (Instr.lookup 51 (.map (some bF)) (.string a3) true).run Try.prog wF = .ok (.tuple #[.agg #[.string ⟨#[]⟩, .int .i64 0], .bool false]) wF := hlkF
                  have HC1 := create_a hatF (hinvR.good (by omega)) a3
                  rw [hdpR] at HC1
                  have HC1 := Lib.hid HC1
                  have HV := Lib.hid c1
                  have HV2 := Lib.hid c2
                  have HV3 := Lib.hid c3
                  generalize createM rr.1 a3 = cc at *
                  clear c1 c2 c3 hatR hownF hbF hbF1 HF3 hatF
                  go_wp2_with fail
                  refine HC1.out.mono ?_
                  intro e wC hp
                  obtain ⟨he, SC, hNC⟩ := hp
                  rw [HV.out] at he
                  subst he
                  have hdpC := hNC.dp.trans hdpR
                  have hatC := hNC.at_
                  have HSZ := size_a hatC a3
                  rw [hdpC, HV2.out] at HSZ
                  have HSZ := Lib.hid HSZ
                  clear hNC HC1 hlkF
                  go_wp2_with fail
                  refine HSZ.out.mono ?_
                  rintro e wD ⟨rfl, hbD, hatD⟩
                  have HC2 := create_a hatD (hinvC.good (by omega)) a3
                  rw [hdpC] at HC2
                  have HC2 := Lib.hid HC2
                  generalize createM cc.1 a3 = c2 at *
                  clear HSZ hatC hbD hatD
                  go_wp2_with fail
                  refine HC2.out.mono ?_
                  intro e wE hp
                  obtain ⟨he, SE, hNE⟩ := hp
                  rw [HV3.out] at he
                  subst he
                  have hgE := hNE.at_.below
                  clear hNE HC2
                  go_wp2_with fail
                  refine awake_c.mono ?_
                  rintro e w99 ⟨rfl, hb99⟩
                  go_wp2_with fail
                  go_ret
                  exact ⟨rfl, bonD hgE hb99⟩
                · rw [hv] at he
                  subst he
                  have hgR := hatR.below
                  clear hatR hv HRC
                  go_wp2_with fail
                  refine awake_c.mono ?_
                  rintro e w99 ⟨rfl, hb99⟩
                  go_wp2_with fail
                  go_ret
                  exact ⟨rfl, bonD hgR hb99⟩
                · rw [hv] at he
                  subst he
                  have hgR := hatR.below
                  clear hatR hv HRC
                  go_wp2_with fail
                  refine awake_c.mono ?_
                  rintro e w99 ⟨rfl, hb99⟩
                  go_wp2_with fail
                  go_ret
                  exact ⟨rfl, bonD hgR hb99⟩
            · rcases hev with hev | hev
              all_goals
                have HEV := Lib.hid hev
                clear hev
                cases hlm : lookM m.files a2.data.toList with
                | none =>
                  rw [hlm] at hlk8
                  simp only [lookV, fileV, Option.isSome_none] at hlk8
                  replace hlk8 : (Instr.lookup 51 (.map (some b8)) (.string a2) true).run Try.prog w8 = .ok (.tuple #[.agg #[.string ⟨#[]⟩, .int .i64 0], .bool false]) w8 := hlk8
                  clear hlm hwhy
                  have hatB := hat8.boxed (.cells #[.string ⟨#[]⟩, .int .i64 0] 58)
                  have HRN := rename_a hatB (hinv.good (by omega)) a2 a3
                  rw [hdp8] at HRN
                  have HRN := Lib.hid HRN
                  have hinvX := hinv.rename hat8.nodup a2 a3
                  have hplX := (renameM_plan m a2 a3).trans hpl
                  generalize renameM m a2 a3 = rn at *
                  clear hatB hown8 hb81 hb8
                  go_wp2_with fail
                  refine HRN.out.mono ?_
                  intro e w9 hp
                  obtain ⟨he, S9, hN9⟩ := hp
                  rw [HEV.out] at he
                  subst he
                  have k0 := next_boxcell hat8 hN9 0
                  have k1 := next_boxcell hat8 hN9 1
                  rw [World.cell?_alloc_at _ _ _ _ rfl] at k0 k1
                  replace k0 : w9.cell? ⟨w8.heap.size, 0, none⟩ = some (.string ⟨#[]⟩) := k0
                  replace k1 : w9.cell? ⟨w8.heap.size, 1, none⟩ = some (.int .i64 0) := k1
                  have hg15 : w8.heap.size < w9.heap.size := by have := hN9.off.size; simp at this; omega
                  have hdp9 := hN9.dp.trans hdp8
                  have hat9 := hN9.at_
                  have HF2 := files_a hat9 (hinvX.good (by omega))
                  rw [hdp9] at HF2
                  have HF2 := Lib.hid HF2
                  clear hN9 HRN hlk8 hat8
                  go_wp2_with fail
                  refine HF2.out.mono ?_
                  rintro e w10 ⟨b10, q10, rfl, howk0, hb101, hb10⟩
                  have hatX := hat9.below_next hb10
                  have hdpX := hdp9
                  replace k0 := (hb10.cell (p := ⟨w8.heap.size, 0, none⟩) hg15).trans k0
                  replace k1 := (hb10.cell (p := ⟨w8.heap.size, 1, none⟩) hg15).trans k1
                  have invX := hinvX
                  obtain ⟨mX, hmX⟩ : ∃ mX, mX = rn.1 := ⟨_, rfl⟩
                  have hlkn := run_lookM howk0 (s := a3) w3
                  have hlko := run_lookM_ok howk0 (s := a2) w2
                  rw [← hmX] at hatX invX hplX hlkn hlko
                  clear hat9 hdp9 howk0 hb101 hb10 HF2 hinvX
                  clear hlkn hlko k0 k1
                  go_wp2_with fail
                  have HR := remove_a hatX (invX.good (by omega)) a3
                  rw [hdpX] at HR
                  have HR := Lib.hid HR
                  have hinvR := invX.remove hatX.nodup a3
                  have hplR := (removeM_plan mX a3).trans hplX
                  have hrc := remove_cases hplX a3
                  generalize removeM mX a3 = rr at *
                  have HRC := Lib.hid hrc
                  clear hrc
                  go_wp2_with fail
                  refine HR.out.mono ?_
                  intro e wR hp
                  obtain ⟨he, SR, hNR⟩ := hp
                  have hdpR := hNR.dp.trans hdpX
                  have hatR := hNR.at_
                  clear HR hNR hatX hdpX
                  rcases HRC.out with ⟨hv, hvn, hgone⟩ | hv | hv
                  · rw [hv] at he
                    subst he
                    have HF3 := files_a hatR (hinvR.good (by omega))
                    rw [hdpR] at HF3
                    have HF3 := Lib.hid HF3
                    obtain ⟨c1, c2, c3⟩ := create_new hplR hvn hgone
                    have hinvC := hinvR.create a3
                    have HHG := Lib.hid hgone
                    clear hv hvn hgone invX hplX HRC
                    go_wp2_with fail
                    refine HF3.out.mono ?_
                    rintro e wF ⟨bF, qF, rfl, hownF, hbF1, hbF⟩
                    have hatF := (hatR.below_next hbF).boxed (.cells #[.string ⟨#[]⟩, .int .i64 0] 58)
                    have hlkF := run_lookM_ok hownF (s := a3) w3
                    rw [HHG.out] at hlkF
                    simp only [lookV, fileV, Option.isSome_none] at hlkF
                    replace hlkF : (Instr.lookup 51 (.map (some bF)) (.string a3) true).run Try.prog wF = .ok (.tuple #[.agg #[.string ⟨#[]⟩, .int .i64 0], .bool false]) wF := hlkF
                    have HC1 := create_a hatF (hinvR.good (by omega)) a3
                    rw [hdpR] at HC1
                    have HC1 := Lib.hid HC1
                    have HV := Lib.hid c1
                    have HV2 := Lib.hid c2
                    have HV3 := Lib.hid c3
                    generalize createM rr.1 a3 = cc at *
                    clear c1 c2 c3 hatR hownF hbF hbF1 HF3 hatF
                    go_wp2_with fail
                    refine HC1.out.mono ?_
                    intro e wC hp
                    obtain ⟨he, SC, hNC⟩ := hp
                    rw [HV.out] at he
                    subst he
                    have hdpC := hNC.dp.trans hdpR
                    have hatC := hNC.at_
                    have HSZ := size_a hatC a3
                    rw [hdpC, HV2.out] at HSZ
                    have HSZ := Lib.hid HSZ
                    clear hNC HC1 hlkF
                    go_wp2_with fail
                    refine HSZ.out.mono ?_
                    rintro e wD ⟨rfl, hbD, hatD⟩
                    have HC2 := create_a hatD (hinvC.good (by omega)) a3
                    rw [hdpC] at HC2
                    have HC2 := Lib.hid HC2
                    generalize createM cc.1 a3 = c2 at *
                    clear HSZ hatC hbD hatD
                    go_wp2_with fail
                    refine HC2.out.mono ?_
                    intro e wE hp
                    obtain ⟨he, SE, hNE⟩ := hp
                    rw [HV3.out] at he
                    subst he
                    have hgE := hNE.at_.below
                    clear hNE HC2
                    go_wp2_with fail
                    refine awake_c.mono ?_
                    rintro e w99 ⟨rfl, hb99⟩
                    go_wp2_with fail
                    go_ret
                    exact ⟨rfl, bonD hgE hb99⟩
                  · rw [hv] at he
                    subst he
                    have hgR := hatR.below
                    clear hatR hv HRC
                    go_wp2_with fail
                    refine awake_c.mono ?_
                    rintro e w99 ⟨rfl, hb99⟩
                    go_wp2_with fail
                    go_ret
                    exact ⟨rfl, bonD hgR hb99⟩
                  · rw [hv] at he
                    subst he
                    have hgR := hatR.below
                    clear hatR hv HRC
                    go_wp2_with fail
                    refine awake_c.mono ?_
                    rintro e w99 ⟨rfl, hb99⟩
                    go_wp2_with fail
                    go_ret
                    exact ⟨rfl, bonD hgR hb99⟩
                | some f =>
                  have hvt : validB a3 = false := by rcases hwhy with h | h; (rw [hlm] at h; cases h); exact h
                  rw [hlm] at hlk8
                  simp only [lookV, fileV, Option.isSome_some] at hlk8
                  obtain ⟨u, hu⟩ : ∃ u, u = ((f.1.length - f.2 : Nat) : Int) := ⟨_, rfl⟩
                  rw [← hu] at hlk8
                  have hsz3 : a3.size = 0 ∨ 40 < a3.size := by
                    simp only [validB, Bool.and_eq_false_iff, decide_eq_false_iff_not] at hvt; omega
                  have HS3 := Lib.hid hsz3
                  clear hlm hwhy hu hvt hsz3
                  have hatB := hat8.boxed (.cells #[.string ⟨f.1.toArray⟩, .int .i64 u] 58)
                  have HRN := rename_a hatB (hinv.good (by omega)) a2 a3
                  rw [hdp8] at HRN
                  have HRN := Lib.hid HRN
                  have hinvX := hinv.rename hat8.nodup a2 a3
                  have hplX := (renameM_plan m a2 a3).trans hpl
                  generalize renameM m a2 a3 = rn at *
                  clear hatB hown8 hb81 hb8
                  go_wp2_with fail
                  refine HRN.out.mono ?_
                  intro e w9 hp
                  obtain ⟨he, S9, hN9⟩ := hp
                  rw [HEV.out] at he
                  subst he
                  have k0 := next_boxcell hat8 hN9 0
                  have k1 := next_boxcell hat8 hN9 1
                  rw [World.cell?_alloc_at _ _ _ _ rfl] at k0 k1
                  replace k0 : w9.cell? ⟨w8.heap.size, 0, none⟩ = some (.string ⟨f.1.toArray⟩) := k0
                  replace k1 : w9.cell? ⟨w8.heap.size, 1, none⟩ = some (.int .i64 u) := k1
                  have hg15 : w8.heap.size < w9.heap.size := by have := hN9.off.size; simp at this; omega
                  have hdp9 := hN9.dp.trans hdp8
                  have hat9 := hN9.at_
                  have HF2 := files_a hat9 (hinvX.good (by omega))
                  rw [hdp9] at HF2
                  have HF2 := Lib.hid HF2
                  clear hN9 HRN hlk8 hat8
                  go_wp2_with fail
                  refine HF2.out.mono ?_
                  rintro e w10 ⟨b10, q10, rfl, howk0, hb101, hb10⟩
                  have hatX := hat9.below_next hb10
                  have hdpX := hdp9
                  replace k0 := (hb10.cell (p := ⟨w8.heap.size, 0, none⟩) hg15).trans k0
                  replace k1 := (hb10.cell (p := ⟨w8.heap.size, 1, none⟩) hg15).trans k1
                  have invX := hinvX
                  obtain ⟨mX, hmX⟩ : ∃ mX, mX = rn.1 := ⟨_, rfl⟩
                  have hlkn := run_lookM howk0 (s := a3) w3
                  have hlko := run_lookM_ok howk0 (s := a2) w2
                  rw [← hmX] at hatX invX hplX hlkn hlko
                  clear hat9 hdp9 howk0 hb101 hb10 HF2 hinvX
                  clear hlkn hlko k0 k1
                  rcases HS3.out with hz | hz
                  · have t1 : a3.toList = [] := str_eq0 hz
                    clear hz
                    go_wp2_with fail
                    clear t1
                    have HR := remove_a hatX (invX.good (by omega)) a3
                    rw [hdpX] at HR
                    have HR := Lib.hid HR
                    have hinvR := invX.remove hatX.nodup a3
                    have hplR := (removeM_plan mX a3).trans hplX
                    have hrc := remove_cases hplX a3
                    generalize removeM mX a3 = rr at *
                    have HRC := Lib.hid hrc
                    clear hrc
                    go_wp2_with fail
                    refine HR.out.mono ?_
                    intro e wR hp
                    obtain ⟨he, SR, hNR⟩ := hp
                    have hdpR := hNR.dp.trans hdpX
                    have hatR := hNR.at_
                    clear HR hNR hatX hdpX
                    rcases HRC.out with ⟨hv, hvn, hgone⟩ | hv | hv
                    · rw [hv] at he
                      subst he
                      have HF3 := files_a hatR (hinvR.good (by omega))
                      rw [hdpR] at HF3
                      have HF3 := Lib.hid HF3
                      obtain ⟨c1, c2, c3⟩ := create_new hplR hvn hgone
                      have hinvC := hinvR.create a3
                      have HHG := Lib.hid hgone
                      clear hv hvn hgone invX hplX HRC
                      go_wp2_with fail
                      refine HF3.out.mono ?_
                      rintro e wF ⟨bF, qF, rfl, hownF, hbF1, hbF⟩
                      have hatF := (hatR.below_next hbF).boxed (.cells #[.string ⟨#[]⟩, .int .i64 0] 58)
                      have hlkF := run_lookM_ok hownF (s := a3) w3
                      rw [HHG.out] at hlkF
                      simp only [lookV, fileV, Option.isSome_none] at hlkF
                      replace hlkF : (Instr.lookup 51 (.map (some bF)) (.string a3) true).run Try.prog wF = .ok (.tuple #[.agg #[.string ⟨#[]⟩, .int .i64 0], .bool false]) wF := hlkF
                      have HC1 := create_a hatF (hinvR.good (by omega)) a3
                      rw [hdpR] at HC1
                      have HC1 := Lib.hid HC1
                      have HV := Lib.hid c1
                      have HV2 := Lib.hid c2
                      have HV3 := Lib.hid c3
                      generalize createM rr.1 a3 = cc at *
                      clear c1 c2 c3 hatR hownF hbF hbF1 HF3 hatF
                      go_wp2_with fail
                      refine HC1.out.mono ?_
                      intro e wC hp
                      obtain ⟨he, SC, hNC⟩ := hp
                      rw [HV.out] at he
                      subst he
                      have hdpC := hNC.dp.trans hdpR
                      have hatC := hNC.at_
                      have HSZ := size_a hatC a3
                      rw [hdpC, HV2.out] at HSZ
                      have HSZ := Lib.hid HSZ
                      clear hNC HC1 hlkF
                      go_wp2_with fail
                      refine HSZ.out.mono ?_
                      rintro e wD ⟨rfl, hbD, hatD⟩
                      have HC2 := create_a hatD (hinvC.good (by omega)) a3
                      rw [hdpC] at HC2
                      have HC2 := Lib.hid HC2
                      generalize createM cc.1 a3 = c2 at *
                      clear HSZ hatC hbD hatD
                      go_wp2_with fail
                      refine HC2.out.mono ?_
                      intro e wE hp
                      obtain ⟨he, SE, hNE⟩ := hp
                      rw [HV3.out] at he
                      subst he
                      have hgE := hNE.at_.below
                      clear hNE HC2
                      go_wp2_with fail
                      refine awake_c.mono ?_
                      rintro e w99 ⟨rfl, hb99⟩
                      go_wp2_with fail
                      go_ret
                      exact ⟨rfl, bonD hgE hb99⟩
                    · rw [hv] at he
                      subst he
                      have hgR := hatR.below
                      clear hatR hv HRC
                      go_wp2_with fail
                      refine awake_c.mono ?_
                      rintro e w99 ⟨rfl, hb99⟩
                      go_wp2_with fail
                      go_ret
                      exact ⟨rfl, bonD hgR hb99⟩
                    · rw [hv] at he
                      subst he
                      have hgR := hatR.below
                      clear hatR hv HRC
                      go_wp2_with fail
                      refine awake_c.mono ?_
                      rintro e w99 ⟨rfl, hb99⟩
                      go_wp2_with fail
                      go_ret
                      exact ⟨rfl, bonD hgR hb99⟩
                  · obtain ⟨t1, t2, t3, t4⟩ := str_ne (show 0 < a3.size by omega)
                    have t5 : decide ((a3.size : Int) ≤ 40) = false := by simp; omega
                    have t6 : decide (a3.size ≤ 40) = false := by simp; omega
                    clear hz
                    go_wp2_with fail
                    have HR := remove_a hatX (invX.good (by omega)) a3
                    rw [hdpX] at HR
                    have HR := Lib.hid HR
                    have hinvR := invX.remove hatX.nodup a3
                    have hplR := (removeM_plan mX a3).trans hplX
                    have hrc := remove_cases hplX a3
                    generalize removeM mX a3 = rr at *
                    have HRC := Lib.hid hrc
                    clear hrc
                    go_wp2_with fail
                    refine HR.out.mono ?_
                    intro e wR hp
                    obtain ⟨he, SR, hNR⟩ := hp
                    have hdpR := hNR.dp.trans hdpX
                    have hatR := hNR.at_
                    clear HR hNR hatX hdpX
                    rcases HRC.out with ⟨hv, hvn, hgone⟩ | hv | hv
                    · rw [hv] at he
                      subst he
                      have HF3 := files_a hatR (hinvR.good (by omega))
                      rw [hdpR] at HF3
                      have HF3 := Lib.hid HF3
                      obtain ⟨c1, c2, c3⟩ := create_new hplR hvn hgone
                      have hinvC := hinvR.create a3
                      have HHG := Lib.hid hgone
                      clear hv hvn hgone invX hplX HRC
                      go_wp2_with fail
                      refine HF3.out.mono ?_
                      rintro e wF ⟨bF, qF, rfl, hownF, hbF1, hbF⟩
                      have hatF := (hatR.below_next hbF).boxed (.cells #[.string ⟨#[]⟩, .int .i64 0] 58)
                      have hlkF := run_lookM_ok hownF (s := a3) w3
                      rw [HHG.out] at hlkF
                      simp only [lookV, fileV, Option.isSome_none] at hlkF
                      replace hlkF : (Instr.lookup 51 (.map (some bF)) (.string a3) true).run Try.prog wF = .ok (.tuple #[.agg #[.string ⟨#[]⟩, .int .i64 0], .bool false]) wF := hlkF
                      have HC1 := create_a hatF (hinvR.good (by omega)) a3
                      rw [hdpR] at HC1
                      have HC1 := Lib.hid HC1
                      have HV := Lib.hid c1
                      have HV2 := Lib.hid c2
                      have HV3 := Lib.hid c3
                      generalize createM rr.1 a3 = cc at *
                      clear c1 c2 c3 hatR hownF hbF hbF1 HF3 hatF
                      go_wp2_with fail
                      refine HC1.out.mono ?_
                      intro e wC hp
                      obtain ⟨he, SC, hNC⟩ := hp
                      rw [HV.out] at he
                      subst he
                      have hdpC := hNC.dp.trans hdpR
                      have hatC := hNC.at_
                      have HSZ := size_a hatC a3
                      rw [hdpC, HV2.out] at HSZ
                      have HSZ := Lib.hid HSZ
                      clear hNC HC1 hlkF
                      go_wp2_with fail
                      refine HSZ.out.mono ?_
                      rintro e wD ⟨rfl, hbD, hatD⟩
                      have HC2 := create_a hatD (hinvC.good (by omega)) a3
                      rw [hdpC] at HC2
                      have HC2 := Lib.hid HC2
                      generalize createM cc.1 a3 = c2 at *
                      clear HSZ hatC hbD hatD
                      go_wp2_with fail
                      refine HC2.out.mono ?_
                      intro e wE hp
                      obtain ⟨he, SE, hNE⟩ := hp
                      rw [HV3.out] at he
                      subst he
                      have hgE := hNE.at_.below
                      clear hNE HC2
                      go_wp2_with fail
                      refine awake_c.mono ?_
                      rintro e w99 ⟨rfl, hb99⟩
                      go_wp2_with fail
                      go_ret
                      exact ⟨rfl, bonD hgE hb99⟩
                    · rw [hv] at he
                      subst he
                      have hgR := hatR.below
                      clear hatR hv HRC
                      go_wp2_with fail
                      refine awake_c.mono ?_
                      rintro e w99 ⟨rfl, hb99⟩
                      go_wp2_with fail
                      go_ret
                      exact ⟨rfl, bonD hgR hb99⟩
                    · rw [hv] at he
                      subst he
                      have hgR := hatR.below
                      clear hatR hv HRC
                      go_wp2_with fail
                      refine awake_c.mono ?_
                      rintro e w99 ⟨rfl, hb99⟩
                      go_wp2_with fail
                      go_ret
                      exact ⟨rfl, bonD hgR hb99⟩

set_option maxRecDepth 100000 in
theorem lifted (os : Os) (started : os.Started) (H : Type) (enc : TypeId × Value → H) :
    ReturnsInHanded {} Try.checked os 8 .any (Rows.diskNamesSpec.pre6 enc Try.prog Try.f8 Rows.diskNamesRow.domain false) (Rows.diskNamesSpec.post enc Try.prog Try.f8 false true false false) := by
  refine returnsInHanded_of_change (C := Try.checked) own started (by kernel_rfl) Try.func8
    (ChangeSpec.witness6 (enc := enc) (C := Try.checked) false ⟨#[], #[.int .i64 0, .slice none 0 0, .string ByteArray.empty, .string ByteArray.empty], []⟩ 8 (by kernel_rfl) (by kernel_rfl) (by kernel_rfl) (by kernel_rfl)) ?_
  intro W base args ds gs before hval0 hW hcnd _
  have hval : ∀ (j : Nat) t v, Try.f8.params[j]? = some t → args[j]? = some v → Value.okWide Try.prog W .any base t v := hval0
  have hW' := hW
  obtain ⟨p, q, hA0, hV, rfl, hfz, hnd⟩ := hW
  have hA : DataW.TrodAll enc Try.prog W 0 (fun _ => true) true Try.f8.params.toList args.toList ds p := hA0
  rw [Try.params8] at hA hval
  obtain ⟨v0, vs0, d0, ds0, p0, q0_, hargs, rfl, rfl, h0, r0_⟩ := trodAll_cons hA
  obtain ⟨v1, vs1, d1, ds1, p1, q1_, rfl, rfl, rfl, h1, r1_⟩ := trodAll_cons r0_
  obtain ⟨v2, vs2, d2, ds2, p2, q2_, rfl, rfl, rfl, h2, r2_⟩ := trodAll_cons r1_
  obtain ⟨v3, vs3, d3, ds3, p3, q3_, rfl, rfl, rfl, h3, r3_⟩ := trodAll_cons r2_
  obtain ⟨rfl, rfl, rfl⟩ := trodAll_nil r3_
  obtain rfl : args = #[v0, v1, v2, v3] := by cases args; simp_all
  obtain ⟨rfl, rfl⟩ := trodVars_none hV
  have kk0 := h0
  have lt0 : ∀ x ∈ p0, x.block < W.heap.size := by obtain ⟨m, hm⟩ := kk0; exact DataW.trod_lt m _ _ _ hm
  have kk1 := h1
  have lt1 : ∀ x ∈ p1, x.block < W.heap.size := by obtain ⟨m, hm⟩ := kk1; exact DataW.trod_lt m _ _ _ hm
  have kk2 := h2
  have lt2 : ∀ x ∈ p2, x.block < W.heap.size := by obtain ⟨m, hm⟩ := kk2; exact DataW.trod_lt m _ _ _ hm
  have kk3 := h3
  have lt3 : ∀ x ∈ p3, x.block < W.heap.size := by obtain ⟨m, hm⟩ := kk3; exact DataW.trod_lt m _ _ _ hm
  obtain ⟨a0, e0, _, _, w0⟩ := open_int Try.underlying3 (hval 0 _ v0 rfl rfl) h0
  subst e0
  replace w0 := bounds_i64 w0
  obtain ⟨A1, n1, c1, L1, e1, r1⟩ := open_lops h1 (hval 1 _ v1 rfl rfl)
  subst e1
  obtain ⟨a2, e2, _, _, w2⟩ := open_string Try.underlying9 (hval 2 _ v2 rfl rfl) h2
  subst e2
  obtain ⟨a3, e3, _, _, w3⟩ := open_string Try.underlying9 (hval 3 _ v3 rfl rfl) h3
  subst e3
  clear hA0 hval0
  refine (walk a0 A1 n1 c1 L1 a2 a3 W w0 r1 w2 w3).mono fun e W' ⟨he, bel⟩ => ?_
  subst he
  exact ⟨_, rfl, _, _, _, [], _, [], hW', trodAll_mk1 (shut_bool Try.underlying4 _), (trodAll_cons_mk (Below.trod laidOut (by kernel_rfl) (of_decide_eq_true (by kernel_rfl)) kk0 bel lt0) (trodAll_cons_mk (Below.trod laidOut (by kernel_rfl) (of_decide_eq_true (by kernel_rfl)) kk1 bel lt1) (trodAll_cons_mk (Below.trod laidOut (by kernel_rfl) (of_decide_eq_true (by kernel_rfl)) kk2 bel lt2) (trodAll_cons_mk (Below.trod laidOut (by kernel_rfl) (of_decide_eq_true (by kernel_rfl)) kk3 bel lt3) trodAll_mk0)))), rfl, bel.frame _, fun h => by cases h⟩

theorem over : Rows.diskNamesRow.holds Try.pinned (OpenSpec.ofChange Rows.diskNamesSpec) :=
  OpenClaim.holds_of_wide 8 Try.f8 rfl rfl rfl rfl rfl rfl rfl ⟨rfl, rfl, rfl, rfl, rfl⟩ rfl rfl rfl rfl rfl (by kernel_rfl) Try.func8 (by kernel_rfl)
    (of_decide_eq_true (by kernel_rfl)) (by unfold Func.isWrapper; first | (rw [if_pos (by decide +kernel)]; kernel_rfl) | (rw [if_neg (by decide +kernel)]; exact ⟨rfl, rfl⟩))
    (fun os started H enc _ => lifted os started H enc)

/-- The statement. -/
theorem proved : Rows.DiskNamesSaid := over
#print axioms proved
end Go.Proofs.Ytkabgebfbbkioaa.diskNames
