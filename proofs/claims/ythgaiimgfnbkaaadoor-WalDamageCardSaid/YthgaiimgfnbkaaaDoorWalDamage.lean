/-
  WalDamage: behind a record that is damaged nothing is read, whatever stands there; all ahead of it are. The package variables of the library that are read hold what their own initialisers lay.
-/
import Derived.Test.YthgaiimgfnbkaaaDoorWD
import Derived.Test.YthgaiimgfnbkaaaDoorFrB
import Derived.Test.YthgaiimgfnbkaaaDoorCards
import Derived.Test.YthgaiimgfnbkaaaDoorTie
import Derived.WalkKit
import Derived.ProofKit
import Derived.OpenShut
import Derived.ShutString
import Derived.ChangeOld
import Derived.Below
import Derived.Deep.DeepHandedRow
namespace Go.Proofs.YthgaiimgfnbkaaaDoor.walDamage
set_option maxRecDepth 100000
open Go.ChangeShapes Go.WideShapes Go.ChangeAt Go.RowKit
open Go.ChangeMaps (open_string shut_string)
set_option linter.unusedVariables false
set_option maxRecDepth 100000

theorem own : ownKnob Tryd.prog.godebug = none := by kernel_rfl
theorem laidOut : laidOutB Tryd.prog = true := by kernel_rfl

theorem fr_spot {w : World} {b n c : Nat} {e : TypeId} {A : Option Addr} {xs : List Value} (h : Fr w b e A n c xs) (hn : 0 < n) : ∃ g, A = some ⟨g, 0, none⟩ ∧ b ≤ g := by
  rcases h.own.2 with ⟨e, h0⟩ | ⟨g, cap, cur, e, hg, hh, hnc, hm, hs, ht⟩
  · injection e with e1 e2 e3
    omega
  · injection e with e1 e2 e3
    exact ⟨g, e1, hg⟩
theorem mod_int (a n : Nat) : (a : Int) % (n : Int) = ((a % n : Nat) : Int) := by simp

set_option maxHeartbeats 8000000 in
theorem walk (a0 : Nat) (A1 : Option Addr) (n1 c1 : Nat) (L1 : List OpsRow) (a2 : Nat) (a3 : Nat) (A4 : Option Addr) (n4 c4 : Nat) (l4 : List UInt8) (w : World) (w0 : (a0 : Int) ≤ 18446744073709551615) (r1 : OpsAt w A1 n1 c1 L1) (w2 : (a2 : Int) ≤ 65535) (w3 : (a3 : Int) ≤ 255) (w4 : l4.length = n4) (r4 : Rd w w.heap.size A4 n4 c4 (bv l4)) (hv : Vars w) :
    Calls Tryd.prog 4 #[.int .u64 (a0 : Int), .slice A1 n1 c1, .int .u16 (a2 : Int), .int .u8 (a3 : Int), .slice A4 n4 c4] w fun e w' => e = .returned (.bool true) ∧ Below w.heap.size w w' := by
  have HW4 := Lib.hid w4
  have HR4 := Lib.hid r4
  clear w4 r4
  obtain ⟨N, hN⟩ : ∃ N, N = min n1 12 := ⟨_, rfl⟩
  have hcap := r1.rd.cap
  have hlen1 := r1.rd.len
  have hmin : min (n1 : Int) (12 : Int) = (N : Int) := by omega
  have hmin2 : min n1 12 = N := hN.symm
  have hs1 := fun W => run_slice_hi_gen (P := Tryd.prog) (n := n1) (A := A1) 23 25 Tryd.underlying23 info_opss .i64 (k := N) (c := c1) (by omega) W
  have hR := r1.front (k := N) (by omega)
  obtain ⟨Ls, hLs⟩ : ∃ Ls, L1.take N = Ls := ⟨_, rfl⟩
  rw [hLs] at hR
  have hLl : Ls.length = N := by have := hR.rd.len; simpa using this
  have HR := Lib.hid hR
  have HLL := Lib.hid hLl
  have hN12 : (N : Int) ≤ 12 := by omega
  have hq0 : a0 ≤ 18446744073709551615 := by omega
  have g0 : Below w.heap.size w w := Below.refl _ _
  have HN := Lib.hid hN
  clear hLs hN hcap hlen1 r1 hR hLl hmin2
  go_enter Tryd.func4, Tryd.ntmps4
  go_wp2_with fail
  clear hs1 hmin
  go_loopw [32] (fun kv wr => ∃ k : Nat, kv = .int .i64 (k : Int) ∧ k ≤ N ∧ (∀ r ∈ Ls.take k, (r.n : Int) ≤ 40) ∧ Vars wr ∧ Below w.heap.size w wr) (fun kv _ => ((N : Int) - intOf kv).toNat)
  case atStart => exact ⟨0, rfl, Nat.zero_le _, fun r hr => (by cases hr), hv, g0⟩
  case round =>
    clear hv g0
    obtain ⟨k, rfl, hk, hsm, hv, gr⟩ := hrel
    by_cases hlt : k < N
    · have hdk : decide ((k : Int) < (N : Int)) = true := by simp; omega
      have hdk2 : decide (k < N) = true := by simp; omega
      obtain ⟨r, hr⟩ : ∃ r, Ls[k]? = some r := ⟨_, List.getElem?_eq_getElem (by have := HLL.out; omega)⟩
      have hmem : r ∈ Ls := List.mem_of_getElem? hr
      have ro := (HR.out.row r hmem).now gr
      obtain ⟨b0, off0, rfl, hbl0, hc0⟩ := HR.out.rd.form (by omega)
      have cr : wr.cell? ⟨b0, off0 + k, none⟩ = some (.slice r.a r.n r.c) := (gr.cell (p := ⟨b0, off0 + k, none⟩) hbl0).trans (hc0 k (.slice r.a r.n r.c) (by rw [List.getElem?_map, hr]; rfl))
      have htake : Ls.take (k + 1) = Ls.take k ++ [r] := by rw [List.take_add_one, hr]; rfl
      have HSM := Lib.hid hsm
      have HT := Lib.hid htake
      have hrl := ro.len
      clear hc0 htake hsm hr hmem
      have hRec : Recs (wr.alloc (.cells #[.int .u64 (0 : Int), .slice r.a r.n r.c] 28)) (some ⟨wr.heap.size, 0, none⟩) 1 1 [⟨0, r.a, r.n, r.c, r.L⟩] :=
        ⟨(FrW.one wr (b := 0) ⟨0, r.a, r.n, r.c, r.L⟩ rfl (Nat.zero_le _)).here, fun x hx => by
          simp only [List.mem_singleton] at hx
          subst hx
          exact ro.lay _⟩
      have hb1 := below_alloc wr (.cells #[.int .u64 (0 : Int), .slice r.a r.n r.c] 28)
      have hv1 := hv.now hb1
      have g1 := bon gr hb1
      have HF := Lib.hid (fewW_c hRec 1)
      rw [few_one] at HF
      have HV1 := Lib.hid hv1
      clear ro hb1 hRec hv gr
      have HRL := Lib.hid hrl
      clear hrl
      cases hfb : fewB r.L 140 with
      | false =>
        rw [hfb] at HF
        clear hfb
        go_wp2_with fail
        refine HF.out.mono ?_
        rintro e w2 ⟨rfl, hb2⟩
        replace g1 := bon g1 hb2
        have hv := HV1.out.now hb2
        clear hb2 HF HV1
        go_wp2_with fail
        refine (awake6_c hv).mono ?_
        rintro e w99 ⟨rfl, hb99⟩
        go_wp2_with fail
        go_ret
        exact ⟨rfl, bon g1 hb99⟩
      | true =>
        rw [hfb] at HF
        clear hfb
        by_cases h40 : r.n ≤ 40
        · have d1 : decide ((40 : Int) < (r.n : Int)) = false := by simp; omega
          have d2 : decide (40 < r.n) = false := by simp; omega
          go_wp2_with fail
          refine HF.out.mono ?_
          rintro e w2 ⟨rfl, hb2⟩
          replace g1 := bon g1 hb2
          have hv := HV1.out.now hb2
          clear hb2 HF HV1
          go_wp2_with fail
          go_roundw
          case rel =>
            refine ⟨k + 1, by simp, by omega, fun x hx => ?_, hv, g1⟩
            rw [HT.out] at hx
            rcases List.mem_append.1 hx with h | h
            · exact HSM.out x h
            · simp only [List.mem_singleton] at h
              subst h
              omega
          case measure => simp [intOf]; omega
        · have d1 : decide ((40 : Int) < (r.n : Int)) = true := by simp; omega
          have d2 : decide (40 < r.n) = true := by simp; omega
          go_wp2_with fail
          refine HF.out.mono ?_
          rintro e w2 ⟨rfl, hb2⟩
          replace g1 := bon g1 hb2
          have hv := HV1.out.now hb2
          clear hb2 HF HV1
          go_wp2_with fail
          refine (awake6_c hv).mono ?_
          rintro e w99 ⟨rfl, hb99⟩
          go_wp2_with fail
          go_ret
          exact ⟨rfl, bon g1 hb99⟩
    · obtain rfl : k = N := by omega
      have hdk : decide ((k : Int) < (k : Int)) = false := by simp
      have hdk2 : decide (k < k) = false := by simp
      rw [List.take_of_length_le (by have := HLL.out; omega)] at hsm
      have hR2 := (HR.out.now gr)
      have HSM := Lib.hid hsm
      have HR2 := Lib.hid hR2
      clear hsm hR2
      go_wp2_with fail
      refine (logged_c HR2.out (by omega) HSM.out w0).mono ?_
      rintro e w3 ⟨B1, B2, B3, m, n2, d1, d2, d3, rfl, f1, f2, f3, hb3⟩
      have hrecs := lg_recs HR2.out hb3 f1 hq0
      have hsmall := lg_small HR2.out HSM.out hq0
      obtain ⟨hch, hmN⟩ := lg_chain HR2.out hq0
      have hall := f2.here
      have hends := f3.here
      obtain ⟨R, hRR⟩ : ∃ R, (logS a0 Ls).1 = R := ⟨_, rfl⟩
      rw [hRR] at hrecs hsmall hch hmN hall hends
      obtain ⟨P, hP⟩ : ∃ P, recsOf R = P := ⟨_, rfl⟩
      rw [hP] at hch hall hends
      have hRl : R.length = m := hrecs.len
      have hPl : P.length = m := by rw [← hP, recsOf_len]; exact hRl
      have hal : (catW P).length = n2 := by have := hall.len; simpa using this
      have hn2 : (n2 : Int) ≤ 600216 := by have := (catW_len hch).2; omega
      have hm12 : (m : Int) ≤ 12 := by omega
      replace hv := hv.now hb3
      replace gr := bon gr hb3
      clear f1 f2 f3 hb3 hRR HSM HR2 hmN
      have HCH := Lib.hid hch
      have HP := Lib.hid hP
      have HRL := Lib.hid hRl
      have HPL := Lib.hid hPl
      have HAL := Lib.hid hal
      have HSL := Lib.hid hsmall
      clear hch hP hRl hPl hal hsmall
      have hr4 := HR4.out.now gr
      rcases Nat.eq_zero_or_pos n2 with h0 | h0
      · have d1 : ((n2 : Int) == 0) = true := by simp; omega
        have d1' : (n2 == 0) = true := by simp; omega
        go_wp2_with fail
        refine (awake6_c hv).mono ?_
        rintro e w99 ⟨rfl, hb99⟩
        go_wp2_with fail
        go_ret
        exact ⟨rfl, bon gr hb99⟩
      have z1 : ((n2 : Int) == 0) = false := by simp; omega
      have z1' : (n2 == 0) = false := by simp; omega
      rcases Nat.eq_zero_or_pos a3 with h3 | h3
      · have d1 : ((a3 : Int) == 0) = true := by simp; omega
        have d1' : (a3 == 0) = true := by simp; omega
        go_wp2_with fail
        refine (awake6_c hv).mono ?_
        rintro e w99 ⟨rfl, hb99⟩
        go_wp2_with fail
        go_ret
        exact ⟨rfl, bon gr hb99⟩
      have z3 : ((a3 : Int) == 0) = false := by simp; omega
      have z3' : (a3 == 0) = false := by simp; omega
      by_cases h60 : 60 < n4
      · have d1 : decide ((60 : Int) < (n4 : Int)) = true := by simp; omega
        have d1' : decide (60 < n4) = true := by simp; omega
        go_wp2_with fail
        refine (awake6_c hv).mono ?_
        rintro e w99 ⟨rfl, hb99⟩
        go_wp2_with fail
        go_ret
        exact ⟨rfl, bon gr hb99⟩
      have z4 : decide ((60 : Int) < (n4 : Int)) = false := by simp; omega
      have z4' : decide (60 < n4) = false := by simp; omega
      obtain ⟨cut, hcut⟩ : ∃ cut, cut = a2 % n2 := ⟨_, rfl⟩
      have hcl : cut < n2 := by rw [hcut]; exact Nat.mod_lt a2 h0
      have hka : (a2 : Int) % (n2 : Int) = (cut : Int) := by rw [hcut]; simp
      have hz2 : (1 : Int) ≤ (n2 : Int) := by omega
      have hn4i : (n4 : Int) ≤ 60 := by omega
      have HCL := Lib.hid hcl
      have HE := Lib.hid hends
      have HV := Lib.hid hv
      have HG := Lib.hid gr
      clear hcut hcl hends hv gr h60
      go_wp2_with fail
      go_loopw [17, 18, 75] (fun wv ev kv wr => ∃ (k mm ee : Nat), wv = .int .i64 (mm : Int) ∧ ev = .int .i64 (ee : Int) ∧ kv = .int .i64 (k : Int) ∧ k ≤ m ∧ Upto P cut k mm ee ∧ Below w3.heap.size w3 wr) (fun _ _ kv _ => ((m : Int) - intOf kv).toNat)
      case atStart => exact ⟨0, 0, 0, rfl, rfl, rfl, Nat.zero_le _, Upto.start P cut, Below.refl _ _⟩
      case round =>
        obtain ⟨k, mm, ee, rfl, rfl, rfl, hk, hu, gz⟩ := hrel
        by_cases hlt : k < m
        · have hdk : decide ((k : Int) < (m : Int)) = true := by simp; omega
          have hdk2 : decide (k < m) = true := by simp; omega
          obtain ⟨b1, off1, rfl, hbl1, hc1⟩ := HE.out.form (by omega)
          have hget := endsN_get (P := P) (i := k) (by have := HPL.out; omega)
          obtain ⟨x, hx⟩ : ∃ x, (catW (P.take (k + 1))).length = x := ⟨_, rfl⟩
          have hxb : x ≤ n2 := by rw [← hx, ← HAL.out]; exact catW_le P _
          rw [hx] at hget
          have cx : wr.cell? ⟨b1, off1 + k, none⟩ = some (.int .i64 (x : Int)) := (gz.cell (p := ⟨b1, off1 + k, none⟩) hbl1).trans (hc1 k (.int .i64 (x : Int)) (by unfold iv; rw [List.getElem?_map, hget]; rfl))
          have hmk := hu.le
          have HU := Lib.hid hu
          have HX := Lib.hid hx
          clear hc1 hget hu hx
          by_cases hle : x ≤ cut
          · have d1 : decide ((x : Int) ≤ (cut : Int)) = true := by simp; omega
            have d2 : decide (x ≤ cut) = true := by simp; omega
            go_wp2_with fail
            go_roundw
            case rel =>
              obtain ⟨h1, h2⟩ := HU.out.yes (by rw [HX.out]; exact hle)
              rw [HX.out] at h2
              exact ⟨k + 1, k + 1, x, by rw [h1]; simp, rfl, by simp, by omega, h2, gz⟩
            case measure => simp [intOf]; omega
          · have d1 : decide ((x : Int) ≤ (cut : Int)) = false := by simp; omega
            have d2 : decide (x ≤ cut) = false := by simp; omega
            go_wp2_with fail
            go_roundw
            case rel => exact ⟨k + 1, mm, ee, rfl, rfl, by simp, by omega, HU.out.no (by rw [HX.out]; omega), gz⟩
            case measure => simp [intOf]; omega
        · obtain rfl : k = m := by omega
          have hdk : decide ((k : Int) < (k : Int)) = false := by simp
          have hdk2 : decide (k < k) = false := by simp
          have hv := HV.out.now gz
          have gr := bon HG.out gz
          replace hrecs := hrecs.now gz
          replace hall := hall.now gz
          replace hr4 := hr4.now gz
          have hmm := hu.le
          have hee : ee ≤ cut := hu.under
          have hci : (cut : Int) ≤ 600216 := by have := HCL.out; omega
          by_cases h4 : cut < ee + 4
          · have y1 : decide ((cut : Int) < (ee : Int) + 4) = true := by simp; omega
            have y2 : decide (cut < ee + 4) = true := by simp; omega
            clear hu HE HV HG gz
            go_wp2_with fail
            refine (awake6_c hv).mono ?_
            rintro e w99 ⟨rfl, hb99⟩
            go_wp2_with fail
            go_ret
            exact ⟨rfl, bon gr hb99⟩
          have y1 : decide ((cut : Int) < (ee : Int) + 4) = false := by simp; omega
          have y2 : decide (cut < ee + 4) = false := by simp; omega
          have hu2 := hu
          rw [← HPL.out] at hu2
          obtain ⟨cc, hcc⟩ : ∃ cc, (catW P)[cut]? = some cc := ⟨_, List.getElem?_eq_getElem (by have := HCL.out; have := HAL.out; omega)⟩
          have hrd := bent_read HCH.out hu2 (by have := HCL.out; have := HAL.out; omega) (by omega) hcc (t := byteOf a3) (by intro h; have h2 := congrArg UInt8.toNat h; rw [byteOf_toNat (by omega)] at h2; simp at h2; omega) l4
          have hcc2 : (catW P ++ l4)[cut]? = some cc := by rw [List.getElem?_append_left (by have := HCL.out; have := HAL.out; omega)]; exact hcc
          have hx : bits .xor .u8 (cc.toNat : Int) (a3 : Int) = ((cc ^^^ byteOf a3).toNat : Int) := by
            rw [u8_xor_nat _ _ cc.toNat_lt (by omega), UInt8.toNat_xor, byteOf_toNat (by omega)]
          have hlen : ((catW P ++ l4).set cut (cc ^^^ byteOf a3)).length = n2 + n4 := by rw [List.length_set, List.length_append, HAL.out, HW4.out]
          generalize cc ^^^ byteOf a3 = dd at *
          have HRD := Lib.hid hrd
          have HCC := Lib.hid hcc2
          have HLEN := Lib.hid hlen
          have hs3 := fun W => run_slice_hi_wr (A := B1) (n := k) (c := d1) .i64 (k := mm) (by have := hrecs.rd.cap; omega) W
          have hrf := hrecs.front (k := mm) hmm
          have hcb : (cut : Int) < (n2 : Int) + (n4 : Int) := by have := HCL.out; omega
          have hsum : IntKind.i64.wrap ((n2 : Int) + (n4 : Int)) = (n2 : Int) + (n4 : Int) := by rw [IntKind.wrap_i64]; omega
          clear gz hu hu2 hrd hcc hcc2 hlen hrecs HE HV HG
          go_wp2_with (first
            | (at_builtin; refine wpList_app rfl (.tmp 91) (.tmp 92) _ rfl Tryd.underlying31 info_u8 rfl rfl (Fr.new wr 5 #[] rfl (Nat.le_refl _) (Nat.zero_le _)) rfl (hall.lay _) (bv_one _) (by omega) (by omega) (by simp) ?_; intro A6 c6 w6 hap6; have hb6 := (below_alloc wr (.cells #[] 5)).trans hap6.below; have hf6 : Fr w6 wr.heap.size 5 A6 n2 c6 (bv (catW P)) := (by simpa using hap6.fr); have hs6 := hb6.size)
            | (at_builtin; refine wpList_app rfl (.tmp 93) (.tmp 94) _ rfl Tryd.underlying31 info_u8 rfl rfl hf6 rfl (hr4.now hb6) (bv_one _) (by omega) (by omega) hs6 ?_; intro A7 c7 w7 hap7; have hb7 := hb6.trans hap7.below; have hf7 := hap7.fr; rw [← bv_append] at hf7; obtain ⟨g7, rfl, hg7⟩ := fr_spot hf7 (by omega); have c7x := hf7.cellAt HCC.out; have fz7 := hf7.own.frozenAt cut))
          have hb8 : Below wr.heap.size wr (w7.setCell ⟨g7, cut, none⟩ (.int .u8 (dd.toNat : Int))) := hb7.setCell (p := ⟨g7, cut, none⟩) hg7 _
          have hf8 := (hf7.put cut dd).here
          have hrf8 := hrf.now hb8
          have hv8 := hv.now hb8
          have gr8 := bon gr hb8
          obtain ⟨w8, hw8⟩ : ∃ w8, w7.setCell ⟨g7, cut, none⟩ (.int .u8 (dd.toNat : Int)) = w8 := ⟨_, rfl⟩
          have hw8' : w7.setCell ⟨g7, cut, none⟩ (b8 dd) = w8 := hw8
          rw [hw8'] at hf8
          rw [hw8] at hrf8 hv8 gr8 ⊢
          have HR8 := Lib.hid (read_t hf8 (by omega) HRD.out (b := true) (by rw [HLEN.out]; simp; omega))
          clear hw8 hw8' hb8 hf8 hrf hv gr hb6 hf6 hap6 hap7 hb7 hf7 c7x fz7 hs6 hall hr4 hg7
          refine HR8.out.mono ?_
          rintro e w9 ⟨G1, k1, x1, T1, rfl, hT1, t1, ts1, hb9⟩
          replace hv8 := hv8.now hb9
          replace gr8 := bon gr8 hb9
          replace hrf8 := hrf8.now hb9
          have hk1 : k1 ≤ 12 := by have h1 := t1.len; have h2 := congrArg List.length hT1; rw [recsOf_len, List.length_take] at h2; have := HPL.out; omega
          have hk1i : (k1 : Int) ≤ 12 := by omega
          have HS1 := Lib.hid (sameW_t t1 hrf8 ts1 (fun x hx => HSL.out x (List.mem_of_mem_take hx)) (by omega) (b := true) (by rw [hT1, recsOf_take, HP.out]; exact same_self _))
          have heq : ((ee : Int) == (ee : Int)) = true := by simp
          clear hb9 HR8 hT1 t1 ts1 hrf8
          go_wp2_with fail
          refine HS1.out.mono ?_
          rintro e w10 ⟨rfl, hb10⟩
          replace hv8 := hv8.now hb10
          replace gr8 := bon gr8 hb10
          clear hb10 HS1
          go_wp2_with fail
          refine (awake6_c hv8).mono ?_
          rintro e w99 ⟨rfl, hb99⟩
          go_wp2_with fail
          go_ret
          exact ⟨rfl, bon gr8 hb99⟩

theorem contract (H : Type) (enc : TypeId × Value → H) (W : World) (base : Nat) (args : Array Value) (ds gs : List (DataW H)) (before : List MemPlace)
    (hval0 : ∀ (j : Nat) t v, Tryd.f4.params[j]? = some t → args[j]? = some v → Value.okWide Tryd.prog W .any base t v)
    (hW : DataW.Whole enc Tryd.prog Tryd.f4.params.toList Rows.walDamageSpec.vars false W args.toList ds gs before) (hL : laidMetH Tryd.prog Rows.walDamageRow.laid W) :
    Calls Tryd.prog 4 args W fun e W' => ∃ v, e = .returned v ∧ Rows.walDamageSpec.post enc Tryd.prog Tryd.f4 false true false false W args v W' := by
  have hval : ∀ (j : Nat) t v, Tryd.f4.params[j]? = some t → args[j]? = some v → Value.okWide Tryd.prog W .any base t v := hval0
  have hW' := hW
  obtain ⟨p, q, hA0, hV, rfl, hfz, hnd⟩ := hW
  have hA : DataW.TrodAll enc Tryd.prog W 0 (fun _ => true) true Tryd.f4.params.toList args.toList ds p := hA0
  rw [Tryd.params4] at hA hval
  obtain ⟨v0, vs0, d0, ds0, p0, q0_, hargs, rfl, rfl, h0, r0_⟩ := trodAll_cons hA
  obtain ⟨v1, vs1, d1, ds1, p1, q1_, rfl, rfl, rfl, h1, r1_⟩ := trodAll_cons r0_
  obtain ⟨v2, vs2, d2, ds2, p2, q2_, rfl, rfl, rfl, h2, r2_⟩ := trodAll_cons r1_
  obtain ⟨v3, vs3, d3, ds3, p3, q3_, rfl, rfl, rfl, h3, r3_⟩ := trodAll_cons r2_
  obtain ⟨v4, vs4, d4, ds4, p4, q4_, rfl, rfl, rfl, h4, r4_⟩ := trodAll_cons r3_
  obtain ⟨rfl, rfl, rfl⟩ := trodAll_nil r4_
  obtain rfl : args = #[v0, v1, v2, v3, v4] := by cases args; simp_all
  obtain ⟨rfl, rfl⟩ := trodVars_none hV
  have kk0 := h0
  have lt0 : ∀ x ∈ p0, x.block < W.heap.size := by obtain ⟨m, hm⟩ := kk0; exact DataW.trod_lt m _ _ _ hm
  have kk1 := h1
  have lt1 : ∀ x ∈ p1, x.block < W.heap.size := by obtain ⟨m, hm⟩ := kk1; exact DataW.trod_lt m _ _ _ hm
  have kk2 := h2
  have lt2 : ∀ x ∈ p2, x.block < W.heap.size := by obtain ⟨m, hm⟩ := kk2; exact DataW.trod_lt m _ _ _ hm
  have kk3 := h3
  have lt3 : ∀ x ∈ p3, x.block < W.heap.size := by obtain ⟨m, hm⟩ := kk3; exact DataW.trod_lt m _ _ _ hm
  have kk4 := h4
  have lt4 : ∀ x ∈ p4, x.block < W.heap.size := by obtain ⟨m, hm⟩ := kk4; exact DataW.trod_lt m _ _ _ hm
  obtain ⟨a0, e0, _, _, w0⟩ := open_int Tryd.underlying22 (hval 0 _ v0 rfl rfl) h0
  subst e0
  replace w0 := bounds_u64 w0
  obtain ⟨a0, rfl⟩ := Int.eq_ofNat_of_zero_le w0.1
  obtain ⟨A1, n1, c1, L1, e1, r1⟩ := open_opss h1 (hval 1 _ v1 rfl rfl)
  subst e1
  obtain ⟨a2, e2, _, _, w2⟩ := open_int Tryd.underlying24 (hval 2 _ v2 rfl rfl) h2
  subst e2
  replace w2 := bounds_u16' w2
  obtain ⟨a2, rfl⟩ := Int.eq_ofNat_of_zero_le w2.1
  obtain ⟨a3, e3, _, _, w3⟩ := open_int Tryd.underlying5 (hval 3 _ v3 rfl rfl) h3
  subst e3
  replace w3 := bounds_u8 w3
  obtain ⟨a3, rfl⟩ := Int.eq_ofNat_of_zero_le w3.1
  obtain ⟨A4, n4, c4, l4, e4, w4, r4⟩ := open_bytes h4 (hval 4 _ v4 rfl rfl)
  subst e4
  clear hA0 hval0
  refine (walk a0 A1 n1 c1 L1 a2 a3 A4 n4 c4 l4 W w0.2 r1 w2.2 w3.2 w4 r4 (vars_of hL)).mono fun e W' ⟨he, bel⟩ => ?_
  subst he
  exact ⟨_, rfl, _, _, _, [], _, [], hW', trodAll_mk1 (shut_bool Tryd.underlying4 _), (trodAll_cons_mk (Below.trod laidOut (by kernel_rfl) (of_decide_eq_true (by kernel_rfl)) kk0 bel lt0) (trodAll_cons_mk (Below.trod laidOut (by kernel_rfl) (of_decide_eq_true (by kernel_rfl)) kk1 bel lt1) (trodAll_cons_mk (Below.trod laidOut (by kernel_rfl) (of_decide_eq_true (by kernel_rfl)) kk2 bel lt2) (trodAll_cons_mk (Below.trod laidOut (by kernel_rfl) (of_decide_eq_true (by kernel_rfl)) kk3 bel lt3) (trodAll_cons_mk (Below.trod laidOut (by kernel_rfl) (of_decide_eq_true (by kernel_rfl)) kk4 bel lt4) trodAll_mk0))))), rfl, bel.frame _, fun h => by cases h⟩

theorem laid_met (os : Os) : laidMet Tryd.prog Rows.walDamageRow.laid ((laidWorld os).forCall (fun _ _ => 0) ⟨#[], #[.int .u64 0, .slice none 0 0, .int .u16 0, .int .u8 0, .slice none 0 0], []⟩).memory :=
  laidMet_of_run' 8 (by kernel_rfl) (by kernel_rfl)
theorem reads (os : Os) {H : Type} (enc : TypeId × Value → H) : ∃ places, DataW.whole enc Tryd.prog ((laidWorld os).forCall (fun _ _ => 0) ⟨#[], #[.int .u64 0, .slice none 0 0, .int .u16 0, .int .u8 0, .slice none 0 0], []⟩).memory Tryd.f4.params.toList Rows.walDamageSpec.vars false (#[.int .u64 0, .slice none 0 0, .int .u16 0, .int .u8 0, .slice none 0 0] : Array Value).toList 8 = some ([.lit (.int .u64 0), .nil, .lit (.int .u16 0), .lit (.int .u8 0), .nil], [], places) :=
  ⟨[], by kernel_rfl⟩
theorem lifted (os : Os) (started : os.Started) (H : Type) (enc : TypeId × Value → H) (F0 : Stop.Interp) :
    ReturnsInHanded {} Tryd.checked os 4 .any ((OpenSpec.ofChange Rows.walDamageSpec).preRow enc Tryd.prog Tryd.f4 Rows.walDamageRow.domain false Rows.walDamageRow.laid) (((OpenSpec.ofChange Rows.walDamageSpec).at F0).post enc Tryd.prog Tryd.f4 false true false false) := by
  obtain ⟨places, hx⟩ := reads os enc
  refine returnsInHanded_of_row (C := Tryd.checked) (s := OpenSpec.ofChange Rows.walDamageSpec) own started (by kernel_rfl) Tryd.func4
    (witness_row_at (enc := enc) (C := Tryd.checked) false (laidWorld os) #[.int .u64 0, .slice none 0 0, .int .u16 0, .int .u8 0, .slice none 0 0] rfl (by kernel_rfl) (by kernel_rfl) (by kernel_rfl)
      (OpenSpec.preRow_of_cond 8 hx (by kernel_rfl) (fun k hk => by cases hk) (by kernel_rfl) (laid_met os))) ?_
  intro W base args ds gs before hval hW _ _ _ hL _ _
  exact contract H enc W base args ds gs before hval hW hL

theorem said : Rows.WalDamageSaid :=
  OpenClaim.holds_of_cond 4 Tryd.f4 rfl rfl rfl rfl rfl rfl rfl ⟨rfl, rfl, rfl, rfl, rfl⟩ rfl rfl rfl rfl rfl (by kernel_rfl) Tryd.func4 (by kernel_rfl)
    (of_decide_eq_true (by kernel_rfl)) (by unfold Func.isWrapper; first | (rw [if_pos (by decide +kernel)]; kernel_rfl) | (rw [if_neg (by decide +kernel)]; exact ⟨rfl, rfl⟩))
    (fun os started H enc _ F0 => by rw [OpenClaim.pre_eq_preRow]; exact lifted os started H enc F0)

theorem plain (f : FuncId) (fn : Func) (hf : Tryd.pinned.checked.prog.funcNamed Tryd.f4.name = some f) (hfn : Tryd.pinned.checked.prog.funcs[f]? = some fn) :
    true = Tryd.pinned.checked.prog.looks [] ∧ ∀ (j : Nat) t, fn.params[j]? = some t → Tryd.pinned.checked.prog.wantsStandIn t = false := by
  obtain rfl : f = 4 := Option.some.inj ((show Tryd.prog.funcNamed Tryd.f4.name = some 4 by kernel_rfl).symm.trans hf) |>.symm
  obtain rfl : fn = Tryd.f4 := (Option.some.inj (Tryd.func4.symm.trans hfn)).symm
  refine ⟨by kernel_rfl, fun j t ht => ?_⟩
  rw [Tryd.params4] at ht
  have hm := Array.mem_of_getElem? ht
  simp only [List.mem_toArray, List.mem_cons, List.not_mem_nil, or_false] at hm
  rcases hm with rfl | rfl | rfl | rfl | rfl
  · exact (show Tryd.prog.wantsStandIn 22 = false by kernel_rfl)
  · exact (show Tryd.prog.wantsStandIn 23 = false by kernel_rfl)
  · exact (show Tryd.prog.wantsStandIn 24 = false by kernel_rfl)
  · exact (show Tryd.prog.wantsStandIn 5 = false by kernel_rfl)
  · exact (show Tryd.prog.wantsStandIn 31 = false by kernel_rfl)

/-- The statement: the card. -/
theorem proved : Rows.WalDamageCardSaid :=
  Claim7.holds_tied_plain_at .later [] _ _ _ _ said (fun _ h => by cases h) (by kernel_rfl) (fun _ h => by cases h) walDamage_row_tie rfl ⟨rfl, rfl⟩ (by kernel_rfl) rfl plain (by kernel_rfl)
#print axioms proved
end Go.Proofs.YthgaiimgfnbkaaaDoor.walDamage
