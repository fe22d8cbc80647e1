/-
  WalFront: what is put, one behind the other, is read as it was; of a front of a log just the records that are whole in it; read again, what is used is the same. The package variables of the library that are read hold what their own initialisers lay.
-/
import Derived.Test.YthgaiimgfnbkaaaDoorWD
import Derived.Test.YthgaiimgfnbkaaaDoorCards
import Derived.Test.YthgaiimgfnbkaaaDoorTie
import Derived.WalkKit
import Derived.ProofKit
import Derived.OpenShut
import Derived.ShutString
import Derived.ChangeOld
import Derived.Below
import Derived.Deep.DeepHandedRow
namespace Go.Proofs.YthgaiimgfnbkaaaDoor.walFront
set_option maxRecDepth 100000
open Go.ChangeShapes Go.WideShapes Go.ChangeAt Go.RowKit
open Go.ChangeMaps (open_string shut_string)
set_option linter.unusedVariables false
set_option maxRecDepth 100000

theorem own : ownKnob Tryd.prog.godebug = none := by kernel_rfl
theorem laidOut : laidOutB Tryd.prog = true := by kernel_rfl

set_option maxHeartbeats 8000000 in
theorem walk (a0 : Nat) (A1 : Option Addr) (n1 c1 : Nat) (L1 : List OpsRow) (a2 : Nat) (w : World) (w0 : (a0 : Int) ≤ 18446744073709551615) (r1 : OpsAt w A1 n1 c1 L1) (w2 : (a2 : Int) ≤ 65535) (hv : Vars w) :
    Calls Tryd.prog 3 #[.int .u64 (a0 : Int), .slice A1 n1 c1, .int .u16 (a2 : Int)] w fun e w' => e = .returned (.bool true) ∧ Below w.heap.size w w' := by
  obtain ⟨N, hN⟩ : ∃ N, N = min n1 12 := ⟨_, rfl⟩
  have hcap := r1.rd.cap
  have hlen1 := r1.rd.len
  have hmin : min (n1 : Int) (12 : Int) = (N : Int) := by omega
  have hmin2 : min n1 12 = N := hN.symm
  have hs1 := fun W => run_slice_hi_gen (P := Tryd.prog) (n := n1) (A := A1) 23 25 Tryd.underlying23 info_opss .i64 (k := N) (c := c1) (by omega) W
  have hR := r1.front (k := N) (by omega)
  obtain ⟨Ls, hLs⟩ : ∃ Ls, L1.take N = Ls := ⟨_, rfl⟩
  rw [hLs] at hR
  have hLl : Ls.length = N := by have := hR.rd.len; simpa using this
  have HR := Lib.hid hR
  have HLL := Lib.hid hLl
  have hN12 : (N : Int) ≤ 12 := by omega
  have hq0 : a0 ≤ 18446744073709551615 := by omega
  have g0 : Below w.heap.size w w := Below.refl _ _
  have HN := Lib.hid hN
  clear hLs hN hcap hlen1 r1 hR hLl hmin2
  go_enter Tryd.func3, Tryd.ntmps3
  go_wp2_with fail
  clear hs1 hmin
  go_loopw [33] (fun kv wr => ∃ k : Nat, kv = .int .i64 (k : Int) ∧ k ≤ N ∧ (∀ r ∈ Ls.take k, (r.n : Int) ≤ 40) ∧ Vars wr ∧ Below w.heap.size w wr) (fun kv _ => ((N : Int) - intOf kv).toNat)
  case atStart => exact ⟨0, rfl, Nat.zero_le _, fun r hr => (by cases hr), hv, g0⟩
  case round =>
    clear hv g0
    obtain ⟨k, rfl, hk, hsm, hv, gr⟩ := hrel
    by_cases hlt : k < N
    · have hdk : decide ((k : Int) < (N : Int)) = true := by simp; omega
      have hdk2 : decide (k < N) = true := by simp; omega
      obtain ⟨r, hr⟩ : ∃ r, Ls[k]? = some r := ⟨_, List.getElem?_eq_getElem (by have := HLL.out; omega)⟩
      have hmem : r ∈ Ls := List.mem_of_getElem? hr
      have ro := (HR.out.row r hmem).now gr
      obtain ⟨b0, off0, rfl, hbl0, hc0⟩ := HR.out.rd.form (by omega)
      have cr : wr.cell? ⟨b0, off0 + k, none⟩ = some (.slice r.a r.n r.c) := (gr.cell (p := ⟨b0, off0 + k, none⟩) hbl0).trans (hc0 k (.slice r.a r.n r.c) (by rw [List.getElem?_map, hr]; rfl))
      have htake : Ls.take (k + 1) = Ls.take k ++ [r] := by rw [List.take_add_one, hr]; rfl
      have HSM := Lib.hid hsm
      have HT := Lib.hid htake
      have hrl := ro.len
      clear hc0 htake hsm hr hmem
      have hRec : Recs (wr.alloc (.cells #[.int .u64 (0 : Int), .slice r.a r.n r.c] 28)) (some ⟨wr.heap.size, 0, none⟩) 1 1 [⟨0, r.a, r.n, r.c, r.L⟩] :=
        ⟨(FrW.one wr (b := 0) ⟨0, r.a, r.n, r.c, r.L⟩ rfl (Nat.zero_le _)).here, fun x hx => by
          simp only [List.mem_singleton] at hx
          subst hx
          exact ro.lay _⟩
      have hb1 := below_alloc wr (.cells #[.int .u64 (0 : Int), .slice r.a r.n r.c] 28)
      have hv1 := hv.now hb1
      have g1 := bon gr hb1
      have HF := Lib.hid (fewW_c hRec 1)
      rw [few_one] at HF
      have HV1 := Lib.hid hv1
      clear ro hb1 hRec hv gr
      have HRL := Lib.hid hrl
      clear hrl
      cases hfb : fewB r.L 140 with
      | false =>
        rw [hfb] at HF
        clear hfb
        go_wp2_with fail
        refine HF.out.mono ?_
        rintro e w2 ⟨rfl, hb2⟩
        replace g1 := bon g1 hb2
        have hv := HV1.out.now hb2
        clear hb2 HF HV1
        go_wp2_with fail
        refine (awake6_c hv).mono ?_
        rintro e w99 ⟨rfl, hb99⟩
        go_wp2_with fail
        go_ret
        exact ⟨rfl, bon g1 hb99⟩
      | true =>
        rw [hfb] at HF
        clear hfb
        by_cases h40 : r.n ≤ 40
        · have d1 : decide ((40 : Int) < (r.n : Int)) = false := by simp; omega
          have d2 : decide (40 < r.n) = false := by simp; omega
          go_wp2_with fail
          refine HF.out.mono ?_
          rintro e w2 ⟨rfl, hb2⟩
          replace g1 := bon g1 hb2
          have hv := HV1.out.now hb2
          clear hb2 HF HV1
          go_wp2_with fail
          go_roundw
          case rel =>
            refine ⟨k + 1, by simp, by omega, fun x hx => ?_, hv, g1⟩
            rw [HT.out] at hx
            rcases List.mem_append.1 hx with h | h
            · exact HSM.out x h
            · simp only [List.mem_singleton] at h
              subst h
              omega
          case measure => simp [intOf]; omega
        · have d1 : decide ((40 : Int) < (r.n : Int)) = true := by simp; omega
          have d2 : decide (40 < r.n) = true := by simp; omega
          go_wp2_with fail
          refine HF.out.mono ?_
          rintro e w2 ⟨rfl, hb2⟩
          replace g1 := bon g1 hb2
          have hv := HV1.out.now hb2
          clear hb2 HF HV1
          go_wp2_with fail
          refine (awake6_c hv).mono ?_
          rintro e w99 ⟨rfl, hb99⟩
          go_wp2_with fail
          go_ret
          exact ⟨rfl, bon g1 hb99⟩
    · obtain rfl : k = N := by omega
      have hdk : decide ((k : Int) < (k : Int)) = false := by simp
      have hdk2 : decide (k < k) = false := by simp
      rw [List.take_of_length_le (by have := HLL.out; omega)] at hsm
      have hR2 := (HR.out.now gr)
      have HSM := Lib.hid hsm
      have HR2 := Lib.hid hR2
      clear hsm hR2
      go_wp2_with fail
      refine (logged_c HR2.out (by omega) HSM.out w0).mono ?_
      rintro e w3 ⟨B1, B2, B3, m, n2, d1, d2, d3, rfl, f1, f2, f3, hb3⟩
      have hrecs := lg_recs HR2.out hb3 f1 hq0
      have hsmall := lg_small HR2.out HSM.out hq0
      obtain ⟨hch, hmN⟩ := lg_chain HR2.out hq0
      have hall := f2.here
      have hends := f3.here
      obtain ⟨R, hRR⟩ : ∃ R, (logS a0 Ls).1 = R := ⟨_, rfl⟩
      rw [hRR] at hrecs hsmall hch hmN hall hends
      obtain ⟨P, hP⟩ : ∃ P, recsOf R = P := ⟨_, rfl⟩
      rw [hP] at hch hall hends
      have hRl : R.length = m := hrecs.len
      have hPl : P.length = m := by rw [← hP, recsOf_len]; exact hRl
      have hal : (catW P).length = n2 := by have := hall.len; simpa using this
      have hn2 : (n2 : Int) ≤ 600216 := by have := (catW_len hch).2; omega
      have hm12 : (m : Int) ≤ 12 := by omega
      replace hv := hv.now hb3
      replace gr := bon gr hb3
      clear f1 f2 f3 hb3 hRR HSM HR2 hmN
      have HCH := Lib.hid hch
      have HP := Lib.hid hP
      have HRL := Lib.hid hRl
      have HPL := Lib.hid hPl
      have HAL := Lib.hid hal
      have HSL := Lib.hid hsmall
      clear hch hP hRl hPl hal hsmall
      have HT1 := Lib.hid (isRead_all HCH.out)
      have e1 : decide ((catW P).length < (catW P).length) = false := by simp
      have HR1 := Lib.hid (read_t hall (by omega) HT1.out e1)
      rw [HAL.out] at HR1
      clear e1
      go_wp2_with fail
      refine HR1.out.mono ?_
      rintro e w4 ⟨G1, k1, x1, T1, rfl, hT1, t1, ts1, hb4⟩
      replace hv := hv.now hb4
      replace gr := bon gr hb4
      replace hrecs := hrecs.now hb4
      replace hall := hall.now hb4
      replace hends := hends.now hb4
      clear hb4 HR1
      obtain rfl : m = k1 := by have h1 := t1.len; have h2 := congrArg List.length hT1; rw [recsOf_len] at h2; have := HPL.out; omega
      have HS1 := Lib.hid (sameW_t t1 hrecs ts1 HSL.out (by omega) (b := true) (by rw [hT1, HP.out]; exact same_self _))
      have hne1 : ((n2 : Int) != (n2 : Int)) = false := by simp
      clear t1 ts1 hT1
      go_wp2_with fail
      refine HS1.out.mono ?_
      rintro e w5 ⟨rfl, hb5⟩
      replace hv := hv.now hb5
      replace gr := bon gr hb5
      replace hrecs := hrecs.now hb5
      replace hall := hall.now hb5
      replace hends := hends.now hb5
      clear hb5 HS1
      -- the cut
      obtain ⟨cut, hcut⟩ : ∃ cut, cut = a2 % (n2 + 1) := ⟨_, rfl⟩
      have hcl : cut ≤ n2 := by rw [hcut]; have := Nat.mod_lt a2 (show n2 + 1 > 0 by omega); omega
      have hka : (a2 : Int) % ((n2 : Int) + 1) = (cut : Int) := by rw [hcut]; simp
      have hz1 : ((n2 : Int) + 1 == 0) = false := by simp; omega
      have hz2 : (1 : Int) ≤ (n2 : Int) + 1 := by omega
      have HCL := Lib.hid hcl
      have HE := Lib.hid hends
      have HV := Lib.hid hv
      have HG := Lib.hid gr
      clear hcut hcl hends hv gr
      go_wp2_with fail
      go_loopw [16, 17, 83] (fun wv ev kv wr => ∃ (k mm ee : Nat), wv = .int .i64 (mm : Int) ∧ ev = .int .i64 (ee : Int) ∧ kv = .int .i64 (k : Int) ∧ k ≤ m ∧ Upto P cut k mm ee ∧ Below w5.heap.size w5 wr) (fun _ _ kv _ => ((m : Int) - intOf kv).toNat)
      case atStart => exact ⟨0, 0, 0, rfl, rfl, rfl, Nat.zero_le _, Upto.start P cut, Below.refl _ _⟩
      case round =>
        obtain ⟨k, mm, ee, rfl, rfl, rfl, hk, hu, gz⟩ := hrel
        by_cases hlt : k < m
        · have hdk : decide ((k : Int) < (m : Int)) = true := by simp; omega
          have hdk2 : decide (k < m) = true := by simp; omega
          obtain ⟨b1, off1, rfl, hbl1, hc1⟩ := HE.out.form (by omega)
          have hget := endsN_get (P := P) (i := k) (by have := HPL.out; omega)
          obtain ⟨x, hx⟩ : ∃ x, (catW (P.take (k + 1))).length = x := ⟨_, rfl⟩
          have hxb : x ≤ n2 := by rw [← hx, ← HAL.out]; exact catW_le P _
          rw [hx] at hget
          have cx : wr.cell? ⟨b1, off1 + k, none⟩ = some (.int .i64 (x : Int)) := (gz.cell (p := ⟨b1, off1 + k, none⟩) hbl1).trans (hc1 k (.int .i64 (x : Int)) (by unfold iv; rw [List.getElem?_map, hget]; rfl))
          have hmk := hu.le
          have HU := Lib.hid hu
          have HX := Lib.hid hx
          clear hc1 hget hu hx
          by_cases hle : x ≤ cut
          · have d1 : decide ((x : Int) ≤ (cut : Int)) = true := by simp; omega
            have d2 : decide (x ≤ cut) = true := by simp; omega
            go_wp2_with fail
            go_roundw
            case rel =>
              obtain ⟨h1, h2⟩ := HU.out.yes (by rw [HX.out]; exact hle)
              rw [HX.out] at h2
              exact ⟨k + 1, k + 1, x, by rw [h1]; simp, rfl, by simp, by omega, h2, gz⟩
            case measure => simp [intOf]; omega
          · have d1 : decide ((x : Int) ≤ (cut : Int)) = false := by simp; omega
            have d2 : decide (x ≤ cut) = false := by simp; omega
            go_wp2_with fail
            go_roundw
            case rel => exact ⟨k + 1, mm, ee, rfl, rfl, by simp, by omega, HU.out.no (by rw [HX.out]; omega), gz⟩
            case measure => simp [intOf]; omega
        · obtain rfl : k = m := by omega
          have hdk : decide ((k : Int) < (k : Int)) = false := by simp
          have hdk2 : decide (k < k) = false := by simp
          have hv := HV.out.now gz
          have gr := bon HG.out gz
          replace hrecs := hrecs.now gz
          replace hall := hall.now gz
          have hmm := hu.le
          have hee : ee ≤ cut := hu.under
          have hecat := hu.eq
          have hu2 := hu
          rw [← HPL.out] at hu2
          have HRD := Lib.hid (cut_read HCH.out hu2 (by have := HCL.out; have := HAL.out; omega))
          have hs2 := fun W => run_slice_hi_gen (P := Tryd.prog) (n := n2) (A := B2) 31 5 Tryd.underlying31 info_u8 .i64 (k := cut) (c := d2) (by have := hall.cap; have := HCL.out; omega) W
          have hfr := hall.front (k := cut) HCL.out
          rw [bv_take] at hfr
          have hci : (cut : Int) ≤ 600216 := by have := HCL.out; omega
          have HEC := Lib.hid hecat
          have hcutlen : ((catW P).take cut).length = cut := by rw [List.length_take]; have := HCL.out; have := HAL.out; omega
          obtain ⟨b, hb⟩ : ∃ b, decide (ee < cut) = b := ⟨_, rfl⟩
          have HR2 := Lib.hid (read_t hfr (by omega) HRD.out (b := b) (by rw [hcutlen]; exact hb))
          have hs3 := fun W => run_slice_hi_wr (A := B1) (n := k) (c := d1) .i64 (k := mm) (by have := hrecs.rd.cap; omega) W
          have hrf := hrecs.front (k := mm) hmm
          have HB := Lib.hid hb
          clear gz hu hu2 hecat hfr hcutlen HRD HE HV HG hb
          go_wp2_with fail
          refine HR2.out.mono ?_
          rintro e w6 ⟨G2, k2, x2, T2, rfl, hT2, t2, ts2, hb6⟩
          replace hv := hv.now hb6
          replace gr := bon gr hb6
          replace hrf := hrf.now hb6
          replace hall := hall.now hb6
          clear hb6 HR2 hs2
          have hk2 : k2 ≤ 12 := by have h1 := t2.len; have h2 := congrArg List.length hT2; rw [recsOf_len, List.length_take] at h2; have := HPL.out; omega
          have hk2i : (k2 : Int) ≤ 12 := by omega
          have HS2 := Lib.hid (sameW_t t2 hrf ts2 (fun x hx => HSL.out x (List.mem_of_mem_take hx)) (by omega) (b := true) (by rw [hT2, recsOf_take, HP.out]; exact same_self _))
          cases b
          · have hbi : decide ((ee : Int) < (cut : Int)) = false := by rw [← HB.out, decide_eq_decide]; omega
            have hbn : decide (ee < cut) = false := HB.out
            have hne2 : ((ee : Int) != (ee : Int)) = false := by simp
            have HT2 := Lib.hid hT2
            have HTS2 := Lib.hid ts2
            clear hT2 ts2
            go_wp2_with fail
            refine HS2.out.mono ?_
            rintro e w7 ⟨rfl, hb7⟩
            replace hv := hv.now hb7
            replace gr := bon gr hb7
            replace t2 := t2.now hb7
            replace hall := hall.now hb7
            clear hb7 HS2 hs3 hrf hrecs
            have hei : ee ≤ n2 := by have := HCL.out; omega
            have hs4 := fun W => run_slice_hi_gen (P := Tryd.prog) (n := n2) (A := B2) 31 5 Tryd.underlying31 info_u8 .i64 (k := ee) (c := d2) (by have := hall.cap; omega) W
            have hfr := hall.front (k := ee) hei
            rw [bv_take] at hfr
            have hr3 := front_read (P := P) HCH.out mm
            rw [← HEC.out] at hr3
            have hel : ((catW P).take ee).length = ee := by rw [List.length_take]; have := HAL.out; omega
            have HR3 := Lib.hid (read_t hfr (by omega) hr3 (b := false) (by rw [hel]; simp))
            have hei2 : (ee : Int) ≤ 600216 := by omega
            clear hfr hr3 hel HB
            go_wp2_with fail
            refine HR3.out.mono ?_
            rintro e w8 ⟨G3, k3, x3, T3, rfl, hT3, t3, ts3, hb8⟩
            replace hv := hv.now hb8
            replace gr := bon gr hb8
            replace t2 := t2.now hb8
            clear hb8 HR3 hs4 hall hbi hbn
            have hk3 : k3 ≤ 12 := by have h1 := t3.len; have h2 := congrArg List.length hT3; rw [recsOf_len, List.length_take] at h2; have := HPL.out; omega
            have hk3i : (k3 : Int) ≤ 12 := by omega
            have HS3 := Lib.hid (sameW_t t3 t2 ts3 HTS2.out (by omega) (b := true) (by rw [hT3, HT2.out]; exact same_self _))
            have heq : ((ee : Int) == (ee : Int)) = true := by simp
            clear hT3 ts3
            go_wp2_with fail
            refine HS3.out.mono ?_
            rintro e w9 ⟨rfl, hb9⟩
            replace hv := hv.now hb9
            replace gr := bon gr hb9
            clear hb9 HS3 t2 t3
            go_wp2_with fail
            refine (awake6_c hv).mono ?_
            rintro e w99 ⟨rfl, hb99⟩
            go_wp2_with fail
            go_ret
            exact ⟨rfl, bon gr hb99⟩
          · have hbi : decide ((ee : Int) < (cut : Int)) = true := by rw [← HB.out, decide_eq_decide]; omega
            have hbn : decide (ee < cut) = true := HB.out
            have hne2 : ((ee : Int) != (ee : Int)) = false := by simp
            have HT2 := Lib.hid hT2
            have HTS2 := Lib.hid ts2
            clear hT2 ts2
            go_wp2_with fail
            refine HS2.out.mono ?_
            rintro e w7 ⟨rfl, hb7⟩
            replace hv := hv.now hb7
            replace gr := bon gr hb7
            replace t2 := t2.now hb7
            replace hall := hall.now hb7
            clear hb7 HS2 hs3 hrf hrecs
            have hei : ee ≤ n2 := by have := HCL.out; omega
            have hs4 := fun W => run_slice_hi_gen (P := Tryd.prog) (n := n2) (A := B2) 31 5 Tryd.underlying31 info_u8 .i64 (k := ee) (c := d2) (by have := hall.cap; omega) W
            have hfr := hall.front (k := ee) hei
            rw [bv_take] at hfr
            have hr3 := front_read (P := P) HCH.out mm
            rw [← HEC.out] at hr3
            have hel : ((catW P).take ee).length = ee := by rw [List.length_take]; have := HAL.out; omega
            have HR3 := Lib.hid (read_t hfr (by omega) hr3 (b := false) (by rw [hel]; simp))
            have hei2 : (ee : Int) ≤ 600216 := by omega
            clear hfr hr3 hel HB
            go_wp2_with fail
            refine HR3.out.mono ?_
            rintro e w8 ⟨G3, k3, x3, T3, rfl, hT3, t3, ts3, hb8⟩
            replace hv := hv.now hb8
            replace gr := bon gr hb8
            replace t2 := t2.now hb8
            clear hb8 HR3 hs4 hall hbi hbn
            have hk3 : k3 ≤ 12 := by have h1 := t3.len; have h2 := congrArg List.length hT3; rw [recsOf_len, List.length_take] at h2; have := HPL.out; omega
            have hk3i : (k3 : Int) ≤ 12 := by omega
            have HS3 := Lib.hid (sameW_t t3 t2 ts3 HTS2.out (by omega) (b := true) (by rw [hT3, HT2.out]; exact same_self _))
            have heq : ((ee : Int) == (ee : Int)) = true := by simp
            clear hT3 ts3
            go_wp2_with fail
            refine HS3.out.mono ?_
            rintro e w9 ⟨rfl, hb9⟩
            replace hv := hv.now hb9
            replace gr := bon gr hb9
            clear hb9 HS3 t2 t3
            go_wp2_with fail
            refine (awake6_c hv).mono ?_
            rintro e w99 ⟨rfl, hb99⟩
            go_wp2_with fail
            go_ret
            exact ⟨rfl, bon gr hb99⟩


theorem contract (H : Type) (enc : TypeId × Value → H) (W : World) (base : Nat) (args : Array Value) (ds gs : List (DataW H)) (before : List MemPlace)
    (hval0 : ∀ (j : Nat) t v, Tryd.f3.params[j]? = some t → args[j]? = some v → Value.okWide Tryd.prog W .any base t v)
    (hW : DataW.Whole enc Tryd.prog Tryd.f3.params.toList Rows.walFrontSpec.vars false W args.toList ds gs before) (hL : laidMetH Tryd.prog Rows.walFrontRow.laid W) :
    Calls Tryd.prog 3 args W fun e W' => ∃ v, e = .returned v ∧ Rows.walFrontSpec.post enc Tryd.prog Tryd.f3 false true false false W args v W' := by
  have hval : ∀ (j : Nat) t v, Tryd.f3.params[j]? = some t → args[j]? = some v → Value.okWide Tryd.prog W .any base t v := hval0
  have hW' := hW
  obtain ⟨p, q, hA0, hV, rfl, hfz, hnd⟩ := hW
  have hA : DataW.TrodAll enc Tryd.prog W 0 (fun _ => true) true Tryd.f3.params.toList args.toList ds p := hA0
  rw [Tryd.params3] at hA hval
  obtain ⟨v0, vs0, d0, ds0, p0, q0_, hargs, rfl, rfl, h0, r0_⟩ := trodAll_cons hA
  obtain ⟨v1, vs1, d1, ds1, p1, q1_, rfl, rfl, rfl, h1, r1_⟩ := trodAll_cons r0_
  obtain ⟨v2, vs2, d2, ds2, p2, q2_, rfl, rfl, rfl, h2, r2_⟩ := trodAll_cons r1_
  obtain ⟨rfl, rfl, rfl⟩ := trodAll_nil r2_
  obtain rfl : args = #[v0, v1, v2] := by cases args; simp_all
  obtain ⟨rfl, rfl⟩ := trodVars_none hV
  have kk0 := h0
  have lt0 : ∀ x ∈ p0, x.block < W.heap.size := by obtain ⟨m, hm⟩ := kk0; exact DataW.trod_lt m _ _ _ hm
  have kk1 := h1
  have lt1 : ∀ x ∈ p1, x.block < W.heap.size := by obtain ⟨m, hm⟩ := kk1; exact DataW.trod_lt m _ _ _ hm
  have kk2 := h2
  have lt2 : ∀ x ∈ p2, x.block < W.heap.size := by obtain ⟨m, hm⟩ := kk2; exact DataW.trod_lt m _ _ _ hm
  obtain ⟨a0, e0, _, _, w0⟩ := open_int Tryd.underlying22 (hval 0 _ v0 rfl rfl) h0
  subst e0
  replace w0 := bounds_u64 w0
  obtain ⟨a0, rfl⟩ := Int.eq_ofNat_of_zero_le w0.1
  obtain ⟨A1, n1, c1, L1, e1, r1⟩ := open_opss h1 (hval 1 _ v1 rfl rfl)
  subst e1
  obtain ⟨a2, e2, _, _, w2⟩ := open_int Tryd.underlying24 (hval 2 _ v2 rfl rfl) h2
  subst e2
  replace w2 := bounds_u16' w2
  obtain ⟨a2, rfl⟩ := Int.eq_ofNat_of_zero_le w2.1
  clear hA0 hval0
  refine (walk a0 A1 n1 c1 L1 a2 W w0.2 r1 w2.2 (vars_of hL)).mono fun e W' ⟨he, bel⟩ => ?_
  subst he
  exact ⟨_, rfl, _, _, _, [], _, [], hW', trodAll_mk1 (shut_bool Tryd.underlying4 _), (trodAll_cons_mk (Below.trod laidOut (by kernel_rfl) (of_decide_eq_true (by kernel_rfl)) kk0 bel lt0) (trodAll_cons_mk (Below.trod laidOut (by kernel_rfl) (of_decide_eq_true (by kernel_rfl)) kk1 bel lt1) (trodAll_cons_mk (Below.trod laidOut (by kernel_rfl) (of_decide_eq_true (by kernel_rfl)) kk2 bel lt2) trodAll_mk0))), rfl, bel.frame _, fun h => by cases h⟩

theorem laid_met (os : Os) : laidMet Tryd.prog Rows.walFrontRow.laid ((laidWorld os).forCall (fun _ _ => 0) ⟨#[], #[.int .u64 0, .slice none 0 0, .int .u16 0], []⟩).memory :=
  laidMet_of_run' 8 (by kernel_rfl) (by kernel_rfl)
theorem reads (os : Os) {H : Type} (enc : TypeId × Value → H) : ∃ places, DataW.whole enc Tryd.prog ((laidWorld os).forCall (fun _ _ => 0) ⟨#[], #[.int .u64 0, .slice none 0 0, .int .u16 0], []⟩).memory Tryd.f3.params.toList Rows.walFrontSpec.vars false (#[.int .u64 0, .slice none 0 0, .int .u16 0] : Array Value).toList 8 = some ([.lit (.int .u64 0), .nil, .lit (.int .u16 0)], [], places) :=
  ⟨[], by kernel_rfl⟩
theorem lifted (os : Os) (started : os.Started) (H : Type) (enc : TypeId × Value → H) (F0 : Stop.Interp) :
    ReturnsInHanded {} Tryd.checked os 3 .any ((OpenSpec.ofChange Rows.walFrontSpec).preRow enc Tryd.prog Tryd.f3 Rows.walFrontRow.domain false Rows.walFrontRow.laid) (((OpenSpec.ofChange Rows.walFrontSpec).at F0).post enc Tryd.prog Tryd.f3 false true false false) := by
  obtain ⟨places, hx⟩ := reads os enc
  refine returnsInHanded_of_row (C := Tryd.checked) (s := OpenSpec.ofChange Rows.walFrontSpec) own started (by kernel_rfl) Tryd.func3
    (witness_row_at (enc := enc) (C := Tryd.checked) false (laidWorld os) #[.int .u64 0, .slice none 0 0, .int .u16 0] rfl (by kernel_rfl) (by kernel_rfl) (by kernel_rfl)
      (OpenSpec.preRow_of_cond 8 hx (by kernel_rfl) (fun k hk => by cases hk) (by kernel_rfl) (laid_met os))) ?_
  intro W base args ds gs before hval hW _ _ _ hL _ _
  exact contract H enc W base args ds gs before hval hW hL

theorem said : Rows.WalFrontSaid :=
  OpenClaim.holds_of_cond 3 Tryd.f3 rfl rfl rfl rfl rfl rfl rfl ⟨rfl, rfl, rfl, rfl, rfl⟩ rfl rfl rfl rfl rfl (by kernel_rfl) Tryd.func3 (by kernel_rfl)
    (of_decide_eq_true (by kernel_rfl)) (by unfold Func.isWrapper; first | (rw [if_pos (by decide +kernel)]; kernel_rfl) | (rw [if_neg (by decide +kernel)]; exact ⟨rfl, rfl⟩))
    (fun os started H enc _ F0 => by rw [OpenClaim.pre_eq_preRow]; exact lifted os started H enc F0)

theorem plain (f : FuncId) (fn : Func) (hf : Tryd.pinned.checked.prog.funcNamed Tryd.f3.name = some f) (hfn : Tryd.pinned.checked.prog.funcs[f]? = some fn) :
    true = Tryd.pinned.checked.prog.looks [] ∧ ∀ (j : Nat) t, fn.params[j]? = some t → Tryd.pinned.checked.prog.wantsStandIn t = false := by
  obtain rfl : f = 3 := Option.some.inj ((show Tryd.prog.funcNamed Tryd.f3.name = some 3 by kernel_rfl).symm.trans hf) |>.symm
  obtain rfl : fn = Tryd.f3 := (Option.some.inj (Tryd.func3.symm.trans hfn)).symm
  refine ⟨by kernel_rfl, fun j t ht => ?_⟩
  rw [Tryd.params3] at ht
  have hm := Array.mem_of_getElem? ht
  simp only [List.mem_toArray, List.mem_cons, List.not_mem_nil, or_false] at hm
  rcases hm with rfl | rfl | rfl
  · exact (show Tryd.prog.wantsStandIn 22 = false by kernel_rfl)
  · exact (show Tryd.prog.wantsStandIn 23 = false by kernel_rfl)
  · exact (show Tryd.prog.wantsStandIn 24 = false by kernel_rfl)

/-- The statement: the card. -/
theorem proved : Rows.WalFrontCardSaid :=
  Claim7.holds_tied_plain_at .later [] _ _ _ _ said (fun _ h => by cases h) (by kernel_rfl) (fun _ h => by cases h) walFront_row_tie rfl ⟨rfl, rfl⟩ (by kernel_rfl) rfl plain (by kernel_rfl)
#print axioms proved
end Go.Proofs.YthgaiimgfnbkaaaDoor.walFront
