/-
  Tables' names and numbers, what entries are as a table, what bytes say, what is sought, and what is told of one, is as the reference says. The package variables of the library that are read hold what their own initialisers lay.
-/
import Derived.Test.YtkdjjdkcogolmaaGreatDoorTN
import Derived.Test.YtkdjjdkcogolmaaGreatDoorU3
import Derived.Test.YtkdjjdkcogolmaaGreatDoorCards
import Derived.Test.YtkdjjdkcogolmaaGreatDoorTie
import Derived.WalkKit
import Derived.ProofKit
import Derived.OpenShut
import Derived.ShutString
import Derived.ChangeOld
import Derived.Below
import Derived.Deep.DeepHandedRow
import Derived.BigRegion
import Derived.Lib.PathFns
import Derived.StillTailTactics
namespace Go.Proofs.YtkdjjdkcogolmaaGreatDoor.tableTells
set_option maxRecDepth 100000
open Go.ChangeShapes Go.WideShapes Go.ChangeAt Go.RowKit
open Go.ChangeMaps (open_string shut_string)
set_option linter.unusedVariables false
set_option maxRecDepth 100000

theorem own : ownKnob Tryz.prog.godebug = none := by kernel_rfl
theorem laidOut : laidOutB Tryz.prog = true := by kernel_rfl

open Go.Shelf
theorem prt_len (l : List UInt8) : (prtL l).length ≤ 8192 := by
  rcases prt_cases l with ⟨_, h, _⟩ | ⟨_, h, _⟩
  · rw [h]; simp
  · exact (tblB_iff.1 h).2.1
theorem bltL_len {L : List Ent} (h : L.length ≤ 70) : (bltL L).length ≤ 130000 := by
  unfold bltL
  split
  · next hb => have := tab_bound hb (m := 70) h; omega
  · simp
/-- Two rows of bytes beside each other. -/
structure TwoB (w : World) (g : Nat) (A1 : Option Addr) (n1 c1 : Nat) (l1 : List UInt8) (A2 : Option Addr) (n2 c2 : Nat) (l2 : List UInt8) : Prop where
  lt : g < w.heap.size
  h : w.heap[g]? = some (.cells #[.slice A1 n1 c1, .slice A2 n2 c2] 24 (0, 0))
  r1 : Rd w w.heap.size A1 n1 c1 (bv l1)
  r2 : Rd w w.heap.size A2 n2 c2 (bv l2)
section
variable {w w' : World} {g n1 c1 n2 c2 : Nat} {A1 A2 : Option Addr} {l1 l2 : List UInt8}
theorem TwoB.now (h : TwoB w g A1 n1 c1 l1 A2 n2 c2 l2) (hb : Below w.heap.size w w') : TwoB w' g A1 n1 c1 l1 A2 n2 c2 l2 :=
  ⟨by have := h.lt; have := hb.size; omega, by rw [hb.block g h.lt]; exact h.h, h.r1.now hb, h.r2.now hb⟩
theorem TwoB.at_ (h : TwoB w g A1 n1 c1 l1 A2 n2 c2 l2) {k : Nat} (hk : k < 2) : ∃ (A : Option Addr) (n c : Nat) (l : List UInt8), w.cell? ⟨g, k, none⟩ = some (.slice A n c) ∧ Rd w w.heap.size A n c (bv l) ∧ (n = n1 ∨ n = n2) := by
  have h2 : k = 0 ∨ k = 1 := by omega
  rcases h2 with rfl | rfl
  · exact ⟨A1, n1, c1, l1, by simp only [World.cell?, h.h]; rfl, h.r1, .inl rfl⟩
  · exact ⟨A2, n2, c2, l2, by simp only [World.cell?, h.h]; rfl, h.r2, .inr rfl⟩
end

set_option maxHeartbeats 8000000 in
theorem walk (a0 : Nat) (a1 : ByteArray) (A2 : Option Addr) (n2 c2 : Nat) (L2 : List Ent) (A3 : Option Addr) (n3 c3 : Nat) (l3 : List UInt8) (s4 : ByteArray) (q4 k4 : Nat) (w : World) (w0 : (a0 : Int) ≤ 18446744073709551615) (w1 : a1.size ≤ maxLen) (r2 : RdE w w.heap.size A2 n2 c2 L2) (o2 : ∀ x ∈ L2, EntOk x) (w3 : l3.length = n3) (r3 : Rd w w.heap.size A3 n3 c3 (bv l3)) (w4 : s4.size ≤ maxLen) (x4 : (q4 : Int) ≤ 18446744073709551615) (y4 : (k4 : Int) ≤ 255) (hv : Vars w) :
    Calls Tryz.prog 3 #[.int .u64 (a0 : Int), .string a1, .slice A2 n2 c2, .slice A3 n3 c3, ik s4 q4 k4] w fun e w' => e = .returned (.bool true) ∧ Below w.heap.size w w' := by
  unfold ik
  have i0 := IkAt.new w s4 q4 k4
  have rr := r2.now (below_alloc w (.cells #[.string s4, .int .u64 (q4 : Int), .int .u8 (k4 : Int)] 26))
  have rb := r3.now (below_alloc w (.cells #[.string s4, .int .u64 (q4 : Int), .int .u8 (k4 : Int)] 26))
  have g0 := below_alloc w (.cells #[.string s4, .int .u64 (q4 : Int), .int .u8 (k4 : Int)] 26)
  have hv0 := hv.now (below_alloc w (.cells #[.string s4, .int .u64 (q4 : Int), .int .u8 (k4 : Int)] 26))
  have hu64 : a0 < 18446744073709551616 := by omega
  have HL0 := Lib.hid r2.len
  have hl3 : l3.length = n3 := by simpa using r3.len
  clear r2 o2 r3 w3 w4 x4 y4 hv hl3
  by_cases hlen : 60 < a1.size
  · have d1 : decide ((60 : Int) < (a1.size : Int)) = true := by simp; omega
    have d2 : decide (60 < a1.size) = true := by simpa using hlen
    have G0 := Lib.hid g0
    clear hlen hu64 rr rb i0 hv0 g0
    go_enter Tryz.func3, Tryz.ntmps3
    go_wp2_with fail
    refine (awake8_c _).mono ?_
    rintro e w99 ⟨rfl, hb99⟩
    go_wp2_with fail
    go_ret
    exact ⟨rfl, bon G0.out hb99⟩
  have d1 : decide ((60 : Int) < (a1.size : Int)) = false := by simp; omega
  have d2 : decide (60 < a1.size) = false := by simpa using hlen
  have hni : (a1.size : Int) ≤ 60 := by omega
  have HSZ := Lib.hid (show a1.size ≤ 60 by omega)
  clear hlen
  go_enter Tryz.func3, Tryz.ntmps3
  go_upto_region 1 with (fail)
  generalize hwa : w.alloc (.cells #[.string s4, .int .u64 (q4 : Int), .int .u8 (k4 : Int)] 26) = wa at *
  generalize hgk : w.heap.size = gk at i0 ⊢
  clear hwa
  obtain ⟨e0, e1, e2⟩ := i0.cells
  go_wp2_with fail
  refine (few_c rr (Nat.le_refl _) 70).mono ?_
  rintro e wb ⟨rfl, hb2⟩
  replace rr := rr.now hb2
  replace rb := rb.now hb2
  replace i0 := i0.below hb2 (Nat.le_refl _)
  replace g0 := bon g0 hb2
  replace hv0 := hv0.now hb2
  clear hb2 e0 e1 e2
  obtain ⟨e0, e1, e2⟩ := i0.cells
  cases hfew : fewB L2 70 with
  | false =>
    have G0 := Lib.hid g0
    clear g0 rr rb i0 hfew hv0
    go_wp2_with fail
    refine (awake8_c _).mono ?_
    rintro e w99 ⟨rfl, hb99⟩
    go_wp2_with fail
    go_ret
    exact ⟨rfl, bon G0.out hb99⟩
  | true =>
  have hn : n2 ≤ 70 := few_t HL0.out hfew
  clear hfew
  by_cases hrl : 2000 < n3
  · have d3 : decide ((2000 : Int) < (n3 : Int)) = true := by simp; omega
    have d3' : decide (2000 < n3) = true := by simpa using hrl
    have G0 := Lib.hid g0
    clear g0 rr rb i0 hrl hv0
    go_wp2_with fail
    refine (awake8_c _).mono ?_
    rintro e w99 ⟨rfl, hb99⟩
    go_wp2_with fail
    go_ret
    exact ⟨rfl, bon G0.out hb99⟩
  have d3 : decide ((2000 : Int) < (n3 : Int)) = false := by simp; omega
  have d3' : decide (2000 < n3) = false := by simpa using hrl
  by_cases hks : 70 < s4.size
  · have d4 : decide ((70 : Int) < (s4.size : Int)) = true := by simp; omega
    have d4' : decide (70 < s4.size) = true := by simpa using hks
    have G0 := Lib.hid g0
    clear g0 rr rb i0 hks hv0
    go_wp2_with fail
    refine (awake8_c _).mono ?_
    rintro e w99 ⟨rfl, hb99⟩
    go_wp2_with fail
    go_ret
    exact ⟨rfl, bon G0.out hb99⟩
  have d4 : decide ((70 : Int) < (s4.size : Int)) = false := by simp; omega
  have d4' : decide (70 < s4.size) = false := by simpa using hks
  have hn3 : n3 ≤ 2000 := by omega
  have HNU := Lib.hid (tnumber_c hv0 a1 (by omega))
  have HBL := Lib.hid (bltL_len (L := L2) (by have := HL0.out; omega))
  have RR := Lib.hid rr
  have RB := Lib.hid rb
  have I0 := Lib.hid i0
  have G0 := Lib.hid g0
  have HV := Lib.hid hv0
  have HU := Lib.hid hu64
  clear rr rb i0 g0 hrl hks hv0 hu64 w1
  go_wp2_with fail
  refine HNU.out.mono ?_
  rintro e wc ⟨u1, ok1, rfl, ht1, hb3⟩
  have HNR := Lib.hid (refNumber_c wc a1 HSZ.out)
  have HT1 := Lib.hid ht1
  have D0 := Lib.hid hb3
  clear ht1 hb3 HNU e0 e1 e2
  go_wp2_with fail
  refine HNR.out.mono ?_
  rintro e wd ⟨u2, ok2, rfl, ht2, hb4⟩
  obtain ⟨rfl, rfl⟩ := ht2.one HT1.out
  have D1 := Lib.hid (bon D0.out hb4)
  clear ht2 hb4 HNR HT1 D0
  have HB := Lib.hid (tbuild_t (RR.out.now D1.out) (Nat.le_refl _) (by omega) rfl rfl)
  go_wp2_with fail
  refine HB.out.mono ?_
  rintro e we ⟨A5, n5, c5, rfl, hf5, hb5⟩
  have HB2 := Lib.hid (refTBuild_c (RR.out.now (bon D1.out hb5)) (Nat.le_refl _) (by omega))
  have R5 := Lib.hid (hf5.rd (Nat.le_refl _))
  have D2 := Lib.hid (bon D1.out hb5)
  clear hf5 hb5 HB D1 RR
  go_wp2_with fail
  refine HB2.out.mono ?_
  rintro e wf ⟨A6, n6, c6, rfl, hf6, hb6⟩
  have hn6 : n6 ≤ 130000 := ret_len hf6 HBL.out
  have R6 := Lib.hid (hf6.rd (Nat.le_refl _))
  have R5b := Lib.hid (R5.out.now hb6)
  have D3 := Lib.hid (bon D2.out hb6)
  have HN1 := Lib.hid (tname_c (HV.out.now D3.out) a0 HU.out)
  have HN2 := fun (W : World) => refName_c W a0 (by have := HU.out; omega)
  obtain ⟨nm, hnm⟩ : ∃ nm : ByteArray, (⟨(tnmL a0).toArray⟩ : ByteArray) = nm := ⟨_, rfl⟩
  rw [hnm] at HN1
  simp only [hnm] at HN2
  have HN2 := Lib.hid HN2
  obtain ⟨E1, hE1⟩ : ∃ E1, bltE L2 = E1 := ⟨_, rfl⟩
  rw [hE1]
  have o1 : (E1 != E1) = false := by simp
  have o2 : (nm.toList == nm.toList) = true := by simp
  have o3 : (nm.toList != nm.toList) = false := by simp
  have o4 : (ok2 != ok2) = false := by simp
  have o5 : ((u2 : Int) != (u2 : Int)) = false := by simp
  clear hf6 hb6 HB2 R5 D2 hnm hE1 HU
  go_wp2_with fail
  refine HN1.out.mono ?_
  rintro e wg ⟨rfl, hb7⟩
  have R5c := Lib.hid (R5b.out.now hb7)
  have R6b := Lib.hid (R6.out.now hb7)
  have D4 := Lib.hid (bon D3.out hb7)
  clear hb7 HN1 R5b R6 D3
  go_wp2_with fail
  refine (HN2.out _).mono ?_
  rintro e wh ⟨rfl, hb8⟩
  have HS := Lib.hid (same_t (R5c.out.now hb8) (R6b.out.now hb8) rfl)
  have R6c := Lib.hid (R6b.out.now hb8)
  have D5 := Lib.hid (bon D4.out hb8)
  clear hb8 HN2 R5c R6b D4
  go_wp2_with fail
  refine HS.out.mono ?_
  rintro e wi ⟨rfl, rfl⟩
  have bb : Below wb.heap.size wb (wh.alloc (.cells #[.slice A3 n3 c3, .slice A6 n6 c6] 24)) := blit D5.out _
  have tw : TwoB (wh.alloc (.cells #[.slice A3 n3 c3, .slice A6 n6 c6] 24)) wh.heap.size A3 n3 c3 l3 A6 n6 c6 (bltL L2) :=
    ⟨by simp, heap_alloc_new wh _, RB.out.now bb, R6c.out.now (below_alloc wh _)⟩
  have I6 := Lib.hid (I0.out.below bb (Nat.le_refl _))
  have G6 := Lib.hid (bon G0.out bb)
  obtain ⟨gt, hgt⟩ : ∃ gt, wh.heap.size = gt := ⟨_, rfl⟩
  rw [hgt] at tw
  have TW := Lib.hid tw
  clear bb tw HS R6c RB I0 G0 D5 HV
  go_wp2_with fail
  go_loopw [105] (fun iv wr => ∃ k : Nat, iv = .int .i64 (k : Int) ∧ k ≤ 2 ∧ TwoB wr gt A3 n3 c3 l3 A6 n6 c6 (bltL L2) ∧ IkAt wr gk s4 q4 k4 ∧ Below w.heap.size w wr) (fun iv _ => ((2 : Int) - intOf iv).toNat)
  case atStart => exact ⟨0, rfl, by omega, TW.out, I6.out, G6.out⟩
  case round =>
    clear TW I6 G6 hgt
    obtain ⟨k, rfl, hk2, tw, i0, g0⟩ := hrel
    by_cases hlt : k < 2
    · obtain ⟨Ax, nx, cx, lx, z0, rx, hnx⟩ := tw.at_ hlt
      have hnx2 : nx ≤ 130000 := by omega
      have hki : (k : Int) < 2 := by omega
      have hk0 : (0 : Int) ≤ (k : Int) := by omega
      obtain ⟨X, hX⟩ : ∃ X, skT lx s4 q4 k4 = X := ⟨_, rfl⟩
      obtain ⟨ok, hok⟩ : ∃ ok, skTB lx s4 q4 k4 = ok := ⟨_, rfl⟩
      obtain ⟨E, hE⟩ : ∃ E, prtE lx = E := ⟨_, rfl⟩
      obtain ⟨M, hM⟩ : ∃ M, prtL lx = M := ⟨_, rfl⟩
      obtain ⟨MT, hMT⟩ : ∃ MT, metM a0 lx = MT := ⟨_, rfl⟩
      obtain ⟨ME, hME⟩ : ∃ ME, metE a0 lx = ME := ⟨_, rfl⟩
      have hml := prt_len lx
      have HP1 := Lib.hid (tparse_t rx (Nat.le_refl _) (by omega) hM hE)
      have HP2 := fun W (hW : Below wr.heap.size wr W) => refTParse_c (rx.now hW) (by omega)
      have HS1 := Lib.hid fun W (hW : Below wr.heap.size wr W) => tseek_t (rx.now hW) (Nat.le_refl _) (by omega) s4 (q4 : Int) (k4 : Int) q4 k4 rfl rfl hX hok hE
      have HS2 := fun W (hW : Below wr.heap.size wr W) => refTSeek_c (rx.now hW) (by omega) s4 q4 k4
      have HM1 := Lib.hid fun W (hW : Below wr.heap.size wr W) => tmeta_t (rx.now hW) (Nat.le_refl _) (by omega) (a0 : Int) a0 rfl hMT hME
      have HM2 := fun W (hW : Below wr.heap.size wr W) => refTMeta_c (rx.now hW) (Nat.le_refl _) (by omega) a0
      simp only [hX, hok, hE, hM, hMT, hME] at HS2 HP2 HM2
      unfold ik at HS2
      have HS2 := Lib.hid HS2
      have HP2 := Lib.hid HP2
      have HM2 := Lib.hid HM2
      rw [hM] at hml
      have HML := Lib.hid hml
      have Ir := Lib.hid i0
      have TW := Lib.hid tw
      have G0 := Lib.hid g0
      clear hX hok hE hM hMT hME hnx rx i0 tw g0 hml
      go_wp2_with fail
      refine HP1.out.mono ?_
      rintro e w11 ⟨A7, n7, c7, rfl, hf7, hb7⟩
      have h7 : n7 ≤ 8192 := by have := hf7.len; have := HML.out; omega
      have R7 := Lib.hid (hf7.rd (Nat.le_refl _))
      have C0 := Lib.hid hb7
      clear hf7 hb7 HP1 z0
      go_wp2_with fail
      refine (HP2.out _ C0.out).mono ?_
      rintro e wp0 ⟨A8, n8, c8, rfl, hf8, hb8⟩
      have h8 : n8 ≤ 8192 := by have := hf8.len; have := HML.out; omega
      have R8 := Lib.hid (hf8.rd (Nat.le_refl _))
      have R78 := Lib.hid (R7.out.now hb8)
      have B0 := Lib.hid (bon C0.out hb8)
      have I0 := Lib.hid (Ir.out.below B0.out (Nat.le_refl _))
      have WP0 := Lib.hid (Below.refl wp0.heap.size wp0)
      clear hf8 hb8 HP2 C0 R7
      obtain ⟨a0_, a1_, a2_⟩ := I0.out.cells
      go_wp2_with fail
      refine (HS1.out _ B0.out).mono ?_
      rintro e wq0 ⟨rfl, hq0⟩
      unfold en
      have bb : Below wr.heap.size wr (wq0.alloc (.cells #[.string X.s, .int .u64 (X.q : Int), .int .u8 (X.k : Int), .string X.v] 40)) := blit (bon B0.out hq0) _
      have bc : Below wp0.heap.size wp0 (wq0.alloc (.cells #[.string X.s, .int .u64 (X.q : Int), .int .u8 (X.k : Int), .string X.v] 40)) := blit hq0 _
      have zx := EnAt.new wq0 X
      have ik1 := I0.out.below bc (Nat.le_refl _)
      clear a0_ a1_ a2_
      go_upto_region 15 with (fail)
      obtain ⟨wp1, hwp⟩ : ∃ W, wq0.alloc (.cells #[.string X.s, .int .u64 (X.q : Int), .int .u8 (X.k : Int), .string X.v] 40) = W := ⟨_, rfl⟩
      obtain ⟨gzx, hgg⟩ : ∃ g, wq0.heap.size = g := ⟨_, rfl⟩
      rw [hwp] at bb bc ik1 zx ⊢
      rw [hgg] at zx ⊢
      have B1 := Lib.hid bb
      have WP1 := Lib.hid (bon WP0.out bc)
      have I1 := Lib.hid ik1
      have ZX := Lib.hid zx
      clear bb bc ik1 hwp hgg hq0 I0 B0 WP0 zx
      obtain ⟨a0_, a1_, a2_⟩ := I1.out.cells
      go_wp2_with fail
      refine (HS2.out _ B1.out).mono ?_
      rintro e wq1 ⟨rfl, hq1⟩
      unfold en
      have bb : Below wr.heap.size wr (wq1.alloc (.cells #[.string X.s, .int .u64 (X.q : Int), .int .u8 (X.k : Int), .string X.v] 40)) := blit (bon B1.out hq1) _
      have bc : Below wp1.heap.size wp1 (wq1.alloc (.cells #[.string X.s, .int .u64 (X.q : Int), .int .u8 (X.k : Int), .string X.v] 40)) := blit hq1 _
      have zy := EnAt.new wq1 X
      have zx := ZX.out.below bc
      have ik1 := I1.out.below bc (Nat.le_refl _)
      clear a0_ a1_ a2_
      go_upto_region 16 with (fail)
      obtain ⟨wp2, hwp⟩ : ∃ W, wq1.alloc (.cells #[.string X.s, .int .u64 (X.q : Int), .int .u8 (X.k : Int), .string X.v] 40) = W := ⟨_, rfl⟩
      obtain ⟨gzy, hgg⟩ : ∃ g, wq1.heap.size = g := ⟨_, rfl⟩
      rw [hwp] at bb bc ik1 zx zy ⊢
      rw [hgg] at zy ⊢
      have B2 := Lib.hid bb
      have WP2 := Lib.hid (bon WP1.out bc)
      have I2 := Lib.hid ik1
      have ZX := Lib.hid zx
      have ZY := Lib.hid zy
      clear bb bc ik1 hwp hgg hq1 I1 B1 WP1 zx zy
      obtain ⟨a0_, a1_, a2_⟩ := I2.out.cells
      go_wp2_with fail
      refine (HM1.out _ B2.out).mono ?_
      rintro e wq2 ⟨rfl, hq2⟩
      unfold mtv
      have bb : Below wr.heap.size wr (wq2.alloc (.cells #[.int .u64 (MT.num : Int), .int .u64 (MT.size : Int), .string MT.lo, .string MT.hi] 44)) := blit (bon B2.out hq2) _
      have bc : Below wp2.heap.size wp2 (wq2.alloc (.cells #[.int .u64 (MT.num : Int), .int .u64 (MT.size : Int), .string MT.lo, .string MT.hi] 44)) := blit hq2 _
      have mx := MtAt.new wq2 MT
      have zx := ZX.out.below bc
      have zy := ZY.out.below bc
      have ik1 := I2.out.below bc (Nat.le_refl _)
      clear a0_ a1_ a2_
      go_upto_region 17 with (fail)
      obtain ⟨wp3, hwp⟩ : ∃ W, wq2.alloc (.cells #[.int .u64 (MT.num : Int), .int .u64 (MT.size : Int), .string MT.lo, .string MT.hi] 44) = W := ⟨_, rfl⟩
      obtain ⟨gmx, hgg⟩ : ∃ g, wq2.heap.size = g := ⟨_, rfl⟩
      rw [hwp] at bb bc ik1 zx zy mx ⊢
      rw [hgg] at mx ⊢
      have B3 := Lib.hid bb
      have WP3 := Lib.hid (bon WP2.out bc)
      have I3 := Lib.hid ik1
      have ZX := Lib.hid zx
      have ZY := Lib.hid zy
      have MX := Lib.hid mx
      clear bb bc ik1 hwp hgg hq2 I2 B2 WP2 zx zy mx
      obtain ⟨a0_, a1_, a2_⟩ := I3.out.cells
      go_wp2_with fail
      refine (HM2.out _ B3.out).mono ?_
      rintro e wq3 ⟨rfl, hq3⟩
      unfold mtv
      have bb : Below wr.heap.size wr (wq3.alloc (.cells #[.int .u64 (MT.num : Int), .int .u64 (MT.size : Int), .string MT.lo, .string MT.hi] 44)) := blit (bon B3.out hq3) _
      have bc : Below wp3.heap.size wp3 (wq3.alloc (.cells #[.int .u64 (MT.num : Int), .int .u64 (MT.size : Int), .string MT.lo, .string MT.hi] 44)) := blit hq3 _
      have my := MtAt.new wq3 MT
      have zx := ZX.out.below bc
      have zy := ZY.out.below bc
      have mx := MX.out.below bc
      have ik1 := I3.out.below bc (Nat.le_refl _)
      clear a0_ a1_ a2_
      go_upto_region 18 with (fail)
      obtain ⟨wp4, hwp⟩ : ∃ W, wq3.alloc (.cells #[.int .u64 (MT.num : Int), .int .u64 (MT.size : Int), .string MT.lo, .string MT.hi] 44) = W := ⟨_, rfl⟩
      obtain ⟨gmy, hgg⟩ : ∃ g, wq3.heap.size = g := ⟨_, rfl⟩
      rw [hwp] at bb bc ik1 zx zy mx my ⊢
      rw [hgg] at my ⊢
      have B4 := Lib.hid bb
      have WP4 := Lib.hid (bon WP3.out bc)
      have I4 := Lib.hid ik1
      have ZX := Lib.hid zx
      have ZY := Lib.hid zy
      have MX := Lib.hid mx
      have MY := Lib.hid my
      clear bb bc ik1 hwp hgg hq3 I3 B3 WP3 zx zy mx my

      have HSE := Lib.hid (sameE_c (R78.out.now WP4.out) (R8.out.now WP4.out) (by omega) (by omega))
      have hse : sameEs M M = true := sameEs_iff.2 rfl
      rw [hse] at HSE
      have TW2 := Lib.hid (TW.out.now B4.out)
      have G2 := Lib.hid (bon G0.out B4.out)
      have EQ := fun W => run_same_en (x := X) (y := X) rfl W
      unfold en at EQ
      have EM := fun W => run_same_mt (x := MT) (y := MT) rfl W
      unfold mtv at EM
      have o1 : (ok != ok) = false := by simp
      have o2 : (E != E) = false := by simp
      have o3 : (ME != ME) = false := by simp
      clear hse TW G0 R78 R8 WP4 B4 Ir HS1 HS2 HM1 HM2 HML
      go_wp2_with fail
      refine HSE.out.mono ?_
      intro e w20 hq
      obtain ⟨rfl, hb20⟩ := hq.below
      have TW3 := Lib.hid (TW2.out.now hb20)
      have G3 := Lib.hid (bon G2.out hb20)
      have I5 := Lib.hid (I4.out.below hb20 (Nat.le_refl _))
      obtain ⟨x0, x1, x2, x3⟩ := (ZX.out.below hb20).cells
      obtain ⟨y0, y1, y2, y3⟩ := (ZY.out.below hb20).cells
      obtain ⟨m0, m1, m2, m3⟩ := (MX.out.below hb20).cells
      obtain ⟨m4, m5, m6, m7⟩ := (MY.out.below hb20).cells
      clear hq hb20 HSE TW2 G2 I4 ZX ZY MX MY
      go_wp2_with fail
      go_roundw
      case rel => exact ⟨k + 1, by simp, by omega, TW3.out, I5.out, G3.out⟩
      case measure => simp [intOf]; omega
    · have hki : ¬ (k : Int) < 2 := by omega
      have G0 := Lib.hid g0
      clear tw i0 g0
      go_wp2_with fail
      refine (awake8_c _).mono ?_
      rintro e w99 ⟨rfl, hb99⟩
      go_wp2_with fail
      go_ret
      exact ⟨rfl, bon G0.out hb99⟩

theorem contract (H : Type) (enc : TypeId × Value → H) (W : World) (base : Nat) (args : Array Value) (ds gs : List (DataW H)) (before : List MemPlace)
    (hval0 : ∀ (j : Nat) t v, Tryz.f3.params[j]? = some t → args[j]? = some v → Value.okWide Tryz.prog W .any base t v)
    (hW : DataW.Whole enc Tryz.prog Tryz.f3.params.toList Rows.tableTellsSpec.vars false W args.toList ds gs before) (hL : laidMetH Tryz.prog Rows.tableTellsRow.laid W) :
    Calls Tryz.prog 3 args W fun e W' => ∃ v, e = .returned v ∧ Rows.tableTellsSpec.post enc Tryz.prog Tryz.f3 false true false false W args v W' := by
  have hval : ∀ (j : Nat) t v, Tryz.f3.params[j]? = some t → args[j]? = some v → Value.okWide Tryz.prog W .any base t v := hval0
  have hW' := hW
  obtain ⟨p, q, hA0, hV, rfl, hfz, hnd⟩ := hW
  have hA : DataW.TrodAll enc Tryz.prog W 0 (fun _ => true) true Tryz.f3.params.toList args.toList ds p := hA0
  rw [Tryz.params3] at hA hval
  obtain ⟨v0, vs0, d0, ds0, p0, q0_, hargs, rfl, rfl, h0, r0_⟩ := trodAll_cons hA
  obtain ⟨v1, vs1, d1, ds1, p1, q1_, rfl, rfl, rfl, h1, r1_⟩ := trodAll_cons r0_
  obtain ⟨v2, vs2, d2, ds2, p2, q2_, rfl, rfl, rfl, h2, r2_⟩ := trodAll_cons r1_
  obtain ⟨v3, vs3, d3, ds3, p3, q3_, rfl, rfl, rfl, h3, r3_⟩ := trodAll_cons r2_
  obtain ⟨v4, vs4, d4, ds4, p4, q4_, rfl, rfl, rfl, h4, r4_⟩ := trodAll_cons r3_
  obtain ⟨rfl, rfl, rfl⟩ := trodAll_nil r4_
  obtain rfl : args = #[v0, v1, v2, v3, v4] := by cases args; simp_all
  obtain ⟨rfl, rfl⟩ := trodVars_none hV
  have kk0 := h0
  have lt0 : ∀ x ∈ p0, x.block < W.heap.size := by obtain ⟨m, hm⟩ := kk0; exact DataW.trod_lt m _ _ _ hm
  have kk1 := h1
  have lt1 : ∀ x ∈ p1, x.block < W.heap.size := by obtain ⟨m, hm⟩ := kk1; exact DataW.trod_lt m _ _ _ hm
  have kk2 := h2
  have lt2 : ∀ x ∈ p2, x.block < W.heap.size := by obtain ⟨m, hm⟩ := kk2; exact DataW.trod_lt m _ _ _ hm
  have kk3 := h3
  have lt3 : ∀ x ∈ p3, x.block < W.heap.size := by obtain ⟨m, hm⟩ := kk3; exact DataW.trod_lt m _ _ _ hm
  have kk4 := h4
  have lt4 : ∀ x ∈ p4, x.block < W.heap.size := by obtain ⟨m, hm⟩ := kk4; exact DataW.trod_lt m _ _ _ hm
  obtain ⟨a0, e0, _, _, w0⟩ := open_int Tryz.underlying22 (hval 0 _ v0 rfl rfl) h0
  subst e0
  replace w0 := bounds_u64 w0
  obtain ⟨a0, rfl⟩ := Int.eq_ofNat_of_zero_le w0.1
  obtain ⟨a1, e1, _, _, w1⟩ := open_string Tryz.underlying9 (hval 1 _ v1 rfl rfl) h1
  subst e1
  obtain ⟨A2, n2, c2, L2, e2, r2, o2⟩ := open_ents h2 (hval 2 _ v2 rfl rfl)
  subst e2
  obtain ⟨A3, n3, c3, l3, e3, w3, r3⟩ := open_bytes h3 (hval 3 _ v3 rfl rfl)
  subst e3
  obtain ⟨s4, q4, k4, e4, w4, x4, y4⟩ := open_ik (hval 4 _ v4 rfl rfl) h4
  subst e4
  clear hA0 hval0
  refine (walk a0 a1 A2 n2 c2 L2 A3 n3 c3 l3 s4 q4 k4 W w0.2 w1 r2 o2 w3 r3 w4 x4 y4 (vars_of hL)).mono fun e W' ⟨he, bel⟩ => ?_
  subst he
  exact ⟨_, rfl, _, _, _, [], _, [], hW', trodAll_mk1 (shut_bool Tryz.underlying4 _), (trodAll_cons_mk (Below.trod laidOut (by kernel_rfl) (of_decide_eq_true (by kernel_rfl)) kk0 bel lt0) (trodAll_cons_mk (Below.trod laidOut (by kernel_rfl) (of_decide_eq_true (by kernel_rfl)) kk1 bel lt1) (trodAll_cons_mk (Below.trod laidOut (by kernel_rfl) (of_decide_eq_true (by kernel_rfl)) kk2 bel lt2) (trodAll_cons_mk (Below.trod laidOut (by kernel_rfl) (of_decide_eq_true (by kernel_rfl)) kk3 bel lt3) (trodAll_cons_mk (Below.trod laidOut (by kernel_rfl) (of_decide_eq_true (by kernel_rfl)) kk4 bel lt4) trodAll_mk0))))), rfl, bel.frame _, fun h => by cases h⟩

theorem laid_met (os : Os) : laidMet Tryz.prog Rows.tableTellsRow.laid ((laidWorld os).forCall (fun _ _ => 0) ⟨#[], #[.int .u64 0, .string ByteArray.empty, .slice none 0 0, .slice none 0 0, .agg #[.string ByteArray.empty, .int .u64 0, .int .u8 0]], []⟩).memory :=
  laidMet_of_run' 8 (by kernel_rfl) (by kernel_rfl)
theorem reads (os : Os) {H : Type} (enc : TypeId × Value → H) : ∃ places, DataW.whole enc Tryz.prog ((laidWorld os).forCall (fun _ _ => 0) ⟨#[], #[.int .u64 0, .string ByteArray.empty, .slice none 0 0, .slice none 0 0, .agg #[.string ByteArray.empty, .int .u64 0, .int .u8 0]], []⟩).memory Tryz.f3.params.toList Rows.tableTellsSpec.vars false (#[.int .u64 0, .string ByteArray.empty, .slice none 0 0, .slice none 0 0, .agg #[.string ByteArray.empty, .int .u64 0, .int .u8 0]] : Array Value).toList 8 = some ([.lit (.int .u64 0), .lit (.string []), .nil, .nil, .agg [.lit (.string []), .lit (.int .u64 0), .lit (.int .u8 0)]], [], places) :=
  ⟨[], by kernel_rfl⟩
theorem lifted (os : Os) (started : os.Started) (H : Type) (enc : TypeId × Value → H) (F0 : Stop.Interp) :
    ReturnsInHanded {} Tryz.checked os 3 .any ((OpenSpec.ofChange Rows.tableTellsSpec).preRow enc Tryz.prog Tryz.f3 Rows.tableTellsRow.domain false Rows.tableTellsRow.laid) (((OpenSpec.ofChange Rows.tableTellsSpec).at F0).post enc Tryz.prog Tryz.f3 false true false false) := by
  obtain ⟨places, hx⟩ := reads os enc
  refine returnsInHanded_of_row (C := Tryz.checked) (s := OpenSpec.ofChange Rows.tableTellsSpec) own started (by kernel_rfl) Tryz.func3
    (witness_row_at (enc := enc) (C := Tryz.checked) false (laidWorld os) #[.int .u64 0, .string ByteArray.empty, .slice none 0 0, .slice none 0 0, .agg #[.string ByteArray.empty, .int .u64 0, .int .u8 0]] rfl (by kernel_rfl) (by kernel_rfl) (by kernel_rfl)
      (OpenSpec.preRow_of_cond 8 hx (by kernel_rfl) (fun k hk => by cases hk) (by kernel_rfl) (laid_met os))) ?_
  intro W base args ds gs before hval hW _ _ _ hL _ _
  exact contract H enc W base args ds gs before hval hW hL

theorem said : Rows.TableTellsSaid :=
  OpenClaim.holds_of_cond 3 Tryz.f3 rfl rfl rfl rfl rfl rfl rfl ⟨rfl, rfl, rfl, rfl, rfl⟩ rfl rfl rfl rfl rfl (by kernel_rfl) Tryz.func3 (by kernel_rfl)
    (of_decide_eq_true (by kernel_rfl)) (by unfold Func.isWrapper; first | (rw [if_pos (by decide +kernel)]; kernel_rfl) | (rw [if_neg (by decide +kernel)]; exact ⟨rfl, rfl⟩))
    (fun os started H enc _ F0 => by rw [OpenClaim.pre_eq_preRow]; exact lifted os started H enc F0)

theorem plain (f : FuncId) (fn : Func) (hf : Tryz.pinned.checked.prog.funcNamed Tryz.f3.name = some f) (hfn : Tryz.pinned.checked.prog.funcs[f]? = some fn) :
    true = Tryz.pinned.checked.prog.looks [] ∧ ∀ (j : Nat) t, fn.params[j]? = some t → Tryz.pinned.checked.prog.wantsStandIn t = false := by
  obtain rfl : f = 3 := Option.some.inj ((show Tryz.prog.funcNamed Tryz.f3.name = some 3 by kernel_rfl).symm.trans hf) |>.symm
  obtain rfl : fn = Tryz.f3 := (Option.some.inj (Tryz.func3.symm.trans hfn)).symm
  refine ⟨by kernel_rfl, fun j t ht => ?_⟩
  rw [Tryz.params3] at ht
  have hm := Array.mem_of_getElem? ht
  simp only [List.mem_toArray, List.mem_cons, List.not_mem_nil, or_false] at hm
  rcases hm with rfl | rfl | rfl | rfl | rfl
  · exact (show Tryz.prog.wantsStandIn 22 = false by kernel_rfl)
  · exact (show Tryz.prog.wantsStandIn 9 = false by kernel_rfl)
  · exact (show Tryz.prog.wantsStandIn 23 = false by kernel_rfl)
  · exact (show Tryz.prog.wantsStandIn 24 = false by kernel_rfl)
  · exact (show Tryz.prog.wantsStandIn 26 = false by kernel_rfl)

/-- The statement: the card. -/
theorem proved : Rows.TableTellsCardSaid :=
  Claim7.holds_tied_plain_at .later [] _ _ _ _ said (fun _ h => by cases h) (by kernel_rfl) (fun _ h => by cases h) tableTells_row_tie rfl ⟨rfl, rfl⟩ (by kernel_rfl) rfl plain (by kernel_rfl)
#print axioms proved
end Go.Proofs.YtkdjjdkcogolmaaGreatDoor.tableTells
