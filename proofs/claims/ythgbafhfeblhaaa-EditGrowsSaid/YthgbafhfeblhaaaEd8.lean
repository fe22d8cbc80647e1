/-
  The first byte of an edit's form, and the form: the contracts of first and form.
-/
import Derived.Test.YthgbafhfeblhaaaEd7
namespace Go.Proofs.Ythgbafhfeblhaaa
set_option maxRecDepth 100000
open Go.RowKit Go.Shelf
set_option linter.unusedSimpArgs false
set_option linter.unusedVariables false

theorem wrapu8 (x : Int) (h0 : 0 ≤ x) (h1 : x ≤ 255) : IntKind.u8.wrap x = x := by
  simp [IntKind.wrap, IntKind.bits, IntKind.signed]; omega
theorem putL_len {e : Ed} (hl : e.L.length ≤ 64) (hx : ∀ x ∈ e.L, MtOk x) (i : Nat) : (putL i e).length ≤ 11000 := by
  have h1 := metasL_len hx; have h2 := shortL_len e.L.length; have h3 := shortL_len e.a; have h4 := shortL_len e.b; have h5 := shortL_len e.c
  unfold putL
  split <;> (try simp only [List.length_append]) <;> omega
theorem saidsL_len {e : Ed} (hl : e.L.length ≤ 64) (hx : ∀ x ∈ e.L, MtOk x) : ∀ i, (saidsL i e).length ≤ i * 11000
  | 0 => by simp [saidsL]
  | i + 1 => by
    have h1 := saidsL_len hl hx i; have h2 := putL_len hl hx i
    simp only [saidsL, List.length_append, saidL]
    split <;> simp <;> omega

set_option maxRecDepth 100000 in
set_option maxHeartbeats 8000000 in
theorem first_c {w : World} {n c : Nat} {A : Option Addr} {e : Ed} (hn : e.L.length = n) : Calls Try.prog 35 #[edV A n c e] w (RetVl w (.int .u8 (firstN e : Int))) := by
  have HN := Lib.hid hn
  obtain ⟨w1, hw1⟩ : ∃ w1, w1 = w.alloc (edO A n c e) := ⟨_, rfl⟩
  have hb1 : Below w.heap.size w w1 := by rw [hw1]; exact below_alloc w _
  have hg1 : B4 w1 w.heap.size 25 (.slice A n c) (.int .u64 (e.a : Int)) (.int .u64 (e.b : Int)) (.int .u64 (e.c : Int)) := by rw [hw1]; exact B4.new _ _ _ _ _ _ rfl
  have HG1 := Lib.hid hg1
  have HB1 := Lib.hid hb1
  have HS0 := Lib.hid (fun W => saysNotes_c (w := W) (c := c) (A := A) hn)
  have HS1 := Lib.hid (fun W k (hk : OfAt W 1 k) => said1_c (n := n) (c := c) (A := A) (e := e) hk)
  have HS2 := Lib.hid (fun W k (hk : OfAt W 2 k) => said2_c (n := n) (c := c) (A := A) (e := e) hk)
  have HS3 := Lib.hid (fun W k (hk : OfAt W 3 k) => said3_c (n := n) (c := c) (A := A) (e := e) hk)
  clear hb1 hg1 hn
  unfold edO at hw1
  unfold edV at HS0 HS1 HS2 HS3
  unfold edV
  go_enter Try.func35, Try.ntmps35
  go_upto_region 1 with (fail)
  rw [← hw1]
  clear hw1
  go_wp2_with fail
  refine (parts_c _).mono ?_
  rintro e' w2 ⟨p, k1, k2, k3, rfl, hp2, hb2, hpp, _, _, _⟩
  have HP := Lib.hid hp2
  have HB2 := Lib.hid (bon HB1.out hb2)
  have HG2 := Lib.hid (HG1.out.now hb2)
  clear hp2 hb2
  go_wp2_with fail
  go_loopw [3, 8] (fun ov iv wr => ∃ (k : Nat), ov = .int .u8 (bitsN k e : Int) ∧ iv = .int .i64 (k : Int) ∧ k ≤ 4 ∧ Below w.heap.size w wr ∧ Below w2.heap.size w2 wr) (fun _ iv _ => ((4 : Int) - intOf iv).toNat)
  case atStart => exact ⟨0, rfl, rfl, by omega, HB2.out, Below.refl _ _⟩
  case round =>
    obtain ⟨k, rfl, rfl, hk4, hbr, hbr2⟩ := hrel
    have hgr := HG2.out.now hbr2
    have hpr := HP.out.now hbr2
    obtain ⟨q0, q1, q2, q3, _, _, _, _⟩ := hgr.cells
    have HGR := Lib.hid hgr
    have HPR := Lib.hid hpr
    have HBR := Lib.hid hbr
    have HBR2 := Lib.hid hbr2
    clear hgr hpr hbr hbr2
    by_cases hlt : k < 4
    · have h4 : k = 0 ∨ k = 1 ∨ k = 2 ∨ k = 3 := by omega
      rcases h4 with rfl | rfl | rfl | rfl
      · obtain ⟨y0, y1, y2, y3⟩ := HPR.out.c0
        simp only [fnV, clo] at y0 y1 y2 y3
        obtain ⟨wb, hwb⟩ : ∃ wb, wb = wr.alloc (.cells #[.int .u8 1, fnV 45, fnV 46, fnV 47] 74) := ⟨_, rfl⟩
        have hbb : Below wr.heap.size wr wb := by rw [hwb]; exact below_alloc _ _
        have hg4 : B4 wb wr.heap.size 74 (.int .u8 1) (fnV 45) (fnV 46) (fnV 47) := by rw [hwb]; exact B4.new _ _ _ _ _ _ rfl
        obtain ⟨r0, r1, r2, r3, _, _, _, _⟩ := hg4.cells
        obtain ⟨q0', q1', q2', q3', _, _, _, _⟩ := (HGR.out.now hbb).cells
        simp only [fnV, clo] at hwb r0 r1 r2 r3
        have HG4 := Lib.hid hg4
        have HBB := Lib.hid hbb
        clear hg4 hbb hlt hk4
        go_upto_region 5 with (fail)
        rw [← hwb]
        clear hwb y0 y1 y2 y3 q0 q1 q2 q3
        go_wp2_with fail
        refine (HS0.out _).mono ?_
        rintro e' w5 ⟨rfl, hb5⟩
        have hg5 := HG4.out.now hb5
        obtain ⟨s0, s1, s2, s3, _, _, _, _⟩ := hg5.cells
        have hge5 := (HGR.out.now HBB.out).now hb5
        obtain ⟨u0, u1, u2, u3, _, _, _, _⟩ := hge5.cells
        simp only [fnV, clo] at s0 s1 s2 s3
        have HB5 := Lib.hid (bon HBB.out hb5)
        have HP5 := Lib.hid ((HPR.out.now HBB.out).now hb5)
        have HB6 := Lib.hid (HBR.out.trans ((bon HBB.out hb5).mono HBR.out.size))
        have HB7 := Lib.hid (HBR2.out.trans ((bon HBB.out hb5).mono HBR2.out.size))
        clear hg5 hge5 hb5 r0 r1 r2 r3 q0' q1' q2' q3'
        cases hs : sayB 0 e with
        | true =>
          have hbit : bitN 0 e = 1 := by unfold bitN; rw [hs]; rfl
          have hlt2 := bitsN_lt 0 e
          have hw : IntKind.u8.wrap ((bitsN 0 e : Int) + 1) = ((bitsN (0 + 1) e : Nat) : Int) := by
            rw [wrapu8 _ (by omega) (by have : (2 : Nat) ^ 0 = 1 := rfl; omega)]; simp only [bitsN, hbit]; omega
          have HW := Lib.hid hw
          clear hbit hlt2 hs
          go_wp2_with fail
          go_roundw
          case rel => exact ⟨0 + 1, rfl, by simp, by omega, HB6.out, HB7.out⟩
          case measure => simp [intOf]
        | false =>
          have hbit : bitsN (0 + 1) e = bitsN 0 e := by simp [bitsN, bitN, hs]
          have HW := Lib.hid hbit
          clear hbit hs
          go_wp2_with fail
          go_roundw
          case rel => exact ⟨0 + 1, by rw [HW.out], by simp, by omega, HB6.out, HB7.out⟩
          case measure => simp [intOf]
      · obtain ⟨y0, y1, y2, y3⟩ := HPR.out.c1
        simp only [fnV, clo] at y0 y1 y2 y3
        obtain ⟨wb, hwb⟩ : ∃ wb, wb = wr.alloc (.cells #[.int .u8 2, clo 59 k1, clo 60 k1, clo 61 k1] 74) := ⟨_, rfl⟩
        have hbb : Below wr.heap.size wr wb := by rw [hwb]; exact below_alloc _ _
        have hg4 : B4 wb wr.heap.size 74 (.int .u8 2) (clo 59 k1) (clo 60 k1) (clo 61 k1) := by rw [hwb]; exact B4.new _ _ _ _ _ _ rfl
        obtain ⟨r0, r1, r2, r3, _, _, _, _⟩ := hg4.cells
        obtain ⟨q0', q1', q2', q3', _, _, _, _⟩ := (HGR.out.now hbb).cells
        simp only [fnV, clo] at hwb r0 r1 r2 r3
        have HG4 := Lib.hid hg4
        have HBB := Lib.hid hbb
        clear hg4 hbb hlt hk4
        go_upto_region 5 with (fail)
        rw [← hwb]
        clear hwb y0 y1 y2 y3 q0 q1 q2 q3
        go_wp2_with fail
        refine (HS1.out _ k1 ((HPR.out.now HBB.out).o1)).mono ?_
        rintro e' w5 ⟨rfl, hb5⟩
        have hg5 := HG4.out.now hb5
        obtain ⟨s0, s1, s2, s3, _, _, _, _⟩ := hg5.cells
        have hge5 := (HGR.out.now HBB.out).now hb5
        obtain ⟨u0, u1, u2, u3, _, _, _, _⟩ := hge5.cells
        simp only [fnV, clo] at s0 s1 s2 s3
        have HB5 := Lib.hid (bon HBB.out hb5)
        have HP5 := Lib.hid ((HPR.out.now HBB.out).now hb5)
        have HB6 := Lib.hid (HBR.out.trans ((bon HBB.out hb5).mono HBR.out.size))
        have HB7 := Lib.hid (HBR2.out.trans ((bon HBB.out hb5).mono HBR2.out.size))
        clear hg5 hge5 hb5 r0 r1 r2 r3 q0' q1' q2' q3'
        cases hs : sayB 1 e with
        | true =>
          have hbit : bitN 1 e = 2 := by unfold bitN; rw [hs]; rfl
          have hlt2 := bitsN_lt 1 e
          have hw : IntKind.u8.wrap ((bitsN 1 e : Int) + 2) = ((bitsN (1 + 1) e : Nat) : Int) := by
            rw [wrapu8 _ (by omega) (by have : (2 : Nat) ^ 1 = 2 := rfl; omega)]; simp only [bitsN, hbit]; omega
          have HW := Lib.hid hw
          clear hbit hlt2 hs
          go_wp2_with fail
          go_roundw
          case rel => exact ⟨1 + 1, rfl, by simp, by omega, HB6.out, HB7.out⟩
          case measure => simp [intOf]
        | false =>
          have hbit : bitsN (1 + 1) e = bitsN 1 e := by simp [bitsN, bitN, hs]
          have HW := Lib.hid hbit
          clear hbit hs
          go_wp2_with fail
          go_roundw
          case rel => exact ⟨1 + 1, by rw [HW.out], by simp, by omega, HB6.out, HB7.out⟩
          case measure => simp [intOf]
      · obtain ⟨y0, y1, y2, y3⟩ := HPR.out.c2
        simp only [fnV, clo] at y0 y1 y2 y3
        obtain ⟨wb, hwb⟩ : ∃ wb, wb = wr.alloc (.cells #[.int .u8 4, clo 59 k2, clo 60 k2, clo 61 k2] 74) := ⟨_, rfl⟩
        have hbb : Below wr.heap.size wr wb := by rw [hwb]; exact below_alloc _ _
        have hg4 : B4 wb wr.heap.size 74 (.int .u8 4) (clo 59 k2) (clo 60 k2) (clo 61 k2) := by rw [hwb]; exact B4.new _ _ _ _ _ _ rfl
        obtain ⟨r0, r1, r2, r3, _, _, _, _⟩ := hg4.cells
        obtain ⟨q0', q1', q2', q3', _, _, _, _⟩ := (HGR.out.now hbb).cells
        simp only [fnV, clo] at hwb r0 r1 r2 r3
        have HG4 := Lib.hid hg4
        have HBB := Lib.hid hbb
        clear hg4 hbb hlt hk4
        go_upto_region 5 with (fail)
        rw [← hwb]
        clear hwb y0 y1 y2 y3 q0 q1 q2 q3
        go_wp2_with fail
        refine (HS2.out _ k2 ((HPR.out.now HBB.out).o2)).mono ?_
        rintro e' w5 ⟨rfl, hb5⟩
        have hg5 := HG4.out.now hb5
        obtain ⟨s0, s1, s2, s3, _, _, _, _⟩ := hg5.cells
        have hge5 := (HGR.out.now HBB.out).now hb5
        obtain ⟨u0, u1, u2, u3, _, _, _, _⟩ := hge5.cells
        simp only [fnV, clo] at s0 s1 s2 s3
        have HB5 := Lib.hid (bon HBB.out hb5)
        have HP5 := Lib.hid ((HPR.out.now HBB.out).now hb5)
        have HB6 := Lib.hid (HBR.out.trans ((bon HBB.out hb5).mono HBR.out.size))
        have HB7 := Lib.hid (HBR2.out.trans ((bon HBB.out hb5).mono HBR2.out.size))
        clear hg5 hge5 hb5 r0 r1 r2 r3 q0' q1' q2' q3'
        cases hs : sayB 2 e with
        | true =>
          have hbit : bitN 2 e = 4 := by unfold bitN; rw [hs]; rfl
          have hlt2 := bitsN_lt 2 e
          have hw : IntKind.u8.wrap ((bitsN 2 e : Int) + 4) = ((bitsN (2 + 1) e : Nat) : Int) := by
            rw [wrapu8 _ (by omega) (by have : (2 : Nat) ^ 2 = 4 := rfl; omega)]; simp only [bitsN, hbit]; omega
          have HW := Lib.hid hw
          clear hbit hlt2 hs
          go_wp2_with fail
          go_roundw
          case rel => exact ⟨2 + 1, rfl, by simp, by omega, HB6.out, HB7.out⟩
          case measure => simp [intOf]
        | false =>
          have hbit : bitsN (2 + 1) e = bitsN 2 e := by simp [bitsN, bitN, hs]
          have HW := Lib.hid hbit
          clear hbit hs
          go_wp2_with fail
          go_roundw
          case rel => exact ⟨2 + 1, by rw [HW.out], by simp, by omega, HB6.out, HB7.out⟩
          case measure => simp [intOf]
      · obtain ⟨y0, y1, y2, y3⟩ := HPR.out.c3
        simp only [fnV, clo] at y0 y1 y2 y3
        obtain ⟨wb, hwb⟩ : ∃ wb, wb = wr.alloc (.cells #[.int .u8 8, clo 59 k3, clo 60 k3, clo 61 k3] 74) := ⟨_, rfl⟩
        have hbb : Below wr.heap.size wr wb := by rw [hwb]; exact below_alloc _ _
        have hg4 : B4 wb wr.heap.size 74 (.int .u8 8) (clo 59 k3) (clo 60 k3) (clo 61 k3) := by rw [hwb]; exact B4.new _ _ _ _ _ _ rfl
        obtain ⟨r0, r1, r2, r3, _, _, _, _⟩ := hg4.cells
        obtain ⟨q0', q1', q2', q3', _, _, _, _⟩ := (HGR.out.now hbb).cells
        simp only [fnV, clo] at hwb r0 r1 r2 r3
        have HG4 := Lib.hid hg4
        have HBB := Lib.hid hbb
        clear hg4 hbb hlt hk4
        go_upto_region 5 with (fail)
        rw [← hwb]
        clear hwb y0 y1 y2 y3 q0 q1 q2 q3
        go_wp2_with fail
        refine (HS3.out _ k3 ((HPR.out.now HBB.out).o3)).mono ?_
        rintro e' w5 ⟨rfl, hb5⟩
        have hg5 := HG4.out.now hb5
        obtain ⟨s0, s1, s2, s3, _, _, _, _⟩ := hg5.cells
        have hge5 := (HGR.out.now HBB.out).now hb5
        obtain ⟨u0, u1, u2, u3, _, _, _, _⟩ := hge5.cells
        simp only [fnV, clo] at s0 s1 s2 s3
        have HB5 := Lib.hid (bon HBB.out hb5)
        have HP5 := Lib.hid ((HPR.out.now HBB.out).now hb5)
        have HB6 := Lib.hid (HBR.out.trans ((bon HBB.out hb5).mono HBR.out.size))
        have HB7 := Lib.hid (HBR2.out.trans ((bon HBB.out hb5).mono HBR2.out.size))
        clear hg5 hge5 hb5 r0 r1 r2 r3 q0' q1' q2' q3'
        cases hs : sayB 3 e with
        | true =>
          have hbit : bitN 3 e = 8 := by unfold bitN; rw [hs]; rfl
          have hlt2 := bitsN_lt 3 e
          have hw : IntKind.u8.wrap ((bitsN 3 e : Int) + 8) = ((bitsN (3 + 1) e : Nat) : Int) := by
            rw [wrapu8 _ (by omega) (by have : (2 : Nat) ^ 3 = 8 := rfl; omega)]; simp only [bitsN, hbit]; omega
          have HW := Lib.hid hw
          clear hbit hlt2 hs
          go_wp2_with fail
          go_roundw
          case rel => exact ⟨3 + 1, rfl, by simp, by omega, HB6.out, HB7.out⟩
          case measure => simp [intOf]
        | false =>
          have hbit : bitsN (3 + 1) e = bitsN 3 e := by simp [bitsN, bitN, hs]
          have HW := Lib.hid hbit
          clear hbit hs
          go_wp2_with fail
          go_roundw
          case rel => exact ⟨3 + 1, by rw [HW.out], by simp, by omega, HB6.out, HB7.out⟩
          case measure => simp [intOf]
    · obtain rfl : k = 4 := by omega
      clear hlt hk4
      go_wp2_with fail
      go_ret
      exact ⟨rfl, HBR.out⟩

set_option maxRecDepth 100000 in
set_option maxHeartbeats 8000000 in
theorem form_c {w : World} {B n c : Nat} {A : Option Addr} {e : Ed} (h : RdM w B A n c e.L) (hB : B ≤ w.heap.size) (hn64 : n ≤ 64) (hok : EdOk e) : Calls Try.prog 24 #[edV A n c e] w (RetB w (formE e)) := by
  have hn := h.len
  have HN := Lib.hid hn
  have HR := Lib.hid h
  have HLE := Lib.hid (saidsL_len (by omega) hok.L)
  have HOK := Lib.hid hok
  have HFI := Lib.hid (fun W => first_c (w := W) (c := c) (A := A) hn)
  obtain ⟨w1, hw1⟩ : ∃ w1, w1 = w.alloc (edO A n c e) := ⟨_, rfl⟩
  have hb1 : Below w.heap.size w w1 := by rw [hw1]; exact below_alloc w _
  have hg1 : B4 w1 w.heap.size 25 (.slice A n c) (.int .u64 (e.a : Int)) (.int .u64 (e.b : Int)) (.int .u64 (e.c : Int)) := by rw [hw1]; exact B4.new _ _ _ _ _ _ rfl
  have HG1 := Lib.hid hg1
  have HB1 := Lib.hid hb1
  obtain ⟨q0, q1, q2, q3, _, _, _, _⟩ := hg1.cells
  have HS0 := Lib.hid (fun W => saysNotes_c (w := W) (c := c) (A := A) hn)
  have HS1 := Lib.hid (fun W k (hk : OfAt W 1 k) => said1_c (n := n) (c := c) (A := A) (e := e) hk)
  have HS2 := Lib.hid (fun W k (hk : OfAt W 2 k) => said2_c (n := n) (c := c) (A := A) (e := e) hk)
  have HS3 := Lib.hid (fun W k (hk : OfAt W 3 k) => said3_c (n := n) (c := c) (A := A) (e := e) hk)
  clear hb1 hg1 hn h hok
  unfold edO at hw1
  unfold edV at HS0 HS1 HS2 HS3 HFI
  unfold edV
  go_enter Try.func24, Try.ntmps24
  go_upto_region 1 with (fail)
  rw [← hw1]
  clear hw1
  go_wp2_with fail
  refine (HFI.out _).mono ?_
  rintro e' wq ⟨rfl, hbq⟩
  have HBq := Lib.hid (bon HB1.out hbq)
  have HGq := Lib.hid (HG1.out.now hbq)
  obtain ⟨wq2, hwq2⟩ : ∃ wq2, wq2 = wq.alloc (.cells #[.int .u8 (firstN e : Int)] 5) := ⟨_, rfl⟩
  have HBq2 := Lib.hid (show Below wq.heap.size wq wq2 by rw [hwq2]; exact below_alloc _ _)
  have HFq := Lib.hid (show Fr wq2 w.heap.size 5 (some ⟨wq.heap.size, 0, none⟩) 1 1 (bv [byteOf (firstN e)]) by
    have hl := firstN_lt e
    rw [hwq2]
    have hnew := Fr.new wq 5 #[.int .u8 (firstN e : Int)] (k := 1) rfl HBq.out.size (by decide)
    simpa [bv, b8, byteOf_toNat (show firstN e < 256 by omega)] using hnew)
  clear hbq q0 q1 q2 q3
  go_upto_region 2 with (fail)
  rw [← hwq2]
  clear hwq2
  go_wp2_with fail
  refine (parts_c _).mono ?_
  rintro e' w2 ⟨p, k1, k2, k3, rfl, hp2, hb2, hpp, _, _, _⟩
  have HP := Lib.hid hp2
  have HB2 := Lib.hid (bon (bon HBq.out HBq2.out) hb2)
  have HG2 := Lib.hid ((HGq.out.now HBq2.out).now hb2)
  have HF2 := Lib.hid (HFq.out.below hb2)
  clear hp2 hb2
  go_wp2_with fail
  go_loopw [3, 11] (fun ov iv wr => ∃ (k : Nat) (Ar : Option Addr) (nr cr : Nat), ov = .slice Ar nr cr ∧ iv = .int .i64 (k : Int) ∧ k ≤ 4 ∧ Fr wr w.heap.size 5 Ar nr cr (bv (byteOf (firstN e) :: saidsL k e)) ∧ Below w.heap.size w wr ∧ Below w2.heap.size w2 wr) (fun _ iv _ => ((4 : Int) - intOf iv).toNat)
  case atStart => exact ⟨0, some ⟨wq.heap.size, 0, none⟩, 1, 1, rfl, rfl, by omega, HF2.out, HB2.out, Below.refl _ _⟩
  case round =>
    obtain ⟨k, Ar, nr, cr, rfl, rfl, hk4, hf, hbr, hbr2⟩ := hrel
    have HF := Lib.hid hf
    clear hf
    have hgr := HG2.out.now hbr2
    have hpr := HP.out.now hbr2
    obtain ⟨q0, q1, q2, q3, _, _, _, _⟩ := hgr.cells
    have HGR := Lib.hid hgr
    have HPR := Lib.hid hpr
    have HBR := Lib.hid hbr
    have HBR2 := Lib.hid hbr2
    clear hgr hpr hbr hbr2
    by_cases hlt : k < 4
    · have h4 : k = 0 ∨ k = 1 ∨ k = 2 ∨ k = 3 := by omega
      rcases h4 with rfl | rfl | rfl | rfl
      · obtain ⟨y0, y1, y2, y3⟩ := HPR.out.c0
        simp only [fnV, clo] at y0 y1 y2 y3
        obtain ⟨wb, hwb⟩ : ∃ wb, wb = wr.alloc (.cells #[.int .u8 1, fnV 45, fnV 46, fnV 47] 74) := ⟨_, rfl⟩
        have hbb : Below wr.heap.size wr wb := by rw [hwb]; exact below_alloc _ _
        have hg4 : B4 wb wr.heap.size 74 (.int .u8 1) (fnV 45) (fnV 46) (fnV 47) := by rw [hwb]; exact B4.new _ _ _ _ _ _ rfl
        obtain ⟨r0, r1, r2, r3, _, _, _, _⟩ := hg4.cells
        obtain ⟨q0', q1', q2', q3', _, _, _, _⟩ := (HGR.out.now hbb).cells
        simp only [fnV, clo] at hwb r0 r1 r2 r3
        have HG4 := Lib.hid hg4
        have HBB := Lib.hid hbb
        clear hg4 hbb hlt hk4
        go_upto_region 5 with (fail)
        rw [← hwb]
        clear hwb y0 y1 y2 y3 q0 q1 q2 q3
        go_wp2_with fail
        refine (HS0.out _).mono ?_
        rintro e' w5 ⟨rfl, hb5⟩
        have hg5 := HG4.out.now hb5
        obtain ⟨s0, s1, s2, s3, _, _, _, _⟩ := hg5.cells
        have hge5 := (HGR.out.now HBB.out).now hb5
        obtain ⟨u0, u1, u2, u3, _, _, _, _⟩ := hge5.cells
        simp only [fnV, clo] at s0 s1 s2 s3
        have HB5 := Lib.hid (bon HBB.out hb5)
        have HP5 := Lib.hid ((HPR.out.now HBB.out).now hb5)
        have HB6 := Lib.hid (HBR.out.trans ((bon HBB.out hb5).mono HBR.out.size))
        have HB7 := Lib.hid (HBR2.out.trans ((bon HBB.out hb5).mono HBR2.out.size))
        clear hg5 hge5 hb5 r0 r1 r2 r3 q0' q1' q2' q3'
        cases hs : sayB 0 e with
        | true =>
          have HW := Lib.hid (show (byteOf (firstN e) :: saidsL (0 + 1) e) = (byteOf (firstN e) :: saidsL 0 e) ++ putL 0 e by simp [saidsL, saidL, hs])
          have HF5 := Lib.hid (HF.out.below HB5.out)
          have HRM := Lib.hid (HR.out.below (HB6.out.mono hB) (Nat.le_refl _))
          have HPC := Lib.hid (putNotes_c (HF5.out.rd (Nat.le_refl _)) (HRM.out.more (Nat.le_trans hB HB6.out.size)) (Nat.le_refl _) (by have := HF5.out.len; have := HLE.out 0; simp [saidsL] at *; omega) hn64 HOK.out.L)
          unfold edV at HPC
          clear hs
          go_wp2_with fail
          refine HPC.out.mono ?_
          rintro e' w8 ⟨A8, n8, c8, rfl, hf8, hb8⟩
          have HF8 := Lib.hid (hf8.mono HB6.out.size)
          have HB8 := Lib.hid (HB6.out.trans (hb8.mono HB6.out.size))
          have HB9 := Lib.hid (HB7.out.trans (hb8.mono HB7.out.size))
          clear hf8 hb8 s0 s1 s2 s3 u0 u1 u2 u3
          go_wp2_with fail
          go_roundw
          case rel => exact ⟨0 + 1, A8, n8, c8, rfl, by simp, by omega, by rw [HW.out]; exact HF8.out, HB8.out, HB9.out⟩
          case measure => simp [intOf]
        | false =>
          have HW := Lib.hid (show (byteOf (firstN e) :: saidsL (0 + 1) e) = (byteOf (firstN e) :: saidsL 0 e) by simp [saidsL, saidL, hs])
          have HF5 := Lib.hid (HF.out.below HB5.out)
          clear hs
          go_wp2_with fail
          go_roundw
          case rel => exact ⟨0 + 1, Ar, nr, cr, rfl, by simp, by omega, by rw [HW.out]; exact HF5.out, HB6.out, HB7.out⟩
          case measure => simp [intOf]
      · obtain ⟨y0, y1, y2, y3⟩ := HPR.out.c1
        simp only [fnV, clo] at y0 y1 y2 y3
        obtain ⟨wb, hwb⟩ : ∃ wb, wb = wr.alloc (.cells #[.int .u8 2, clo 59 k1, clo 60 k1, clo 61 k1] 74) := ⟨_, rfl⟩
        have hbb : Below wr.heap.size wr wb := by rw [hwb]; exact below_alloc _ _
        have hg4 : B4 wb wr.heap.size 74 (.int .u8 2) (clo 59 k1) (clo 60 k1) (clo 61 k1) := by rw [hwb]; exact B4.new _ _ _ _ _ _ rfl
        obtain ⟨r0, r1, r2, r3, _, _, _, _⟩ := hg4.cells
        obtain ⟨q0', q1', q2', q3', _, _, _, _⟩ := (HGR.out.now hbb).cells
        simp only [fnV, clo] at hwb r0 r1 r2 r3
        have HG4 := Lib.hid hg4
        have HBB := Lib.hid hbb
        clear hg4 hbb hlt hk4
        go_upto_region 5 with (fail)
        rw [← hwb]
        clear hwb y0 y1 y2 y3 q0 q1 q2 q3
        go_wp2_with fail
        refine (HS1.out _ k1 ((HPR.out.now HBB.out).o1)).mono ?_
        rintro e' w5 ⟨rfl, hb5⟩
        have hg5 := HG4.out.now hb5
        obtain ⟨s0, s1, s2, s3, _, _, _, _⟩ := hg5.cells
        have hge5 := (HGR.out.now HBB.out).now hb5
        obtain ⟨u0, u1, u2, u3, _, _, _, _⟩ := hge5.cells
        simp only [fnV, clo] at s0 s1 s2 s3
        have HB5 := Lib.hid (bon HBB.out hb5)
        have HP5 := Lib.hid ((HPR.out.now HBB.out).now hb5)
        have HB6 := Lib.hid (HBR.out.trans ((bon HBB.out hb5).mono HBR.out.size))
        have HB7 := Lib.hid (HBR2.out.trans ((bon HBB.out hb5).mono HBR2.out.size))
        clear hg5 hge5 hb5 r0 r1 r2 r3 q0' q1' q2' q3'
        cases hs : sayB 1 e with
        | true =>
          have HW := Lib.hid (show (byteOf (firstN e) :: saidsL (1 + 1) e) = (byteOf (firstN e) :: saidsL 1 e) ++ putL 1 e by simp [saidsL, saidL, hs])
          have HF5 := Lib.hid (HF.out.below HB5.out)
          have HRM := Lib.hid (HR.out.below (HB6.out.mono hB) (Nat.le_refl _))
          have HPC := Lib.hid (put1_c (n := n) (c := c) (A := A) (e := e) HP5.out.o1 (HF5.out.rd (Nat.le_refl _)) (Nat.le_refl _) (by have := HF5.out.len; have := HLE.out 1; simp at *; omega) HOK.out.N)
          unfold edV at HPC
          clear hs
          go_wp2_with fail
          refine HPC.out.mono ?_
          rintro e' w8 ⟨A8, n8, c8, rfl, hf8, hb8⟩
          have HF8 := Lib.hid (hf8.mono HB6.out.size)
          have HB8 := Lib.hid (HB6.out.trans (hb8.mono HB6.out.size))
          have HB9 := Lib.hid (HB7.out.trans (hb8.mono HB7.out.size))
          clear hf8 hb8 s0 s1 s2 s3 u0 u1 u2 u3
          go_wp2_with fail
          go_roundw
          case rel => exact ⟨1 + 1, A8, n8, c8, rfl, by simp, by omega, by rw [HW.out]; exact HF8.out, HB8.out, HB9.out⟩
          case measure => simp [intOf]
        | false =>
          have HW := Lib.hid (show (byteOf (firstN e) :: saidsL (1 + 1) e) = (byteOf (firstN e) :: saidsL 1 e) by simp [saidsL, saidL, hs])
          have HF5 := Lib.hid (HF.out.below HB5.out)
          clear hs
          go_wp2_with fail
          go_roundw
          case rel => exact ⟨1 + 1, Ar, nr, cr, rfl, by simp, by omega, by rw [HW.out]; exact HF5.out, HB6.out, HB7.out⟩
          case measure => simp [intOf]
      · obtain ⟨y0, y1, y2, y3⟩ := HPR.out.c2
        simp only [fnV, clo] at y0 y1 y2 y3
        obtain ⟨wb, hwb⟩ : ∃ wb, wb = wr.alloc (.cells #[.int .u8 4, clo 59 k2, clo 60 k2, clo 61 k2] 74) := ⟨_, rfl⟩
        have hbb : Below wr.heap.size wr wb := by rw [hwb]; exact below_alloc _ _
        have hg4 : B4 wb wr.heap.size 74 (.int .u8 4) (clo 59 k2) (clo 60 k2) (clo 61 k2) := by rw [hwb]; exact B4.new _ _ _ _ _ _ rfl
        obtain ⟨r0, r1, r2, r3, _, _, _, _⟩ := hg4.cells
        obtain ⟨q0', q1', q2', q3', _, _, _, _⟩ := (HGR.out.now hbb).cells
        simp only [fnV, clo] at hwb r0 r1 r2 r3
        have HG4 := Lib.hid hg4
        have HBB := Lib.hid hbb
        clear hg4 hbb hlt hk4
        go_upto_region 5 with (fail)
        rw [← hwb]
        clear hwb y0 y1 y2 y3 q0 q1 q2 q3
        go_wp2_with fail
        refine (HS2.out _ k2 ((HPR.out.now HBB.out).o2)).mono ?_
        rintro e' w5 ⟨rfl, hb5⟩
        have hg5 := HG4.out.now hb5
        obtain ⟨s0, s1, s2, s3, _, _, _, _⟩ := hg5.cells
        have hge5 := (HGR.out.now HBB.out).now hb5
        obtain ⟨u0, u1, u2, u3, _, _, _, _⟩ := hge5.cells
        simp only [fnV, clo] at s0 s1 s2 s3
        have HB5 := Lib.hid (bon HBB.out hb5)
        have HP5 := Lib.hid ((HPR.out.now HBB.out).now hb5)
        have HB6 := Lib.hid (HBR.out.trans ((bon HBB.out hb5).mono HBR.out.size))
        have HB7 := Lib.hid (HBR2.out.trans ((bon HBB.out hb5).mono HBR2.out.size))
        clear hg5 hge5 hb5 r0 r1 r2 r3 q0' q1' q2' q3'
        cases hs : sayB 2 e with
        | true =>
          have HW := Lib.hid (show (byteOf (firstN e) :: saidsL (2 + 1) e) = (byteOf (firstN e) :: saidsL 2 e) ++ putL 2 e by simp [saidsL, saidL, hs])
          have HF5 := Lib.hid (HF.out.below HB5.out)
          have HRM := Lib.hid (HR.out.below (HB6.out.mono hB) (Nat.le_refl _))
          have HPC := Lib.hid (put2_c (n := n) (c := c) (A := A) (e := e) HP5.out.o2 (HF5.out.rd (Nat.le_refl _)) (Nat.le_refl _) (by have := HF5.out.len; have := HLE.out 2; simp at *; omega) HOK.out.N)
          unfold edV at HPC
          clear hs
          go_wp2_with fail
          refine HPC.out.mono ?_
          rintro e' w8 ⟨A8, n8, c8, rfl, hf8, hb8⟩
          have HF8 := Lib.hid (hf8.mono HB6.out.size)
          have HB8 := Lib.hid (HB6.out.trans (hb8.mono HB6.out.size))
          have HB9 := Lib.hid (HB7.out.trans (hb8.mono HB7.out.size))
          clear hf8 hb8 s0 s1 s2 s3 u0 u1 u2 u3
          go_wp2_with fail
          go_roundw
          case rel => exact ⟨2 + 1, A8, n8, c8, rfl, by simp, by omega, by rw [HW.out]; exact HF8.out, HB8.out, HB9.out⟩
          case measure => simp [intOf]
        | false =>
          have HW := Lib.hid (show (byteOf (firstN e) :: saidsL (2 + 1) e) = (byteOf (firstN e) :: saidsL 2 e) by simp [saidsL, saidL, hs])
          have HF5 := Lib.hid (HF.out.below HB5.out)
          clear hs
          go_wp2_with fail
          go_roundw
          case rel => exact ⟨2 + 1, Ar, nr, cr, rfl, by simp, by omega, by rw [HW.out]; exact HF5.out, HB6.out, HB7.out⟩
          case measure => simp [intOf]
      · obtain ⟨y0, y1, y2, y3⟩ := HPR.out.c3
        simp only [fnV, clo] at y0 y1 y2 y3
        obtain ⟨wb, hwb⟩ : ∃ wb, wb = wr.alloc (.cells #[.int .u8 8, clo 59 k3, clo 60 k3, clo 61 k3] 74) := ⟨_, rfl⟩
        have hbb : Below wr.heap.size wr wb := by rw [hwb]; exact below_alloc _ _
        have hg4 : B4 wb wr.heap.size 74 (.int .u8 8) (clo 59 k3) (clo 60 k3) (clo 61 k3) := by rw [hwb]; exact B4.new _ _ _ _ _ _ rfl
        obtain ⟨r0, r1, r2, r3, _, _, _, _⟩ := hg4.cells
        obtain ⟨q0', q1', q2', q3', _, _, _, _⟩ := (HGR.out.now hbb).cells
        simp only [fnV, clo] at hwb r0 r1 r2 r3
        have HG4 := Lib.hid hg4
        have HBB := Lib.hid hbb
        clear hg4 hbb hlt hk4
        go_upto_region 5 with (fail)
        rw [← hwb]
        clear hwb y0 y1 y2 y3 q0 q1 q2 q3
        go_wp2_with fail
        refine (HS3.out _ k3 ((HPR.out.now HBB.out).o3)).mono ?_
        rintro e' w5 ⟨rfl, hb5⟩
        have hg5 := HG4.out.now hb5
        obtain ⟨s0, s1, s2, s3, _, _, _, _⟩ := hg5.cells
        have hge5 := (HGR.out.now HBB.out).now hb5
        obtain ⟨u0, u1, u2, u3, _, _, _, _⟩ := hge5.cells
        simp only [fnV, clo] at s0 s1 s2 s3
        have HB5 := Lib.hid (bon HBB.out hb5)
        have HP5 := Lib.hid ((HPR.out.now HBB.out).now hb5)
        have HB6 := Lib.hid (HBR.out.trans ((bon HBB.out hb5).mono HBR.out.size))
        have HB7 := Lib.hid (HBR2.out.trans ((bon HBB.out hb5).mono HBR2.out.size))
        clear hg5 hge5 hb5 r0 r1 r2 r3 q0' q1' q2' q3'
        cases hs : sayB 3 e with
        | true =>
          have HW := Lib.hid (show (byteOf (firstN e) :: saidsL (3 + 1) e) = (byteOf (firstN e) :: saidsL 3 e) ++ putL 3 e by simp [saidsL, saidL, hs])
          have HF5 := Lib.hid (HF.out.below HB5.out)
          have HRM := Lib.hid (HR.out.below (HB6.out.mono hB) (Nat.le_refl _))
          have HPC := Lib.hid (put3_c (n := n) (c := c) (A := A) (e := e) HP5.out.o3 (HF5.out.rd (Nat.le_refl _)) (Nat.le_refl _) (by have := HF5.out.len; have := HLE.out 3; simp at *; omega) HOK.out.N)
          unfold edV at HPC
          clear hs
          go_wp2_with fail
          refine HPC.out.mono ?_
          rintro e' w8 ⟨A8, n8, c8, rfl, hf8, hb8⟩
          have HF8 := Lib.hid (hf8.mono HB6.out.size)
          have HB8 := Lib.hid (HB6.out.trans (hb8.mono HB6.out.size))
          have HB9 := Lib.hid (HB7.out.trans (hb8.mono HB7.out.size))
          clear hf8 hb8 s0 s1 s2 s3 u0 u1 u2 u3
          go_wp2_with fail
          go_roundw
          case rel => exact ⟨3 + 1, A8, n8, c8, rfl, by simp, by omega, by rw [HW.out]; exact HF8.out, HB8.out, HB9.out⟩
          case measure => simp [intOf]
        | false =>
          have HW := Lib.hid (show (byteOf (firstN e) :: saidsL (3 + 1) e) = (byteOf (firstN e) :: saidsL 3 e) by simp [saidsL, saidL, hs])
          have HF5 := Lib.hid (HF.out.below HB5.out)
          clear hs
          go_wp2_with fail
          go_roundw
          case rel => exact ⟨3 + 1, Ar, nr, cr, rfl, by simp, by omega, by rw [HW.out]; exact HF5.out, HB6.out, HB7.out⟩
          case measure => simp [intOf]
    · obtain rfl : k = 4 := by omega
      clear hlt hk4
      go_wp2_with fail
      go_ret
      exact ⟨Ar, nr, cr, rfl, HF.out, HBR.out⟩
end Go.Proofs.Ythgbafhfeblhaaa
