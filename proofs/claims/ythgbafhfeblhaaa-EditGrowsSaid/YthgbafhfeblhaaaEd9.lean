/-
  What bytes say, read part by part: the contract of read.
-/
import Derived.Test.YthgbafhfeblhaaaEd8
namespace Go.Proofs.Ythgbafhfeblhaaa
set_option maxRecDepth 100000
open Go.RowKit Go.Shelf
set_option linter.unusedSimpArgs false
set_option linter.unusedVariables false

theorem and_bit : ∀ c : UInt8, bits .and .u8 (c.toNat : Int) 1 = ((c.toNat / 2 ^ 0 % 2 * 1 : Nat) : Int) ∧ bits .and .u8 (c.toNat : Int) 2 = ((c.toNat / 2 ^ 1 % 2 * 2 : Nat) : Int) ∧ bits .and .u8 (c.toNat : Int) 4 = ((c.toNat / 2 ^ 2 % 2 * 4 : Nat) : Int) ∧ bits .and .u8 (c.toNat : Int) 8 = ((c.toNat / 2 ^ 3 % 2 * 8 : Nat) : Int) := by
  have h : ∀ n : Fin 256, bits .and .u8 (n.val : Int) 1 = ((n.val / 2 ^ 0 % 2 * 1 : Nat) : Int) ∧ bits .and .u8 (n.val : Int) 2 = ((n.val / 2 ^ 1 % 2 * 2 : Nat) : Int) ∧ bits .and .u8 (n.val : Int) 4 = ((n.val / 2 ^ 2 % 2 * 4 : Nat) : Int) ∧ bits .and .u8 (n.val : Int) 8 = ((n.val / 2 ^ 3 % 2 * 8 : Nat) : Int) := by decide +kernel
  exact fun c => h ⟨c.toNat, c.toNat_lt⟩

theorem partP_0 (e : Ed) (l : List UInt8) : partP 0 e l = match notesN l with | some (L, r) => some ({ e with L := L }, r) | none => none := by
  unfold partP notesN
  by_cases h1 : (numP l).2.2 = true
  · by_cases h2 : (numP l).1 ≤ 64
    · simp only [h1, h2, if_true]
      rfl
    · simp only [h1, h2, if_true, if_false]
  · simp [h1]
theorem stepP_0 {c : UInt8} {i : Nat} {e : Ed} {l : List UInt8} (h : c.toNat / 2 ^ i % 2 = 0) : stepP c i (some (e, l)) = some (e, l) := by simp only [stepP, h, if_true]
theorem stepP_1 {c : UInt8} {i : Nat} {e : Ed} {l : List UInt8} (h : ¬ c.toNat / 2 ^ i % 2 = 0) : stepP c i (some (e, l)) = partP i e l := by simp only [stepP, h, if_false]
theorem stepsP_none {c : UInt8} {l : List UInt8} {i : Nat} (h : stepsP c l i = none) : ∀ j, stepsP c l (i + j) = none
  | 0 => h
  | j + 1 => by
    have := stepsP_none h j
    show stepP c (i + j) (stepsP c l (i + j)) = none
    rw [this]; rfl
theorem notesN_len {l : List UInt8} {L : List Mt} {r : List UInt8} (h : notesN l = some (L, r)) : r.length ≤ l.length := by
  have key : ∀ (k : Nat) (l : List UInt8) (L : List Mt) (r : List UInt8), notesP k l = some (L, r) → r.length ≤ l.length := by
    intro k
    induction k with
    | zero => intro l L r h; simp only [notesP, Option.some.injEq, Prod.mk.injEq] at h; obtain ⟨rfl, rfl⟩ := h; exact Nat.le_refl _
    | succ k ih =>
      intro l L r h
      simp only [notesP] at h
      split at h
      · split at h
        · rename_i K r1 hK
          simp only [Option.some.injEq, Prod.mk.injEq] at h
          obtain ⟨rfl, rfl⟩ := h
          exact Nat.le_trans (ih _ _ _ hK) (noteP_rest l)
        · cases h
      · cases h
  unfold notesN at h
  split at h
  · split at h
    · exact Nat.le_trans (key _ _ _ _ h) (numP_rest l)
    · cases h
  · cases h
theorem FrM.only {w w' : World} {b n c g : Nat} {A : Option Addr} {L : List Mt} (h : FrM w b A n c L) (ho : Only g w w') (hg : g < b) : FrM w' b A n c L := by
  obtain ⟨h1, h2⟩ := h.own
  refine ⟨h1, ?_⟩
  rcases h2 with h2 | ⟨k, cap, cur, e, hk, hh, r⟩
  · exact .inl h2
  · exact .inr ⟨k, cap, cur, e, hk, (ho.block k (Array.getElem?_eq_some_iff.1 hh).1 (by omega)).trans hh, r⟩

theorem FrM.block_ge {w : World} {b n c : Nat} {A : Option Addr} {L : List Mt} (h : FrM w b A n c L) : ∀ g off sp, A = some ⟨g, off, sp⟩ → b ≤ g := by
  intro g off sp e
  rcases h.own.2 with ⟨e1, _⟩ | ⟨g', cap, cur, e1, hg, _, _⟩
  · injection e1 with e1 _ _; subst e1; cases e
  · injection e1 with e1 _ _
    subst e1
    cases e
    exact hg
/-- What read leaves. -/
def ReadR (w : World) (x : Option Ed) (e : Ending) (w' : World) : Prop :=
  match x with
  | some y => ∃ A n c, e = .returned (.tuple #[edV A n c y, .bool true]) ∧ FrM w' w.heap.size A n c y.L ∧ Below w.heap.size w w'
  | none => e = .returned (.tuple #[edV none 0 0 Ed.nil, .bool false]) ∧ Below w.heap.size w w'
theorem ReadR.some {w w' : World} {x : Option Ed} {y : Ed} {A : Option Addr} {n c : Nat} (h : x = some y) (hf : FrM w' w.heap.size A n c y.L) (hb : Below w.heap.size w w') : ReadR w x (.returned (.tuple #[edV A n c y, .bool true])) w' := by
  subst h; exact ⟨A, n, c, rfl, hf, hb⟩
theorem ReadR.none {w w' : World} {x : Option Ed} (h : x = none) (hb : Below w.heap.size w w') : ReadR w x (.returned (.tuple #[edV none 0 0 Ed.nil, .bool false])) w' := by
  subst h; exact ⟨rfl, hb⟩
/-- What the loop keeps. -/
structure RdSt (w : World) (g p k1 k2 k3 : Nat) (e : Ed) (first : Bool) (W : World) : Prop where
  box : ∃ A n c, B4 W g 25 (.slice A n c) (.int .u64 (e.a : Int)) (.int .u64 (e.b : Int)) (.int .u64 (e.c : Int)) ∧ FrM W (g + 1) A n c e.L ∧ (first = true → A = none ∧ n = 0 ∧ c = 0)
  res : B4 W w.heap.size 25 (.slice none 0 0) (.int .u64 0) (.int .u64 0) (.int .u64 0)
  parts : PartsAt W p k1 k2 k3
  below : Below w.heap.size w W
  geq : g = w.heap.size + 1
  lo : g < p ∧ g < k1 ∧ g < k2 ∧ g < k3
theorem RdSt.now {w W W' : World} {g p k1 k2 k3 : Nat} {e : Ed} {f : Bool} (h : RdSt w g p k1 k2 k3 e f W) (hb : Below W.heap.size W W') : RdSt w g p k1 k2 k3 e f W' := by
  obtain ⟨⟨A, n, c, h1, h2, h3⟩, h4, h5, h6, h7, h8⟩ := h
  exact ⟨⟨A, n, c, h1.now hb, h2.below hb, h3⟩, h4.now hb, h5.now hb, h6.trans (hb.mono h6.size), h7, h8⟩
theorem RdSt.next {w W W' : World} {g p k1 k2 k3 : Nat} {e e' : Ed} {f : Bool} (h : RdSt w g p k1 k2 k3 e f W) (ho : Only g W W')
    (hb : ∃ A n c, B4 W' g 25 (.slice A n c) (.int .u64 (e'.a : Int)) (.int .u64 (e'.b : Int)) (.int .u64 (e'.c : Int)) ∧ FrM W' (g + 1) A n c e'.L) : RdSt w g p k1 k2 k3 e' false W' := by
  obtain ⟨_, h4, h5, h6, h7, h8⟩ := h
  obtain ⟨A, n, c, u1, u2⟩ := hb
  exact ⟨⟨A, n, c, u1, u2, fun hf => by cases hf⟩, h4.only ho (by omega), h5.only ho (by omega) (by omega) (by omega) (by omega), h6.trans (ho.below (by omega) h6.size), h7, h8⟩
theorem RdSt.fail {w W W' : World} {g p k1 k2 k3 : Nat} {e : Ed} {f : Bool} (h : RdSt w g p k1 k2 k3 e f W) (ho : Only g W W') :
    B4 W' w.heap.size 25 (.slice none 0 0) (.int .u64 0) (.int .u64 0) (.int .u64 0) ∧ Below w.heap.size w W' := by
  obtain ⟨_, h4, h5, h6, h7, h8⟩ := h
  exact ⟨h4.only ho (by omega), h6.trans (ho.below (by omega) h6.size)⟩

set_option maxRecDepth 100000 in
set_option maxHeartbeats 8000000 in
theorem read_c {w : World} {B n c : Nat} {A : Option Addr} {l : List UInt8} (h : Rd w B A n c (bv l)) (hB : B ≤ w.heap.size) (hn : n ≤ 1000000) :
    Calls Try.prog 27 #[.slice A n c] w (ReadR w (readE l)) := by
  have hll := rd_n h
  have hni : (n : Int) ≤ 1000000 := by omega
  obtain ⟨o, ho⟩ : ∃ o, o = (Obj.cells #[.slice none 0 0, .int .u64 0, .int .u64 0, .int .u64 0] 25) := ⟨_, rfl⟩
  obtain ⟨w2, hw2⟩ : ∃ w2, w2 = (w.alloc o).alloc o := ⟨_, rfl⟩
  have hb2 : Below w.heap.size w w2 := by rw [hw2]; exact (below_alloc w o).alloc (below_alloc w o).size o
  have hg0 : B4 w2 w.heap.size 25 (.slice none 0 0) (.int .u64 0) (.int .u64 0) (.int .u64 0) := by rw [hw2, ho]; exact (B4.new w _ _ _ _ _ rfl).alloc _
  have hg1 : B4 w2 (w.heap.size + 1) 25 (.slice none 0 0) (.int .u64 0) (.int .u64 0) (.int .u64 0) := by rw [hw2, ho]; exact B4.new _ _ _ _ _ _ (by simp)
  have HG0 := Lib.hid hg0
  have HG1 := Lib.hid hg1
  have HB2 := Lib.hid hb2
  have HR := Lib.hid h
  obtain ⟨g, hg⟩ : ∃ g, g = w.heap.size + 1 := ⟨_, rfl⟩
  rw [← hg] at HG1 hg1
  have HGE := Lib.hid hg
  obtain ⟨p0, p1, p2, p3, v0, v1, v2, v3⟩ := hg0.cells
  obtain ⟨q0, q1, q2, q3, z0, z1, z2, z3⟩ := hg1.cells
  clear hg0 hg1 hb2
  subst ho
  cases l with
  | nil =>
    obtain rfl : n = 0 := hll
    clear h hn
    go_enter Try.func27, Try.ntmps27
    go_upto_region 2 with (fail)
    rw [← hw2, ← hg]
    clear hw2 hg
    go_wp2_with fail
    have HS := Lib.hid (HG0.out.set (.slice none 0 0) (.int .u64 0) (.int .u64 0) (.int .u64 0))
    have HB := Lib.hid (set4_below HB2.out (Nat.le_refl w.heap.size) (.slice none 0 0) (.int .u64 0) (.int .u64 0) (.int .u64 0))
    obtain ⟨wz, hwz⟩ : ∃ wz, wz = set4 w2 w.heap.size (.slice none 0 0) (.int .u64 0) (.int .u64 0) (.int .u64 0) := ⟨_, rfl⟩
    rw [← hwz] at HS HB
    unfold set4 at hwz
    rw [← hwz]
    clear hwz
    obtain ⟨y0, y1, y2, y3, _, _, _, _⟩ := HS.out.cells
    (try simp only [Exit.inBlock, Exit.then])
    refine bodyPost_ret (v := .tuple #[edV none 0 0 Ed.nil, .bool false]) (by simp [edV, Ed.nil, results, Try.results27, go_sem, y0, y1, y2, y3]; try rfl) rfl ?_
    exact ReadR.none rfl HB.out
  | cons b0 l0 =>
    have hpos : 0 < n := by rw [hll]; simp
    obtain ⟨A', hsl, hr'⟩ := h.slice_lo 26 5 (P := Try.prog) Try.underlying26 info_u8 .i64 (k := 1) hpos
    rw [bv_drop, List.drop_succ_cons, List.drop_zero] at hr'
    replace hsl : ∀ W, (Instr.slice 26 (.slice A n c) (some (.int .i64 1)) none none).run Try.prog W = .ok (.slice A' (n - 1) (c - 1)) W := hsl
    obtain ⟨bb, off, hA, hbB, hc0⟩ := h.form hpos
    subst hA
    have x0 : w.cell? ⟨bb, off, none⟩ = some (.int .u8 (b0.toNat : Int)) := by have := hc0 0 _ rfl; simpa [b8] using this
    have HX0 := Lib.hid (fun W (hW : Below w.heap.size w W) => show W.cell? ⟨bb, off, none⟩ = some (.int .u8 (b0.toNat : Int)) by rw [hW.cell (by simp; omega)]; exact x0)
    have HRL := Lib.hid hr'
    have HLL := Lib.hid (show l0.length + 1 = n by simpa using hll.symm)
    have HN := Lib.hid hn
    have dpos : ((n : Int) == 0) = false := by simp; omega
    obtain ⟨hbit0, hbit1, hbit2, hbit3⟩ := and_bit b0
    have HBT0 := Lib.hid hbit0
    have HBT1 := Lib.hid hbit1
    have HBT2 := Lib.hid hbit2
    have HBT3 := Lib.hid hbit3
    have HRE := Lib.hid (show readE (b0 :: l0) = match stepsP b0 l0 4 with | some (e, _) => some e | none => none from rfl)
    obtain ⟨X, hX⟩ : ∃ X, X = readE (b0 :: l0) := ⟨_, rfl⟩
    rw [← hX] at HRE ⊢
    clear hX hbit0 hbit1 hbit2 hbit3 x0 hc0 hr' hll h hn
    go_enter Try.func27, Try.ntmps27
    go_upto_region 2 with (fail)
    rw [← hw2, ← hg]
    clear hw2 hg
    go_wp2_with fail
    refine (parts_c _).mono ?_
    rintro e w3 ⟨p, k1, k2, k3, rfl, hp3, hb3, hpp, hk1, hk2, hk3⟩
    have HST := Lib.hid (show RdSt w g p k1 k2 k3 Ed.nil true w3 from
      ⟨⟨none, 0, 0, HG1.out.now hb3, FrM.nil, fun _ => ⟨rfl, rfl, rfl⟩⟩, HG0.out.now hb3, hp3, HB2.out.trans (hb3.mono HB2.out.size), HGE.out, by have := HG1.out.lt; omega⟩)
    clear hp3 hb3 hpp hk1 hk2 hk3 p0 p1 p2 p3 v0 v1 v2 v3 q0 q1 q2 q3 z0 z1 z2 z3
    go_wp2_with fail
    go_loopw [5, 17] (fun rv iv wr => ∃ (k : Nat) (Ar : Option Addr) (nr cr : Nat) (r : List UInt8) (e : Ed), rv = .slice Ar nr cr ∧ iv = .int .i64 (k : Int) ∧ k ≤ 4 ∧ Rd wr B Ar nr cr (bv r) ∧ r.length ≤ 1000000 ∧ stepsP b0 l0 k = some (e, r) ∧ RdSt w g p k1 k2 k3 e (decide (k = 0)) wr) (fun _ iv _ => ((4 : Int) - intOf iv).toNat)
    case atStart => exact ⟨0, A', n - 1, c - 1, l0, Ed.nil, rfl, rfl, by omega, HRL.out.under HST.out.below hB, by have := HLL.out; have := HN.out; omega, rfl, HST.out⟩
    case round =>
      obtain ⟨k, Ar, nr, cr, r, ⟨eL, ea, eb, ec⟩, rfl, rfl, hk4, hr, hrl, hst, hS⟩ := hrel
      have HR := Lib.hid hr
      have HRN := Lib.hid hrl
      have HST := Lib.hid hst
      have HS := Lib.hid hS
      have x0 := HX0.out wr hS.below
      clear hr hrl hst hS
      by_cases hlt : k < 4
      · have h4 : k = 0 ∨ k = 1 ∨ k = 2 ∨ k = 3 := by omega
        rcases h4 with rfl | rfl | rfl | rfl
        · obtain ⟨y0, y1, y2, y3⟩ := HS.out.parts.c0
          simp only [fnV, clo] at y0 y1 y2 y3
          obtain ⟨wb, hwb⟩ : ∃ wb, wb = wr.alloc (.cells #[.int .u8 1, fnV 45, fnV 46, fnV 47] 74) := ⟨_, rfl⟩
          have hbb : Below wr.heap.size wr wb := by rw [hwb]; exact below_alloc _ _
          have hg4 : B4 wb wr.heap.size 74 (.int .u8 1) (fnV 45) (fnV 46) (fnV 47) := by rw [hwb]; exact B4.new _ _ _ _ _ _ rfl
          obtain ⟨r0, r1, r2, r3, _, _, _, _⟩ := hg4.cells
          simp only [fnV, clo] at hwb r0 r1 r2 r3
          have hS2 := HS.out.now hbb
          have x1 := HX0.out wb hS2.below
          have HS2 := Lib.hid hS2
          have HG4 := Lib.hid hg4
          have HBB := Lib.hid hbb
          have HRB := Lib.hid (HR.out.under hbb (Nat.le_trans hB HS.out.below.size))
          clear hg4 hbb hS2 hlt hk4
          go_upto_region 8 with (fail)
          rw [← hwb]
          clear hwb y0 y1 y2 y3 x0
          by_cases hbit : b0.toNat / 2 ^ 0 % 2 = 0
          · have hz : bits .and .u8 (b0.toNat : Int) 1 = 0 := by rw [HBT0.out, hbit]; rfl
            have HNX := Lib.hid (show stepsP b0 l0 (0 + 1) = some (⟨eL, ea, eb, ec⟩, r) by simp only [stepsP]; first | (rw [HST.out]; exact stepP_0 hbit) | (have := HST.out; simp only [stepsP] at this; rw [this]; exact stepP_0 hbit))
            clear hbit
            go_quiet (fail)
            go_wp2_with fail
            go_roundw
            case rel =>
              refine ⟨0 + 1, Ar, nr, cr, r, ⟨eL, ea, eb, ec⟩, rfl, by simp, by omega, HRB.out.drewN _, HRN.out, HNX.out, ?_⟩
              obtain ⟨⟨A5, n5, c5, u1, u2, u3⟩, u4, u5, u6, u7, u8⟩ := HS2.out.now (below_drewN (Below.refl _ _) _)
              exact ⟨⟨A5, n5, c5, u1, u2, fun hf => by simp at hf⟩, u4, u5, u6, u7, u8⟩
            case measure => simp [intOf]
          · have hz : bits .and .u8 (b0.toNat : Int) 1 = 1 := by rw [HBT0.out, show b0.toNat / 2 ^ 0 % 2 = 1 by omega]; rfl
            have HNX := Lib.hid (show stepsP b0 l0 (0 + 1) = partP 0 ⟨eL, ea, eb, ec⟩ r by simp only [stepsP]; first | (rw [HST.out]; exact stepP_1 hbit) | (have := HST.out; simp only [stepsP] at this; rw [this]; exact stepP_1 hbit))
            clear hbit
            go_quiet (fail)
            have HS3 := Lib.hid (HS2.out.now (below_drewN (Below.refl _ wb) nq))
            have HR3 := Lib.hid (HRB.out.drewN nq)
            have hgB : B ≤ g := by have := HGE.out; omega
            have hnr : nr ≤ 1000000 := by have := rd_n HR3.out; have := HRN.out; omega
            obtain ⟨A5, n5, c5, hb5, hf5, hnil⟩ := HS3.out.box
            obtain ⟨rfl, rfl, rfl⟩ := hnil rfl
            have HC := Lib.hid (takeNotes_c HR3.out hb5 hgB hnr)
            clear hb5 hf5 hnil
            go_wp2_with fail
            refine HC.out.mono ?_
            intro e' w5 hp5
            have HPP := Lib.hid (partP_0 ⟨eL, ea, eb, ec⟩ r)
            unfold NotesR at hp5
            cases hnn : notesN r with
            | none =>
              rw [hnn] at hp5
              obtain ⟨rfl, ho5⟩ := hp5
              have HO5 := Lib.hid ho5
              have HNN := Lib.hid hnn
              clear ho5 hnn
              have HF := Lib.hid (HS3.out.fail HO5.out)
              have HNO := Lib.hid (show X = none by rw [HRE.out, show 4 = (0 + 1) + 3 from rfl, stepsP_none (by rw [HNX.out]; rw [HPP.out, HNN.out]) 3])
              obtain ⟨y0, y1, y2, y3, z0, z1, z2, z3⟩ := HF.out.1.cells
              clear r0 r1 r2 r3 x1
              go_wp2_with fail
              have HS := Lib.hid (HF.out.1.set (.slice none 0 0) (.int .u64 0) (.int .u64 0) (.int .u64 0))
              have HB := Lib.hid (set4_below HF.out.2 (Nat.le_refl w.heap.size) (.slice none 0 0) (.int .u64 0) (.int .u64 0) (.int .u64 0))
              obtain ⟨wz, hwz⟩ : ∃ wz, wz = set4 w5 w.heap.size (.slice none 0 0) (.int .u64 0) (.int .u64 0) (.int .u64 0) := ⟨_, rfl⟩
              rw [← hwz] at HS HB
              unfold set4 at hwz
              rw [← hwz]
              clear hwz y0 y1 y2 y3 z0 z1 z2 z3
              obtain ⟨y0, y1, y2, y3, _, _, _, _⟩ := HS.out.cells
              (try simp only [Exit.inBlock, Exit.then])
              refine bodyPost_ret (v := .tuple #[edV none 0 0 Ed.nil, .bool false]) (by simp [edV, Ed.nil, results, Try.results27, go_sem, y0, y1, y2, y3]; try rfl) rfl ?_
              exact ReadR.none HNO.out HB.out
            | some y =>
              obtain ⟨L5, r5⟩ := y
              rw [hnn] at hp5
              obtain ⟨A6, n6, c6, rfl, hr6, ⟨A7, n7, c7, hb7, hf7⟩, ho5⟩ := hp5
              have HNN := Lib.hid hnn
              have HR6 := Lib.hid hr6
              have HS6 := Lib.hid (HS3.out.next (e' := ⟨L5, ea, eb, ec⟩) ho5 ⟨A7, n7, c7, hb7, hf7.mono (by have := HS3.out.lo; have := HS3.out.parts.lt; omega)⟩)
              clear hr6 hb7 hf7 ho5 hnn r0 r1 r2 r3 x1
              go_wp2_with fail
              go_roundw
              case rel => exact ⟨0 + 1, A6, n6, c6, r5, ⟨L5, ea, eb, ec⟩, rfl, by simp, by omega, HR6.out, by have := notesN_len HNN.out; have := HRN.out; omega, by rw [HNX.out, HPP.out, HNN.out], HS6.out⟩
              case measure => simp [intOf]
        · obtain ⟨y0, y1, y2, y3⟩ := HS.out.parts.c1
          simp only [fnV, clo] at y0 y1 y2 y3
          obtain ⟨wb, hwb⟩ : ∃ wb, wb = wr.alloc (.cells #[.int .u8 2, clo 59 k1, clo 60 k1, clo 61 k1] 74) := ⟨_, rfl⟩
          have hbb : Below wr.heap.size wr wb := by rw [hwb]; exact below_alloc _ _
          have hg4 : B4 wb wr.heap.size 74 (.int .u8 2) (clo 59 k1) (clo 60 k1) (clo 61 k1) := by rw [hwb]; exact B4.new _ _ _ _ _ _ rfl
          obtain ⟨r0, r1, r2, r3, _, _, _, _⟩ := hg4.cells
          simp only [fnV, clo] at hwb r0 r1 r2 r3
          have hS2 := HS.out.now hbb
          have x1 := HX0.out wb hS2.below
          have HS2 := Lib.hid hS2
          have HG4 := Lib.hid hg4
          have HBB := Lib.hid hbb
          have HRB := Lib.hid (HR.out.under hbb (Nat.le_trans hB HS.out.below.size))
          clear hg4 hbb hS2 hlt hk4
          go_upto_region 8 with (fail)
          rw [← hwb]
          clear hwb y0 y1 y2 y3 x0
          by_cases hbit : b0.toNat / 2 ^ 1 % 2 = 0
          · have hz : bits .and .u8 (b0.toNat : Int) 2 = 0 := by rw [HBT1.out, hbit]; rfl
            have HNX := Lib.hid (show stepsP b0 l0 (1 + 1) = some (⟨eL, ea, eb, ec⟩, r) by simp only [stepsP]; first | (rw [HST.out]; exact stepP_0 hbit) | (have := HST.out; simp only [stepsP] at this; rw [this]; exact stepP_0 hbit))
            clear hbit
            go_quiet (fail)
            go_wp2_with fail
            go_roundw
            case rel =>
              refine ⟨1 + 1, Ar, nr, cr, r, ⟨eL, ea, eb, ec⟩, rfl, by simp, by omega, HRB.out.drewN _, HRN.out, HNX.out, ?_⟩
              obtain ⟨⟨A5, n5, c5, u1, u2, u3⟩, u4, u5, u6, u7, u8⟩ := HS2.out.now (below_drewN (Below.refl _ _) _)
              exact ⟨⟨A5, n5, c5, u1, u2, fun hf => by simp at hf⟩, u4, u5, u6, u7, u8⟩
            case measure => simp [intOf]
          · have hz : bits .and .u8 (b0.toNat : Int) 2 = 2 := by rw [HBT1.out, show b0.toNat / 2 ^ 1 % 2 = 1 by omega]; rfl
            have HNX := Lib.hid (show stepsP b0 l0 (1 + 1) = partP 1 ⟨eL, ea, eb, ec⟩ r by simp only [stepsP]; first | (rw [HST.out]; exact stepP_1 hbit) | (have := HST.out; simp only [stepsP] at this; rw [this]; exact stepP_1 hbit))
            clear hbit
            go_quiet (fail)
            have HS3 := Lib.hid (HS2.out.now (below_drewN (Below.refl _ wb) nq))
            have HR3 := Lib.hid (HRB.out.drewN nq)
            have hgB : B ≤ g := by have := HGE.out; omega
            have hnr : nr ≤ 1000000 := by have := rd_n HR3.out; have := HRN.out; omega
            obtain ⟨A5, n5, c5, hb5, hf5, _⟩ := HS3.out.box
            have HC := Lib.hid (take1_c HS3.out.parts.o1 HR3.out hgB hnr hb5 (by have := HS3.out.lo; omega))
            have HF5 := Lib.hid hf5
            clear hb5 hf5
            go_wp2_with fail
            refine HC.out.mono ?_
            rintro e' w5 ⟨A6, n6, c6, rfl, hr6, hb6, ho5⟩
            have HO5 := Lib.hid ho5
            have HR6 := Lib.hid hr6
            have HB6 := Lib.hid hb6
            have HPP := Lib.hid (show partP 1 ⟨eL, ea, eb, ec⟩ r = if (numP r).2.2 = true then some (⟨eL, ((numP r).1), eb, ec⟩, (numP r).2.1) else none by unfold partP; rfl)
            clear ho5 hr6 hb6
            cases hok : (numP r).2.2 with
            | false =>
              have HOK := Lib.hid hok
              clear hok
              have HF := Lib.hid (HS3.out.fail HO5.out)
              have HNO := Lib.hid (show X = none by rw [HRE.out, show 4 = (1 + 1) + 2 from rfl, stepsP_none (by rw [HNX.out]; rw [HPP.out, HOK.out]; rfl) 2])
              obtain ⟨y0, y1, y2, y3, z0, z1, z2, z3⟩ := HF.out.1.cells
              clear r0 r1 r2 r3 x1
              go_wp2_with fail
              have HS := Lib.hid (HF.out.1.set (.slice none 0 0) (.int .u64 0) (.int .u64 0) (.int .u64 0))
              have HB := Lib.hid (set4_below HF.out.2 (Nat.le_refl w.heap.size) (.slice none 0 0) (.int .u64 0) (.int .u64 0) (.int .u64 0))
              obtain ⟨wz, hwz⟩ : ∃ wz, wz = set4 w5 w.heap.size (.slice none 0 0) (.int .u64 0) (.int .u64 0) (.int .u64 0) := ⟨_, rfl⟩
              rw [← hwz] at HS HB
              unfold set4 at hwz
              rw [← hwz]
              clear hwz y0 y1 y2 y3 z0 z1 z2 z3
              obtain ⟨y0, y1, y2, y3, _, _, _, _⟩ := HS.out.cells
              (try simp only [Exit.inBlock, Exit.then])
              refine bodyPost_ret (v := .tuple #[edV none 0 0 Ed.nil, .bool false]) (by simp [edV, Ed.nil, results, Try.results27, go_sem, y0, y1, y2, y3]; try rfl) rfl ?_
              exact ReadR.none HNO.out HB.out
            | true =>
              have HOK := Lib.hid hok
              have HS6 := Lib.hid (HS3.out.next (e' := ⟨eL, ((numP r).1), eb, ec⟩) HO5.out ⟨A5, n5, c5, HB6.out, HF5.out.only HO5.out (Nat.lt_succ_self g)⟩)
              clear hok r0 r1 r2 r3 x1
              go_wp2_with fail
              go_roundw
              case rel => exact ⟨1 + 1, A6, n6, c6, (numP r).2.1, ⟨eL, ((numP r).1), eb, ec⟩, rfl, by simp, by omega, HR6.out, by have := numP_rest r; have := HRN.out; omega, by rw [HNX.out, HPP.out, HOK.out]; rfl, HS6.out⟩
              case measure => simp [intOf]
        · obtain ⟨y0, y1, y2, y3⟩ := HS.out.parts.c2
          simp only [fnV, clo] at y0 y1 y2 y3
          obtain ⟨wb, hwb⟩ : ∃ wb, wb = wr.alloc (.cells #[.int .u8 4, clo 59 k2, clo 60 k2, clo 61 k2] 74) := ⟨_, rfl⟩
          have hbb : Below wr.heap.size wr wb := by rw [hwb]; exact below_alloc _ _
          have hg4 : B4 wb wr.heap.size 74 (.int .u8 4) (clo 59 k2) (clo 60 k2) (clo 61 k2) := by rw [hwb]; exact B4.new _ _ _ _ _ _ rfl
          obtain ⟨r0, r1, r2, r3, _, _, _, _⟩ := hg4.cells
          simp only [fnV, clo] at hwb r0 r1 r2 r3
          have hS2 := HS.out.now hbb
          have x1 := HX0.out wb hS2.below
          have HS2 := Lib.hid hS2
          have HG4 := Lib.hid hg4
          have HBB := Lib.hid hbb
          have HRB := Lib.hid (HR.out.under hbb (Nat.le_trans hB HS.out.below.size))
          clear hg4 hbb hS2 hlt hk4
          go_upto_region 8 with (fail)
          rw [← hwb]
          clear hwb y0 y1 y2 y3 x0
          by_cases hbit : b0.toNat / 2 ^ 2 % 2 = 0
          · have hz : bits .and .u8 (b0.toNat : Int) 4 = 0 := by rw [HBT2.out, hbit]; rfl
            have HNX := Lib.hid (show stepsP b0 l0 (2 + 1) = some (⟨eL, ea, eb, ec⟩, r) by simp only [stepsP]; first | (rw [HST.out]; exact stepP_0 hbit) | (have := HST.out; simp only [stepsP] at this; rw [this]; exact stepP_0 hbit))
            clear hbit
            go_quiet (fail)
            go_wp2_with fail
            go_roundw
            case rel =>
              refine ⟨2 + 1, Ar, nr, cr, r, ⟨eL, ea, eb, ec⟩, rfl, by simp, by omega, HRB.out.drewN _, HRN.out, HNX.out, ?_⟩
              obtain ⟨⟨A5, n5, c5, u1, u2, u3⟩, u4, u5, u6, u7, u8⟩ := HS2.out.now (below_drewN (Below.refl _ _) _)
              exact ⟨⟨A5, n5, c5, u1, u2, fun hf => by simp at hf⟩, u4, u5, u6, u7, u8⟩
            case measure => simp [intOf]
          · have hz : bits .and .u8 (b0.toNat : Int) 4 = 4 := by rw [HBT2.out, show b0.toNat / 2 ^ 2 % 2 = 1 by omega]; rfl
            have HNX := Lib.hid (show stepsP b0 l0 (2 + 1) = partP 2 ⟨eL, ea, eb, ec⟩ r by simp only [stepsP]; first | (rw [HST.out]; exact stepP_1 hbit) | (have := HST.out; simp only [stepsP] at this; rw [this]; exact stepP_1 hbit))
            clear hbit
            go_quiet (fail)
            have HS3 := Lib.hid (HS2.out.now (below_drewN (Below.refl _ wb) nq))
            have HR3 := Lib.hid (HRB.out.drewN nq)
            have hgB : B ≤ g := by have := HGE.out; omega
            have hnr : nr ≤ 1000000 := by have := rd_n HR3.out; have := HRN.out; omega
            obtain ⟨A5, n5, c5, hb5, hf5, _⟩ := HS3.out.box
            have HC := Lib.hid (take2_c HS3.out.parts.o2 HR3.out hgB hnr hb5 (by have := HS3.out.lo; omega))
            have HF5 := Lib.hid hf5
            clear hb5 hf5
            go_wp2_with fail
            refine HC.out.mono ?_
            rintro e' w5 ⟨A6, n6, c6, rfl, hr6, hb6, ho5⟩
            have HO5 := Lib.hid ho5
            have HR6 := Lib.hid hr6
            have HB6 := Lib.hid hb6
            have HPP := Lib.hid (show partP 2 ⟨eL, ea, eb, ec⟩ r = if (numP r).2.2 = true then some (⟨eL, ea, ((numP r).1), ec⟩, (numP r).2.1) else none by unfold partP; rfl)
            clear ho5 hr6 hb6
            cases hok : (numP r).2.2 with
            | false =>
              have HOK := Lib.hid hok
              clear hok
              have HF := Lib.hid (HS3.out.fail HO5.out)
              have HNO := Lib.hid (show X = none by rw [HRE.out, show 4 = (2 + 1) + 1 from rfl, stepsP_none (by rw [HNX.out]; rw [HPP.out, HOK.out]; rfl) 1])
              obtain ⟨y0, y1, y2, y3, z0, z1, z2, z3⟩ := HF.out.1.cells
              clear r0 r1 r2 r3 x1
              go_wp2_with fail
              have HS := Lib.hid (HF.out.1.set (.slice none 0 0) (.int .u64 0) (.int .u64 0) (.int .u64 0))
              have HB := Lib.hid (set4_below HF.out.2 (Nat.le_refl w.heap.size) (.slice none 0 0) (.int .u64 0) (.int .u64 0) (.int .u64 0))
              obtain ⟨wz, hwz⟩ : ∃ wz, wz = set4 w5 w.heap.size (.slice none 0 0) (.int .u64 0) (.int .u64 0) (.int .u64 0) := ⟨_, rfl⟩
              rw [← hwz] at HS HB
              unfold set4 at hwz
              rw [← hwz]
              clear hwz y0 y1 y2 y3 z0 z1 z2 z3
              obtain ⟨y0, y1, y2, y3, _, _, _, _⟩ := HS.out.cells
              (try simp only [Exit.inBlock, Exit.then])
              refine bodyPost_ret (v := .tuple #[edV none 0 0 Ed.nil, .bool false]) (by simp [edV, Ed.nil, results, Try.results27, go_sem, y0, y1, y2, y3]; try rfl) rfl ?_
              exact ReadR.none HNO.out HB.out
            | true =>
              have HOK := Lib.hid hok
              have HS6 := Lib.hid (HS3.out.next (e' := ⟨eL, ea, ((numP r).1), ec⟩) HO5.out ⟨A5, n5, c5, HB6.out, HF5.out.only HO5.out (Nat.lt_succ_self g)⟩)
              clear hok r0 r1 r2 r3 x1
              go_wp2_with fail
              go_roundw
              case rel => exact ⟨2 + 1, A6, n6, c6, (numP r).2.1, ⟨eL, ea, ((numP r).1), ec⟩, rfl, by simp, by omega, HR6.out, by have := numP_rest r; have := HRN.out; omega, by rw [HNX.out, HPP.out, HOK.out]; rfl, HS6.out⟩
              case measure => simp [intOf]
        · obtain ⟨y0, y1, y2, y3⟩ := HS.out.parts.c3
          simp only [fnV, clo] at y0 y1 y2 y3
          obtain ⟨wb, hwb⟩ : ∃ wb, wb = wr.alloc (.cells #[.int .u8 8, clo 59 k3, clo 60 k3, clo 61 k3] 74) := ⟨_, rfl⟩
          have hbb : Below wr.heap.size wr wb := by rw [hwb]; exact below_alloc _ _
          have hg4 : B4 wb wr.heap.size 74 (.int .u8 8) (clo 59 k3) (clo 60 k3) (clo 61 k3) := by rw [hwb]; exact B4.new _ _ _ _ _ _ rfl
          obtain ⟨r0, r1, r2, r3, _, _, _, _⟩ := hg4.cells
          simp only [fnV, clo] at hwb r0 r1 r2 r3
          have hS2 := HS.out.now hbb
          have x1 := HX0.out wb hS2.below
          have HS2 := Lib.hid hS2
          have HG4 := Lib.hid hg4
          have HBB := Lib.hid hbb
          have HRB := Lib.hid (HR.out.under hbb (Nat.le_trans hB HS.out.below.size))
          clear hg4 hbb hS2 hlt hk4
          go_upto_region 8 with (fail)
          rw [← hwb]
          clear hwb y0 y1 y2 y3 x0
          by_cases hbit : b0.toNat / 2 ^ 3 % 2 = 0
          · have hz : bits .and .u8 (b0.toNat : Int) 8 = 0 := by rw [HBT3.out, hbit]; rfl
            have HNX := Lib.hid (show stepsP b0 l0 (3 + 1) = some (⟨eL, ea, eb, ec⟩, r) by simp only [stepsP]; first | (rw [HST.out]; exact stepP_0 hbit) | (have := HST.out; simp only [stepsP] at this; rw [this]; exact stepP_0 hbit))
            clear hbit
            go_quiet (fail)
            go_wp2_with fail
            go_roundw
            case rel =>
              refine ⟨3 + 1, Ar, nr, cr, r, ⟨eL, ea, eb, ec⟩, rfl, by simp, by omega, HRB.out.drewN _, HRN.out, HNX.out, ?_⟩
              obtain ⟨⟨A5, n5, c5, u1, u2, u3⟩, u4, u5, u6, u7, u8⟩ := HS2.out.now (below_drewN (Below.refl _ _) _)
              exact ⟨⟨A5, n5, c5, u1, u2, fun hf => by simp at hf⟩, u4, u5, u6, u7, u8⟩
            case measure => simp [intOf]
          · have hz : bits .and .u8 (b0.toNat : Int) 8 = 8 := by rw [HBT3.out, show b0.toNat / 2 ^ 3 % 2 = 1 by omega]; rfl
            have HNX := Lib.hid (show stepsP b0 l0 (3 + 1) = partP 3 ⟨eL, ea, eb, ec⟩ r by simp only [stepsP]; first | (rw [HST.out]; exact stepP_1 hbit) | (have := HST.out; simp only [stepsP] at this; rw [this]; exact stepP_1 hbit))
            clear hbit
            go_quiet (fail)
            have HS3 := Lib.hid (HS2.out.now (below_drewN (Below.refl _ wb) nq))
            have HR3 := Lib.hid (HRB.out.drewN nq)
            have hgB : B ≤ g := by have := HGE.out; omega
            have hnr : nr ≤ 1000000 := by have := rd_n HR3.out; have := HRN.out; omega
            obtain ⟨A5, n5, c5, hb5, hf5, _⟩ := HS3.out.box
            have HC := Lib.hid (take3_c HS3.out.parts.o3 HR3.out hgB hnr hb5 (by have := HS3.out.lo; omega))
            have HF5 := Lib.hid hf5
            clear hb5 hf5
            go_wp2_with fail
            refine HC.out.mono ?_
            rintro e' w5 ⟨A6, n6, c6, rfl, hr6, hb6, ho5⟩
            have HO5 := Lib.hid ho5
            have HR6 := Lib.hid hr6
            have HB6 := Lib.hid hb6
            have HPP := Lib.hid (show partP 3 ⟨eL, ea, eb, ec⟩ r = if (numP r).2.2 = true then some (⟨eL, ea, eb, ((numP r).1)⟩, (numP r).2.1) else none by unfold partP; rfl)
            clear ho5 hr6 hb6
            cases hok : (numP r).2.2 with
            | false =>
              have HOK := Lib.hid hok
              clear hok
              have HF := Lib.hid (HS3.out.fail HO5.out)
              have HNO := Lib.hid (show X = none by rw [HRE.out, show 4 = (3 + 1) + 0 from rfl, stepsP_none (by rw [HNX.out]; rw [HPP.out, HOK.out]; rfl) 0])
              obtain ⟨y0, y1, y2, y3, z0, z1, z2, z3⟩ := HF.out.1.cells
              clear r0 r1 r2 r3 x1
              go_wp2_with fail
              have HS := Lib.hid (HF.out.1.set (.slice none 0 0) (.int .u64 0) (.int .u64 0) (.int .u64 0))
              have HB := Lib.hid (set4_below HF.out.2 (Nat.le_refl w.heap.size) (.slice none 0 0) (.int .u64 0) (.int .u64 0) (.int .u64 0))
              obtain ⟨wz, hwz⟩ : ∃ wz, wz = set4 w5 w.heap.size (.slice none 0 0) (.int .u64 0) (.int .u64 0) (.int .u64 0) := ⟨_, rfl⟩
              rw [← hwz] at HS HB
              unfold set4 at hwz
              rw [← hwz]
              clear hwz y0 y1 y2 y3 z0 z1 z2 z3
              obtain ⟨y0, y1, y2, y3, _, _, _, _⟩ := HS.out.cells
              (try simp only [Exit.inBlock, Exit.then])
              refine bodyPost_ret (v := .tuple #[edV none 0 0 Ed.nil, .bool false]) (by simp [edV, Ed.nil, results, Try.results27, go_sem, y0, y1, y2, y3]; try rfl) rfl ?_
              exact ReadR.none HNO.out HB.out
            | true =>
              have HOK := Lib.hid hok
              have HS6 := Lib.hid (HS3.out.next (e' := ⟨eL, ea, eb, ((numP r).1)⟩) HO5.out ⟨A5, n5, c5, HB6.out, HF5.out.only HO5.out (Nat.lt_succ_self g)⟩)
              clear hok r0 r1 r2 r3 x1
              go_wp2_with fail
              go_roundw
              case rel => exact ⟨3 + 1, A6, n6, c6, (numP r).2.1, ⟨eL, ea, eb, ((numP r).1)⟩, rfl, by simp, by omega, HR6.out, by have := numP_rest r; have := HRN.out; omega, by rw [HNX.out, HPP.out, HOK.out]; rfl, HS6.out⟩
              case measure => simp [intOf]
      · obtain rfl : k = 4 := by omega
        obtain ⟨A5, n5, c5, hb5, hf5, _⟩ := HS.out.box
        have HYES := Lib.hid (show X = some ⟨eL, ea, eb, ec⟩ by rw [HRE.out, HST.out])
        obtain ⟨q0, q1, q2, q3, _, _, _, _⟩ := hb5.cells
        obtain ⟨y0, y1, y2, y3, z0, z1, z2, z3⟩ := HS.out.res.cells
        have HF5 := Lib.hid hf5
        have HRS := Lib.hid HS.out.res
        clear hb5 hf5 hlt hk4
        go_wp2_with fail
        have HSS := Lib.hid (HRS.out.set (.slice A5 n5 c5) (.int .u64 (ea : Int)) (.int .u64 (eb : Int)) (.int .u64 (ec : Int)))
        have HB := Lib.hid (set4_below HS.out.below (Nat.le_refl w.heap.size) (.slice A5 n5 c5) (.int .u64 (ea : Int)) (.int .u64 (eb : Int)) (.int .u64 (ec : Int)))
        have HFF := Lib.hid ((HF5.out.offset4 (k := w.heap.size) (fun g' off sp e => by have := HF5.out.block_ge g' off sp e; have := HS.out.geq; omega) (.slice A5 n5 c5) (.int .u64 (ea : Int)) (.int .u64 (eb : Int)) (.int .u64 (ec : Int))).mono (b' := w.heap.size) (by have := HS.out.geq; omega))
        obtain ⟨wz, hwz⟩ : ∃ wz, wz = set4 wr w.heap.size (.slice A5 n5 c5) (.int .u64 (ea : Int)) (.int .u64 (eb : Int)) (.int .u64 (ec : Int)) := ⟨_, rfl⟩
        rw [← hwz] at HSS HB HFF
        unfold set4 at hwz
        rw [← hwz]
        clear hwz y0 y1 y2 y3 z0 z1 z2 z3
        obtain ⟨y0, y1, y2, y3, _, _, _, _⟩ := HSS.out.cells
        (try simp only [Exit.inBlock, Exit.then])
        refine bodyPost_ret (v := .tuple #[edV A5 n5 c5 ⟨eL, ea, eb, ec⟩, .bool true]) (by simp [edV, results, Try.results27, go_sem, y0, y1, y2, y3]; try rfl) rfl ?_
        exact ReadR.some HYES.out HFF.out HB.out
end Go.Proofs.Ythgbafhfeblhaaa
