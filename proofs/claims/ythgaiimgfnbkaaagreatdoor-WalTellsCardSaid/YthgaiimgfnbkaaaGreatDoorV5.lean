/-
  Contract: the reference's Read.
-/
import Derived.Test.YthgaiimgfnbkaaaGreatDoorV4
namespace Go.Proofs.YthgaiimgfnbkaaaGreatDoor
set_option maxRecDepth 100000
open Go.RowKit Go.Shelf
set_option linter.unusedVariables false

theorem recAt_app {W w1 : World} {b n c g q m d : Nat} {A A' : Option Addr} {R : List WR} (h : RecAt W g q A n c) (hf : FrW W b A' m d R) (hg : W.grownBy w1 (Value.slice A' m d).ownBlock) (hne : (Value.slice A' m d).ownBlock ≠ some g) : RecAt w1 g q A n c :=
  ⟨by have := h.lt; have := hg.size; omega, (hg.block g h.lt (fun e => hne e.symm)).trans h.h⟩

set_option maxHeartbeats 8000000 in
theorem refRead_c {w : World} {n c : Nat} {A : Option Addr} {l : List UInt8} (h : Rd w w.heap.size A n c (bv l)) (hn : n ≤ 1000000000) :
    Calls Tryz.prog 11 #[.slice A n c] w (RdPost w l) := by
  have hll : l.length = n := by simpa using h.len
  have hni : (n : Int) ≤ 1000000000 := by omega
  have HH := Lib.hid h
  have HLL := Lib.hid hll
  have g0 : Below w.heap.size w w := Below.refl _ _
  clear h hll hn
  go_enter Tryz.func11, Tryz.ntmps11
  go_wp2_with fail
  go_loopw [5, 6, 7] (fun ov uv nv wr => ∃ (R : List WR) (u m c1 nx : Nat) (A1 : Option Addr), ov = .slice A1 m c1 ∧ uv = .int .i64 (u : Int) ∧ nv = .int .u64 (nx : Int) ∧ FrW wr w.heap.size A1 m c1 R ∧ (∀ x ∈ R, FrO wr w.heap.size x.A x.n x.c x.L) ∧ nextW 0 (recsOf R) = nx ∧ chain 0 (recsOf R) ∧ l.take u = catW (recsOf R) ∧ u ≤ n ∧ Below w.heap.size w wr) (fun _ uv _ _ => ((n : Int) - intOf uv).toNat)
  case atStart => exact ⟨[], 0, 0, 0, 0, none, rfl, rfl, rfl, FrW.nil, fun x hx => (by cases hx), rfl, trivial, by simp [catW, recsOf], Nat.zero_le _, g0⟩
  case round =>
    clear g0
    obtain ⟨R, u, m, c1, nx, A1, rfl, rfl, rfl, f1, fo, hnx, hch, htk, hu, gr⟩ := hrel
    have HNX := Lib.hid hnx
    have HCH := Lib.hid hch
    have HTK := Lib.hid htk
    have hml := f1.len
    have hmc : 8 * m ≤ u := by
      have h1 := (catW_len hch).1
      have h2 := congrArg List.length htk
      rw [List.length_take, HLL.out] at h2
      rw [recsOf_len, hml] at h1
      omega
    have hnxb : (nx : Int) ≤ 72057594037927936 := by
      by_cases hR : recsOf R = []
      · rw [hR] at hnx; simp [nextW] at hnx; omega
      · have := (chain_pos hch hR).2; rw [hnx] at this; omega
    clear hnx hch htk hml
    by_cases hlt : u < n
    · have hdk : decide ((u : Int) < (n : Int)) = true := by simp; omega
      have hdk2 : decide (u < n) = true := by simp; omega
      have hr0 := HH.out.now gr
      obtain ⟨A2, hsl, hr⟩ := hr0.slice_lo 26 5 (P := Tryz.prog) Tryz.underlying26 info_u8 .i64 (k := u) (by omega)
      rw [bv_drop] at hr
      have HC := Lib.hid (refOne_c hr (by omega))
      clear hr hr0
      go_wp2_with fail
      refine HC.out.mono ?_
      rintro e w2 ⟨⟨q', A', n', c', L'⟩, k, rfl, ⟨hno, hyes⟩, hb2⟩
      unfold wrv
      dsimp only at hyes ⊢
      have hgs := gr.size
      replace f1 := f1.below hb2
      replace fo : ∀ x ∈ R, FrO w2 w.heap.size x.A x.n x.c x.L := fun x hx => (fo x hx).below hb2
      replace gr := bon gr hb2
      have HFO := Lib.hid fo
      have gr3 := blit gr (.cells #[.int .u64 (q' : Int), .slice A' n' c'] 25)
      have r8 := RecAt.new w2 q' A' n' c'
      have R8 := Lib.hid r8
      obtain ⟨z0, z1⟩ := r8.cells
      have HSZ := Lib.hid hb2.size
      clear hb2 HC hsl fo r8
      rcases Nat.eq_zero_or_pos k with hk0 | hk0
      · subst hk0
        have HNO := Lib.hid (hno rfl)
        clear hno hyes
        go_wp2_with fail
        go_ret3
        refine ⟨A1, m, c1, R, u, ?_, ⟨HCH.out, HTK.out, by rw [HLL.out]; exact hu, fun q L k hq => by rw [HNO.out] at hq; cases hq⟩, ⟨f1.alloc _, fun x hx => (HFO.out x hx).alloc _⟩, gr3⟩
        rw [HLL.out, hdk2]
        rfl
      · obtain ⟨ho, hfx⟩ := hyes hk0
        have hk1 : ((k : Int) == 0) = false := by simp; omega
        have ho' : oneL (l.drop u) = some ((q', L'), k) := ho
        obtain ⟨hrb, hkl, t, ht⟩ := oneL_iff.1 ho'
        have hle := oneL_le ho'
        have hul : u + k ≤ n := by have := hle.2.1; rw [List.length_drop, HLL.out] at this; omega
        have hq1 : (1 : Int) ≤ (q' : Int) := by have := (recB_iff.1 hrb).2.1; omega
        have hqn : (q' : Int) + (n' : Int) ≤ 72057594037927936 := by have := (recB_iff.1 hrb).2.2; have := hfx.len; omega
        have hnl := hfx.len
        have HX := Lib.hid hfx
        have HO := Lib.hid ho'
        have HRB := Lib.hid hrb
        have HTT := Lib.hid (And.intro hkl ht)
        have HNL := Lib.hid hnl
        clear hno hyes ho ho' hfx hrb hkl ht hle hnl
        by_cases hstop : 0 < nx ∧ q' ≠ nx
        · obtain ⟨hs1, hs2⟩ := hstop
          have e1 : decide ((0 : Int) < (nx : Int)) = true := by simp; omega
          have e1' : decide (0 < nx) = true := by simp; omega
          have e2 : ((q' : Int) != (nx : Int)) = true := by simp; omega
          have e2' : (q' != nx) = true := by simp; omega
          go_wp2_with fail
          go_ret3
          refine ⟨A1, m, c1, R, u, ?_, ⟨HCH.out, HTK.out, by rw [HLL.out]; exact hu, fun q L k2 hq => by
            rw [HO.out] at hq
            simp only [Option.some.injEq, Prod.mk.injEq] at hq
            rw [HNX.out, ← hq.1.1]
            exact ⟨by omega, hs2⟩⟩, ⟨f1.alloc _, fun x hx => (HFO.out x hx).alloc _⟩, gr3⟩
          rw [HLL.out, hdk2]
          rfl
        · have e1 : nx = 0 ∨ q' = nx := by
            rcases Nat.eq_zero_or_pos nx with h | h
            · exact .inl h
            · exact .inr (Classical.byContradiction fun h2 => hstop ⟨h, h2⟩)
          have HE := Lib.hid e1
          have hmi : (m : Int) ≤ 1000000000 := by omega
          have hne : (Value.slice A1 m c1).ownBlock ≠ some w2.heap.size := fun e => absurd (f1.own.lt _ e).2 (Nat.lt_irrefl _)
          have HNE := Lib.hid hne
          have hgs2 := gr.size
          clear hstop hne
          have hfin : ∀ w3 A3 c3, AppW ((w2.alloc (.cells #[.int .u64 (q' : Int), .slice A' n' c'] 25)).alloc (.cells #[.int .u64 (q' : Int), .slice A' n' c'] 25)) w3 w.heap.size (.slice A1 m c1) A3 (m + 1) c3 (R ++ [⟨q', A', n', c', L'⟩]) →
              FrW w3 w.heap.size A3 (m + 1) c3 (R ++ [⟨q', A', n', c', L'⟩]) ∧ (∀ x ∈ R ++ [⟨q', A', n', c', L'⟩], FrO w3 w.heap.size x.A x.n x.c x.L) ∧ nextW 0 (recsOf (R ++ [⟨q', A', n', c', L'⟩])) = q' + n' ∧ chain 0 (recsOf (R ++ [⟨q', A', n', c', L'⟩])) ∧ l.take (u + k) = catW (recsOf (R ++ [⟨q', A', n', c', L'⟩])) ∧ Below w.heap.size w w3 := by
            intro w3 A3 c3 hap
            have er : recsOf (R ++ [⟨q', A', n', c', L'⟩]) = recsOf R ++ [(q', L')] := by simp [recsOf, WR.r]
            refine ⟨hap.fr, fun x hx => ?_, ?_, ?_, ?_, (blit gr3 _).trans hap.below⟩
            · rcases List.mem_append.1 hx with h | h
              · exact FrO.appended ((HFO.out x h).alloc _) (f1.alloc _) hap.grown
              · simp only [List.mem_singleton] at h
                subst h
                exact FrO.appended ((HX.out.mono hgs).alloc _) (f1.alloc _) hap.grown
            · rw [er, nextW_snoc]; show q' + L'.length = _; rw [HNL.out]
            · rw [er]
              exact (chain_snoc 0 _ _).2 ⟨HCH.out, by rw [HNX.out]; exact HE.out, HRB.out⟩
            · rw [er, catW_snoc, ← HTK.out, List.take_add]
              congr 1
              rw [HTT.out.2, HTT.out.1, List.take_left]
          have HFIN := Lib.hid hfin
          have hR8 : ∀ w3 A3 c3, AppW ((w2.alloc (.cells #[.int .u64 (q' : Int), .slice A' n' c'] 25)).alloc (.cells #[.int .u64 (q' : Int), .slice A' n' c'] 25)) w3 w.heap.size (.slice A1 m c1) A3 (m + 1) c3 (R ++ [⟨q', A', n', c', L'⟩]) → RecAt w3 w2.heap.size q' A' n' c' :=
            fun w3 A3 c3 hap => recAt_app (R8.out.alloc _) ((f1.alloc _).alloc _) hap.grown HNE.out
          have HR8 := Lib.hid hR8
          clear hfin hR8 HNE HRB HTT HNL HX HO
          have hwr : (u : Int) + (k : Int) ≤ 1000000000 := by omega
          rcases HE.out with h0 | h0
          · subst h0
            go_wp2_with (at_builtin; refine wpList_appW rfl (.tmp 35) (.tmp 37) rfl rfl ((f1.alloc _).alloc _) rfl ((FrW.one (w2.alloc (.cells #[.int .u64 (q' : Int), .slice A' n' c'] 25)) (b := 0) (g := w2.heap.size + 1) ⟨q', A', n', c', L'⟩ (by simp) (Nat.zero_le _)).here) (by omega) (by simp; omega) ?_; intro A3 c3 w3 hap; have hend := HFIN.out w3 A3 c3 hap; obtain ⟨y0, y1⟩ := (HR8.out w3 A3 c3 hap).cells; have HEND := Lib.hid hend; clear hend hap)
            go_roundw
            case rel =>
              obtain ⟨i1, i2, i3, i4, i5, i6⟩ := HEND.out
              exact ⟨_, u + k, m + 1, c3, q' + n', A3, rfl, by simp, by simp, i1, i2, i3, i4, i5, hul, i6⟩
            case measure => simp [intOf]; omega
          · subst h0
            have e2 : ((q' : Int) != (q' : Int)) = false := by simp
            have e3 : decide ((0 : Int) < (q' : Int)) = true := by simp; omega
            have e3' : decide (0 < q') = true := by simp; omega
            go_wp2_with (at_builtin; refine wpList_appW rfl (.tmp 35) (.tmp 37) rfl rfl ((f1.alloc _).alloc _) rfl ((FrW.one (w2.alloc (.cells #[.int .u64 (q' : Int), .slice A' n' c'] 25)) (b := 0) (g := w2.heap.size + 1) ⟨q', A', n', c', L'⟩ (by simp) (Nat.zero_le _)).here) (by omega) (by simp; omega) ?_; intro A3 c3 w3 hap; have hend := HFIN.out w3 A3 c3 hap; obtain ⟨y0, y1⟩ := (HR8.out w3 A3 c3 hap).cells; have HEND := Lib.hid hend; clear hend hap)
            go_roundw
            case rel =>
              obtain ⟨i1, i2, i3, i4, i5, i6⟩ := HEND.out
              exact ⟨_, u + k, m + 1, c3, q' + n', A3, rfl, by simp, by simp, i1, i2, i3, i4, i5, hul, i6⟩
            case measure => simp [intOf]; omega
    · obtain rfl : u = n := by omega
      have hdk : decide ((u : Int) < (u : Int)) = false := by simp
      have hdk2 : decide (u < u) = false := by simp
      go_wp2_with fail
      go_ret3
      refine ⟨A1, m, c1, R, u, ?_, ⟨HCH.out, HTK.out, by rw [HLL.out]; exact Nat.le_refl _, fun q L k hq => by
        rw [List.drop_of_length_le (by rw [HLL.out]; exact Nat.le_refl _), oneL_nil] at hq; cases hq⟩, ⟨f1, fo⟩, gr⟩
      rw [HLL.out, hdk2]
      rfl
end Go.Proofs.YthgaiimgfnbkaaaGreatDoor
