/-
  The texts FrC1, FrC2, in one.
-/
import Derived.Test.YtkdjjdkcogolmaaGreatDoorFrM
import Derived.Great.Walk
import Derived.RegionTactic
import Derived.BigRegion
import Derived.Laws.Rows
section
/-
  Contract: the program's shifted: the register after one bit that is 0.
-/
namespace Go.Proofs.YtkdjjdkcogolmaaGreatDoor
set_option maxRecDepth 100000
open Go.RowKit

/-- A register as a value. -/
def rv (r : BitVec 32) : Value := .int .u32 (r.toNat : Int)

theorem sh_val (r : BitVec 32) : ((sh r).toNat : Int) = if (r.toNat : Int) % 2 = 1 then bits .xor .u32 ((r.toNat : Int) / 2) 3945912366 else (r.toNat : Int) / 2 := by
  have hr := r.isLt
  rw [sh_toNat]
  by_cases h : r.toNat % 2 = 1
  · rw [if_pos h, if_pos (by omega)]
    have := u32_xor_nat (r.toNat / 2) 3945912366 (by omega) (by omega)
    rw [← this]
    rfl
  · rw [if_neg h, if_neg (by omega)]
    rfl

set_option maxRecDepth 100000 in
theorem shifted_c {w : World} (r : BitVec 32) : Calls Tryz.prog 122 #[.int .u32 (r.toNat : Int)] w fun e w' => e = .returned (.int .u32 ((sh r).toNat : Int)) ∧ w = w' := by
  have hr := r.isLt
  have hv := sh_val r
  by_cases h : (r.toNat : Int) % 2 = 1
  · have hd : ((r.toNat : Int) % 2 == 1) = true := by simpa using h
    rw [if_pos h] at hv
    clear hr
    go_enter Tryz.func122, Tryz.ntmps122
    go_wp2
    go_ret
    exact ⟨by rw [hv]; rfl, rfl⟩
  · have hd : ((r.toNat : Int) % 2 == 1) = false := by simpa using h
    rw [if_neg h] at hv
    clear hr
    go_enter Tryz.func122, Tryz.ntmps122
    go_wp2
    go_ret
    exact ⟨by rw [hv]; rfl, rfl⟩
end Go.Proofs.YtkdjjdkcogolmaaGreatDoor
end

section
/-
  Contract: the program's table: what each byte contributes.
-/
namespace Go.Proofs.YtkdjjdkcogolmaaGreatDoor
set_option maxRecDepth 100000
open Go.RowKit

/-- Such a block: 256 numbers. -/
structure TabAt (w : World) (g : Nat) (f : Nat → BitVec 32) : Prop where
  ex : ∃ cs, w.heap[g]? = some (.cells cs 120) ∧ cs.size = 256 ∧ ∀ i < 256, cs[i]? = some (rv (f i))

theorem zero_tab : ∃ Z : Array Value, Z.size = 256 ∧ (∀ i < 256, Z[i]? = some (rv 0#32)) ∧ ∀ W, (zeroValue 120).run Tryz.prog W = .ok (.agg Z) W := by
  refine ⟨Array.replicate 256 (.int .u32 0), by simp, fun i hi => by simp [hi, rv], fun W => ?_⟩
  have h : (Tryz.prog.info? 120).map (fun i => i.zero) = some (some (.agg (Array.replicate 256 (.int .u32 0)))) := by kernel_rfl
  cases hq : Tryz.prog.info? 120 with
  | none => rw [hq] at h; cases h
  | some i =>
    rw [hq] at h
    simp at h
    simp [zeroValue, typeInfo, hq, h]

def pows : List Nat := [128, 64, 32, 16, 8, 4, 2, 1]
/-- The table behind k rounds of the first loop. -/
def F1 (k j : Nat) : BitVec 32 := if j ∈ pows.take k then tabB j else 0#32
/-- The table ahead of the byte c of the second loop. -/
def F2 (c j : Nat) : BitVec 32 := if j < c then tabB j else if j ∈ pows then tabB j else 0#32
/-- The lowest bit, and the rest. -/
def lowB (c : Nat) : Nat := (bits .and .i64 (c : Int) (-(c : Int))).toNat
def restB (c : Nat) : Nat := (bits .and .i64 (c : Int) ((c : Int) - 1)).toNat

theorem low_val : ∀ c : Nat, c < 256 → bits .and .i64 (c : Int) (-(c : Int)) = (lowB c : Int) := by decide +kernel
theorem rest_val : ∀ c : Nat, c < 256 → bits .and .i64 (c : Int) ((c : Int) - 1) = (restB c : Int) := by decide +kernel
theorem low_rest : ∀ c < 256, lowB c < 256 ∧ restB c < 256 ∧ lowB c ^^^ restB c = c ∧ (lowB c < c ∨ lowB c ∈ pows ∨ lowB c = 0) ∧ (restB c < c ∨ restB c = 0) := by decide +kernel
theorem tab_zero : tabB 0 = 0#32 := by decide
theorem one_tab : ∀ k < 8, sh (shN k 1#32) = shN (k + 1) 1#32 ∧ shN (k + 1) 1#32 = tabB (128 / 2 ^ k) ∧ 128 / 2 ^ k < 256 ∧ 0 < 128 / 2 ^ k ∧ 128 / 2 ^ k / 2 = 128 / 2 ^ (k + 1) := by decide +kernel
theorem pows_take : ∀ k < 8, ∀ j < 256, (j ∈ pows.take (k + 1)) = (j = 128 / 2 ^ k ∨ j ∈ pows.take k) := by
  have : ∀ k < 8, ∀ j < 256, (j ∈ pows.take (k + 1)) ↔ (j = 128 / 2 ^ k ∨ j ∈ pows.take k) := by decide +kernel
  intro k hk j hj
  exact propext (this k hk j hj)
theorem F1_next {k : Nat} (hk : k < 8) {j : Nat} (hj : j < 256) : F1 (k + 1) j = if j = 128 / 2 ^ k then shN (k + 1) 1#32 else F1 k j := by
  unfold F1
  rw [(one_tab k hk).2.1]
  by_cases h : j = 128 / 2 ^ k
  · rw [if_pos h, if_pos (by rw [pows_take k hk j hj]; exact .inl h), h]
  · rw [if_neg h]
    by_cases h2 : j ∈ pows.take k
    · rw [if_pos h2, if_pos (by rw [pows_take k hk j hj]; exact .inr h2)]
    · rw [if_neg h2, if_neg (by rw [pows_take k hk j hj]; rintro (h3 | h3); exact h h3; exact h2 h3)]
theorem F2_low {c : Nat} (hc : c < 256) : F2 c (lowB c) = tabB (lowB c) := by
  obtain ⟨_, _, _, h, _⟩ := low_rest c hc
  unfold F2
  split
  · rfl
  · split
    · rfl
    · rcases h with h | h | h
      · contradiction
      · contradiction
      · rw [h, tab_zero]
theorem F2_rest {c : Nat} (hc : c < 256) : F2 c (restB c) = tabB (restB c) := by
  obtain ⟨_, _, _, _, h⟩ := low_rest c hc
  unfold F2
  split
  · rfl
  · split
    · rfl
    · rcases h with h | h
      · contradiction
      · rw [h, tab_zero]
theorem F2_next {c j : Nat} (hc : c < 256) : F2 (c + 1) j = if j = c then F2 c (lowB c) ^^^ F2 c (restB c) else F2 c j := by
  rw [F2_low hc, F2_rest hc, ← tab_xor _ _ (low_rest c hc).1 (low_rest c hc).2.1, (low_rest c hc).2.2.1]
  unfold F2
  by_cases h : j = c
  · rw [if_pos h, if_pos (by omega), h]
  · rw [if_neg h]
    by_cases h2 : j < c
    · rw [if_pos h2, if_pos (by omega)]
    · rw [if_neg h2, if_neg (by omega)]
theorem F1_F2 {j : Nat} : F1 8 j = F2 0 j := by
  unfold F1 F2
  rw [if_neg (Nat.not_lt_zero j)]
  rfl

structure Con (w wr : World) (g : Nat) (f : Nat → BitVec 32) : Prop where
  below : Below w.heap.size w wr
  gt : g = w.heap.size + 1
  res : ∃ cs, wr.heap[w.heap.size]? = some (.cells cs 120) ∧ cs.size = 256
  tab : TabAt wr g f

theorem Con.cell {w wr : World} {g : Nat} {f : Nat → BitVec 32} (h : Con w wr g f) {i : Nat} (hi : i < 256) : wr.cell? ⟨g, i, none⟩ = some (.int .u32 ((f i).toNat : Int)) := by
  obtain ⟨cs, h1, h2, h3⟩ := h.tab.ex
  rw [cell_of_row _ _ _ _ _ _ h1]
  exact h3 i hi
theorem Con.frozen {w wr : World} {g : Nat} {f : Nat → BitVec 32} (h : Con w wr g f) (i : Nat) : wr.frozen? ⟨g, i, none⟩ = false := by
  obtain ⟨cs, h1, h2, h3⟩ := h.tab.ex
  exact frozen_of_row _ _ _ _ _ h1
theorem Con.set {w wr : World} {g : Nat} {f f' : Nat → BitVec 32} (h : Con w wr g f) {i : Nat} (x : BitVec 32) (hf : ∀ j < 256, f' j = if j = i then x else f j) : Con w (wr.setCell ⟨g, i, none⟩ (.int .u32 (x.toNat : Int))) g f' := by
  obtain ⟨cs, h1, h2, h3⟩ := h.tab.ex
  obtain ⟨rs, r1, r2⟩ := h.res
  refine ⟨h.below.setCell (by have := h.gt; simp; omega) _, h.gt, ⟨rs, ?_, r2⟩, ⟨_, heap_setCell_same _ _ _ _ _ _ h1, by simpa using h2, fun j hj => ?_⟩⟩
  · rw [heap_setCell_other _ _ _ _ (by have := h.gt; simp; omega)]; exact r1
  · rw [hf j hj, Array.getElem?_setIfInBounds]
    by_cases e : i = j
    · subst e; rw [if_pos rfl, if_pos (by omega), if_pos rfl]; rfl
    · rw [if_neg e, if_neg (fun e' => e e'.symm)]; exact h3 j hj
theorem Con.drew {w wr : World} {g : Nat} {f : Nat → BitVec 32} (h : Con w wr g f) : Con w wr.drew g f := ⟨⟨h.below.os, h.below.tape, h.below.output, h.below.size, h.below.block⟩, h.gt, h.res, ⟨h.tab.ex⟩⟩

theorem below_setRow {B : Nat} {a w : World} (h : Below B a w) {g : Nat} (hg : B ≤ g) (cs : Array Value) : Below B a (w.setRow g cs) :=
  ⟨h.os, h.tape, h.output, by rw [setRow_size]; exact h.size, fun k hk => (setRow_other w g k cs (by omega)).trans (h.block k hk)⟩
/-- The table as a value. -/
def TabV (v : Value) : Prop := ∃ cs : Array Value, v = .agg cs ∧ cs.size = 256 ∧ ∀ i < 256, cs[i]? = some (.int .u32 ((tabB i).toNat : Int))

set_option maxRecDepth 100000 in
set_option maxHeartbeats 1000000 in
theorem contributions_c {w : World} : Calls Tryz.prog 103 #[] w fun e w' => ∃ v, e = .returned v ∧ TabV v ∧ Below w.heap.size w w' := by
  obtain ⟨Z, hZ1, hZ2, hZ⟩ := zero_tab
  obtain ⟨w0, hw0⟩ : ∃ w0, (w.alloc (.cells Z 120)).alloc (.cells Z 120) = w0 := ⟨_, rfl⟩
  have hc0 : Con w w0 (w.heap.size + 1) (F1 0) := by
    subst hw0
    refine ⟨((Below.refl _ _).alloc (Nat.le_refl _) _).alloc (by simp) _, rfl, ⟨Z, heap_alloc2_old _ _ _, hZ1⟩, ⟨Z, heap_alloc2_new _ _ _, hZ1, fun i hi => ?_⟩⟩
    rw [hZ2 i hi]; rfl
  obtain ⟨g0, hg0⟩ : ∃ g0, w.heap.size = g0 := ⟨_, rfl⟩
  obtain ⟨g, hg⟩ : ∃ g, g0 + 1 = g := ⟨_, rfl⟩
  rw [hg0, hg] at hc0
  have HC0 := Lib.hid hc0
  clear hZ2 hc0
  go_enter Tryz.func103, Tryz.ntmps103
  go_wp2
  have hc0 := HC0.out
  clear hw0 hZ hZ1 HC0
  go_loopw [2, 3] (fun r b wr => ∃ k : Nat, k ≤ 8 ∧ r = .int .u32 ((shN k 1#32).toNat : Int) ∧ b = .int .i64 ((128 / 2 ^ k : Nat) : Int) ∧ Con w wr g (F1 k)) (fun _ b _ => (intOf b).toNat)
  case atStart => exact ⟨0, by omega, rfl, rfl, hc0⟩
  case round =>
    clear hc0
    obtain ⟨k, hk, rfl, rfl, hr⟩ := hrel
    by_cases hlt : k < 8
    · obtain ⟨o1, o2, o3, o4, o5⟩ := one_tab k hlt
      have hd : decide ((0 : Int) < ((128 / 2 ^ k : Nat) : Int)) = true := by simp only [decide_eq_true_eq]; omega
      have hset := hr.set (i := 128 / 2 ^ k) (f' := F1 (k + 1)) (shN (k + 1) 1#32) (fun j hj => F1_next hlt hj)
      have hc := hr.cell o3
      have hf := hr.frozen (128 / 2 ^ k)
      have hq : (((128 / 2 ^ k : Nat) : Int) / 2) = ((128 / 2 ^ (k + 1) : Nat) : Int) := by rw [← o5]; simp
      rw [← o1] at hset
      have HS := Lib.hid hset
      have hi1 : ((128 / 2 ^ k : Nat) : Int) < 256 := by omega
      have hle : 128 / 2 ^ (k + 1) < 128 / 2 ^ k := by omega
      generalize hb' : 128 / 2 ^ (k + 1) = b' at *
      generalize 128 / 2 ^ k = b at *
      have HB := Lib.hid hb'
      have O1 := Lib.hid o1
      clear hset hr o1 o2 o5 hb'
      go_wp2_with fail
      refine (shifted_c _).mono ?_
      rintro e w' ⟨rfl, rfl⟩
      go_wp2
      go_roundw
      case rel => exact ⟨k + 1, by omega, by rw [O1.out], by rw [HB.out], HS.out⟩
      case measure => simp [intOf]; omega
    · obtain rfl : k = 8 := by omega
      have hd : decide ((0 : Int) < ((128 / 2 ^ 8 : Nat) : Int)) = false := by decide
      have hr2 : Con w wr g (F2 0) := by rw [show F2 0 = F1 8 from funext fun j => F1_F2.symm]; exact hr
      clear hr
      go_wp2
      go_loopw [14] (fun i wz => ∃ c : Nat, c ≤ 256 ∧ i = .int .i64 (c : Int) ∧ Con w wz g (F2 c)) (fun i _ => (256 - intOf i).toNat)
      case atStart => exact ⟨0, by omega, rfl, hr2⟩
      case round =>
        clear hr2
        obtain ⟨c, hc, rfl, hr⟩ := hrel
        by_cases hlt : c < 256
        · obtain ⟨l1, l2, -, -, -⟩ := low_rest c hlt
          have lv := low_val c hlt
          have rv' := rest_val c hlt
          have hset := (hr.set (i := c) (f' := F2 (c + 1)) (F2 c (lowB c) ^^^ F2 c (restB c)) (fun j hj => F2_next hlt)).drew
          rw [BitVec.toNat_xor] at hset
          have c1 := hr.cell l1
          have c2 := hr.cell l2
          have c3 := hr.cell hlt
          have hf := hr.frozen c
          have hx : bits .xor .u32 ((F2 c (lowB c)).toNat : Int) ((F2 c (restB c)).toNat : Int) = (((F2 c (lowB c)).toNat ^^^ (F2 c (restB c)).toNat : Nat) : Int) :=
            u32_xor_nat _ _ (F2 c (lowB c)).isLt (F2 c (restB c)).isLt
          have hi1 : ((lowB c : Nat) : Int) < 256 := by omega
          have hi2 : ((restB c : Nat) : Int) < 256 := by omega
          have hd : decide ((c : Int) < 256) = true := by simp; omega
          have HS := Lib.hid hset
          generalize lowB c = lo at *
          generalize restB c = re at *
          clear hset hr
          go_wp2
          go_region
          go_wp2
          go_roundw
          case rel => exact ⟨c + 1, by omega, by simp, HS.out⟩
          case measure => simp [intOf]; omega
        · obtain rfl : c = 256 := by omega
          have hd : decide (((256 : Nat) : Int) < 256) = false := by decide
          obtain ⟨cs, h1, h2, h3⟩ := hr.tab.ex
          obtain ⟨rs, r1, r2⟩ := hr.res
          have hfin : TabV (.agg cs) := ⟨cs, rfl, h2, fun i hi => by rw [h3 i hi]; unfold F2 rv; rw [if_pos hi]⟩
          have hb : Below w.heap.size w (wr.setRow g0 cs) := below_setRow hr.below (by omega) cs
          have hone : (cs.all fun x => x.oneCell') = true := by
            rw [Array.all_eq_true]
            intro i hi
            have := h3 i (by omega)
            rw [Array.getElem?_eq_getElem hi] at this
            rw [Option.some.inj this]
            rfl
          have HF := Lib.hid hfin
          have HB := Lib.hid hb
          have H1 := Lib.hid h1
          have H2 := Lib.hid h2
          have H3 := Lib.hid h3
          rw [hg0] at r1
          have R1 := Lib.hid r1
          have hin : (Tryz.prog.info? 120).map (·.size) = some cs.size := by rw [h2]; kernel_rfl
          have HI := Lib.hid hin
          clear hfin hb h1 h2 h3 r1 hin hr
          go_wp2_with (first | (refine wpList_load_row rfl 120 _ rfl g rfl 120 cs _ _ H1.out Tryz.underlying120 rfl HI.out ?_) | (refine wpList_store_row rfl 120 _ _ rfl g0 cs rfl rfl 120 rs R1.out HI.out (by rw [H2.out, r2]) hone ?_))
          exact bodyPost_ret (results_cell_row rfl _ _ g0 120 cs _ _ rfl (setRow_heap _ _ _ _ _ _ R1.out) Tryz.underlying120 rfl HI.out) rfl ⟨_, rfl, HF.out, HB.out⟩
end Go.Proofs.YtkdjjdkcogolmaaGreatDoor
end
