/-
  Contract: Read: a log's records, how many bytes are used, whether it is torn.
-/
import Derived.Test.YthgaiimgfnbkaaaGreatDoorW4
import Derived.BigRegionIn
namespace Go.Proofs.YthgaiimgfnbkaaaGreatDoor
set_option maxRecDepth 100000
open Go.RowKit Go.Shelf
set_option linter.unusedVariables false
attribute [local go_sem] Oper.semAt_some

/-- An append of records inside a fence. -/
theorem wpListIn_appW {F : Fence} {fuel : Nat} {ops : Array Oper} {rest : List Oper} {o : Oper} {a : Act} {Q : Exit → Act → World → Prop} {w : World} (hgd : o.guard = none) (s x : Operand)
    (ho : o.op = .call { callee := .builtin .append, args := #[s, x], argTypes := #[28, 28] })
    {b : Nat} {A : Option Addr} {n c : Nat} {L : List WR} (hs : a.eval s = .slice A n c) (h : FrW w b A n c L)
    {B m c2 : Nat} {A2 : Option Addr} {M : List WR} (hx : a.eval x = .slice A2 m c2) (hr : RdW w B A2 m c2 M) (hby : n + m ≤ 1000000000000) (hb : b ≤ w.heap.size)
    (hk : ∀ A' c' w', AppW w w' b (.slice A n c) A' (n + m) c' (L ++ M) → wpListIn F fuel Tryz.prog ops Q rest (a.put o.dst (.slice A' (n + m) c')) w') : wpListIn F fuel Tryz.prog ops Q (o :: rest) a w :=
  wpListIn_plain hgd fun K hK => by
    obtain ⟨A', c', w', hrun, h2⟩ := run_appW w o.type h hr hby hb
    unfold Oper.wpIn
    refine ⟨?_, ?_⟩
    · simp [Oper.about, ho, resolve, Target.leads, Sem.run_pure]
    · rw [Oper.semAt_plain F _ _ (by rw [ho]; intro c hc'; cases hc')]
      simp [execOp, ho, resolve, invoke, builtin, hs, hx, hrun, Result.andThen]
      exact hK _ _ (hk A' c' w' h2)

section
variable {W W' w1 : World}
theorem own_not_row {t t' : TypeId} (htt : t ≠ t') {b s n b' s' n' : Nat} {A A' : Option Addr} {c c' : Nat} {xs xs' : List Value} (h : W.ownsRow b t s (.slice A n c) n xs) (h' : W.ownsRow b' t' s' (.slice A' n' c') n' xs') :
    (Value.slice A n c).ownBlock = none ∨ (Value.slice A n c).ownBlock ≠ (Value.slice A' n' c').ownBlock := by
  rcases h.2 with ⟨e, _⟩ | ⟨g, cap, cur, e, _, hg, _⟩
  · rw [e]; exact .inl rfl
  · refine .inr fun e2 => ?_
    rw [e] at e2
    rcases h'.2 with ⟨e', _⟩ | ⟨g', cap', cur', e', _, hg', _⟩
    · rw [e'] at e2; simp [Value.ownBlock] at e2
    · rw [e'] at e2
      obtain rfl : g = g' := by simpa [Value.ownBlock] using e2
      rw [hg] at hg'
      simp at hg'
      exact htt hg'.2
/-- A fresh row of operations stands behind an append of records, and behind a store into a variable's box. -/
theorem FrO.appended {b n c b' n' c' : Nat} {A A' : Option Addr} {L : List Bop} {R : List WR} {tmp : Obj} (h : FrO W b A n c L) (h' : FrW W b' A' n' c' R) (hg : (W.alloc tmp).grownBy w1 (Value.slice A' n' c').ownBlock) : FrO w1 b A n c L :=
  ⟨(h.own.alloc tmp).kept hg (own_not_row (by decide) h.own h'.own)⟩
theorem FrO.boxset {b n c B : Nat} {A : Option Addr} {L : List Bop} {t : TypeId} {v : Value} (h : FrO W b A n c L) (hb : Boxed W B t v) (ht : t ≠ 43) (u : Value) : FrO (W.setCell ⟨B, 0, none⟩ u) b A n c L :=
  ⟨h.own.kept (grownBy_setCell' W B u) (.inr (hb.not_row ht h.own).symm)⟩
theorem FrW.boxset {b n c B : Nat} {A : Option Addr} {L : List WR} {t : TypeId} {v : Value} (h : FrW W b A n c L) (hb : Boxed W B t v) (ht : t ≠ 25) (u : Value) : FrW (W.setCell ⟨B, 0, none⟩ u) b A n c L :=
  ⟨h.own.kept (grownBy_setCell' W B u) (.inr (hb.not_row ht h.own).symm)⟩
theorem FrO.nocells {b n c : Nat} {A : Option Addr} {L : List Bop} {row : Option Nat} (h : FrO W b A n c L) (hg : W.grownBy W' row) (hr : ∀ r, row = some r → ∃ o : Obj, W.heap[r]? = some o ∧ o.isCells = false) : FrO W' b A n c L := by
  refine ⟨h.own.kept hg ?_⟩
  rcases h.own.2 with ⟨e, _⟩ | ⟨g, cap, cur, e, _, hgb, _⟩
  · rw [e]; exact .inl rfl
  · refine .inr fun e' => ?_
    rw [e] at e'
    obtain ⟨o, ho, hc⟩ := hr g (by simpa [Value.ownBlock] using e'.symm)
    rw [hgb] at ho; cases ho; cases hc
theorem FrW.nocells {b n c : Nat} {A : Option Addr} {L : List WR} {row : Option Nat} (h : FrW W b A n c L) (hg : W.grownBy W' row) (hr : ∀ r, row = some r → ∃ o : Obj, W.heap[r]? = some o ∧ o.isCells = false) : FrW W' b A n c L := by
  refine ⟨h.own.kept hg ?_⟩
  rcases h.own.2 with ⟨e, _⟩ | ⟨g, cap, cur, e, _, hgb, _⟩
  · rw [e]; exact .inl rfl
  · refine .inr fun e' => ?_
    rw [e] at e'
    obtain ⟨o, ho, hc⟩ := hr g (by simpa [Value.ownBlock] using e'.symm)
    rw [hgb] at ho; cases ho; cases hc
theorem boxed_nocells {B : Nat} {t : TypeId} {v : Value} {row : Option Nat} (h : Boxed W B t v) (hg : W.grownBy W' row) (hr : ∀ r, row = some r → ∃ o : Obj, W.heap[r]? = some o ∧ o.isCells = false) : Boxed W' B t v :=
  h.kept hg fun e' => by
    obtain ⟨o, ho, hc⟩ := hr B e'.symm
    rw [show W.heap[B]? = _ from h] at ho; cases ho; cases hc
end

set_option maxHeartbeats 1000000 in
theorem records_c {w : World} {A : Option Addr} {n c : Nat} :
    Calls Tryz.prog 28 #[.slice A n c] w fun e w' => e = .returned (.func (.func 47) #[] #[.pointer (some ⟨w.heap.size, 0, none⟩)]) ∧ w.alloc (.cells #[.slice A n c] 26) = w' := by
  go_enter Tryz.func28, Tryz.ntmps28
  go_wp2
  go_ret
  exact ⟨rfl, rfl⟩

/-- Between two rounds: what has come lies in the row, each one's operations where they were laid; what is used. -/
structure Coll (w : World) (v : Value) (p : List Yd) (W : World) : Prop where
  row : ∃ A' c', Boxed W w.heap.size 28 (.slice A' p.length c') ∧ FrW W w.heap.size A' p.length c' (p.map (·.1))
  ops : ∀ x ∈ p, XRec w.heap.size x W
  used : Boxed W (w.heap.size + 1) 3 (.int .i64 (endOf p : Int))
  bytes : Boxed W (w.heap.size + 2) 26 v
  below : Below w.heap.size w W
  size : w.heap.size + 3 ≤ W.heap.size
theorem Coll.nocells {w W W' : World} {v : Value} {p : List Yd} {row : Option Nat} (h : Coll w v p W) (hg : W.grownBy W' row) (hr : ∀ r, row = some r → w.heap.size + 3 ≤ r ∧ ∃ o : Obj, W.heap[r]? = some o ∧ o.isCells = false) : Coll w v p W' := by
  obtain ⟨A', c', h1, h2⟩ := h.row
  have hr2 : ∀ r, row = some r → ∃ o : Obj, W.heap[r]? = some o ∧ o.isCells = false := fun r e => (hr r e).2
  exact ⟨⟨A', c', boxed_nocells h1 hg hr2, h2.nocells hg hr2⟩, fun x hx => FrO.nocells (h.ops x hx) hg hr2, boxed_nocells h.used hg hr2, boxed_nocells h.bytes hg hr2, h.below.grown hg h.below.size (fun k e => by have := (hr k e).1; omega), Nat.le_trans h.size hg.size⟩

/-- What Read answers. -/
structure RecsF (w : World) (b : Nat) (A : Option Addr) (n c : Nat) (L : List WR) : Prop where
  fr : FrW w b A n c L
  ops : ∀ x ∈ L, FrO w b x.A x.n x.c x.L
def RdPost (w : World) (l : List UInt8) (e : Ending) (w' : World) : Prop :=
  ∃ (A : Option Addr) (n c : Nat) (R : List WR) (u : Nat), e = .returned (.tuple #[.slice A n c, .int .i64 (u : Int), .bool (decide (u < l.length))]) ∧ IsRead l (recsOf R) u ∧ RecsF w' w.heap.size A n c R ∧ Below w.heap.size w w'

set_option maxHeartbeats 8000000 in
theorem read_c6 {w : World} {n c : Nat} {A : Option Addr} {l : List UInt8} (h : Rd w w.heap.size A n c (bv l)) (hn : n ≤ 1000000000) :
    Calls Tryz.prog 10 #[.slice A n c] w (RdPost w l) := by
  refine (callsIn_wide (n := 8)).1 ?_
  have hl : l.length = n := by simpa using h.len
  have hni : (n : Int) ≤ 70368744000000 := by omega
  have HC := Lib.hid (fun (W : World) => (callsIn_wide (n := 7)).2 (records_c (w := W) (A := A) (n := n) (c := c)))
  have HL := Lib.hid hl
  have HN := Lib.hid hn
  have HH := Lib.hid h
  clear hl h hn
  refine callsIn_of_wp_marks Tryz.func10 rfl trivial ?_ rfl
  simp only [Tryz.ntmps10, List.size_toArray, List.length_cons, List.length_nil, Nat.reduceAdd, Nat.reduceSub, Array.replicate_succ, Array.replicate_zero, List.push_toArray, List.append_toArray, List.nil_append, List.cons_append]
  gi_wp2_with fail
  refine ⟨trivial, (HC.out _).mono ?_⟩
  rintro e w1 ⟨rfl, rfl⟩
  gi_wp2_with fail
  obtain ⟨W0, hW0⟩ : ∃ W0, ((w.alloc (.cells #[.slice none 0 0] 28)).alloc (.cells #[.int .i64 0] 3)).alloc (.cells #[.slice A n c] 26) = W0 := ⟨_, rfl⟩
  have hsz : W0.heap.size = w.heap.size + 3 := by rw [← hW0]; simp
  have hbl0 : Below w.heap.size w W0 := by rw [← hW0]; exact ((((Below.refl _ w).alloc (Nat.le_refl _) _).alloc (by simp) _).alloc (by simp; omega) _)
  have hB1 : Boxed W0 w.heap.size 28 (.slice none 0 0) := by rw [← hW0]; exact ((Boxed.new w _ _).alloc _).alloc _
  have hB2 : Boxed W0 (w.heap.size + 1) 3 (.int .i64 0) := by
    rw [← hW0]
    have := Boxed.new (w.alloc (.cells #[.slice none 0 0] 28)) 3 (.int .i64 0)
    rw [World.size_alloc] at this
    exact this.alloc _
  have hB3 : Boxed W0 (w.heap.size + 2) 26 (.slice A n c) := by
    rw [← hW0]
    have := Boxed.new ((w.alloc (.cells #[.slice none 0 0] 28)).alloc (.cells #[.int .i64 0] 3)) 26 (.slice A n c)
    rw [World.size_alloc, World.size_alloc] at this
    exact this
  have hcoll : Coll w (.slice A n c) [] W0 := ⟨⟨none, 0, hB1, FrW.nil⟩, fun x hx => absurd hx (List.not_mem_nil), hB2, hB3, hbl0, by omega⟩
  have hseq : Yields Fence.wide (8 - 1) Tryz.prog 47 #[.pointer (some ⟨w.heap.size + 1 + 1, 0, none⟩)] ydv (KpR w.heap.size (w.heap.size + 2)) (XRec w.heap.size) (SRec l) (l.length + 1) W0 :=
    fun lp J W hW hJ hY h0 => records1_in (8 - 1) (by omega) lp (w.heap.size + 2) w.heap.size (by have := HN.out; omega) J hJ hY W (boxed_below hB3 hW) ((HH.out.below hbl0).under hW (by omega)) (by have := hW.size; omega) h0
  rw [hW0]
  clear hB1 hB2 hB3 hW0
  refine range_made rfl (by omega) (gf := 47) (lb := #[.pointer (some ⟨w.heap.size + 1 + 1, 0, none⟩)]) rfl trivial (enters_of Tryz.func47 (by kernel_rfl) rfl) hseq (fun h k => h.trans k)
    (fun W l o o' hl ho hc => ⟨(Below.refl _ W).grown (grownBy_putObj' W l o') (by have := (Array.getElem?_eq_some_iff.1 ho).1; omega) (fun k e => by cases e; omega), fun hb => World.putObj_heap_other (by omega)⟩) (fun _ => rfl)
    (Coll w (.slice A n c)) (fun s X Y row hs hg hr => hs.nocells hg (fun r e => by have := hr r e; exact ⟨by omega, this.2⟩)) hcoll
    (fun x a' W => ∃ Bx, w.heap.size + 3 ≤ Bx ∧ RecAt W Bx x.1.q x.1.A x.1.n x.1.c ∧ XRec w.heap.size x W ∧ a' = { tmps := #[.slice A n c, undef, .slice none 0 0, .int .i64 0, .bool false, .pointer (some ⟨w.heap.size, 0, none⟩), .pointer (some ⟨w.heap.size + 1, 0, none⟩), .pointer (some ⟨Bx, 0, none⟩), .int .i64 (x.2 : Int), .slice A n c, .func (.func 47) #[] #[.pointer (some ⟨w.heap.size + 1 + 1, 0, none⟩)], wrv x.1, .int .i64 (x.2 : Int), undef, undef, undef, undef, undef, undef, undef, undef, undef, undef, undef], defers := [] })
    (fun x a' s X Y row hs hg hr => by
      obtain ⟨Bx, h1, h2, h3, h4⟩ := hs
      refine ⟨Bx, h1, ⟨by have := h2.lt; have := hg.size; omega, (hg.block Bx h2.lt (fun e => ?_)).trans h2.h⟩, FrO.nocells h3 hg (fun r e => (hr r e).2), h4⟩
      obtain ⟨o, ho, hc⟩ := (hr Bx e.symm).2
      rw [h2.h] at ho; cases ho; cases hc)
    ?assign ?body ?done
  case assign =>
    rintro lp pre ⟨⟨q', A', n', c', L'⟩, k⟩ W K hi hx hK
    have hbel := below_alloc W (.cells #[.int .u64 (q' : Int), .slice A' n' c'] 25)
    have hk := hK { tmps := #[.slice A n c, undef, .slice none 0 0, .int .i64 0, .bool false, .pointer (some ⟨w.heap.size, 0, none⟩), .pointer (some ⟨w.heap.size + 1, 0, none⟩), .pointer (some ⟨W.heap.size, 0, none⟩), .int .i64 (k : Int), .slice A n c, .func (.func 47) #[] #[.pointer (some ⟨w.heap.size + 1 + 1, 0, none⟩)], .agg #[.int .u64 (q' : Int), .slice A' n' c'], .int .i64 (k : Int), undef, undef, undef, undef, undef, undef, undef, undef, undef, undef, undef], defers := [] }
      (W.alloc (.cells #[.int .u64 (q' : Int), .slice A' n' c'] 25)) ((KeepsOthers.alloc _ _).from _) ⟨hbel.mono hi.below.size, fun hb => hbel.block _ hb⟩ (hi.nocells (World.grownBy_alloc W _ none) (fun r e => by cases e))
      ⟨W.heap.size, by have := hi.size; omega, RecAt.new W q' A' n' c', FrO.alloc hx _, rfl⟩
    have HK := Lib.hid hk
    clear hK hk hi hx hbel
    unfold ydv wrv
    dsimp only
    gi_wp2
    exact HK.out
  case body =>
    rintro lp pre ⟨⟨q', A', n', c', L'⟩, k⟩ a' W hi ⟨Bx, hBx, hra, hx, rfl⟩ hlen
    dsimp only at hra hx hlen
    obtain ⟨A1, c1, hb, hrow⟩ := hi.row
    have hcb := hb.cell
    obtain ⟨r0, r1⟩ := hra.cells
    obtain ⟨N, hN⟩ : ∃ N, pre.length = N := ⟨_, rfl⟩
    rw [hN] at hb hrow hcb
    have hNb : N ≤ 1000000000 := by have := HL.out; have := HN.out; omega
    have HI := Lib.hid hi
    have HNN := Lib.hid hN
    have HX := Lib.hid hx
    have HB := Lib.hid hb
    have HR := Lib.hid hrow
    have hsW := hi.size
    clear hi hN hx hra hlen hseq hcoll hb
    unfold wrv
    dsimp only
    have hu := HI.out.used
    have hbn := HI.out.bytes
    gi_wp2_with (gi_at_builtin; refine wpListIn_appW rfl (.tmp 13) (.tmp 15) rfl rfl (hrow.alloc _) rfl ((FrW.one W (b := 0) ⟨q', A', n', c', L'⟩ rfl (Nat.zero_le _)).here) (by omega) (by simp; omega) ?_; intro A2 c2 w1 hap; obtain ⟨hv1, hv2, hr2, hk2, hb2⟩ := HB.out.appended (by decide) hrow.own (by omega) (Nat.le_refl _) hap.fr.own hap.grown; have hu1 : Boxed w1 (w.heap.size + 1) 3 (.int .i64 (endOf pre : Int)) := (hu.alloc _).kept hap.grown (hu.not_row (by decide) hrow.own); have hbn1 : Boxed w1 (w.heap.size + 2) 26 (.slice A n c) := (hbn.alloc _).kept hap.grown (hbn.not_row (by decide) hrow.own); have hc1 := hv1.cell; have hf1 := hv1.frozen; have hc2 := hu1.cell; have hf2 := hu1.frozen)
    have hu2 : Boxed ((w1.setCell ⟨w.heap.size, 0, none⟩ (.slice A2 (N + 1) c2)).setCell ⟨w.heap.size + 1, 0, none⟩ (.int .i64 (k : Int))) (w.heap.size + 1) 3 (.int .i64 (k : Int)) := (hu1.other (by omega) _).set _
    have hrow2 : FrW (w1.setCell ⟨w.heap.size, 0, none⟩ (.slice A2 (N + 1) c2)) w.heap.size A2 (N + 1) c2 (pre.map (·.1) ++ [⟨q', A', n', c', L'⟩]) := ⟨hr2⟩
    have hpair : pre.map (·.1) ++ [⟨q', A', n', c', L'⟩] = (pre ++ [((⟨q', A', n', c', L'⟩, k) : Yd)]).map (·.1) := by simp
    have hlen2 : (pre ++ [((⟨q', A', n', c', L'⟩, k) : Yd)]).length = N + 1 := by rw [← HNN.out]; simp
    refine ⟨(hk2.trans (KeepsOthers.setCell _ _ _)).from _, ⟨hb2.setCell (p := ⟨w.heap.size + 1, 0, none⟩) (by simp) _, fun hlt => ?_⟩, ⟨⟨A2, c2, ?_, ?_⟩, ?_, by rw [endOf_snoc]; exact hu2, ?_, HI.out.below.trans (hb2.setCell (p := ⟨w.heap.size + 1, 0, none⟩) (by simp) _), ?_⟩⟩
    · exact (((hbn1.other (by omega) _).other (by omega) _) : Boxed _ _ _ _).trans hbn.symm
    · rw [hlen2]; exact hv2.other (by omega) _
    · rw [hlen2, ← hpair]; exact hrow2.boxset (hu1.other (by omega) _) (by decide) _
    · intro x hx
      have key : ∀ {b n c : Nat} {A : Option Addr} {L : List Bop}, FrO W b A n c L → FrO ((w1.setCell ⟨w.heap.size, 0, none⟩ (.slice A2 (N + 1) c2)).setCell ⟨w.heap.size + 1, 0, none⟩ (.int .i64 (k : Int))) b A n c L :=
        fun h => ((h.appended hrow hap.grown).boxset hv1 (by decide) _).boxset (hu1.other (by omega) _) (by decide) _
      rcases List.mem_append.1 hx with h | h
      · exact key (HI.out.ops x h)
      · simp at h; subst h; exact key HX.out
    · exact (hbn1.other (by omega) _).other (by omega) _
    · have := hap.grown.size; simp at this ⊢; omega
  case done =>
    rintro D ys W hD hS hi hK
    obtain ⟨A1, c1, hb, hrow⟩ := hi.row
    have hcb := hb.cell
    have hcu := hi.used.cell
    have hrd : IsRead l (ydsOf ys) (endOf ys) := hS
    obtain ⟨N, hN⟩ : ∃ N, ys.length = N := ⟨_, rfl⟩
    obtain ⟨u, hu⟩ : ∃ u, endOf ys = u := ⟨_, rfl⟩
    rw [hN] at hb hrow hcb
    rw [hu] at hcu hrd
    have hub : u ≤ n := by have := hrd.le; have := HL.out; omega
    have HI := Lib.hid hi
    have HR := Lib.hid hrow
    have HRD := Lib.hid hrd
    have HE : recsOf (ys.map (·.1)) = ydsOf ys := by simp [recsOf, ydsOf]
    clear hi hrow hrd hseq hcoll hb hS hN hu
    gi_wp2_with fail
    gi_region
    all_goals gi_wp2_with fail
    refine ⟨by simp, .inl ⟨_, _, rfl, run_takeDeferred (w := W.drew) hK, ?_⟩⟩
    have hbd : Below w.heap.size w (W.drew.putObj D (.deferred none)) := (HI.out.below.drew).trans (belowK_b (w := W0) (by omega) W.drew D _ _ hD hK rfl rfl)
    have hst : ∀ {b n c : Nat} {A : Option Addr} {L : List Bop}, FrO W b A n c L → FrO (W.drew.putObj D (.deferred none)) b A n c L := fun h => FrO.nocells (W := W.drew) ⟨h.own.drew⟩ (grownBy_putObj' W.drew D (.deferred none)) (fun r e => by cases e; exact ⟨_, hK, rfl⟩)
    refine ⟨_, results_tmp3 rfl _ _ _, A1, N, c1, ys.map (·.1), u, by rw [HL.out]; rfl, by rw [HE]; exact HRD.out, ⟨FrW.nocells (W := W.drew) ⟨HR.out.own.drew⟩ (grownBy_putObj' W.drew D (.deferred none)) (fun r e => by cases e; exact ⟨_, hK, rfl⟩), fun x hx => ?_⟩, hbd⟩
    obtain ⟨y, hy, rfl⟩ := List.mem_map.1 hx
    exact hst (HI.out.ops y hy)
end Go.Proofs.YthgaiimgfnbkaaaGreatDoor
