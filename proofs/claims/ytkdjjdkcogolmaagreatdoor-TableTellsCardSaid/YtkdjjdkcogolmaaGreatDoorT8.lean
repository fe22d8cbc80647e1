/-
  Contract: the form of a table.
-/
import Derived.Test.YtkdjjdkcogolmaaGreatDoorT7
import Derived.Deep.RegionHeld3
namespace Go.Proofs.YtkdjjdkcogolmaaGreatDoor
set_option maxRecDepth 100000
open Go.RowKit Go.Shelf
set_option linter.unusedVariables false
attribute [local go_sem] Oper.semAt_some

theorem own_lt {W : World} {b n c : Nat} {e : TypeId} {A : Option Addr} {xs : List Value} (h : Fr W b e A n c xs) : ∀ k, (Value.slice A n c).ownBlock = some k → k < W.heap.size := fun k hk => (h.own.lt k hk).2
theorem row_same {W : World} {B : Nat} {t : TypeId} {r r' : Row} (h : Boxed W B t r.v) (h' : Boxed W B t r'.v) : r.v = r'.v := by
  have h1 : W.heap[B]? = _ := h
  rw [show W.heap[B]? = _ from h'] at h1
  injection h1 with h1
  injection h1 with h1
  simpa using h1.symm
/-- What is told of a block's frame, and where its key lies. -/
structure AxF (g : Nat) (x : BkE) (Bx B0 : Nat) (r1 r2 : Row) (W : World) : Prop where
  lo : g + 4 ≤ Bx
  key : IkAt W Bx (lastE x.L).s (lastE x.L).q (lastE x.L).k
  b1 : Boxed W g 24 r1.v
  b2 : Boxed W (g + 1) 24 r2.v
  o1 : ∀ k, r1.v.ownBlock = some k → k < B0
  o2 : ∀ k, r2.v.ownBlock = some k → k < B0
  blk : blkB x.L = true
  fr : Fr W B0 5 x.A x.n x.c (bv (bkL x.L))
theorem AxF.nocells {g Bx B0 : Nat} {x : BkE} {r1 r2 : Row} {W W' : World} {row : Option Nat} (h : AxF g x Bx B0 r1 r2 W) (hg : W.grownBy W' row) (hr : ∀ r, row = some r → ∃ o : Obj, W.heap[r]? = some o ∧ o.isCells = false) : AxF g x Bx B0 r1 r2 W' :=
  ⟨h.lo, ⟨Nat.lt_of_lt_of_le h.key.lt hg.size, (hg.block Bx h.key.lt (fun e => by obtain ⟨o, ho, hc⟩ := hr Bx e.symm; rw [h.key.h] at ho; cases ho; cases hc)).trans h.key.h⟩, boxed_nocells h.b1 hg hr, boxed_nocells h.b2 hg hr, h.o1, h.o2, h.blk, h.fr.nocells hg hr⟩

set_option maxRecDepth 100000 in
set_option maxHeartbeats 8000000 in
theorem tform_c {w : World} {n c : Nat} {A : Option Addr} {L : List Ent} (h : RdE w w.heap.size A n c L) (hb : tblB L = true) :
    Calls Tryz.prog 26 #[.slice A n c] w (RetB w (tabL L)) := by
  refine (callsIn_wide (n := 9)).1 ?_
  have HC := Lib.hid (fun (W : World) => (callsIn_wide (n := 8)).2 (sealedBlocks_c (w := W) (A := A) (n := n) (c := c)))
  have hl := h.len
  have hn : n ≤ 8192 := by have := (tblB_iff.1 hb).2.1; omega
  have HN := Lib.hid hn
  have HL := Lib.hid hl
  have HH := Lib.hid h
  have HB := Lib.hid hb
  obtain ⟨g, hg⟩ : ∃ g, w.heap.size = g := ⟨_, rfl⟩
  clear h hn hb hl
  refine callsIn_of_wp_marks Tryz.func26 rfl trivial ?_ rfl
  simp only [Tryz.ntmps26, List.size_toArray, List.length_cons, List.length_nil, Nat.reduceAdd, Nat.reduceSub, Array.replicate_succ, Array.replicate_zero, List.push_toArray, List.append_toArray, List.nil_append, List.cons_append]
  gi_wp2_with fail
  refine ⟨trivial, (HC.out _).mono ?_⟩
  rintro e w1 ⟨rfl, rfl⟩
  gi_wp2_with fail
  obtain ⟨W0, hW0⟩ : ∃ W0, (((w.alloc (.cells #[.slice none 0 0] 24)).alloc (.cells #[.slice none 0 0] 24)).alloc (.cells #[.int .i64 0] 3)).alloc (.cells #[.slice A n c] 23) = W0 := ⟨_, rfl⟩
  have hsz : W0.heap.size = g + 4 := by rw [← hW0]; simp; omega
  have hbl0 : Below w.heap.size w W0 := by rw [← hW0]; exact blit (blit (blit (below_alloc w _) _) _) _
  have hF0 : FmAt w g (.slice A n c) [] [] 0 ⟨none, 0, 0⟩ ⟨none, 0, 0⟩ W0 := by
    have z1 := ((((Boxed.new w 24 (.slice none 0 0)).alloc (.cells #[.slice none 0 0] 24)).alloc (.cells #[.int .i64 0] 3)).alloc (.cells #[.slice A n c] 23))
    have z2 := (((Boxed.new (w.alloc (.cells #[.slice none 0 0] 24)) 24 (.slice none 0 0)).alloc (.cells #[.int .i64 0] 3)).alloc (.cells #[.slice A n c] 23))
    have z3 := ((Boxed.new ((w.alloc (.cells #[.slice none 0 0] 24)).alloc (.cells #[.slice none 0 0] 24)) 3 (.int .i64 0)).alloc (.cells #[.slice A n c] 23))
    have z4 := (Boxed.new (((w.alloc (.cells #[.slice none 0 0] 24)).alloc (.cells #[.slice none 0 0] 24)).alloc (.cells #[.int .i64 0] 3)) 23 (.slice A n c))
    simp only [World.size_alloc, hg] at z1 z2 z3 z4
    rw [hW0] at z1 z2 z3 z4
    exact ⟨z1, Fr.nil, z2, Fr.nil, (fun k hk => (by cases hk)), z3, z4, by rw [← hg]; exact hbl0, by omega⟩
  have hseq : YieldsS Fence.wide (9 - 1) Tryz.prog 71 #[.pointer (some ⟨g + 1 + 1 + 1, 0, none⟩)] sbv (KpT g (g + 6)) XSb (fun xs => lsE xs = chL L) SpAny (cntL L) W0 :=
    fun lp J Jx W hs hW hJ hJx hY h0 => sealed1_in lp (g + 1 + 1 + 1) g (by have := HN.out; omega) HB.out J Jx W hJ hJx (by rw [show W.heap.size = g + 6 by omega]; exact hY) ((hW.block _ hF0.b4.lt).trans hF0.b4) (by have := (HH.out.below hbl0 (Nat.le_refl _)).below hW (by omega); rw [hg] at this; exact this) (by omega) h0
  rw [hW0]
  clear hW0
  refine range_madeS rfl (by omega) (gf := 71) (lb := #[.pointer (some ⟨g + 1 + 1 + 1, 0, none⟩)]) rfl trivial (enters_of Tryz.func71 (by kernel_rfl) rfl) hseq (fun h k => h.trans k)
    (fun W o o' ho hc => ⟨(Below.refl _ W).grown (grownBy_putObj' W _ o') (by have := (Array.getElem?_eq_some_iff.1 ho).1; omega) (fun k e => by cases e; omega), fun b o2 hb2 hX _ => (World.putObj_heap_other (by omega)).trans hX⟩) (fun _ => rfl)
    (fun p W => ∃ r1 r2, FmAt w g (.slice A n c) (frL (lsE p)) (linL 0 (lsE p)) p.length r1 r2 W ∧ (∀ one ∈ lsE p, blkB one = true)) (fun _ _ _ => False)
    (fun s X Y row ⟨r1, r2, h1, h2⟩ hg2 hr => ⟨r1, r2, h1.nocells hg2 (fun r e => by have := hr r e; exact ⟨by omega, this.2⟩), h2⟩)
    (fun c0 s X Y row hs hg2 hr => hs) ⟨_, _, hF0, fun _ h => by simp [lsE] at h⟩
    (fun x a' W => ∃ Bx B0 r1 r2, AxF g x Bx B0 r1 r2 W ∧ a' = { tmps := #[.slice A n c, undef, .slice none 0 0, .pointer (some ⟨g, 0, none⟩), .pointer (some ⟨g + 1, 0, none⟩), .pointer (some ⟨g + 1 + 1, 0, none⟩), .pointer (some ⟨Bx, 0, none⟩), .slice x.A x.n x.c, undef, .slice A n c, .func (.func 71) #[] #[.pointer (some ⟨g + 1 + 1 + 1, 0, none⟩)], ik (lastE x.L).s (lastE x.L).q (lastE x.L).k, .slice x.A x.n x.c, undef, undef, undef, undef, undef, undef, undef, undef, undef, undef, undef, undef, undef, undef, undef, undef, undef, undef, undef, undef, undef, undef, undef, undef, undef, undef, undef, undef], defers := [] })
    (fun x a' s X Y row ⟨Bx, B0, r1, r2, h1, h2⟩ hg2 hr => ⟨Bx, B0, r1, r2, h1.nocells hg2 (fun r e => (hr r e).2), h2⟩)
    ?assign ?body ?done ?stop
  case stop =>
    rintro D c0 ys W5 hD hS hF hK
    exact hF.elim
  case assign =>
    rintro lp pre ⟨L', A', n', c'⟩ Wa W1 K ⟨r1, r2, hFa, _⟩ hi hba hx hs hK
    obtain ⟨x, hxl⟩ : ∃ x, lastE L' = x := ⟨_, rfl⟩
    have hbel := below_alloc W1 (.cells #[.string x.s, .int .u64 (x.q : Int), .int .u8 (x.k : Int)] 26)
    have hax : AxF g ⟨L', A', n', c'⟩ W1.heap.size Wa.heap.size r1 r2 (W1.alloc (.cells #[.string x.s, .int .u64 (x.q : Int), .int .u8 (x.k : Int)] 26)) :=
      ⟨by omega, by rw [hxl]; exact IkAt.new W1 x.s x.q x.k, (boxed_below hFa.b1 hba).alloc _, (boxed_below hFa.b2 hba).alloc _, own_lt hFa.f1, own_lt hFa.f2, hx.1, hx.2.alloc _⟩
    have hk := hK { tmps := #[.slice A n c, undef, .slice none 0 0, .pointer (some ⟨g, 0, none⟩), .pointer (some ⟨g + 1, 0, none⟩), .pointer (some ⟨g + 1 + 1, 0, none⟩), .pointer (some ⟨W1.heap.size, 0, none⟩), .slice A' n' c', undef, .slice A n c, .func (.func 71) #[] #[.pointer (some ⟨g + 1 + 1 + 1, 0, none⟩)], .agg #[.string x.s, .int .u64 (x.q : Int), .int .u8 (x.k : Int)], .slice A' n' c', undef, undef, undef, undef, undef, undef, undef, undef, undef, undef, undef, undef, undef, undef, undef, undef, undef, undef, undef, undef, undef, undef, undef, undef, undef, undef, undef, undef], defers := [] }
      (W1.alloc (.cells #[.string x.s, .int .u64 (x.q : Int), .int .u8 (x.k : Int)] 26)) ((KeepsOthers.alloc _ _).from _) (KpT.of hbel (by omega)) (by obtain ⟨r3, r4, h1, h2⟩ := hi; exact ⟨r3, r4, h1.under hbel, h2⟩) ⟨W1.heap.size, Wa.heap.size, r1, r2, hax, by rw [hxl]; rfl⟩
    have HK := Lib.hid hk
    clear hK hk hi hx hax hFa hba hbel
    unfold sbv ik
    (try dsimp only)
    rw [hxl]
    clear hxl
    gi_wp2
    exact HK.out
  case body =>
    rintro lp pre ⟨L', A', n', c'⟩ a' W1 ⟨r1, r2, hF, hall⟩ ⟨Bx, B0, r3, r4, hax, rfl⟩ hlen hsW
    have e1 := row_same hF.b1 hax.b1
    have e2 := row_same hF.b2 hax.b2
    have ho1 : ∀ k, (Value.slice r1.A r1.n r1.c).ownBlock = some k → k < B0 := fun k hk => hax.o1 k (by rw [← e1]; exact hk)
    have ho2 : ∀ k, (Value.slice r2.A r2.n r2.c).ownBlock = some k → k < B0 := fun k hk => hax.o2 k (by rw [← e2]; exact hk)
    have hxf := hax.fr
    have hblk := hax.blk
    have hkey := hax.key
    (try dsimp only at hxf hblk hkey)
    have hgW1 : g ≤ W1.heap.size := by omega
    have hfl := frL_len hall
    have hll := linL_len 0 hall
    have hpl : (lsE pre).length = pre.length := by simp [lsE]
    have hc512 := (cnt_le HB.out).2
    have hr1n : (frL (lsE pre)).length = r1.n := by have := hF.f1.len; rw [bv_length] at this; exact this
    have hr2n : (linL 0 (lsE pre)).length = r2.n := by have := hF.f2.len; rw [bv_length] at this; exact this
    have hxn : (bkL L').length = n' := by have := hxf.len; rw [bv_length] at this; exact this
    have hxb := bkL_len hblk
    have hr1 : r1.n ≤ 12300000 := by omega
    have hr2 : r2.n ≤ 57000 := by omega
    have hn' : n' ≤ 24008 := by omega
    obtain ⟨x, hxl⟩ : ∃ x, lastE L' = x := ⟨_, rfl⟩
    have hrt := lastE_right hblk
    rw [hxl] at hkey hrt
    have HLL := Lib.hid (show (lineL x r1.n n').length ≤ 110 by rw [← hxl]; exact lineL_len hblk _ _)
    have HST := Lib.hid (show frL (lsE (pre ++ [⟨L', A', n', c'⟩])) = frL (lsE pre) ++ bkL L' ∧ linL 0 (lsE (pre ++ [⟨L', A', n', c'⟩])) = linL 0 (lsE pre) ++ lineL x r1.n n' ∧ (pre ++ [(⟨L', A', n', c'⟩ : BkE)]).length = pre.length + 1 ∧ (∀ one ∈ lsE (pre ++ [⟨L', A', n', c'⟩]), blkB one = true) from
      ⟨by rw [lsE_snoc, frL_snoc], by rw [lsE_snoc, linL_snoc, hxl, hr1n, hxn, Nat.zero_add], by simp, by rw [lsE_snoc]; intro one hm; exact (List.mem_append.1 hm).elim (fun h => hall one h) (fun h => by simp at h; subst h; exact hblk)⟩)
    have HLN := Lib.hid ((callsIn_wide (n := 7 - 1)).2 (tline_c (w := W1.drew) hrt (a := r1.n) (z := n') (by omega) (by omega)))
    unfold ik at HLN
    have HF := Lib.hid hF
    have HXF := Lib.hid hxf
    have HO1 := Lib.hid ho1
    have HO2 := Lib.hid ho2
    have hpn : (pre.length : Int) ≤ 512 := by omega
    obtain ⟨PL, hPL⟩ : ∃ PL, pre.length = PL := ⟨_, rfl⟩
    rw [hPL] at HF HST hpn
    have hr1i : (r1.n : Int) ≤ 12300000 := by omega
    have hni : (n' : Int) ≤ 24008 := by omega
    obtain ⟨k0, k1, k2⟩ := hkey.cells
    have cf := hF.b1.cell
    have cl := hF.b2.cell
    have hlt1 : g + 1 < W1.drew.heap.size := by have := hF.size; show g + 1 < W1.heap.size; omega
    clear hF hall hax e1 e2 ho1 ho2 hxf hblk hkey hfl hll hpl hr1n hr2n hxn hxb hxl hrt hseq hF0 hlen
    unfold Row.v at cf cl
    dsimp only
    gi_wp2_with fail
    refine' (fun (key : ∀ (v19 : Value) (A7 : Option Addr) (N7 c7 : Nat) (w8 : World), (FmAt w g (.slice A n c) (frL (lsE pre)) (linL 0 (lsE pre) ++ lineL x r1.n n') PL r1 ⟨A7, N7, c7⟩ w8 ∧ Fr w8 B0 5 A' n' c' (bv (bkL L')) ∧ KpT g (g + 3) W1 w8) → (_ : Value → Option Addr → Nat → Nat → World → Prop) v19 A7 N7 c7 w8) => ?main) ?kp
    case main =>
      refine region_round (F := Fence.wide) (by kernel_rfl) (by kernel_rfl) rfl ?_
      have cf : W1.drew.cell? ⟨g, 0, none⟩ = some (.slice r1.A r1.n r1.c) := cf
      have cl : W1.drew.cell? ⟨g + 1, 0, none⟩ = some (.slice r2.A r2.n r2.c) := cl
      have k0 : W1.drew.cell? ⟨Bx, 0, none⟩ = some (.string x.s) := k0
      have k1 : W1.drew.cell? ⟨Bx, 1, none⟩ = some (.int .u64 (x.q : Int)) := k1
      have k2 : W1.drew.cell? ⟨Bx, 2, none⟩ = some (.int .u8 (x.k : Int)) := k2
      refine wpAnyIn_take (i := 4) (oi := { dst := some 17, op := Op.move (Operand.tmp 7), type := 24, pos := "table.go:108", after := #[], guard := none }) (v := ?v1) rfl rfl (by kernel_rfl) (by kernel_rfl) (by kernel_rfl) (fun _ _ _ h => h) ⟨Or.inl ⟨by rfl, ?hy1⟩, fun _ => rfl⟩ ?rest1
      case hy1 => (intro w; go_simp; try with_reducible rfl)
      try simp only [Act.put, List.setIfInBounds_toArray, List.set_cons_zero, List.set_cons_succ]
      refine wpAnyIn_take (i := 5) (oi := { dst := some 18, op := Op.call { callee := Callee.builtin Builtin.len, args := #[Operand.tmp 17], argTypes := #[24] }, type := 3, pos := "table.go:108", after := #[{ on := 4, ground := Ground.data }], guard := none }) (v := ?v2) rfl rfl (by kernel_rfl) (by kernel_rfl) (by kernel_rfl) (fun _ _ _ h => h) ⟨Or.inl ⟨by rfl, ?hy2⟩, fun _ => rfl⟩ ?rest2
      case hy2 => (intro w; go_simp; try with_reducible rfl)
      try simp only [Act.put, List.setIfInBounds_toArray, List.set_cons_zero, List.set_cons_succ]
      refine wpAnyIn_ready (rs := [0, 1, 2]) (by kernel_rfl) (by simp) ?_
      refine (AllReadyIn.cons (o := { dst := some 13, op := Op.load 24 (Operand.tmp 4), type := 24, pos := "table.go:108", after := #[], guard := none }) rfl (fun K hK => ?w3x0) (AllReadyIn.cons (o := { dst := some 14, op := Op.load 26 (Operand.tmp 6), type := 26, pos := "table.go:108", after := #[], guard := none }) rfl (fun K hK => ?w3x1) (AllReadyIn.cons (o := { dst := some 15, op := Op.load 24 (Operand.tmp 3), type := 24, pos := "table.go:108", after := #[], guard := none }) rfl (fun K hK => ?w3x2) AllReadyIn.nil)))
      case w3x0 =>
        go_simp
        (try (refine hK _ _ ?_))
        (try clear hK K)
        try simp only [Act.put, List.setIfInBounds_toArray, List.set_cons_zero, List.set_cons_succ]
        refine wpAnyIn_ready (rs := [1, 2]) (by kernel_rfl) (by simp) ?_
        refine (AllReadyIn.cons (o := { dst := some 14, op := Op.load 26 (Operand.tmp 6), type := 26, pos := "table.go:108", after := #[], guard := none }) rfl (fun K hK => ?w4x1) (AllReadyIn.cons (o := { dst := some 15, op := Op.load 24 (Operand.tmp 3), type := 24, pos := "table.go:108", after := #[], guard := none }) rfl (fun K hK => ?w4x2) AllReadyIn.nil))
        case w4x1 =>
          go_simp
          (try (refine hK _ _ ?_))
          (try clear hK K)
          try simp only [Act.put, List.setIfInBounds_toArray, List.set_cons_zero, List.set_cons_succ]
          refine wpAnyIn_ready (rs := [2]) (by kernel_rfl) (by simp) ?_
          refine (AllReadyIn.cons (o := { dst := some 15, op := Op.load 24 (Operand.tmp 3), type := 24, pos := "table.go:108", after := #[], guard := none }) rfl (fun K hK => ?w5x2) AllReadyIn.nil)
          case w5x2 =>
            go_simp
            (try (refine hK _ _ ?_))
            (try clear hK K)
            try simp only [Act.put, List.setIfInBounds_toArray, List.set_cons_zero, List.set_cons_succ]
            refine wpAnyIn_take (i := 3) (oi := { dst := some 16, op := Op.call { callee := Callee.builtin Builtin.len, args := #[Operand.tmp 15], argTypes := #[24] }, type := 3, pos := "table.go:108", after := #[{ on := 2, ground := Ground.data }], guard := none }) (v := ?v6) rfl rfl (by kernel_rfl) (by kernel_rfl) (by kernel_rfl) (fun _ _ _ h => h) ⟨Or.inl ⟨by rfl, ?hy6⟩, fun _ => rfl⟩ ?rest6
            case hy6 => (intro w; go_simp; try with_reducible rfl)
            try simp only [Act.put, List.setIfInBounds_toArray, List.set_cons_zero, List.set_cons_succ]
            refine wpAnyIn_ready (rs := [6]) (by kernel_rfl) (by simp) ?_
            refine (AllReadyIn.cons (o := { dst := some 19, op := Op.call { callee := Callee.value (Operand.func 49), args := #[Operand.tmp 14, Operand.tmp 16, Operand.tmp 18], argTypes := #[26, 3, 3] }, type := 24, pos := "table.go:108", after := #[{ on := 1, ground := Ground.data }, { on := 3, ground := Ground.data }, { on := 5, ground := Ground.data }], guard := none }) rfl (fun K hK => ?w7x6) AllReadyIn.nil)
            case w7x6 =>
              go_simp
              gi_wp2_with fail
              refine ⟨trivial, HLN.out.mono ?_⟩
              rintro e w3 ⟨A3, n3, c3, rfl, hf3, hb3⟩
              replace cl := (hb3.cell hlt1).trans cl
              gi_wp2_with fail
              (try (refine hK _ _ ?_))
              (try clear hK K)
              try simp only [Act.put, List.setIfInBounds_toArray, List.set_cons_zero, List.set_cons_succ]
              have hF3 := (HF.out.under (below_drewN (Below.refl _ _) 1)).under hb3
              have hn3 : n3 ≤ 110 := by have := hf3.len; rw [bv_length] at this; have := HLL.out; omega
              have hx3 : Fr w3 B0 5 A' n' c' (bv (bkL L')) := (HXF.out.drew : Fr W1.drew _ _ _ _ _ _).below hb3
              refine wpAnyIn_ready (rs := [7]) (by kernel_rfl) (by simp) ?_
              refine (AllReadyIn.cons (o := { dst := some 20, op := Op.call { callee := Callee.builtin Builtin.append, args := #[Operand.tmp 13, Operand.tmp 19], argTypes := #[24, 24] }, type := 24, pos := "table.go:108", after := #[{ on := 0, ground := Ground.data }, { on := 6, ground := Ground.data }, { on := 6, ground := Ground.chain }], guard := none }) rfl (fun K hK => ?_) AllReadyIn.nil)
              refine stepIn_app rfl (.tmp 13) (.tmp 19) rfl hF3.f2 rfl (hf3.rd (Nat.le_refl _)) rfl (bv_one _) (by omega) (by have := hF3.size; omega) ?_
              intro A7 c7 w7 hap
              obtain ⟨hF4, hk4, hb4⟩ := hF3.put2 hap
              have hx7 : Fr w7 B0 5 A' n' c' (bv (bkL L')) := hx3.grown hap.grown (fun k hk e => by have := (hx3.own.lt k hk).1; have := HO2.out k e; omega)
              have hx8 : Fr (w7.setCell ⟨g + 1, 0, none⟩ (.slice A7 (r2.n + n3) c7)) B0 5 A' n' c' (bv (bkL L')) := hx7.grown (grownBy_setCell' w7 (g + 1) _) (fun k hk e => by cases e; obtain ⟨cur, hc⟩ := own_block hx7 hk; rw [show w7.heap[g + 1]? = _ from hb4] at hc; cases hc)
              have hk5 : KpT g (g + 3) W1 (w7.setCell ⟨g + 1, 0, none⟩ (.slice A7 (r2.n + n3) c7)) := ((KpT.of (below_drewN (Below.refl _ _) 1) hgW1).trans (KpT.of hb3 (by simpa using hgW1))).trans hk4
              have hc4 := hb4.cell
              have hz4 := hb4.frozen
              have HF4 := Lib.hid hF4
              have HX8 := Lib.hid hx8
              have HK5 := Lib.hid hk5
              clear hF3 hF4 hx3 hx7 hx8 hk4 hk5 hb4 hap hf3 hb3 cl
              (try (refine hK _ _ ?_))
              (try clear hK K)
              try simp only [Act.put, List.setIfInBounds_toArray, List.set_cons_zero, List.set_cons_succ]
              refine wpAnyIn_ready (rs := [8]) (by kernel_rfl) (by simp) ?_
              refine (AllReadyIn.cons (o := { dst := none, op := Op.store 24 (Operand.tmp 4) (Operand.tmp 20), type := 0, pos := "table.go:108", after := #[{ on := 7, ground := Ground.data }, { on := 7, ground := Ground.chain }, { on := 0, ground := Ground.phase }, { on := 1, ground := Ground.phase }, { on := 2, ground := Ground.phase }, { on := 3, ground := Ground.phase }, { on := 4, ground := Ground.phase }, { on := 5, ground := Ground.phase }, { on := 6, ground := Ground.phase }, { on := 7, ground := Ground.phase }], guard := none }) rfl (fun K hK => ?_) AllReadyIn.nil)
              go_simp
              (try (refine hK _ _ ?_))
              (try clear hK K)
              try simp only [Act.put, List.setIfInBounds_toArray, List.set_cons_zero, List.set_cons_succ]
              refine wpAnyIn_done (by kernel_rfl) ?_ _
              clear hc4 hz4 hn3
              generalize r2.n + n3 = N7 at *
              generalize w7.setCell ⟨g + 1, 0, none⟩ (.slice A7 N7 c7) = w8 at *
              generalize Value.slice A3 n3 c3 = v19 at *
              exact key v19 A7 N7 c7 w8 ⟨HF4.out, HX8.out, HK5.out⟩



        case w4x2 =>
          go_simp
          (try (refine hK _ _ ?_))
          (try clear hK K)
          try simp only [Act.put, List.setIfInBounds_toArray, List.set_cons_zero, List.set_cons_succ]
          refine wpAnyIn_take (i := 3) (oi := { dst := some 16, op := Op.call { callee := Callee.builtin Builtin.len, args := #[Operand.tmp 15], argTypes := #[24] }, type := 3, pos := "table.go:108", after := #[{ on := 2, ground := Ground.data }], guard := none }) (v := ?v8) rfl rfl (by kernel_rfl) (by kernel_rfl) (by kernel_rfl) (fun _ _ _ h => h) ⟨Or.inl ⟨by rfl, ?hy8⟩, fun _ => rfl⟩ ?rest8
          case hy8 => (intro w; go_simp; try with_reducible rfl)
          try simp only [Act.put, List.setIfInBounds_toArray, List.set_cons_zero, List.set_cons_succ]
          refine wpAnyIn_ready (rs := [1]) (by kernel_rfl) (by simp) ?_
          refine (AllReadyIn.cons (o := { dst := some 14, op := Op.load 26 (Operand.tmp 6), type := 26, pos := "table.go:108", after := #[], guard := none }) rfl (fun K hK => ?w9x1) AllReadyIn.nil)
          case w9x1 =>
            go_simp
            (try (refine hK _ _ ?_))
            (try clear hK K)
            try simp only [Act.put, List.setIfInBounds_toArray, List.set_cons_zero, List.set_cons_succ]
            refine wpAnyIn_ready (rs := [6]) (by kernel_rfl) (by simp) ?_
            refine (AllReadyIn.cons (o := { dst := some 19, op := Op.call { callee := Callee.value (Operand.func 49), args := #[Operand.tmp 14, Operand.tmp 16, Operand.tmp 18], argTypes := #[26, 3, 3] }, type := 24, pos := "table.go:108", after := #[{ on := 1, ground := Ground.data }, { on := 3, ground := Ground.data }, { on := 5, ground := Ground.data }], guard := none }) rfl (fun K hK => ?w10x6) AllReadyIn.nil)
            case w10x6 =>
              go_simp
              gi_wp2_with fail
              refine ⟨trivial, HLN.out.mono ?_⟩
              rintro e w3 ⟨A3, n3, c3, rfl, hf3, hb3⟩
              replace cl := (hb3.cell hlt1).trans cl
              gi_wp2_with fail
              (try (refine hK _ _ ?_))
              (try clear hK K)
              try simp only [Act.put, List.setIfInBounds_toArray, List.set_cons_zero, List.set_cons_succ]
              have hF3 := (HF.out.under (below_drewN (Below.refl _ _) 1)).under hb3
              have hn3 : n3 ≤ 110 := by have := hf3.len; rw [bv_length] at this; have := HLL.out; omega
              have hx3 : Fr w3 B0 5 A' n' c' (bv (bkL L')) := (HXF.out.drew : Fr W1.drew _ _ _ _ _ _).below hb3
              refine wpAnyIn_ready (rs := [7]) (by kernel_rfl) (by simp) ?_
              refine (AllReadyIn.cons (o := { dst := some 20, op := Op.call { callee := Callee.builtin Builtin.append, args := #[Operand.tmp 13, Operand.tmp 19], argTypes := #[24, 24] }, type := 24, pos := "table.go:108", after := #[{ on := 0, ground := Ground.data }, { on := 6, ground := Ground.data }, { on := 6, ground := Ground.chain }], guard := none }) rfl (fun K hK => ?_) AllReadyIn.nil)
              refine stepIn_app rfl (.tmp 13) (.tmp 19) rfl hF3.f2 rfl (hf3.rd (Nat.le_refl _)) rfl (bv_one _) (by omega) (by have := hF3.size; omega) ?_
              intro A7 c7 w7 hap
              obtain ⟨hF4, hk4, hb4⟩ := hF3.put2 hap
              have hx7 : Fr w7 B0 5 A' n' c' (bv (bkL L')) := hx3.grown hap.grown (fun k hk e => by have := (hx3.own.lt k hk).1; have := HO2.out k e; omega)
              have hx8 : Fr (w7.setCell ⟨g + 1, 0, none⟩ (.slice A7 (r2.n + n3) c7)) B0 5 A' n' c' (bv (bkL L')) := hx7.grown (grownBy_setCell' w7 (g + 1) _) (fun k hk e => by cases e; obtain ⟨cur, hc⟩ := own_block hx7 hk; rw [show w7.heap[g + 1]? = _ from hb4] at hc; cases hc)
              have hk5 : KpT g (g + 3) W1 (w7.setCell ⟨g + 1, 0, none⟩ (.slice A7 (r2.n + n3) c7)) := ((KpT.of (below_drewN (Below.refl _ _) 1) hgW1).trans (KpT.of hb3 (by simpa using hgW1))).trans hk4
              have hc4 := hb4.cell
              have hz4 := hb4.frozen
              have HF4 := Lib.hid hF4
              have HX8 := Lib.hid hx8
              have HK5 := Lib.hid hk5
              clear hF3 hF4 hx3 hx7 hx8 hk4 hk5 hb4 hap hf3 hb3 cl
              (try (refine hK _ _ ?_))
              (try clear hK K)
              try simp only [Act.put, List.setIfInBounds_toArray, List.set_cons_zero, List.set_cons_succ]
              refine wpAnyIn_ready (rs := [8]) (by kernel_rfl) (by simp) ?_
              refine (AllReadyIn.cons (o := { dst := none, op := Op.store 24 (Operand.tmp 4) (Operand.tmp 20), type := 0, pos := "table.go:108", after := #[{ on := 7, ground := Ground.data }, { on := 7, ground := Ground.chain }, { on := 0, ground := Ground.phase }, { on := 1, ground := Ground.phase }, { on := 2, ground := Ground.phase }, { on := 3, ground := Ground.phase }, { on := 4, ground := Ground.phase }, { on := 5, ground := Ground.phase }, { on := 6, ground := Ground.phase }, { on := 7, ground := Ground.phase }], guard := none }) rfl (fun K hK => ?_) AllReadyIn.nil)
              go_simp
              (try (refine hK _ _ ?_))
              (try clear hK K)
              try simp only [Act.put, List.setIfInBounds_toArray, List.set_cons_zero, List.set_cons_succ]
              refine wpAnyIn_done (by kernel_rfl) ?_ _
              clear hc4 hz4 hn3
              generalize r2.n + n3 = N7 at *
              generalize w7.setCell ⟨g + 1, 0, none⟩ (.slice A7 N7 c7) = w8 at *
              generalize Value.slice A3 n3 c3 = v19 at *
              exact key v19 A7 N7 c7 w8 ⟨HF4.out, HX8.out, HK5.out⟩




      case w3x1 =>
        go_simp
        (try (refine hK _ _ ?_))
        (try clear hK K)
        try simp only [Act.put, List.setIfInBounds_toArray, List.set_cons_zero, List.set_cons_succ]
        refine wpAnyIn_ready (rs := [0, 2]) (by kernel_rfl) (by simp) ?_
        refine (AllReadyIn.cons (o := { dst := some 13, op := Op.load 24 (Operand.tmp 4), type := 24, pos := "table.go:108", after := #[], guard := none }) rfl (fun K hK => ?w11x0) (AllReadyIn.cons (o := { dst := some 15, op := Op.load 24 (Operand.tmp 3), type := 24, pos := "table.go:108", after := #[], guard := none }) rfl (fun K hK => ?w11x2) AllReadyIn.nil))
        case w11x0 =>
          go_simp
          (try (refine hK _ _ ?_))
          (try clear hK K)
          try simp only [Act.put, List.setIfInBounds_toArray, List.set_cons_zero, List.set_cons_succ]
          refine wpAnyIn_ready (rs := [2]) (by kernel_rfl) (by simp) ?_
          refine (AllReadyIn.cons (o := { dst := some 15, op := Op.load 24 (Operand.tmp 3), type := 24, pos := "table.go:108", after := #[], guard := none }) rfl (fun K hK => ?w12x2) AllReadyIn.nil)
          case w12x2 =>
            go_simp
            (try (refine hK _ _ ?_))
            (try clear hK K)
            try simp only [Act.put, List.setIfInBounds_toArray, List.set_cons_zero, List.set_cons_succ]
            refine wpAnyIn_take (i := 3) (oi := { dst := some 16, op := Op.call { callee := Callee.builtin Builtin.len, args := #[Operand.tmp 15], argTypes := #[24] }, type := 3, pos := "table.go:108", after := #[{ on := 2, ground := Ground.data }], guard := none }) (v := ?v13) rfl rfl (by kernel_rfl) (by kernel_rfl) (by kernel_rfl) (fun _ _ _ h => h) ⟨Or.inl ⟨by rfl, ?hy13⟩, fun _ => rfl⟩ ?rest13
            case hy13 => (intro w; go_simp; try with_reducible rfl)
            try simp only [Act.put, List.setIfInBounds_toArray, List.set_cons_zero, List.set_cons_succ]
            refine wpAnyIn_ready (rs := [6]) (by kernel_rfl) (by simp) ?_
            refine (AllReadyIn.cons (o := { dst := some 19, op := Op.call { callee := Callee.value (Operand.func 49), args := #[Operand.tmp 14, Operand.tmp 16, Operand.tmp 18], argTypes := #[26, 3, 3] }, type := 24, pos := "table.go:108", after := #[{ on := 1, ground := Ground.data }, { on := 3, ground := Ground.data }, { on := 5, ground := Ground.data }], guard := none }) rfl (fun K hK => ?w14x6) AllReadyIn.nil)
            case w14x6 =>
              go_simp
              gi_wp2_with fail
              refine ⟨trivial, HLN.out.mono ?_⟩
              rintro e w3 ⟨A3, n3, c3, rfl, hf3, hb3⟩
              replace cl := (hb3.cell hlt1).trans cl
              gi_wp2_with fail
              (try (refine hK _ _ ?_))
              (try clear hK K)
              try simp only [Act.put, List.setIfInBounds_toArray, List.set_cons_zero, List.set_cons_succ]
              have hF3 := (HF.out.under (below_drewN (Below.refl _ _) 1)).under hb3
              have hn3 : n3 ≤ 110 := by have := hf3.len; rw [bv_length] at this; have := HLL.out; omega
              have hx3 : Fr w3 B0 5 A' n' c' (bv (bkL L')) := (HXF.out.drew : Fr W1.drew _ _ _ _ _ _).below hb3
              refine wpAnyIn_ready (rs := [7]) (by kernel_rfl) (by simp) ?_
              refine (AllReadyIn.cons (o := { dst := some 20, op := Op.call { callee := Callee.builtin Builtin.append, args := #[Operand.tmp 13, Operand.tmp 19], argTypes := #[24, 24] }, type := 24, pos := "table.go:108", after := #[{ on := 0, ground := Ground.data }, { on := 6, ground := Ground.data }, { on := 6, ground := Ground.chain }], guard := none }) rfl (fun K hK => ?_) AllReadyIn.nil)
              refine stepIn_app rfl (.tmp 13) (.tmp 19) rfl hF3.f2 rfl (hf3.rd (Nat.le_refl _)) rfl (bv_one _) (by omega) (by have := hF3.size; omega) ?_
              intro A7 c7 w7 hap
              obtain ⟨hF4, hk4, hb4⟩ := hF3.put2 hap
              have hx7 : Fr w7 B0 5 A' n' c' (bv (bkL L')) := hx3.grown hap.grown (fun k hk e => by have := (hx3.own.lt k hk).1; have := HO2.out k e; omega)
              have hx8 : Fr (w7.setCell ⟨g + 1, 0, none⟩ (.slice A7 (r2.n + n3) c7)) B0 5 A' n' c' (bv (bkL L')) := hx7.grown (grownBy_setCell' w7 (g + 1) _) (fun k hk e => by cases e; obtain ⟨cur, hc⟩ := own_block hx7 hk; rw [show w7.heap[g + 1]? = _ from hb4] at hc; cases hc)
              have hk5 : KpT g (g + 3) W1 (w7.setCell ⟨g + 1, 0, none⟩ (.slice A7 (r2.n + n3) c7)) := ((KpT.of (below_drewN (Below.refl _ _) 1) hgW1).trans (KpT.of hb3 (by simpa using hgW1))).trans hk4
              have hc4 := hb4.cell
              have hz4 := hb4.frozen
              have HF4 := Lib.hid hF4
              have HX8 := Lib.hid hx8
              have HK5 := Lib.hid hk5
              clear hF3 hF4 hx3 hx7 hx8 hk4 hk5 hb4 hap hf3 hb3 cl
              (try (refine hK _ _ ?_))
              (try clear hK K)
              try simp only [Act.put, List.setIfInBounds_toArray, List.set_cons_zero, List.set_cons_succ]
              refine wpAnyIn_ready (rs := [8]) (by kernel_rfl) (by simp) ?_
              refine (AllReadyIn.cons (o := { dst := none, op := Op.store 24 (Operand.tmp 4) (Operand.tmp 20), type := 0, pos := "table.go:108", after := #[{ on := 7, ground := Ground.data }, { on := 7, ground := Ground.chain }, { on := 0, ground := Ground.phase }, { on := 1, ground := Ground.phase }, { on := 2, ground := Ground.phase }, { on := 3, ground := Ground.phase }, { on := 4, ground := Ground.phase }, { on := 5, ground := Ground.phase }, { on := 6, ground := Ground.phase }, { on := 7, ground := Ground.phase }], guard := none }) rfl (fun K hK => ?_) AllReadyIn.nil)
              go_simp
              (try (refine hK _ _ ?_))
              (try clear hK K)
              try simp only [Act.put, List.setIfInBounds_toArray, List.set_cons_zero, List.set_cons_succ]
              refine wpAnyIn_done (by kernel_rfl) ?_ _
              clear hc4 hz4 hn3
              generalize r2.n + n3 = N7 at *
              generalize w7.setCell ⟨g + 1, 0, none⟩ (.slice A7 N7 c7) = w8 at *
              generalize Value.slice A3 n3 c3 = v19 at *
              exact key v19 A7 N7 c7 w8 ⟨HF4.out, HX8.out, HK5.out⟩



        case w11x2 =>
          go_simp
          (try (refine hK _ _ ?_))
          (try clear hK K)
          try simp only [Act.put, List.setIfInBounds_toArray, List.set_cons_zero, List.set_cons_succ]
          refine wpAnyIn_take (i := 3) (oi := { dst := some 16, op := Op.call { callee := Callee.builtin Builtin.len, args := #[Operand.tmp 15], argTypes := #[24] }, type := 3, pos := "table.go:108", after := #[{ on := 2, ground := Ground.data }], guard := none }) (v := ?v15) rfl rfl (by kernel_rfl) (by kernel_rfl) (by kernel_rfl) (fun _ _ _ h => h) ⟨Or.inl ⟨by rfl, ?hy15⟩, fun _ => rfl⟩ ?rest15
          case hy15 => (intro w; go_simp; try with_reducible rfl)
          try simp only [Act.put, List.setIfInBounds_toArray, List.set_cons_zero, List.set_cons_succ]
          refine wpAnyIn_ready (rs := [0, 6]) (by kernel_rfl) (by simp) ?_
          refine (AllReadyIn.cons (o := { dst := some 13, op := Op.load 24 (Operand.tmp 4), type := 24, pos := "table.go:108", after := #[], guard := none }) rfl (fun K hK => ?w16x0) (AllReadyIn.cons (o := { dst := some 19, op := Op.call { callee := Callee.value (Operand.func 49), args := #[Operand.tmp 14, Operand.tmp 16, Operand.tmp 18], argTypes := #[26, 3, 3] }, type := 24, pos := "table.go:108", after := #[{ on := 1, ground := Ground.data }, { on := 3, ground := Ground.data }, { on := 5, ground := Ground.data }], guard := none }) rfl (fun K hK => ?w16x6) AllReadyIn.nil))
          case w16x0 =>
            go_simp
            (try (refine hK _ _ ?_))
            (try clear hK K)
            try simp only [Act.put, List.setIfInBounds_toArray, List.set_cons_zero, List.set_cons_succ]
            refine wpAnyIn_ready (rs := [6]) (by kernel_rfl) (by simp) ?_
            refine (AllReadyIn.cons (o := { dst := some 19, op := Op.call { callee := Callee.value (Operand.func 49), args := #[Operand.tmp 14, Operand.tmp 16, Operand.tmp 18], argTypes := #[26, 3, 3] }, type := 24, pos := "table.go:108", after := #[{ on := 1, ground := Ground.data }, { on := 3, ground := Ground.data }, { on := 5, ground := Ground.data }], guard := none }) rfl (fun K hK => ?w17x6) AllReadyIn.nil)
            case w17x6 =>
              go_simp
              gi_wp2_with fail
              refine ⟨trivial, HLN.out.mono ?_⟩
              rintro e w3 ⟨A3, n3, c3, rfl, hf3, hb3⟩
              replace cl := (hb3.cell hlt1).trans cl
              gi_wp2_with fail
              (try (refine hK _ _ ?_))
              (try clear hK K)
              try simp only [Act.put, List.setIfInBounds_toArray, List.set_cons_zero, List.set_cons_succ]
              have hF3 := (HF.out.under (below_drewN (Below.refl _ _) 1)).under hb3
              have hn3 : n3 ≤ 110 := by have := hf3.len; rw [bv_length] at this; have := HLL.out; omega
              have hx3 : Fr w3 B0 5 A' n' c' (bv (bkL L')) := (HXF.out.drew : Fr W1.drew _ _ _ _ _ _).below hb3
              refine wpAnyIn_ready (rs := [7]) (by kernel_rfl) (by simp) ?_
              refine (AllReadyIn.cons (o := { dst := some 20, op := Op.call { callee := Callee.builtin Builtin.append, args := #[Operand.tmp 13, Operand.tmp 19], argTypes := #[24, 24] }, type := 24, pos := "table.go:108", after := #[{ on := 0, ground := Ground.data }, { on := 6, ground := Ground.data }, { on := 6, ground := Ground.chain }], guard := none }) rfl (fun K hK => ?_) AllReadyIn.nil)
              refine stepIn_app rfl (.tmp 13) (.tmp 19) rfl hF3.f2 rfl (hf3.rd (Nat.le_refl _)) rfl (bv_one _) (by omega) (by have := hF3.size; omega) ?_
              intro A7 c7 w7 hap
              obtain ⟨hF4, hk4, hb4⟩ := hF3.put2 hap
              have hx7 : Fr w7 B0 5 A' n' c' (bv (bkL L')) := hx3.grown hap.grown (fun k hk e => by have := (hx3.own.lt k hk).1; have := HO2.out k e; omega)
              have hx8 : Fr (w7.setCell ⟨g + 1, 0, none⟩ (.slice A7 (r2.n + n3) c7)) B0 5 A' n' c' (bv (bkL L')) := hx7.grown (grownBy_setCell' w7 (g + 1) _) (fun k hk e => by cases e; obtain ⟨cur, hc⟩ := own_block hx7 hk; rw [show w7.heap[g + 1]? = _ from hb4] at hc; cases hc)
              have hk5 : KpT g (g + 3) W1 (w7.setCell ⟨g + 1, 0, none⟩ (.slice A7 (r2.n + n3) c7)) := ((KpT.of (below_drewN (Below.refl _ _) 1) hgW1).trans (KpT.of hb3 (by simpa using hgW1))).trans hk4
              have hc4 := hb4.cell
              have hz4 := hb4.frozen
              have HF4 := Lib.hid hF4
              have HX8 := Lib.hid hx8
              have HK5 := Lib.hid hk5
              clear hF3 hF4 hx3 hx7 hx8 hk4 hk5 hb4 hap hf3 hb3 cl
              (try (refine hK _ _ ?_))
              (try clear hK K)
              try simp only [Act.put, List.setIfInBounds_toArray, List.set_cons_zero, List.set_cons_succ]
              refine wpAnyIn_ready (rs := [8]) (by kernel_rfl) (by simp) ?_
              refine (AllReadyIn.cons (o := { dst := none, op := Op.store 24 (Operand.tmp 4) (Operand.tmp 20), type := 0, pos := "table.go:108", after := #[{ on := 7, ground := Ground.data }, { on := 7, ground := Ground.chain }, { on := 0, ground := Ground.phase }, { on := 1, ground := Ground.phase }, { on := 2, ground := Ground.phase }, { on := 3, ground := Ground.phase }, { on := 4, ground := Ground.phase }, { on := 5, ground := Ground.phase }, { on := 6, ground := Ground.phase }, { on := 7, ground := Ground.phase }], guard := none }) rfl (fun K hK => ?_) AllReadyIn.nil)
              go_simp
              (try (refine hK _ _ ?_))
              (try clear hK K)
              try simp only [Act.put, List.setIfInBounds_toArray, List.set_cons_zero, List.set_cons_succ]
              refine wpAnyIn_done (by kernel_rfl) ?_ _
              clear hc4 hz4 hn3
              generalize r2.n + n3 = N7 at *
              generalize w7.setCell ⟨g + 1, 0, none⟩ (.slice A7 N7 c7) = w8 at *
              generalize Value.slice A3 n3 c3 = v19 at *
              exact key v19 A7 N7 c7 w8 ⟨HF4.out, HX8.out, HK5.out⟩


          case w16x6 =>
            go_simp
            gi_wp2_with fail
            refine ⟨trivial, HLN.out.mono ?_⟩
            rintro e w3 ⟨A3, n3, c3, rfl, hf3, hb3⟩
            replace cl := (hb3.cell hlt1).trans cl
            gi_wp2_with fail
            (try (refine hK _ _ ?_))
            (try clear hK K)
            try simp only [Act.put, List.setIfInBounds_toArray, List.set_cons_zero, List.set_cons_succ]
            refine wpAnyIn_ready (rs := [0]) (by kernel_rfl) (by simp) ?_
            refine (AllReadyIn.cons (o := { dst := some 13, op := Op.load 24 (Operand.tmp 4), type := 24, pos := "table.go:108", after := #[], guard := none }) rfl (fun K hK => ?w18x0) AllReadyIn.nil)
            case w18x0 =>
              go_simp
              (try (refine hK _ _ ?_))
              (try clear hK K)
              try simp only [Act.put, List.setIfInBounds_toArray, List.set_cons_zero, List.set_cons_succ]
              have hF3 := (HF.out.under (below_drewN (Below.refl _ _) 1)).under hb3
              have hn3 : n3 ≤ 110 := by have := hf3.len; rw [bv_length] at this; have := HLL.out; omega
              have hx3 : Fr w3 B0 5 A' n' c' (bv (bkL L')) := (HXF.out.drew : Fr W1.drew _ _ _ _ _ _).below hb3
              refine wpAnyIn_ready (rs := [7]) (by kernel_rfl) (by simp) ?_
              refine (AllReadyIn.cons (o := { dst := some 20, op := Op.call { callee := Callee.builtin Builtin.append, args := #[Operand.tmp 13, Operand.tmp 19], argTypes := #[24, 24] }, type := 24, pos := "table.go:108", after := #[{ on := 0, ground := Ground.data }, { on := 6, ground := Ground.data }, { on := 6, ground := Ground.chain }], guard := none }) rfl (fun K hK => ?_) AllReadyIn.nil)
              refine stepIn_app rfl (.tmp 13) (.tmp 19) rfl hF3.f2 rfl (hf3.rd (Nat.le_refl _)) rfl (bv_one _) (by omega) (by have := hF3.size; omega) ?_
              intro A7 c7 w7 hap
              obtain ⟨hF4, hk4, hb4⟩ := hF3.put2 hap
              have hx7 : Fr w7 B0 5 A' n' c' (bv (bkL L')) := hx3.grown hap.grown (fun k hk e => by have := (hx3.own.lt k hk).1; have := HO2.out k e; omega)
              have hx8 : Fr (w7.setCell ⟨g + 1, 0, none⟩ (.slice A7 (r2.n + n3) c7)) B0 5 A' n' c' (bv (bkL L')) := hx7.grown (grownBy_setCell' w7 (g + 1) _) (fun k hk e => by cases e; obtain ⟨cur, hc⟩ := own_block hx7 hk; rw [show w7.heap[g + 1]? = _ from hb4] at hc; cases hc)
              have hk5 : KpT g (g + 3) W1 (w7.setCell ⟨g + 1, 0, none⟩ (.slice A7 (r2.n + n3) c7)) := ((KpT.of (below_drewN (Below.refl _ _) 1) hgW1).trans (KpT.of hb3 (by simpa using hgW1))).trans hk4
              have hc4 := hb4.cell
              have hz4 := hb4.frozen
              have HF4 := Lib.hid hF4
              have HX8 := Lib.hid hx8
              have HK5 := Lib.hid hk5
              clear hF3 hF4 hx3 hx7 hx8 hk4 hk5 hb4 hap hf3 hb3 cl
              (try (refine hK _ _ ?_))
              (try clear hK K)
              try simp only [Act.put, List.setIfInBounds_toArray, List.set_cons_zero, List.set_cons_succ]
              refine wpAnyIn_ready (rs := [8]) (by kernel_rfl) (by simp) ?_
              refine (AllReadyIn.cons (o := { dst := none, op := Op.store 24 (Operand.tmp 4) (Operand.tmp 20), type := 0, pos := "table.go:108", after := #[{ on := 7, ground := Ground.data }, { on := 7, ground := Ground.chain }, { on := 0, ground := Ground.phase }, { on := 1, ground := Ground.phase }, { on := 2, ground := Ground.phase }, { on := 3, ground := Ground.phase }, { on := 4, ground := Ground.phase }, { on := 5, ground := Ground.phase }, { on := 6, ground := Ground.phase }, { on := 7, ground := Ground.phase }], guard := none }) rfl (fun K hK => ?_) AllReadyIn.nil)
              go_simp
              (try (refine hK _ _ ?_))
              (try clear hK K)
              try simp only [Act.put, List.setIfInBounds_toArray, List.set_cons_zero, List.set_cons_succ]
              refine wpAnyIn_done (by kernel_rfl) ?_ _
              clear hc4 hz4 hn3
              generalize r2.n + n3 = N7 at *
              generalize w7.setCell ⟨g + 1, 0, none⟩ (.slice A7 N7 c7) = w8 at *
              generalize Value.slice A3 n3 c3 = v19 at *
              exact key v19 A7 N7 c7 w8 ⟨HF4.out, HX8.out, HK5.out⟩




      case w3x2 =>
        go_simp
        (try (refine hK _ _ ?_))
        (try clear hK K)
        try simp only [Act.put, List.setIfInBounds_toArray, List.set_cons_zero, List.set_cons_succ]
        refine wpAnyIn_take (i := 3) (oi := { dst := some 16, op := Op.call { callee := Callee.builtin Builtin.len, args := #[Operand.tmp 15], argTypes := #[24] }, type := 3, pos := "table.go:108", after := #[{ on := 2, ground := Ground.data }], guard := none }) (v := ?v19) rfl rfl (by kernel_rfl) (by kernel_rfl) (by kernel_rfl) (fun _ _ _ h => h) ⟨Or.inl ⟨by rfl, ?hy19⟩, fun _ => rfl⟩ ?rest19
        case hy19 => (intro w; go_simp; try with_reducible rfl)
        try simp only [Act.put, List.setIfInBounds_toArray, List.set_cons_zero, List.set_cons_succ]
        refine wpAnyIn_ready (rs := [0, 1]) (by kernel_rfl) (by simp) ?_
        refine (AllReadyIn.cons (o := { dst := some 13, op := Op.load 24 (Operand.tmp 4), type := 24, pos := "table.go:108", after := #[], guard := none }) rfl (fun K hK => ?w20x0) (AllReadyIn.cons (o := { dst := some 14, op := Op.load 26 (Operand.tmp 6), type := 26, pos := "table.go:108", after := #[], guard := none }) rfl (fun K hK => ?w20x1) AllReadyIn.nil))
        case w20x0 =>
          go_simp
          (try (refine hK _ _ ?_))
          (try clear hK K)
          try simp only [Act.put, List.setIfInBounds_toArray, List.set_cons_zero, List.set_cons_succ]
          refine wpAnyIn_ready (rs := [1]) (by kernel_rfl) (by simp) ?_
          refine (AllReadyIn.cons (o := { dst := some 14, op := Op.load 26 (Operand.tmp 6), type := 26, pos := "table.go:108", after := #[], guard := none }) rfl (fun K hK => ?w21x1) AllReadyIn.nil)
          case w21x1 =>
            go_simp
            (try (refine hK _ _ ?_))
            (try clear hK K)
            try simp only [Act.put, List.setIfInBounds_toArray, List.set_cons_zero, List.set_cons_succ]
            refine wpAnyIn_ready (rs := [6]) (by kernel_rfl) (by simp) ?_
            refine (AllReadyIn.cons (o := { dst := some 19, op := Op.call { callee := Callee.value (Operand.func 49), args := #[Operand.tmp 14, Operand.tmp 16, Operand.tmp 18], argTypes := #[26, 3, 3] }, type := 24, pos := "table.go:108", after := #[{ on := 1, ground := Ground.data }, { on := 3, ground := Ground.data }, { on := 5, ground := Ground.data }], guard := none }) rfl (fun K hK => ?w22x6) AllReadyIn.nil)
            case w22x6 =>
              go_simp
              gi_wp2_with fail
              refine ⟨trivial, HLN.out.mono ?_⟩
              rintro e w3 ⟨A3, n3, c3, rfl, hf3, hb3⟩
              replace cl := (hb3.cell hlt1).trans cl
              gi_wp2_with fail
              (try (refine hK _ _ ?_))
              (try clear hK K)
              try simp only [Act.put, List.setIfInBounds_toArray, List.set_cons_zero, List.set_cons_succ]
              have hF3 := (HF.out.under (below_drewN (Below.refl _ _) 1)).under hb3
              have hn3 : n3 ≤ 110 := by have := hf3.len; rw [bv_length] at this; have := HLL.out; omega
              have hx3 : Fr w3 B0 5 A' n' c' (bv (bkL L')) := (HXF.out.drew : Fr W1.drew _ _ _ _ _ _).below hb3
              refine wpAnyIn_ready (rs := [7]) (by kernel_rfl) (by simp) ?_
              refine (AllReadyIn.cons (o := { dst := some 20, op := Op.call { callee := Callee.builtin Builtin.append, args := #[Operand.tmp 13, Operand.tmp 19], argTypes := #[24, 24] }, type := 24, pos := "table.go:108", after := #[{ on := 0, ground := Ground.data }, { on := 6, ground := Ground.data }, { on := 6, ground := Ground.chain }], guard := none }) rfl (fun K hK => ?_) AllReadyIn.nil)
              refine stepIn_app rfl (.tmp 13) (.tmp 19) rfl hF3.f2 rfl (hf3.rd (Nat.le_refl _)) rfl (bv_one _) (by omega) (by have := hF3.size; omega) ?_
              intro A7 c7 w7 hap
              obtain ⟨hF4, hk4, hb4⟩ := hF3.put2 hap
              have hx7 : Fr w7 B0 5 A' n' c' (bv (bkL L')) := hx3.grown hap.grown (fun k hk e => by have := (hx3.own.lt k hk).1; have := HO2.out k e; omega)
              have hx8 : Fr (w7.setCell ⟨g + 1, 0, none⟩ (.slice A7 (r2.n + n3) c7)) B0 5 A' n' c' (bv (bkL L')) := hx7.grown (grownBy_setCell' w7 (g + 1) _) (fun k hk e => by cases e; obtain ⟨cur, hc⟩ := own_block hx7 hk; rw [show w7.heap[g + 1]? = _ from hb4] at hc; cases hc)
              have hk5 : KpT g (g + 3) W1 (w7.setCell ⟨g + 1, 0, none⟩ (.slice A7 (r2.n + n3) c7)) := ((KpT.of (below_drewN (Below.refl _ _) 1) hgW1).trans (KpT.of hb3 (by simpa using hgW1))).trans hk4
              have hc4 := hb4.cell
              have hz4 := hb4.frozen
              have HF4 := Lib.hid hF4
              have HX8 := Lib.hid hx8
              have HK5 := Lib.hid hk5
              clear hF3 hF4 hx3 hx7 hx8 hk4 hk5 hb4 hap hf3 hb3 cl
              (try (refine hK _ _ ?_))
              (try clear hK K)
              try simp only [Act.put, List.setIfInBounds_toArray, List.set_cons_zero, List.set_cons_succ]
              refine wpAnyIn_ready (rs := [8]) (by kernel_rfl) (by simp) ?_
              refine (AllReadyIn.cons (o := { dst := none, op := Op.store 24 (Operand.tmp 4) (Operand.tmp 20), type := 0, pos := "table.go:108", after := #[{ on := 7, ground := Ground.data }, { on := 7, ground := Ground.chain }, { on := 0, ground := Ground.phase }, { on := 1, ground := Ground.phase }, { on := 2, ground := Ground.phase }, { on := 3, ground := Ground.phase }, { on := 4, ground := Ground.phase }, { on := 5, ground := Ground.phase }, { on := 6, ground := Ground.phase }, { on := 7, ground := Ground.phase }], guard := none }) rfl (fun K hK => ?_) AllReadyIn.nil)
              go_simp
              (try (refine hK _ _ ?_))
              (try clear hK K)
              try simp only [Act.put, List.setIfInBounds_toArray, List.set_cons_zero, List.set_cons_succ]
              refine wpAnyIn_done (by kernel_rfl) ?_ _
              clear hc4 hz4 hn3
              generalize r2.n + n3 = N7 at *
              generalize w7.setCell ⟨g + 1, 0, none⟩ (.slice A7 N7 c7) = w8 at *
              generalize Value.slice A3 n3 c3 = v19 at *
              exact key v19 A7 N7 c7 w8 ⟨HF4.out, HX8.out, HK5.out⟩



        case w20x1 =>
          go_simp
          (try (refine hK _ _ ?_))
          (try clear hK K)
          try simp only [Act.put, List.setIfInBounds_toArray, List.set_cons_zero, List.set_cons_succ]
          refine wpAnyIn_ready (rs := [0, 6]) (by kernel_rfl) (by simp) ?_
          refine (AllReadyIn.cons (o := { dst := some 13, op := Op.load 24 (Operand.tmp 4), type := 24, pos := "table.go:108", after := #[], guard := none }) rfl (fun K hK => ?w23x0) (AllReadyIn.cons (o := { dst := some 19, op := Op.call { callee := Callee.value (Operand.func 49), args := #[Operand.tmp 14, Operand.tmp 16, Operand.tmp 18], argTypes := #[26, 3, 3] }, type := 24, pos := "table.go:108", after := #[{ on := 1, ground := Ground.data }, { on := 3, ground := Ground.data }, { on := 5, ground := Ground.data }], guard := none }) rfl (fun K hK => ?w23x6) AllReadyIn.nil))
          case w23x0 =>
            go_simp
            (try (refine hK _ _ ?_))
            (try clear hK K)
            try simp only [Act.put, List.setIfInBounds_toArray, List.set_cons_zero, List.set_cons_succ]
            refine wpAnyIn_ready (rs := [6]) (by kernel_rfl) (by simp) ?_
            refine (AllReadyIn.cons (o := { dst := some 19, op := Op.call { callee := Callee.value (Operand.func 49), args := #[Operand.tmp 14, Operand.tmp 16, Operand.tmp 18], argTypes := #[26, 3, 3] }, type := 24, pos := "table.go:108", after := #[{ on := 1, ground := Ground.data }, { on := 3, ground := Ground.data }, { on := 5, ground := Ground.data }], guard := none }) rfl (fun K hK => ?w24x6) AllReadyIn.nil)
            case w24x6 =>
              go_simp
              gi_wp2_with fail
              refine ⟨trivial, HLN.out.mono ?_⟩
              rintro e w3 ⟨A3, n3, c3, rfl, hf3, hb3⟩
              replace cl := (hb3.cell hlt1).trans cl
              gi_wp2_with fail
              (try (refine hK _ _ ?_))
              (try clear hK K)
              try simp only [Act.put, List.setIfInBounds_toArray, List.set_cons_zero, List.set_cons_succ]
              have hF3 := (HF.out.under (below_drewN (Below.refl _ _) 1)).under hb3
              have hn3 : n3 ≤ 110 := by have := hf3.len; rw [bv_length] at this; have := HLL.out; omega
              have hx3 : Fr w3 B0 5 A' n' c' (bv (bkL L')) := (HXF.out.drew : Fr W1.drew _ _ _ _ _ _).below hb3
              refine wpAnyIn_ready (rs := [7]) (by kernel_rfl) (by simp) ?_
              refine (AllReadyIn.cons (o := { dst := some 20, op := Op.call { callee := Callee.builtin Builtin.append, args := #[Operand.tmp 13, Operand.tmp 19], argTypes := #[24, 24] }, type := 24, pos := "table.go:108", after := #[{ on := 0, ground := Ground.data }, { on := 6, ground := Ground.data }, { on := 6, ground := Ground.chain }], guard := none }) rfl (fun K hK => ?_) AllReadyIn.nil)
              refine stepIn_app rfl (.tmp 13) (.tmp 19) rfl hF3.f2 rfl (hf3.rd (Nat.le_refl _)) rfl (bv_one _) (by omega) (by have := hF3.size; omega) ?_
              intro A7 c7 w7 hap
              obtain ⟨hF4, hk4, hb4⟩ := hF3.put2 hap
              have hx7 : Fr w7 B0 5 A' n' c' (bv (bkL L')) := hx3.grown hap.grown (fun k hk e => by have := (hx3.own.lt k hk).1; have := HO2.out k e; omega)
              have hx8 : Fr (w7.setCell ⟨g + 1, 0, none⟩ (.slice A7 (r2.n + n3) c7)) B0 5 A' n' c' (bv (bkL L')) := hx7.grown (grownBy_setCell' w7 (g + 1) _) (fun k hk e => by cases e; obtain ⟨cur, hc⟩ := own_block hx7 hk; rw [show w7.heap[g + 1]? = _ from hb4] at hc; cases hc)
              have hk5 : KpT g (g + 3) W1 (w7.setCell ⟨g + 1, 0, none⟩ (.slice A7 (r2.n + n3) c7)) := ((KpT.of (below_drewN (Below.refl _ _) 1) hgW1).trans (KpT.of hb3 (by simpa using hgW1))).trans hk4
              have hc4 := hb4.cell
              have hz4 := hb4.frozen
              have HF4 := Lib.hid hF4
              have HX8 := Lib.hid hx8
              have HK5 := Lib.hid hk5
              clear hF3 hF4 hx3 hx7 hx8 hk4 hk5 hb4 hap hf3 hb3 cl
              (try (refine hK _ _ ?_))
              (try clear hK K)
              try simp only [Act.put, List.setIfInBounds_toArray, List.set_cons_zero, List.set_cons_succ]
              refine wpAnyIn_ready (rs := [8]) (by kernel_rfl) (by simp) ?_
              refine (AllReadyIn.cons (o := { dst := none, op := Op.store 24 (Operand.tmp 4) (Operand.tmp 20), type := 0, pos := "table.go:108", after := #[{ on := 7, ground := Ground.data }, { on := 7, ground := Ground.chain }, { on := 0, ground := Ground.phase }, { on := 1, ground := Ground.phase }, { on := 2, ground := Ground.phase }, { on := 3, ground := Ground.phase }, { on := 4, ground := Ground.phase }, { on := 5, ground := Ground.phase }, { on := 6, ground := Ground.phase }, { on := 7, ground := Ground.phase }], guard := none }) rfl (fun K hK => ?_) AllReadyIn.nil)
              go_simp
              (try (refine hK _ _ ?_))
              (try clear hK K)
              try simp only [Act.put, List.setIfInBounds_toArray, List.set_cons_zero, List.set_cons_succ]
              refine wpAnyIn_done (by kernel_rfl) ?_ _
              clear hc4 hz4 hn3
              generalize r2.n + n3 = N7 at *
              generalize w7.setCell ⟨g + 1, 0, none⟩ (.slice A7 N7 c7) = w8 at *
              generalize Value.slice A3 n3 c3 = v19 at *
              exact key v19 A7 N7 c7 w8 ⟨HF4.out, HX8.out, HK5.out⟩


          case w23x6 =>
            go_simp
            gi_wp2_with fail
            refine ⟨trivial, HLN.out.mono ?_⟩
            rintro e w3 ⟨A3, n3, c3, rfl, hf3, hb3⟩
            replace cl := (hb3.cell hlt1).trans cl
            gi_wp2_with fail
            (try (refine hK _ _ ?_))
            (try clear hK K)
            try simp only [Act.put, List.setIfInBounds_toArray, List.set_cons_zero, List.set_cons_succ]
            refine wpAnyIn_ready (rs := [0]) (by kernel_rfl) (by simp) ?_
            refine (AllReadyIn.cons (o := { dst := some 13, op := Op.load 24 (Operand.tmp 4), type := 24, pos := "table.go:108", after := #[], guard := none }) rfl (fun K hK => ?w25x0) AllReadyIn.nil)
            case w25x0 =>
              go_simp
              (try (refine hK _ _ ?_))
              (try clear hK K)
              try simp only [Act.put, List.setIfInBounds_toArray, List.set_cons_zero, List.set_cons_succ]
              have hF3 := (HF.out.under (below_drewN (Below.refl _ _) 1)).under hb3
              have hn3 : n3 ≤ 110 := by have := hf3.len; rw [bv_length] at this; have := HLL.out; omega
              have hx3 : Fr w3 B0 5 A' n' c' (bv (bkL L')) := (HXF.out.drew : Fr W1.drew _ _ _ _ _ _).below hb3
              refine wpAnyIn_ready (rs := [7]) (by kernel_rfl) (by simp) ?_
              refine (AllReadyIn.cons (o := { dst := some 20, op := Op.call { callee := Callee.builtin Builtin.append, args := #[Operand.tmp 13, Operand.tmp 19], argTypes := #[24, 24] }, type := 24, pos := "table.go:108", after := #[{ on := 0, ground := Ground.data }, { on := 6, ground := Ground.data }, { on := 6, ground := Ground.chain }], guard := none }) rfl (fun K hK => ?_) AllReadyIn.nil)
              refine stepIn_app rfl (.tmp 13) (.tmp 19) rfl hF3.f2 rfl (hf3.rd (Nat.le_refl _)) rfl (bv_one _) (by omega) (by have := hF3.size; omega) ?_
              intro A7 c7 w7 hap
              obtain ⟨hF4, hk4, hb4⟩ := hF3.put2 hap
              have hx7 : Fr w7 B0 5 A' n' c' (bv (bkL L')) := hx3.grown hap.grown (fun k hk e => by have := (hx3.own.lt k hk).1; have := HO2.out k e; omega)
              have hx8 : Fr (w7.setCell ⟨g + 1, 0, none⟩ (.slice A7 (r2.n + n3) c7)) B0 5 A' n' c' (bv (bkL L')) := hx7.grown (grownBy_setCell' w7 (g + 1) _) (fun k hk e => by cases e; obtain ⟨cur, hc⟩ := own_block hx7 hk; rw [show w7.heap[g + 1]? = _ from hb4] at hc; cases hc)
              have hk5 : KpT g (g + 3) W1 (w7.setCell ⟨g + 1, 0, none⟩ (.slice A7 (r2.n + n3) c7)) := ((KpT.of (below_drewN (Below.refl _ _) 1) hgW1).trans (KpT.of hb3 (by simpa using hgW1))).trans hk4
              have hc4 := hb4.cell
              have hz4 := hb4.frozen
              have HF4 := Lib.hid hF4
              have HX8 := Lib.hid hx8
              have HK5 := Lib.hid hk5
              clear hF3 hF4 hx3 hx7 hx8 hk4 hk5 hb4 hap hf3 hb3 cl
              (try (refine hK _ _ ?_))
              (try clear hK K)
              try simp only [Act.put, List.setIfInBounds_toArray, List.set_cons_zero, List.set_cons_succ]
              refine wpAnyIn_ready (rs := [8]) (by kernel_rfl) (by simp) ?_
              refine (AllReadyIn.cons (o := { dst := none, op := Op.store 24 (Operand.tmp 4) (Operand.tmp 20), type := 0, pos := "table.go:108", after := #[{ on := 7, ground := Ground.data }, { on := 7, ground := Ground.chain }, { on := 0, ground := Ground.phase }, { on := 1, ground := Ground.phase }, { on := 2, ground := Ground.phase }, { on := 3, ground := Ground.phase }, { on := 4, ground := Ground.phase }, { on := 5, ground := Ground.phase }, { on := 6, ground := Ground.phase }, { on := 7, ground := Ground.phase }], guard := none }) rfl (fun K hK => ?_) AllReadyIn.nil)
              go_simp
              (try (refine hK _ _ ?_))
              (try clear hK K)
              try simp only [Act.put, List.setIfInBounds_toArray, List.set_cons_zero, List.set_cons_succ]
              refine wpAnyIn_done (by kernel_rfl) ?_ _
              clear hc4 hz4 hn3
              generalize r2.n + n3 = N7 at *
              generalize w7.setCell ⟨g + 1, 0, none⟩ (.slice A7 N7 c7) = w8 at *
              generalize Value.slice A3 n3 c3 = v19 at *
              exact key v19 A7 N7 c7 w8 ⟨HF4.out, HX8.out, HK5.out⟩





    case kp =>
      rintro v19 A7 N7 c7 w8 ⟨hF8, hx8, hk8⟩
      have cf8 := hF8.b1.cell
      have cc8 := hF8.b3.cell
      have HF8 := Lib.hid hF8
      have HX8 := Lib.hid hx8
      have HK8 := Lib.hid hk8
      have hs8 : g ≤ w8.heap.size := by have := hF8.size; omega
      clear hF8 hx8 hk8 cf cl k0 k1 k2 HF HXF HLN
      unfold Row.v at cf8
      gi_wp2_with (gi_at_builtin; refine wpListIn_app rfl (.tmp 21) (.tmp 22) _ rfl Tryz.underlying24 info_u8 rfl rfl HF8.out.f1 rfl (HX8.out.rd (Nat.le_refl _)) (bv_one _) (by omega) (by omega) hs8 ?_; intro A9 c9 w9 hap9; obtain ⟨hF9, hk9, hb9, hb9c⟩ := HF8.out.put1 hap9; have cf9 := hb9.cell; have zf9 := hb9.frozen; have cc9 := hF9.b3.cell; have zc9 := hF9.b3.frozen; have HF9 := Lib.hid hF9; have HK9 := Lib.hid hk9; clear hF9 hk9 hb9 hb9c hap9)
      obtain ⟨hF10, hk10⟩ := HF9.out.put3
      have hk11 : KpT g (g + 3) W1 _ := (HK8.out.trans HK9.out).trans hk10
      refine ⟨hk11.keeps (by omega), hk11.up (by omega), ⟨A9, r1.n + n', c9⟩, ⟨A7, N7, c7⟩, ?_, HST.out.2.2.2⟩
      rw [HST.out.1, HST.out.2.1, HST.out.2.2.1]
      exact hF10
  case done =>
    rintro D ys W5 hD hS ⟨r1, r2, hF, hall⟩ hK
    rw [hS] at hF hall
    have hpl : (lsE ys).length = ys.length := by simp [lsE]
    have hcl : (chL L).length = cntL L := chK_len _ _
    have hcn : ys.length = cntL L := by rw [← hpl, hS, hcl]
    rw [hcn] at hF
    obtain ⟨hc1, hc512⟩ := cnt_le HB.out
    have hfl := frL_len hall
    have hll := linL_len 0 hall
    have hr1n : (frL (chL L)).length = r1.n := by have := hF.f1.len; rw [bv_length] at this; exact this
    have hr2n : (linL 0 (chL L)).length = r2.n := by have := hF.f2.len; rw [bv_length] at this; exact this
    have hr1 : r1.n ≤ 12300000 := by omega
    have hr2 : r2.n ≤ 57000 := by omega
    obtain ⟨CN, hCN⟩ : ∃ CN, cntL L = CN := ⟨_, rfl⟩
    rw [hCN] at hF hc512 hcl
    have HTAB := Lib.hid (show tabL L = frL (chL L) ++ (sealL (shortL CN ++ linL 0 (chL L)) ++ ftL r1.n n) by unfold tabL idxL; rw [hcl, hr1n, HL.out])
    have hnn : n ≤ 8192 := HN.out
    have hnni : (n : Int) ≤ 8192 := by omega
    have hr1i : (r1.n : Int) ≤ 12300000 := by omega
    have hcni : (CN : Int) ≤ 512 := by omega
    have w1 : IntKind.u64.wrap (CN : Int) = (CN : Int) := by rw [wrapu]; omega
    have hsl := shortL_len CN
    have HSL0 := Lib.hid hsl
    have HR1N := Lib.hid hr1n
    have HR2N := Lib.hid hr2n
    have HPT := Lib.hid (fun W => put_c (w := W) (B := 0) (l := []) Rd.nilv (Nat.zero_le _) (by decide) (CN : Int) (by omega) (by omega))
    simp only [List.nil_append, Int.toNat_natCast] at HPT
    have HSK := Lib.hid (fun (W : World) (hW : Below W5.heap.size W5 W) => show Below W5.heap.size W5 W ∧ W.cell? ⟨g + 1 + 1, 0, none⟩ = some (.int .i64 (CN : Int)) ∧ W.cell? ⟨g + 1, 0, none⟩ = some (.slice r2.A r2.n r2.c) from ⟨hW, (hW.cell (by have := hF.size; simp; omega)).trans hF.b3.cell, (hW.cell (by have := hF.size; simp; omega)).trans hF.b2.cell⟩)
    have hst : Below W5.heap.size W5 W5.drew := below_drewN (Below.refl _ _) 1
    have HF := Lib.hid hF
    have HK := Lib.hid hK
    clear hF hall hpl hcl hcn hfl hll hr1n hr2n hsl hS hseq hF0 hCN hK
    gi_wp2_with fail
    refine wpIn_wide.2 ?_
    refine wp_region_noPanic ?_
    refine wp_region_held_drew (S := fun w' => Below W5.heap.size W5 w' ∧ w'.cell? ⟨g + 1 + 1, 0, none⟩ = some (.int .i64 (CN : Int)) ∧ w'.cell? ⟨g + 1, 0, none⟩ = some (.slice r2.A r2.n r2.c)) (by kernel_rfl) (HSK.out _ hst) (fun hHeld => ?_)
    refine wpAnyH_take (i := 0) (oi := { dst := some 26, op := Op.load 3 (Operand.tmp 5), type := 3, pos := "table.go:112", after := #[], guard := none }) (v := ?v26) rfl (by kernel_rfl) (by kernel_rfl) (by kernel_rfl) (fun _ _ _ h => h) (Or.inl ⟨by rfl, ?hy26⟩) (by assumption) ?rest26
    case hy26 => (intro w hSw; (try dsimp only at hSw); go_simp; try with_reducible rfl)
    try simp only [Act.put, List.setIfInBounds_toArray, List.set_cons_zero, List.set_cons_succ]
    refine wpAnyH_take (i := 1) (oi := { dst := some 27, op := Op.convert 3 22 (Operand.tmp 26), type := 22, pos := "table.go:112", after := #[{ on := 0, ground := Ground.data }], guard := none }) (v := ?v27) rfl (by kernel_rfl) (by kernel_rfl) (by kernel_rfl) (fun _ _ _ h => h) (Or.inl ⟨by rfl, ?hy27⟩) (by assumption) ?rest27
    case hy27 => (intro w hSw; (try dsimp only at hSw); go_simp; try with_reducible rfl)
    try simp only [Act.put, List.setIfInBounds_toArray, List.set_cons_zero, List.set_cons_succ]
    refine wpAnyH_take (i := 3) (oi := { dst := some 29, op := Op.load 24 (Operand.tmp 4), type := 24, pos := "table.go:112", after := #[], guard := none }) (v := ?v28) rfl (by kernel_rfl) (by kernel_rfl) (by kernel_rfl) (fun _ _ _ h => h) (Or.inl ⟨by rfl, ?hy28⟩) (by assumption) ?rest28
    case hy28 => (intro w hSw; (try dsimp only at hSw); go_simp; try with_reducible rfl)
    try simp only [Act.put, List.setIfInBounds_toArray, List.set_cons_zero, List.set_cons_succ]

    refine wpAnyH_ready (rs := [2]) (by kernel_rfl) (by simp) ?_
    refine AllReadyH.cons (o := { dst := some 28, op := Op.call { callee := Callee.value (Operand.func 50), args := #[Operand.const (Value.slice none 0 0), Operand.tmp 27], argTypes := #[24, 22] }, type := 24, pos := "table.go:112", after := #[{ on := 1, ground := Ground.data }], guard := none }) rfl (fun K hK => ?_) AllReadyH.nil
    go_simp
    refine (HPT.out _).mono ?_
    rintro e w6 ⟨A6, n6, c6, rfl, hf6, hb6⟩
    have hb7 := bon hHeld.1 hb6
    replace hHeld := HSK.out _ hb7
    have hn6 : n6 ≤ 10 := by have := hf6.len; rw [bv_length] at this; have := HSL0.out; omega
    have hf6 : Fr w6 W5.heap.size 5 A6 n6 c6 (bv (shortL CN)) := hf6.mono (by simp)
    clear hb6
    go_wp2_with fail
    refine hK.out _ _ hHeld (fun hHeld' => ?_)
    clear hK K
    try simp only [Act.put, List.setIfInBounds_toArray, List.set_cons_zero, List.set_cons_succ]
    refine wpAnyH_ready (rs := [4]) (by kernel_rfl) (by simp) ?_
    refine AllReadyH.cons (o := { dst := some 30, op := Op.call { callee := Callee.builtin Builtin.append, args := #[Operand.tmp 28, Operand.tmp 29], argTypes := #[24, 24] }, type := 24, pos := "table.go:112", after := #[{ on := 2, ground := Ground.data }, { on := 3, ground := Ground.data }, { on := 2, ground := Ground.chain }], guard := none }) rfl (fun K hK => ?_) AllReadyH.nil
    refine step_app rfl (.tmp 28) (.tmp 29) rfl hf6 rfl ((HF.out.f2.below hb7).rd (Nat.le_refl _)) rfl (bv_one _) (by omega) hb7.size ?_
    intro A9 c9 w9 hap9
    have hf9 := hap9.fr
    rw [← bv_append] at hf9
    have hb9 := hb7.trans hap9.below
    replace hHeld := HSK.out _ hb9
    clear hHeld' hap9 hf6 hb7
    refine hK.out _ _ hHeld (fun hHeld' => ?_)
    clear hK K
    try simp only [Act.put, List.setIfInBounds_toArray, List.set_cons_zero, List.set_cons_succ]
    refine wpAnyH_take (i := 5) (oi := { dst := some 8, op := Op.assign (Operand.tmp 30), type := 24, pos := "table.go:112", after := #[{ on := 4, ground := Ground.data }, { on := 4, ground := Ground.chain }, { on := 0, ground := Ground.phase }, { on := 1, ground := Ground.phase }, { on := 2, ground := Ground.phase }, { on := 3, ground := Ground.phase }, { on := 4, ground := Ground.phase }], guard := none }) (v := ?v29) rfl (by kernel_rfl) (by kernel_rfl) (by kernel_rfl) (fun _ _ _ h => h) (Or.inl ⟨by rfl, ?hy29⟩) (by assumption) ?rest29
    case hy29 => (intro w hSw; (try dsimp only at hSw); go_simp; try with_reducible rfl)
    try simp only [Act.put, List.setIfInBounds_toArray, List.set_cons_zero, List.set_cons_succ]

    refine wpAnyH_done (by kernel_rfl) ?_ _
    refine NoPanic.normal ?_
    clear hHeld hHeld'
    obtain ⟨N9, hN9⟩ : ∃ N9, n6 + r2.n = N9 := ⟨_, rfl⟩
    rw [hN9] at hf9 ⊢
    have hn9 : N9 ≤ 57010 := by omega
    have HF9 := Lib.hid hf9
    have HB9 := Lib.hid hb9
    have HSE := Lib.hid (fun W (hW : Below w9.heap.size w9 W) => seal_c ((hf9.below hW).rd (Nat.le_refl _)) (Nat.le_refl _) (by omega))
    have HFO := Lib.hid (fun W => footer_c (w := W) (a := r1.n) (z := n) (by omega) (by omega))
    have HFR := Lib.hid (HF.out.f1.below hb9)
    have HSL := Lib.hid (show (sealL (shortL CN ++ linL 0 (chL L))).length ≤ 20000000 by rw [sealL_len, List.length_append]; have := HSL0.out; have := HR2N.out; omega)
    have HFL := Lib.hid (show (frL (chL L)).length ≤ 20000000 by have := HR1N.out; omega)
    have HTL := Lib.hid (show (ftL r1.n n).length = 12 by unfold ftL; simp [fourL_len])
    have cfr : w9.cell? ⟨g, 0, none⟩ = some (.slice r1.A r1.n r1.c) := (hb9.cell (by have := HF.out.size; simp; omega)).trans HF.out.b1.cell
    have HS9 := Lib.hid (fun (W : World) (hW : Below w9.heap.size w9 W) => show Below w9.heap.size w9 W ∧ W.cell? ⟨g, 0, none⟩ = some (.slice r1.A r1.n r1.c) from ⟨hW, (hW.cell (by have := HF.out.size; have := HB9.out.size; simp; omega)).trans cfr⟩)
    have hs0 : Below w9.heap.size w9 w9.drew := below_drewN (Below.refl _ _) 1
    clear hf9 hb9 hn6 hn9 hst hN9 w1 cfr
    gi_wp2_with fail
    refine wpIn_wide.2 ?_
    go_region_held3 (fun w' => Below w9.heap.size w9 w' ∧ w'.cell? ⟨g, 0, none⟩ = some (.slice r1.A r1.n r1.c))
      ((first | assumption | exact HS9.out _ (by assumption) | exact HS9.out _ hs0 | exact HS9.out _ (blit (And.left (by assumption)) _)))
      (first
      | (go_at_call 52; refine (HSE.out _ (And.left (by assumption))).mono ?_; rintro e ws ⟨As, ns, cs, rfl, hfs, hbs⟩; have hb3 : Below w9.heap.size w9 ws := bon (And.left (by assumption)) hbs; (try replace HFT := Lib.hid (HFT.out.below hbs)); have HSS := Lib.hid hfs; clear hfs hbs)
      | (go_at_call 53; refine (HFO.out _).mono ?_; rintro e wf ⟨Af, nf, cf, rfl, hff, hbf⟩; have hb3 : Below w9.heap.size w9 wf := bon (And.left (by assumption)) hbf; (try replace HSS := Lib.hid (HSS.out.below hbf)); have HFT := Lib.hid hff; obtain rfl : nf = 12 := (by have := hff.len; rw [bv_length, HTL.out] at this; exact this.symm); clear hff hbf)
      | (go_at_call 51; refine (concat_c (a := r1) (b := ⟨As, ns, cs⟩) (c := ⟨Af, 12, cf⟩) (x := frL (chL L)) (y := sealL (shortL CN ++ linL 0 (chL L))) (z := ftL r1.n n) (Rows3.new _ r1 ⟨As, ns, cs⟩ ⟨Af, 12, cf⟩) (((HFR.out.below hb3).alloc _).here) ((HSS.out.alloc _).here) ((HFT.out.alloc _).here) HFL.out HSL.out (by rw [HTL.out]; decide) (by rw [HTL.out]; decide)).mono ?_; rintro e w4 ⟨A4, n4, c4, rfl, hf4, hb4⟩; have hb5 : Below w9.heap.size w9 w4 := bon (blit hb3 _) hb4))
    all_goals (
      gi_wp2_with fail
      have hbf := bon HB9.out hb5
      have hKf := (hbf.block D (Array.getElem?_eq_some_iff.1 HK.out).1).trans HK.out
      refine ⟨by simp, .inl ⟨_, _, rfl, run_takeDeferred (w := w4) hKf, ?_⟩⟩
      refine ⟨_, results_tmp rfl _ _ _, A4, n4, c4, rfl, ?_, ?_⟩
      · rw [HTAB.out]
        exact (hf4.mono (by have := hbf.size; have := HF.out.size; have := hb3.size; have := HB9.out.size; simp at *; omega)).nocells (grownBy_putObj' w4 D (.deferred none)) (fun r e => by cases e; exact ⟨_, hKf, rfl⟩)
      · have hbw : Below w.heap.size w w4 := by rw [hg]; exact HF.out.below.trans (hbf.mono (by have := HF.out.size; omega))
        exact hbw.trans (belowK_b (w := W0) (by omega) w4 D _ _ hD hKf rfl rfl))
end Go.Proofs.YtkdjjdkcogolmaaGreatDoor
