/-
  Contract: the blocks of a table, each in its frame.
-/
import Derived.Test.YtkdjjdkcogolmaaGreatDoorT5
namespace Go.Proofs.YtkdjjdkcogolmaaGreatDoor
set_option maxRecDepth 100000
open Go.RowKit Go.Shelf
set_option linter.unusedVariables false
attribute [local go_sem] Oper.semAt_some

def sbv (x : BkE) : Array Value := #[ik (lastE x.L).s (lastE x.L).q (lastE x.L).k, .slice x.A x.n x.c]
def XSb (x : BkE) (B : Nat) (W : World) : Prop := blkB x.L = true ∧ Fr W B 5 x.A x.n x.c (bv (bkL x.L))
/-- What a round keeps: what lay below n₀; and of what was laid since, all but rows of bytes. -/
structure KpT (n₀ N₀ : Nat) (W W' : World) : Prop where
  below : Below n₀ W W'
  same : ∀ (b : Nat) (o : Obj), N₀ ≤ b → W.heap[b]? = some o → (∀ vs fr, o ≠ .cells vs 5 fr) → W'.heap[b]? = some o
theorem KpT.trans {n₀ N₀ : Nat} {X Y Z : World} (h : KpT n₀ N₀ X Y) (k : KpT n₀ N₀ Y Z) : KpT n₀ N₀ X Z :=
  ⟨h.below.trans k.below, fun b o hb hX hne => k.same b o hb (h.same b o hb hX hne) hne⟩
theorem KpT.of {n₀ N₀ : Nat} {X Y : World} (hb : Below X.heap.size X Y) (hn : n₀ ≤ X.heap.size) : KpT n₀ N₀ X Y :=
  ⟨hb.mono hn, fun b o _ hX _ => (hb.block b (Array.getElem?_eq_some_iff.1 hX).1).trans hX⟩
theorem KpT.keeps {n₀ N₀ B : Nat} {X Y : World} (h : KpT n₀ N₀ X Y) (hB : N₀ ≤ B) : KeepsFrom B X Y :=
  ⟨h.below.size, fun k o hk hX hc => h.same k o (by omega) hX (fun vs fr e => by rw [e] at hc; cases hc)⟩
theorem KpT.box {n₀ N₀ B : Nat} {X Y : World} {t : TypeId} {v : Value} (h : KpT n₀ N₀ X Y) (hB : N₀ ≤ B) (ht : t ≠ 5) (hx : Boxed X B t v) : Boxed Y B t v :=
  h.same B _ hB hx (fun vs fr e => by cases e; exact ht rfl)

theorem keeps_up {B B' : Nat} {X Y : World} (h : KeepsFrom B X Y) (hB : B ≤ B') : KeepsFrom B' X Y := ⟨h.size, fun k o hk => h.same k o (by omega)⟩
theorem round_keeps {W W1 w3 w4 : World} {n₀ g : Nat} {u v : Value} (h1 : Boxed W1 (g + 1) 23 u) (h2 : Boxed W1 (g + 1 + 1) 3 v) (hb : Below W1.heap.size W1 w3) (hk : KpT n₀ W.heap.size w3 w4) (hn : n₀ ≤ g) (hs : g ≤ W1.heap.size) (hg : W.heap.size = g) :
    KeepsFrom g W1 w4 ∧ KpC n₀ (g + 1) W1 w4 ∧ True :=
  ⟨⟨Nat.le_trans hb.size hk.below.size, fun k o hB hX ho => (hk.keeps (Nat.le_refl _)).same k o (by omega) ((hb.block k (Array.getElem?_eq_some_iff.1 hX).1).trans hX) ho⟩,
   ⟨(hb.mono (by omega)).trans hk.below, fun _ => (show w4.heap[g + 1]? = _ from hk.box (by omega) (by decide) (boxed_below h1 hb)).trans (show W1.heap[g + 1]? = _ from h1).symm, fun _ => (show w4.heap[g + 1 + 1]? = _ from hk.box (by omega) (by decide) (boxed_below h2 hb)).trans (show W1.heap[g + 1 + 1]? = _ from h2).symm⟩, trivial⟩

set_option maxRecDepth 100000 in
set_option maxHeartbeats 1000000 in
theorem sealedBlocks_c {w : World} {A : Option Addr} {n c : Nat} :
    Calls Tryz.prog 48 #[.slice A n c] w fun e w' => e = .returned (.func (.func 71) #[] #[.pointer (some ⟨w.heap.size, 0, none⟩)]) ∧ w.alloc (.cells #[.slice A n c] 23) = w' := by
  go_enter Tryz.func48, Tryz.ntmps48
  go_wp2
  go_ret
  exact ⟨rfl, rfl⟩

set_option maxRecDepth 100000 in
set_option maxHeartbeats 8000000 in
theorem sealed1_in (lp Bn n₀ : Nat) {n c : Nat} {A : Option Addr} {L : List Ent} (hn : n ≤ 1000000000) (hb : tblB L = true) (J Jx : List BkE → World → Prop)
    (W : World) (hJ : OwnFrom W.heap.size J) (hJx : OwnFrom W.heap.size Jx)
    (hY : ∀ pre x W0 W1, J pre W0 → Below W0.heap.size W0 W1 → XSb x W0.heap.size W1 → pre.length < cntL L → YieldAt Fence.wide (8 - 1) Tryz.prog lp (sbv x) W1 fun e W' => (e = .returned (.bool true) ∧ J (pre ++ [x]) W' ∧ KpT n₀ W.heap.size W1 W') ∨ (e = .returned (.bool false) ∧ Jx (pre ++ [x]) W' ∧ KpT n₀ W.heap.size W1 W'))
    (hbx : Boxed W Bn 23 (.slice A n c)) (hd : RdE W n₀ A n c L) (hn₀ : n₀ ≤ W.heap.size) (h0 : J [] W) :
    CallsIn Fence.wide 8 Tryz.prog 71 #[.func (.yield lp) #[] #[], .pointer (some ⟨Bn, 0, none⟩)] W fun e W' => (∃ v, e = .returned v) ∧ ((∃ xs, lsE xs = chL L ∧ J xs W') ∨ (∃ pre, SpAny pre ∧ Jx pre W')) := by
  have HC := Lib.hid (fun (W : World) => (callsIn_wide (n := 8 - 1)).2 (chunk_c (w := W) (A := A) (n := n) (c := c)))
  have HY := Lib.hid hY
  have HD := Lib.hid hd
  have HN := Lib.hid hn
  have HB := Lib.hid hb
  have HN0 := Lib.hid hn₀
  have H0 := Lib.hid h0
  have HBX := Lib.hid hbx
  obtain ⟨g, hg⟩ : ∃ g, W.heap.size = g := ⟨_, rfl⟩
  have cb : (W.alloc (.cells #[.func (.yield lp) #[] #[]] 101)).cell? ⟨Bn, 0, none⟩ = some (.slice A n c) := (hbx.alloc _).cell
  clear hY hd hn hb hn₀ h0 hbx
  refine callsIn_of_wp_marks Tryz.func71 rfl trivial ?_ rfl
  simp only [Tryz.ntmps71, List.size_toArray, List.length_cons, List.length_nil, Nat.reduceAdd, Nat.reduceSub, Array.replicate_succ, Array.replicate_zero, List.push_toArray, List.append_toArray, List.nil_append, List.cons_append]
  gi_wp2_with fail
  refine ⟨trivial, (HC.out _).mono ?_⟩
  rintro e w1 ⟨rfl, rfl⟩
  gi_wp2_with fail
  obtain ⟨W0, hW0⟩ : ∃ W0, ((W.alloc (.cells #[.func (.yield lp) #[] #[]] 101)).alloc (.cells #[.slice A n c] 23)).alloc (.cells #[.int .i64 16] 3) = W0 := ⟨_, rfl⟩
  have hsz : W0.heap.size = g + 3 := by rw [← hW0]; simp; omega
  have hbl0 : Below W.heap.size W W0 := by rw [← hW0]; exact blit (blit (below_alloc W _) _) _
  have hB0 : Boxed W0 g 101 (.func (.yield lp) #[] #[]) := by rw [← hW0, ← hg]; exact ((Boxed.new W _ _).alloc _).alloc _
  have hB1 : Boxed W0 (g + 1) 23 (.slice A n c) := by
    rw [← hW0]
    have := Boxed.new (W.alloc (.cells #[.func (.yield lp) #[] #[]] 101)) 23 (.slice A n c)
    rw [World.size_alloc, hg] at this
    exact this.alloc _
  have hB2 : Boxed W0 (g + 1 + 1) 3 (.int .i64 16) := by
    rw [← hW0]
    have := Boxed.new ((W.alloc (.cells #[.func (.yield lp) #[] #[]] 101)).alloc (.cells #[.slice A n c] 23)) 3 (.int .i64 16)
    rw [World.size_alloc, World.size_alloc, hg] at this
    exact this
  have hseq : YieldsS Fence.wide (8 - 1) Tryz.prog 96 #[.pointer (some ⟨g + 1, 0, none⟩), .pointer (some ⟨g + 1 + 1, 0, none⟩)] bkv (KpC n₀ (g + 1)) (fun x _ => XCh n₀ L x) (fun xs => lsE xs = chL L) SpAny (cntL L) W0 :=
    fun lp2 J2 Jx2 W2 _ hW hJ2 hJx2 hY2 h02 => chunk1_in (8 - 1) (by omega) lp2 (g + 1) n₀ HN.out J2 Jx2 (fun hs hb => ofBelow hJ2 hs hb) (fun hs hb => ofBelow hJx2 hs hb) (fun pre x W1 a b c => (hY2 pre x W1 W1 a (Below.refl _ _) b c).mono (fun e w' h => h.elim .inl (fun h => .inr ⟨h.1, h.2.1⟩))) W2 ((hW.block _ hB1.lt).trans hB1) ((hW.block _ hB2.lt).trans hB2) ((HD.out.below hbl0 HN0.out).below hW (by have := HN0.out; omega)) (by have := hW.size; have := HN0.out; omega) h02
  have HST := Lib.hid (show ∃ q : List BkE, lsE q = lsE [] ∧ J q W0 ∧ (Boxed W0 g 101 (.func (.yield lp) #[] #[]) ∧ Boxed W0 (g + 1) 23 (.slice A n c) ∧ Boxed W0 (g + 1 + 1) 3 (.int .i64 16)) ∧ n₀ ≤ W0.heap.size from ⟨[], rfl, ofBelow hJ H0.out hbl0, ⟨hB0, hB1, hB2⟩, by have := HN0.out; omega⟩)
  rw [hW0]
  clear hB1 hB2 hW0 hB0 cb
  have hgn : n₀ ≤ g := by have := HN0.out; omega
  refine range_madeS rfl (by omega) (gf := 96) (lb := #[.pointer (some ⟨g + 1, 0, none⟩), .pointer (some ⟨g + 1 + 1, 0, none⟩)]) rfl trivial (enters_of Tryz.func96 (by kernel_rfl) rfl) hseq (fun h k => h.trans k)
    (fun W o o' ho hc => ⟨(Below.refl _ W).grown (grownBy_putObj' W _ o') (by have := (Array.getElem?_eq_some_iff.1 ho).1; omega) (fun k e => by cases e; omega), fun hb => World.putObj_heap_other (by omega), fun hb => World.putObj_heap_other (by omega)⟩) (fun _ => rfl)
    (fun p W => ∃ q : List BkE, lsE q = lsE p ∧ J q W ∧ (Boxed W g 101 (.func (.yield lp) #[] #[]) ∧ Boxed W (g + 1) 23 (.slice A n c) ∧ Boxed W (g + 1 + 1) 3 (.int .i64 16)) ∧ n₀ ≤ W.heap.size) (fun c0 p W => c0 = .ret ∧ ∃ q, Jx q W)
    (fun s X Y row ⟨q, h1, h2, h3, h4⟩ hg2 hr => ⟨q, h1, hJ q X Y row h2 hg2 (fun r e => by have := hr r e; exact ⟨by omega, this.2⟩), ⟨boxed_nocells h3.1 hg2 (fun r e => (hr r e).2), boxed_nocells h3.2.1 hg2 (fun r e => (hr r e).2), boxed_nocells h3.2.2 hg2 (fun r e => (hr r e).2)⟩, Nat.le_trans h4 hg2.size⟩)
    (fun c0 s X Y row ⟨h1, q, h2⟩ hg2 hr => ⟨h1, q, hJx q X Y row h2 hg2 (fun r e => by have := hr r e; exact ⟨by omega, this.2⟩)⟩) HST.out
    (fun x a' W => (XCh n₀ L x W ∧ n₀ ≤ W.heap.size) ∧ a' = { tmps := #[.func (.yield lp) #[] #[], .pointer (some ⟨Bn, 0, none⟩), .pointer (some ⟨g, 0, none⟩), .slice x.A x.n x.c, undef, undef, .slice A n c, .func (.func 96) #[] #[.pointer (some ⟨g + 1, 0, none⟩), .pointer (some ⟨g + 1 + 1, 0, none⟩)], .slice x.A x.n x.c, undef, undef, undef, undef, undef, undef, undef, undef, undef, undef, undef, undef, undef, undef, undef, undef, undef], defers := [] })
    (fun x a' s X Y row hs hg2 hr => ⟨⟨⟨hs.1.1.1, hs.1.1.2.keep (fun p hp => World.cell?_of_block (hg2.block p.block (by have := hs.1.2; omega) (fun e => by have := (hr p.block e.symm).1; omega)))⟩, Nat.le_trans hs.1.2 hg2.size⟩, hs.2⟩)
    ?assign ?body ?done ?stop
  case assign =>
    rintro lp2 pre ⟨L', A', n', c'⟩ _ W1 K _ hi _ hx hs hK
    have hk := hK { tmps := #[.func (.yield lp) #[] #[], .pointer (some ⟨Bn, 0, none⟩), .pointer (some ⟨g, 0, none⟩), .slice A' n' c', undef, undef, .slice A n c, .func (.func 96) #[] #[.pointer (some ⟨g + 1, 0, none⟩), .pointer (some ⟨g + 1 + 1, 0, none⟩)], .slice A' n' c', undef, undef, undef, undef, undef, undef, undef, undef, undef, undef, undef, undef, undef, undef, undef, undef, undef], defers := [] }
      W1 (KeepsFrom.refl _ _) ⟨Below.refl _ _, fun _ => rfl, fun _ => rfl⟩ hi ⟨⟨hx, hi.choose_spec.2.2.2⟩, rfl⟩
    have HK := Lib.hid hk
    clear hK hk hi hx
    unfold bkv
    (try dsimp only)
    gi_wp2
    exact HK.out
  case body =>
    rintro lp2 pre ⟨L', A', n', c'⟩ a' W1 ⟨q, hq1, hq2, hq3, hq4⟩ ⟨⟨⟨⟨j, hj, hj2⟩, hrd⟩, _⟩, rfl⟩ hlen hsW
    (try dsimp only at hrd hj2)
    obtain ⟨hblk, h16, h1⟩ := chN_blk HB.out hj
    rw [← hj2] at hblk h16 h1
    have hl := hrd.len
    obtain ⟨N, rfl⟩ : ∃ N, n' = N + 1 := ⟨n' - 1, by omega⟩
    obtain ⟨b, off, hA, hbB, hcell⟩ := hrd.form (by omega)
    subst hA
    obtain ⟨x, hxl⟩ : ∃ x, lastE L' = x := ⟨_, rfl⟩
    have hxat : L'[N]? = some x := by have := lastE_of h1; rw [hl] at this; rw [← hxl]; exact this
    obtain ⟨x0, x1, x2, _⟩ := hcell N x hxat
    have hbl : b < W1.heap.size := by omega
    have hgl : g < W1.heap.size := by omega
    have hni : ((N : Int) + 1) ≤ 70368744000000 := by omega
    have hN0 : (0 : Int) ≤ (N : Int) := by omega
    have hNl : (N : Int) < (N : Int) + 1 := by omega
    have hw1 : IntKind.i64.wrap (N : Int) = (N : Int) := wrapi _ (by omega) (by omega)
    have hw2 : IntKind.i64.wrap ((N : Int) + 1 - 1) = (N : Int) := by rw [show (N : Int) + 1 - 1 = (N : Int) by omega]; exact hw1
    have hc3 := hq3.1.cell
    have e1 : bldL L' = blkL L' := if_pos hblk
    have e2 : bldE L' = 0 := if_pos hblk
    have HBD0 := Lib.hid ((callsIn_wide (n := 6 - 1)).2 (build_c hrd hq4 (by omega)))
    rw [e1, e2] at HBD0
    have HBLK := Lib.hid hblk
    have HQ := Lib.hid (And.intro hq1 (And.intro hq2 (And.intro hq3 hq4)))
    have HLAST := Lib.hid hxl
    have HQL := Lib.hid (show q.length < cntL L by
      have h3 : (lsE q).length = q.length := by simp [lsE]
      have h4 : (lsE pre).length = pre.length := by simp [lsE]
      rw [hq1] at h3; omega)
    have HSW := Lib.hid hsW
    clear hcell hrd hj hj2 h16 h1 hl hblk hq1 hq2 hq3 hq4 hxl hxat hseq HST e1 e2 hlen hsW
    dsimp only
    gi_wp2_with fail
    refine ⟨trivial, (CallsIn.inRound lp2 HBD0.out).mono ?_⟩
    rintro e w2 ⟨A2, n2, c2, rfl, hf2, hb2⟩
    have hn2 : n2 ≤ 24000 := by have := hf2.len; rw [bv_length] at this; have := blkL_len HBLK.out; omega
    have c14 : w2.cell? ⟨g, 0, none⟩ = some (.func (.yield lp) #[] #[]) := (hb2.cell hgl).trans hc3
    have k0 := (hb2.cell hbl).trans x0
    have k1 := (hb2.cell hbl).trans x1
    have k2 := (hb2.cell hbl).trans x2
    have hgl2 : g < w2.heap.size := by have := hb2.size; omega
    have hbl2 : b < w2.heap.size := by have := hb2.size; omega
    have HS := Lib.hid ((callsIn_wide (n := 6 - 1)).2 (seal_c (hf2.drew.rd (Nat.le_refl _)) (Nat.le_refl _) (by omega)))
    have HBD := Lib.hid hb2
    clear hf2 hn2 x0 x1 x2 hc3 HBD0 hb2
    gi_wp2_with fail
    refine region_round (F := Fence.wide) (by kernel_rfl) (by kernel_rfl) rfl ?_
    have c14 : w2.drew.cell? ⟨g, 0, none⟩ = some (.func (.yield lp) #[] #[]) := c14
    have k0 : w2.drew.cell? ⟨b, off + N * 4, none⟩ = some (.string x.s) := k0
    have k1 : w2.drew.cell? ⟨b, off + N * 4 + 1, none⟩ = some (.int .u64 (x.q : Int)) := k1
    have k2 : w2.drew.cell? ⟨b, off + N * 4 + 2, none⟩ = some (.int .u8 (x.k : Int)) := k2
    have hgl : g < w2.drew.heap.size := hgl2
    have hbl : b < w2.drew.heap.size := hbl2
    clear hgl2 hbl2
    refine wpAnyIn_take (i := 1) (oi := { dst := some 15, op := Op.move (Operand.tmp 3), type := 23, pos := "table.go:121", after := #[], guard := none }) (v := ?v1) rfl rfl (by kernel_rfl) (by kernel_rfl) (by kernel_rfl) (fun _ _ _ h => h) ⟨Or.inl ⟨by rfl, ?hy1⟩, fun _ => rfl⟩ ?rest1
    case hy1 => (intro w; go_simp; try with_reducible rfl)
    try simp only [Act.put, List.setIfInBounds_toArray, List.set_cons_zero, List.set_cons_succ]
    refine wpAnyIn_take (i := 2) (oi := { dst := some 16, op := Op.move (Operand.tmp 3), type := 23, pos := "table.go:121", after := #[], guard := none }) (v := ?v2) rfl rfl (by kernel_rfl) (by kernel_rfl) (by kernel_rfl) (fun _ _ _ h => h) ⟨Or.inl ⟨by rfl, ?hy2⟩, fun _ => rfl⟩ ?rest2
    case hy2 => (intro w; go_simp; try with_reducible rfl)
    try simp only [Act.put, List.setIfInBounds_toArray, List.set_cons_zero, List.set_cons_succ]
    refine wpAnyIn_take (i := 3) (oi := { dst := some 17, op := Op.call { callee := Callee.builtin Builtin.len, args := #[Operand.tmp 16], argTypes := #[23] }, type := 3, pos := "table.go:121", after := #[{ on := 2, ground := Ground.data }], guard := none }) (v := ?v3) rfl rfl (by kernel_rfl) (by kernel_rfl) (by kernel_rfl) (fun _ _ _ h => h) ⟨Or.inl ⟨by rfl, ?hy3⟩, fun _ => rfl⟩ ?rest3
    case hy3 => (intro w; go_simp; try with_reducible rfl)
    try simp only [Act.put, List.setIfInBounds_toArray, List.set_cons_zero, List.set_cons_succ]
    refine wpAnyIn_take (i := 4) (oi := { dst := some 18, op := Op.binOp BinOp.sub 3 (Operand.tmp 17) (Operand.const (Value.int IntKind.i64 1)) 3, type := 3, pos := "table.go:121", after := #[{ on := 3, ground := Ground.data }], guard := none }) (v := ?v4) rfl rfl (by kernel_rfl) (by kernel_rfl) (by kernel_rfl) (fun _ _ _ h => h) ⟨Or.inl ⟨by rfl, ?hy4⟩, fun _ => rfl⟩ ?rest4
    case hy4 => (intro w; go_simp; try with_reducible rfl)
    try simp only [Act.put, List.setIfInBounds_toArray, List.set_cons_zero, List.set_cons_succ]
    refine wpAnyIn_take (i := 5) (oi := { dst := some 19, op := Op.indexAddr 23 (Operand.tmp 15) (Operand.tmp 18), type := 0, pos := "table.go:121", after := #[{ on := 1, ground := Ground.data }, { on := 4, ground := Ground.data }], guard := none }) (v := ?v5) rfl rfl (by kernel_rfl) (by kernel_rfl) (by kernel_rfl) (fun _ _ _ h => h) ⟨Or.inl ⟨by rfl, ?hy5⟩, fun _ => rfl⟩ ?rest5
    case hy5 => (intro w; go_simp; try with_reducible rfl)
    try simp only [Act.put, List.setIfInBounds_toArray, List.set_cons_zero, List.set_cons_succ]
    refine wpAnyIn_take (i := 6) (oi := { dst := some 20, op := Op.fieldAddr 40 (Operand.tmp 19) 0, type := 0, pos := "table.go:121", after := #[{ on := 5, ground := Ground.data }], guard := none }) (v := ?v6) rfl rfl (by kernel_rfl) (by kernel_rfl) (by kernel_rfl) (fun _ _ _ h => h) ⟨Or.inl ⟨by rfl, ?hy6⟩, fun _ => rfl⟩ ?rest6
    case hy6 => (intro w; go_simp; try with_reducible rfl)
    try simp only [Act.put, List.setIfInBounds_toArray, List.set_cons_zero, List.set_cons_succ]
    refine wpAnyIn_take (i := 8) (oi := { dst := some 22, op := Op.move (Operand.tmp 4), type := 24, pos := "table.go:121", after := #[], guard := none }) (v := ?v7) rfl rfl (by kernel_rfl) (by kernel_rfl) (by kernel_rfl) (fun _ _ _ h => h) ⟨Or.inl ⟨by rfl, ?hy7⟩, fun _ => rfl⟩ ?rest7
    case hy7 => (intro w; go_simp; try with_reducible rfl)
    try simp only [Act.put, List.setIfInBounds_toArray, List.set_cons_zero, List.set_cons_succ]
    refine wpAnyIn_ready (rs := [0, 7, 9]) (by kernel_rfl) (by simp) ?_
    refine (AllReadyIn.cons (o := { dst := some 14, op := Op.load 101 (Operand.tmp 2), type := 101, pos := "table.go:121", after := #[], guard := none }) rfl (fun K hK => ?w8x0) (AllReadyIn.cons (o := { dst := some 21, op := Op.load 26 (Operand.tmp 20), type := 26, pos := "table.go:121", after := #[{ on := 6, ground := Ground.data }], guard := none }) rfl (fun K hK => ?w8x7) (AllReadyIn.cons (o := { dst := some 23, op := Op.call { callee := Callee.value (Operand.func 52), args := #[Operand.tmp 22], argTypes := #[24] }, type := 24, pos := "table.go:121", after := #[{ on := 8, ground := Ground.data }], guard := none }) rfl (fun K hK => ?w8x9) AllReadyIn.nil)))
    case w8x0 =>
      go_simp
      (try (refine hK _ _ ?_))
      (try clear hK K)
      try simp only [Act.put, List.setIfInBounds_toArray, List.set_cons_zero, List.set_cons_succ]
      refine wpAnyIn_ready (rs := [7, 9]) (by kernel_rfl) (by simp) ?_
      refine (AllReadyIn.cons (o := { dst := some 21, op := Op.load 26 (Operand.tmp 20), type := 26, pos := "table.go:121", after := #[{ on := 6, ground := Ground.data }], guard := none }) rfl (fun K hK => ?w9x7) (AllReadyIn.cons (o := { dst := some 23, op := Op.call { callee := Callee.value (Operand.func 52), args := #[Operand.tmp 22], argTypes := #[24] }, type := 24, pos := "table.go:121", after := #[{ on := 8, ground := Ground.data }], guard := none }) rfl (fun K hK => ?w9x9) AllReadyIn.nil))
      case w9x7 =>
        go_simp
        (try (refine hK _ _ ?_))
        (try clear hK K)
        try simp only [Act.put, List.setIfInBounds_toArray, List.set_cons_zero, List.set_cons_succ]
        refine wpAnyIn_ready (rs := [9]) (by kernel_rfl) (by simp) ?_
        refine (AllReadyIn.cons (o := { dst := some 23, op := Op.call { callee := Callee.value (Operand.func 52), args := #[Operand.tmp 22], argTypes := #[24] }, type := 24, pos := "table.go:121", after := #[{ on := 8, ground := Ground.data }], guard := none }) rfl (fun K hK => ?w10x9) AllReadyIn.nil)
        case w10x9 =>
          go_simp
          gi_wp2_with fail
          refine ⟨trivial, HS.out.mono ?_⟩
          rintro e w3 ⟨A3, n3, c3, rfl, hf3, hb3⟩
          replace c14 := (hb3.cell hgl).trans c14
          replace k0 := (hb3.cell hbl).trans k0
          replace k1 := (hb3.cell hbl).trans k1
          replace k2 := (hb3.cell hbl).trans k2
          gi_wp2_with fail
          (try (refine hK _ _ ?_))
          (try clear hK K)
          try simp only [Act.put, List.setIfInBounds_toArray, List.set_cons_zero, List.set_cons_succ]
          have hbb : Below W1.heap.size W1 w3 := bon (below_drewN HBD.out 1) hb3
          have hx3 : XSb ⟨L', A3, n3, c3⟩ W1.heap.size w3 := ⟨HBLK.out, (hf3.mono HBD.out.size : Fr w3 W1.heap.size 5 A3 n3 c3 (bv (bkL L')))⟩
          obtain ⟨fn, tmps, assign, body, hy, hR⟩ := yieldAt_any (F := Fence.wide) rfl (6 - 1) (HY.out q ⟨L', A3, n3, c3⟩ W1 w3 HQ.out.2.1 hbb hx3 HQL.out)
          unfold sbv ik at hy
          dsimp only at hy
          rw [HLAST.out] at hy
          have HBB := Lib.hid hbb
          clear hf3 hx3 k0 k1 k2 c14 hb3 hbb
          refine wpAnyIn_ready (rs := [10]) (by kernel_rfl) (by simp) ?_
          refine (AllReadyIn.cons (o := { dst := some 24, op := Op.call { callee := Callee.value (Operand.tmp 14), args := #[Operand.tmp 21, Operand.tmp 23], argTypes := #[26, 24] }, type := 4, pos := "table.go:121", after := #[{ on := 0, ground := Ground.data }, { on := 7, ground := Ground.data }, { on := 9, ground := Ground.data }, { on := 9, ground := Ground.chain }], guard := none }) rfl (fun K hK => ?_) AllReadyIn.nil)
          go_simp
          gi_wp2_with fail
          refine hR.mono ?_
          rintro e w4 (⟨rfl, hJ4, hk4⟩ | ⟨rfl, hJx4, hk4⟩)
          · (try gi_wp2_with fail)
            (try (refine hK _ _ ?_))
            (try clear hK K)
            clear hy hR
            try simp only [Act.put, List.setIfInBounds_toArray, List.set_cons_zero, List.set_cons_succ]
            refine wpAnyIn_ready (rs := [11]) (by kernel_rfl) (by simp) ?_
            refine (AllReadyIn.cons (o := { dst := some 25, op := Op.unOp UnOp.not 4 (Operand.tmp 24), type := 4, pos := "table.go:121", after := #[{ on := 10, ground := Ground.data }], guard := none }) rfl (fun K hK => ?_) AllReadyIn.nil)
            go_simp
            (try (refine hK _ _ ?_))
            (try clear hK K)
            try simp only [Act.put, List.setIfInBounds_toArray, List.set_cons_zero, List.set_cons_succ]
            refine wpAnyIn_done (by kernel_rfl) ?_ _
            have HJ4 := Lib.hid hJ4
            have HK4 := Lib.hid hk4
            clear hJ4 hk4
            gi_wp2_with fail
            have hk5 := round_keeps HQ.out.2.2.1.2.1 HQ.out.2.2.1.2.2 HBB.out HK4.out hgn (by omega) hg
            exact ⟨keeps_up hk5.1 (by omega), hk5.2.1, q ++ [⟨L', A3, n3, c3⟩], by rw [lsE_snoc, lsE_snoc, HQ.out.1], HJ4.out, ⟨HK4.out.box (by omega) (by decide) (boxed_below HQ.out.2.2.1.1 HBB.out), HK4.out.box (by omega) (by decide) (boxed_below HQ.out.2.2.1.2.1 HBB.out), HK4.out.box (by omega) (by decide) (boxed_below HQ.out.2.2.1.2.2 HBB.out)⟩, Nat.le_trans HQ.out.2.2.2 (Nat.le_trans HBB.out.size HK4.out.below.size)⟩
          · (try gi_wp2_with fail)
            (try (refine hK _ _ ?_))
            (try clear hK K)
            clear hy hR
            try simp only [Act.put, List.setIfInBounds_toArray, List.set_cons_zero, List.set_cons_succ]
            refine wpAnyIn_ready (rs := [11]) (by kernel_rfl) (by simp) ?_
            refine (AllReadyIn.cons (o := { dst := some 25, op := Op.unOp UnOp.not 4 (Operand.tmp 24), type := 4, pos := "table.go:121", after := #[{ on := 10, ground := Ground.data }], guard := none }) rfl (fun K hK => ?_) AllReadyIn.nil)
            go_simp
            (try (refine hK _ _ ?_))
            (try clear hK K)
            try simp only [Act.put, List.setIfInBounds_toArray, List.set_cons_zero, List.set_cons_succ]
            refine wpAnyIn_done (by kernel_rfl) ?_ _
            have HJ4 := Lib.hid hJx4
            have HK4 := Lib.hid hk4
            clear hJx4 hk4
            gi_wp2_with fail
            have hk5 := round_keeps HQ.out.2.2.1.2.1 HQ.out.2.2.1.2.2 HBB.out HK4.out hgn (by omega) hg
            exact ⟨keeps_up hk5.1 (by omega), hk5.2.1, rfl, _, HJ4.out⟩


      case w9x9 =>
        go_simp
        gi_wp2_with fail
        refine ⟨trivial, HS.out.mono ?_⟩
        rintro e w3 ⟨A3, n3, c3, rfl, hf3, hb3⟩
        replace c14 := (hb3.cell hgl).trans c14
        replace k0 := (hb3.cell hbl).trans k0
        replace k1 := (hb3.cell hbl).trans k1
        replace k2 := (hb3.cell hbl).trans k2
        gi_wp2_with fail
        (try (refine hK _ _ ?_))
        (try clear hK K)
        try simp only [Act.put, List.setIfInBounds_toArray, List.set_cons_zero, List.set_cons_succ]
        refine wpAnyIn_ready (rs := [7]) (by kernel_rfl) (by simp) ?_
        refine (AllReadyIn.cons (o := { dst := some 21, op := Op.load 26 (Operand.tmp 20), type := 26, pos := "table.go:121", after := #[{ on := 6, ground := Ground.data }], guard := none }) rfl (fun K hK => ?w11x7) AllReadyIn.nil)
        case w11x7 =>
          go_simp
          (try (refine hK _ _ ?_))
          (try clear hK K)
          try simp only [Act.put, List.setIfInBounds_toArray, List.set_cons_zero, List.set_cons_succ]
          have hbb : Below W1.heap.size W1 w3 := bon (below_drewN HBD.out 1) hb3
          have hx3 : XSb ⟨L', A3, n3, c3⟩ W1.heap.size w3 := ⟨HBLK.out, (hf3.mono HBD.out.size : Fr w3 W1.heap.size 5 A3 n3 c3 (bv (bkL L')))⟩
          obtain ⟨fn, tmps, assign, body, hy, hR⟩ := yieldAt_any (F := Fence.wide) rfl (6 - 1) (HY.out q ⟨L', A3, n3, c3⟩ W1 w3 HQ.out.2.1 hbb hx3 HQL.out)
          unfold sbv ik at hy
          dsimp only at hy
          rw [HLAST.out] at hy
          have HBB := Lib.hid hbb
          clear hf3 hx3 k0 k1 k2 c14 hb3 hbb
          refine wpAnyIn_ready (rs := [10]) (by kernel_rfl) (by simp) ?_
          refine (AllReadyIn.cons (o := { dst := some 24, op := Op.call { callee := Callee.value (Operand.tmp 14), args := #[Operand.tmp 21, Operand.tmp 23], argTypes := #[26, 24] }, type := 4, pos := "table.go:121", after := #[{ on := 0, ground := Ground.data }, { on := 7, ground := Ground.data }, { on := 9, ground := Ground.data }, { on := 9, ground := Ground.chain }], guard := none }) rfl (fun K hK => ?_) AllReadyIn.nil)
          go_simp
          gi_wp2_with fail
          refine hR.mono ?_
          rintro e w4 (⟨rfl, hJ4, hk4⟩ | ⟨rfl, hJx4, hk4⟩)
          · (try gi_wp2_with fail)
            (try (refine hK _ _ ?_))
            (try clear hK K)
            clear hy hR
            try simp only [Act.put, List.setIfInBounds_toArray, List.set_cons_zero, List.set_cons_succ]
            refine wpAnyIn_ready (rs := [11]) (by kernel_rfl) (by simp) ?_
            refine (AllReadyIn.cons (o := { dst := some 25, op := Op.unOp UnOp.not 4 (Operand.tmp 24), type := 4, pos := "table.go:121", after := #[{ on := 10, ground := Ground.data }], guard := none }) rfl (fun K hK => ?_) AllReadyIn.nil)
            go_simp
            (try (refine hK _ _ ?_))
            (try clear hK K)
            try simp only [Act.put, List.setIfInBounds_toArray, List.set_cons_zero, List.set_cons_succ]
            refine wpAnyIn_done (by kernel_rfl) ?_ _
            have HJ4 := Lib.hid hJ4
            have HK4 := Lib.hid hk4
            clear hJ4 hk4
            gi_wp2_with fail
            have hk5 := round_keeps HQ.out.2.2.1.2.1 HQ.out.2.2.1.2.2 HBB.out HK4.out hgn (by omega) hg
            exact ⟨keeps_up hk5.1 (by omega), hk5.2.1, q ++ [⟨L', A3, n3, c3⟩], by rw [lsE_snoc, lsE_snoc, HQ.out.1], HJ4.out, ⟨HK4.out.box (by omega) (by decide) (boxed_below HQ.out.2.2.1.1 HBB.out), HK4.out.box (by omega) (by decide) (boxed_below HQ.out.2.2.1.2.1 HBB.out), HK4.out.box (by omega) (by decide) (boxed_below HQ.out.2.2.1.2.2 HBB.out)⟩, Nat.le_trans HQ.out.2.2.2 (Nat.le_trans HBB.out.size HK4.out.below.size)⟩
          · (try gi_wp2_with fail)
            (try (refine hK _ _ ?_))
            (try clear hK K)
            clear hy hR
            try simp only [Act.put, List.setIfInBounds_toArray, List.set_cons_zero, List.set_cons_succ]
            refine wpAnyIn_ready (rs := [11]) (by kernel_rfl) (by simp) ?_
            refine (AllReadyIn.cons (o := { dst := some 25, op := Op.unOp UnOp.not 4 (Operand.tmp 24), type := 4, pos := "table.go:121", after := #[{ on := 10, ground := Ground.data }], guard := none }) rfl (fun K hK => ?_) AllReadyIn.nil)
            go_simp
            (try (refine hK _ _ ?_))
            (try clear hK K)
            try simp only [Act.put, List.setIfInBounds_toArray, List.set_cons_zero, List.set_cons_succ]
            refine wpAnyIn_done (by kernel_rfl) ?_ _
            have HJ4 := Lib.hid hJx4
            have HK4 := Lib.hid hk4
            clear hJx4 hk4
            gi_wp2_with fail
            have hk5 := round_keeps HQ.out.2.2.1.2.1 HQ.out.2.2.1.2.2 HBB.out HK4.out hgn (by omega) hg
            exact ⟨keeps_up hk5.1 (by omega), hk5.2.1, rfl, _, HJ4.out⟩



    case w8x7 =>
      go_simp
      (try (refine hK _ _ ?_))
      (try clear hK K)
      try simp only [Act.put, List.setIfInBounds_toArray, List.set_cons_zero, List.set_cons_succ]
      refine wpAnyIn_ready (rs := [0, 9]) (by kernel_rfl) (by simp) ?_
      refine (AllReadyIn.cons (o := { dst := some 14, op := Op.load 101 (Operand.tmp 2), type := 101, pos := "table.go:121", after := #[], guard := none }) rfl (fun K hK => ?w12x0) (AllReadyIn.cons (o := { dst := some 23, op := Op.call { callee := Callee.value (Operand.func 52), args := #[Operand.tmp 22], argTypes := #[24] }, type := 24, pos := "table.go:121", after := #[{ on := 8, ground := Ground.data }], guard := none }) rfl (fun K hK => ?w12x9) AllReadyIn.nil))
      case w12x0 =>
        go_simp
        (try (refine hK _ _ ?_))
        (try clear hK K)
        try simp only [Act.put, List.setIfInBounds_toArray, List.set_cons_zero, List.set_cons_succ]
        refine wpAnyIn_ready (rs := [9]) (by kernel_rfl) (by simp) ?_
        refine (AllReadyIn.cons (o := { dst := some 23, op := Op.call { callee := Callee.value (Operand.func 52), args := #[Operand.tmp 22], argTypes := #[24] }, type := 24, pos := "table.go:121", after := #[{ on := 8, ground := Ground.data }], guard := none }) rfl (fun K hK => ?w13x9) AllReadyIn.nil)
        case w13x9 =>
          go_simp
          gi_wp2_with fail
          refine ⟨trivial, HS.out.mono ?_⟩
          rintro e w3 ⟨A3, n3, c3, rfl, hf3, hb3⟩
          replace c14 := (hb3.cell hgl).trans c14
          replace k0 := (hb3.cell hbl).trans k0
          replace k1 := (hb3.cell hbl).trans k1
          replace k2 := (hb3.cell hbl).trans k2
          gi_wp2_with fail
          (try (refine hK _ _ ?_))
          (try clear hK K)
          try simp only [Act.put, List.setIfInBounds_toArray, List.set_cons_zero, List.set_cons_succ]
          have hbb : Below W1.heap.size W1 w3 := bon (below_drewN HBD.out 1) hb3
          have hx3 : XSb ⟨L', A3, n3, c3⟩ W1.heap.size w3 := ⟨HBLK.out, (hf3.mono HBD.out.size : Fr w3 W1.heap.size 5 A3 n3 c3 (bv (bkL L')))⟩
          obtain ⟨fn, tmps, assign, body, hy, hR⟩ := yieldAt_any (F := Fence.wide) rfl (6 - 1) (HY.out q ⟨L', A3, n3, c3⟩ W1 w3 HQ.out.2.1 hbb hx3 HQL.out)
          unfold sbv ik at hy
          dsimp only at hy
          rw [HLAST.out] at hy
          have HBB := Lib.hid hbb
          clear hf3 hx3 k0 k1 k2 c14 hb3 hbb
          refine wpAnyIn_ready (rs := [10]) (by kernel_rfl) (by simp) ?_
          refine (AllReadyIn.cons (o := { dst := some 24, op := Op.call { callee := Callee.value (Operand.tmp 14), args := #[Operand.tmp 21, Operand.tmp 23], argTypes := #[26, 24] }, type := 4, pos := "table.go:121", after := #[{ on := 0, ground := Ground.data }, { on := 7, ground := Ground.data }, { on := 9, ground := Ground.data }, { on := 9, ground := Ground.chain }], guard := none }) rfl (fun K hK => ?_) AllReadyIn.nil)
          go_simp
          gi_wp2_with fail
          refine hR.mono ?_
          rintro e w4 (⟨rfl, hJ4, hk4⟩ | ⟨rfl, hJx4, hk4⟩)
          · (try gi_wp2_with fail)
            (try (refine hK _ _ ?_))
            (try clear hK K)
            clear hy hR
            try simp only [Act.put, List.setIfInBounds_toArray, List.set_cons_zero, List.set_cons_succ]
            refine wpAnyIn_ready (rs := [11]) (by kernel_rfl) (by simp) ?_
            refine (AllReadyIn.cons (o := { dst := some 25, op := Op.unOp UnOp.not 4 (Operand.tmp 24), type := 4, pos := "table.go:121", after := #[{ on := 10, ground := Ground.data }], guard := none }) rfl (fun K hK => ?_) AllReadyIn.nil)
            go_simp
            (try (refine hK _ _ ?_))
            (try clear hK K)
            try simp only [Act.put, List.setIfInBounds_toArray, List.set_cons_zero, List.set_cons_succ]
            refine wpAnyIn_done (by kernel_rfl) ?_ _
            have HJ4 := Lib.hid hJ4
            have HK4 := Lib.hid hk4
            clear hJ4 hk4
            gi_wp2_with fail
            have hk5 := round_keeps HQ.out.2.2.1.2.1 HQ.out.2.2.1.2.2 HBB.out HK4.out hgn (by omega) hg
            exact ⟨keeps_up hk5.1 (by omega), hk5.2.1, q ++ [⟨L', A3, n3, c3⟩], by rw [lsE_snoc, lsE_snoc, HQ.out.1], HJ4.out, ⟨HK4.out.box (by omega) (by decide) (boxed_below HQ.out.2.2.1.1 HBB.out), HK4.out.box (by omega) (by decide) (boxed_below HQ.out.2.2.1.2.1 HBB.out), HK4.out.box (by omega) (by decide) (boxed_below HQ.out.2.2.1.2.2 HBB.out)⟩, Nat.le_trans HQ.out.2.2.2 (Nat.le_trans HBB.out.size HK4.out.below.size)⟩
          · (try gi_wp2_with fail)
            (try (refine hK _ _ ?_))
            (try clear hK K)
            clear hy hR
            try simp only [Act.put, List.setIfInBounds_toArray, List.set_cons_zero, List.set_cons_succ]
            refine wpAnyIn_ready (rs := [11]) (by kernel_rfl) (by simp) ?_
            refine (AllReadyIn.cons (o := { dst := some 25, op := Op.unOp UnOp.not 4 (Operand.tmp 24), type := 4, pos := "table.go:121", after := #[{ on := 10, ground := Ground.data }], guard := none }) rfl (fun K hK => ?_) AllReadyIn.nil)
            go_simp
            (try (refine hK _ _ ?_))
            (try clear hK K)
            try simp only [Act.put, List.setIfInBounds_toArray, List.set_cons_zero, List.set_cons_succ]
            refine wpAnyIn_done (by kernel_rfl) ?_ _
            have HJ4 := Lib.hid hJx4
            have HK4 := Lib.hid hk4
            clear hJx4 hk4
            gi_wp2_with fail
            have hk5 := round_keeps HQ.out.2.2.1.2.1 HQ.out.2.2.1.2.2 HBB.out HK4.out hgn (by omega) hg
            exact ⟨keeps_up hk5.1 (by omega), hk5.2.1, rfl, _, HJ4.out⟩


      case w12x9 =>
        go_simp
        gi_wp2_with fail
        refine ⟨trivial, HS.out.mono ?_⟩
        rintro e w3 ⟨A3, n3, c3, rfl, hf3, hb3⟩
        replace c14 := (hb3.cell hgl).trans c14
        replace k0 := (hb3.cell hbl).trans k0
        replace k1 := (hb3.cell hbl).trans k1
        replace k2 := (hb3.cell hbl).trans k2
        gi_wp2_with fail
        (try (refine hK _ _ ?_))
        (try clear hK K)
        try simp only [Act.put, List.setIfInBounds_toArray, List.set_cons_zero, List.set_cons_succ]
        refine wpAnyIn_ready (rs := [0]) (by kernel_rfl) (by simp) ?_
        refine (AllReadyIn.cons (o := { dst := some 14, op := Op.load 101 (Operand.tmp 2), type := 101, pos := "table.go:121", after := #[], guard := none }) rfl (fun K hK => ?w14x0) AllReadyIn.nil)
        case w14x0 =>
          go_simp
          (try (refine hK _ _ ?_))
          (try clear hK K)
          try simp only [Act.put, List.setIfInBounds_toArray, List.set_cons_zero, List.set_cons_succ]
          have hbb : Below W1.heap.size W1 w3 := bon (below_drewN HBD.out 1) hb3
          have hx3 : XSb ⟨L', A3, n3, c3⟩ W1.heap.size w3 := ⟨HBLK.out, (hf3.mono HBD.out.size : Fr w3 W1.heap.size 5 A3 n3 c3 (bv (bkL L')))⟩
          obtain ⟨fn, tmps, assign, body, hy, hR⟩ := yieldAt_any (F := Fence.wide) rfl (6 - 1) (HY.out q ⟨L', A3, n3, c3⟩ W1 w3 HQ.out.2.1 hbb hx3 HQL.out)
          unfold sbv ik at hy
          dsimp only at hy
          rw [HLAST.out] at hy
          have HBB := Lib.hid hbb
          clear hf3 hx3 k0 k1 k2 c14 hb3 hbb
          refine wpAnyIn_ready (rs := [10]) (by kernel_rfl) (by simp) ?_
          refine (AllReadyIn.cons (o := { dst := some 24, op := Op.call { callee := Callee.value (Operand.tmp 14), args := #[Operand.tmp 21, Operand.tmp 23], argTypes := #[26, 24] }, type := 4, pos := "table.go:121", after := #[{ on := 0, ground := Ground.data }, { on := 7, ground := Ground.data }, { on := 9, ground := Ground.data }, { on := 9, ground := Ground.chain }], guard := none }) rfl (fun K hK => ?_) AllReadyIn.nil)
          go_simp
          gi_wp2_with fail
          refine hR.mono ?_
          rintro e w4 (⟨rfl, hJ4, hk4⟩ | ⟨rfl, hJx4, hk4⟩)
          · (try gi_wp2_with fail)
            (try (refine hK _ _ ?_))
            (try clear hK K)
            clear hy hR
            try simp only [Act.put, List.setIfInBounds_toArray, List.set_cons_zero, List.set_cons_succ]
            refine wpAnyIn_ready (rs := [11]) (by kernel_rfl) (by simp) ?_
            refine (AllReadyIn.cons (o := { dst := some 25, op := Op.unOp UnOp.not 4 (Operand.tmp 24), type := 4, pos := "table.go:121", after := #[{ on := 10, ground := Ground.data }], guard := none }) rfl (fun K hK => ?_) AllReadyIn.nil)
            go_simp
            (try (refine hK _ _ ?_))
            (try clear hK K)
            try simp only [Act.put, List.setIfInBounds_toArray, List.set_cons_zero, List.set_cons_succ]
            refine wpAnyIn_done (by kernel_rfl) ?_ _
            have HJ4 := Lib.hid hJ4
            have HK4 := Lib.hid hk4
            clear hJ4 hk4
            gi_wp2_with fail
            have hk5 := round_keeps HQ.out.2.2.1.2.1 HQ.out.2.2.1.2.2 HBB.out HK4.out hgn (by omega) hg
            exact ⟨keeps_up hk5.1 (by omega), hk5.2.1, q ++ [⟨L', A3, n3, c3⟩], by rw [lsE_snoc, lsE_snoc, HQ.out.1], HJ4.out, ⟨HK4.out.box (by omega) (by decide) (boxed_below HQ.out.2.2.1.1 HBB.out), HK4.out.box (by omega) (by decide) (boxed_below HQ.out.2.2.1.2.1 HBB.out), HK4.out.box (by omega) (by decide) (boxed_below HQ.out.2.2.1.2.2 HBB.out)⟩, Nat.le_trans HQ.out.2.2.2 (Nat.le_trans HBB.out.size HK4.out.below.size)⟩
          · (try gi_wp2_with fail)
            (try (refine hK _ _ ?_))
            (try clear hK K)
            clear hy hR
            try simp only [Act.put, List.setIfInBounds_toArray, List.set_cons_zero, List.set_cons_succ]
            refine wpAnyIn_ready (rs := [11]) (by kernel_rfl) (by simp) ?_
            refine (AllReadyIn.cons (o := { dst := some 25, op := Op.unOp UnOp.not 4 (Operand.tmp 24), type := 4, pos := "table.go:121", after := #[{ on := 10, ground := Ground.data }], guard := none }) rfl (fun K hK => ?_) AllReadyIn.nil)
            go_simp
            (try (refine hK _ _ ?_))
            (try clear hK K)
            try simp only [Act.put, List.setIfInBounds_toArray, List.set_cons_zero, List.set_cons_succ]
            refine wpAnyIn_done (by kernel_rfl) ?_ _
            have HJ4 := Lib.hid hJx4
            have HK4 := Lib.hid hk4
            clear hJx4 hk4
            gi_wp2_with fail
            have hk5 := round_keeps HQ.out.2.2.1.2.1 HQ.out.2.2.1.2.2 HBB.out HK4.out hgn (by omega) hg
            exact ⟨keeps_up hk5.1 (by omega), hk5.2.1, rfl, _, HJ4.out⟩



    case w8x9 =>
      go_simp
      gi_wp2_with fail
      refine ⟨trivial, HS.out.mono ?_⟩
      rintro e w3 ⟨A3, n3, c3, rfl, hf3, hb3⟩
      replace c14 := (hb3.cell hgl).trans c14
      replace k0 := (hb3.cell hbl).trans k0
      replace k1 := (hb3.cell hbl).trans k1
      replace k2 := (hb3.cell hbl).trans k2
      gi_wp2_with fail
      (try (refine hK _ _ ?_))
      (try clear hK K)
      try simp only [Act.put, List.setIfInBounds_toArray, List.set_cons_zero, List.set_cons_succ]
      refine wpAnyIn_ready (rs := [0, 7]) (by kernel_rfl) (by simp) ?_
      refine (AllReadyIn.cons (o := { dst := some 14, op := Op.load 101 (Operand.tmp 2), type := 101, pos := "table.go:121", after := #[], guard := none }) rfl (fun K hK => ?w15x0) (AllReadyIn.cons (o := { dst := some 21, op := Op.load 26 (Operand.tmp 20), type := 26, pos := "table.go:121", after := #[{ on := 6, ground := Ground.data }], guard := none }) rfl (fun K hK => ?w15x7) AllReadyIn.nil))
      case w15x0 =>
        go_simp
        (try (refine hK _ _ ?_))
        (try clear hK K)
        try simp only [Act.put, List.setIfInBounds_toArray, List.set_cons_zero, List.set_cons_succ]
        refine wpAnyIn_ready (rs := [7]) (by kernel_rfl) (by simp) ?_
        refine (AllReadyIn.cons (o := { dst := some 21, op := Op.load 26 (Operand.tmp 20), type := 26, pos := "table.go:121", after := #[{ on := 6, ground := Ground.data }], guard := none }) rfl (fun K hK => ?w16x7) AllReadyIn.nil)
        case w16x7 =>
          go_simp
          (try (refine hK _ _ ?_))
          (try clear hK K)
          try simp only [Act.put, List.setIfInBounds_toArray, List.set_cons_zero, List.set_cons_succ]
          have hbb : Below W1.heap.size W1 w3 := bon (below_drewN HBD.out 1) hb3
          have hx3 : XSb ⟨L', A3, n3, c3⟩ W1.heap.size w3 := ⟨HBLK.out, (hf3.mono HBD.out.size : Fr w3 W1.heap.size 5 A3 n3 c3 (bv (bkL L')))⟩
          obtain ⟨fn, tmps, assign, body, hy, hR⟩ := yieldAt_any (F := Fence.wide) rfl (6 - 1) (HY.out q ⟨L', A3, n3, c3⟩ W1 w3 HQ.out.2.1 hbb hx3 HQL.out)
          unfold sbv ik at hy
          dsimp only at hy
          rw [HLAST.out] at hy
          have HBB := Lib.hid hbb
          clear hf3 hx3 k0 k1 k2 c14 hb3 hbb
          refine wpAnyIn_ready (rs := [10]) (by kernel_rfl) (by simp) ?_
          refine (AllReadyIn.cons (o := { dst := some 24, op := Op.call { callee := Callee.value (Operand.tmp 14), args := #[Operand.tmp 21, Operand.tmp 23], argTypes := #[26, 24] }, type := 4, pos := "table.go:121", after := #[{ on := 0, ground := Ground.data }, { on := 7, ground := Ground.data }, { on := 9, ground := Ground.data }, { on := 9, ground := Ground.chain }], guard := none }) rfl (fun K hK => ?_) AllReadyIn.nil)
          go_simp
          gi_wp2_with fail
          refine hR.mono ?_
          rintro e w4 (⟨rfl, hJ4, hk4⟩ | ⟨rfl, hJx4, hk4⟩)
          · (try gi_wp2_with fail)
            (try (refine hK _ _ ?_))
            (try clear hK K)
            clear hy hR
            try simp only [Act.put, List.setIfInBounds_toArray, List.set_cons_zero, List.set_cons_succ]
            refine wpAnyIn_ready (rs := [11]) (by kernel_rfl) (by simp) ?_
            refine (AllReadyIn.cons (o := { dst := some 25, op := Op.unOp UnOp.not 4 (Operand.tmp 24), type := 4, pos := "table.go:121", after := #[{ on := 10, ground := Ground.data }], guard := none }) rfl (fun K hK => ?_) AllReadyIn.nil)
            go_simp
            (try (refine hK _ _ ?_))
            (try clear hK K)
            try simp only [Act.put, List.setIfInBounds_toArray, List.set_cons_zero, List.set_cons_succ]
            refine wpAnyIn_done (by kernel_rfl) ?_ _
            have HJ4 := Lib.hid hJ4
            have HK4 := Lib.hid hk4
            clear hJ4 hk4
            gi_wp2_with fail
            have hk5 := round_keeps HQ.out.2.2.1.2.1 HQ.out.2.2.1.2.2 HBB.out HK4.out hgn (by omega) hg
            exact ⟨keeps_up hk5.1 (by omega), hk5.2.1, q ++ [⟨L', A3, n3, c3⟩], by rw [lsE_snoc, lsE_snoc, HQ.out.1], HJ4.out, ⟨HK4.out.box (by omega) (by decide) (boxed_below HQ.out.2.2.1.1 HBB.out), HK4.out.box (by omega) (by decide) (boxed_below HQ.out.2.2.1.2.1 HBB.out), HK4.out.box (by omega) (by decide) (boxed_below HQ.out.2.2.1.2.2 HBB.out)⟩, Nat.le_trans HQ.out.2.2.2 (Nat.le_trans HBB.out.size HK4.out.below.size)⟩
          · (try gi_wp2_with fail)
            (try (refine hK _ _ ?_))
            (try clear hK K)
            clear hy hR
            try simp only [Act.put, List.setIfInBounds_toArray, List.set_cons_zero, List.set_cons_succ]
            refine wpAnyIn_ready (rs := [11]) (by kernel_rfl) (by simp) ?_
            refine (AllReadyIn.cons (o := { dst := some 25, op := Op.unOp UnOp.not 4 (Operand.tmp 24), type := 4, pos := "table.go:121", after := #[{ on := 10, ground := Ground.data }], guard := none }) rfl (fun K hK => ?_) AllReadyIn.nil)
            go_simp
            (try (refine hK _ _ ?_))
            (try clear hK K)
            try simp only [Act.put, List.setIfInBounds_toArray, List.set_cons_zero, List.set_cons_succ]
            refine wpAnyIn_done (by kernel_rfl) ?_ _
            have HJ4 := Lib.hid hJx4
            have HK4 := Lib.hid hk4
            clear hJx4 hk4
            gi_wp2_with fail
            have hk5 := round_keeps HQ.out.2.2.1.2.1 HQ.out.2.2.1.2.2 HBB.out HK4.out hgn (by omega) hg
            exact ⟨keeps_up hk5.1 (by omega), hk5.2.1, rfl, _, HJ4.out⟩


      case w15x7 =>
        go_simp
        (try (refine hK _ _ ?_))
        (try clear hK K)
        try simp only [Act.put, List.setIfInBounds_toArray, List.set_cons_zero, List.set_cons_succ]
        refine wpAnyIn_ready (rs := [0]) (by kernel_rfl) (by simp) ?_
        refine (AllReadyIn.cons (o := { dst := some 14, op := Op.load 101 (Operand.tmp 2), type := 101, pos := "table.go:121", after := #[], guard := none }) rfl (fun K hK => ?w17x0) AllReadyIn.nil)
        case w17x0 =>
          go_simp
          (try (refine hK _ _ ?_))
          (try clear hK K)
          try simp only [Act.put, List.setIfInBounds_toArray, List.set_cons_zero, List.set_cons_succ]
          have hbb : Below W1.heap.size W1 w3 := bon (below_drewN HBD.out 1) hb3
          have hx3 : XSb ⟨L', A3, n3, c3⟩ W1.heap.size w3 := ⟨HBLK.out, (hf3.mono HBD.out.size : Fr w3 W1.heap.size 5 A3 n3 c3 (bv (bkL L')))⟩
          obtain ⟨fn, tmps, assign, body, hy, hR⟩ := yieldAt_any (F := Fence.wide) rfl (6 - 1) (HY.out q ⟨L', A3, n3, c3⟩ W1 w3 HQ.out.2.1 hbb hx3 HQL.out)
          unfold sbv ik at hy
          dsimp only at hy
          rw [HLAST.out] at hy
          have HBB := Lib.hid hbb
          clear hf3 hx3 k0 k1 k2 c14 hb3 hbb
          refine wpAnyIn_ready (rs := [10]) (by kernel_rfl) (by simp) ?_
          refine (AllReadyIn.cons (o := { dst := some 24, op := Op.call { callee := Callee.value (Operand.tmp 14), args := #[Operand.tmp 21, Operand.tmp 23], argTypes := #[26, 24] }, type := 4, pos := "table.go:121", after := #[{ on := 0, ground := Ground.data }, { on := 7, ground := Ground.data }, { on := 9, ground := Ground.data }, { on := 9, ground := Ground.chain }], guard := none }) rfl (fun K hK => ?_) AllReadyIn.nil)
          go_simp
          gi_wp2_with fail
          refine hR.mono ?_
          rintro e w4 (⟨rfl, hJ4, hk4⟩ | ⟨rfl, hJx4, hk4⟩)
          · (try gi_wp2_with fail)
            (try (refine hK _ _ ?_))
            (try clear hK K)
            clear hy hR
            try simp only [Act.put, List.setIfInBounds_toArray, List.set_cons_zero, List.set_cons_succ]
            refine wpAnyIn_ready (rs := [11]) (by kernel_rfl) (by simp) ?_
            refine (AllReadyIn.cons (o := { dst := some 25, op := Op.unOp UnOp.not 4 (Operand.tmp 24), type := 4, pos := "table.go:121", after := #[{ on := 10, ground := Ground.data }], guard := none }) rfl (fun K hK => ?_) AllReadyIn.nil)
            go_simp
            (try (refine hK _ _ ?_))
            (try clear hK K)
            try simp only [Act.put, List.setIfInBounds_toArray, List.set_cons_zero, List.set_cons_succ]
            refine wpAnyIn_done (by kernel_rfl) ?_ _
            have HJ4 := Lib.hid hJ4
            have HK4 := Lib.hid hk4
            clear hJ4 hk4
            gi_wp2_with fail
            have hk5 := round_keeps HQ.out.2.2.1.2.1 HQ.out.2.2.1.2.2 HBB.out HK4.out hgn (by omega) hg
            exact ⟨keeps_up hk5.1 (by omega), hk5.2.1, q ++ [⟨L', A3, n3, c3⟩], by rw [lsE_snoc, lsE_snoc, HQ.out.1], HJ4.out, ⟨HK4.out.box (by omega) (by decide) (boxed_below HQ.out.2.2.1.1 HBB.out), HK4.out.box (by omega) (by decide) (boxed_below HQ.out.2.2.1.2.1 HBB.out), HK4.out.box (by omega) (by decide) (boxed_below HQ.out.2.2.1.2.2 HBB.out)⟩, Nat.le_trans HQ.out.2.2.2 (Nat.le_trans HBB.out.size HK4.out.below.size)⟩
          · (try gi_wp2_with fail)
            (try (refine hK _ _ ?_))
            (try clear hK K)
            clear hy hR
            try simp only [Act.put, List.setIfInBounds_toArray, List.set_cons_zero, List.set_cons_succ]
            refine wpAnyIn_ready (rs := [11]) (by kernel_rfl) (by simp) ?_
            refine (AllReadyIn.cons (o := { dst := some 25, op := Op.unOp UnOp.not 4 (Operand.tmp 24), type := 4, pos := "table.go:121", after := #[{ on := 10, ground := Ground.data }], guard := none }) rfl (fun K hK => ?_) AllReadyIn.nil)
            go_simp
            (try (refine hK _ _ ?_))
            (try clear hK K)
            try simp only [Act.put, List.setIfInBounds_toArray, List.set_cons_zero, List.set_cons_succ]
            refine wpAnyIn_done (by kernel_rfl) ?_ _
            have HJ4 := Lib.hid hJx4
            have HK4 := Lib.hid hk4
            clear hJx4 hk4
            gi_wp2_with fail
            have hk5 := round_keeps HQ.out.2.2.1.2.1 HQ.out.2.2.1.2.2 HBB.out HK4.out hgn (by omega) hg
            exact ⟨keeps_up hk5.1 (by omega), hk5.2.1, rfl, _, HJ4.out⟩




  case done =>
    rintro D ys W5 hD hS ⟨q, h1, h2, h3, h4⟩ hK
    clear hseq HST
    gi_wp2_with fail
    refine ⟨by simp, .inl ⟨_, _, rfl, run_takeDeferred (w := W5) hK, ?_⟩⟩
    exact ⟨_, results_none rfl _ _ _, ⟨_, rfl⟩, .inl ⟨q, by rw [h1]; exact hS, hJ.putObj _ h2 (by omega) hK rfl⟩⟩
  case stop =>
    rintro D c0 ys W5 hD hS ⟨rfl, q, h2⟩ hK
    clear hseq HST
    gi_wp2_with fail
    refine ⟨by simp, .inl ⟨_, _, rfl, run_takeDeferred (w := W5) hK, ?_⟩⟩
    exact ⟨_, results_none rfl _ _ _, ⟨_, rfl⟩, .inr ⟨q, trivial, hJx.putObj _ h2 (by omega) hK rfl⟩⟩
end Go.Proofs.YtkdjjdkcogolmaaGreatDoor
