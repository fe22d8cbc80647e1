/-
  Contract: Logged: batches as the records of a log, its bytes, where each record ends.
-/
import Derived.Test.YthgaiimgfnbkaaaDoorWO
namespace Go.Proofs.YthgaiimgfnbkaaaDoor
set_option maxRecDepth 100000
open Go.RowKit Go.Shelf
set_option linter.unusedVariables false

def stepL (s : List WR × Nat) (r : OpsRow) : List WR × Nat := if recB s.2 r.L = true then (s.1 ++ [⟨s.2, r.a, r.n, r.c, r.L⟩], s.2 + r.n) else s
def logS (q : Nat) (Ls : List OpsRow) : List WR × Nat := Ls.foldl stepL ([], q)
theorem logS_snoc (q : Nat) (Ls : List OpsRow) (r : OpsRow) : logS q (Ls ++ [r]) = stepL (logS q Ls) r := by unfold logS; rw [List.foldl_append]; rfl
structure LogI (k : Nat) (p : OpsRow → Prop) (s : List WR × Nat) : Prop where
  ch : chain 0 (recsOf s.1)
  nx : s.1 = [] ∨ nextW 0 (recsOf s.1) = s.2
  q : s.2 ≤ 18446744073709551615
  len : s.1.length ≤ k
  row : ∀ x ∈ s.1, ∃ r, p r ∧ x.A = r.a ∧ x.n = r.n ∧ x.c = r.c ∧ x.L = r.L
theorem LogI.step {k : Nat} {p : OpsRow → Prop} {s : List WR × Nat} (h : LogI k p s) {r : OpsRow} (hr : r.L.length = r.n) (hp : p r) : LogI (k + 1) p (stepL s r) := by
  unfold stepL
  split
  · rename_i hb
    have h2 := (recB_iff.1 hb).2
    refine ⟨?_, .inr ?_, by show s.2 + r.n ≤ _; omega, by have := h.len; simp; omega, fun x hx => ?_⟩
    · show chain 0 (recsOf (s.1 ++ [_]))
      unfold recsOf
      rw [List.map_append, List.map_singleton]
      refine (chain_snoc 0 _ _).2 ⟨h.ch, ?_, hb⟩
      rcases h.nx with h1 | h1
      · rw [h1]; exact .inl rfl
      · exact .inr h1.symm
    · show nextW 0 (recsOf (s.1 ++ [_])) = s.2 + r.n
      unfold recsOf
      rw [List.map_append, List.map_singleton, nextW_snoc]
      show s.2 + r.L.length = _
      rw [hr]
    · rcases List.mem_append.1 hx with h1 | h1
      · exact h.row x h1
      · simp only [List.mem_singleton] at h1
        subst h1
        exact ⟨r, hp, rfl, rfl, rfl, rfl⟩
  · exact ⟨h.ch, h.nx, h.q, Nat.le_succ_of_le h.len, h.row⟩
theorem logI_of {q : Nat} (hq : q ≤ 18446744073709551615) {p : OpsRow → Prop} {Ls : List OpsRow} (hr : ∀ r ∈ Ls, r.L.length = r.n ∧ p r) : ∀ k, k ≤ Ls.length → LogI k p (logS q (Ls.take k))
  | 0, _ => ⟨by simp [logS, recsOf, chain], .inl rfl, hq, Nat.le_refl _, fun x hx => by cases hx⟩
  | k + 1, hk => by
    have e : Ls.take (k + 1) = Ls.take k ++ [Ls[k]] := (List.take_append_getElem (by omega)).symm
    rw [e, logS_snoc]
    have := hr _ (List.getElem_mem (by omega : k < Ls.length))
    exact (logI_of hq hr k (by omega)).step this.1 this.2
/-- Where each record ends. -/
def endsN (P : List Wr) : List Nat := (List.range P.length).map fun i => (catW (P.take (i + 1))).length
theorem endsN_snoc (P : List Wr) (r : Wr) : endsN (P ++ [r]) = endsN P ++ [(catW (P ++ [r])).length] := by
  unfold endsN
  rw [List.length_append, List.length_singleton, List.range_succ, List.map_append, List.map_singleton]
  congr 1
  · apply List.map_congr_left
    intro i hi
    rw [List.take_append_of_le_length (by have := List.mem_range.1 hi; omega)]
  · rw [List.take_of_length_le (by simp)]
theorem endsN_len (P : List Wr) : (endsN P).length = P.length := by simp [endsN]
def iv (l : List Nat) : List Value := l.map fun (x : Nat) => Value.int .i64 (x : Int)
theorem iv_len (l : List Nat) : (iv l).length = l.length := by simp [iv]
theorem iv_one (l : List Nat) : ∀ u ∈ iv l, u.oneCell' = true := by
  intro u hu
  obtain ⟨x, _, rfl⟩ := List.mem_map.1 hu
  rfl
theorem info_int : (Tryd.prog.info? 3).map (fun i => (i.zero, i.size, i.bytes)) = some (some (.int .i64 0), 1, 8) := by kernel_rfl

/-- Rows of other types stand behind an append. -/
theorem Fr.apart {W w1 : World} {b n c b' s' n' c' : Nat} {e t' : TypeId} {A A' : Option Addr} {xs xs' : List Value} (h : Fr W b e A n c xs) (he : e ≠ t') (h' : W.ownsRow b' t' s' (.slice A' n' c') n' xs') (hg : W.grownBy w1 (Value.slice A' n' c').ownBlock) : Fr w1 b e A n c xs :=
  ⟨h.own.kept hg (own_not_row he h.own h')⟩
theorem FrW.apart {W w1 : World} {b n c b' s' n' c' : Nat} {t' : TypeId} {A A' : Option Addr} {L : List WR} {xs' : List Value} (h : FrW W b A n c L) (he : 28 ≠ t') (h' : W.ownsRow b' t' s' (.slice A' n' c') n' xs') (hg : W.grownBy w1 (Value.slice A' n' c').ownBlock) : FrW w1 b A n c L :=
  ⟨h.own.kept hg (own_not_row he h.own h')⟩
theorem iv_snoc (l : List Nat) (x : Nat) : iv (l ++ [x]) = iv l ++ [.int .i64 (x : Int)] := by simp [iv]
theorem catW_b {k : Nat} {p : OpsRow → Prop} {s : List WR × Nat} (h : LogI k p s) (hk : k ≤ 12) : (catW (recsOf s.1)).length ≤ 600216 := by
  have := (catW_len h.ch).2
  have h2 := h.len
  rw [recsOf_len] at this
  omega

/-- What Logged answers. -/
def LgPost (w : World) (q : Nat) (Ls : List OpsRow) (e : Ending) (w' : World) : Prop :=
  ∃ (A1 A2 A3 : Option Addr) (m n2 c1 c2 c3 : Nat), e = .returned (.tuple #[.slice A1 m c1, .slice A2 n2 c2, .slice A3 m c3]) ∧
    FrW w' w.heap.size A1 m c1 (logS q Ls).1 ∧ Fr w' w.heap.size 5 A2 n2 c2 (bv (catW (recsOf (logS q Ls).1))) ∧ Fr w' w.heap.size 3 A3 m c3 (iv (endsN (recsOf (logS q Ls).1))) ∧ Below w.heap.size w w'

set_option maxHeartbeats 8000000 in
theorem logged_c {w : World} {A : Option Addr} {n c : Nat} {Ls : List OpsRow} (h : OpsAt w A n c Ls) (hn : n ≤ 12) (hs : ∀ r ∈ Ls, (r.n : Int) ≤ 40) {q : Nat} (hq : (q : Int) ≤ 18446744073709551615) :
    Calls Tryd.prog 9 #[.int .u64 (q : Int), .slice A n c] w (LgPost w q Ls) := by
  have hl : Ls.length = n := by have := h.rd.len; simpa using this
  have HI := Lib.hid (logI_of (q := q) (by omega) (p := fun r => r ∈ Ls) (Ls := Ls) (fun r hr => ⟨(h.row r hr).len, hr⟩))
  have HS := Lib.hid hs
  have HL := Lib.hid hl
  have HH := Lib.hid h
  have g0 : Below w.heap.size w w := Below.refl _ _
  have hni : (n : Int) ≤ 12 := by omega
  clear hl hs h hn
  go_enter Tryd.func9, Tryd.ntmps9
  go_wp2_with fail
  go_loopw [0, 7, 8, 9, 17] (fun qv v7 v8 v9 kv wr => ∃ (k m n2 : Nat) (A1 A2 A3 : Option Addr) (c1 c2 c3 : Nat), k ≤ n ∧ m ≤ k ∧ kv = .int .i64 (k : Int) ∧ qv = .int .u64 ((logS q (Ls.take k)).2 : Int) ∧ v7 = .slice A1 m c1 ∧ v8 = .slice A2 n2 c2 ∧ v9 = .slice A3 m c3 ∧
    FrW wr w.heap.size A1 m c1 (logS q (Ls.take k)).1 ∧ Fr wr w.heap.size 5 A2 n2 c2 (bv (catW (recsOf (logS q (Ls.take k)).1))) ∧ Fr wr w.heap.size 3 A3 m c3 (iv (endsN (recsOf (logS q (Ls.take k)).1))) ∧ Below w.heap.size w wr) (fun _ _ _ _ kv _ => ((n : Int) - intOf kv).toNat)
  case atStart => exact ⟨0, 0, 0, none, none, none, 0, 0, 0, Nat.zero_le _, Nat.le_refl _, rfl, rfl, rfl, rfl, rfl, FrW.nil, Fr.nil, Fr.nil, g0⟩
  case round =>
    obtain ⟨k, m, n2, A1, A2, A3, c1, c2, c3, hk, hm, rfl, rfl, rfl, rfl, rfl, f1, f2, f3, gr⟩ := hrel
    by_cases hlt : k < n
    · have hdk : decide ((k : Int) < (n : Int)) = true := by simp; omega
      have hdk2 : decide (k < n) = true := by simp; omega
      have hi := HI.out k (by have := HL.out; omega)
      obtain ⟨r, hr⟩ : ∃ r, Ls[k]? = some r := ⟨_, List.getElem?_eq_getElem (by have := HL.out; omega)⟩
      have hmem : r ∈ Ls := List.mem_of_getElem? hr
      have hrn := HS.out r hmem
      have ro := (HH.out.row r hmem).now gr
      obtain ⟨b0, off0, rfl, hbl0, hc0⟩ := HH.out.rd.form (by omega)
      have cr : wr.cell? ⟨b0, off0 + k, none⟩ = some (.slice r.a r.n r.c) := (gr.cell (p := ⟨b0, off0 + k, none⟩) hbl0).trans (hc0 k (.slice r.a r.n r.c) (by rw [List.getElem?_map, hr]; rfl))
      have htake : Ls.take (k + 1) = Ls.take k ++ [r] := by rw [List.take_add_one, hr]; rfl
      have hsn := logS_snoc q (Ls.take k) r
      rw [← htake] at hsn
      obtain ⟨s, hs⟩ : ∃ s, logS q (Ls.take k) = s := ⟨_, rfl⟩
      rw [hs] at hi f1 f2 f3 hsn ⊢
      have HSN := Lib.hid hsn
      have HIN := Lib.hid hi
      have hq2 : (s.2 : Int) ≤ 18446744073709551615 := by have := hi.q; omega
      obtain ⟨Q, hQ⟩ : ∃ Q, s.2 = Q := ⟨_, rfl⟩
      rw [hQ] at hq2 ⊢
      have HQ := Lib.hid hQ
      clear hi hc0 htake hsn hs hr
      go_wp2_with fail
      have ra := RecAt.new wr Q r.a r.n r.c
      obtain ⟨W1, hW1⟩ : ∃ W1, wr.alloc (.cells #[.int .u64 (Q : Int), .slice r.a r.n r.c] 28) = W1 := ⟨_, rfl⟩
      have hb1 := below_alloc wr (.cells #[.int .u64 (Q : Int), .slice r.a r.n r.c] 28)
      rw [hW1] at ra hb1 ⊢
      obtain ⟨g, hgg⟩ : ∃ g, wr.heap.size = g := ⟨_, rfl⟩
      have hg0 : w.heap.size ≤ g := by rw [← hgg]; exact gr.size
      replace ro := ro.now hb1
      replace f1 := f1.below hb1
      replace f2 := f2.below hb1
      replace f3 := f3.below hb1
      replace gr := bon gr hb1
      rw [hgg] at ra ⊢
      clear hW1 hb1 hgg
      obtain ⟨l, hl⟩ : ∃ l, walL Q r.L = l := ⟨_, rfl⟩
      have HWL := Lib.hid hl
      clear hl
      cases hrb : recB Q r.L with
      | false =>
        have HNX := Lib.hid (show logS q (Ls.take (k + 1)) = s by rw [HSN.out]; unfold stepL; rw [hQ, hrb]; rfl)
        have HWE := Lib.hid (walL_no hrb).2
        clear hrb HSN hQ
        refine (walBytes_t ro hq2 (by omega) HWL.out HWE.out).mono ?_
        rintro e w2 ⟨A4, n4, c4, rfl, hf4, hb2⟩
        replace f1 := f1.below hb2
        replace f2 := f2.below hb2
        replace f3 := f3.below hb2
        replace gr := bon gr hb2
        have HRA := Lib.hid ra
        clear ra ro cr hb2 hf4
        go_wp2_with fail
        go_roundw
        case rel => exact ⟨k + 1, m, n2, _, _, _, _, _, _, by omega, by omega, by simp, by rw [HNX.out, HQ.out], rfl, rfl, rfl, by rw [HNX.out]; exact f1, by rw [HNX.out]; exact f2, by rw [HNX.out]; exact f3, gr⟩
        case measure => simp [intOf]; omega
      | true =>
        have HNX := Lib.hid (show logS q (Ls.take (k + 1)) = (s.1 ++ [⟨Q, r.a, r.n, r.c, r.L⟩], Q + r.n) by rw [HSN.out]; unfold stepL; rw [hQ, hrb]; rfl)
        have HWE := Lib.hid (walL_yes hrb).2
        have hl2 : l = recL Q r.L := by rw [← HWL.out, (walL_yes hrb).1]
        have HR := Lib.hid (recB_iff.1 hrb)
        have hQ1 : (1 : Int) ≤ (Q : Int) := by have := HR.out.2.1; omega
        have hQ2 : (Q : Int) + (r.n : Int) ≤ 72057594037927936 := by have := HR.out.2.2; have := ro.len; omega
        clear hrb HSN hQ
        refine (walBytes_t ro hq2 (by omega) HWL.out HWE.out).mono ?_
        rintro e w2 ⟨A4, n4, c4, rfl, hf4, hb2⟩
        replace f1 := f1.below hb2
        replace f2 := f2.below hb2
        replace f3 := f3.below hb2
        replace gr := bon gr hb2
        replace ra := ra.below hb2 (Nat.le_refl _)
        obtain ⟨ra1, ra2⟩ := ra.cells
        have hn4 : (n4 : Int) ≤ 50018 := by
          have h1 := hf4.len
          have h2 := recL_len (q := Q) HR.out.1
          rw [hl2] at h1
          simp at h1
          omega
        have hn2 : (n2 : Int) ≤ 600216 := by
          have h1 := f2.len
          have h2 := catW_b HIN.out (by omega)
          simp at h1
          omega
        have hgs := gr.size
        clear ro cr hb2
        have HX := Lib.hid hf4
        have hmi : (m : Int) ≤ 12 := by omega
        go_wp2_with (first
          | (at_builtin; refine wpList_appW rfl (.tmp 31) (.tmp 33) rfl rfl (f1.alloc _) rfl ((FrW.one w2 (b := 0) ⟨Q, r.a, r.n, r.c, r.L⟩ rfl (Nat.zero_le _)).here) (by omega) (by simp; omega) ?_; intro A5 c5 w5 hap5; have g5 : Below w.heap.size w w5 := (blit gr _).trans hap5.below; have p2 := (f2.alloc _).apart (by decide) (f1.alloc _).own hap5.grown; have p3 := (f3.alloc _).apart (by decide) (f1.alloc _).own hap5.grown; have p4 := (HX.out.alloc _).apart (by decide) (f1.alloc _).own hap5.grown; have gs5 := g5.size)
          | (at_builtin; refine wpList_app rfl (.tmp 35) (.tmp 36) _ rfl Tryd.underlying31 info_u8 rfl rfl p2 rfl (p4.rd (Nat.le_refl _)) (bv_one _) (by omega) (by omega) gs5 ?_; intro A6 c6 w6 hap6; have g6 : Below w.heap.size w w6 := g5.trans hap6.below; have q1 := hap5.fr.apart (by decide) p2.own hap6.grown; have q3 := p3.apart (by decide) p2.own hap6.grown; have gs6 := g6.size)
          | (at_builtin; refine wpList_app rfl (.tmp 38) (.tmp 41) _ rfl Tryd.underlying32 info_int rfl rfl (q3.alloc _) rfl (Rd.lit w6 3 [.int .i64 ((n2 : Int) + (n4 : Int))] (k := 1) rfl (by decide) (Nat.lt_succ_self _)) (by intro u hu; simp at hu; subst hu; rfl) (by omega) (by omega) (by simp; omega) ?_; intro A7 c7 w7 hap7; have g7 : Below w.heap.size w w7 := (blit g6 _).trans hap7.below; have r1 := (q1.alloc _).apart (by decide) (q3.alloc _).own hap7.grown; have r2 := (hap6.fr.alloc _).apart (by decide) (q3.alloc _).own hap7.grown))
        go_roundw
        case rel =>
          have e1 : recsOf (s.1 ++ [⟨Q, r.a, r.n, r.c, r.L⟩]) = recsOf s.1 ++ [(Q, r.L)] := by simp [recsOf, WR.r]
          have e2 : catW (recsOf (s.1 ++ [⟨Q, r.a, r.n, r.c, r.L⟩])) = catW (recsOf s.1) ++ l := by rw [e1, catW_snoc, hl2]
          have e3 : (catW (recsOf (s.1 ++ [⟨Q, r.a, r.n, r.c, r.L⟩]))).length = n2 + n4 := by
            have h1 := hap6.fr.len
            rw [← bv_append, ← e2] at h1
            simpa using h1
          have f3' := hap7.fr
          have e4 : iv (endsN (recsOf (s.1 ++ [⟨Q, r.a, r.n, r.c, r.L⟩]))) = iv (endsN (recsOf s.1)) ++ [.int .i64 ((n2 : Int) + (n4 : Int))] := by
            rw [e1, endsN_snoc, iv_snoc, ← e1, e3]; simp
          refine ⟨k + 1, m + 1, n2 + n4, _, _, _, _, _, _, by omega, by omega, by simp, ?_, rfl, rfl, rfl, ?_, ?_, ?_, g7⟩
          · rw [HNX.out]; simp
          · rw [HNX.out]; exact r1
          · rw [HNX.out, e2, bv_append]; exact r2
          · rw [HNX.out, e4]; exact f3'
        case measure => simp [intOf]; omega
    · obtain rfl : k = n := by omega
      have hdk : decide ((k : Int) < (k : Int)) = false := by simp
      have hdk2 : decide (k < k) = false := by simp
      rw [List.take_of_length_le (by have := HL.out; omega)] at f1 f2 f3
      go_wp2_with fail
      go_ret3
      exact ⟨_, _, _, _, _, _, _, _, rfl, f1, f2, f3, gr⟩
end Go.Proofs.YthgaiimgfnbkaaaDoor
