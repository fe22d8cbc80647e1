/-
  The form of a group: the contract of the reference's Bytes.
-/
import Derived.Test.YthgaiimgfnbkaaaGreatDoorBtP
namespace Go.Proofs.YthgaiimgfnbkaaaGreatDoor
set_option maxRecDepth 100000
open Go.RowKit Go.Shelf

theorem Fr.drew {w : World} {b : Nat} {e : TypeId} {A : Option Addr} {n c : Nat} {xs : List Value} (h : Fr w b e A n c xs) : Fr w.drew b e A n c xs := ⟨h.own⟩
/-- An append at a step of a region that draws its order. -/
theorem step_app {ops : Array Oper} {o : Oper} {a : Act} {K : Act → World → Prop} {Q : Exit → Act → World → Prop} {E : Prop} {w : World} (hgd : o.guard = none) (s x : Operand)
    (ho : o.op = .call { callee := .builtin .append, args := #[s, x], argTypes := #[26, 26] })
    {b : Nat} {A : Option Addr} {n c : Nat} {xs : List Value} (h : Fr w b 5 A n c xs) (hs : a.eval s = .slice A n c)
    {B m c2 : Nat} {A2 : Option Addr} {news : List Value} (hr : Rd w B A2 m c2 news) (hx : a.eval x = .slice A2 m c2) (h1 : ∀ u ∈ news, u.oneCell' = true) (h63 : n + m ≤ 140737488355328) (hb : b ≤ w.heap.size)
    (hk : ∀ A' c' w', App w w' b 5 (.slice A n c) A' (n + m) c' (xs ++ news) → K (a.put o.dst (.slice A' (n + m) c')) w') :
    if Region.wanted o (yielded ops a.tmps) = true then Oper.wp Tryz.prog o a w K Q else E := by
  have hw : Region.wanted o (yielded ops a.tmps) = true := by simp [Region.wanted, hgd]
  rw [if_pos hw]
  obtain ⟨A', c', w', hrun, h2⟩ := run_app (P := Tryz.prog) w 26 o.type 5 Tryz.underlying26 info_u8 rfl h hr h1 (by omega) h63 hb
  unfold Oper.wp execOp
  simp only [ho, resolve, invoke, builtin, Sem.run_bind, Sem.run_pure, Result.andThen_ok, List.map_toArray, List.map_cons, List.map_nil, hs, hx, hrun]
  exact hk A' c' w' h2

set_option maxRecDepth 100000 in
set_option maxHeartbeats 4000000 in
theorem refBytes_c {w : World} {B n c : Nat} {A : Option Addr} {L : List Bop} (h : RdO w B A n c L) (hB : B ≤ w.heap.size) (hn : (n : Int) ≤ 70368744000000) :
    Calls Tryz.prog 25 #[.slice A n c] w (RetBE w (bytesL L) (bytesE L)) := by
  have hl := h.len
  have HG := Lib.hid (refFew_c h hB hn 128)
  by_cases hg : grpB L 128 = true
  case neg =>
    have e1 : bytesL L = [] := if_neg hg
    have e2 : bytesE L = 40 := if_neg hg
    have hg : grpB L 128 = false := by simpa using hg
    rw [hg] at HG
    rw [e1, e2]
    clear h hg e1 e2
    go_enter Tryz.func25, Tryz.ntmps25
    go_wp2_with fail
    refine HG.out.mono ?_
    rintro e w1 ⟨rfl, hb⟩
    go_wp2_with fail
    go_ret2
    exact ⟨none, 0, 0, rfl, Fr.nil, hb⟩
  have e1 : bytesL L = groupL L := if_pos hg
  have e2 : bytesE L = 0 := if_pos hg
  obtain ⟨g1, g2, g3⟩ := grpB_iff.1 hg
  rw [hg] at HG
  rw [e1, e2]
  have hn128 : n ≤ 128 := by omega
  have hni : (n : Int) ≤ 128 := by omega
  have HP := Lib.hid (fun W => refPut_c (w := W) (B := 0) (l := []) Rd.nilv (by decide) (n : Int) (by omega) (by omega))
  have HLEN : ∀ k, k ≤ n → (shortL n ++ formsO (L.take k)).length ≤ 50000 := fun k hk => by
    have := formsO_len (L := L.take k) (fun x hx => g3 x (List.mem_of_mem_take hx))
    have := shortL_len n
    simp at *; omega
  have HLEN := Lib.hid HLEN
  have HFL := Lib.hid (fun (x : Bop) (hx : x ∈ L) => (opB_iff x).1 (g3 x hx))
  clear g1 g2 g3 e1 e2 hg
  go_enter Tryz.func25, Tryz.ntmps25
  go_wp2_with fail
  refine HG.out.mono ?_
  rintro e w1 ⟨rfl, hb⟩
  go_wp2_with fail
  refine (HP.out _).mono ?_
  rintro e w2 ⟨A2, n2, c2, rfl, hf2, hb2⟩
  have hf2 : Fr w2 w.heap.size 5 A2 n2 c2 (bv (shortL n ++ formsO (L.take 0))) := by simpa [formsO] using hf2.mono hb.size
  have hb2 := bon hb hb2
  clear HG HP hb
  go_wp2_with fail
  go_loopw [4, 5] (fun ov iv wr => ∃ (k : Nat) (A : Option Addr) (m c : Nat), ov = .slice A m c ∧ iv = .int .i64 (k : Int) ∧ k ≤ n ∧ Fr wr w.heap.size 5 A m c (bv (shortL n ++ formsO (L.take k))) ∧ Below w.heap.size w wr) (fun _ iv _ => ((n : Int) - intOf iv).toNat)
  case atStart => exact ⟨0, A2, n2, c2, rfl, rfl, Nat.zero_le _, hf2, hb2⟩
  case round =>
    clear hf2 hb2
    obtain ⟨k, A3, m3, c3, rfl, rfl, hkn, hf, hbr⟩ := hrel
    by_cases hlt : k < n
    · obtain ⟨b, off, hA, hbB, hcell⟩ := h.form (by omega)
      subst hA
      obtain ⟨x, hx⟩ : ∃ x, L[k]? = some x := ⟨L[k]'(by omega), List.getElem?_eq_getElem _⟩
      obtain ⟨z0, z1, z2⟩ := hcell k x hx
      have SK : ∀ W, Below w.heap.size w W → (Below w.heap.size w W ∧ W.cell? ⟨b, off + k * 3, none⟩ = some (.int .u8 (x.k : Int)) ∧ W.cell? ⟨b, off + k * 3 + 1, none⟩ = some (.string x.s) ∧ W.cell? ⟨b, off + k * 3 + 2, none⟩ = some (.string x.v)) :=
        fun W hW => ⟨hW, (hW.cell (by simp; omega)).trans z0, (hW.cell (by simp; omega)).trans z1, (hW.cell (by simp; omega)).trans z2⟩
      have hki : (k : Int) < (n : Int) := by omega
      have hk0 : (0 : Int) ≤ (k : Int) := by omega
      have hm3 : m3 ≤ 50000 := by have := HLEN.out k hkn; have := hf.len; simp at *; omega
      obtain ⟨p1, p2, p3⟩ := HFL.out x (List.mem_of_getElem? hx)
      have hpv : x.v.size ≤ 256 := by omega
      have HKV : x.k = 1 ∨ x.k = 0 := by omega
      have HKV := Lib.hid HKV
      have hbyte : Value.int .u8 (x.k : Int) = b8 (byteOf x.k) := u8_byte _ (by omega)
      have HX := Lib.hid (take_snoc_of hx)
      have HSK := Lib.hid SK
      have HFO := Lib.hid (formO_eq x)
      have hbs := hbr.size
      obtain ⟨_, x0, x1, x2⟩ := SK wr hbr
      have hfd := hf.drew
      have hr1 := Rd.litb wr.drew [byteOf x.k] (vs := #[.int .u8 (x.k : Int)]) (k := 1) (g := wr.heap.size) rfl (by rw [hbyte]; simp [bv]) rfl (by decide)
      have HT1 := Lib.hid (fun (W : World) (A : Option Addr) (n c : Nat) (l : List UInt8) (h : Fr W w.heap.size 5 A n c (bv l)) (hn : n ≤ 60000) => refPutText_c (h.rd (Nat.le_refl _)) (by omega) x.s (by omega))
      have HT2 := Lib.hid (fun (W : World) (A : Option Addr) (n c : Nat) (l : List UInt8) (h : Fr W w.heap.size 5 A n c (bv l)) (hn : n ≤ 60000) => refPutText_c (h.rd (Nat.le_refl _)) (by omega) x.v (by omega))
      have HL1 := Lib.hid (textL_le x.s)
      have HP2 := Lib.hid p2
      clear SK z0 z1 z2 hcell hx h hl hf HLEN HFL p1 p2 p3 hpv hbyte
      go_wp2_with fail
      go_region_held3 (fun w' => Below w.heap.size w w' ∧ w'.cell? ⟨b, off + k * 3, none⟩ = some (.int .u8 (x.k : Int)) ∧ w'.cell? ⟨b, off + k * 3 + 1, none⟩ = some (.string x.s) ∧ w'.cell? ⟨b, off + k * 3 + 2, none⟩ = some (.string x.v))
        ((first | assumption | exact HSK.out _ (by assumption) | exact HSK.out _ (Below.drew hbr) | exact HSK.out _ (blit (And.left (by assumption)) _)))
        (first | (have hH : Below w.heap.size w _ := And.left (by assumption); refine step_app rfl (.tmp 19) (.tmp 25) rfl (hfd.alloc (.cells #[.int .u8 (x.k : Int)] 5)) (by rfl) hr1 (by rfl) (bv_one _) (by omega) hH.size ?_; intro A5 c5 w5 hap5; have hb5 : Below w.heap.size w w5 := hH.trans hap5.below) | (go_at_call 44; refine (HT1.out _ _ _ _ (shortL n ++ formsO (L.take k) ++ [byteOf x.k]) (by rw [bv_append]; exact hap5.fr) (by omega)).mono ?_; rintro e w6 ⟨A6, n6, c6, rfl, hf6, hb6⟩; have hb6 : Below w.heap.size w w6 := bon hb5 hb6))
      obtain ⟨_, y0, y1, y2⟩ := HSK.out _ hb6
      have hf6 : Fr w6 w.heap.size 5 A6 n6 c6 (bv (shortL n ++ formsO (L.take k) ++ [byteOf x.k] ++ textL x.s)) := hf6.mono hb5.size
      have hn6 : n6 ≤ 60000 := by have := hf6.len; have := hap5.fr.len; have := HL1.out; have := HP2.out; simp at *; omega
      clear x0 x1 x2 hr1 hfd HT1 hap5 hb5
      rcases HKV.out with hk | hk
      · have d1 : ((x.k : Int) == 1) = true := by simp; omega
        have HT3 := Lib.hid (HT2.out _ _ _ _ _ hf6 hn6)
        have HK := Lib.hid hk
        clear hk HT2 hf6
        go_wp2_with fail
        refine HT3.out.mono ?_
        rintro e w7 ⟨A7, n7, c7, rfl, hf7, hb7⟩
        go_wp2_with fail
        go_roundw
        case rel =>
          refine ⟨k + 1, A7, n7, c7, rfl, by simp, by omega, ?_, bon hb6 hb7⟩
          rw [HX.out, formsO_app, formsO_one, HFO.out, if_pos HK.out]
          simpa only [List.append_assoc] using hf7.mono hb6.size
        case measure => simp [intOf]; omega
      · have d1 : ((x.k : Int) == 1) = false := by simp; omega
        have HK := Lib.hid hk
        clear hk HT2
        go_wp2_with fail
        go_roundw
        case rel =>
          refine ⟨k + 1, A6, n6, c6, rfl, by simp, by omega, ?_, hb6⟩
          rw [HX.out, formsO_app, formsO_one, HFO.out, if_neg (by rw [HK.out]; decide), List.append_nil]
          simpa only [List.append_assoc] using hf6
        case measure => simp [intOf]; omega
    · have hki : ¬ (k : Int) < (n : Int) := by omega
      obtain rfl : k = n := by omega
      have hfin : shortL k ++ formsO (L.take k) = groupL L := by
        unfold groupL
        rw [hl, List.take_of_length_le (by omega)]
      rw [hfin] at hf
      clear hfin h hl HLEN HFL
      go_wp2_with fail
      go_ret2
      exact ⟨A3, m3, c3, rfl, hf, hbr⟩
end Go.Proofs.YthgaiimgfnbkaaaGreatDoor
