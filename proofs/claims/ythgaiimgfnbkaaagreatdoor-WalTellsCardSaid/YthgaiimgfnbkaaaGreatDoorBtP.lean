/-
  The form of a group: the contracts of form and Bytes, the program's and the reference's.
-/
import Derived.Test.YthgaiimgfnbkaaaGreatDoorBtF
namespace Go.Proofs.YthgaiimgfnbkaaaGreatDoor
set_option maxRecDepth 100000
open Go.RowKit Go.Shelf

/-- An operation lies in block b. -/
structure OpAt (w : World) (b : Nat) (x : Bop) : Prop where
  lt : b < w.heap.size
  h : w.heap[b]? = some (.cells #[.int .u8 (x.k : Int), .string x.s, .string x.v] 43 (0, 0))
section
variable {w w' : World} {b : Nat} {x : Bop}
theorem OpAt.cells (h : OpAt w b x) : w.cell? ⟨b, 0, none⟩ = some (.int .u8 (x.k : Int)) ∧ w.cell? ⟨b, 1, none⟩ = some (.string x.s) ∧ w.cell? ⟨b, 2, none⟩ = some (.string x.v) := by
  refine ⟨?_, ?_, ?_⟩ <;> (simp only [World.cell?, h.h]; rfl)
theorem OpAt.frozen (h : OpAt w b x) : w.frozen? ⟨b, 0, none⟩ = false ∧ w.frozen? ⟨b, 1, none⟩ = false ∧ w.frozen? ⟨b, 2, none⟩ = false := by
  refine ⟨?_, ?_, ?_⟩ <;> simp [World.frozen?, h.h]
theorem OpAt.new (w : World) (x : Bop) : OpAt (w.alloc (.cells #[.int .u8 (x.k : Int), .string x.s, .string x.v] 43)) w.heap.size x := ⟨by simp, heap_alloc_new w _⟩
theorem OpAt.newg (w : World) (x : Bop) {g : Nat} (hg : w.heap.size = g) : OpAt (w.alloc (.cells #[.int .u8 (x.k : Int), .string x.s, .string x.v] 43)) g x := by subst hg; exact OpAt.new w x
theorem OpAt.alloc (h : OpAt w b x) (o : Obj) : OpAt (w.alloc o) b x := ⟨by have := h.lt; simp; omega, by rw [Go.heap_alloc_old w o h.lt]; exact h.h⟩
theorem OpAt.drew (h : OpAt w b x) : OpAt w.drew b x := ⟨h.lt, h.h⟩
theorem OpAt.below {B : Nat} (h : OpAt w b x) (hb : Below B w w') (hB : w.heap.size ≤ B) : OpAt w' b x :=
  ⟨by have := h.lt; have := hb.size; omega, by rw [hb.block b (by have := h.lt; omega)]; exact h.h⟩
theorem OpAt.store (h : OpAt w b x) (y : Bop) : OpAt (((w.setCell ⟨b, 0, none⟩ (.int .u8 (y.k : Int))).setCell ⟨b, 1, none⟩ (.string y.s)).setCell ⟨b, 2, none⟩ (.string y.v)) b y := by
  refine ⟨by have := h.lt; simpa [World.setCell] using this, ?_⟩
  simp only [World.setCell, Array.getElem?_modify, if_pos, h.h]
  rfl
end

theorem textL_le (s : ByteArray) : (textL s).length ≤ 10 + s.size := by
  have := shortL_len s.size
  rw [textL_len]; omega
theorem formO_eq (x : Bop) : formO x = [byteOf x.k] ++ textL x.s ++ (if x.k = 1 then textL x.v else []) := by simp [formO]
theorem formO_len {x : Bop} (h : opB x = true) : (formO x).length ≤ 341 := by
  obtain ⟨h1, h2, h3⟩ := (opB_iff x).1 h
  have e1 := textL_le x.s
  have e2 := textL_le x.v
  rw [formO_eq]
  split <;> simp <;> omega
theorem formsO_len : ∀ {L : List Bop}, (∀ x ∈ L, opB x = true) → (formsO L).length ≤ 341 * L.length
  | [], _ => by simp [formsO]
  | x :: L, h => by
    have := formsO_len (fun y hy => h y (List.mem_cons_of_mem _ hy))
    have := formO_len (h x (List.mem_cons_self ..))
    rw [formsO_cons]; simp; omega

set_option maxRecDepth 100000 in
set_option maxHeartbeats 2000000 in
theorem form_c (w : World) (x : Bop) (hx : opB x = true) : Calls Tryz.prog 37 #[ov x] w (RetB w (formO x)) := by
  obtain ⟨h1, h2, h3⟩ := (opB_iff x).1 hx
  have hk : x.k ≤ 255 := by omega
  have e1 := textL_le x.s
  have HP := Lib.hid (putText_c (Rd.litb (w.alloc (.cells #[.int .u8 (x.k : Int), .string x.s, .string x.v] 43)) [byteOf x.k] (vs := #[.int .u8 (x.k : Int)]) (k := 1) (g := w.heap.size + 1) (by simp) (by rw [u8_byte _ (by omega)]; simp [bv]) rfl (by decide)) (by simp) (by omega) x.s (by omega))
  have HV := Lib.hid (fun (W : World) (A : Option Addr) (n c : Nat) (b : Nat) (l : List UInt8) (h : Fr W b 5 A n c (bv l)) (hn : n ≤ 100) => putText_c (h.rd (Nat.le_refl _)) (Nat.le_refl _) (by omega) x.v (by omega))
  have HE := Lib.hid e1
  have H2 := Lib.hid h2
  have HF := Lib.hid (formO_eq x)
  clear hx h1 h2 h3 hk e1
  unfold ov
  go_enter Tryz.func37, Tryz.ntmps37
  go_wp2_with fail
  refine HP.out.mono ?_
  rintro e w1 ⟨A1, n1, c1, rfl, hf1, hb1⟩
  have i1 := ((OpAt.new w x).alloc (.cells #[.int .u8 (x.k : Int)] 5)).below hb1 (Nat.le_refl _)
  obtain ⟨a0, a1, a2⟩ := i1.cells
  have hbw : Below w.heap.size w w1 := (blit (below_alloc w _) _).trans (hb1.mono (by simp; omega))
  have hn1 : n1 ≤ 100 := by have := hf1.len; have := HE.out; have := H2.out; simp at *; omega
  by_cases hk : x.k = 1
  · have d1 : ((x.k : Int) == 1) = true := by simp; omega
    have HV2 := Lib.hid (HV.out _ _ _ _ _ _ hf1 hn1)
    have HK := Lib.hid hk
    clear hk hn1 HV HP hf1
    go_wp2_with fail
    refine HV2.out.mono ?_
    rintro e w2 ⟨A2, n2, c2, rfl, hf2, hb2⟩
    go_wp2_with fail
    go_ret
    refine ⟨A2, n2, c2, rfl, ?_, bon hbw hb2⟩
    rw [HF.out, if_pos HK.out]
    exact hf2.mono hbw.size
  · have d1 : ((x.k : Int) == 1) = false := by simp; omega
    have HK := Lib.hid hk
    clear hk hn1 HV HP
    go_wp2_with fail
    go_ret
    refine ⟨A1, n1, c1, rfl, ?_, hbw⟩
    rw [HF.out, if_neg HK.out, List.append_nil]
    exact hf1.mono (by simp; omega)

/-- A tuple of a fresh row of bytes and an error's number. -/
def RetBE (w : World) (l : List UInt8) (c : Int) (e : Ending) (w' : World) : Prop :=
  ∃ A n c', e = .returned (.tuple #[.slice A n c', .int .i64 c]) ∧ Fr w' w.heap.size 5 A n c' (bv l) ∧ Below w.heap.size w w'
def bytesL (L : List Bop) : List UInt8 := if grpB L 128 = true then groupL L else []
def bytesE (L : List Bop) : Int := if grpB L 128 = true then 0 else 40
theorem bytesL_len (L : List Bop) : (bytesL L).length ≤ 50000 := by
  unfold bytesL
  split
  · rename_i h
    obtain ⟨h1, h2, h3⟩ := grpB_iff.1 h
    have := formsO_len h3
    have := shortL_len L.length
    unfold groupL; simp; omega
  · simp
theorem err2 {v : Value} {a b : Int} (h : a = b) : Ending.returned (.tuple #[v, .int .i64 a]) = .returned (.tuple #[v, .int .i64 b]) := by rw [h]
theorem take_snoc_of {L : List Bop} {k : Nat} {x : Bop} (hx : L[k]? = some x) : L.take (k + 1) = L.take k ++ [x] := by
  rw [List.take_add_one, hx]; rfl

set_option maxRecDepth 100000 in
set_option maxHeartbeats 2000000 in
theorem bytes_c {w : World} {B n c : Nat} {A : Option Addr} {L : List Bop} (h : RdO w B A n c L) (hB : B ≤ w.heap.size) (hn : (n : Int) ≤ 70368744000000) :
    Calls Tryz.prog 20 #[.slice A n c] w (RetBE w (bytesL L) (bytesE L)) := by
  have hl := h.len
  have HG := Lib.hid (grp_c h hB hn 128)
  by_cases hg : grpB L 128 = true
  case neg =>
    have e1 : bytesL L = [] := if_neg hg
    have e2 : bytesE L = 40 := if_neg hg
    have hg : grpB L 128 = false := by simpa using hg
    rw [hg] at HG
    rw [e1, e2]
    clear h hg e1 e2
    go_enter Tryz.func20, Tryz.ntmps20
    go_wp2_with fail
    refine HG.out.mono ?_
    rintro e w1 ⟨rfl, hb⟩
    go_wp2_with fail
    go_ret2
    exact ⟨none, 0, 0, rfl, Fr.nil, hb⟩
  have e1 : bytesL L = groupL L := if_pos hg
  have e2 : bytesE L = 0 := if_pos hg
  obtain ⟨g1, g2, g3⟩ := grpB_iff.1 hg
  rw [hg] at HG
  rw [e1, e2]
  have hn128 : n ≤ 128 := by omega
  have hni : (n : Int) ≤ 128 := by omega
  have HO := fun W (x : Bop) (hx : x ∈ L) => form_c W x (g3 x hx)
  unfold ov at HO
  have HO := Lib.hid HO
  have HP := Lib.hid (fun W => put_c (w := W) (B := 0) (l := []) Rd.nilv (Nat.zero_le _) (by decide) (n : Int) (by omega) (by omega))
  have HLEN : ∀ k, k ≤ n → (shortL n ++ formsO (L.take k)).length ≤ 50000 := fun k hk => by
    have := formsO_len (L := L.take k) (fun x hx => g3 x (List.mem_of_mem_take hx))
    have := shortL_len n
    simp at *; omega
  have HLEN := Lib.hid HLEN
  have HFL := Lib.hid (fun (x : Bop) (hx : x ∈ L) => formO_len (g3 x hx))
  clear g1 g2 g3 e1 e2 hg
  go_enter Tryz.func20, Tryz.ntmps20
  go_wp2_with fail
  refine HG.out.mono ?_
  rintro e w1 ⟨rfl, hb⟩
  go_wp2_with fail
  refine (HP.out _).mono ?_
  rintro e w2 ⟨A2, n2, c2, rfl, hf2, hb2⟩
  have hf2 : Fr w2 w.heap.size 5 A2 n2 c2 (bv (shortL n ++ formsO (L.take 0))) := by simpa [formsO] using hf2.mono hb.size
  have hb2 := bon hb hb2
  clear HG HP hb
  go_wp2_with fail
  go_loopw [4, 16] (fun ov iv wr => ∃ (k : Nat) (A : Option Addr) (m c : Nat), ov = .slice A m c ∧ iv = .int .i64 (k : Int) ∧ k ≤ n ∧ Fr wr w.heap.size 5 A m c (bv (shortL n ++ formsO (L.take k))) ∧ Below w.heap.size w wr) (fun _ iv _ => ((n : Int) - intOf iv).toNat)
  case atStart => exact ⟨0, A2, n2, c2, rfl, rfl, Nat.zero_le _, hf2, hb2⟩
  case round =>
    clear hf2 hb2
    obtain ⟨k, A3, m3, c3, rfl, rfl, hkn, hf, hbr⟩ := hrel
    by_cases hlt : k < n
    · obtain ⟨b, off, hA, hbB, hcell⟩ := h.form (by omega)
      subst hA
      obtain ⟨x, hx⟩ : ∃ x, L[k]? = some x := ⟨L[k]'(by omega), List.getElem?_eq_getElem _⟩
      have hk (i : Nat) : wr.cell? ⟨b, i, none⟩ = w.cell? ⟨b, i, none⟩ := hbr.cell (by simp; omega)
      obtain ⟨x0, x1, x2⟩ := hcell k x hx
      rw [← hk] at x0 x1 x2
      have hki : (k : Int) < (n : Int) := by omega
      have hk0 : (0 : Int) ≤ (k : Int) := by omega
      have hm3 : m3 ≤ 50000 := by have := HLEN.out k hkn; have := hf.len; simp at *; omega
      have hxl := HFL.out x (List.mem_of_getElem? hx)
      have HX := Lib.hid (take_snoc_of hx)
      have HO2 := Lib.hid (HO.out (wr.alloc (.cells #[.int .u8 (x.k : Int), .string x.s, .string x.v] 43)) x (List.mem_of_getElem? hx))
      have HBR := Lib.hid hbr
      have hbs := hbr.size
      clear hcell hk hx h hl hbr HO HLEN HFL
      go_wp2_with fail
      refine HO2.out.mono ?_
      rintro e w4 ⟨A4, m4, c4, rfl, hf4, hb4⟩
      have hm4 : m4 ≤ 341 := by have := hf4.len; simp at this; omega
      have hf5 := (hf.alloc (.cells #[.int .u8 (x.k : Int), .string x.s, .string x.v] 43)).below hb4
      have hbs4 : w.heap.size ≤ w4.heap.size := by have := hb4.size; simp at this; omega
      clear x0 x1 x2 hxl HO2
      go_wp2_with (at_builtin; refine wpList_app rfl (.tmp 20) (.tmp 22) _ rfl Tryz.underlying26 info_u8 rfl rfl hf5 rfl (hf4.rd (Nat.le_refl _)) (bv_one _) (by omega) (by omega) hbs4 ?_; intro A' c' w' hap)
      go_roundw
      case rel =>
        refine ⟨k + 1, A', m3 + m4, c', rfl, by simp, by omega, ?_, ?_⟩
        · rw [HX.out, formsO_app, formsO_one, ← List.append_assoc, bv_append]
          exact hap.fr
        · exact (bon (blit HBR.out _) hb4).trans hap.below
      case measure => simp [intOf]; omega
    · have hki : ¬ (k : Int) < (n : Int) := by omega
      obtain rfl : k = n := by omega
      have hfin : shortL k ++ formsO (L.take k) = groupL L := by
        unfold groupL
        rw [hl, List.take_of_length_le (by omega)]
      rw [hfin] at hf
      clear hfin h hl HO HLEN HFL
      go_wp2_with fail
      go_ret2
      exact ⟨A3, m3, c3, rfl, hf, hbr⟩
end Go.Proofs.YthgaiimgfnbkaaaGreatDoor
