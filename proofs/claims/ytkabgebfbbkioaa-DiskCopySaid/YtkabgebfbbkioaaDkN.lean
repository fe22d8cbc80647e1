/-
  Contract: Copy.
-/
import Derived.Test.YtkabgebfbbkioaaDkM
import Derived.Deep.RegionHeld3
import Derived.BigRegion
import Derived.Maps.OwnSet
namespace Go.Proofs.Ytkabgebfbbkioaa
open Go.RowKit Go.Maps Go.Sort

def idV (v : Value) : Value := v
theorem ballocD {a W : World} (h : Below a.heap.size a W) (o : Obj) : Below a.heap.size a (W.alloc o) := h.alloc h.size o

/-- A copy: a disk of its own, in new blocks, that is seen as the first one. -/
def CopyP (w : World) (m : MD) (e : Ending) (w' : World) : Prop :=
  ∃ S', e = .returned (.pointer (some ⟨S'.dp, 0, none⟩)) ∧ DiskAt w' S' ∧ see S' = m ∧ Below w.heap.size w w' ∧ ∀ k ∈ foot S', w.heap.size ≤ k

/-- What holds while the files are copied: what has been met is there, in order. -/
structure CopyR (w : World) (S : DiskS) (dp mb fb r0 : Nat) (wr : World) (left : Lit → Bool) (cnt : Nat) (fs : List (List UInt8 × FileS)) : Prop where
  rg : wr.ranges Try.prog 9 ptrR S.fb r0 S.fn (FD S.files) left cnt
  cp : DiskAt wr (copyS S dp mb fb fs)
  sees : seeF fs = (seeF S.files).filter (fun p => !left (.string p.1))
  ds : DiskAt wr S
  below : Below w.heap.size w wr
  new : ∀ k ∈ foot (copyS S dp mb fb fs), w.heap.size ≤ k ∧ k ≠ r0
  r0 : w.heap.size ≤ r0 ∧ r0 < wr.heap.size

/-- The iterator goes on: nothing else has turned. -/
theorem DiskAt.iter {w w' : World} {S : DiskS} (h : DiskAt w S) {r : Nat} (hg : w.grownBy w' (some r)) (hr : r ∉ foot S) : DiskAt w' S :=
  h.kept (fun k hk => hg.block k (h.there k hk) (fun e => hr (by cases e; exact hk))) hg.size

theorem ranges_kept {H : Type} {P : Program} {k : TypeId} {R : Value → Option (DataW H × List MemPlace)} {w w' : World} {b r n : Nat} {D : DataW H} {left : Lit → Bool} {cnt : Nat}
    (h : w.ranges P k R b r n D left cnt) (hb : w'.heap[b]? = w.heap[b]?) (hr : w'.heap[r]? = w.heap[r]?) : w'.ranges P k R b r n D left cnt := by
  obtain ⟨es, clock, since, seen, c0, h1, h2, h3, h4, h5, h6⟩ := h
  exact ⟨es, clock, since, seen, c0, hb.trans h1, h2, h3, h4, hr.trans h5, h6⟩
theorem len_FD {w : World} {b n : Nat} {fs : List (List UInt8 × FileS)} (h : w.ownsMap Try.prog 9 ptrR b n (FD fs)) : fs.length ≤ n := by
  have hz : Maps.size (FD fs) = fs.length := by simp [FD, Maps.size]
  obtain ⟨es, clock, hb, F, hs, e⟩ := h
  rw [e] at hz
  rw [← hz]
  simp [Maps.size, DataW.length_sorted]
  exact hs
theorem len_putF {fs : List (List UInt8 × FileS)} {s : List UInt8} {f : FileS} (h : lookF fs s = none) : (putF fs s f).length = fs.length + 1 := by
  unfold putF
  rw [cutF_none h]
  exact (insF_perm _ _).length_eq
theorem feet_putF {fs : List (List UInt8 × FileS)} {s : List UInt8} {f : FileS} (h : lookF fs s = none) {k : Nat} (hk : k ∈ feet (putF fs s f)) : k = f.blk ∨ f.row = some k ∨ k ∈ feet fs := by
  unfold putF at hk
  rw [cutF_none h] at hk
  have := (feet_perm (insF_perm (s, f) fs)).mem_iff.1 hk
  rw [feet_cons] at this
  simp only [List.mem_append, List.mem_cons] at this
  rcases this with (h1 | h1) | h1
  · exact .inl h1
  · right; left; simpa using h1
  · exact .inr (.inr h1)
theorem sees_none {S : DiskS} {fs : List (List UInt8 × FileS)} {left : Lit → Bool} (h : seeF fs = (seeF S.files).filter (fun p => !left (.string p.1))) {s : List UInt8} (hl : left (.string s) = true) : lookF fs s = none := by
  have h1 := look_see fs s
  cases hf : lookF fs s with
  | none => rfl
  | some f =>
    exfalso
    have hm := lookF_mem hf
    have h2 : (s, f.bytes, f.safe) ∈ seeF fs := List.mem_map.2 ⟨(s, f), hm, rfl⟩
    rw [h] at h2
    have := (List.mem_filter.1 h2).2
    simp only [hl] at this
    cases this
theorem sees_len {S : DiskS} {fs : List (List UInt8 × FileS)} {left : Lit → Bool} (h : seeF fs = (seeF S.files).filter (fun p => !left (.string p.1))) {s : List UInt8} {f : FileS} (hl : left (.string s) = true) (hf : lookF S.files s = some f) : fs.length < S.files.length := by
  have e1 : fs.length = (seeF fs).length := by simp [seeF]
  have e2 : S.files.length = (seeF S.files).length := by simp [seeF]
  rw [e1, e2, h]
  have hm : (s, f.bytes, f.safe) ∈ seeF S.files := List.mem_map.2 ⟨(s, f), lookF_mem hf, rfl⟩
  rcases Nat.lt_or_ge ((seeF S.files).filter (fun p => !left (.string p.1))).length (seeF S.files).length with h1 | h1
  · exact h1
  · exfalso
    have e := List.length_filter_eq_length_iff.1 (Nat.le_antisymm (List.length_filter_le _ _) h1) _ hm
    simp only [hl] at e
    cases e
theorem sees_next {w : World} {S : DiskS} {fs : List (List UInt8 × FileS)} {left : Lit → Bool} (hD : DiskAt w S) (h : seeF fs = (seeF S.files).filter (fun p => !left (.string p.1))) {s : List UInt8} {f f' : FileS} (hl : left (.string s) = true) (hf : lookF S.files s = some f)
    (hb : f'.bytes = f.bytes) (hs : f'.safe = f.safe) : seeF (putF fs s f') = (seeF S.files).filter (fun p => !(left (.string p.1) && !(Lit.string p.1).sameKey (.string s))) := by
  have hrise : (seeF S.files).Pairwise (fun p q => bytesBefore p.1 q.1 = true) := by
    obtain ⟨es, e, hpw, -⟩ := hD.names.canon keyed_s
    injection e with e
    subst e
    unfold seeF
    rw [List.pairwise_map] at hpw ⊢
    exact hpw.imp fun {a b} hab => hab
  have hnd : nodupM (seeF S.files) := by
    have := keys_nodup (hD.names.canon keyed_s)
    show ((seeF S.files).map (·.1)).Nodup
    unfold seeF
    rw [List.map_map]
    exact this
  have hlk : lookM (seeF S.files) s = some (f'.bytes, f'.safe) := by rw [look_see, hf, hb, hs]; rfl
  rw [put_see, h, putM_filter hrise hnd (P := fun z => !left (.string z)) hlk (by simp only [hl]; rfl)]
  refine List.filter_congr fun p _ => ?_
  rw [sk]
  cases left (.string p.1) <;> cases (p.1 == s) <;> rfl

/-- A file's copy is put. -/
theorem copy_store {w w1 W : World} {S : DiskS} {dp mb fb r0 cnt1 : Nat} {left : Lit → Bool} {fs : List (List UInt8 × FileS)} {f : FileS} {x : ByteArray} {A : Option Addr} {n c cap' : Nat}
    (hcp : DiskAt w1 (copyS S dp mb fb fs)) (hsees : seeF fs = (seeF S.files).filter (fun p => !left (.string p.1))) (hds : DiskAt w1 S) (hbl : Below w.heap.size w w1) (hnew : ∀ k ∈ foot (copyS S dp mb fb fs), w.heap.size ≤ k ∧ k ≠ r0)
    (hr0 : w.heap.size ≤ r0) (hr1 : r0 < w1.heap.size) (hth : ∀ k ∈ foot S, k < w.heap.size) (hrg1 : w1.ranges Try.prog 9 ptrR S.fb r0 S.fn (FD S.files) (fun z => left z && !z.sameKey (.string x.data.toList)) cnt1)
    (hW : Below w1.heap.size w1 W) (hA : Fr W w1.heap.size 5 A n c (bv f.bytes)) (hlf : lookF S.files x.data.toList = some f) (hlx : left (.string x.data.toList) = true) (hsx : x.size ≤ maxLen) (hfn : S.files.length ≤ 8000000) (hsafe : f.safe ≤ f.bytes.length)
    (hc0 : w1.cell? ⟨f.blk, 0, none⟩ = some (.slice (rowAt f.row) f.bytes.length cap')) (hc1 : w1.cell? ⟨f.blk, 1, none⟩ = some (.int .i64 (f.safe : Int))) :
    ∃ w6 fs', (Instr.mapUpdate 72 (.map (some fb)) (.string x) (.pointer (some ⟨W.heap.size, 0, none⟩))).run Try.prog (W.alloc (.cells #[.slice A n c, .int .i64 (f.safe : Int)] 83)) = .ok () w6 ∧
      CopyR w S dp mb fb r0 w6 (fun z => left z && !z.sameKey (.string x.data.toList)) cnt1 fs' ∧ w6.cell? ⟨f.blk, 0, none⟩ = some (.slice (rowAt f.row) f.bytes.length cap') ∧ w6.cell? ⟨f.blk, 1, none⟩ = some (.int .i64 (f.safe : Int)) ∧ w6.cell? ⟨dp, 5, none⟩ = some (.map (some fb)) := by
  obtain ⟨W', hW'⟩ : ∃ W', W' = W.alloc (.cells #[.slice A n c, .int .i64 (f.safe : Int)] 83) := ⟨_, rfl⟩
  rw [← hW']
  have hbW : Below w1.heap.size w1 W' := by rw [hW']; exact hW.alloc hW.size _
  have hWs : W'.heap.size = W.heap.size + 1 := by rw [hW']; simp
  have hcpW : DiskAt W' (copyS S dp mb fb fs) := hcp.kept (fun k hk => hbW.block k (hcp.there k hk)) hbW.size
  have hdsW : DiskAt W' S := hds.kept (fun k hk => hbW.block k (hds.there k hk)) hbW.size
  have hnone := sees_none hsees hlx
  have hlen := sees_len hsees hlx hlf
  have hle := len_FD hds.names
  have hfew := hds.few
  have hfb1 : fb ∈ foot (copyS S dp mb fb fs) := by simp [foot, copyS]
  have hfbw := (hnew _ hfb1).1
  have hfbr := (hnew _ hfb1).2
  have hfb2 := hcp.there _ hfb1
  have hdp1 : dp ∈ foot (copyS S dp mb fb fs) := by simp [foot, copyS]
  have hdp2 := hcp.there _ hdp1
  have hlt : fs.length < maxLen := by unfold maxLen; omega
  obtain ⟨w6, hrun, hown, htn⟩ := hcpW.names.store keyed_s Try.underlying72 hlt (key_s hsx) (val := .pointer (some ⟨W.heap.size, 0, none⟩)) (d := .lit (.int .i64 (W.heap.size : Int))) (ps := []) rfl
  have hoff : Off [fb] W' w6 := off_of_turned htn
  obtain ⟨row, hrow⟩ : ∃ row : Option Nat, rowAt row = A ∧ ∀ g, row = some g → w1.heap.size ≤ g ∧ g < W.heap.size := by
    cases A with
    | none => exact ⟨none, rfl, fun g e => by cases e⟩
    | some ad =>
      obtain ⟨h1, h2, h3, h4, -⟩ := hA.frozen ad rfl
      refine ⟨some ad.block, ?_, fun g e => by cases e; exact ⟨h1, h2⟩⟩
      unfold rowAt
      simp only [Option.map_some]
      rw [← h3, ← h4]
  obtain ⟨hrowA, hrowb⟩ := hrow
  subst hrowA
  have hn : n = f.bytes.length := by have := hA.len; simpa using this.symm
  subst hn
  have hown' : w6.ownsMap Try.prog 9 ptrR fb (fs.length + 1) (FD (putF fs x.data.toList ⟨W.heap.size, row, f.bytes, f.safe⟩)) := by
    rw [← put_FD fs x.data.toList ⟨W.heap.size, row, f.bytes, f.safe⟩]
    exact hown
  have hne : ∀ k, w1.heap.size ≤ k → k ∉ [fb] := fun k hk hm => by have := List.mem_singleton.1 hm; omega
  have hf6 : FileAt w6 ⟨W.heap.size, row, f.bytes, f.safe⟩ := by
    refine ⟨⟨c, ?_, ?_⟩, hsafe⟩
    · show w6.heap[W.heap.size]? = _
      rw [hoff.block _ (by omega) (hne _ hW.size), hW']
      exact heap_alloc_new _ _
    · refine Fr.kept (r := row) ((hA.alloc (.cells #[.slice (rowAt row) f.bytes.length c, .int .i64 (f.safe : Int)] 83)).mono (Nat.zero_le _)) (fun g hg => ?_)
      obtain ⟨g1, g2⟩ := hrowb g hg
      rw [← hW']
      exact hoff.block _ (by omega) (hne _ g1)
  have hput := hcpW.put (s := x.data.toList) (f := ⟨W.heap.size, row, f.bytes, f.safe⟩) hnone hown' (fun k hk hkf => hoff.block k (hcpW.there k hk) (fun hm => hkf (List.mem_singleton.1 hm))) hoff.size hf6
    (fun hm => by have := hcp.there _ hm; have := hW.size; simp only [] at *; omega)
    (fun g hg => by
      obtain ⟨g1, g2⟩ := hrowb g hg
      refine ⟨fun hm => ?_, ?_, ?_⟩
      · have := hcp.there _ hm; omega
      · show g ≠ W.heap.size; omega
      · have := hoff.size; omega)
    (by show (fs.length : Int) + 1 ≤ S.calls; omega)
  have hcp6 : DiskAt w6 (copyS S dp mb fb (putF fs x.data.toList ⟨W.heap.size, row, f.bytes, f.safe⟩)) := by
    have e : copyS S dp mb fb (putF fs x.data.toList ⟨W.heap.size, row, f.bytes, f.safe⟩) = { copyS S dp mb fb fs with fn := (copyS S dp mb fb fs).fn + 1, files := putF (copyS S dp mb fb fs).files x.data.toList ⟨W.heap.size, row, f.bytes, f.safe⟩ } := by
      unfold copyS
      rw [len_putF hnone]
    rw [e]
    exact hput
  have kS : ∀ k ∈ foot S, w6.heap[k]? = w1.heap[k]? := fun k hk => by
    have := hth k hk
    have h1 := hds.there k hk
    rw [hoff.block k (by have := hbW.size; omega) (fun hm => by have := List.mem_singleton.1 hm; omega)]
    exact hbW.block k h1
  have hSfb : S.fb ∈ foot S := by simp [foot]
  have hfS : f.blk ∈ foot S := (hds.file hlf).2.1
  refine ⟨w6, _, hrun, ⟨ranges_kept hrg1 (kS _ hSfb) ?_, hcp6, ?_, ?_, ?_, ?_, hr0, ?_⟩, ?_, ?_, ?_⟩
  · rw [hoff.block r0 (by have := hbW.size; omega) (fun hm => hfbr (List.mem_singleton.1 hm).symm)]
    exact hbW.block r0 hr1
  · exact sees_next hds hsees hlx hlf rfl rfl
  · exact hds.kept kS (Nat.le_trans hbW.size hoff.size)
  · exact (hbl.trans (hbW.mono hbl.size)).trans (hoff.below (Nat.le_trans hbl.size hbW.size) (fun k hk => by rw [List.mem_singleton.1 hk]; exact hfbw))
  · intro k hk
    have hk' : k ∈ dp :: mb :: fb :: feet (putF fs x.data.toList ⟨W.heap.size, row, f.bytes, f.safe⟩) := hk
    have hin : k ∈ foot (copyS S dp mb fb fs) ∨ k = W.heap.size ∨ row = some k := by
      simp only [List.mem_cons] at hk'
      rcases hk' with h | h | h | h
      · left; simp [foot, copyS, h]
      · left; simp [foot, copyS, h]
      · left; simp [foot, copyS, h]
      · rcases feet_putF hnone h with h | h | h
        · exact .inr (.inl h)
        · exact .inr (.inr h)
        · left; simp only [foot, copyS, List.mem_cons]; exact .inr (.inr (.inr h))
    rcases hin with h | h | h
    · exact hnew _ h
    · have := hW.size; have := hbl.size; omega
    · obtain ⟨g1, g2⟩ := hrowb k h
      have := hbl.size; omega
  · have := hbW.size; have := hoff.size; omega
  · simp only [World.cell?, kS _ hfS] at hc0 ⊢; exact hc0
  · simp only [World.cell?, kS _ hfS] at hc1 ⊢; exact hc1
  · have hd := hcp6.cells.c5
    exact hd

set_option maxRecDepth 100000 in
set_option maxHeartbeats 4000000 in
theorem copy_c {w : World} {S : DiskS} (h : DiskAt w S) (hf : ∀ p ∈ S.files, p.2.bytes.length ≤ 70368744177664) (hfn : S.files.length ≤ 8000000) :
    Calls Try.prog 25 #[.pointer (some ⟨S.dp, 0, none⟩)] w (CopyP w (see S)) := by
  have hmm := @run_makeMap Try.prog
  obtain ⟨es, cl, hpb, -⟩ := h.parts
  have hdl : S.dp < w.heap.size := h.there _ (by simp [foot])
  have hml : S.mb < w.heap.size := h.there _ (by simp [foot])
  have hc := h.cells
  have HSK := Lib.hid (fun (W : World) (hb : Below w.heap.size w W) => show Below w.heap.size w W ∧ W.cell? ⟨S.dp, 1, none⟩ = some (.int .i64 S.cap) ∧ W.cell? ⟨S.dp, 2, none⟩ = some (.int .i64 S.used) ∧ W.cell? ⟨S.dp, 3, none⟩ = some (.int .i64 S.calls) ∧ W.cell? ⟨S.dp, 4, none⟩ = some (.map (some S.mb)) from
    ⟨hb, (hb.cell (p := ⟨S.dp, 1, none⟩) hdl).trans hc.c1, (hb.cell (p := ⟨S.dp, 2, none⟩) hdl).trans hc.c2, (hb.cell (p := ⟨S.dp, 3, none⟩) hdl).trans hc.c3, (hb.cell (p := ⟨S.dp, 4, none⟩) hdl).trans hc.c4⟩)
  have HM := Lib.hid (fun (W : World) (hb : Below w.heap.size w W) => show W.heap[S.mb]? = some (.map es cl) from (hb.block _ hml).trans hpb)
  have HD := Lib.hid (fun (W : World) (hb : Below w.heap.size w W) => show DiskAt W S ∧ W.cell? ⟨S.dp, 5, none⟩ = some (.map (some S.fb)) from
    ⟨h.kept (fun k hk => hb.block k (h.there k hk)) hb.size, (hb.cell (p := ⟨S.dp, 5, none⟩) hdl).trans hc.c5⟩)
  have hb0 : Below w.heap.size w w := Below.refl _ _
  have H := Lib.hid h
  have HP := Lib.hid hpb
  have HF := Lib.hid hf
  obtain ⟨_, x1, x2, x3, x4⟩ := HSK.out w hb0
  clear h hc hpb hf
  go_enter Try.func25, Try.ntmps25
  go_wp2_with fail
  refine (made_c H.out).mono ?_
  rintro e w1 ⟨rfl, rfl⟩
  go_wp2_with fail
  go_region_held3 (fun w' => Below w.heap.size w w' ∧ w'.cell? ⟨S.dp, 1, none⟩ = some (.int .i64 S.cap) ∧ w'.cell? ⟨S.dp, 2, none⟩ = some (.int .i64 S.used) ∧ w'.cell? ⟨S.dp, 3, none⟩ = some (.int .i64 S.calls) ∧ w'.cell? ⟨S.dp, 4, none⟩ = some (.map (some S.mb)))
    ((first | assumption | exact HSK.out _ (by assumption) | exact HSK.out _ (Below.drew hb0) | exact HSK.out _ (ballocD (And.left (by assumption)) _)))
    ((go_at_call 53; refine (clone_m (HM.out _ (And.left (by assumption)))).mono ?_; rintro e w' ⟨rfl, rfl⟩))
  · rename_i hHeld
    clear hHeld
    obtain ⟨g, hg⟩ : ∃ g, w.heap.size = g := ⟨_, rfl⟩
    obtain ⟨W, hW⟩ : ∃ W, W = (((w.alloc (.map es cl)).alloc (.map #[] 0)).alloc (.cells #[.pointer (some ⟨g + 1 + 1, 0, none⟩), .int .i64 S.cap, .int .i64 S.used, .int .i64 S.calls, .map (some (g)), .map (some (g + 1))] 74)).drew := ⟨_, rfl⟩
    have hbW : Below w.heap.size w W := by rw [hW]; exact (ballocD (ballocD (ballocD hb0 _) _) _).drew
    have hWs : W.heap.size = g + 3 := by rw [hW, ← hg]; show (((w.alloc _).alloc _).alloc _).heap.size = _; simp
    have k0 : W.heap[g]? = some (.map es cl) := by
      rw [hW, ← hg]
      show (((w.alloc _).alloc _).alloc _).heap[w.heap.size]? = _
      rw [heap_alloc_old _ _ (by simp; omega), heap_alloc_old _ _ (by simp), heap_alloc_new]
    have k1 : W.heap[g + 1]? = some (.map #[] 0) := by
      rw [hW, ← hg]
      show (((w.alloc _).alloc _).alloc _).heap[w.heap.size + 1]? = _
      rw [heap_alloc_old _ _ (by simp)]
      exact heap_alloc2_new _ _ _
    have k2 : W.heap[g + 1 + 1]? = some (.cells #[.pointer (some ⟨g + 1 + 1, 0, none⟩), .int .i64 S.cap, .int .i64 S.used, .int .i64 S.calls, .map (some (g)), .map (some (g + 1))] 74) := by
      rw [hW, ← hg]
      show (((w.alloc _).alloc _).alloc _).heap[w.heap.size + 1 + 1]? = _
      have e : w.heap.size + 1 + 1 = ((w.alloc (.map es cl)).alloc (.map #[] 0)).heap.size := by simp
      rw [e]
      exact heap_alloc_new _ _
    have hC : DiskAt W (copyS S (g + 1 + 1) (g) (g + 1) []) := copy_start H.out (by rw [HP.out]; exact k0) k1 k2 (by omega)
    obtain ⟨hdS, y5⟩ := HD.out W hbW
    have HBW := Lib.hid hbW
    have HC := Lib.hid hC
    have HDS := Lib.hid hdS
    have hown := hdS.names
    have hWs' : W.heap.size = g + 1 + 1 + 1 := hWs
    clear k0 k1 k2 hC hdS hbW
    rw [hW] at y5 hown
    rw [hg]
    go_wp2_with (at_range; refine wpList_range_own _ rfl _ 72 rfl 9 80 keyed_s Try.underlying72 ptrR S.fb S.fn _ rfl hown ?_; intro w0 hrg0 hg0 hs0; rw [← hW] at hrg0 hg0 hs0 ⊢; rw [hWs'] at hrg0 ⊢)
    have hRG : ∃ left cnt fs, CopyR w S (g + 1 + 1) (g) (g + 1) (g + 1 + 1 + 1) w0 left cnt fs := by
      refine ⟨_, _, [], hrg0, ?_, ?_, ?_, ?_, ?_, ?_⟩
      · exact HC.out.kept (fun k hk => hg0.block k (HC.out.there k hk) (fun e => by cases e)) hg0.size
      · symm
        rw [show seeF [] = [] from rfl, List.filter_eq_nil_iff]
        intro p hp
        rw [has_FD]
        obtain ⟨q, hq, rfl⟩ := List.mem_map.1 hp
        have : (lookF S.files q.1).isSome = true := by
          unfold lookF
          simp only [Option.isSome_map, List.find?_isSome]
          exact ⟨q, hq, by simp⟩
        rw [this]; decide
      · exact HDS.out.kept (fun k hk => hg0.block k (HDS.out.there k hk) (fun e => by cases e)) hg0.size
      · exact HBW.out.grown hg0 HBW.out.size (fun k e => by cases e)
      · intro k hk
        have hk : k ∈ (g + 1 + 1) :: (g) :: (g + 1) :: feet [] := hk
        simp [feet] at hk
        omega
      · exact ⟨by omega, by omega⟩
    clear hrg0 hg0 hs0 y5 hown
    have HMM := Lib.hid hmm
    clear hW hmm x1 x2 x3 x4
    go_wp2_with fail
    go_frame
    go_loopw [4] (fun _ wr => ∃ left cnt fs, CopyR w S (g + 1 + 1) (g) (g + 1) (g + 1 + 1 + 1) wr left cnt fs) (fun _ wr => wr.rangeLeft S.fb (g + 1 + 1 + 1))
    case atStart => exact hRG
    case round =>
      clear hRG
      obtain ⟨left, cnt, fs, hr⟩ := hrel
      go_wp2_with (at_next; refine wpList_next_ranges _ rfl _ rfl 9 keyed_s ptrR Value.string idV (fun key kl hk => Go.Maps.keyOf_string_inv Try.underlying9 hk) (fun v y hv => ⟨v, rfl⟩) S.fb (g + 1 + 1 + 1) S.fn _ _ _ rfl hr.rg ?_ ?_)
      · intro _ hall
        have hsee : seeF fs = seeF S.files := by rw [hr.sees, List.filter_eq_self]; intro p _; rw [hall]; rfl
        have hcp := hr.cp
        have hbl := hr.below
        have hnw := fun k hk => (hr.new k hk).1
        have hfin : CopyP w (see S) (.returned (.pointer (some ⟨g + 1 + 1, 0, none⟩))) wr := ⟨_, rfl, hcp, by unfold see; rw [← hsee]; rfl, hbl, hnw⟩
        have HFIN := Lib.hid hfin
        clear hfin hcp hbl hnw hsee hr
        go_wp2_with fail
        go_ret
        exact HFIN.out
      · intro x v kl y1 y2 w1 cnt1 hkx hlx hy hat hrg1 hlt hg1 hs1 hen
        rw [show idV v = v from rfl] at hy hen ⊢
        obtain ⟨hsx, rfl, f, hlf, rfl⟩ := meetsD hkx hy hat
        obtain ⟨hrg0, hcp, hsees, hds, hbl, hnew, hr0, hr0'⟩ := hr
        have hnr : (g + 1 + 1 + 1) ∉ foot S := fun hm => by have := H.out.there _ hm; omega
        have hnc : (g + 1 + 1 + 1) ∉ foot (copyS S (g + 1 + 1) (g) (g + 1) fs) := fun hm => (hnew _ hm).2 rfl
        have hcp1 := hcp.iter hg1 hnc
        have hds1 := hds.iter hg1 hnr
        have hbl1 : Below w.heap.size w w1 := hbl.grown hg1 hbl.size (fun k e => by cases e; exact hr0)
        obtain ⟨hfa, hfb1, hfb2, hfb3⟩ := hds1.file hlf
        obtain ⟨⟨cap', hhead, hfr⟩, hsafe⟩ := hfa
        have hnone := sees_none hsees (s := x.data.toList) hlx
        have hlen := sees_len hsees (s := x.data.toList) hlx hlf
        have hnext := fun f' => sees_next (f' := f') hds1 hsees (s := x.data.toList) hlx hlf
        have hle := len_FD hds1.names
        have hfew := hds1.few
        have hbytes := HF.out _ (lookF_mem hlf)
        have y0 : w1.cell? ⟨f.blk, 0, none⟩ = some (.slice (rowAt f.row) f.bytes.length cap') := by simp [World.cell?, hhead]
        have y1' : w1.cell? ⟨f.blk, 1, none⟩ = some (.int .i64 (f.safe : Int)) := by simp [World.cell?, hhead]
        have y5 : w1.cell? ⟨g + 1 + 1, 5, none⟩ = some (.map (some (g + 1))) := hcp1.cells.c5
        have hfl : f.blk < w1.heap.size := hfb3
        have hdl' : g + 1 + 1 < w1.heap.size := hcp1.there _ (by simp [foot, copyS])
        have hrd := hfr.rd (B := w1.heap.size) (Nat.le_refl _)
        have HSK2 := Lib.hid (fun (W : World) (hb : Below w1.heap.size w1 W) => show W.cell? ⟨f.blk, 0, none⟩ = some (.slice (rowAt f.row) f.bytes.length cap') ∧ W.cell? ⟨f.blk, 1, none⟩ = some (.int .i64 (f.safe : Int)) ∧ W.cell? ⟨g + 1 + 1, 5, none⟩ = some (.map (some (g + 1))) from
          ⟨(hb.cell (p := ⟨f.blk, 0, none⟩) hfl).trans y0, (hb.cell (p := ⟨f.blk, 1, none⟩) hfl).trans y1', (hb.cell (p := ⟨g + 1 + 1, 5, none⟩) hdl').trans y5⟩)
        have HCL := Lib.hid (fun (W : World) (hb : Below w1.heap.size w1 W) => show Calls Try.prog 43 #[.slice (rowAt f.row) f.bytes.length cap'] W (RetB W f.bytes) from sclone_c (hrd.below hb) hb.size hbytes)
        have HST := Lib.hid (fun (W : World) (hb : Below w1.heap.size w1 W) (A : Option Addr) (n c : Nat) (hA : Fr W w1.heap.size 5 A n c (bv f.bytes)) =>
          copy_store (r0 := g + 1 + 1 + 1) (left := left) hcp1 hsees hds1 hbl1 hnew hr0 (by omega) H.out.there hrg1 hb hA hlf hlx hsx hfn hsafe y0 y1')
        have hb1 : Below w1.heap.size w1 w1 := Below.refl _ _
        obtain ⟨z0, z1, z5⟩ := HSK2.out w1 hb1
        have HLT := Lib.hid hlt
        have HRG := Lib.hid hrg0
        clear hrg0 hrg1 hcp hsees hds hbl hnew hcp1 hds1 hbl1 hhead hfr hnone hlen hnext hle hfew hbytes hrd y0 y1' y5 hat hy hlf hfb1 hfb2
        go_wp2_with fail
        go_region_held3 (fun w' => w'.cell? ⟨f.blk, 0, none⟩ = some (.slice (rowAt f.row) f.bytes.length cap') ∧ w'.cell? ⟨f.blk, 1, none⟩ = some (.int .i64 (f.safe : Int)) ∧ w'.cell? ⟨g + 1 + 1, 5, none⟩ = some (.map (some (g + 1))))
          ((first | assumption | exact HSK2.out _ hb5' | exact HSK2.out _ (ballocD hb5' _) | exact HSK2.out _ (Below.drew hb1)))
          ((go_at_call 43; refine (HCL.out _ (Below.drew hb1)).mono ?_; rintro e w5 ⟨A5, n5, c5, rfl, hf5, hb5⟩; have hb5' := bonD (Below.drew hb1) hb5; obtain ⟨w6, fs', hrun, hR6, hS6⟩ := HST.out w5 hb5' A5 n5 c5 (hf5.mono (Below.drew hb1).size)))
        go_wp2_with fail
        go_roundw
        case rel => exact ⟨_, _, fs', hR6⟩
        case measure => rw [hR6.rg.left_eq, HRG.out.left_eq]; exact HLT.out
  · rename_i hHeld
    clear hHeld
    obtain ⟨g, hg⟩ : ∃ g, w.heap.size = g := ⟨_, rfl⟩
    obtain ⟨W, hW⟩ : ∃ W, W = (((w.alloc (.map #[] 0)).alloc (.map es cl)).alloc (.cells #[.pointer (some ⟨g + 1 + 1, 0, none⟩), .int .i64 S.cap, .int .i64 S.used, .int .i64 S.calls, .map (some (g + 1)), .map (some (g))] 74)).drew := ⟨_, rfl⟩
    have hbW : Below w.heap.size w W := by rw [hW]; exact (ballocD (ballocD (ballocD hb0 _) _) _).drew
    have hWs : W.heap.size = g + 3 := by rw [hW, ← hg]; show (((w.alloc _).alloc _).alloc _).heap.size = _; simp
    have k0 : W.heap[g]? = some (.map #[] 0) := by
      rw [hW, ← hg]
      show (((w.alloc _).alloc _).alloc _).heap[w.heap.size]? = _
      rw [heap_alloc_old _ _ (by simp; omega), heap_alloc_old _ _ (by simp), heap_alloc_new]
    have k1 : W.heap[g + 1]? = some (.map es cl) := by
      rw [hW, ← hg]
      show (((w.alloc _).alloc _).alloc _).heap[w.heap.size + 1]? = _
      rw [heap_alloc_old _ _ (by simp)]
      exact heap_alloc2_new _ _ _
    have k2 : W.heap[g + 1 + 1]? = some (.cells #[.pointer (some ⟨g + 1 + 1, 0, none⟩), .int .i64 S.cap, .int .i64 S.used, .int .i64 S.calls, .map (some (g + 1)), .map (some (g))] 74) := by
      rw [hW, ← hg]
      show (((w.alloc _).alloc _).alloc _).heap[w.heap.size + 1 + 1]? = _
      have e : w.heap.size + 1 + 1 = ((w.alloc (.map #[] 0)).alloc (.map es cl)).heap.size := by simp
      rw [e]
      exact heap_alloc_new _ _
    have hC : DiskAt W (copyS S (g + 1 + 1) (g + 1) (g) []) := copy_start H.out (by rw [HP.out]; exact k1) k0 k2 (by omega)
    obtain ⟨hdS, y5⟩ := HD.out W hbW
    have HBW := Lib.hid hbW
    have HC := Lib.hid hC
    have HDS := Lib.hid hdS
    have hown := hdS.names
    have hWs' : W.heap.size = g + 1 + 1 + 1 := hWs
    clear k0 k1 k2 hC hdS hbW
    rw [hW] at y5 hown
    rw [hg]
    go_wp2_with (at_range; refine wpList_range_own _ rfl _ 72 rfl 9 80 keyed_s Try.underlying72 ptrR S.fb S.fn _ rfl hown ?_; intro w0 hrg0 hg0 hs0; rw [← hW] at hrg0 hg0 hs0 ⊢; rw [hWs'] at hrg0 ⊢)
    have hRG : ∃ left cnt fs, CopyR w S (g + 1 + 1) (g + 1) (g) (g + 1 + 1 + 1) w0 left cnt fs := by
      refine ⟨_, _, [], hrg0, ?_, ?_, ?_, ?_, ?_, ?_⟩
      · exact HC.out.kept (fun k hk => hg0.block k (HC.out.there k hk) (fun e => by cases e)) hg0.size
      · symm
        rw [show seeF [] = [] from rfl, List.filter_eq_nil_iff]
        intro p hp
        rw [has_FD]
        obtain ⟨q, hq, rfl⟩ := List.mem_map.1 hp
        have : (lookF S.files q.1).isSome = true := by
          unfold lookF
          simp only [Option.isSome_map, List.find?_isSome]
          exact ⟨q, hq, by simp⟩
        rw [this]; decide
      · exact HDS.out.kept (fun k hk => hg0.block k (HDS.out.there k hk) (fun e => by cases e)) hg0.size
      · exact HBW.out.grown hg0 HBW.out.size (fun k e => by cases e)
      · intro k hk
        have hk : k ∈ (g + 1 + 1) :: (g + 1) :: (g) :: feet [] := hk
        simp [feet] at hk
        omega
      · exact ⟨by omega, by omega⟩
    clear hrg0 hg0 hs0 y5 hown
    have HMM := Lib.hid hmm
    clear hW hmm x1 x2 x3 x4
    go_wp2_with fail
    go_frame
    go_loopw [4] (fun _ wr => ∃ left cnt fs, CopyR w S (g + 1 + 1) (g + 1) (g) (g + 1 + 1 + 1) wr left cnt fs) (fun _ wr => wr.rangeLeft S.fb (g + 1 + 1 + 1))
    case atStart => exact hRG
    case round =>
      clear hRG
      obtain ⟨left, cnt, fs, hr⟩ := hrel
      go_wp2_with (at_next; refine wpList_next_ranges _ rfl _ rfl 9 keyed_s ptrR Value.string idV (fun key kl hk => Go.Maps.keyOf_string_inv Try.underlying9 hk) (fun v y hv => ⟨v, rfl⟩) S.fb (g + 1 + 1 + 1) S.fn _ _ _ rfl hr.rg ?_ ?_)
      · intro _ hall
        have hsee : seeF fs = seeF S.files := by rw [hr.sees, List.filter_eq_self]; intro p _; rw [hall]; rfl
        have hcp := hr.cp
        have hbl := hr.below
        have hnw := fun k hk => (hr.new k hk).1
        have hfin : CopyP w (see S) (.returned (.pointer (some ⟨g + 1 + 1, 0, none⟩))) wr := ⟨_, rfl, hcp, by unfold see; rw [← hsee]; rfl, hbl, hnw⟩
        have HFIN := Lib.hid hfin
        clear hfin hcp hbl hnw hsee hr
        go_wp2_with fail
        go_ret
        exact HFIN.out
      · intro x v kl y1 y2 w1 cnt1 hkx hlx hy hat hrg1 hlt hg1 hs1 hen
        rw [show idV v = v from rfl] at hy hen ⊢
        obtain ⟨hsx, rfl, f, hlf, rfl⟩ := meetsD hkx hy hat
        obtain ⟨hrg0, hcp, hsees, hds, hbl, hnew, hr0, hr0'⟩ := hr
        have hnr : (g + 1 + 1 + 1) ∉ foot S := fun hm => by have := H.out.there _ hm; omega
        have hnc : (g + 1 + 1 + 1) ∉ foot (copyS S (g + 1 + 1) (g + 1) (g) fs) := fun hm => (hnew _ hm).2 rfl
        have hcp1 := hcp.iter hg1 hnc
        have hds1 := hds.iter hg1 hnr
        have hbl1 : Below w.heap.size w w1 := hbl.grown hg1 hbl.size (fun k e => by cases e; exact hr0)
        obtain ⟨hfa, hfb1, hfb2, hfb3⟩ := hds1.file hlf
        obtain ⟨⟨cap', hhead, hfr⟩, hsafe⟩ := hfa
        have hnone := sees_none hsees (s := x.data.toList) hlx
        have hlen := sees_len hsees (s := x.data.toList) hlx hlf
        have hnext := fun f' => sees_next (f' := f') hds1 hsees (s := x.data.toList) hlx hlf
        have hle := len_FD hds1.names
        have hfew := hds1.few
        have hbytes := HF.out _ (lookF_mem hlf)
        have y0 : w1.cell? ⟨f.blk, 0, none⟩ = some (.slice (rowAt f.row) f.bytes.length cap') := by simp [World.cell?, hhead]
        have y1' : w1.cell? ⟨f.blk, 1, none⟩ = some (.int .i64 (f.safe : Int)) := by simp [World.cell?, hhead]
        have y5 : w1.cell? ⟨g + 1 + 1, 5, none⟩ = some (.map (some (g))) := hcp1.cells.c5
        have hfl : f.blk < w1.heap.size := hfb3
        have hdl' : g + 1 + 1 < w1.heap.size := hcp1.there _ (by simp [foot, copyS])
        have hrd := hfr.rd (B := w1.heap.size) (Nat.le_refl _)
        have HSK2 := Lib.hid (fun (W : World) (hb : Below w1.heap.size w1 W) => show W.cell? ⟨f.blk, 0, none⟩ = some (.slice (rowAt f.row) f.bytes.length cap') ∧ W.cell? ⟨f.blk, 1, none⟩ = some (.int .i64 (f.safe : Int)) ∧ W.cell? ⟨g + 1 + 1, 5, none⟩ = some (.map (some (g))) from
          ⟨(hb.cell (p := ⟨f.blk, 0, none⟩) hfl).trans y0, (hb.cell (p := ⟨f.blk, 1, none⟩) hfl).trans y1', (hb.cell (p := ⟨g + 1 + 1, 5, none⟩) hdl').trans y5⟩)
        have HCL := Lib.hid (fun (W : World) (hb : Below w1.heap.size w1 W) => show Calls Try.prog 43 #[.slice (rowAt f.row) f.bytes.length cap'] W (RetB W f.bytes) from sclone_c (hrd.below hb) hb.size hbytes)
        have HST := Lib.hid (fun (W : World) (hb : Below w1.heap.size w1 W) (A : Option Addr) (n c : Nat) (hA : Fr W w1.heap.size 5 A n c (bv f.bytes)) =>
          copy_store (r0 := g + 1 + 1 + 1) (left := left) hcp1 hsees hds1 hbl1 hnew hr0 (by omega) H.out.there hrg1 hb hA hlf hlx hsx hfn hsafe y0 y1')
        have hb1 : Below w1.heap.size w1 w1 := Below.refl _ _
        obtain ⟨z0, z1, z5⟩ := HSK2.out w1 hb1
        have HLT := Lib.hid hlt
        have HRG := Lib.hid hrg0
        clear hrg0 hrg1 hcp hsees hds hbl hnew hcp1 hds1 hbl1 hhead hfr hnone hlen hnext hle hfew hbytes hrd y0 y1' y5 hat hy hlf hfb1 hfb2
        go_wp2_with fail
        go_region_held3 (fun w' => w'.cell? ⟨f.blk, 0, none⟩ = some (.slice (rowAt f.row) f.bytes.length cap') ∧ w'.cell? ⟨f.blk, 1, none⟩ = some (.int .i64 (f.safe : Int)) ∧ w'.cell? ⟨g + 1 + 1, 5, none⟩ = some (.map (some (g))))
          ((first | assumption | exact HSK2.out _ hb5' | exact HSK2.out _ (ballocD hb5' _) | exact HSK2.out _ (Below.drew hb1)))
          ((go_at_call 43; refine (HCL.out _ (Below.drew hb1)).mono ?_; rintro e w5 ⟨A5, n5, c5, rfl, hf5, hb5⟩; have hb5' := bonD (Below.drew hb1) hb5; obtain ⟨w6, fs', hrun, hR6, hS6⟩ := HST.out w5 hb5' A5 n5 c5 (hf5.mono (Below.drew hb1).size)))
        go_wp2_with fail
        go_roundw
        case rel => exact ⟨_, _, fs', hR6⟩
        case measure => rw [hR6.rg.left_eq, HRG.out.left_eq]; exact HLT.out
end Go.Proofs.Ytkabgebfbbkioaa
