/-
  All that a disk has, as a map: the contract of files.
-/
import Derived.Test.YtkabgebfbbkioaaDkC
import Derived.Maps.OwnSet
namespace Go.Proofs.Ytkabgebfbbkioaa
open Go.RowKit Go.Maps Go.Sort

def fileD (f : List UInt8 × Nat) : DataW Unit := .agg [.lit (.string f.1), .lit (.int .i64 ((f.1.length - f.2 : Nat) : Int))]
def FM (fs : MF) : DataW Unit := .map (fs.map fun p => (.string p.1, fileD p.2))
def fileRL : List Value → Option (DataW Unit × List MemPlace)
  | [.string s, .int .i64 n] => some (.agg [.lit (.string s.data.toList), .lit (.int .i64 n)], [])
  | _ => none
def fileR : Value → Option (DataW Unit × List MemPlace)
  | .agg xs => fileRL xs.toList
  | _ => none
/-- A file's bytes, how many of them are loose: as a value. -/
def fileV (b : List UInt8) (n : Int) : Value := .agg #[.string ⟨b.toArray⟩, .int .i64 n]
def lookV (o : Option (List UInt8 × Nat)) : Value := match o with
  | none => fileV [] 0
  | some f => fileV f.1 ((f.1.length - f.2 : Nat) : Int)
theorem fileR_inv {v : Value} {b : List UInt8} {n : Int} {ps : List MemPlace} (h : fileR v = some (.agg [.lit (.string b), .lit (.int .i64 n)], ps)) : v = fileV b n := by
  unfold fileR at h
  split at h
  case h_2 => cases h
  rename_i xs
  unfold fileRL at h
  split at h
  · rename_i s' n' hx
    have hx : xs = #[.string s', .int .i64 n'] := by rw [← Array.toList_inj]; exact hx
    subst hx
    simp only [Option.some.injEq, Prod.mk.injEq, DataW.agg.injEq, List.cons.injEq, DataW.lit.injEq, Lit.string.injEq, Lit.int.injEq, and_true, true_and] at h
    obtain ⟨⟨rfl, rfl⟩, _⟩ := h
    unfold fileV
    rw [valid_eta]
  · cases h

theorem sk' (a s : List UInt8) : (Lit.string a).sameKey (.string s) = (a == s) := rfl
theorem has_FM (fs : MF) (s : List UInt8) : has (FM fs) (.string s) = (lookM fs s).isSome := by
  show (fs.map fun p => ((.string p.1 : Lit), fileD p.2)).any (fun p => p.1.sameKey (.string s)) = ((fs.find? (·.1 == s)).map (·.2)).isSome
  induction fs with
  | nil => rfl
  | cons p r ih =>
    simp only [List.map_cons, List.any_cons, List.find?_cons, ih, sk']
    by_cases h : p.1 == s <;> simp [h]
theorem at_FM (fs : MF) (s : List UInt8) (z : DataW Unit) : (FM fs).atKey (.string s) z = match lookM fs s with | none => z | some f => fileD f := by
  have h0 : ∀ es : List (Lit × DataW Unit), (DataW.map es).atKey (.string s) z = match es.find? (fun p => p.1.sameKey (.string s)) with | some p => p.2 | none => z := by intro es; simp only [DataW.atKey]; cases List.find? (fun p => p.1.sameKey (.string s)) es <;> rfl
  unfold FM lookM
  rw [h0]
  clear h0
  induction fs with
  | nil => rfl
  | cons p r ih =>
    simp only [List.map_cons, List.find?_cons, sk']
    by_cases h : p.1 == s
    · simp only [h]; rfl
    · simp only [h]; exact ih
theorem ins_FM (q : List UInt8 × List UInt8 × Nat) (fs : MF) :
    DataW.insert ((.string q.1 : Lit), fileD q.2) (fs.map fun p => (.string p.1, fileD p.2)) = (insM q fs).map fun p => (.string p.1, fileD p.2) := by
  induction fs with
  | nil => rfl
  | cons p r ih =>
    simp only [List.map_cons, DataW.insert, insM, Lit.before]
    split <;> simp_all
theorem put_FM (fs : MF) (s : List UInt8) (f : List UInt8 × Nat) : (FM fs).put (.string s) (fileD f) = FM (putM fs s f) := by
  simp only [DataW.put, FM, putM, ← ins_FM (s, f)]
  congr 2
  simp only [cutM, List.filter_map]
  rfl
theorem before_asym : ∀ x y : List UInt8, bytesBefore x y = true → bytesBefore y x = false
  | [], [], h => by simp [bytesBefore] at h
  | [], b :: s, _ => rfl
  | a :: r, [], h => by simp [bytesBefore] at h
  | a :: r, b :: s, h => by
    rw [bytesBefore.eq_4] at h ⊢
    simp only [Bool.or_eq_true, decide_eq_true_eq, Bool.and_eq_true, beq_iff_eq, Bool.or_eq_false_iff, decide_eq_false_iff_not, Bool.and_eq_false_iff, beq_eq_false_iff_ne] at h ⊢
    rcases h with h | ⟨h1, h2⟩
    · refine ⟨fun h' => ?_, .inl fun e => ?_⟩
      · have a1 := UInt8.lt_iff_toNat_lt.1 h; have a2 := UInt8.lt_iff_toNat_lt.1 h'; omega
      · subst e; have a1 := UInt8.lt_iff_toNat_lt.1 h; omega
    · subst h1
      exact ⟨fun h' => by have a2 := UInt8.lt_iff_toNat_lt.1 h'; omega, .inr (before_asym r s h2)⟩
theorem insM_end {q : List UInt8 × List UInt8 × Nat} : ∀ {a : MF}, (∀ p ∈ a, bytesBefore q.1 p.1 = false) → insM q a = a ++ [q]
  | [], _ => rfl
  | p :: a, h => by
    simp only [insM]
    rw [if_neg (by rw [h p (List.mem_cons_self ..)]; decide), insM_end (fun p hp => h p (List.mem_cons_of_mem _ hp))]
    rfl
theorem put_take {fs : MF} (hr : fs.Pairwise (fun p q => bytesBefore p.1 q.1 = true)) {k : Nat} {p : List UInt8 × List UInt8 × Nat} (hp : fs[k]? = some p) : putM (fs.take k) p.1 p.2 = fs.take (k + 1) := by
  have hk : k < fs.length := by
    rcases Nat.lt_or_ge k fs.length with h | h
    · exact h
    · rw [List.getElem?_eq_none h] at hp; cases hp
  have hb : ∀ q ∈ fs.take k, bytesBefore q.1 p.1 = true := by
    intro q hq
    have hs : fs = fs.take k ++ p :: fs.drop (k + 1) := by
      have hg := List.getElem?_eq_some_iff.1 hp
      rw [← hg.2, ← List.drop_eq_getElem_cons hk, List.take_append_drop]
    rw [hs] at hr
    exact (List.pairwise_append.1 hr).2.2 q hq p (List.mem_cons_self ..)
  have hc : cutM (fs.take k) p.1 = fs.take k := List.filter_eq_self.2 fun q hq => by
    have h1 := hb q hq
    by_cases e : q.1 = p.1
    · rw [e, before_irrefl] at h1; cases h1
    · simpa using e
  unfold putM
  rw [hc, show ((p.1, p.2) : List UInt8 × List UInt8 × Nat) = p from rfl, insM_end (fun q hq => before_asym _ _ (hb q hq)), List.take_add_one, hp]
  rfl

theorem zero_rf (w : World) : (zeroValue 58).run Try.prog w = .ok (fileV [] 0) w := by kernel_rfl
section
variable {w : World} {b n : Nat} {fs : MF} {s : ByteArray}
theorem run_lookM (h : w.ownsMap Try.prog 9 fileR b n (FM fs)) (hs : s.size ≤ maxLen) :
    (Instr.lookup 51 (.map (some b)) (.string s) false).run Try.prog w = .ok (lookV (lookM fs s.data.toList)) w := by
  obtain ⟨v, ps, hr, hv⟩ := h.lookup keyed_s Try.underlying51 (zero_rf w) (zd := .agg [.lit (.string []), .lit (.int .i64 0)]) (zp := []) rfl (key_s hs)
  rw [hr]
  rw [at_FM] at hv
  cases hl : lookM fs s.data.toList with
  | none => rw [hl] at hv; rw [fileR_inv hv]; rfl
  | some f => rw [hl] at hv; rw [fileR_inv hv]; rfl
theorem run_lookM_ok (h : w.ownsMap Try.prog 9 fileR b n (FM fs)) (hs : s.size ≤ maxLen) :
    (Instr.lookup 51 (.map (some b)) (.string s) true).run Try.prog w = .ok (.tuple #[lookV (lookM fs s.data.toList), .bool (lookM fs s.data.toList).isSome]) w := by
  obtain ⟨v, ps, hr, hv⟩ := h.look_ok keyed_s Try.underlying51 (zero_rf w) (zd := .agg [.lit (.string []), .lit (.int .i64 0)]) (zp := []) rfl (key_s hs)
  rw [hr, has_FM]
  rw [at_FM] at hv
  cases hl : lookM fs s.data.toList with
  | none => rw [hl] at hv; rw [fileR_inv hv]; rfl
  | some f => rw [hl] at hv; rw [fileR_inv hv]; rfl
end

theorem Off.of_grown {w w' : World} {b : Nat} (h : w.grownBy w' (some b)) : Off [b] w w' :=
  ⟨h.os, h.tape, h.output, h.size, fun k hk hn => h.block k hk (fun e => hn (by cases e; simp))⟩
theorem At.off {w0 w w' : World} {S : DiskS} {m : MD} (h : At w0 w S m) {F : List Nat} (ho : Off F w w') (hF : ∀ k ∈ F, k ∉ foot S ∧ w0.heap.size ≤ k) : At w0 w' S m :=
  ⟨h.disk.kept (fun k hk => ho.block k (h.disk.there k hk) (fun hm => (hF k hm).1 hk)) ho.size, h.see, h.old, h.below.trans (ho.below h.below.size (fun k hk => (hF k hk).2))⟩

/-- A disk's files, in a new map. -/
def FilesP (w : World) (fs : MF) (e : Ending) (w' : World) : Prop :=
  ∃ b n, e = .returned (.map (some b)) ∧ w'.ownsMap Try.prog 9 fileR b n (FM fs) ∧ w.heap.size ≤ b ∧ Below w.heap.size w w'

theorem look_at {fs : MF} (hn : nodupM fs) {k : Nat} {p : List UInt8 × List UInt8 × Nat} (hp : fs[k]? = some p) : lookM fs p.1 = some p.2 := by
  induction fs generalizing k with
  | nil => cases hp
  | cons q r ih =>
    unfold nodupM at hn
    rw [List.map_cons, List.nodup_cons] at hn
    cases k with
    | zero => simp at hp; subst hp; simp [lookM]
    | succ k =>
      have hp : r[k]? = some p := by simpa using hp
      have hne : (q.1 == p.1) = false := by
        rw [beq_eq_false_iff_ne]
        intro e
        exact hn.1 (List.mem_map.2 ⟨p, List.mem_of_getElem? hp, e.symm⟩)
      have := ih hn.2 hp
      simpa [lookM, hne] using this
theorem list_names {w0 w : World} {S : DiskS} {m : MD} (h : At w0 w S m) : S.files.map (·.1) = m.files.map (·.1) := by
  rw [← h.see]
  show _ = (seeF S.files).map (·.1)
  unfold seeF
  rw [List.map_map]
  rfl
theorem list_a {w0 w : World} {S : DiskS} {m : MD} (h : At w0 w S m) (g : Good m) : Calls Try.prog 21 #[.pointer (some ⟨S.dp, 0, none⟩)] w (ListP w (m.files.map (·.1))) := by
  have hl : S.files.length ≤ 8000000 := by
    have := congrArg List.length (list_names h)
    have := g.few
    simp at *; omega
  have := list_c h.disk hl
  rwa [list_names h] at this

set_option maxRecDepth 100000 in
set_option maxHeartbeats 4000000 in
theorem files_a {w0 w : World} {S : DiskS} {m : MD} (h : At w0 w S m) (g : Good m) :
    Calls Try.prog 19 #[.pointer (some ⟨S.dp, 0, none⟩)] w (FilesP w m.files) := by
  have hmm := @run_makeMap Try.prog
  have hnd := h.nodup
  have hri := h.rise
  have hat1 := h.boxed (.map #[] 0)
  have HL := Lib.hid (list_a hat1 g)
  have hown0 := World.ownsMap_made (H := Unit) w Try.prog 9 fileR
  have hwS : ∀ k ∈ foot S, k < w.heap.size := h.disk.there
  have hw0 := h.below.size
  have HFEW := Lib.hid g.few
  have HNM := Lib.hid g.names
  have HSM := Lib.hid (show ∀ p ∈ m.files, p.2.1.length ≤ 70368744177664 from fun p hp => by
    have h1 := g.sum
    have h2 := g.small
    obtain ⟨a, b, e⟩ := List.append_of_mem hp
    rw [e, sumM_app, sumM_cons] at h1
    omega)
  go_enter Try.func19, Try.ntmps19
  go_wp2_with fail
  refine HL.out.mono ?_
  rintro e w2 ⟨A, n, c, rfl, hfr, hb2⟩
  have hlen : m.files.length = n := by have := hfr.len; simpa using this
  have hat2 := hat1.below_next hb2
  have hown2 : w2.ownsMap Try.prog 9 fileR w.heap.size 0 (FM (m.files.take 0)) := ownsMap_kept (by simpa [FM] using hown0) (hb2.block w.heap.size (by simp))
  have hbw : Below w.heap.size w w2 := ((Below.refl _ w).alloc (Nat.le_refl _) _).trans (hb2.mono (by simp))
  have hni : (n : Int) ≤ 8000000 := by have := HFEW.out; omega
  have hw2 : w.heap.size + 1 ≤ w2.heap.size := by have := hb2.size; simpa using this
  simp only [World.size_alloc] at hfr
  clear hat1 hb2 hown0 HL hmm h
  go_wp2_with fail
  go_loopw [14] (fun iv wr => ∃ k : Nat, iv = .int .i64 (k : Int) ∧ k ≤ n ∧ wr.ownsMap Try.prog 9 fileR w.heap.size k (FM (m.files.take k)) ∧ Off [w.heap.size] w2 wr) (fun iv _ => ((n : Int) - intOf iv).toNat)
  case atStart => exact ⟨0, rfl, Nat.zero_le _, hown2, Off.refl _ _⟩
  case round =>
    clear hown2
    obtain ⟨k, rfl, hk, hown, hoff⟩ := hrel
    by_cases hlt : k < n
    · obtain ⟨p, hp⟩ : ∃ p, m.files[k]? = some p := ⟨m.files[k]'(by omega), List.getElem?_eq_getElem _⟩
      obtain ⟨gb, off, rfl, hgb, hcell⟩ := (hfr.rd (Nat.le_refl _)).form (by omega)
      have hgw := (hfr.frozen _ rfl).1
      simp only at hgw
      have hc1 := hcell k (encStr p.1) (by rw [List.getElem?_map, List.getElem?_map, hp]; rfl)
      have hc2 : wr.cell? ⟨gb, off + k, none⟩ = some (.string ⟨p.1.toArray⟩) := (hoff.cell hgb (by simp; omega)).trans hc1
      have hki : (k : Int) < (n : Int) := by omega
      have hk0 : (0 : Int) ≤ (k : Int) := by omega
      have hat := hat2.off hoff (fun j hj => by
        rw [List.mem_singleton.1 hj]
        exact ⟨fun hm => by have := hwS _ hm; omega, hw0⟩)
      have hval := HNM.out p (List.mem_of_getElem? hp)
      have hlk := look_at hnd hp
      have hrd : readM m ⟨p.1.toArray⟩ = (p.2.1, 0) := by unfold readM askM; rw [if_pos hval]; simp only [hlk]
      have hls : looseM m ⟨p.1.toArray⟩ = (p.2.1.length - p.2.2, 0) := by unfold looseM askM; rw [if_pos hval]; simp only [hlk]
      have HR := Lib.hid (read_a hat g ⟨p.1.toArray⟩)
      have HLS := Lib.hid (fun W (hW : At w0 W S m) => loose_a hW g ⟨p.1.toArray⟩)
      rw [hrd] at HR
      rw [hls] at HLS
      have hput : (FM (m.files.take k)).put (.string p.1) (fileD p.2) = FM (m.files.take (k + 1)) := by rw [put_FM, put_take hri hp]
      have HPUT := Lib.hid hput
      have HOFF := Lib.hid hoff
      have HOWN := Lib.hid hown
      have hsz : (⟨p.1.toArray⟩ : ByteArray).size ≤ maxLen := by
        simp only [validB, Bool.and_eq_true, decide_eq_true_eq] at hval
        unfold maxLen; omega
      have HKEY := Lib.hid (key_s hsz)
      have hklt : k < maxLen := by have := HFEW.out; unfold maxLen; omega
      have hwr := hoff.size
      have HSMP := Lib.hid (HSM.out p (List.mem_of_getElem? hp))
      clear hcell hc1 hoff hown hat hput hrd hls hlk hval hsz hfr hgw hp
      go_wp2_with fail
      refine HR.out.mono ?_
      rintro e w5 ⟨A5, n5, c5, rfl, hf5, hb5, hat5⟩
      go_wp2_with fail
      refine (HLS.out _ hat5).mono ?_
      rintro e w6 ⟨rfl, hb6, hat6⟩
      have hr6 := run_str (P := Try.prog) ((hf5.rd (Nat.le_refl _)).below hb6) 34 9 5 Try.underlying34 Try.underlying5 Try.underlying9
      have hb56 : Below wr.heap.size wr w6 := hb5.trans (hb6.mono hb5.size)
      have hown6 : w6.ownsMap Try.prog 9 fileR w.heap.size k (FM (m.files.take k)) := ownsMap_kept HOWN.out (hb56.block w.heap.size (by omega))
      have hwr6 := hb56.size
      clear hf5 hb5 hb6 hat5 hat6 hc2 HR HLS
      go_wp2_with (at_mapUpdate; refine wpList_mapUpdate_own _ rfl _ _ _ 51 rfl 9 58 keyed_s Try.underlying51 fileR w.heap.size k _ rfl hown6 hklt _ _ _ rfl rfl HKEY.out (fileD p.2) [] rfl ?_; intro w7 hown7 hgrow7)
      go_roundw
      case rel =>
        refine ⟨k + 1, by simp, by omega, ?_, ?_⟩
        · rw [← HPUT.out]; exact hown7
        · exact (HOFF.out.trans (Off.of_below (F := []) hb56) (fun _ h => by cases h)).trans (Off.of_grown hgrow7) (fun j hj => .inl hj)
      case measure => simp [intOf]; omega
    · have hki : ¬ (k : Int) < (n : Int) := by omega
      obtain rfl : k = n := by omega
      rw [List.take_of_length_le (by omega)] at hown
      have hfin : Below w.heap.size w wr := hbw.trans (hoff.below (by omega) (fun j hj => by rw [List.mem_singleton.1 hj]; exact Nat.le_refl _))
      clear hat2 hfr hoff hbw
      go_wp2_with fail
      go_ret
      exact ⟨_, _, rfl, hown, Nat.le_refl _, hfin⟩
end Go.Proofs.Ytkabgebfbbkioaa
