/-
  Logs that are cut and logs that are damaged, as mathematics.
-/
import Derived.Test.YthgaiimgfnbkaaaDoorWL
namespace Go.Proofs.YthgaiimgfnbkaaaDoor
set_option maxRecDepth 100000
open Go.RowKit Go.Shelf
set_option linter.unusedVariables false

theorem catW_split (P : List Wr) (m : Nat) : catW P = catW (P.take m) ++ catW (P.drop m) := by rw [← catW_app, List.take_append_drop]
theorem catW_next {P : List Wr} {m : Nat} {r : Wr} (h : P[m]? = some r) : catW (P.take (m + 1)) = catW (P.take m) ++ recL r.1 r.2 := by
  rw [List.take_add_one, h]; exact catW_snoc _ _
theorem catW_mono {P : List Wr} {i j : Nat} (h : i ≤ j) : (catW (P.take i)).length ≤ (catW (P.take j)).length := by
  rw [catW_split (P.take j) i, List.take_take, Nat.min_eq_left h, List.length_append]; omega
theorem catW_le (P : List Wr) (m : Nat) : (catW (P.take m)).length ≤ (catW P).length := by
  rw [catW_split P m, List.length_append]; omega
/-- How many records end up to a place, of the first i; where the last of these ends. -/
structure Upto (P : List Wr) (cut i m e : Nat) : Prop where
  le : m ≤ i
  eq : e = (catW (P.take m)).length
  under : e ≤ cut
  nx : m = i ∨ cut < (catW (P.take (m + 1))).length
theorem Upto.start (P : List Wr) (cut : Nat) : Upto P cut 0 0 0 := ⟨Nat.le_refl _, by simp [catW], Nat.zero_le _, .inl rfl⟩
theorem Upto.yes {P : List Wr} {cut i m e : Nat} (h : Upto P cut i m e) (hc : (catW (P.take (i + 1))).length ≤ cut) : m = i ∧ Upto P cut (i + 1) (i + 1) (catW (P.take (i + 1))).length := by
  have hm : m = i := by
    rcases h.nx with h1 | h1
    · exact h1
    · have h3 := h.le
      have h2 := catW_mono (P := P) (i := m + 1) (j := i + 1) (by omega)
      omega
  exact ⟨hm, Nat.le_refl _, rfl, hc, .inl rfl⟩
theorem Upto.no {P : List Wr} {cut i m e : Nat} (h : Upto P cut i m e) (hc : cut < (catW (P.take (i + 1))).length) : Upto P cut (i + 1) m e :=
  ⟨Nat.le_succ_of_le h.le, h.eq, h.under, .inr (by
    rcases h.nx with h1 | h1
    · rw [h1]; exact hc
    · exact h1)⟩
theorem endsN_get {P : List Wr} {i : Nat} (h : i < P.length) : (endsN P)[i]? = some (catW (P.take (i + 1))).length := by
  unfold endsN
  rw [List.getElem?_map, List.getElem?_range h]; rfl
theorem chain_front {nx : Nat} {P : List Wr} (h : chain nx P) (m : Nat) : chain nx (P.take m) := ((chain_app nx (P.take m) (P.drop m)).1 (by rw [List.take_append_drop]; exact h)).1
/-- Of a front of a log just the records that are whole in it are read. -/
theorem cut_read {P : List Wr} (hch : chain 0 P) {cut m e : Nat} (h : Upto P cut P.length m e) (hc : cut ≤ (catW P).length) : IsRead ((catW P).take cut) (P.take m) e := by
  obtain ⟨h1, rfl, h3, h4⟩ := h
  have e1 : (catW P).take cut = catW (P.take m) ++ (catW (P.drop m)).take (cut - (catW (P.take m)).length) := by
    conv => lhs; rw [catW_split P m]
    rw [List.take_append, List.take_of_length_le h3]
  rw [e1]
  refine isRead_cat (chain_front hch m) fun q L k hq => ?_
  exfalso
  rcases Nat.lt_or_ge m P.length with hlt | hge
  · obtain ⟨r, hr⟩ : ∃ r, P[m]? = some r := ⟨_, List.getElem?_eq_getElem hlt⟩
    have h5 : cut < (catW (P.take (m + 1))).length := h4.resolve_left (by omega)
    rw [catW_next hr, List.length_append] at h5
    have hd : P.drop m = r :: P.drop (m + 1) := by
      rw [List.drop_eq_getElem_cons hlt]
      rw [List.getElem?_eq_getElem hlt] at hr
      rw [Option.some.inj hr]
    rw [hd, catW_cons, List.take_append_of_le_length (by omega), oneL_front (chain_mem hch r (List.mem_of_getElem? hr)) (by omega)] at hq
    cases hq
  · rw [List.drop_eq_nil_of_le hge] at hq
    simp only [catW, List.flatMap_nil, List.take_nil] at hq
    rw [oneL_nil] at hq
    cases hq
/-- A front that ends with a record is read whole. -/
theorem front_read {P : List Wr} (hch : chain 0 P) (m : Nat) : IsRead ((catW P).take (catW (P.take m)).length) (P.take m) (catW (P.take m)).length := by
  rw [catW_split P m, List.take_left]
  exact isRead_all (chain_front hch m)
/-- A record with a damaged byte, but not in its first four, is none. -/
theorem oneL_bent {q : Nat} {L : List Bop} (h : recB q L = true) {j : Nat} (hj : 4 ≤ j) {c t : UInt8} (hc : (recL q L)[j]? = some c) (ht : t ≠ 0) (rest : List UInt8) : oneL ((recL q L).set j (c ^^^ t) ++ rest) = none := by
  cases h2 : oneL ((recL q L).set j (c ^^^ t) ++ rest) with
  | none => rfl
  | some p =>
    obtain ⟨⟨q', L'⟩, k⟩ := p
    obtain ⟨h3, rfl, y, h4⟩ := oneL_iff.1 h2
    have e1 := inL_len (q := q) (recB_iff.1 h).1
    have e2 := inL_len (q := q') (recB_iff.1 h3).1
    have hl8 : 8 ≤ (recL q L).length := recL_pos
    have h5 : lenL ((recL q L).set j (c ^^^ t) ++ rest) = lenL (recL q L ++ rest) := by
      unfold lenL
      rw [List.take_append_of_le_length (by simp; omega), List.take_append_of_le_length (by omega), List.take_set, List.set_eq_of_length_le (by simp; omega)]
    have h6 : lenL (recL q L ++ rest) = (inL q L).length := lenL_seal (by omega) rest
    have h7 : lenL (recL q' L' ++ y) = (inL q' L').length := lenL_seal (by omega) y
    rw [h4, h7, h6] at h5
    have h8 : (recL q' L').length = (recL q L).length := by unfold recL; rw [sealL_len, sealL_len, h5]
    have h9 : (recL q L).set j (c ^^^ t) = recL q' L' := (List.append_inj h4 (by rw [List.length_set, h8])).1
    have h10 := congrArg (reg (BitVec.allOnes 32)) h9
    rw [reg_set hc] at h10
    have r1 : reg (BitVec.allOnes 32) (recL q L) = 0#32 := reg_seal
    have r2 : reg (BitVec.allOnes 32) (recL q' L') = 0#32 := reg_seal
    rw [r1, r2, BitVec.zero_xor] at h10
    have h11 := shN_inj _ h10
    exfalso
    apply ht
    apply UInt8.toNat_inj.1
    have h12 := congrArg BitVec.toNat h11
    simp only [bx, BitVec.toNat_ofNat] at h12
    have := t.toNat_lt
    rw [Nat.mod_eq_of_lt (by omega)] at h12
    simpa using h12
/-- Behind a record that is damaged nothing is read; all ahead of it are. -/
theorem bent_read {P : List Wr} (hch : chain 0 P) {k m e : Nat} (h : Upto P k P.length m e) (hk : k < (catW P).length) (h4 : e + 4 ≤ k) {c t : UInt8} (hc : (catW P)[k]? = some c) (ht : t ≠ 0) (behind : List UInt8) :
    IsRead ((catW P ++ behind).set k (c ^^^ t)) (P.take m) e := by
  obtain ⟨h1, rfl, h3, hnx⟩ := h
  have hlt : m < P.length := by
    rcases Nat.lt_or_ge m P.length with h | h
    · exact h
    · rw [List.take_of_length_le h] at h3; omega
  obtain ⟨r, hr⟩ : ∃ r, P[m]? = some r := ⟨_, List.getElem?_eq_getElem hlt⟩
  have h5 : k < (catW (P.take (m + 1))).length := hnx.resolve_left (by omega)
  rw [catW_next hr, List.length_append] at h5
  have hd : P.drop m = r :: P.drop (m + 1) := by
    rw [List.drop_eq_getElem_cons hlt]
    rw [List.getElem?_eq_getElem hlt] at hr
    rw [Option.some.inj hr]
  have e0 : catW P = catW (P.take m) ++ (recL r.1 r.2 ++ catW (P.drop (m + 1))) := by
    conv => lhs; rw [catW_split P m]
    rw [hd, catW_cons]
  have hc2 : (recL r.1 r.2)[k - (catW (P.take m)).length]? = some c := by
    rw [e0, List.getElem?_append_right h3, List.getElem?_append_left (by omega)] at hc
    exact hc
  have e1 : (catW P ++ behind).set k (c ^^^ t) = catW (P.take m) ++ ((recL r.1 r.2).set (k - (catW (P.take m)).length) (c ^^^ t) ++ (catW (P.drop (m + 1)) ++ behind)) := by
    conv => lhs; rw [e0]
    rw [List.append_assoc, List.set_append_right _ _ h3, List.append_assoc, List.set_append_left _ _ (by omega)]
  rw [e1]
  refine isRead_cat (chain_front hch m) fun q L i hq => ?_
  rw [oneL_bent (chain_mem hch r (List.mem_of_getElem? hr)) (by omega) hc2 ht] at hq
  cases hq
/-- What Logged hands out, as records that can be read. -/
theorem lg_recs {w w' : World} {A A1 : Option Addr} {n c m c1 q : Nat} {Ls : List OpsRow} (h : OpsAt w A n c Ls) (hb : Below w.heap.size w w') (hf : FrW w' w.heap.size A1 m c1 (logS q Ls).1) (hq : q ≤ 18446744073709551615) : Recs w' A1 m c1 (logS q Ls).1 :=
  ⟨hf.here, fun x hx => by
    have hi := logI_of hq (p := fun r => r ∈ Ls) (Ls := Ls) (fun r hr => ⟨(h.row r hr).len, hr⟩) Ls.length (Nat.le_refl _)
    rw [List.take_length] at hi
    obtain ⟨r, hr, e1, e2, e3, e4⟩ := hi.row x hx
    rw [e1, e2, e3, e4]
    exact (h.row r hr).now hb⟩
theorem lg_small {w : World} {A : Option Addr} {n c q : Nat} {Ls : List OpsRow} (h : OpsAt w A n c Ls) (hs : ∀ r ∈ Ls, (r.n : Int) ≤ 40) (hq : q ≤ 18446744073709551615) : ∀ x ∈ (logS q Ls).1, (x.n : Int) ≤ 70368744000000 := fun x hx => by
  have hi := logI_of hq (p := fun r => r ∈ Ls) (Ls := Ls) (fun r hr => ⟨(h.row r hr).len, hr⟩) Ls.length (Nat.le_refl _)
  rw [List.take_length] at hi
  obtain ⟨r, hr, _, e2, _, _⟩ := hi.row x hx
  rw [e2]
  have := hs r hr
  omega
theorem lg_chain {w : World} {A : Option Addr} {n c q : Nat} {Ls : List OpsRow} (h : OpsAt w A n c Ls) (hq : q ≤ 18446744073709551615) : chain 0 (recsOf (logS q Ls).1) ∧ (logS q Ls).1.length ≤ n := by
  have hi := logI_of hq (p := fun r => r ∈ Ls) (Ls := Ls) (fun r hr => ⟨(h.row r hr).len, hr⟩) Ls.length (Nat.le_refl _)
  rw [List.take_length] at hi
  have hl : Ls.length = n := by have := h.rd.len; simpa using this
  exact ⟨hi.ch, by rw [← hl]; exact hi.len⟩
theorem few_one {r : OpsRow} (q : Nat) : fewW [⟨q, r.a, r.n, r.c, r.L⟩] 1 = fewB r.L 140 := by
  unfold fewW
  simp
theorem recsOf_take (R : List WR) (m : Nat) : recsOf (R.take m) = (recsOf R).take m := by unfold recsOf; rw [List.map_take]
theorem same_self (P : List Wr) : sameRs P P = true := sameRs_iff.2 rfl
end Go.Proofs.YthgaiimgfnbkaaaDoor
