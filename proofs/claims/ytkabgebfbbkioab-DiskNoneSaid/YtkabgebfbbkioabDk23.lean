/-
  Contract: awake: the chapter's example holds.
-/
import Derived.Test.YtkabgebfbbkioabDk22
import Derived.Lib.SlBytesConst
namespace Go.Proofs.Ytkabgebfbbkioab
open Go.RowKit Go.Maps

def RetT (w : World) (e : Ending) (w' : World) : Prop := e = .returned (.bool true) ∧ Below w.heap.size w w'

theorem iv_lit (w : World) (l : List Int) {vs : Array Value} {k : Nat} (hv : vs = (iv l).toArray) (hk : l.length = k) (hm : k ≤ maxLen) : Rd (w.alloc (.cells vs 3)) (w.heap.size + 1) (some ⟨w.heap.size, 0, none⟩) k k (iv l) := by
  subst hv
  exact Rd.lit w 3 (iv l) (by simpa using hk) hm (Nat.lt_succ_self _)
theorem iv_lit_keep {w0 w : World} {S : DiskS} {m : MD} (h : At w0 w S m) (l : List Int) {vs : Array Value} {k : Nat} (hv : vs = (iv l).toArray) (hk : l.length = k) (hm : k ≤ maxLen) :
    ∀ w', Off (foot S) (w.alloc (.cells vs 3)) w' → Rd w' (w.heap.size + 1) (some ⟨w.heap.size, 0, none⟩) k k (iv l) := by
  intro w' ho
  have h1 := iv_lit w l hv hk hm
  refine ⟨h1.len, h1.cap, h1.max, h1.nil, h1.blk, fun ad e j u hu => ?_⟩
  cases e
  have hb : ((⟨w.heap.size, 0, none⟩ : Addr).add j).block = w.heap.size := block_of_add _ _
  exact (ho.cell (by rw [hb]; simp) (by rw [hb]; intro hm; have := h.disk.there _ hm; omega)).trans (h1.at_ _ rfl j u hu)
theorem iv_nil (S : DiskS) (w : World) : ∀ w', Off (foot S) w w' → Rd w' 0 none 0 0 (iv []) := fun _ _ => Rd.nilv

set_option maxRecDepth 100000 in
set_option maxHeartbeats 4000000 in
theorem awake_c {w : World} : Calls Try.prog 4 #[] w (RetT w) := by
  obtain ⟨w2, hw2⟩ : ∃ w2, w2 = (w.alloc (.cells #[.int .i64 4, .int .i64 6] 3)).alloc (.cells #[.int .i64 1, .int .i64 0] 3) := ⟨_, rfl⟩
  have b2 : Below w.heap.size w w2 := by rw [hw2]; exact ((Below.refl _ _).alloc (Nat.le_refl _) _).alloc (by simp) _
  have hs2 : w2.heap.size = w.heap.size + 2 := by rw [hw2]; simp
  have rd1 : Rd w2 (w.heap.size + 1) (some ⟨w.heap.size, 0, none⟩) 2 2 (iv [4, 6]) := by rw [hw2]; exact (iv_lit w [4, 6] rfl rfl (by decide)).alloc (by simp) _
  have rd2 : Rd w2 (w.heap.size + 2) (some ⟨w.heap.size + 1, 0, none⟩) 2 2 (iv [1, 0]) := by
    rw [hw2]
    have := iv_lit (w.alloc (.cells #[.int .i64 4, .int .i64 6] 3)) [1, 0] (vs := #[.int .i64 1, .int .i64 0]) rfl rfl (by decide)
    rw [show (w.alloc (.cells #[.int .i64 4, .int .i64 6] 3)).heap.size = w.heap.size + 1 by simp] at this
    exact this
  have N := Lib.hid (new_c 5 rd1 rd2 (by omega) (by omega) (by decide) (by decide) (by decide))
  rw [show max (5 : Int) 0 = 5 by decide, pl0_eq] at N
  clear rd1 rd2
  have hcv := fun (w : World) (C : Array Value) (n c : Nat) => Lib.run_convert_bytes_const (P := Try.prog) w 22 5 C n c Try.underlying22 Try.underlying5
  go_enter Try.func4, Try.ntmps4
  go_wp2_with fail
  rw [← hw2]
  refine N.out.mono ?_
  rintro e w3 ⟨S0, rfl, hd0, hse0, hb3, hft0⟩
  have h0 : At w w3 S0 ⟨5, 0, 0, pl0, []⟩ := ⟨hd0, hse0, fun k hk => by have := hft0 k hk; omega, b2.trans (hb3.mono (by omega))⟩
  clear hd0 hse0 hb3 hft0 N b2 hs2 hw2
  go_wp2_with fail
  have C := Lib.hid (create_a h0 good0 nA)
  rw [ex1] at C
  refine C.out.mono ?_
  rintro e v1 ⟨rfl, S1, n1⟩
  have h1 := n1.at_
  have d1 : S1.dp = S0.dp := n1.dp
  clear C n1 h0
  go_wp2_with fail
  have C := Lib.hid (append_lit h1 (gA _ _ _ _) nA (l := [120, 121]) (n := 2) (fz := (2, 3)) (vs := #[.int .u8 120, .int .u8 121]) rfl rfl (by decide))
  rw [ex2, d1] at C
  refine C.out.mono ?_
  rintro e v2 ⟨rfl, S2, n2⟩
  have h2 := n2.at_
  have d2 : S2.dp = S0.dp := n2.dp.trans d1
  clear C n2 h1
  go_wp2_with fail
  have C := Lib.hid (sync_a h2 (gA _ _ _ _) nA)
  rw [ex3, d2] at C
  refine C.out.mono ?_
  rintro e v3 ⟨rfl, S3, n3⟩
  have h3 := n3.at_
  have d3 : S3.dp = S0.dp := n3.dp.trans d2
  clear C n3 h2
  go_wp2_with fail
  have C := Lib.hid (append_lit h3 (gA _ _ _ _) nA (l := [122, 119]) (n := 2) (fz := (2, 3)) (vs := #[.int .u8 122, .int .u8 119]) rfl rfl (by decide))
  rw [ex4, d3] at C
  refine C.out.mono ?_
  rintro e v4 ⟨rfl, S4, n4⟩
  have h4 := n4.at_
  have d4 : S4.dp = S0.dp := n4.dp.trans d3
  clear C n4 h3
  go_wp2_with fail
  have C := Lib.hid (read_a h4 (gA _ _ _ _) nA)
  rw [ex5, d4] at C
  refine C.out.mono ?_
  rintro e ukA ⟨AkA, nkA, ckA, rfl, hf, hb, hx⟩
  have kA := Keep.of_fr h4.disk hf
  clear C hf hb h4
  have h4 := hx
  clear hx
  go_wp2_with fail
  have C := Lib.hid (crash_a h4 (gA _ _ _ _) (iv_nil _ _))
  rw [ex6, d4] at C
  refine C.out.mono ?_
  rintro e v5 ⟨rfl, S5, n5⟩
  have h5 := n5.at_
  have d5 : S5.dp = S0.dp := n5.dp.trans d4
  replace kA := kA.next n5
  clear C n5 h4
  go_wp2_with fail
  have C := Lib.hid (read_a h5 (gA _ _ _ _) nA)
  rw [ex7, d5] at C
  refine C.out.mono ?_
  rintro e ukB ⟨AkB, nkB, ckB, rfl, hf, hb, hx⟩
  have kB := Keep.of_fr h5.disk hf
  replace kA := kA.below hb
  clear C hf hb h5
  have h5 := hx
  clear hx
  go_wp2_with fail
  have C := Lib.hid (append_lit h5 (gA _ _ _ _) nA (l := [112, 113, 114, 115]) (n := 4) (fz := (4, 5)) (vs := #[.int .u8 112, .int .u8 113, .int .u8 114, .int .u8 115]) rfl rfl (by decide))
  rw [ex8, d5] at C
  refine C.out.mono ?_
  rintro e v6 ⟨rfl, S6, n6⟩
  have h6 := n6.at_
  have d6 : S6.dp = S0.dp := n6.dp.trans d5
  replace kA := (kA.below ((Below.refl _ _).alloc (Nat.le_refl _) _)).next n6
  replace kB := (kB.below ((Below.refl _ _).alloc (Nat.le_refl _) _)).next n6
  clear C n6 h5
  go_wp2_with fail
  have C := Lib.hid (append_lit h6 (gA _ _ _ _) nA (l := [112, 113]) (n := 2) (fz := (2, 3)) (vs := #[.int .u8 112, .int .u8 113]) rfl rfl (by decide))
  rw [ex9, d6] at C
  refine C.out.mono ?_
  rintro e v7 ⟨rfl, S7, n7⟩
  have h7 := n7.at_
  have d7 : S7.dp = S0.dp := n7.dp.trans d6
  replace kA := (kA.below ((Below.refl _ _).alloc (Nat.le_refl _) _)).next n7
  replace kB := (kB.below ((Below.refl _ _).alloc (Nat.le_refl _) _)).next n7
  clear C n7 h6
  go_wp2_with fail
  have C := Lib.hid (append_lit h7 (gA _ _ _ _) nA (l := [112, 113, 114]) (n := 3) (fz := (3, 4)) (vs := #[.int .u8 112, .int .u8 113, .int .u8 114]) rfl rfl (by decide))
  rw [ex10, d7] at C
  refine C.out.mono ?_
  rintro e v8 ⟨rfl, S8, n8⟩
  have h8 := n8.at_
  have d8 : S8.dp = S0.dp := n8.dp.trans d7
  replace kA := (kA.below ((Below.refl _ _).alloc (Nat.le_refl _) _)).next n8
  replace kB := (kB.below ((Below.refl _ _).alloc (Nat.le_refl _) _)).next n8
  clear C n8 h7
  go_wp2_with fail
  have C := Lib.hid (loose_a h8 (gA _ _ _ _) nA)
  rw [ex11, d8] at C
  refine C.out.mono ?_
  rintro e uL ⟨rfl, hb, hx⟩
  replace kA := kA.below hb
  replace kB := kB.below hb
  clear C hb h8
  have h8 := hx
  clear hx
  go_wp2_with fail
  have C := Lib.hid (crash_a (h8.below_next ((Below.refl _ _).alloc (Nat.le_refl _) _)) (gA _ _ _ _) (iv_lit_keep h8 [2] (vs := #[.int .i64 2]) (k := 1) rfl rfl (by decide)))
  rw [ex12, d8] at C
  refine C.out.mono ?_
  rintro e v9 ⟨rfl, S9, n9⟩
  have h9 := n9.at_
  have d9 : S9.dp = S0.dp := n9.dp.trans d8
  replace kA := (kA.below ((Below.refl _ _).alloc (Nat.le_refl _) _)).next n9
  replace kB := (kB.below ((Below.refl _ _).alloc (Nat.le_refl _) _)).next n9
  clear C n9 h8
  go_wp2_with fail
  have C := Lib.hid (read_a h9 (gA _ _ _ _) nA)
  rw [ex13, d9] at C
  refine C.out.mono ?_
  rintro e ukC ⟨AkC, nkC, ckC, rfl, hf, hb, hx⟩
  have kC := Keep.of_fr h9.disk hf
  replace kA := kA.below hb
  replace kB := kB.below hb
  clear C hf hb h9
  have h9 := hx
  clear hx
  go_wp2_with fail
  have C := Lib.hid (rename_a h9 (gA _ _ _ _) nA nB)
  rw [ex14, d9] at C
  refine C.out.mono ?_
  rintro e v10 ⟨rfl, S10, n10⟩
  have h10 := n10.at_
  have d10 : S10.dp = S0.dp := n10.dp.trans d9
  replace kA := kA.next n10
  replace kB := kB.next n10
  replace kC := kC.next n10
  clear C n10 h9
  go_wp2_with fail
  have C := Lib.hid (read_a h10 goodB nB)
  rw [ex15, d10] at C
  refine C.out.mono ?_
  rintro e ukD ⟨AkD, nkD, ckD, rfl, hf, hb, hx⟩
  have kD := Keep.of_fr h10.disk hf
  replace kA := kA.below hb
  replace kB := kB.below hb
  replace kC := kC.below hb
  clear C hf hb h10
  have h10 := hx
  clear hx
  have rkA := run_str (P := Try.prog) kA.rd 22 9 5 Try.underlying22 Try.underlying5 Try.underlying9
  have rkB := run_str (P := Try.prog) kB.rd 22 9 5 Try.underlying22 Try.underlying5 Try.underlying9
  have rkC := run_str (P := Try.prog) kC.rd 22 9 5 Try.underlying22 Try.underlying5 Try.underlying9
  have rkD := run_str (P := Try.prog) kD.rd 22 9 5 Try.underlying22 Try.underlying5 Try.underlying9
  clear kA kB kC kD
  go_wp2_with fail
  have C := Lib.hid (create_a h10 goodB nB)
  rw [ex16, d10] at C
  refine C.out.mono ?_
  rintro e v11 ⟨rfl, S11, n11⟩
  have h11 := n11.at_
  have d11 : S11.dp = S0.dp := n11.dp.trans d10
  clear C n11 h10
  go_wp2_with fail
  have C := Lib.hid (used_a h11)
  rw [d11] at C
  refine C.out.mono ?_
  rintro e v12 ⟨rfl, rfl⟩
  go_wp2_with fail
  have C := Lib.hid (calls_a h11)
  rw [d11] at C
  refine C.out.mono ?_
  rintro e v12 ⟨rfl, rfl⟩
  have HB := Lib.hid h11.below
  clear h11
  go_wp2
  go_ret
  exact ⟨rfl, HB.out⟩
end Go.Proofs.Ytkabgebfbbkioab
