/-
  The chapter's examples: the contract of awake.
-/
import Derived.Test.YtobfdhnaejfehaaIk5
import Derived.Deep.DrawnRows
namespace Go.Proofs.Ytobfdhnaejfehaa
open Go.RowKit Go.Shelf

theorem cmp_t {w : World} {s s' : ByteArray} {q k q' k' : Nat} {c : Int} (h : cmpV s q k s' q' k' = c) : Calls Try.prog 17 #[ik s q k, ik s' q' k'] w (RetVl w (.int .i64 c)) := by
  rw [← h]; exact compare_c _ _ _ _ _ _ _
theorem entry_t {w : World} {s v : ByteArray} {q k : Nat} {b : Bool} (h : entryB s q k v = b) : Calls Try.prog 15 #[en s q k v] w (RetVl w (.bool b)) := by
  rw [← h]; exact entry_c _ _ _ _ _
theorem take3_t {w : World} {B n c : Nat} {A : Option Addr} {l : List UInt8} (h : Rd w B A n c (bv l)) (hB : B ≤ w.heap.size) (hn : n ≤ 70368744000000) {s : ByteArray} {q k : Nat} {r : List UInt8} (ht : keyTake l = some (s, q, k, r)) :
    Calls Try.prog 11 #[.slice A n c] w (fun e w' => ∃ A n c, e = .returned (.tuple #[.agg #[.string s, .int .u64 (q : Int), .int .u8 (k : Int)], .slice A n c, .bool true]) ∧ Fr w' w.heap.size 5 A n c (bv r) ∧ Below w.heap.size w w') :=
  (take3_c h hB hn).mono fun _ _ hp => by simp only [KeyPost, ht] at hp; exact hp
theorem take3_f {w : World} {B n c : Nat} {A : Option Addr} {l : List UInt8} (h : Rd w B A n c (bv l)) (hB : B ≤ w.heap.size) (hn : n ≤ 70368744000000) (ht : keyTake l = none) :
    Calls Try.prog 11 #[.slice A n c] w (fun e w' => ∃ A n c, e = .returned (.tuple #[.agg #[.string ⟨#[]⟩, .int .u64 0, .int .u8 0], .slice A n c, .bool false]) ∧ Fr w' w.heap.size 5 A n c (bv []) ∧ Below w.heap.size w w') :=
  (take3_c h hB hn).mono fun _ _ hp => by simp only [KeyPost, ht] at hp; exact hp
theorem put3_t {w : World} {s : ByteArray} {q k : Nat} {l : List UInt8} (h : putL [] s q k = l) : Calls Try.prog 24 #[.slice none 0 0, ik s q k] w (RetB w l) := by
  rw [← h]; exact put3_c (B := 0) Rd.nilv (Nat.zero_le _) (by omega) _ _ _

/-- What holds in each world of the examples: the two keys lie, what was is as it was, and what stood behind the second call is. -/
structure Aw (a c : World) (b1 b2 : Nat) (w : World) : Prop where
  i1 : IkAt w b1 ⟨#[97]⟩ 5 1
  i2 : IkAt w b2 ⟨#[97]⟩ 5 1
  g0 : Below a.heap.size a w
  ga : Below c.heap.size c w
theorem IkAt.drew {w : World} {b : Nat} {s : ByteArray} {q k : Nat} (h : IkAt w b s q k) : IkAt w.drew b s q k := ⟨h.lt, h.h⟩
theorem Aw.drew {a c w : World} {b1 b2 : Nat} (h : Aw a c b1 b2 w) : Aw a c b1 b2 w.drew := ⟨h.i1.drew, h.i2.drew, h.g0.drew, h.ga.drew⟩
theorem Aw.alloc {a c w : World} {b1 b2 : Nat} (h : Aw a c b1 b2 w) (o : Obj) : Aw a c b1 b2 (w.alloc o) := ⟨h.i1.alloc o, h.i2.alloc o, blit h.g0 o, blit h.ga o⟩
theorem Aw.on {a c w w' : World} {b1 b2 : Nat} (h : Aw a c b1 b2 w) (hb : Below w.heap.size w w') : Aw a c b1 b2 w' := ⟨h.i1.below hb (Nat.le_refl _), h.i2.below hb (Nat.le_refl _), bon h.g0 hb, bon h.ga hb⟩
theorem Aw.all {a c w : World} {b1 b2 : Nat} (h : Aw a c b1 b2 w) : Aw a c b1 b2 w ∧ w.cell? ⟨b1, 0, none⟩ = some (.string ⟨#[97]⟩) ∧ w.cell? ⟨b1, 1, none⟩ = some (.int .u64 5) ∧ w.cell? ⟨b1, 2, none⟩ = some (.int .u8 1) ∧
    w.cell? ⟨b2, 0, none⟩ = some (.string ⟨#[97]⟩) ∧ w.cell? ⟨b2, 1, none⟩ = some (.int .u64 5) ∧ w.cell? ⟨b2, 2, none⟩ = some (.int .u8 1) :=
  ⟨h, h.i1.cells.1, h.i1.cells.2.1, h.i1.cells.2.2, h.i2.cells.1, h.i2.cells.2.1, h.i2.cells.2.2⟩
theorem one_i (w : World) (s : ByteArray) (q k : Int) (hq : 0 ≤ q) (hk : 0 ≤ k) : Calls Try.prog 26 #[.string s, .int .u64 q, .int .u8 k] w (RetVl w (.agg #[.string s, .int .u64 q, .int .u8 k])) := by
  obtain ⟨q, rfl⟩ := Int.eq_ofNat_of_zero_le hq
  obtain ⟨k, rfl⟩ := Int.eq_ofNat_of_zero_le hk
  exact one_c w s q k
theorem compare_i (w : World) (s s' : ByteArray) (q k q' k' : Int) (hq : 0 ≤ q) (hk : 0 ≤ k) (hq' : 0 ≤ q') (hk' : 0 ≤ k') : Calls Try.prog 17 #[.agg #[.string s, .int .u64 q, .int .u8 k], .agg #[.string s', .int .u64 q', .int .u8 k']] w (RetVl w (.int .i64 (cmpV s q.toNat k.toNat s' q'.toNat k'.toNat))) := by
  obtain ⟨q, rfl⟩ := Int.eq_ofNat_of_zero_le hq
  obtain ⟨k, rfl⟩ := Int.eq_ofNat_of_zero_le hk
  obtain ⟨q', rfl⟩ := Int.eq_ofNat_of_zero_le hq'
  obtain ⟨k', rfl⟩ := Int.eq_ofNat_of_zero_le hk'
  exact compare_c w s s' q k q' k'

theorem sought_i (w : World) (s : ByteArray) (q : Int) (hq : 0 ≤ q) : Calls Try.prog 21 #[.string s, .int .u64 q] w (RetVl w (.agg #[.string s, .int .u64 q, .int .u8 1])) := by
  obtain ⟨q, rfl⟩ := Int.eq_ofNat_of_zero_le hq
  exact sought_c w s q
theorem put3_i (w : World) (s : ByteArray) (q k : Int) (hq : 0 ≤ q) (hk : 0 ≤ k) : Calls Try.prog 24 #[.slice none 0 0, .agg #[.string s, .int .u64 q, .int .u8 k]] w (RetB w (putL [] s q.toNat k.toNat)) := by
  obtain ⟨q, rfl⟩ := Int.eq_ofNat_of_zero_le hq
  obtain ⟨k, rfl⟩ := Int.eq_ofNat_of_zero_le hk
  exact put3_c (B := 0) Rd.nilv (Nat.zero_le _) (by omega) _ _ _
theorem entry_i (w : World) (s v : ByteArray) (q k : Int) (hq : 0 ≤ q) (hk : 0 ≤ k) : Calls Try.prog 15 #[.agg #[.string s, .int .u64 q, .int .u8 k, .string v]] w (RetVl w (.bool (entryB s q.toNat k.toNat v))) := by
  obtain ⟨q, rfl⟩ := Int.eq_ofNat_of_zero_le hq
  obtain ⟨k, rfl⟩ := Int.eq_ofNat_of_zero_le hk
  exact entry_c w s q k v
theorem u8_int (x : Int) (h0 : 0 ≤ x) (h1 : x < 256) : Value.int .u8 x = b8 (byteOf x.toNat) := by
  obtain ⟨x, rfl⟩ := Int.eq_ofNat_of_zero_le h0
  exact u8_byte x (by omega)
theorem Rd.lit3 (w : World) (x y z : Int) (hx : 0 ≤ x ∧ x < 256) (hy : 0 ≤ y ∧ y < 256) (hz : 0 ≤ z ∧ z < 256) {g : Nat} (hg : w.heap.size = g) : Rd (w.alloc (.cells #[.int .u8 x, .int .u8 y, .int .u8 z] 5)) (g + 1) (some ⟨g, 0, none⟩) 3 3 (bv [byteOf x.toNat, byteOf y.toNat, byteOf z.toNat]) := by
  subst hg
  rw [u8_int x hx.1 hx.2, u8_int y hy.1 hy.2, u8_int z hz.1 hz.2]
  exact Rd.litb w [byteOf x.toNat, byteOf y.toNat, byteOf z.toNat] rfl rfl rfl (by decide)
theorem Rd.lit1 (w : World) (x : Int) (hx : 0 ≤ x ∧ x < 256) {g : Nat} (hg : w.heap.size = g) : Rd (w.alloc (.cells #[.int .u8 x] 5)) (g + 1) (some ⟨g, 0, none⟩) 1 1 (bv [byteOf x.toNat]) := by
  subst hg
  rw [u8_int x hx.1 hx.2]
  exact Rd.litb w [byteOf x.toNat] rfl rfl rfl (by decide)

set_option maxRecDepth 100000 in
set_option maxHeartbeats 40000000 in
theorem awake3_c (w : World) : Calls Try.prog 10 #[] w (RetVl w (.bool true)) := by
  have g0 : Below w.heap.size w w := Below.refl _ _
  have HO := Lib.hid one_c
  have HC := fun (w : World) (s s' : ByteArray) (q k q' k' : Nat) (c : Int) => cmp_t (w := w) (s := s) (s' := s') (q := q) (k := k) (q' := q') (k' := k') (c := c)
  have HS := Lib.hid sought_c
  have HE := fun (w : World) (s v : ByteArray) (q k : Nat) (b : Bool) => entry_t (w := w) (s := s) (v := v) (q := q) (k := k) (b := b)
  have HP := fun (w : World) (s : ByteArray) (q k : Nat) (l : List UInt8) => put3_t (w := w) (s := s) (q := q) (k := k) (l := l)
  unfold ik at HO HC HS HP
  unfold en at HE
  replace HC := Lib.hid HC
  replace HE := Lib.hid HE
  replace HP := Lib.hid HP
  go_enter Try.func10, Try.ntmps10
  go_wp2_with fail
  refine (HO.out _ ⟨#[97]⟩ 5 1).mono ?_
  rintro e w1 ⟨rfl, hb1⟩
  replace g0 := bon g0 hb1
  replace g0 := blit g0 (.cells #[.string ⟨#[97]⟩, .int .u64 5, .int .u8 1] 24)
  have i1 := IkAt.new w1 ⟨#[97]⟩ 5 1
  try rw [show ((5 : Nat) : Int) = 5 from rfl] at i1
  try rw [show ((1 : Nat) : Int) = 1 from rfl] at i1
  replace i1 := i1.alloc (.cells (bv [1, 97, 11, 7]).toArray 5)
  replace g0 := blit g0 (.cells (bv [1, 97, 11, 7]).toArray 5)
  rw [show (bv [1, 97, 11, 7]).toArray = #[.int .u8 1, .int .u8 97, .int .u8 11, .int .u8 7] from rfl] at i1 g0
  go_wp2_with fail
  refine (take3_t (Rd.litb (w1.alloc _) [1, 97, 11, 7] (g := w1.heap.size + 1) (by simp) rfl rfl (by decide)) (by simp) (by decide) (s := ⟨#[97]⟩) (q := 5) (k := 1) (r := [7]) (by decide)).mono ?_
  rintro e w2 ⟨A2, n2, c2, rfl, hf2, hb2⟩
  replace g0 := bon g0 hb2
  replace i1 := i1.below hb2 (Nat.le_refl _)
  have ra := hf2.rd (Nat.le_refl _)
  have ga : Below w2.heap.size w2 w2 := Below.refl _ _
  replace i1 := i1.alloc (.cells #[.string ⟨#[97]⟩, .int .u64 5, .int .u8 1] 24)
  replace g0 := blit g0 (.cells #[.string ⟨#[97]⟩, .int .u64 5, .int .u8 1] 24)
  replace ga := blit ga (.cells #[.string ⟨#[97]⟩, .int .u64 5, .int .u8 1] 24)
  have i2 := IkAt.new w2 ⟨#[97]⟩ 5 1
  try rw [show ((5 : Nat) : Int) = 5 from rfl] at i2
  try rw [show ((1 : Nat) : Int) = 1 from rfl] at i2
  replace i1 := i1.alloc (.cells (bv [0, 11]).toArray 5)
  replace i2 := i2.alloc (.cells (bv [0, 11]).toArray 5)
  replace g0 := blit g0 (.cells (bv [0, 11]).toArray 5)
  replace ga := blit ga (.cells (bv [0, 11]).toArray 5)
  rw [show (bv [0, 11]).toArray = #[.int .u8 0, .int .u8 11] from rfl] at i1 i2 g0 ga
  go_wp2_with fail
  refine (take3_f (Rd.litb (w2.alloc _) [0, 11] (g := w2.heap.size + 1) (by simp) rfl rfl (by decide)) (by simp) (by decide) (by decide)).mono ?_
  rintro e w3 ⟨A3, n3, c3, rfl, hf3, hb3⟩
  replace g0 := bon g0 hb3
  replace ga := bon ga hb3
  replace i1 := i1.below hb3 (Nat.le_refl _)
  replace i2 := i2.below hb3 (Nat.le_refl _)
  replace i1 := i1.alloc (.cells #[.string ⟨#[]⟩, .int .u64 0, .int .u8 0] 24)
  replace i2 := i2.alloc (.cells #[.string ⟨#[]⟩, .int .u64 0, .int .u8 0] 24)
  replace g0 := blit g0 (.cells #[.string ⟨#[]⟩, .int .u64 0, .int .u8 0] 24)
  replace ga := blit ga (.cells #[.string ⟨#[]⟩, .int .u64 0, .int .u8 0] 24)
  have i5 := IkAt.new w3 ⟨#[]⟩ 0 0
  try rw [show ((0 : Nat) : Int) = 0 from rfl] at i5
  try rw [show ((0 : Nat) : Int) = 0 from rfl] at i5
  have HB2 : w2.heap.size < w2.heap.size + 1 := Nat.lt_succ_self _
  have aw : Aw w w2 w1.heap.size w2.heap.size (w3.alloc (.cells #[.string ⟨#[]⟩, .int .u64 0, .int .u8 0] 24)) := ⟨i1, i2, g0, ga⟩
  have HOI := Lib.hid one_i
  have HCI := Lib.hid compare_i
  have HSI := Lib.hid sought_i
  have HPI := Lib.hid put3_i
  have HEI := Lib.hid entry_i
  clear i1 i2 g0 ga HB2 HO HC HS HE HP hf2 hb2 hf3 hb3 hb1
  go_wp2_with fail
  dsimp only [List.append]
  refine wp_region_noPanic ?_
  replace aw := Aw.drew aw
  refine' (fun (key1 : ∀ (W : World) (v1 v2 : Value), Aw w w2 w1.heap.size w2.heap.size W → (_ : World → Value → Value → Prop) W v1 v2) => ?main1) ?kp1
  case main1 =>
    refine wp_region_held_drew (S := (fun w' => Aw w w2 w1.heap.size w2.heap.size w' ∧ w'.cell? ⟨w1.heap.size, 0, none⟩ = some (.string ⟨#[97]⟩) ∧ w'.cell? ⟨w1.heap.size, 1, none⟩ = some (.int .u64 5) ∧ w'.cell? ⟨w1.heap.size, 2, none⟩ = some (.int .u8 1) ∧ w'.cell? ⟨w2.heap.size, 0, none⟩ = some (.string ⟨#[97]⟩) ∧ w'.cell? ⟨w2.heap.size, 1, none⟩ = some (.int .u64 5) ∧ w'.cell? ⟨w2.heap.size, 2, none⟩ = some (.int .u8 1))) (by kernel_rfl) (Aw.all aw) (fun hHeld => ?_)
    refine wpAnyH_take (i := 0) (oi := { dst := some 22, op := Op.load 24 (Operand.tmp 1), type := 24, pos := "law.go:22", after := #[], guard := none }) (v := ?v1) rfl (by kernel_rfl) (by kernel_rfl) (by kernel_rfl) (fun _ _ _ h => h) (Or.inl ⟨by rfl, ?hy1⟩) (by assumption) ?rest1
    case hy1 => (intro w hSw; (try dsimp only at hSw); go_simp; try with_reducible rfl)
    try simp only [Act.put, List.setIfInBounds_toArray, List.set_cons_zero, List.set_cons_succ]
    refine wpAnyH_ready (rs := [1]) (by kernel_rfl) (by simp) ?_
    refine AllReadyH.cons (o := { dst := some 23, op := Op.call { callee := Callee.value (Operand.func 26), args := #[Operand.const (Value.string { data := #[97] }), Operand.const (Value.int IntKind.u64 4), Operand.const (Value.int IntKind.u8 1)], argTypes := #[9, 22, 5] }, type := 24, pos := "law.go:22", after := #[], guard := none }) rfl (fun K hK => ?_) AllReadyH.nil
    go_simp
    refine (HOI.out _ _ _ _ (by omega) (by omega)).mono ?_
    rintro e u1 ⟨rfl, hb⟩
    replace aw := Aw.on aw hb
    go_wp2_with fail
    clear hHeld
    refine hK.out _ _ (Aw.all aw) (fun hHeld => ?_)
    clear hK K
    try simp only [Act.put, List.setIfInBounds_toArray, List.set_cons_zero, List.set_cons_succ]
    refine wpAnyH_ready (rs := [2]) (by kernel_rfl) (by simp) ?_
    refine AllReadyH.cons (o := { dst := some 24, op := Op.call { callee := Callee.value (Operand.func 17), args := #[Operand.tmp 22, Operand.tmp 23], argTypes := #[24, 24] }, type := 3, pos := "law.go:22", after := #[{ on := 0, ground := Ground.data }, { on := 1, ground := Ground.data }, { on := 1, ground := Ground.chain }], guard := none }) rfl (fun K hK => ?_) AllReadyH.nil
    go_simp
    refine (HCI.out _ _ _ _ _ _ _ (by omega) (by omega) (by omega) (by omega)).mono ?_
    rintro e u2 ⟨rfl, hb⟩
    replace aw := Aw.on aw hb
    go_wp2_with fail
    clear hHeld
    refine hK.out _ _ (Aw.all aw) (fun hHeld => ?_)
    clear hK K
    try simp only [Act.put, List.setIfInBounds_toArray, List.set_cons_zero, List.set_cons_succ]
    refine wpAnyH_take (i := 3) (oi := { dst := some 25, op := Op.binOp BinOp.eql 3 (Operand.tmp 24) (Operand.const (Value.int IntKind.i64 (-1))) 3, type := 4, pos := "law.go:22", after := #[{ on := 2, ground := Ground.data }], guard := none }) (v := ?v2) rfl (by kernel_rfl) (by kernel_rfl) (by kernel_rfl) (fun _ _ _ h => h) (Or.inl ⟨by rfl, ?hy2⟩) (by assumption) ?rest2
    case hy2 => (intro w hSw; (try dsimp only at hSw); go_simp; try with_reducible rfl)
    try simp only [Act.put, List.setIfInBounds_toArray, List.set_cons_zero, List.set_cons_succ]
    refine wpAnyH_take (i := 4) (oi := { dst := some 26, op := Op.move (Operand.tmp 25), type := 4, pos := "law.go:22", after := #[{ on := 3, ground := Ground.data }, { on := 2, ground := Ground.chain }], guard := none }) (v := ?v3) rfl (by kernel_rfl) (by kernel_rfl) (by kernel_rfl) (fun _ _ _ h => h) (Or.inl ⟨by rfl, ?hy3⟩) (by assumption) ?rest3
    case hy3 => (intro w hSw; (try dsimp only at hSw); go_simp; try with_reducible rfl)
    try simp only [Act.put, List.setIfInBounds_toArray, List.set_cons_zero, List.set_cons_succ]
    refine wpAnyH_take (i := 5) (oi := { dst := some 27, op := Op.load 24 (Operand.tmp 1), type := 24, pos := "law.go:22", after := #[{ on := 4, ground := Ground.guard }], guard := some (4, true) }) (v := ?v4) rfl (by kernel_rfl) (by kernel_rfl) (by kernel_rfl) (fun _ _ _ h => h) (Or.inl ⟨by rfl, ?hy4⟩) (by assumption) ?rest4
    case hy4 => (intro w hSw; (try dsimp only at hSw); go_simp; try with_reducible rfl)
    try simp only [Act.put, List.setIfInBounds_toArray, List.set_cons_zero, List.set_cons_succ]
    refine wpAnyH_ready (rs := [6]) (by kernel_rfl) (by simp) ?_
    refine AllReadyH.cons (o := { dst := some 28, op := Op.call { callee := Callee.value (Operand.func 26), args := #[Operand.const (Value.string { data := #[97] }), Operand.const (Value.int IntKind.u64 5), Operand.const (Value.int IntKind.u8 0)], argTypes := #[9, 22, 5] }, type := 24, pos := "law.go:22", after := #[{ on := 4, ground := Ground.chain }, { on := 4, ground := Ground.guard }], guard := some (4, true) }) rfl (fun K hK => ?_) AllReadyH.nil
    go_simp
    refine (HOI.out _ _ _ _ (by omega) (by omega)).mono ?_
    rintro e u3 ⟨rfl, hb⟩
    replace aw := Aw.on aw hb
    go_wp2_with fail
    clear hHeld
    refine hK.out _ _ (Aw.all aw) (fun hHeld => ?_)
    clear hK K
    try simp only [Act.put, List.setIfInBounds_toArray, List.set_cons_zero, List.set_cons_succ]
    refine wpAnyH_ready (rs := [7]) (by kernel_rfl) (by simp) ?_
    refine AllReadyH.cons (o := { dst := some 29, op := Op.call { callee := Callee.value (Operand.func 17), args := #[Operand.tmp 27, Operand.tmp 28], argTypes := #[24, 24] }, type := 3, pos := "law.go:22", after := #[{ on := 5, ground := Ground.data }, { on := 6, ground := Ground.data }, { on := 6, ground := Ground.chain }, { on := 4, ground := Ground.guard }], guard := some (4, true) }) rfl (fun K hK => ?_) AllReadyH.nil
    go_simp
    refine (HCI.out _ _ _ _ _ _ _ (by omega) (by omega) (by omega) (by omega)).mono ?_
    rintro e u4 ⟨rfl, hb⟩
    replace aw := Aw.on aw hb
    go_wp2_with fail
    clear hHeld
    refine hK.out _ _ (Aw.all aw) (fun hHeld => ?_)
    clear hK K
    try simp only [Act.put, List.setIfInBounds_toArray, List.set_cons_zero, List.set_cons_succ]
    refine wpAnyH_take (i := 8) (oi := { dst := some 30, op := Op.binOp BinOp.eql 3 (Operand.tmp 29) (Operand.const (Value.int IntKind.i64 (-1))) 3, type := 4, pos := "law.go:22", after := #[{ on := 7, ground := Ground.data }, { on := 4, ground := Ground.guard }], guard := some (4, true) }) (v := ?v5) rfl (by kernel_rfl) (by kernel_rfl) (by kernel_rfl) (fun _ _ _ h => h) (Or.inl ⟨by rfl, ?hy5⟩) (by assumption) ?rest5
    case hy5 => (intro w hSw; (try dsimp only at hSw); go_simp; try with_reducible rfl)
    try simp only [Act.put, List.setIfInBounds_toArray, List.set_cons_zero, List.set_cons_succ]
    refine wpAnyH_take (i := 9) (oi := { dst := some 31, op := Op.pick (Operand.tmp 26) (Operand.tmp 30) (Operand.const (Value.bool false)), type := 4, pos := "law.go:22", after := #[{ on := 4, ground := Ground.data }, { on := 8, ground := Ground.data }], guard := none }) (v := ?v6) rfl (by kernel_rfl) (by kernel_rfl) (by kernel_rfl) (fun _ _ _ h => h) (Or.inl ⟨by rfl, ?hy6⟩) (by assumption) ?rest6
    case hy6 => (intro w hSw; (try dsimp only at hSw); go_simp; try with_reducible rfl)
    try simp only [Act.put, List.setIfInBounds_toArray, List.set_cons_zero, List.set_cons_succ]
    refine wpAnyH_take (i := 10) (oi := { dst := some 32, op := Op.move (Operand.tmp 31), type := 4, pos := "law.go:22", after := #[{ on := 9, ground := Ground.data }, { on := 7, ground := Ground.chain }], guard := none }) (v := ?v7) rfl (by kernel_rfl) (by kernel_rfl) (by kernel_rfl) (fun _ _ _ h => h) (Or.inl ⟨by rfl, ?hy7⟩) (by assumption) ?rest7
    case hy7 => (intro w hSw; (try dsimp only at hSw); go_simp; try with_reducible rfl)
    try simp only [Act.put, List.setIfInBounds_toArray, List.set_cons_zero, List.set_cons_succ]
    refine wpAnyH_take (i := 11) (oi := { dst := some 33, op := Op.load 24 (Operand.tmp 1), type := 24, pos := "law.go:22", after := #[{ on := 10, ground := Ground.guard }], guard := some (10, true) }) (v := ?v8) rfl (by kernel_rfl) (by kernel_rfl) (by kernel_rfl) (fun _ _ _ h => h) (Or.inl ⟨by rfl, ?hy8⟩) (by assumption) ?rest8
    case hy8 => (intro w hSw; (try dsimp only at hSw); go_simp; try with_reducible rfl)
    try simp only [Act.put, List.setIfInBounds_toArray, List.set_cons_zero, List.set_cons_succ]
    refine wpAnyH_ready (rs := [12]) (by kernel_rfl) (by simp) ?_
    refine AllReadyH.cons (o := { dst := some 34, op := Op.call { callee := Callee.value (Operand.func 26), args := #[Operand.const (Value.string { data := #[97, 98] }), Operand.const (Value.int IntKind.u64 9), Operand.const (Value.int IntKind.u8 1)], argTypes := #[9, 22, 5] }, type := 24, pos := "law.go:22", after := #[{ on := 10, ground := Ground.chain }, { on := 10, ground := Ground.guard }], guard := some (10, true) }) rfl (fun K hK => ?_) AllReadyH.nil
    go_simp
    refine (HOI.out _ _ _ _ (by omega) (by omega)).mono ?_
    rintro e u5 ⟨rfl, hb⟩
    replace aw := Aw.on aw hb
    go_wp2_with fail
    clear hHeld
    refine hK.out _ _ (Aw.all aw) (fun hHeld => ?_)
    clear hK K
    try simp only [Act.put, List.setIfInBounds_toArray, List.set_cons_zero, List.set_cons_succ]
    refine wpAnyH_ready (rs := [13]) (by kernel_rfl) (by simp) ?_
    refine AllReadyH.cons (o := { dst := some 35, op := Op.call { callee := Callee.value (Operand.func 17), args := #[Operand.tmp 33, Operand.tmp 34], argTypes := #[24, 24] }, type := 3, pos := "law.go:22", after := #[{ on := 11, ground := Ground.data }, { on := 12, ground := Ground.data }, { on := 12, ground := Ground.chain }, { on := 10, ground := Ground.guard }], guard := some (10, true) }) rfl (fun K hK => ?_) AllReadyH.nil
    go_simp
    refine (HCI.out _ _ _ _ _ _ _ (by omega) (by omega) (by omega) (by omega)).mono ?_
    rintro e u6 ⟨rfl, hb⟩
    replace aw := Aw.on aw hb
    go_wp2_with fail
    clear hHeld
    refine hK.out _ _ (Aw.all aw) (fun hHeld => ?_)
    clear hK K
    try simp only [Act.put, List.setIfInBounds_toArray, List.set_cons_zero, List.set_cons_succ]
    refine wpAnyH_take (i := 14) (oi := { dst := some 36, op := Op.binOp BinOp.eql 3 (Operand.tmp 35) (Operand.const (Value.int IntKind.i64 (-1))) 3, type := 4, pos := "law.go:22", after := #[{ on := 13, ground := Ground.data }, { on := 10, ground := Ground.guard }], guard := some (10, true) }) (v := ?v9) rfl (by kernel_rfl) (by kernel_rfl) (by kernel_rfl) (fun _ _ _ h => h) (Or.inl ⟨by rfl, ?hy9⟩) (by assumption) ?rest9
    case hy9 => (intro w hSw; (try dsimp only at hSw); go_simp; try with_reducible rfl)
    try simp only [Act.put, List.setIfInBounds_toArray, List.set_cons_zero, List.set_cons_succ]
    refine wpAnyH_take (i := 15) (oi := { dst := some 37, op := Op.pick (Operand.tmp 32) (Operand.tmp 36) (Operand.const (Value.bool false)), type := 4, pos := "law.go:22", after := #[{ on := 10, ground := Ground.data }, { on := 14, ground := Ground.data }], guard := none }) (v := ?v10) rfl (by kernel_rfl) (by kernel_rfl) (by kernel_rfl) (fun _ _ _ h => h) (Or.inl ⟨by rfl, ?hy10⟩) (by assumption) ?rest10
    case hy10 => (intro w hSw; (try dsimp only at hSw); go_simp; try with_reducible rfl)
    try simp only [Act.put, List.setIfInBounds_toArray, List.set_cons_zero, List.set_cons_succ]
    refine wpAnyH_take (i := 16) (oi := { dst := some 38, op := Op.move (Operand.tmp 37), type := 4, pos := "law.go:22", after := #[{ on := 15, ground := Ground.data }, { on := 13, ground := Ground.chain }], guard := none }) (v := ?v11) rfl (by kernel_rfl) (by kernel_rfl) (by kernel_rfl) (fun _ _ _ h => h) (Or.inl ⟨by rfl, ?hy11⟩) (by assumption) ?rest11
    case hy11 => (intro w hSw; (try dsimp only at hSw); go_simp; try with_reducible rfl)
    try simp only [Act.put, List.setIfInBounds_toArray, List.set_cons_zero, List.set_cons_succ]
    refine wpAnyH_take (i := 17) (oi := { dst := some 39, op := Op.load 24 (Operand.tmp 1), type := 24, pos := "law.go:22", after := #[{ on := 16, ground := Ground.guard }], guard := some (16, true) }) (v := ?v12) rfl (by kernel_rfl) (by kernel_rfl) (by kernel_rfl) (fun _ _ _ h => h) (Or.inl ⟨by rfl, ?hy12⟩) (by assumption) ?rest12
    case hy12 => (intro w hSw; (try dsimp only at hSw); go_simp; try with_reducible rfl)
    try simp only [Act.put, List.setIfInBounds_toArray, List.set_cons_zero, List.set_cons_succ]
    refine wpAnyH_ready (rs := [18]) (by kernel_rfl) (by simp) ?_
    refine AllReadyH.cons (o := { dst := some 40, op := Op.call { callee := Callee.value (Operand.func 26), args := #[Operand.const (Value.string { data := #[97] }), Operand.const (Value.int IntKind.u64 6), Operand.const (Value.int IntKind.u8 0)], argTypes := #[9, 22, 5] }, type := 24, pos := "law.go:22", after := #[{ on := 16, ground := Ground.chain }, { on := 16, ground := Ground.guard }], guard := some (16, true) }) rfl (fun K hK => ?_) AllReadyH.nil
    go_simp
    refine (HOI.out _ _ _ _ (by omega) (by omega)).mono ?_
    rintro e u7 ⟨rfl, hb⟩
    replace aw := Aw.on aw hb
    go_wp2_with fail
    clear hHeld
    refine hK.out _ _ (Aw.all aw) (fun hHeld => ?_)
    clear hK K
    try simp only [Act.put, List.setIfInBounds_toArray, List.set_cons_zero, List.set_cons_succ]
    refine wpAnyH_ready (rs := [19]) (by kernel_rfl) (by simp) ?_
    refine AllReadyH.cons (o := { dst := some 41, op := Op.call { callee := Callee.value (Operand.func 17), args := #[Operand.tmp 39, Operand.tmp 40], argTypes := #[24, 24] }, type := 3, pos := "law.go:22", after := #[{ on := 17, ground := Ground.data }, { on := 18, ground := Ground.data }, { on := 18, ground := Ground.chain }, { on := 16, ground := Ground.guard }], guard := some (16, true) }) rfl (fun K hK => ?_) AllReadyH.nil
    go_simp
    refine (HCI.out _ _ _ _ _ _ _ (by omega) (by omega) (by omega) (by omega)).mono ?_
    rintro e u8 ⟨rfl, hb⟩
    replace aw := Aw.on aw hb
    go_wp2_with fail
    clear hHeld
    refine hK.out _ _ (Aw.all aw) (fun hHeld => ?_)
    clear hK K
    try simp only [Act.put, List.setIfInBounds_toArray, List.set_cons_zero, List.set_cons_succ]
    refine wpAnyH_take (i := 20) (oi := { dst := some 42, op := Op.binOp BinOp.eql 3 (Operand.tmp 41) (Operand.const (Value.int IntKind.i64 1)) 3, type := 4, pos := "law.go:22", after := #[{ on := 19, ground := Ground.data }, { on := 16, ground := Ground.guard }], guard := some (16, true) }) (v := ?v13) rfl (by kernel_rfl) (by kernel_rfl) (by kernel_rfl) (fun _ _ _ h => h) (Or.inl ⟨by rfl, ?hy13⟩) (by assumption) ?rest13
    case hy13 => (intro w hSw; (try dsimp only at hSw); go_simp; try with_reducible rfl)
    try simp only [Act.put, List.setIfInBounds_toArray, List.set_cons_zero, List.set_cons_succ]
    refine wpAnyH_take (i := 21) (oi := { dst := some 43, op := Op.pick (Operand.tmp 38) (Operand.tmp 42) (Operand.const (Value.bool false)), type := 4, pos := "law.go:22", after := #[{ on := 16, ground := Ground.data }, { on := 20, ground := Ground.data }], guard := none }) (v := ?v14) rfl (by kernel_rfl) (by kernel_rfl) (by kernel_rfl) (fun _ _ _ h => h) (Or.inl ⟨by rfl, ?hy14⟩) (by assumption) ?rest14
    case hy14 => (intro w hSw; (try dsimp only at hSw); go_simp; try with_reducible rfl)
    try simp only [Act.put, List.setIfInBounds_toArray, List.set_cons_zero, List.set_cons_succ]
    refine wpAnyH_take (i := 22) (oi := { dst := some 44, op := Op.move (Operand.tmp 43), type := 4, pos := "law.go:22", after := #[{ on := 21, ground := Ground.data }, { on := 19, ground := Ground.chain }], guard := none }) (v := ?v15) rfl (by kernel_rfl) (by kernel_rfl) (by kernel_rfl) (fun _ _ _ h => h) (Or.inl ⟨by rfl, ?hy15⟩) (by assumption) ?rest15
    case hy15 => (intro w hSw; (try dsimp only at hSw); go_simp; try with_reducible rfl)
    try simp only [Act.put, List.setIfInBounds_toArray, List.set_cons_zero, List.set_cons_succ]
    refine wpAnyH_take (i := 24) (oi := { dst := some 46, op := Op.load 24 (Operand.tmp 1), type := 24, pos := "law.go:22", after := #[{ on := 22, ground := Ground.guard }], guard := some (22, true) }) (v := ?v16) rfl (by kernel_rfl) (by kernel_rfl) (by kernel_rfl) (fun _ _ _ h => h) (Or.inl ⟨by rfl, ?hy16⟩) (by assumption) ?rest16
    case hy16 => (intro w hSw; (try dsimp only at hSw); go_simp; try with_reducible rfl)
    try simp only [Act.put, List.setIfInBounds_toArray, List.set_cons_zero, List.set_cons_succ]
    refine wpAnyH_ready (rs := [23]) (by kernel_rfl) (by simp) ?_
    refine AllReadyH.cons (o := { dst := some 45, op := Op.call { callee := Callee.value (Operand.func 21), args := #[Operand.const (Value.string { data := #[97] }), Operand.const (Value.int IntKind.u64 5)], argTypes := #[9, 22] }, type := 24, pos := "law.go:22", after := #[{ on := 22, ground := Ground.chain }, { on := 22, ground := Ground.guard }], guard := some (22, true) }) rfl (fun K hK => ?_) AllReadyH.nil
    go_simp
    refine (HSI.out _ _ _ (by omega)).mono ?_
    rintro e u9 ⟨rfl, hb⟩
    replace aw := Aw.on aw hb
    go_wp2_with fail
    clear hHeld
    refine hK.out _ _ (Aw.all aw) (fun hHeld => ?_)
    clear hK K
    try simp only [Act.put, List.setIfInBounds_toArray, List.set_cons_zero, List.set_cons_succ]
    refine wpAnyH_take (i := 25) (oi := { dst := some 47, op := Op.binOp BinOp.eql 24 (Operand.tmp 45) (Operand.tmp 46) 24, type := 4, pos := "law.go:22", after := #[{ on := 23, ground := Ground.data }, { on := 24, ground := Ground.data }, { on := 22, ground := Ground.guard }], guard := some (22, true) }) (v := ?v17) rfl (by kernel_rfl) (by kernel_rfl) (by kernel_rfl) (fun _ _ _ h => h) (Or.inl ⟨by rfl, ?hy17⟩) (by assumption) ?rest17
    case hy17 => (intro w hSw; (try dsimp only at hSw); go_simp; try with_reducible rfl)
    try simp only [Act.put, List.setIfInBounds_toArray, List.set_cons_zero, List.set_cons_succ]
    refine wpAnyH_take (i := 26) (oi := { dst := some 48, op := Op.pick (Operand.tmp 44) (Operand.tmp 47) (Operand.const (Value.bool false)), type := 4, pos := "law.go:22", after := #[{ on := 22, ground := Ground.data }, { on := 25, ground := Ground.data }], guard := none }) (v := ?v18) rfl (by kernel_rfl) (by kernel_rfl) (by kernel_rfl) (fun _ _ _ h => h) (Or.inl ⟨by rfl, ?hy18⟩) (by assumption) ?rest18
    case hy18 => (intro w hSw; (try dsimp only at hSw); go_simp; try with_reducible rfl)
    try simp only [Act.put, List.setIfInBounds_toArray, List.set_cons_zero, List.set_cons_succ]
    refine wpAnyH_take (i := 27) (oi := { dst := some 49, op := Op.move (Operand.tmp 48), type := 4, pos := "law.go:22", after := #[{ on := 26, ground := Ground.data }, { on := 23, ground := Ground.chain }], guard := none }) (v := ?v19) rfl (by kernel_rfl) (by kernel_rfl) (by kernel_rfl) (fun _ _ _ h => h) (Or.inl ⟨by rfl, ?hy19⟩) (by assumption) ?rest19
    case hy19 => (intro w hSw; (try dsimp only at hSw); go_simp; try with_reducible rfl)
    try simp only [Act.put, List.setIfInBounds_toArray, List.set_cons_zero, List.set_cons_succ]
    refine wpAnyH_take (i := 28) (oi := { dst := some 50, op := Op.move (Operand.tmp 8), type := 38, pos := "law.go:22", after := #[{ on := 27, ground := Ground.guard }], guard := some (27, true) }) (v := ?v20) rfl (by kernel_rfl) (by kernel_rfl) (by kernel_rfl) (fun _ _ _ h => h) (Or.inl ⟨by rfl, ?hy20⟩) (by assumption) ?rest20
    case hy20 => (intro w hSw; (try dsimp only at hSw); go_simp; try with_reducible rfl)
    try simp only [Act.put, List.setIfInBounds_toArray, List.set_cons_zero, List.set_cons_succ]
    refine wpAnyH_take (i := 29) (oi := { dst := some 51, op := Op.load 24 (Operand.tmp 1), type := 24, pos := "law.go:22", after := #[{ on := 27, ground := Ground.guard }], guard := some (27, true) }) (v := ?v21) rfl (by kernel_rfl) (by kernel_rfl) (by kernel_rfl) (fun _ _ _ h => h) (Or.inl ⟨by rfl, ?hy21⟩) (by assumption) ?rest21
    case hy21 => (intro w hSw; (try dsimp only at hSw); go_simp; try with_reducible rfl)
    try simp only [Act.put, List.setIfInBounds_toArray, List.set_cons_zero, List.set_cons_succ]
    refine wpAnyH_ready (rs := [30, 31]) (by kernel_rfl) (by simp) ?_
    refine AllReadyH.cons (o := { dst := some 52, op := Op.call { callee := Callee.value (Operand.func 24), args := #[Operand.const (Value.slice none 0 0), Operand.tmp 51], argTypes := #[26, 24] }, type := 26, pos := "law.go:22", after := #[{ on := 29, ground := Ground.data }, { on := 27, ground := Ground.chain }, { on := 27, ground := Ground.guard }], guard := some (27, true) }) rfl (fun K hK => ?c1) (AllReadyH.cons (o := { dst := some 53, op := Op.buildSlice 26 3 #[(0, Operand.const (Value.int IntKind.u8 1)), (1, Operand.const (Value.int IntKind.u8 97)), (2, Operand.const (Value.int IntKind.u8 11))], type := 26, pos := "law.go:22", after := #[{ on := 27, ground := Ground.guard }], guard := some (27, true) }) rfl (fun K hK => ?c2) AllReadyH.nil)
    case c1 =>
      -- Put first
      go_simp
      refine (HPI.out _ _ _ _ (by omega) (by omega)).mono ?_
      rintro e u10 ⟨Ap, np, cp, rfl, hfp, hbp⟩
      replace aw := Aw.on aw hbp
      have rp := hfp.rd (Nat.le_refl _)
      clear hfp
      go_wp2_with fail
      clear hHeld
      refine hK.out _ _ (Aw.all aw) (fun hHeld => ?_)
      clear hK K
      try simp only [Act.put, List.setIfInBounds_toArray, List.set_cons_zero, List.set_cons_succ]
      refine wpAnyH_ready (rs := [31]) (by kernel_rfl) (by simp) ?_
      refine AllReadyH.cons (o := { dst := some 53, op := Op.buildSlice 26 3 #[(0, Operand.const (Value.int IntKind.u8 1)), (1, Operand.const (Value.int IntKind.u8 97)), (2, Operand.const (Value.int IntKind.u8 11))], type := 26, pos := "law.go:22", after := #[{ on := 27, ground := Ground.guard }], guard := some (27, true) }) rfl (fun K hK => ?_) AllReadyH.nil
      go_simp
      clear hHeld
      refine hK.out _ _ (Aw.all (Aw.alloc aw _)) (fun hHeld => ?_)
      clear hK K
      try simp only [Act.put, List.setIfInBounds_toArray, List.set_cons_zero, List.set_cons_succ]
      replace aw := hHeld.1
      refine wpAnyH_ready (rs := [32]) (by kernel_rfl) (by simp) ?_
      refine AllReadyH.cons (o := { dst := some 54, op := Op.call { callee := Callee.value (Operand.tmp 50), args := #[Operand.tmp 52, Operand.tmp 53], argTypes := #[26, 26] }, type := 4, pos := "law.go:22", after := #[{ on := 28, ground := Ground.data }, { on := 30, ground := Ground.data }, { on := 31, ground := Ground.data }, { on := 30, ground := Ground.chain }, { on := 27, ground := Ground.guard }], guard := some (27, true) }) rfl (fun K hK => ?_) AllReadyH.nil
      go_simp
      refine (same_t (rp.alloc (Nat.le_refl _) _) (Rd.lit3 u10 _ _ _ (by omega) (by omega) (by omega) (g := u10.heap.size) (by first | rfl | simp)) (by decide)).mono ?_
      rintro e w' ⟨rfl, rfl⟩
      go_wp2_with fail
      clear hHeld
      refine hK.out _ _ (Aw.all aw) (fun hHeld => ?_)
      clear hK K
      try simp only [Act.put, List.setIfInBounds_toArray, List.set_cons_zero, List.set_cons_succ]
      clear rp hbp
      generalize Value.slice Ap np cp = v1
      generalize Value.slice (some ⟨u10.heap.size, 0, none⟩) 3 3 = v2
      generalize (World.alloc u10 (Obj.cells #[Value.int .u8 1, Value.int .u8 97, Value.int .u8 11] 5)) = W at aw ⊢
      exact key1 W v1 v2 aw
    case c2 =>
      -- the literal first
      go_simp
      clear hHeld
      refine hK.out _ _ (Aw.all (Aw.alloc aw _)) (fun hHeld => ?_)
      clear hK K
      try simp only [Act.put, List.setIfInBounds_toArray, List.set_cons_zero, List.set_cons_succ]
      replace aw := hHeld.1
      refine wpAnyH_ready (rs := [30]) (by kernel_rfl) (by simp) ?_
      refine AllReadyH.cons (o := { dst := some 52, op := Op.call { callee := Callee.value (Operand.func 24), args := #[Operand.const (Value.slice none 0 0), Operand.tmp 51], argTypes := #[26, 24] }, type := 26, pos := "law.go:22", after := #[{ on := 29, ground := Ground.data }, { on := 27, ground := Ground.chain }, { on := 27, ground := Ground.guard }], guard := some (27, true) }) rfl (fun K hK => ?_) AllReadyH.nil
      go_simp
      refine (HPI.out _ _ _ _ (by omega) (by omega)).mono ?_
      rintro e u10 ⟨Ap, np, cp, rfl, hfp, hbp⟩
      replace aw := Aw.on aw hbp
      have rp := hfp.rd (Nat.le_refl _)
      clear hfp
      go_wp2_with fail
      clear hHeld
      refine hK.out _ _ (Aw.all aw) (fun hHeld => ?_)
      clear hK K
      try simp only [Act.put, List.setIfInBounds_toArray, List.set_cons_zero, List.set_cons_succ]
      refine wpAnyH_ready (rs := [32]) (by kernel_rfl) (by simp) ?_
      refine AllReadyH.cons (o := { dst := some 54, op := Op.call { callee := Callee.value (Operand.tmp 50), args := #[Operand.tmp 52, Operand.tmp 53], argTypes := #[26, 26] }, type := 4, pos := "law.go:22", after := #[{ on := 28, ground := Ground.data }, { on := 30, ground := Ground.data }, { on := 31, ground := Ground.data }, { on := 30, ground := Ground.chain }, { on := 27, ground := Ground.guard }], guard := some (27, true) }) rfl (fun K hK => ?_) AllReadyH.nil
      go_simp
      refine (same_t rp ((Rd.lit3 u9 _ _ _ (by omega) (by omega) (by omega) (g := u9.heap.size) (by first | rfl | simp)).under hbp (by simp)) (by decide)).mono ?_
      rintro e w' ⟨rfl, rfl⟩
      go_wp2_with fail
      clear hHeld
      refine hK.out _ _ (Aw.all aw) (fun hHeld => ?_)
      clear hK K
      try simp only [Act.put, List.setIfInBounds_toArray, List.set_cons_zero, List.set_cons_succ]
      clear rp hbp
      generalize Value.slice Ap np cp = v1
      generalize Value.slice (some ⟨u9.heap.size, 0, none⟩) 3 3 = v2
      exact key1 u10 v1 v2 aw
  case kp1 =>
    intro u9 v1 v2 aw
    refine' (fun (key2 : ∀ (W : World) (v1 v2 : Value), Aw w w2 w1.heap.size w2.heap.size W → (_ : World → Value → Value → Prop) W v1 v2) => ?main2) ?kp2
    case main2 =>
      have hHeld := Aw.all aw
      refine wpAnyH_take (i := 33) (oi := { dst := some 55, op := Op.pick (Operand.tmp 49) (Operand.tmp 54) (Operand.const (Value.bool false)), type := 4, pos := "law.go:22", after := #[{ on := 27, ground := Ground.data }, { on := 32, ground := Ground.data }], guard := none }) (v := ?v22) rfl (by kernel_rfl) (by kernel_rfl) (by kernel_rfl) (fun _ _ _ h => h) (Or.inl ⟨by rfl, ?hy22⟩) (by assumption) ?rest22
      case hy22 => (intro w hSw; (try dsimp only at hSw); go_simp; try with_reducible rfl)
      try simp only [Act.put, List.setIfInBounds_toArray, List.set_cons_zero, List.set_cons_succ]
      refine wpAnyH_take (i := 34) (oi := { dst := some 56, op := Op.move (Operand.tmp 55), type := 4, pos := "law.go:22", after := #[{ on := 33, ground := Ground.data }, { on := 32, ground := Ground.chain }], guard := none }) (v := ?v23) rfl (by kernel_rfl) (by kernel_rfl) (by kernel_rfl) (fun _ _ _ h => h) (Or.inl ⟨by rfl, ?hy23⟩) (by assumption) ?rest23
      case hy23 => (intro w hSw; (try dsimp only at hSw); go_simp; try with_reducible rfl)
      try simp only [Act.put, List.setIfInBounds_toArray, List.set_cons_zero, List.set_cons_succ]
      refine wpAnyH_take (i := 35) (oi := { dst := some 57, op := Op.move (Operand.tmp 8), type := 38, pos := "law.go:22", after := #[{ on := 34, ground := Ground.guard }], guard := some (34, true) }) (v := ?v24) rfl (by kernel_rfl) (by kernel_rfl) (by kernel_rfl) (fun _ _ _ h => h) (Or.inl ⟨by rfl, ?hy24⟩) (by assumption) ?rest24
      case hy24 => (intro w hSw; (try dsimp only at hSw); go_simp; try with_reducible rfl)
      try simp only [Act.put, List.setIfInBounds_toArray, List.set_cons_zero, List.set_cons_succ]
      refine wpAnyH_ready (rs := [36, 38]) (by kernel_rfl) (by simp) ?_
      refine AllReadyH.cons (o := { dst := some 58, op := Op.call { callee := Callee.value (Operand.func 26), args := #[Operand.const (Value.string { data := #[97] }), Operand.const (Value.int IntKind.u64 5), Operand.const (Value.int IntKind.u8 0)], argTypes := #[9, 22, 5] }, type := 24, pos := "law.go:22", after := #[{ on := 34, ground := Ground.chain }, { on := 34, ground := Ground.guard }], guard := some (34, true) }) rfl (fun K hK => ?c1) (AllReadyH.cons (o := { dst := some 60, op := Op.buildSlice 26 3 #[(0, Operand.const (Value.int IntKind.u8 1)), (1, Operand.const (Value.int IntKind.u8 97)), (2, Operand.const (Value.int IntKind.u8 10))], type := 26, pos := "law.go:22", after := #[{ on := 34, ground := Ground.guard }], guard := some (34, true) }) rfl (fun K hK => ?c2) AllReadyH.nil)
      case c1 =>
        go_simp
        refine (HOI.out _ _ _ _ (by omega) (by omega)).mono ?_
        rintro e u10 ⟨rfl, hb⟩
        replace aw := Aw.on aw hb
        go_wp2_with fail
        clear hHeld
        refine hK.out _ _ (Aw.all aw) (fun hHeld => ?_)
        clear hK K
        try simp only [Act.put, List.setIfInBounds_toArray, List.set_cons_zero, List.set_cons_succ]
        refine wpAnyH_ready (rs := [37, 38]) (by kernel_rfl) (by simp) ?_
        refine AllReadyH.cons (o := { dst := some 59, op := Op.call { callee := Callee.value (Operand.func 24), args := #[Operand.const (Value.slice none 0 0), Operand.tmp 58], argTypes := #[26, 24] }, type := 26, pos := "law.go:22", after := #[{ on := 36, ground := Ground.data }, { on := 36, ground := Ground.chain }, { on := 34, ground := Ground.guard }], guard := some (34, true) }) rfl (fun K hK => ?d1) (AllReadyH.cons (o := { dst := some 60, op := Op.buildSlice 26 3 #[(0, Operand.const (Value.int IntKind.u8 1)), (1, Operand.const (Value.int IntKind.u8 97)), (2, Operand.const (Value.int IntKind.u8 10))], type := 26, pos := "law.go:22", after := #[{ on := 34, ground := Ground.guard }], guard := some (34, true) }) rfl (fun K hK => ?d2) AllReadyH.nil)
        case d1 =>
          -- one, Put, literal
          go_simp
          refine (HPI.out _ _ _ _ (by omega) (by omega)).mono ?_
          rintro e u11 ⟨Ap, np, cp, rfl, hfp, hbp⟩
          replace aw := Aw.on aw hbp
          have rp := hfp.rd (Nat.le_refl _)
          clear hfp
          go_wp2_with fail
          clear hHeld
          refine hK.out _ _ (Aw.all aw) (fun hHeld => ?_)
          clear hK K
          try simp only [Act.put, List.setIfInBounds_toArray, List.set_cons_zero, List.set_cons_succ]
          refine wpAnyH_ready (rs := [38]) (by kernel_rfl) (by simp) ?_
          refine AllReadyH.cons (o := { dst := some 60, op := Op.buildSlice 26 3 #[(0, Operand.const (Value.int IntKind.u8 1)), (1, Operand.const (Value.int IntKind.u8 97)), (2, Operand.const (Value.int IntKind.u8 10))], type := 26, pos := "law.go:22", after := #[{ on := 34, ground := Ground.guard }], guard := some (34, true) }) rfl (fun K hK => ?_) AllReadyH.nil
          go_simp
          clear hHeld
          refine hK.out _ _ (Aw.all (Aw.alloc aw _)) (fun hHeld => ?_)
          clear hK K
          try simp only [Act.put, List.setIfInBounds_toArray, List.set_cons_zero, List.set_cons_succ]
          replace aw := hHeld.1
          refine wpAnyH_ready (rs := [39]) (by kernel_rfl) (by simp) ?_
          refine AllReadyH.cons (o := { dst := some 61, op := Op.call { callee := Callee.value (Operand.tmp 57), args := #[Operand.tmp 59, Operand.tmp 60], argTypes := #[26, 26] }, type := 4, pos := "law.go:22", after := #[{ on := 35, ground := Ground.data }, { on := 37, ground := Ground.data }, { on := 38, ground := Ground.data }, { on := 37, ground := Ground.chain }, { on := 34, ground := Ground.guard }], guard := some (34, true) }) rfl (fun K hK => ?_) AllReadyH.nil
          go_simp
          refine (same_t (rp.alloc (Nat.le_refl _) _) (Rd.lit3 u11 _ _ _ (by omega) (by omega) (by omega) (g := u11.heap.size) (by first | rfl | simp)) (by decide)).mono ?_
          rintro e w' ⟨rfl, rfl⟩
          go_wp2_with fail
          clear hHeld
          refine hK.out _ _ (Aw.all aw) (fun hHeld => ?_)
          clear hK K
          try simp only [Act.put, List.setIfInBounds_toArray, List.set_cons_zero, List.set_cons_succ]
          clear rp hbp
          generalize Value.slice Ap np cp = v1
          generalize Value.slice (some ⟨u11.heap.size, 0, none⟩) 3 3 = v2
          generalize (World.alloc u11 (Obj.cells #[Value.int .u8 1, Value.int .u8 97, Value.int .u8 10] 5)) = W at aw ⊢
          exact key2 W v1 v2 aw
        case d2 =>
          -- one, literal, Put
          go_simp
          clear hHeld
          refine hK.out _ _ (Aw.all (Aw.alloc aw _)) (fun hHeld => ?_)
          clear hK K
          try simp only [Act.put, List.setIfInBounds_toArray, List.set_cons_zero, List.set_cons_succ]
          replace aw := hHeld.1
          refine wpAnyH_ready (rs := [37]) (by kernel_rfl) (by simp) ?_
          refine AllReadyH.cons (o := { dst := some 59, op := Op.call { callee := Callee.value (Operand.func 24), args := #[Operand.const (Value.slice none 0 0), Operand.tmp 58], argTypes := #[26, 24] }, type := 26, pos := "law.go:22", after := #[{ on := 36, ground := Ground.data }, { on := 36, ground := Ground.chain }, { on := 34, ground := Ground.guard }], guard := some (34, true) }) rfl (fun K hK => ?_) AllReadyH.nil
          go_simp
          refine (HPI.out _ _ _ _ (by omega) (by omega)).mono ?_
          rintro e u11 ⟨Ap, np, cp, rfl, hfp, hbp⟩
          replace aw := Aw.on aw hbp
          have rp := hfp.rd (Nat.le_refl _)
          clear hfp
          go_wp2_with fail
          clear hHeld
          refine hK.out _ _ (Aw.all aw) (fun hHeld => ?_)
          clear hK K
          try simp only [Act.put, List.setIfInBounds_toArray, List.set_cons_zero, List.set_cons_succ]
          refine wpAnyH_ready (rs := [39]) (by kernel_rfl) (by simp) ?_
          refine AllReadyH.cons (o := { dst := some 61, op := Op.call { callee := Callee.value (Operand.tmp 57), args := #[Operand.tmp 59, Operand.tmp 60], argTypes := #[26, 26] }, type := 4, pos := "law.go:22", after := #[{ on := 35, ground := Ground.data }, { on := 37, ground := Ground.data }, { on := 38, ground := Ground.data }, { on := 37, ground := Ground.chain }, { on := 34, ground := Ground.guard }], guard := some (34, true) }) rfl (fun K hK => ?_) AllReadyH.nil
          go_simp
          refine (same_t rp ((Rd.lit3 u10 _ _ _ (by omega) (by omega) (by omega) (g := u10.heap.size) (by first | rfl | simp)).under hbp (by simp)) (by decide)).mono ?_
          rintro e w' ⟨rfl, rfl⟩
          go_wp2_with fail
          clear hHeld
          refine hK.out _ _ (Aw.all aw) (fun hHeld => ?_)
          clear hK K
          try simp only [Act.put, List.setIfInBounds_toArray, List.set_cons_zero, List.set_cons_succ]
          clear rp hbp
          generalize Value.slice Ap np cp = v1
          generalize Value.slice (some ⟨u10.heap.size, 0, none⟩) 3 3 = v2
          exact key2 u11 v1 v2 aw
      case c2 =>
        -- literal, one, Put
        go_simp
        clear hHeld
        refine hK.out _ _ (Aw.all (Aw.alloc aw _)) (fun hHeld => ?_)
        clear hK K
        try simp only [Act.put, List.setIfInBounds_toArray, List.set_cons_zero, List.set_cons_succ]
        replace aw := hHeld.1
        refine wpAnyH_ready (rs := [36]) (by kernel_rfl) (by simp) ?_
        refine AllReadyH.cons (o := { dst := some 58, op := Op.call { callee := Callee.value (Operand.func 26), args := #[Operand.const (Value.string { data := #[97] }), Operand.const (Value.int IntKind.u64 5), Operand.const (Value.int IntKind.u8 0)], argTypes := #[9, 22, 5] }, type := 24, pos := "law.go:22", after := #[{ on := 34, ground := Ground.chain }, { on := 34, ground := Ground.guard }], guard := some (34, true) }) rfl (fun K hK => ?_) AllReadyH.nil
        go_simp
        refine (HOI.out _ _ _ _ (by omega) (by omega)).mono ?_
        rintro e u10 ⟨rfl, hbo⟩
        replace aw := Aw.on aw hbo
        go_wp2_with fail
        clear hHeld
        refine hK.out _ _ (Aw.all aw) (fun hHeld => ?_)
        clear hK K
        try simp only [Act.put, List.setIfInBounds_toArray, List.set_cons_zero, List.set_cons_succ]
        refine wpAnyH_ready (rs := [37]) (by kernel_rfl) (by simp) ?_
        refine AllReadyH.cons (o := { dst := some 59, op := Op.call { callee := Callee.value (Operand.func 24), args := #[Operand.const (Value.slice none 0 0), Operand.tmp 58], argTypes := #[26, 24] }, type := 26, pos := "law.go:22", after := #[{ on := 36, ground := Ground.data }, { on := 36, ground := Ground.chain }, { on := 34, ground := Ground.guard }], guard := some (34, true) }) rfl (fun K hK => ?_) AllReadyH.nil
        go_simp
        refine (HPI.out _ _ _ _ (by omega) (by omega)).mono ?_
        rintro e u11 ⟨Ap, np, cp, rfl, hfp, hbp⟩
        replace aw := Aw.on aw hbp
        have rp := hfp.rd (Nat.le_refl _)
        clear hfp
        go_wp2_with fail
        clear hHeld
        refine hK.out _ _ (Aw.all aw) (fun hHeld => ?_)
        clear hK K
        try simp only [Act.put, List.setIfInBounds_toArray, List.set_cons_zero, List.set_cons_succ]
        refine wpAnyH_ready (rs := [39]) (by kernel_rfl) (by simp) ?_
        refine AllReadyH.cons (o := { dst := some 61, op := Op.call { callee := Callee.value (Operand.tmp 57), args := #[Operand.tmp 59, Operand.tmp 60], argTypes := #[26, 26] }, type := 4, pos := "law.go:22", after := #[{ on := 35, ground := Ground.data }, { on := 37, ground := Ground.data }, { on := 38, ground := Ground.data }, { on := 37, ground := Ground.chain }, { on := 34, ground := Ground.guard }], guard := some (34, true) }) rfl (fun K hK => ?_) AllReadyH.nil
        go_simp
        refine (same_t rp (((Rd.lit3 u9 _ _ _ (by omega) (by omega) (by omega) (g := u9.heap.size) (by first | rfl | simp)).under hbo (by simp)).under hbp (by have := hbo.size; simp at this; omega)) (by decide)).mono ?_
        rintro e w' ⟨rfl, rfl⟩
        go_wp2_with fail
        clear hHeld
        refine hK.out _ _ (Aw.all aw) (fun hHeld => ?_)
        clear hK K
        try simp only [Act.put, List.setIfInBounds_toArray, List.set_cons_zero, List.set_cons_succ]
        clear rp hbp
        generalize Value.slice Ap np cp = v1
        generalize Value.slice (some ⟨u9.heap.size, 0, none⟩) 3 3 = v2
        exact key2 u11 v1 v2 aw
    case kp2 =>
      intro u12 v3 v4 aw
      have hHeld := Aw.all aw
      refine wpAnyH_take (i := 40) (oi := { dst := some 62, op := Op.pick (Operand.tmp 56) (Operand.tmp 61) (Operand.const (Value.bool false)), type := 4, pos := "law.go:22", after := #[{ on := 34, ground := Ground.data }, { on := 39, ground := Ground.data }], guard := none }) (v := ?v25) rfl (by kernel_rfl) (by kernel_rfl) (by kernel_rfl) (fun _ _ _ h => h) (Or.inl ⟨by rfl, ?hy25⟩) (by assumption) ?rest25
      case hy25 => (intro w hSw; (try dsimp only at hSw); go_simp; try with_reducible rfl)
      try simp only [Act.put, List.setIfInBounds_toArray, List.set_cons_zero, List.set_cons_succ]
      refine wpAnyH_take (i := 41) (oi := { dst := some 63, op := Op.move (Operand.tmp 62), type := 4, pos := "law.go:22", after := #[{ on := 40, ground := Ground.data }, { on := 39, ground := Ground.chain }], guard := none }) (v := ?v26) rfl (by kernel_rfl) (by kernel_rfl) (by kernel_rfl) (fun _ _ _ h => h) (Or.inl ⟨by rfl, ?hy26⟩) (by assumption) ?rest26
      case hy26 => (intro w hSw; (try dsimp only at hSw); go_simp; try with_reducible rfl)
      try simp only [Act.put, List.setIfInBounds_toArray, List.set_cons_zero, List.set_cons_succ]
      refine wpAnyH_take (i := 42) (oi := { dst := some 64, op := Op.load 24 (Operand.tmp 2), type := 24, pos := "law.go:22", after := #[{ on := 41, ground := Ground.guard }], guard := some (41, true) }) (v := ?v27) rfl (by kernel_rfl) (by kernel_rfl) (by kernel_rfl) (fun _ _ _ h => h) (Or.inl ⟨by rfl, ?hy27⟩) (by assumption) ?rest27
      case hy27 => (intro w hSw; (try dsimp only at hSw); go_simp; try with_reducible rfl)
      try simp only [Act.put, List.setIfInBounds_toArray, List.set_cons_zero, List.set_cons_succ]
      refine wpAnyH_take (i := 43) (oi := { dst := some 65, op := Op.load 24 (Operand.tmp 1), type := 24, pos := "law.go:22", after := #[{ on := 41, ground := Ground.guard }], guard := some (41, true) }) (v := ?v28) rfl (by kernel_rfl) (by kernel_rfl) (by kernel_rfl) (fun _ _ _ h => h) (Or.inl ⟨by rfl, ?hy28⟩) (by assumption) ?rest28
      case hy28 => (intro w hSw; (try dsimp only at hSw); go_simp; try with_reducible rfl)
      try simp only [Act.put, List.setIfInBounds_toArray, List.set_cons_zero, List.set_cons_succ]
      refine wpAnyH_take (i := 44) (oi := { dst := some 66, op := Op.binOp BinOp.eql 24 (Operand.tmp 64) (Operand.tmp 65) 24, type := 4, pos := "law.go:22", after := #[{ on := 42, ground := Ground.data }, { on := 43, ground := Ground.data }, { on := 41, ground := Ground.guard }], guard := some (41, true) }) (v := ?v29) rfl (by kernel_rfl) (by kernel_rfl) (by kernel_rfl) (fun _ _ _ h => h) (Or.inl ⟨by rfl, ?hy29⟩) (by assumption) ?rest29
      case hy29 => (intro w hSw; (try dsimp only at hSw); go_simp; try with_reducible rfl)
      try simp only [Act.put, List.setIfInBounds_toArray, List.set_cons_zero, List.set_cons_succ]
      refine wpAnyH_take (i := 45) (oi := { dst := some 67, op := Op.pick (Operand.tmp 63) (Operand.tmp 66) (Operand.const (Value.bool false)), type := 4, pos := "law.go:22", after := #[{ on := 41, ground := Ground.data }, { on := 44, ground := Ground.data }], guard := none }) (v := ?v30) rfl (by kernel_rfl) (by kernel_rfl) (by kernel_rfl) (fun _ _ _ h => h) (Or.inl ⟨by rfl, ?hy30⟩) (by assumption) ?rest30
      case hy30 => (intro w hSw; (try dsimp only at hSw); go_simp; try with_reducible rfl)
      try simp only [Act.put, List.setIfInBounds_toArray, List.set_cons_zero, List.set_cons_succ]
      refine wpAnyH_take (i := 46) (oi := { dst := some 68, op := Op.move (Operand.tmp 67), type := 4, pos := "law.go:22", after := #[{ on := 45, ground := Ground.data }, { on := 41, ground := Ground.chain }], guard := none }) (v := ?v31) rfl (by kernel_rfl) (by kernel_rfl) (by kernel_rfl) (fun _ _ _ h => h) (Or.inl ⟨by rfl, ?hy31⟩) (by assumption) ?rest31
      case hy31 => (intro w hSw; (try dsimp only at hSw); go_simp; try with_reducible rfl)
      try simp only [Act.put, List.setIfInBounds_toArray, List.set_cons_zero, List.set_cons_succ]
      refine wpAnyH_take (i := 47) (oi := { dst := some 69, op := Op.move (Operand.tmp 8), type := 38, pos := "law.go:22", after := #[{ on := 46, ground := Ground.guard }], guard := some (46, true) }) (v := ?v32) rfl (by kernel_rfl) (by kernel_rfl) (by kernel_rfl) (fun _ _ _ h => h) (Or.inl ⟨by rfl, ?hy32⟩) (by assumption) ?rest32
      case hy32 => (intro w hSw; (try dsimp only at hSw); go_simp; try with_reducible rfl)
      try simp only [Act.put, List.setIfInBounds_toArray, List.set_cons_zero, List.set_cons_succ]
      refine wpAnyH_take (i := 48) (oi := { dst := some 70, op := Op.move (Operand.tmp 3), type := 26, pos := "law.go:22", after := #[{ on := 46, ground := Ground.guard }], guard := some (46, true) }) (v := ?v33) rfl (by kernel_rfl) (by kernel_rfl) (by kernel_rfl) (fun _ _ _ h => h) (Or.inl ⟨by rfl, ?hy33⟩) (by assumption) ?rest33
      case hy33 => (intro w hSw; (try dsimp only at hSw); go_simp; try with_reducible rfl)
      try simp only [Act.put, List.setIfInBounds_toArray, List.set_cons_zero, List.set_cons_succ]
      refine wpAnyH_ready (rs := [49]) (by kernel_rfl) (by simp) ?_
      refine AllReadyH.cons (o := { dst := some 71, op := Op.buildSlice 26 1 #[(0, Operand.const (Value.int IntKind.u8 7))], type := 26, pos := "law.go:22", after := #[{ on := 46, ground := Ground.guard }], guard := some (46, true) }) rfl (fun K hK => ?_) AllReadyH.nil
      go_simp
      clear hHeld
      refine hK.out _ _ (Aw.all (Aw.alloc aw _)) (fun hHeld => ?_)
      clear hK K
      try simp only [Act.put, List.setIfInBounds_toArray, List.set_cons_zero, List.set_cons_succ]
      replace aw := hHeld.1
      refine wpAnyH_ready (rs := [50]) (by kernel_rfl) (by simp) ?_
      refine AllReadyH.cons (o := { dst := some 72, op := Op.call { callee := Callee.value (Operand.tmp 69), args := #[Operand.tmp 70, Operand.tmp 71], argTypes := #[26, 26] }, type := 4, pos := "law.go:22", after := #[{ on := 47, ground := Ground.data }, { on := 48, ground := Ground.data }, { on := 49, ground := Ground.data }, { on := 46, ground := Ground.chain }, { on := 46, ground := Ground.guard }], guard := some (46, true) }) rfl (fun K hK => ?_) AllReadyH.nil
      go_simp
      refine (same_t (ra.now (Aw.ga aw)) (Rd.lit1 u12 _ (by omega) (g := u12.heap.size) rfl) (by decide)).mono ?_
      rintro e w' ⟨rfl, rfl⟩
      go_wp2_with fail
      clear hHeld
      refine hK.out _ _ (Aw.all aw) (fun hHeld => ?_)
      clear hK K
      try simp only [Act.put, List.setIfInBounds_toArray, List.set_cons_zero, List.set_cons_succ]
      refine wpAnyH_take (i := 51) (oi := { dst := some 73, op := Op.pick (Operand.tmp 68) (Operand.tmp 72) (Operand.const (Value.bool false)), type := 4, pos := "law.go:22", after := #[{ on := 46, ground := Ground.data }, { on := 50, ground := Ground.data }], guard := none }) (v := ?v34) rfl (by kernel_rfl) (by kernel_rfl) (by kernel_rfl) (fun _ _ _ h => h) (Or.inl ⟨by rfl, ?hy34⟩) (by assumption) ?rest34
      case hy34 => (intro w hSw; (try dsimp only at hSw); go_simp; try with_reducible rfl)
      try simp only [Act.put, List.setIfInBounds_toArray, List.set_cons_zero, List.set_cons_succ]
      refine wpAnyH_take (i := 52) (oi := { dst := some 74, op := Op.move (Operand.tmp 73), type := 4, pos := "law.go:22", after := #[{ on := 51, ground := Ground.data }, { on := 50, ground := Ground.chain }], guard := none }) (v := ?v35) rfl (by kernel_rfl) (by kernel_rfl) (by kernel_rfl) (fun _ _ _ h => h) (Or.inl ⟨by rfl, ?hy35⟩) (by assumption) ?rest35
      case hy35 => (intro w hSw; (try dsimp only at hSw); go_simp; try with_reducible rfl)
      try simp only [Act.put, List.setIfInBounds_toArray, List.set_cons_zero, List.set_cons_succ]
      refine wpAnyH_take (i := 53) (oi := { dst := some 75, op := Op.move (Operand.tmp 4), type := 4, pos := "law.go:22", after := #[{ on := 52, ground := Ground.guard }], guard := some (52, true) }) (v := ?v36) rfl (by kernel_rfl) (by kernel_rfl) (by kernel_rfl) (fun _ _ _ h => h) (Or.inl ⟨by rfl, ?hy36⟩) (by assumption) ?rest36
      case hy36 => (intro w hSw; (try dsimp only at hSw); go_simp; try with_reducible rfl)
      try simp only [Act.put, List.setIfInBounds_toArray, List.set_cons_zero, List.set_cons_succ]
      refine wpAnyH_take (i := 54) (oi := { dst := some 76, op := Op.pick (Operand.tmp 74) (Operand.tmp 75) (Operand.const (Value.bool false)), type := 4, pos := "law.go:22", after := #[{ on := 52, ground := Ground.data }, { on := 53, ground := Ground.data }], guard := none }) (v := ?v37) rfl (by kernel_rfl) (by kernel_rfl) (by kernel_rfl) (fun _ _ _ h => h) (Or.inl ⟨by rfl, ?hy37⟩) (by assumption) ?rest37
      case hy37 => (intro w hSw; (try dsimp only at hSw); go_simp; try with_reducible rfl)
      try simp only [Act.put, List.setIfInBounds_toArray, List.set_cons_zero, List.set_cons_succ]
      refine wpAnyH_take (i := 55) (oi := { dst := some 77, op := Op.move (Operand.tmp 76), type := 4, pos := "law.go:22", after := #[{ on := 54, ground := Ground.data }, { on := 52, ground := Ground.chain }], guard := none }) (v := ?v38) rfl (by kernel_rfl) (by kernel_rfl) (by kernel_rfl) (fun _ _ _ h => h) (Or.inl ⟨by rfl, ?hy38⟩) (by assumption) ?rest38
      case hy38 => (intro w hSw; (try dsimp only at hSw); go_simp; try with_reducible rfl)
      try simp only [Act.put, List.setIfInBounds_toArray, List.set_cons_zero, List.set_cons_succ]
      refine wpAnyH_take (i := 56) (oi := { dst := some 78, op := Op.move (Operand.tmp 7), type := 4, pos := "law.go:22", after := #[{ on := 55, ground := Ground.guard }], guard := some (55, true) }) (v := ?v39) rfl (by kernel_rfl) (by kernel_rfl) (by kernel_rfl) (fun _ _ _ h => h) (Or.inl ⟨by rfl, ?hy39⟩) (by assumption) ?rest39
      case hy39 => (intro w hSw; (try dsimp only at hSw); go_simp; try with_reducible rfl)
      try simp only [Act.put, List.setIfInBounds_toArray, List.set_cons_zero, List.set_cons_succ]
      refine wpAnyH_take (i := 57) (oi := { dst := some 79, op := Op.unOp UnOp.not 4 (Operand.tmp 78), type := 4, pos := "law.go:22", after := #[{ on := 56, ground := Ground.data }, { on := 55, ground := Ground.guard }], guard := some (55, true) }) (v := ?v40) rfl (by kernel_rfl) (by kernel_rfl) (by kernel_rfl) (fun _ _ _ h => h) (Or.inl ⟨by rfl, ?hy40⟩) (by assumption) ?rest40
      case hy40 => (intro w hSw; (try dsimp only at hSw); go_simp; try with_reducible rfl)
      try simp only [Act.put, List.setIfInBounds_toArray, List.set_cons_zero, List.set_cons_succ]
      refine wpAnyH_take (i := 58) (oi := { dst := some 80, op := Op.pick (Operand.tmp 77) (Operand.tmp 79) (Operand.const (Value.bool false)), type := 4, pos := "law.go:22", after := #[{ on := 55, ground := Ground.data }, { on := 57, ground := Ground.data }], guard := none }) (v := ?v41) rfl (by kernel_rfl) (by kernel_rfl) (by kernel_rfl) (fun _ _ _ h => h) (Or.inl ⟨by rfl, ?hy41⟩) (by assumption) ?rest41
      case hy41 => (intro w hSw; (try dsimp only at hSw); go_simp; try with_reducible rfl)
      try simp only [Act.put, List.setIfInBounds_toArray, List.set_cons_zero, List.set_cons_succ]
      refine wpAnyH_take (i := 59) (oi := { dst := some 81, op := Op.move (Operand.tmp 80), type := 4, pos := "law.go:22", after := #[{ on := 58, ground := Ground.data }, { on := 55, ground := Ground.chain }], guard := none }) (v := ?v42) rfl (by kernel_rfl) (by kernel_rfl) (by kernel_rfl) (fun _ _ _ h => h) (Or.inl ⟨by rfl, ?hy42⟩) (by assumption) ?rest42
      case hy42 => (intro w hSw; (try dsimp only at hSw); go_simp; try with_reducible rfl)
      try simp only [Act.put, List.setIfInBounds_toArray, List.set_cons_zero, List.set_cons_succ]
      refine wpAnyH_ready (rs := [60]) (by kernel_rfl) (by simp) ?_
      refine AllReadyH.cons (o := { dst := some 82, op := Op.call { callee := Callee.value (Operand.func 26), args := #[Operand.const (Value.string { data := #[97] }), Operand.const (Value.int IntKind.u64 5), Operand.const (Value.int IntKind.u8 0)], argTypes := #[9, 22, 5] }, type := 24, pos := "law.go:22", after := #[{ on := 59, ground := Ground.chain }, { on := 59, ground := Ground.guard }], guard := some (59, true) }) rfl (fun K hK => ?_) AllReadyH.nil
      go_simp
      refine (HOI.out _ _ _ _ (by omega) (by omega)).mono ?_
      rintro e u13 ⟨rfl, hb⟩
      replace aw := Aw.on aw hb
      go_wp2_with fail
      clear hHeld
      refine hK.out _ _ (Aw.all aw) (fun hHeld => ?_)
      clear hK K
      try simp only [Act.put, List.setIfInBounds_toArray, List.set_cons_zero, List.set_cons_succ]
      refine wpAnyH_take (i := 61) (oi := { dst := some 83, op := Op.build 29 #[(0, Operand.tmp 82), (1, Operand.const (Value.string { data := #[120] }))], type := 29, pos := "law.go:22", after := #[{ on := 60, ground := Ground.data }, { on := 59, ground := Ground.guard }], guard := some (59, true) }) (v := ?v43) rfl (by kernel_rfl) (by kernel_rfl) (by kernel_rfl) (fun _ _ _ h => h) (Or.inl ⟨by rfl, ?hy43⟩) (by assumption) ?rest43
      case hy43 => (intro w hSw; (try dsimp only at hSw); go_simp; try with_reducible rfl)
      try simp only [Act.put, List.setIfInBounds_toArray, List.set_cons_zero, List.set_cons_succ]
      refine wpAnyH_ready (rs := [62]) (by kernel_rfl) (by simp) ?_
      refine AllReadyH.cons (o := { dst := some 84, op := Op.call { callee := Callee.value (Operand.func 15), args := #[Operand.tmp 83], argTypes := #[29] }, type := 4, pos := "law.go:22", after := #[{ on := 61, ground := Ground.data }, { on := 60, ground := Ground.chain }, { on := 59, ground := Ground.guard }], guard := some (59, true) }) rfl (fun K hK => ?_) AllReadyH.nil
      go_simp
      refine (HEI.out _ _ _ _ _ (by omega) (by omega)).mono ?_
      rintro e u14 ⟨rfl, hb⟩
      replace aw := Aw.on aw hb
      go_wp2_with fail
      clear hHeld
      refine hK.out _ _ (Aw.all aw) (fun hHeld => ?_)
      clear hK K
      try simp only [Act.put, List.setIfInBounds_toArray, List.set_cons_zero, List.set_cons_succ]
      refine wpAnyH_take (i := 63) (oi := { dst := some 85, op := Op.unOp UnOp.not 4 (Operand.tmp 84), type := 4, pos := "law.go:22", after := #[{ on := 62, ground := Ground.data }, { on := 59, ground := Ground.guard }], guard := some (59, true) }) (v := ?v44) rfl (by kernel_rfl) (by kernel_rfl) (by kernel_rfl) (fun _ _ _ h => h) (Or.inl ⟨by rfl, ?hy44⟩) (by assumption) ?rest44
      case hy44 => (intro w hSw; (try dsimp only at hSw); go_simp; try with_reducible rfl)
      try simp only [Act.put, List.setIfInBounds_toArray, List.set_cons_zero, List.set_cons_succ]
      refine wpAnyH_take (i := 64) (oi := { dst := some 86, op := Op.pick (Operand.tmp 81) (Operand.tmp 85) (Operand.const (Value.bool false)), type := 4, pos := "law.go:22", after := #[{ on := 59, ground := Ground.data }, { on := 63, ground := Ground.data }], guard := none }) (v := ?v45) rfl (by kernel_rfl) (by kernel_rfl) (by kernel_rfl) (fun _ _ _ h => h) (Or.inl ⟨by rfl, ?hy45⟩) (by assumption) ?rest45
      case hy45 => (intro w hSw; (try dsimp only at hSw); go_simp; try with_reducible rfl)
      try simp only [Act.put, List.setIfInBounds_toArray, List.set_cons_zero, List.set_cons_succ]
      refine wpAnyH_take (i := 65) (oi := { dst := some 0, op := Op.assign (Operand.tmp 86), type := 4, pos := "law.go:22", after := #[{ on := 64, ground := Ground.data }, { on := 62, ground := Ground.chain }, { on := 0, ground := Ground.phase }, { on := 1, ground := Ground.phase }, { on := 2, ground := Ground.phase }, { on := 3, ground := Ground.phase }, { on := 4, ground := Ground.phase }, { on := 5, ground := Ground.phase }, { on := 6, ground := Ground.phase }, { on := 7, ground := Ground.phase }, { on := 8, ground := Ground.phase }, { on := 9, ground := Ground.phase }, { on := 10, ground := Ground.phase }, { on := 11, ground := Ground.phase }, { on := 12, ground := Ground.phase }, { on := 13, ground := Ground.phase }, { on := 14, ground := Ground.phase }, { on := 15, ground := Ground.phase }, { on := 16, ground := Ground.phase }, { on := 17, ground := Ground.phase }, { on := 18, ground := Ground.phase }, { on := 19, ground := Ground.phase }, { on := 20, ground := Ground.phase }, { on := 21, ground := Ground.phase }, { on := 22, ground := Ground.phase }, { on := 23, ground := Ground.phase }, { on := 24, ground := Ground.phase }, { on := 25, ground := Ground.phase }, { on := 26, ground := Ground.phase }, { on := 27, ground := Ground.phase }, { on := 28, ground := Ground.phase }, { on := 29, ground := Ground.phase }, { on := 30, ground := Ground.phase }, { on := 31, ground := Ground.phase }, { on := 32, ground := Ground.phase }, { on := 33, ground := Ground.phase }, { on := 34, ground := Ground.phase }, { on := 35, ground := Ground.phase }, { on := 36, ground := Ground.phase }, { on := 37, ground := Ground.phase }, { on := 38, ground := Ground.phase }, { on := 39, ground := Ground.phase }, { on := 40, ground := Ground.phase }, { on := 41, ground := Ground.phase }, { on := 42, ground := Ground.phase }, { on := 43, ground := Ground.phase }, { on := 44, ground := Ground.phase }, { on := 45, ground := Ground.phase }, { on := 46, ground := Ground.phase }, { on := 47, ground := Ground.phase }, { on := 48, ground := Ground.phase }, { on := 49, ground := Ground.phase }, { on := 50, ground := Ground.phase }, { on := 51, ground := Ground.phase }, { on := 52, ground := Ground.phase }, { on := 53, ground := Ground.phase }, { on := 54, ground := Ground.phase }, { on := 55, ground := Ground.phase }, { on := 56, ground := Ground.phase }, { on := 57, ground := Ground.phase }, { on := 58, ground := Ground.phase }, { on := 59, ground := Ground.phase }, { on := 60, ground := Ground.phase }, { on := 61, ground := Ground.phase }, { on := 62, ground := Ground.phase }, { on := 63, ground := Ground.phase }, { on := 64, ground := Ground.phase }], guard := none }) (v := ?v46) rfl (by kernel_rfl) (by kernel_rfl) (by kernel_rfl) (fun _ _ _ h => h) (Or.inl ⟨by rfl, ?hy46⟩) (by assumption) ?rest46
      case hy46 => (intro w hSw; (try dsimp only at hSw); go_simp; try with_reducible rfl)
      try simp only [Act.put, List.setIfInBounds_toArray, List.set_cons_zero]
      refine wpAnyH_done (by kernel_rfl) ?_ _
      refine NoPanic.normal ?_
      go_wp2
      go_ret
      exact ⟨rfl, aw.g0⟩
end Go.Proofs.Ytobfdhnaejfehaa
