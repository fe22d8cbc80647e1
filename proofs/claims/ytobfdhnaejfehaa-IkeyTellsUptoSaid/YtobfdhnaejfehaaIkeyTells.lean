/-
  IkeyTells: which keys and entries are right, which is ahead, which lists rise, what is sought, and the forms, is as the document defines. Condition: what is read is of bulk at most 1048576.
-/
import Derived.Test.YtobfdhnaejfehaaRows
import Derived.Test.YtobfdhnaejfehaaIk6
import Derived.Test.YtobfdhnaejfehaaIkF
import Derived.WalkKit
import Derived.ProofKit
import Derived.OpenShut
import Derived.ShutString
import Derived.ChangeOld
import Derived.Below
import Derived.JoinedCond
import Derived.Deep.RegionHeld3
namespace Go.Proofs.Ytobfdhnaejfehaa.ikeyTells
open Go.ChangeShapes Go.WideShapes Go.ChangeAt Go.RowKit
open Go.ChangeMaps (open_string shut_string)
set_option linter.unusedVariables false

theorem own : ownKnob Try.prog.godebug = none := by kernel_rfl
theorem laidOut : laidOutB Try.prog = true := by kernel_rfl

theorem bulk_pos {H : Type} (d : DataW H) : 1 ≤ Rows.uptoBulk d := by
  cases d with
  | lit l => cases l <;> simp [Rows.uptoBulk]
  | _ => simp [Rows.uptoBulk]
theorem bulk_len {H : Type} : ∀ l : List (DataW H), l.length ≤ Rows.uptoBulkAll l
  | [] => by simp [Rows.uptoBulkAll]
  | d :: l => by
    have := bulk_pos d; have := bulk_len l
    simp only [Rows.uptoBulkAll, List.length_cons]; omega
theorem ents_bulk {H : Type} {enc : TypeId × Value → H} {w : World} {base : Nat} {spare : Nat → Bool} {held : Bool} {A : Option Addr} {n c : Nat} {d : DataW H} {p : List MemPlace}
    (h : DataW.Trod enc Try.prog w base spare held 25 (.slice A n c) d p) : n ≤ Rows.uptoBulk d := by
  obtain ⟨fuel, hf⟩ := h
  rcases Go.Deep.open_slice Try.underlying25 hf with ⟨hcs, _⟩ | ⟨a, len, cap, m, n', D, Pl, hcs, _, _, _, _, hx, _⟩
  · simp [Value.cells] at hcs
    omega
  · simp [Value.cells] at hcs
    obtain ⟨rfl, rfl, rfl⟩ := hcs
    simp only [Prod.mk.injEq] at hx
    rw [hx.1]
    have := bulk_len ((List.range n).map D)
    simp only [List.length_map, List.length_range] at this
    simp only [Rows.uptoBulk]; omega

set_option maxRecDepth 100000 in
set_option maxHeartbeats 8000000 in
theorem walk (s0 : ByteArray) (q0 k0 : Nat) (s1 : ByteArray) (q1 k1 : Nat) (a2 : ByteArray) (A3 : Option Addr) (n3 c3 : Nat) (L3 : List Ent) (A4 : Option Addr) (n4 c4 : Nat) (l4 : List UInt8) (w : World) (w0 : s0.size ≤ maxLen) (x0 : (q0 : Int) ≤ 18446744073709551615) (y0 : (k0 : Int) ≤ 255) (w1 : s1.size ≤ maxLen) (x1 : (q1 : Int) ≤ 18446744073709551615) (y1 : (k1 : Int) ≤ 255) (w2 : a2.size ≤ maxLen) (r3 : RdE w w.heap.size A3 n3 c3 L3) (o3 : ∀ x ∈ L3, EntOk x) (w4 : l4.length = n4) (r4 : Rd w w.heap.size A4 n4 c4 (bv l4)) (hbk : n3 ≤ 1048576) :
    Calls Try.prog 3 #[ik s0 q0 k0, ik s1 q1 k1, .string a2, .slice A3 n3 c3, .slice A4 n4 c4] w fun e w' => e = .returned (.bool true) ∧ Below w.heap.size w w' := by
  have HR1 := Lib.hid (fun W => right_c W s0 q0 k0)
  have HR2 := Lib.hid (fun W => refRight_c W s0 q0 k0)
  have HE1 := Lib.hid (fun W => entry_c W s0 q0 k0 a2)
  have HE2 := Lib.hid (fun W => refEntry_c W s0 q0 k0 a2)
  have HC1 := Lib.hid (fun W => compare_c W s0 s1 q0 k0 q1 k1)
  have HC2 := Lib.hid (fun W => refCompare_c W s0 s1 q0 k0 q1 k1)
  have HS1 := Lib.hid (fun W => sought_c W s0 q1)
  have HS2 := Lib.hid (fun W => refSought_c W s0 q1)
  unfold ik at HR1 HR2 HC1 HC2 HS1 HS2 ⊢
  unfold en at HE1 HE2
  generalize rightB s0 q0 k0 = rb at HR1 HR2
  generalize entryB s0 q0 k0 a2 = eb at HE1 HE2
  generalize cmpV s0 q0 k0 s1 q1 k1 = cv at HC1 HC2
  have hfr := FrE.two ((w.alloc (.cells #[.string s0, .int .u64 (q0 : Int), .int .u8 (k0 : Int)] 24)).alloc (.cells #[.string s1, .int .u64 (q1 : Int), .int .u8 (k1 : Int)] 24)) (b := w.heap.size + 1 + 1) (g := w.heap.size + 1 + 1) ⟨s0, q0, k0, a2⟩ ⟨s1, q1, k1, ⟨#[]⟩⟩ (by simp) (by simp)
  have hbw := blit (blit (below_alloc w (.cells #[.string s0, .int .u64 (q0 : Int), .int .u8 (k0 : Int)] 24)) (.cells #[.string s1, .int .u64 (q1 : Int), .int .u8 (k1 : Int)] 24)) (.cells #[.string s0, .int .u64 (q0 : Int), .int .u8 (k0 : Int), .string a2, .string s1, .int .u64 (q1 : Int), .int .u8 (k1 : Int), .string ⟨#[]⟩] 29)
  have r3' := r3.below hbw (Nat.le_refl _)
  have i0 := ((IkAt.new w s0 q0 k0).alloc (.cells #[.string s1, .int .u64 (q1 : Int), .int .u8 (k1 : Int)] 24))
  have i1 := (IkAt.new (w.alloc (.cells #[.string s0, .int .u64 (q0 : Int), .int .u8 (k0 : Int)] 24)) s1 q1 k1)
  simp only [World.size_alloc] at i1
  obtain ⟨a0c, a1c, a2c⟩ := i0.cells
  obtain ⟨b0c, b1c, b2c⟩ := i1.cells
  have H0 := Lib.hid (i0.alloc (.cells #[.string s0, .int .u64 (q0 : Int), .int .u8 (k0 : Int), .string a2, .string s1, .int .u64 (q1 : Int), .int .u8 (k1 : Int), .string ⟨#[]⟩] 29))
  have H1 := Lib.hid (i1.alloc (.cells #[.string s0, .int .u64 (q0 : Int), .int .u8 (k0 : Int), .string a2, .string s1, .int .u64 (q1 : Int), .int .u8 (k1 : Int), .string ⟨#[]⟩] 29))
  have HW := Lib.hid hbw
  clear hbw w0 x0 y0 w1 x1 y1 w2 i0 i1 o3
  go_enter Try.func3, Try.ntmps3
  go_wp2_with (at_builtin; refine wpList_appE rfl (.tmp 23) (.tmp 24) rfl rfl hfr rfl r3' (by omega) (by simp) ?_; intro A7 c7 w7 hap)
  refine (few_c (hap.fr.rd (Nat.le_refl _)) (Nat.le_refl _) 62).mono ?_
  rintro e w8 ⟨rfl, hb8⟩
  have i0 := ((H0.out.below2 hap.below (by omega)).below hb8 (Nat.le_refl _))
  have i1 := ((H1.out.below2 hap.below (by omega)).below hb8 (Nat.le_refl _))
  have hg : Below w.heap.size w w8 := bon (HW.out.trans (hap.below.mono (by omega))) hb8
  generalize hfw : fewB _ 62 = fw
  clear hap hb8 H0 H1 HW hfr r3' a0c a1c a2c b0c b1c b2c
  cases fw with
  | false =>
    go_wp2_with fail
    refine (awake3_c _).mono ?_
    rintro e u99 ⟨rfl, hb99⟩
    go_wp2_with fail
    go_ret
    exact ⟨rfl, bon hg hb99⟩
  | true =>
  have hn60 : n3 ≤ 60 := by unfold fewB at hfw; simp at hfw; have := r3.len; omega
  clear hfw
  by_cases h200 : 200 < n4
  · have hd1 : decide ((200 : Int) < (n4 : Int)) = true := by simp; omega
    have hd2 : decide (200 < n4) = true := by simp; omega
    go_wp2_with fail
    refine (awake3_c _).mono ?_
    rintro e u99 ⟨rfl, hb99⟩
    go_wp2_with fail
    go_ret
    exact ⟨rfl, bon hg hb99⟩
  have hd1 : decide ((200 : Int) < (n4 : Int)) = false := by simp; omega
  have hd2 : decide (200 < n4) = false := by simp; omega
  obtain ⟨a0c, a1c, a2c⟩ := i0.cells
  have ie := EnAt.new w8 s0 q0 k0 a2
  replace i0 := i0.alloc (.cells #[.string s0, .int .u64 (q0 : Int), .int .u8 (k0 : Int), .string a2] 29)
  replace i1 := i1.alloc (.cells #[.string s0, .int .u64 (q0 : Int), .int .u8 (k0 : Int), .string a2] 29)
  replace hg := blit hg (.cells #[.string s0, .int .u64 (q0 : Int), .int .u8 (k0 : Int), .string a2] 29)
  have r4n := (r4.under hg (Nat.le_refl _)).more hg.size
  go_wp2_with fail
  refine (take3_c r4n (Nat.le_refl _) (by omega)).mono ?_
  intro e w9 hp
  obtain ⟨sx, qx, kx, rx, okx, Ax, nx, cx, hkx, rfl, hfx, hbx⟩ := hp.form
  clear hp a0c a1c a2c r4n
  replace i0 := (i0.below hbx (Nat.le_refl _)).alloc (.cells #[.string sx, .int .u64 (qx : Int), .int .u8 (kx : Int)] 24)
  replace i1 := (i1.below hbx (Nat.le_refl _)).alloc (.cells #[.string sx, .int .u64 (qx : Int), .int .u8 (kx : Int)] 24)
  replace ie := (ie.below hbx (Nat.le_refl _)).alloc (.cells #[.string sx, .int .u64 (qx : Int), .int .u8 (kx : Int)] 24)
  replace hg := blit (bon hg hbx) (.cells #[.string sx, .int .u64 (qx : Int), .int .u8 (kx : Int)] 24)
  have ix := IkAt.new w9 sx qx kx
  replace hfx := hfx.alloc (.cells #[.string sx, .int .u64 (qx : Int), .int .u8 (kx : Int)] 24)
  clear hbx
  have r4n := (r4.under hg (Nat.le_refl _)).more hg.size
  go_wp2_with fail
  refine (refTake3_c r4n (Nat.le_refl _) (by omega)).mono ?_
  intro e w10 hp
  obtain ⟨sy, qy, ky, ry, oky, Ay, ny, cy, hky, rfl, hfy, hby⟩ := hp.form
  clear hp r4n
  obtain ⟨rfl, rfl, rfl, rfl, rfl⟩ := key_same hkx hky
  replace i0 := (i0.below hby (Nat.le_refl _)).alloc (.cells #[.string sx, .int .u64 (qx : Int), .int .u8 (kx : Int)] 24)
  replace i1 := (i1.below hby (Nat.le_refl _)).alloc (.cells #[.string sx, .int .u64 (qx : Int), .int .u8 (kx : Int)] 24)
  replace ie := (ie.below hby (Nat.le_refl _)).alloc (.cells #[.string sx, .int .u64 (qx : Int), .int .u8 (kx : Int)] 24)
  replace ix := (ix.below hby (Nat.le_refl _)).alloc (.cells #[.string sx, .int .u64 (qx : Int), .int .u8 (kx : Int)] 24)
  replace hg := blit (bon hg hby) (.cells #[.string sx, .int .u64 (qx : Int), .int .u8 (kx : Int)] 24)
  replace hfx := (hfx.below hby).alloc (.cells #[.string sx, .int .u64 (qx : Int), .int .u8 (kx : Int)] 24)
  have iy := IkAt.new w10 sx qx kx
  replace hfy := hfy.alloc (.cells #[.string sx, .int .u64 (qx : Int), .int .u8 (kx : Int)] 24)
  clear hby hkx hky
  have hE1 : ∀ W, (Op.equalIn 10000 24 (.agg #[.string s0, .int .u64 (q1 : Int), .int .u8 1]) (.agg #[.string s0, .int .u64 (q1 : Int), .int .u8 1])).run Try.prog W = .ok true W := fun W => (run_eq_ik W s0 q1 1 s0 q1 1).trans (by simp [sameK])
  have hE2 : ∀ W, (Op.equalIn 10000 24 (.agg #[.string sx, .int .u64 (qx : Int), .int .u8 (kx : Int)]) (.agg #[.string sx, .int .u64 (qx : Int), .int .u8 (kx : Int)])).run Try.prog W = .ok true W := fun W => (run_eq_ik W sx qx kx sx qx kx).trans (by simp [sameK])
  have HI1 := Lib.hid (fun W (hH : Below w.heap.size w W) => rising_c ((r3.below hH (Nat.le_refl _)).more hH.size) (Nat.le_refl _) (by omega))
  have HI2 := Lib.hid (fun W (hH : Below w.heap.size w W) => refRising_c ((r3.below hH (Nat.le_refl _)).more hH.size) (Nat.le_refl _) (by omega))
  have HP1 := Lib.hid (fun W (hH : Below w.heap.size w W) => put3_c ((r4.under hH (Nat.le_refl _)).more hH.size) (Nat.le_refl _) (by omega) s0 q0 k0)
  have HP2 := Lib.hid (fun W (hH : Below w.heap.size w W) => refPut3_c ((r4.under hH (Nat.le_refl _)).more hH.size) (Nat.le_refl _) (by omega) s0 q0 k0)
  generalize risB L3 = rl at HI1 HI2
  unfold ik at HP1 HP2
  have rax := hfx.rd (Nat.le_refl _)
  have ray := hfy.rd (Nat.le_refl _)
  have tk : Tk w (w10.alloc (.cells #[.string sx, .int .u64 (qx : Int), .int .u8 (kx : Int)] 24)) w.heap.size w8.heap.size w9.heap.size w10.heap.size s0 q0 k0 s1 q1 k1 a2 sx qx kx _ := ⟨i0, i1, ie, ix, iy, hg, Below.refl _ _⟩
  clear i0 i1 ie ix iy hg hfx hfy r3 r4 w4
  go_wp2_with fail
  dsimp only [List.append]
  refine wp_region_noPanic ?_
  replace tk := Tk.drew tk
  refine wp_region_held_drew (S := (fun w' => Tk w (w10.alloc (.cells #[.string sx, .int .u64 (qx : Int), .int .u8 (kx : Int)] 24)) w.heap.size w8.heap.size w9.heap.size w10.heap.size s0 q0 k0 s1 q1 k1 a2 sx qx kx w' ∧ (w'.cell? ⟨w.heap.size, 0, none⟩ = some (.string s0) ∧ w'.cell? ⟨w.heap.size, 1, none⟩ = some (.int .u64 (q0 : Int)) ∧ w'.cell? ⟨w.heap.size, 2, none⟩ = some (.int .u8 (k0 : Int))) ∧ (w'.cell? ⟨w.heap.size + 1, 0, none⟩ = some (.string s1) ∧ w'.cell? ⟨w.heap.size + 1, 1, none⟩ = some (.int .u64 (q1 : Int)) ∧ w'.cell? ⟨w.heap.size + 1, 2, none⟩ = some (.int .u8 (k1 : Int))) ∧ (w'.cell? ⟨w8.heap.size, 0, none⟩ = some (.string s0) ∧ w'.cell? ⟨w8.heap.size, 1, none⟩ = some (.int .u64 (q0 : Int)) ∧ w'.cell? ⟨w8.heap.size, 2, none⟩ = some (.int .u8 (k0 : Int)) ∧ w'.cell? ⟨w8.heap.size, 3, none⟩ = some (.string a2)) ∧ (w'.cell? ⟨w9.heap.size, 0, none⟩ = some (.string sx) ∧ w'.cell? ⟨w9.heap.size, 1, none⟩ = some (.int .u64 (qx : Int)) ∧ w'.cell? ⟨w9.heap.size, 2, none⟩ = some (.int .u8 (kx : Int))) ∧ (w'.cell? ⟨w10.heap.size, 0, none⟩ = some (.string sx) ∧ w'.cell? ⟨w10.heap.size, 1, none⟩ = some (.int .u64 (qx : Int)) ∧ w'.cell? ⟨w10.heap.size, 2, none⟩ = some (.int .u8 (kx : Int))))) (by kernel_rfl) (Tk.all tk) (fun hHeld => ?_)
  refine wpAnyH_take (i := 0) (oi := { dst := some 49, op := Op.load 24 (Operand.tmp 5), type := 24, pos := "law.go:44", after := #[], guard := none }) (v := ?v1) rfl (by kernel_rfl) (by kernel_rfl) (by kernel_rfl) (fun _ _ _ h => h) (Or.inl ⟨by rfl, ?hy1⟩) (by assumption) ?rest1
  case hy1 => (intro w hSw; (try dsimp only at hSw); go_simp; try with_reducible rfl)
  try simp only [Act.put, List.setIfInBounds_toArray, List.set_cons_zero, List.set_cons_succ]
  refine wpAnyH_take (i := 2) (oi := { dst := some 51, op := Op.load 24 (Operand.tmp 5), type := 24, pos := "law.go:44", after := #[], guard := none }) (v := ?v2) rfl (by kernel_rfl) (by kernel_rfl) (by kernel_rfl) (fun _ _ _ h => h) (Or.inl ⟨by rfl, ?hy2⟩) (by assumption) ?rest2
  case hy2 => (intro w hSw; (try dsimp only at hSw); go_simp; try with_reducible rfl)
  try simp only [Act.put, List.setIfInBounds_toArray, List.set_cons_zero, List.set_cons_succ]
  refine wpAnyH_ready (rs := [1]) (by kernel_rfl) (by simp) ?_
  refine AllReadyH.cons (o := { dst := some 50, op := Op.call { callee := Callee.value (Operand.func 13), args := #[Operand.tmp 49], argTypes := #[24] }, type := 4, pos := "law.go:44", after := #[{ on := 0, ground := Ground.data }], guard := none }) rfl (fun K hK => ?_) AllReadyH.nil
  go_simp
  refine (HR1.out _).mono ?_
  rintro e u1 ⟨rfl, hb⟩
  replace tk := tk.on hb
  clear hb
  go_wp2_with fail
  clear hHeld
  refine hK.out _ _ (Tk.all tk) (fun hHeld => ?_)
  clear hK K
  try simp only [Act.put, List.setIfInBounds_toArray, List.set_cons_zero, List.set_cons_succ]
  refine wpAnyH_ready (rs := [3]) (by kernel_rfl) (by simp) ?_
  refine AllReadyH.cons (o := { dst := some 52, op := Op.call { callee := Callee.value (Operand.func 14), args := #[Operand.tmp 51], argTypes := #[24] }, type := 4, pos := "law.go:44", after := #[{ on := 2, ground := Ground.data }, { on := 1, ground := Ground.chain }], guard := none }) rfl (fun K hK => ?_) AllReadyH.nil
  go_simp
  refine (HR2.out _).mono ?_
  rintro e u3 ⟨rfl, hb⟩
  replace tk := tk.on hb
  clear hb
  go_wp2_with fail
  clear hHeld
  refine hK.out _ _ (Tk.all tk) (fun hHeld => ?_)
  clear hK K
  try simp only [Act.put, List.setIfInBounds_toArray, List.set_cons_zero, List.set_cons_succ]
  refine wpAnyH_take (i := 4) (oi := { dst := some 53, op := Op.binOp BinOp.eql 4 (Operand.tmp 50) (Operand.tmp 52) 4, type := 4, pos := "law.go:44", after := #[{ on := 1, ground := Ground.data }, { on := 3, ground := Ground.data }], guard := none }) (v := ?v3) rfl (by kernel_rfl) (by kernel_rfl) (by kernel_rfl) (fun _ _ _ h => h) (Or.inl ⟨by rfl, ?hy3⟩) (by assumption) ?rest3
  case hy3 => (intro w hSw; (try dsimp only at hSw); go_simp; try with_reducible rfl)
  try simp only [Act.put, List.setIfInBounds_toArray, List.set_cons_zero, List.set_cons_succ]
  refine wpAnyH_take (i := 5) (oi := { dst := some 54, op := Op.move (Operand.tmp 53), type := 4, pos := "law.go:44", after := #[{ on := 4, ground := Ground.data }, { on := 3, ground := Ground.chain }], guard := none }) (v := ?v4) rfl (by kernel_rfl) (by kernel_rfl) (by kernel_rfl) (fun _ _ _ h => h) (Or.inl ⟨by rfl, ?hy4⟩) (by assumption) ?rest4
  case hy4 => (intro w hSw; (try dsimp only at hSw); go_simp; try with_reducible rfl)
  try simp only [Act.put, List.setIfInBounds_toArray, List.set_cons_zero, List.set_cons_succ]
  refine wpAnyH_take (i := 6) (oi := { dst := some 55, op := Op.load 29 (Operand.tmp 11), type := 29, pos := "law.go:44", after := #[{ on := 5, ground := Ground.guard }], guard := some (5, true) }) (v := ?v5) rfl (by kernel_rfl) (by kernel_rfl) (by kernel_rfl) (fun _ _ _ h => h) (Or.inl ⟨by rfl, ?hy5⟩) (by assumption) ?rest5
  case hy5 => (intro w hSw; (try dsimp only at hSw); go_simp; try with_reducible rfl)
  try simp only [Act.put, List.setIfInBounds_toArray, List.set_cons_zero, List.set_cons_succ]
  refine wpAnyH_take (i := 8) (oi := { dst := some 57, op := Op.load 29 (Operand.tmp 11), type := 29, pos := "law.go:44", after := #[{ on := 5, ground := Ground.guard }], guard := some (5, true) }) (v := ?v6) rfl (by kernel_rfl) (by kernel_rfl) (by kernel_rfl) (fun _ _ _ h => h) (Or.inl ⟨by rfl, ?hy6⟩) (by assumption) ?rest6
  case hy6 => (intro w hSw; (try dsimp only at hSw); go_simp; try with_reducible rfl)
  try simp only [Act.put, List.setIfInBounds_toArray, List.set_cons_zero, List.set_cons_succ]
  refine wpAnyH_ready (rs := [7]) (by kernel_rfl) (by simp) ?_
  refine AllReadyH.cons (o := { dst := some 56, op := Op.call { callee := Callee.value (Operand.func 15), args := #[Operand.tmp 55], argTypes := #[29] }, type := 4, pos := "law.go:44", after := #[{ on := 6, ground := Ground.data }, { on := 5, ground := Ground.chain }, { on := 5, ground := Ground.guard }], guard := some (5, true) }) rfl (fun K hK => ?_) AllReadyH.nil
  go_simp
  refine (HE1.out _).mono ?_
  rintro e u7 ⟨rfl, hb⟩
  replace tk := tk.on hb
  clear hb
  go_wp2_with fail
  clear hHeld
  refine hK.out _ _ (Tk.all tk) (fun hHeld => ?_)
  clear hK K
  try simp only [Act.put, List.setIfInBounds_toArray, List.set_cons_zero, List.set_cons_succ]
  refine wpAnyH_ready (rs := [9]) (by kernel_rfl) (by simp) ?_
  refine AllReadyH.cons (o := { dst := some 58, op := Op.call { callee := Callee.value (Operand.func 16), args := #[Operand.tmp 57], argTypes := #[29] }, type := 4, pos := "law.go:44", after := #[{ on := 8, ground := Ground.data }, { on := 7, ground := Ground.chain }, { on := 5, ground := Ground.guard }], guard := some (5, true) }) rfl (fun K hK => ?_) AllReadyH.nil
  go_simp
  refine (HE2.out _).mono ?_
  rintro e u9 ⟨rfl, hb⟩
  replace tk := tk.on hb
  clear hb
  go_wp2_with fail
  clear hHeld
  refine hK.out _ _ (Tk.all tk) (fun hHeld => ?_)
  clear hK K
  try simp only [Act.put, List.setIfInBounds_toArray, List.set_cons_zero, List.set_cons_succ]
  refine wpAnyH_take (i := 10) (oi := { dst := some 59, op := Op.binOp BinOp.eql 4 (Operand.tmp 56) (Operand.tmp 58) 4, type := 4, pos := "law.go:44", after := #[{ on := 7, ground := Ground.data }, { on := 9, ground := Ground.data }, { on := 5, ground := Ground.guard }], guard := some (5, true) }) (v := ?v7) rfl (by kernel_rfl) (by kernel_rfl) (by kernel_rfl) (fun _ _ _ h => h) (Or.inl ⟨by rfl, ?hy7⟩) (by assumption) ?rest7
  case hy7 => (intro w hSw; (try dsimp only at hSw); go_simp; try with_reducible rfl)
  try simp only [Act.put, List.setIfInBounds_toArray, List.set_cons_zero, List.set_cons_succ]
  refine wpAnyH_take (i := 11) (oi := { dst := some 60, op := Op.pick (Operand.tmp 54) (Operand.tmp 59) (Operand.const (Value.bool false)), type := 4, pos := "law.go:44", after := #[{ on := 5, ground := Ground.data }, { on := 10, ground := Ground.data }], guard := none }) (v := ?v8) rfl (by kernel_rfl) (by kernel_rfl) (by kernel_rfl) (fun _ _ _ h => h) (Or.inl ⟨by rfl, ?hy8⟩) (by assumption) ?rest8
  case hy8 => (intro w hSw; (try dsimp only at hSw); go_simp; try with_reducible rfl)
  try simp only [Act.put, List.setIfInBounds_toArray, List.set_cons_zero, List.set_cons_succ]
  refine wpAnyH_take (i := 12) (oi := { dst := some 61, op := Op.move (Operand.tmp 60), type := 4, pos := "law.go:44", after := #[{ on := 11, ground := Ground.data }, { on := 9, ground := Ground.chain }], guard := none }) (v := ?v9) rfl (by kernel_rfl) (by kernel_rfl) (by kernel_rfl) (fun _ _ _ h => h) (Or.inl ⟨by rfl, ?hy9⟩) (by assumption) ?rest9
  case hy9 => (intro w hSw; (try dsimp only at hSw); go_simp; try with_reducible rfl)
  try simp only [Act.put, List.setIfInBounds_toArray, List.set_cons_zero, List.set_cons_succ]
  refine wpAnyH_take (i := 13) (oi := { dst := some 62, op := Op.load 24 (Operand.tmp 5), type := 24, pos := "law.go:44", after := #[{ on := 12, ground := Ground.guard }], guard := some (12, true) }) (v := ?v10) rfl (by kernel_rfl) (by kernel_rfl) (by kernel_rfl) (fun _ _ _ h => h) (Or.inl ⟨by rfl, ?hy10⟩) (by assumption) ?rest10
  case hy10 => (intro w hSw; (try dsimp only at hSw); go_simp; try with_reducible rfl)
  try simp only [Act.put, List.setIfInBounds_toArray, List.set_cons_zero, List.set_cons_succ]
  refine wpAnyH_take (i := 14) (oi := { dst := some 63, op := Op.load 24 (Operand.tmp 6), type := 24, pos := "law.go:44", after := #[{ on := 12, ground := Ground.guard }], guard := some (12, true) }) (v := ?v11) rfl (by kernel_rfl) (by kernel_rfl) (by kernel_rfl) (fun _ _ _ h => h) (Or.inl ⟨by rfl, ?hy11⟩) (by assumption) ?rest11
  case hy11 => (intro w hSw; (try dsimp only at hSw); go_simp; try with_reducible rfl)
  try simp only [Act.put, List.setIfInBounds_toArray, List.set_cons_zero, List.set_cons_succ]
  refine wpAnyH_take (i := 16) (oi := { dst := some 65, op := Op.load 24 (Operand.tmp 5), type := 24, pos := "law.go:44", after := #[{ on := 12, ground := Ground.guard }], guard := some (12, true) }) (v := ?v12) rfl (by kernel_rfl) (by kernel_rfl) (by kernel_rfl) (fun _ _ _ h => h) (Or.inl ⟨by rfl, ?hy12⟩) (by assumption) ?rest12
  case hy12 => (intro w hSw; (try dsimp only at hSw); go_simp; try with_reducible rfl)
  try simp only [Act.put, List.setIfInBounds_toArray, List.set_cons_zero, List.set_cons_succ]
  refine wpAnyH_take (i := 17) (oi := { dst := some 66, op := Op.load 24 (Operand.tmp 6), type := 24, pos := "law.go:44", after := #[{ on := 12, ground := Ground.guard }], guard := some (12, true) }) (v := ?v13) rfl (by kernel_rfl) (by kernel_rfl) (by kernel_rfl) (fun _ _ _ h => h) (Or.inl ⟨by rfl, ?hy13⟩) (by assumption) ?rest13
  case hy13 => (intro w hSw; (try dsimp only at hSw); go_simp; try with_reducible rfl)
  try simp only [Act.put, List.setIfInBounds_toArray, List.set_cons_zero, List.set_cons_succ]
  refine wpAnyH_ready (rs := [15]) (by kernel_rfl) (by simp) ?_
  refine AllReadyH.cons (o := { dst := some 64, op := Op.call { callee := Callee.value (Operand.func 17), args := #[Operand.tmp 62, Operand.tmp 63], argTypes := #[24, 24] }, type := 3, pos := "law.go:44", after := #[{ on := 13, ground := Ground.data }, { on := 14, ground := Ground.data }, { on := 12, ground := Ground.chain }, { on := 12, ground := Ground.guard }], guard := some (12, true) }) rfl (fun K hK => ?_) AllReadyH.nil
  go_simp
  refine (HC1.out _).mono ?_
  rintro e u15 ⟨rfl, hb⟩
  replace tk := tk.on hb
  clear hb
  go_wp2_with fail
  clear hHeld
  refine hK.out _ _ (Tk.all tk) (fun hHeld => ?_)
  clear hK K
  try simp only [Act.put, List.setIfInBounds_toArray, List.set_cons_zero, List.set_cons_succ]
  refine wpAnyH_ready (rs := [18]) (by kernel_rfl) (by simp) ?_
  refine AllReadyH.cons (o := { dst := some 67, op := Op.call { callee := Callee.value (Operand.func 18), args := #[Operand.tmp 65, Operand.tmp 66], argTypes := #[24, 24] }, type := 3, pos := "law.go:44", after := #[{ on := 16, ground := Ground.data }, { on := 17, ground := Ground.data }, { on := 15, ground := Ground.chain }, { on := 12, ground := Ground.guard }], guard := some (12, true) }) rfl (fun K hK => ?_) AllReadyH.nil
  go_simp
  refine (HC2.out _).mono ?_
  rintro e u18 ⟨rfl, hb⟩
  replace tk := tk.on hb
  clear hb
  go_wp2_with fail
  clear hHeld
  refine hK.out _ _ (Tk.all tk) (fun hHeld => ?_)
  clear hK K
  try simp only [Act.put, List.setIfInBounds_toArray, List.set_cons_zero, List.set_cons_succ]
  refine wpAnyH_take (i := 19) (oi := { dst := some 68, op := Op.binOp BinOp.eql 3 (Operand.tmp 64) (Operand.tmp 67) 3, type := 4, pos := "law.go:44", after := #[{ on := 15, ground := Ground.data }, { on := 18, ground := Ground.data }, { on := 12, ground := Ground.guard }], guard := some (12, true) }) (v := ?v14) rfl (by kernel_rfl) (by kernel_rfl) (by kernel_rfl) (fun _ _ _ h => h) (Or.inl ⟨by rfl, ?hy14⟩) (by assumption) ?rest14
  case hy14 => (intro w hSw; (try dsimp only at hSw); go_simp; try with_reducible rfl)
  try simp only [Act.put, List.setIfInBounds_toArray, List.set_cons_zero, List.set_cons_succ]
  refine wpAnyH_take (i := 20) (oi := { dst := some 69, op := Op.pick (Operand.tmp 61) (Operand.tmp 68) (Operand.const (Value.bool false)), type := 4, pos := "law.go:44", after := #[{ on := 12, ground := Ground.data }, { on := 19, ground := Ground.data }], guard := none }) (v := ?v15) rfl (by kernel_rfl) (by kernel_rfl) (by kernel_rfl) (fun _ _ _ h => h) (Or.inl ⟨by rfl, ?hy15⟩) (by assumption) ?rest15
  case hy15 => (intro w hSw; (try dsimp only at hSw); go_simp; try with_reducible rfl)
  try simp only [Act.put, List.setIfInBounds_toArray, List.set_cons_zero, List.set_cons_succ]
  refine wpAnyH_take (i := 21) (oi := { dst := some 70, op := Op.move (Operand.tmp 69), type := 4, pos := "law.go:44", after := #[{ on := 20, ground := Ground.data }, { on := 18, ground := Ground.chain }], guard := none }) (v := ?v16) rfl (by kernel_rfl) (by kernel_rfl) (by kernel_rfl) (fun _ _ _ h => h) (Or.inl ⟨by rfl, ?hy16⟩) (by assumption) ?rest16
  case hy16 => (intro w hSw; (try dsimp only at hSw); go_simp; try with_reducible rfl)
  try simp only [Act.put, List.setIfInBounds_toArray, List.set_cons_zero, List.set_cons_succ]
  refine wpAnyH_take (i := 22) (oi := { dst := some 71, op := Op.move (Operand.tmp 3), type := 25, pos := "law.go:44", after := #[{ on := 21, ground := Ground.guard }], guard := some (21, true) }) (v := ?v17) rfl (by kernel_rfl) (by kernel_rfl) (by kernel_rfl) (fun _ _ _ h => h) (Or.inl ⟨by rfl, ?hy17⟩) (by assumption) ?rest17
  case hy17 => (intro w hSw; (try dsimp only at hSw); go_simp; try with_reducible rfl)
  try simp only [Act.put, List.setIfInBounds_toArray, List.set_cons_zero, List.set_cons_succ]
  refine wpAnyH_take (i := 24) (oi := { dst := some 73, op := Op.move (Operand.tmp 3), type := 25, pos := "law.go:44", after := #[{ on := 21, ground := Ground.guard }], guard := some (21, true) }) (v := ?v18) rfl (by kernel_rfl) (by kernel_rfl) (by kernel_rfl) (fun _ _ _ h => h) (Or.inl ⟨by rfl, ?hy18⟩) (by assumption) ?rest18
  case hy18 => (intro w hSw; (try dsimp only at hSw); go_simp; try with_reducible rfl)
  try simp only [Act.put, List.setIfInBounds_toArray, List.set_cons_zero, List.set_cons_succ]
  refine wpAnyH_ready (rs := [23]) (by kernel_rfl) (by simp) ?_
  refine AllReadyH.cons (o := { dst := some 72, op := Op.call { callee := Callee.value (Operand.func 19), args := #[Operand.tmp 71], argTypes := #[25] }, type := 4, pos := "law.go:44", after := #[{ on := 22, ground := Ground.data }, { on := 21, ground := Ground.chain }, { on := 21, ground := Ground.guard }], guard := some (21, true) }) rfl (fun K hK => ?_) AllReadyH.nil
  go_simp
  refine (HI1.out _ tk.g).mono ?_
  rintro e u23 ⟨rfl, hb⟩
  replace tk := tk.on hb
  clear hb
  go_wp2_with fail
  clear hHeld
  refine hK.out _ _ (Tk.all tk) (fun hHeld => ?_)
  clear hK K
  try simp only [Act.put, List.setIfInBounds_toArray, List.set_cons_zero, List.set_cons_succ]
  refine wpAnyH_ready (rs := [25]) (by kernel_rfl) (by simp) ?_
  refine AllReadyH.cons (o := { dst := some 74, op := Op.call { callee := Callee.value (Operand.func 20), args := #[Operand.tmp 73], argTypes := #[25] }, type := 4, pos := "law.go:44", after := #[{ on := 24, ground := Ground.data }, { on := 23, ground := Ground.chain }, { on := 21, ground := Ground.guard }], guard := some (21, true) }) rfl (fun K hK => ?_) AllReadyH.nil
  go_simp
  refine (HI2.out _ tk.g).mono ?_
  rintro e u25 ⟨rfl, hb⟩
  replace tk := tk.on hb
  clear hb
  go_wp2_with fail
  clear hHeld
  refine hK.out _ _ (Tk.all tk) (fun hHeld => ?_)
  clear hK K
  try simp only [Act.put, List.setIfInBounds_toArray, List.set_cons_zero, List.set_cons_succ]
  refine wpAnyH_take (i := 26) (oi := { dst := some 75, op := Op.binOp BinOp.eql 4 (Operand.tmp 72) (Operand.tmp 74) 4, type := 4, pos := "law.go:44", after := #[{ on := 23, ground := Ground.data }, { on := 25, ground := Ground.data }, { on := 21, ground := Ground.guard }], guard := some (21, true) }) (v := ?v19) rfl (by kernel_rfl) (by kernel_rfl) (by kernel_rfl) (fun _ _ _ h => h) (Or.inl ⟨by rfl, ?hy19⟩) (by assumption) ?rest19
  case hy19 => (intro w hSw; (try dsimp only at hSw); go_simp; try with_reducible rfl)
  try simp only [Act.put, List.setIfInBounds_toArray, List.set_cons_zero, List.set_cons_succ]
  refine wpAnyH_take (i := 27) (oi := { dst := some 76, op := Op.pick (Operand.tmp 70) (Operand.tmp 75) (Operand.const (Value.bool false)), type := 4, pos := "law.go:44", after := #[{ on := 21, ground := Ground.data }, { on := 26, ground := Ground.data }], guard := none }) (v := ?v20) rfl (by kernel_rfl) (by kernel_rfl) (by kernel_rfl) (fun _ _ _ h => h) (Or.inl ⟨by rfl, ?hy20⟩) (by assumption) ?rest20
  case hy20 => (intro w hSw; (try dsimp only at hSw); go_simp; try with_reducible rfl)
  try simp only [Act.put, List.setIfInBounds_toArray, List.set_cons_zero, List.set_cons_succ]
  refine wpAnyH_take (i := 28) (oi := { dst := some 77, op := Op.move (Operand.tmp 76), type := 4, pos := "law.go:44", after := #[{ on := 27, ground := Ground.data }, { on := 25, ground := Ground.chain }], guard := none }) (v := ?v21) rfl (by kernel_rfl) (by kernel_rfl) (by kernel_rfl) (fun _ _ _ h => h) (Or.inl ⟨by rfl, ?hy21⟩) (by assumption) ?rest21
  case hy21 => (intro w hSw; (try dsimp only at hSw); go_simp; try with_reducible rfl)
  try simp only [Act.put, List.setIfInBounds_toArray, List.set_cons_zero, List.set_cons_succ]
  refine wpAnyH_take (i := 29) (oi := { dst := some 78, op := Op.fieldAddr 24 (Operand.tmp 5) 0, type := 0, pos := "law.go:44", after := #[{ on := 28, ground := Ground.guard }], guard := some (28, true) }) (v := ?v22) rfl (by kernel_rfl) (by kernel_rfl) (by kernel_rfl) (fun _ _ _ h => h) (Or.inl ⟨by rfl, ?hy22⟩) (by assumption) ?rest22
  case hy22 => (intro w hSw; (try dsimp only at hSw); go_simp; try with_reducible rfl)
  try simp only [Act.put, List.setIfInBounds_toArray, List.set_cons_zero, List.set_cons_succ]
  refine wpAnyH_take (i := 30) (oi := { dst := some 79, op := Op.load 9 (Operand.tmp 78), type := 9, pos := "law.go:44", after := #[{ on := 29, ground := Ground.data }, { on := 28, ground := Ground.guard }], guard := some (28, true) }) (v := ?v23) rfl (by kernel_rfl) (by kernel_rfl) (by kernel_rfl) (fun _ _ _ h => h) (Or.inl ⟨by rfl, ?hy23⟩) (by assumption) ?rest23
  case hy23 => (intro w hSw; (try dsimp only at hSw); go_simp; try with_reducible rfl)
  try simp only [Act.put, List.setIfInBounds_toArray, List.set_cons_zero, List.set_cons_succ]
  refine wpAnyH_take (i := 31) (oi := { dst := some 80, op := Op.fieldAddr 24 (Operand.tmp 6) 1, type := 0, pos := "law.go:44", after := #[{ on := 28, ground := Ground.guard }], guard := some (28, true) }) (v := ?v24) rfl (by kernel_rfl) (by kernel_rfl) (by kernel_rfl) (fun _ _ _ h => h) (Or.inl ⟨by rfl, ?hy24⟩) (by assumption) ?rest24
  case hy24 => (intro w hSw; (try dsimp only at hSw); go_simp; try with_reducible rfl)
  try simp only [Act.put, List.setIfInBounds_toArray, List.set_cons_zero, List.set_cons_succ]
  refine wpAnyH_take (i := 32) (oi := { dst := some 81, op := Op.load 22 (Operand.tmp 80), type := 22, pos := "law.go:44", after := #[{ on := 31, ground := Ground.data }, { on := 28, ground := Ground.guard }], guard := some (28, true) }) (v := ?v25) rfl (by kernel_rfl) (by kernel_rfl) (by kernel_rfl) (fun _ _ _ h => h) (Or.inl ⟨by rfl, ?hy25⟩) (by assumption) ?rest25
  case hy25 => (intro w hSw; (try dsimp only at hSw); go_simp; try with_reducible rfl)
  try simp only [Act.put, List.setIfInBounds_toArray, List.set_cons_zero, List.set_cons_succ]
  refine wpAnyH_take (i := 34) (oi := { dst := some 83, op := Op.fieldAddr 24 (Operand.tmp 5) 0, type := 0, pos := "law.go:44", after := #[{ on := 28, ground := Ground.guard }], guard := some (28, true) }) (v := ?v26) rfl (by kernel_rfl) (by kernel_rfl) (by kernel_rfl) (fun _ _ _ h => h) (Or.inl ⟨by rfl, ?hy26⟩) (by assumption) ?rest26
  case hy26 => (intro w hSw; (try dsimp only at hSw); go_simp; try with_reducible rfl)
  try simp only [Act.put, List.setIfInBounds_toArray, List.set_cons_zero, List.set_cons_succ]
  refine wpAnyH_take (i := 35) (oi := { dst := some 84, op := Op.load 9 (Operand.tmp 83), type := 9, pos := "law.go:44", after := #[{ on := 34, ground := Ground.data }, { on := 28, ground := Ground.guard }], guard := some (28, true) }) (v := ?v27) rfl (by kernel_rfl) (by kernel_rfl) (by kernel_rfl) (fun _ _ _ h => h) (Or.inl ⟨by rfl, ?hy27⟩) (by assumption) ?rest27
  case hy27 => (intro w hSw; (try dsimp only at hSw); go_simp; try with_reducible rfl)
  try simp only [Act.put, List.setIfInBounds_toArray, List.set_cons_zero, List.set_cons_succ]
  refine wpAnyH_take (i := 36) (oi := { dst := some 85, op := Op.fieldAddr 24 (Operand.tmp 6) 1, type := 0, pos := "law.go:44", after := #[{ on := 28, ground := Ground.guard }], guard := some (28, true) }) (v := ?v28) rfl (by kernel_rfl) (by kernel_rfl) (by kernel_rfl) (fun _ _ _ h => h) (Or.inl ⟨by rfl, ?hy28⟩) (by assumption) ?rest28
  case hy28 => (intro w hSw; (try dsimp only at hSw); go_simp; try with_reducible rfl)
  try simp only [Act.put, List.setIfInBounds_toArray, List.set_cons_zero, List.set_cons_succ]
  refine wpAnyH_take (i := 37) (oi := { dst := some 86, op := Op.load 22 (Operand.tmp 85), type := 22, pos := "law.go:44", after := #[{ on := 36, ground := Ground.data }, { on := 28, ground := Ground.guard }], guard := some (28, true) }) (v := ?v29) rfl (by kernel_rfl) (by kernel_rfl) (by kernel_rfl) (fun _ _ _ h => h) (Or.inl ⟨by rfl, ?hy29⟩) (by assumption) ?rest29
  case hy29 => (intro w hSw; (try dsimp only at hSw); go_simp; try with_reducible rfl)
  try simp only [Act.put, List.setIfInBounds_toArray, List.set_cons_zero, List.set_cons_succ]
  refine wpAnyH_ready (rs := [33]) (by kernel_rfl) (by simp) ?_
  refine AllReadyH.cons (o := { dst := some 82, op := Op.call { callee := Callee.value (Operand.func 21), args := #[Operand.tmp 79, Operand.tmp 81], argTypes := #[9, 22] }, type := 24, pos := "law.go:44", after := #[{ on := 30, ground := Ground.data }, { on := 32, ground := Ground.data }, { on := 28, ground := Ground.chain }, { on := 28, ground := Ground.guard }], guard := some (28, true) }) rfl (fun K hK => ?_) AllReadyH.nil
  go_simp
  refine (HS1.out _).mono ?_
  rintro e u33 ⟨rfl, hb⟩
  replace tk := tk.on hb
  clear hb
  go_wp2_with fail
  clear hHeld
  refine hK.out _ _ (Tk.all tk) (fun hHeld => ?_)
  clear hK K
  try simp only [Act.put, List.setIfInBounds_toArray, List.set_cons_zero, List.set_cons_succ]
  refine wpAnyH_ready (rs := [38]) (by kernel_rfl) (by simp) ?_
  refine AllReadyH.cons (o := { dst := some 87, op := Op.call { callee := Callee.value (Operand.func 22), args := #[Operand.tmp 84, Operand.tmp 86], argTypes := #[9, 22] }, type := 24, pos := "law.go:44", after := #[{ on := 35, ground := Ground.data }, { on := 37, ground := Ground.data }, { on := 33, ground := Ground.chain }, { on := 28, ground := Ground.guard }], guard := some (28, true) }) rfl (fun K hK => ?_) AllReadyH.nil
  go_simp
  refine (HS2.out _).mono ?_
  rintro e u38 ⟨rfl, hb⟩
  replace tk := tk.on hb
  clear hb
  go_wp2_with fail
  clear hHeld
  refine hK.out _ _ (Tk.all tk) (fun hHeld => ?_)
  clear hK K
  try simp only [Act.put, List.setIfInBounds_toArray, List.set_cons_zero, List.set_cons_succ]
  refine wpAnyH_take (i := 39) (oi := { dst := some 88, op := Op.binOp BinOp.eql 24 (Operand.tmp 82) (Operand.tmp 87) 24, type := 4, pos := "law.go:44", after := #[{ on := 33, ground := Ground.data }, { on := 38, ground := Ground.data }, { on := 28, ground := Ground.guard }], guard := some (28, true) }) (v := ?v30) rfl (by kernel_rfl) (by kernel_rfl) (by kernel_rfl) (fun _ _ _ h => h) (Or.inl ⟨by rfl, ?hy30⟩) (by assumption) ?rest30
  case hy30 => (intro w hSw; (try dsimp only at hSw); go_simp; try with_reducible rfl)
  try simp only [Act.put, List.setIfInBounds_toArray, List.set_cons_zero, List.set_cons_succ]
  refine wpAnyH_take (i := 40) (oi := { dst := some 89, op := Op.pick (Operand.tmp 77) (Operand.tmp 88) (Operand.const (Value.bool false)), type := 4, pos := "law.go:44", after := #[{ on := 28, ground := Ground.data }, { on := 39, ground := Ground.data }], guard := none }) (v := ?v31) rfl (by kernel_rfl) (by kernel_rfl) (by kernel_rfl) (fun _ _ _ h => h) (Or.inl ⟨by rfl, ?hy31⟩) (by assumption) ?rest31
  case hy31 => (intro w hSw; (try dsimp only at hSw); go_simp; try with_reducible rfl)
  try simp only [Act.put, List.setIfInBounds_toArray, List.set_cons_zero, List.set_cons_succ]
  refine wpAnyH_take (i := 41) (oi := { dst := some 90, op := Op.move (Operand.tmp 89), type := 4, pos := "law.go:44", after := #[{ on := 40, ground := Ground.data }, { on := 38, ground := Ground.chain }], guard := none }) (v := ?v32) rfl (by kernel_rfl) (by kernel_rfl) (by kernel_rfl) (fun _ _ _ h => h) (Or.inl ⟨by rfl, ?hy32⟩) (by assumption) ?rest32
  case hy32 => (intro w hSw; (try dsimp only at hSw); go_simp; try with_reducible rfl)
  try simp only [Act.put, List.setIfInBounds_toArray, List.set_cons_zero, List.set_cons_succ]
  refine wpAnyH_take (i := 42) (oi := { dst := some 91, op := Op.move (Operand.tmp 4), type := 26, pos := "law.go:44", after := #[{ on := 41, ground := Ground.guard }], guard := some (41, true) }) (v := ?v33) rfl (by kernel_rfl) (by kernel_rfl) (by kernel_rfl) (fun _ _ _ h => h) (Or.inl ⟨by rfl, ?hy33⟩) (by assumption) ?rest33
  case hy33 => (intro w hSw; (try dsimp only at hSw); go_simp; try with_reducible rfl)
  try simp only [Act.put, List.setIfInBounds_toArray, List.set_cons_zero, List.set_cons_succ]
  refine wpAnyH_take (i := 43) (oi := { dst := some 92, op := Op.load 24 (Operand.tmp 5), type := 24, pos := "law.go:44", after := #[{ on := 41, ground := Ground.guard }], guard := some (41, true) }) (v := ?v34) rfl (by kernel_rfl) (by kernel_rfl) (by kernel_rfl) (fun _ _ _ h => h) (Or.inl ⟨by rfl, ?hy34⟩) (by assumption) ?rest34
  case hy34 => (intro w hSw; (try dsimp only at hSw); go_simp; try with_reducible rfl)
  try simp only [Act.put, List.setIfInBounds_toArray, List.set_cons_zero, List.set_cons_succ]
  refine wpAnyH_take (i := 45) (oi := { dst := some 94, op := Op.move (Operand.tmp 4), type := 26, pos := "law.go:44", after := #[{ on := 41, ground := Ground.guard }], guard := some (41, true) }) (v := ?v35) rfl (by kernel_rfl) (by kernel_rfl) (by kernel_rfl) (fun _ _ _ h => h) (Or.inl ⟨by rfl, ?hy35⟩) (by assumption) ?rest35
  case hy35 => (intro w hSw; (try dsimp only at hSw); go_simp; try with_reducible rfl)
  try simp only [Act.put, List.setIfInBounds_toArray, List.set_cons_zero, List.set_cons_succ]
  refine wpAnyH_take (i := 46) (oi := { dst := some 95, op := Op.load 24 (Operand.tmp 5), type := 24, pos := "law.go:44", after := #[{ on := 41, ground := Ground.guard }], guard := some (41, true) }) (v := ?v36) rfl (by kernel_rfl) (by kernel_rfl) (by kernel_rfl) (fun _ _ _ h => h) (Or.inl ⟨by rfl, ?hy36⟩) (by assumption) ?rest36
  case hy36 => (intro w hSw; (try dsimp only at hSw); go_simp; try with_reducible rfl)
  try simp only [Act.put, List.setIfInBounds_toArray, List.set_cons_zero, List.set_cons_succ]
  refine wpAnyH_ready (rs := [44]) (by kernel_rfl) (by simp) ?_
  refine AllReadyH.cons (o := { dst := some 93, op := Op.call { callee := Callee.value (Operand.func 24), args := #[Operand.tmp 91, Operand.tmp 92], argTypes := #[26, 24] }, type := 26, pos := "law.go:44", after := #[{ on := 42, ground := Ground.data }, { on := 43, ground := Ground.data }, { on := 41, ground := Ground.chain }, { on := 41, ground := Ground.guard }], guard := some (41, true) }) rfl (fun K hK => ?_) AllReadyH.nil
  go_simp
  refine (HP1.out _ tk.g).mono ?_
  rintro e u44 ⟨Ap, np, cp, rfl, hfp, hb⟩
  have rp := hfp.rd (Nat.le_refl _)
  clear hfp
  replace tk := tk.on hb
  clear hb
  go_wp2_with fail
  clear hHeld
  refine hK.out _ _ (Tk.all tk) (fun hHeld => ?_)
  clear hK K
  try simp only [Act.put, List.setIfInBounds_toArray, List.set_cons_zero, List.set_cons_succ]
  refine wpAnyH_ready (rs := [47]) (by kernel_rfl) (by simp) ?_
  refine AllReadyH.cons (o := { dst := some 96, op := Op.call { callee := Callee.value (Operand.func 25), args := #[Operand.tmp 94, Operand.tmp 95], argTypes := #[26, 24] }, type := 26, pos := "law.go:44", after := #[{ on := 45, ground := Ground.data }, { on := 46, ground := Ground.data }, { on := 44, ground := Ground.chain }, { on := 41, ground := Ground.guard }], guard := some (41, true) }) rfl (fun K hK => ?_) AllReadyH.nil
  go_simp
  refine (HP2.out _ tk.g).mono ?_
  rintro e u47 ⟨Aq, nq, cq, rfl, hfq, hb⟩
  have rq := hfq.rd (Nat.le_refl _)
  replace rp := rp.now hb
  clear hfq
  replace tk := tk.on hb
  clear hb
  go_wp2_with fail
  clear hHeld
  refine hK.out _ _ (Tk.all tk) (fun hHeld => ?_)
  clear hK K
  try simp only [Act.put, List.setIfInBounds_toArray, List.set_cons_zero, List.set_cons_succ]
  refine wpAnyH_ready (rs := [48]) (by kernel_rfl) (by simp) ?_
  refine AllReadyH.cons (o := { dst := some 97, op := Op.call { callee := Callee.value (Operand.func 23), args := #[Operand.tmp 93, Operand.tmp 96], argTypes := #[26, 26] }, type := 4, pos := "law.go:44", after := #[{ on := 44, ground := Ground.data }, { on := 47, ground := Ground.data }, { on := 47, ground := Ground.chain }, { on := 41, ground := Ground.guard }], guard := some (41, true) }) rfl (fun K hK => ?_) AllReadyH.nil
  go_simp
  refine (same_t rp rq rfl).mono ?_
  rintro e w' ⟨rfl, rfl⟩
  go_wp2_with fail
  clear hHeld
  refine hK.out _ _ (Tk.all tk) (fun hHeld => ?_)
  clear hK K
  try simp only [Act.put, List.setIfInBounds_toArray, List.set_cons_zero, List.set_cons_succ]
  refine wpAnyH_take (i := 49) (oi := { dst := some 98, op := Op.pick (Operand.tmp 90) (Operand.tmp 97) (Operand.const (Value.bool false)), type := 4, pos := "law.go:44", after := #[{ on := 41, ground := Ground.data }, { on := 48, ground := Ground.data }], guard := none }) (v := ?v37) rfl (by kernel_rfl) (by kernel_rfl) (by kernel_rfl) (fun _ _ _ h => h) (Or.inl ⟨by rfl, ?hy37⟩) (by assumption) ?rest37
  case hy37 => (intro w hSw; (try dsimp only at hSw); go_simp; try with_reducible rfl)
  try simp only [Act.put, List.setIfInBounds_toArray, List.set_cons_zero, List.set_cons_succ]
  refine wpAnyH_take (i := 50) (oi := { dst := some 99, op := Op.move (Operand.tmp 98), type := 4, pos := "law.go:44", after := #[{ on := 49, ground := Ground.data }, { on := 48, ground := Ground.chain }], guard := none }) (v := ?v38) rfl (by kernel_rfl) (by kernel_rfl) (by kernel_rfl) (fun _ _ _ h => h) (Or.inl ⟨by rfl, ?hy38⟩) (by assumption) ?rest38
  case hy38 => (intro w hSw; (try dsimp only at hSw); go_simp; try with_reducible rfl)
  try simp only [Act.put, List.setIfInBounds_toArray, List.set_cons_zero, List.set_cons_succ]
  refine wpAnyH_take (i := 51) (oi := { dst := some 100, op := Op.load 24 (Operand.tmp 12), type := 24, pos := "law.go:44", after := #[{ on := 50, ground := Ground.guard }], guard := some (50, true) }) (v := ?v39) rfl (by kernel_rfl) (by kernel_rfl) (by kernel_rfl) (fun _ _ _ h => h) (Or.inl ⟨by rfl, ?hy39⟩) (by assumption) ?rest39
  case hy39 => (intro w hSw; (try dsimp only at hSw); go_simp; try with_reducible rfl)
  try simp only [Act.put, List.setIfInBounds_toArray, List.set_cons_zero, List.set_cons_succ]
  refine wpAnyH_take (i := 52) (oi := { dst := some 101, op := Op.load 24 (Operand.tmp 15), type := 24, pos := "law.go:44", after := #[{ on := 50, ground := Ground.guard }], guard := some (50, true) }) (v := ?v40) rfl (by kernel_rfl) (by kernel_rfl) (by kernel_rfl) (fun _ _ _ h => h) (Or.inl ⟨by rfl, ?hy40⟩) (by assumption) ?rest40
  case hy40 => (intro w hSw; (try dsimp only at hSw); go_simp; try with_reducible rfl)
  try simp only [Act.put, List.setIfInBounds_toArray, List.set_cons_zero, List.set_cons_succ]
  refine wpAnyH_take (i := 53) (oi := { dst := some 102, op := Op.binOp BinOp.eql 24 (Operand.tmp 100) (Operand.tmp 101) 24, type := 4, pos := "law.go:44", after := #[{ on := 51, ground := Ground.data }, { on := 52, ground := Ground.data }, { on := 50, ground := Ground.guard }], guard := some (50, true) }) (v := ?v41) rfl (by kernel_rfl) (by kernel_rfl) (by kernel_rfl) (fun _ _ _ h => h) (Or.inl ⟨by rfl, ?hy41⟩) (by assumption) ?rest41
  case hy41 => (intro w hSw; (try dsimp only at hSw); go_simp; try with_reducible rfl)
  try simp only [Act.put, List.setIfInBounds_toArray, List.set_cons_zero, List.set_cons_succ]
  refine wpAnyH_take (i := 54) (oi := { dst := some 103, op := Op.pick (Operand.tmp 99) (Operand.tmp 102) (Operand.const (Value.bool false)), type := 4, pos := "law.go:44", after := #[{ on := 50, ground := Ground.data }, { on := 53, ground := Ground.data }], guard := none }) (v := ?v42) rfl (by kernel_rfl) (by kernel_rfl) (by kernel_rfl) (fun _ _ _ h => h) (Or.inl ⟨by rfl, ?hy42⟩) (by assumption) ?rest42
  case hy42 => (intro w hSw; (try dsimp only at hSw); go_simp; try with_reducible rfl)
  try simp only [Act.put, List.setIfInBounds_toArray, List.set_cons_zero, List.set_cons_succ]
  refine wpAnyH_take (i := 55) (oi := { dst := some 104, op := Op.move (Operand.tmp 103), type := 4, pos := "law.go:44", after := #[{ on := 54, ground := Ground.data }, { on := 50, ground := Ground.chain }], guard := none }) (v := ?v43) rfl (by kernel_rfl) (by kernel_rfl) (by kernel_rfl) (fun _ _ _ h => h) (Or.inl ⟨by rfl, ?hy43⟩) (by assumption) ?rest43
  case hy43 => (intro w hSw; (try dsimp only at hSw); go_simp; try with_reducible rfl)
  try simp only [Act.put, List.setIfInBounds_toArray, List.set_cons_zero, List.set_cons_succ]
  refine wpAnyH_take (i := 56) (oi := { dst := some 105, op := Op.move (Operand.tmp 13), type := 26, pos := "law.go:44", after := #[{ on := 55, ground := Ground.guard }], guard := some (55, true) }) (v := ?v44) rfl (by kernel_rfl) (by kernel_rfl) (by kernel_rfl) (fun _ _ _ h => h) (Or.inl ⟨by rfl, ?hy44⟩) (by assumption) ?rest44
  case hy44 => (intro w hSw; (try dsimp only at hSw); go_simp; try with_reducible rfl)
  try simp only [Act.put, List.setIfInBounds_toArray, List.set_cons_zero, List.set_cons_succ]
  refine wpAnyH_take (i := 57) (oi := { dst := some 106, op := Op.move (Operand.tmp 16), type := 26, pos := "law.go:44", after := #[{ on := 55, ground := Ground.guard }], guard := some (55, true) }) (v := ?v45) rfl (by kernel_rfl) (by kernel_rfl) (by kernel_rfl) (fun _ _ _ h => h) (Or.inl ⟨by rfl, ?hy45⟩) (by assumption) ?rest45
  case hy45 => (intro w hSw; (try dsimp only at hSw); go_simp; try with_reducible rfl)
  try simp only [Act.put, List.setIfInBounds_toArray, List.set_cons_zero, List.set_cons_succ]
  refine wpAnyH_ready (rs := [58]) (by kernel_rfl) (by simp) ?_
  refine AllReadyH.cons (o := { dst := some 107, op := Op.call { callee := Callee.value (Operand.func 23), args := #[Operand.tmp 105, Operand.tmp 106], argTypes := #[26, 26] }, type := 4, pos := "law.go:44", after := #[{ on := 56, ground := Ground.data }, { on := 57, ground := Ground.data }, { on := 55, ground := Ground.chain }, { on := 55, ground := Ground.guard }], guard := some (55, true) }) rfl (fun K hK => ?_) AllReadyH.nil
  go_simp
  refine (same_t (rax.now tk.gc) (ray.now tk.gc) rfl).mono ?_
  rintro e w' ⟨rfl, rfl⟩
  go_wp2_with fail
  clear hHeld
  refine hK.out _ _ (Tk.all tk) (fun hHeld => ?_)
  clear hK K
  try simp only [Act.put, List.setIfInBounds_toArray, List.set_cons_zero, List.set_cons_succ]
  refine wpAnyH_take (i := 59) (oi := { dst := some 108, op := Op.pick (Operand.tmp 104) (Operand.tmp 107) (Operand.const (Value.bool false)), type := 4, pos := "law.go:44", after := #[{ on := 55, ground := Ground.data }, { on := 58, ground := Ground.data }], guard := none }) (v := ?v46) rfl (by kernel_rfl) (by kernel_rfl) (by kernel_rfl) (fun _ _ _ h => h) (Or.inl ⟨by rfl, ?hy46⟩) (by assumption) ?rest46
  case hy46 => (intro w hSw; (try dsimp only at hSw); go_simp; try with_reducible rfl)
  try simp only [Act.put, List.setIfInBounds_toArray, List.set_cons_zero, List.set_cons_succ]
  refine wpAnyH_take (i := 60) (oi := { dst := some 109, op := Op.move (Operand.tmp 108), type := 4, pos := "law.go:44", after := #[{ on := 59, ground := Ground.data }, { on := 58, ground := Ground.chain }], guard := none }) (v := ?v47) rfl (by kernel_rfl) (by kernel_rfl) (by kernel_rfl) (fun _ _ _ h => h) (Or.inl ⟨by rfl, ?hy47⟩) (by assumption) ?rest47
  case hy47 => (intro w hSw; (try dsimp only at hSw); go_simp; try with_reducible rfl)
  try simp only [Act.put, List.setIfInBounds_toArray, List.set_cons_zero, List.set_cons_succ]
  refine wpAnyH_take (i := 61) (oi := { dst := some 110, op := Op.move (Operand.tmp 14), type := 4, pos := "law.go:44", after := #[{ on := 60, ground := Ground.guard }], guard := some (60, true) }) (v := ?v48) rfl (by kernel_rfl) (by kernel_rfl) (by kernel_rfl) (fun _ _ _ h => h) (Or.inl ⟨by rfl, ?hy48⟩) (by assumption) ?rest48
  case hy48 => (intro w hSw; (try dsimp only at hSw); go_simp; try with_reducible rfl)
  try simp only [Act.put, List.setIfInBounds_toArray, List.set_cons_zero, List.set_cons_succ]
  refine wpAnyH_take (i := 62) (oi := { dst := some 111, op := Op.move (Operand.tmp 17), type := 4, pos := "law.go:44", after := #[{ on := 60, ground := Ground.guard }], guard := some (60, true) }) (v := ?v49) rfl (by kernel_rfl) (by kernel_rfl) (by kernel_rfl) (fun _ _ _ h => h) (Or.inl ⟨by rfl, ?hy49⟩) (by assumption) ?rest49
  case hy49 => (intro w hSw; (try dsimp only at hSw); go_simp; try with_reducible rfl)
  try simp only [Act.put, List.setIfInBounds_toArray, List.set_cons_zero, List.set_cons_succ]
  refine wpAnyH_take (i := 63) (oi := { dst := some 112, op := Op.binOp BinOp.eql 4 (Operand.tmp 110) (Operand.tmp 111) 4, type := 4, pos := "law.go:44", after := #[{ on := 61, ground := Ground.data }, { on := 62, ground := Ground.data }, { on := 60, ground := Ground.guard }], guard := some (60, true) }) (v := ?v50) rfl (by kernel_rfl) (by kernel_rfl) (by kernel_rfl) (fun _ _ _ h => h) (Or.inl ⟨by rfl, ?hy50⟩) (by assumption) ?rest50
  case hy50 => (intro w hSw; (try dsimp only at hSw); go_simp; try with_reducible rfl)
  try simp only [Act.put, List.setIfInBounds_toArray, List.set_cons_zero, List.set_cons_succ]
  refine wpAnyH_take (i := 64) (oi := { dst := some 113, op := Op.pick (Operand.tmp 109) (Operand.tmp 112) (Operand.const (Value.bool false)), type := 4, pos := "law.go:44", after := #[{ on := 60, ground := Ground.data }, { on := 63, ground := Ground.data }], guard := none }) (v := ?v51) rfl (by kernel_rfl) (by kernel_rfl) (by kernel_rfl) (fun _ _ _ h => h) (Or.inl ⟨by rfl, ?hy51⟩) (by assumption) ?rest51
  case hy51 => (intro w hSw; (try dsimp only at hSw); go_simp; try with_reducible rfl)
  try simp only [Act.put, List.setIfInBounds_toArray, List.set_cons_zero, List.set_cons_succ]
  refine wpAnyH_take (i := 65) (oi := { dst := some 114, op := Op.move (Operand.tmp 113), type := 4, pos := "law.go:44", after := #[{ on := 64, ground := Ground.data }, { on := 60, ground := Ground.chain }], guard := none }) (v := ?v52) rfl (by kernel_rfl) (by kernel_rfl) (by kernel_rfl) (fun _ _ _ h => h) (Or.inl ⟨by rfl, ?hy52⟩) (by assumption) ?rest52
  case hy52 => (intro w hSw; (try dsimp only at hSw); go_simp; try with_reducible rfl)
  try simp only [Act.put, List.setIfInBounds_toArray, List.set_cons_zero, List.set_cons_succ]
  refine wpAnyH_ready (rs := [66]) (by kernel_rfl) (by simp) ?_
  refine AllReadyH.cons (o := { dst := some 115, op := Op.call { callee := Callee.value (Operand.func 10), args := #[], argTypes := #[] }, type := 4, pos := "law.go:44", after := #[{ on := 65, ground := Ground.chain }, { on := 65, ground := Ground.guard }], guard := some (65, true) }) rfl (fun K hK => ?_) AllReadyH.nil
  go_simp
  refine (awake3_c _).mono ?_
  rintro e u66 ⟨rfl, hb⟩
  replace tk := tk.on hb
  clear hb
  go_wp2_with fail
  clear hHeld
  refine hK.out _ _ (Tk.all tk) (fun hHeld => ?_)
  clear hK K
  try simp only [Act.put, List.setIfInBounds_toArray, List.set_cons_zero, List.set_cons_succ]
  refine wpAnyH_take (i := 67) (oi := { dst := some 116, op := Op.pick (Operand.tmp 114) (Operand.tmp 115) (Operand.const (Value.bool false)), type := 4, pos := "law.go:44", after := #[{ on := 65, ground := Ground.data }, { on := 66, ground := Ground.data }], guard := none }) (v := ?v53) rfl (by kernel_rfl) (by kernel_rfl) (by kernel_rfl) (fun _ _ _ h => h) (Or.inl ⟨by rfl, ?hy53⟩) (by assumption) ?rest53
  case hy53 => (intro w hSw; (try dsimp only at hSw); go_simp; try with_reducible rfl)
  try simp only [Act.put, List.setIfInBounds_toArray, List.set_cons_zero, List.set_cons_succ]
  refine wpAnyH_take (i := 68) (oi := { dst := some 10, op := Op.assign (Operand.tmp 116), type := 4, pos := "law.go:44", after := #[{ on := 67, ground := Ground.data }, { on := 66, ground := Ground.chain }, { on := 0, ground := Ground.phase }, { on := 1, ground := Ground.phase }, { on := 2, ground := Ground.phase }, { on := 3, ground := Ground.phase }, { on := 4, ground := Ground.phase }, { on := 5, ground := Ground.phase }, { on := 6, ground := Ground.phase }, { on := 7, ground := Ground.phase }, { on := 8, ground := Ground.phase }, { on := 9, ground := Ground.phase }, { on := 10, ground := Ground.phase }, { on := 11, ground := Ground.phase }, { on := 12, ground := Ground.phase }, { on := 13, ground := Ground.phase }, { on := 14, ground := Ground.phase }, { on := 15, ground := Ground.phase }, { on := 16, ground := Ground.phase }, { on := 17, ground := Ground.phase }, { on := 18, ground := Ground.phase }, { on := 19, ground := Ground.phase }, { on := 20, ground := Ground.phase }, { on := 21, ground := Ground.phase }, { on := 22, ground := Ground.phase }, { on := 23, ground := Ground.phase }, { on := 24, ground := Ground.phase }, { on := 25, ground := Ground.phase }, { on := 26, ground := Ground.phase }, { on := 27, ground := Ground.phase }, { on := 28, ground := Ground.phase }, { on := 29, ground := Ground.phase }, { on := 30, ground := Ground.phase }, { on := 31, ground := Ground.phase }, { on := 32, ground := Ground.phase }, { on := 33, ground := Ground.phase }, { on := 34, ground := Ground.phase }, { on := 35, ground := Ground.phase }, { on := 36, ground := Ground.phase }, { on := 37, ground := Ground.phase }, { on := 38, ground := Ground.phase }, { on := 39, ground := Ground.phase }, { on := 40, ground := Ground.phase }, { on := 41, ground := Ground.phase }, { on := 42, ground := Ground.phase }, { on := 43, ground := Ground.phase }, { on := 44, ground := Ground.phase }, { on := 45, ground := Ground.phase }, { on := 46, ground := Ground.phase }, { on := 47, ground := Ground.phase }, { on := 48, ground := Ground.phase }, { on := 49, ground := Ground.phase }, { on := 50, ground := Ground.phase }, { on := 51, ground := Ground.phase }, { on := 52, ground := Ground.phase }, { on := 53, ground := Ground.phase }, { on := 54, ground := Ground.phase }, { on := 55, ground := Ground.phase }, { on := 56, ground := Ground.phase }, { on := 57, ground := Ground.phase }, { on := 58, ground := Ground.phase }, { on := 59, ground := Ground.phase }, { on := 60, ground := Ground.phase }, { on := 61, ground := Ground.phase }, { on := 62, ground := Ground.phase }, { on := 63, ground := Ground.phase }, { on := 64, ground := Ground.phase }, { on := 65, ground := Ground.phase }, { on := 66, ground := Ground.phase }, { on := 67, ground := Ground.phase }], guard := none }) (v := ?v54) rfl (by kernel_rfl) (by kernel_rfl) (by kernel_rfl) (fun _ _ _ h => h) (Or.inl ⟨by rfl, ?hy54⟩) (by assumption) ?rest54
  case hy54 => (intro w hSw; (try dsimp only at hSw); go_simp; try with_reducible rfl)
  try simp only [Act.put, List.setIfInBounds_toArray, List.set_cons_zero, List.set_cons_succ]
  refine wpAnyH_done (by kernel_rfl) ?_ _
  refine NoPanic.normal ?_
  go_wp2_with fail
  go_ret
  exact ⟨rfl, tk.g⟩

set_option maxRecDepth 100000 in
theorem lifted (os : Os) (started : os.Started) (H : Type) (enc : TypeId × Value → H) (F0 : Stop.Interp) :
    ReturnsInHanded {} Try.checked os 3 .any ((Rows.OpenSpec.upto Rows.ikeyTellsSpec).pre6 enc Try.prog Try.f3 Rows.ikeyTellsUptoRow.domain false) (((Rows.OpenSpec.upto Rows.ikeyTellsSpec).at F0).post enc Try.prog Try.f3 false true false false) := by
  refine returnsInHanded_of_cond (C := Try.checked) (s := (Rows.OpenSpec.upto Rows.ikeyTellsSpec)) (k := Rows.uptoSmall) rfl own started (by kernel_rfl) Try.func3
    (OpenSpec.witness (enc := enc) (C := Try.checked) (s := (Rows.OpenSpec.upto Rows.ikeyTellsSpec)) (k := Rows.uptoSmall) rfl false ⟨#[], #[.agg #[.string ByteArray.empty, .int .u64 0, .int .u8 0], .agg #[.string ByteArray.empty, .int .u64 0, .int .u8 0], .string ByteArray.empty, .slice none 0 0, .slice none 0 0], []⟩ 8 (by kernel_rfl) (by kernel_rfl) (by kernel_rfl)
      (x := ([.agg [.lit (.string []), .lit (.int .u64 0), .lit (.int .u8 0)], .agg [.lit (.string []), .lit (.int .u64 0), .lit (.int .u8 0)], .lit (.string []), .nil, .nil], [], [])) (by kernel_rfl) (by kernel_rfl) (by kernel_rfl)) ?_
  intro W base args ds gs before hval0 hW _ hbulk _
  have hval : ∀ (j : Nat) t v, Try.f3.params[j]? = some t → args[j]? = some v → Value.okWide Try.prog W .any base t v := hval0
  have hW' := hW
  obtain ⟨p, q, hA0, hV, rfl, hfz, hnd⟩ := hW
  have hA : DataW.TrodAll enc Try.prog W 0 (fun _ => true) true Try.f3.params.toList args.toList ds p := hA0
  rw [Try.params3] at hA hval
  obtain ⟨v0, vs0, d0, ds0, p0, q0_, hargs, rfl, rfl, h0, r0_⟩ := trodAll_cons hA
  obtain ⟨v1, vs1, d1, ds1, p1, q1_, rfl, rfl, rfl, h1, r1_⟩ := trodAll_cons r0_
  obtain ⟨v2, vs2, d2, ds2, p2, q2_, rfl, rfl, rfl, h2, r2_⟩ := trodAll_cons r1_
  obtain ⟨v3, vs3, d3, ds3, p3, q3_, rfl, rfl, rfl, h3, r3_⟩ := trodAll_cons r2_
  obtain ⟨v4, vs4, d4, ds4, p4, q4_, rfl, rfl, rfl, h4, r4_⟩ := trodAll_cons r3_
  obtain ⟨rfl, rfl, rfl⟩ := trodAll_nil r4_
  obtain rfl : args = #[v0, v1, v2, v3, v4] := by cases args; simp_all
  obtain ⟨rfl, rfl⟩ := trodVars_none hV
  have kk0 := h0
  have lt0 : ∀ x ∈ p0, x.block < W.heap.size := by obtain ⟨m, hm⟩ := kk0; exact DataW.trod_lt m _ _ _ hm
  have kk1 := h1
  have lt1 : ∀ x ∈ p1, x.block < W.heap.size := by obtain ⟨m, hm⟩ := kk1; exact DataW.trod_lt m _ _ _ hm
  have kk2 := h2
  have lt2 : ∀ x ∈ p2, x.block < W.heap.size := by obtain ⟨m, hm⟩ := kk2; exact DataW.trod_lt m _ _ _ hm
  have kk3 := h3
  have lt3 : ∀ x ∈ p3, x.block < W.heap.size := by obtain ⟨m, hm⟩ := kk3; exact DataW.trod_lt m _ _ _ hm
  have kk4 := h4
  have lt4 : ∀ x ∈ p4, x.block < W.heap.size := by obtain ⟨m, hm⟩ := kk4; exact DataW.trod_lt m _ _ _ hm
  obtain ⟨s0, q0, k0, e0, w0, x0, y0⟩ := open_ik (hval 0 _ v0 rfl rfl) h0
  subst e0
  obtain ⟨s1, q1, k1, e1, w1, x1, y1⟩ := open_ik (hval 1 _ v1 rfl rfl) h1
  subst e1
  obtain ⟨a2, e2, _, _, w2⟩ := open_string Try.underlying9 (hval 2 _ v2 rfl rfl) h2
  subst e2
  obtain ⟨A3, n3, c3, L3, e3, r3, o3⟩ := open_ents h3 (hval 3 _ v3 rfl rfl)
  subst e3
  obtain ⟨A4, n4, c4, l4, e4, w4, r4⟩ := open_bytes h4 (hval 4 _ v4 rfl rfl)
  subst e4
  have hbk : n3 ≤ 1048576 := Nat.le_trans (ents_bulk kk3) (by simp [Rows.uptoSmall, Rows.uptoBulkAll] at hbulk; omega)
  clear hA0 hval0
  refine (walk s0 q0 k0 s1 q1 k1 a2 A3 n3 c3 L3 A4 n4 c4 l4 W w0 x0 y0 w1 x1 y1 w2 r3 o3 w4 r4 hbk).mono fun e W' ⟨he, bel⟩ => ?_
  subst he
  exact ⟨_, rfl, _, _, _, [], _, [], hW', trodAll_mk1 (shut_bool Try.underlying4 _), (trodAll_cons_mk (Below.trod laidOut (by kernel_rfl) (of_decide_eq_true (by kernel_rfl)) kk0 bel lt0) (trodAll_cons_mk (Below.trod laidOut (by kernel_rfl) (of_decide_eq_true (by kernel_rfl)) kk1 bel lt1) (trodAll_cons_mk (Below.trod laidOut (by kernel_rfl) (of_decide_eq_true (by kernel_rfl)) kk2 bel lt2) (trodAll_cons_mk (Below.trod laidOut (by kernel_rfl) (of_decide_eq_true (by kernel_rfl)) kk3 bel lt3) (trodAll_cons_mk (Below.trod laidOut (by kernel_rfl) (of_decide_eq_true (by kernel_rfl)) kk4 bel lt4) trodAll_mk0))))), rfl, bel.frame _, fun h => by cases h⟩

theorem over : Rows.ikeyTellsUptoRow.holds Try.pinned (Rows.OpenSpec.upto Rows.ikeyTellsSpec) :=
  OpenClaim.holds_of_cond 3 Try.f3 rfl rfl rfl rfl rfl rfl rfl ⟨rfl, rfl, rfl, rfl, rfl⟩ rfl rfl rfl rfl rfl (by kernel_rfl) Try.func3 (by kernel_rfl)
    (of_decide_eq_true (by kernel_rfl)) (by unfold Func.isWrapper; first | (rw [if_pos (by decide +kernel)]; kernel_rfl) | (rw [if_neg (by decide +kernel)]; exact ⟨rfl, rfl⟩))
    (fun os started H enc _ F0 => lifted os started H enc F0)

/-- The statement. -/
theorem proved : Rows.IkeyTellsUptoSaid := over
#print axioms proved
end Go.Proofs.Ytobfdhnaejfehaa.ikeyTells
