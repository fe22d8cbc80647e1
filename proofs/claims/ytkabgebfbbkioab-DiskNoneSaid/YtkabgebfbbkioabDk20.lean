/-
  Contract: Crash.
-/
import Derived.Test.YtkabgebfbbkioabDk19
namespace Go.Proofs.Ytkabgebfbbkioab
open Go.RowKit Go.Maps

def crashFrom (keeps : List Int) : Nat → List (List UInt8 × FileS) → List (List UInt8 × FileS)
  | _, [] => []
  | i, p :: r => (p.1, crashF p.2 (numD keeps i).toNat) :: crashFrom keeps (i + 1) r
def sumF (fs : List (List UInt8 × FileS)) : Nat := (fs.map fun p => p.2.bytes.length).sum
def crashMF (keeps : List Int) : Nat → List (List UInt8 × List UInt8 × Nat) → List (List UInt8 × List UInt8 × Nat)
  | _, [] => []
  | i, p :: r => (p.1, p.2.1.take (p.2.1.length - goneN p.2 (numD keeps i).toNat), p.2.1.length - goneN p.2 (numD keeps i).toNat) :: crashMF keeps (i + 1) r
def sumM (fs : List (List UInt8 × List UInt8 × Nat)) : Nat := (fs.map fun p => p.2.1.length).sum
def crashM (m : MD) (keeps : List Int) : MD := { m with files := crashMF keeps 0 m.files, used := (sumM (crashMF keeps 0 m.files) : Int) }

theorem crash_see (keeps : List Int) (i : Nat) (fs : List (List UInt8 × FileS)) : seeF (crashFrom keeps i fs) = crashMF keeps i (seeF fs) := by
  induction fs generalizing i with
  | nil => rfl
  | cons p r ih => exact congrArg (List.cons _) (ih (i + 1))
theorem sum_see (fs : List (List UInt8 × FileS)) : sumM (seeF fs) = sumF fs := by
  unfold sumM sumF seeF; rw [List.map_map]; rfl
theorem crashFrom_append (keeps : List Int) (i : Nat) (a b : List (List UInt8 × FileS)) : crashFrom keeps i (a ++ b) = crashFrom keeps i a ++ crashFrom keeps (i + a.length) b := by
  induction a generalizing i with
  | nil => simp [crashFrom]
  | cons p r ih => simp only [List.cons_append, crashFrom, ih, List.length_cons]; rw [show i + 1 + r.length = i + (r.length + 1) by omega]
theorem crashFrom_keys (keeps : List Int) (i : Nat) (a : List (List UInt8 × FileS)) : (crashFrom keeps i a).map (·.1) = a.map (·.1) := by
  induction a generalizing i with
  | nil => rfl
  | cons p r ih => simp only [crashFrom, List.map_cons, ih]

theorem lookF_split {a b : List (List UInt8 × FileS)} {s : List UInt8} {f : FileS} (h : s ∉ a.map (·.1)) : lookF (a ++ (s, f) :: b) s = some f ∧ ∀ f', setF (a ++ (s, f) :: b) s f' = a ++ (s, f') :: b := by
  induction a with
  | nil => simp [lookF, setF]
  | cons p r ih =>
    simp only [List.map_cons, List.mem_cons, not_or] at h
    obtain ⟨h1, h2⟩ := h
    have h3 : (p.1 == s) = false := by simpa using fun e => h1 e.symm
    obtain ⟨i1, i2⟩ := ih h2
    refine ⟨?_, fun f' => ?_⟩
    · unfold lookF at i1 ⊢
      rw [List.cons_append, List.find?_cons, h3]
      exact i1
    · rw [List.cons_append, setF, h3]
      simp [i2 f']

theorem before_irrefl : ∀ x : List UInt8, bytesBefore x x = false
  | [] => by simp [bytesBefore]
  | a :: r => by rw [bytesBefore.eq_4, before_irrefl r]; simp
theorem keys_nodup {fs : List (List UInt8 × FileS)} (hc : Canon (FD fs)) : (fs.map (·.1)).Nodup := by
  obtain ⟨es, e, hpw, -⟩ := hc
  injection e with e
  subst e
  rw [List.pairwise_map] at hpw
  unfold List.Nodup
  rw [List.pairwise_map]
  refine hpw.imp fun {a b} h e => ?_
  have : bytesBefore a.1 b.1 = true := h
  rw [e, before_irrefl] at this
  cases this

theorem sum_crash {a b : List (List UInt8 × FileS)} {s : List UInt8} {f : FileS} (K : Nat) :
    ((sumF (a ++ (s, f) :: b) : Nat) : Int) - (goneN (f.bytes, f.safe) K : Int) = ((sumF (a ++ (s, crashF f K) :: b) : Nat) : Int) := by
  have hg : goneN (f.bytes, f.safe) K ≤ f.bytes.length := by unfold goneN; simp only []; omega
  have hl : (crashF f K).bytes.length = f.bytes.length - goneN (f.bytes, f.safe) K := by simp only [crashF, List.length_take]; omega
  simp only [sumF, List.map_append, List.map_cons, List.sum_append, List.sum_cons, hl]
  omega

def S1 (S : DiskS) (F : List (List UInt8 × FileS)) : DiskS := { S with files := F, used := (sumF F : Int) }

theorem sum_append (a b : List (List UInt8 × FileS)) : sumF (a ++ b) = sumF a + sumF b := by simp [sumF]
theorem sum_crashFrom (keeps : List Int) (i : Nat) (a : List (List UInt8 × FileS)) : sumF (crashFrom keeps i a) ≤ sumF a := by
  induction a generalizing i with
  | nil => exact Nat.le_refl _
  | cons p r ih =>
    have := ih (i + 1)
    have hl : (crashF p.2 (numD keeps i).toNat).bytes.length ≤ p.2.bytes.length := by simp only [crashF, List.length_take]; omega
    simp only [sumF, crashFrom, List.map_cons, List.sum_cons] at this ⊢
    omega

structure CrRel (w2 : World) (S : DiskS) (keeps : List Int) (wr : World) (a b : List (List UInt8 × FileS)) (k : Nat) : Prop where
  eq : S.files = a ++ b
  len : a.length = k
  disk : DiskAt wr (S1 S (crashFrom keeps 0 a ++ b))
  off : Off (foot S) w2 wr

theorem foot_crash {S : DiskS} (keeps : List Int) (a b : List (List UInt8 × FileS)) (e : S.files = a ++ b) : foot (S1 S (crashFrom keeps 0 a ++ b)) = foot S := by
  have : ∀ (i : Nat) (a : List (List UInt8 × FileS)), feet (crashFrom keeps i a) = feet a := by
    intro i a
    induction a generalizing i with
    | nil => rfl
    | cons p r ih => simp only [crashFrom, feet_cons, ih, crashF]
  simp only [foot, S1, e, feet_append, this]

set_option maxRecDepth 100000 in
set_option maxHeartbeats 1000000 in
theorem crash_c {w : World} {S : DiskS} (h : DiskAt w S) {B n c : Nat} {A : Option Addr} {keeps : List Int} (hk : ∀ w', Off (foot S) w w' → Rd w' B A n c (iv keeps)) (hm : S.files.length ≤ 8000000) (hsum : S.used = (sumF S.files : Int)) (hu : S.used ≤ 70368744177664)
    (hval : ∀ p ∈ S.files, validB ⟨p.1.toArray⟩ = true) :
    Calls Try.prog 5 #[.pointer (some ⟨S.dp, 0, none⟩), .slice A n c] w fun e w' => e = .returned (.tuple #[]) ∧ Step S w (crashM (see S) keeps) w' := by
  have hmf : ∀ (fn : Fn) (first cap : Array Value) (w : World), (Instr.makeFunc fn first cap).run Try.prog w = .ok (.func fn first cap) w := fun _ _ _ _ => rfl
  have hfoot := h.there
  obtain ⟨w1, hw1⟩ : ∃ w1, w1 = w.alloc (.cells #[.pointer (some ⟨S.dp, 0, none⟩)] 24) := ⟨_, rfl⟩
  have h1 : DiskAt w1 S := by rw [hw1]; exact h.alloc _
  have o1 : Off (foot S) w w1 := by rw [hw1]; exact (Off.refl _ _).alloc _
  have hs1 : w1.heap.size = w.heap.size + 1 := by rw [hw1]; simp
  have hbox : w1.cell? ⟨w.heap.size, 0, none⟩ = some (.pointer (some ⟨S.dp, 0, none⟩)) := by rw [hw1, World.cell?_alloc_at _ _ _ _ rfl]; rfl
  have hnd := keys_nodup (h.names.canon keyed_s)
  have L := Lib.hid (list_c h1 hm)
  have hS1 : S1 S S.files = S := by unfold S1; rw [← hsum]
  go_enter Try.func5, Try.ntmps5
  go_wp2_with fail
  rw [← hw1]
  refine L.out.mono ?_
  rintro e w2 ⟨A2, n2, c2, rfl, hfr, hb2⟩
  have hb2' : Below w1.heap.size w1 w2 := hb2
  have o2 : Off (foot S) w w2 := o1.trans (Off.of_below hb2) (fun _ h => .inl h)
  have r0 : CrRel w2 S keeps w2 [] S.files 0 := ⟨rfl, rfl, by
      show DiskAt w2 (S1 S S.files)
      rw [hS1]
      exact h1.kept (fun k hk => hb2.block k (by have := hfoot k hk; omega)) hb2.size, Off.refl _ _⟩
  have hbox2 : w2.cell? ⟨w.heap.size, 0, none⟩ = some (.pointer (some ⟨S.dp, 0, none⟩)) := (hb2.cell (by show w.heap.size < _; omega)).trans hbox
  have hn2 : n2 = S.files.length := by have := hfr.len; simpa using this.symm
  have hs2 := hb2.size
  have hn2i : (n2 : Int) ≤ 8000000 := by omega
  have HN2 := Lib.hid hn2
  have HRE := Lib.hid hm
  clear hb2 hb2' hbox h1 o1 hn2 hm
  go_wp2_with fail
  go_loopw [10] (fun iv wr => ∃ (k : Nat) (a b : List (List UInt8 × FileS)), iv = .int .i64 (k : Int) ∧ CrRel w2 S keeps wr a b k) (fun iv _ => (n2 - intOf iv).toNat)
  case atStart => exact ⟨0, [], S.files, rfl, r0⟩
  case round =>
    clear r0
    obtain ⟨k, a, b, rfl, hr⟩ := hrel
    have hrl := hr.len
    have hre := hr.eq
    cases b with
    | nil =>
      rw [List.append_nil] at hre
      have hkn : k = n2 := by rw [HN2.out, hre, hrl]
      subst hkn
      have hfin : Hid (Step S w (crashM (see S) keeps) wr) := by
        refine Lib.hid ⟨_, hr.disk, rfl, ?_, o2.trans hr.off (fun _ h => .inl h), fun j hj => .inl (by rw [foot_crash keeps a [] hr.eq] at hj; exact hj)⟩
        rw [List.append_nil, ← hre]
        simp only [S1, see, crashM, crash_see, ← sum_see]
      clear hr hk hfr hre hrl hnd hval
      go_wp2
      go_end0
      exact ⟨rfl, hfin.out⟩
    | cons q b =>
      obtain ⟨s, f⟩ := q
      have hlt : k < n2 := by rw [HN2.out, hre, List.length_append, hrl, List.length_cons]; omega
      have hki : (k : Int) < (n2 : Int) := by omega
      have hd : decide ((k : Int) < (n2 : Int)) = true := by simp; omega
      have hsnot : s ∉ (crashFrom keeps 0 a).map (·.1) := by
        rw [crashFrom_keys]
        rw [hre] at hnd
        simp only [List.map_append, List.map_cons, List.nodup_append, List.nodup_cons] at hnd
        intro hm
        exact hnd.2.2 s hm s (by simp) rfl
      obtain ⟨hlk, hst⟩ := lookF_split (b := b) (f := f) hsnot
      have hname : (S.files.map (·.1))[k]? = some s := by rw [hre, ← hrl]; simp
      obtain ⟨g, off, rfl, hgl, hcell⟩ := (hfr.rd (Nat.le_refl _)).form (by omega)
      have hgw := (hfr.frozen _ rfl).1
      have hcl2 := hcell k (encStr s) (by rw [List.getElem?_map, hname]; rfl)
      have hcl : wr.cell? ⟨g, off + k, none⟩ = some (.string ⟨s.toArray⟩) := (hr.off.cell hgl (fun e => by have := hfoot g e; simp only [] at hgw; omega)).trans hcl2
      have N := Lib.hid (numberAt_c (hk wr (o2.trans hr.off (fun _ h => .inl h))) k)
      have hdbox : wr.cell? ⟨w.heap.size, 0, none⟩ = some (.pointer (some ⟨S.dp, 0, none⟩)) := (hr.off.cell (show w.heap.size < _ by omega) (fun e => by have := hfoot _ e; simp only [] at this; omega)).trans hbox2
      have hsr := hr.off.size
      have hwl : w.heap.size < wr.heap.size := by omega
      obtain ⟨K, hK⟩ : ∃ K : Nat, numD keeps k = (K : Int) := ⟨(numD keeps k).toNat, by unfold numD; omega⟩
      rw [hK] at N
      obtain ⟨W, hW⟩ : ∃ W, W = wr.alloc (.cells #[.int .i64 (K : Int)] 3) := ⟨_, rfl⟩
      have hWd : DiskAt W (S1 S (crashFrom keeps 0 a ++ (s, f) :: b)) := by rw [hW]; exact hr.disk.alloc _
      have oW : Off (foot S) w2 W := by rw [hW]; exact hr.off.alloc _
      have hv : validB ⟨s.toArray⟩ = true := hval (s, f) (by rw [hre]; simp)
      have hkc : W.cell? ⟨wr.heap.size, 0, none⟩ = some (.int .i64 (K : Int)) := by rw [hW, World.cell?_alloc_at _ _ _ _ rfl]; rfl
      have hdc : W.cell? ⟨w.heap.size, 0, none⟩ = some (.pointer (some ⟨S.dp, 0, none⟩)) := by rw [hW, World.cell?_alloc_past _ _ _ hwl]; exact hdbox
      have hff := hWd.file hlk
      have hfb : f.blk ∈ foot S := by have := hff.2.1; rw [foot_crash keeps a _ hr.eq] at this; exact this
      have hsle := sum_crashFrom keeps 0 a
      have hul : (f.bytes.length : Int) ≤ (S1 S (crashFrom keeps 0 a ++ (s, f) :: b)).used := by
        show _ ≤ ((sumF _ : Nat) : Int)
        rw [sum_append]
        simp only [sumF, List.map_cons, List.sum_cons]
        omega
      have huu : (S1 S (crashFrom keeps 0 a ++ (s, f) :: b)).used ≤ 70368744177664 := by
        show ((sumF _ : Nat) : Int) ≤ _
        rw [hre, sum_append] at hsum
        rw [sum_append]
        omega
      have hS : ({ S1 S (crashFrom keeps 0 a ++ (s, f) :: b) with files := setF (S1 S (crashFrom keeps 0 a ++ (s, f) :: b)).files s (crashF f K), used := (S1 S (crashFrom keeps 0 a ++ (s, f) :: b)).used - (goneN (f.bytes, f.safe) K : Int) } : DiskS) = S1 S (crashFrom keeps 0 (a ++ [(s, f)]) ++ b) := by
        have e1 : (S1 S (crashFrom keeps 0 a ++ (s, f) :: b)).files = crashFrom keeps 0 a ++ (s, f) :: b := rfl
        have e2 : (S1 S (crashFrom keeps 0 a ++ (s, f) :: b)).used = ((sumF (crashFrom keeps 0 a ++ (s, f) :: b) : Nat) : Int) := rfl
        have e3 : crashFrom keeps 0 (a ++ [(s, f)]) ++ b = crashFrom keeps 0 a ++ (s, crashF f K) :: b := by
          rw [crashFrom_append]
          simp only [crashFrom, Nat.zero_add, hrl, hK, Int.toNat_natCast, List.append_assoc, List.cons_append, List.nil_append]
        rw [e1, e2, hst, sum_crash, e3]
        rfl
      have C1 := Lib.hid (with_c (s := ⟨s.toArray⟩) (R := fun i w' => i = 0 ∧ DiskAt w' (S1 S (crashFrom keeps 0 (a ++ [(s, f)]) ++ b)) ∧ Off [S.dp, f.blk] W w') hWd (fn := 21) (cs := #[.pointer (some ⟨wr.heap.size, 0, none⟩), .pointer (some ⟨w.heap.size, 0, none⟩)])
        (enters_of Try.func21 (by kernel_rfl) rfl) (fun e => by rw [hv] at e; cases e) (fun _ e => by
          have e' : lookF (crashFrom keeps 0 a ++ (s, f) :: b) s = none := e
          rw [hlk] at e'; cases e') (fun f' _ e => by
          have e' : lookF (crashFrom keeps 0 a ++ (s, f) :: b) s = some f' := e
          rw [hlk] at e'
          obtain rfl := Option.some.inj e'
          refine (crash1_c hWd hlk K hkc hdc (by omega) hul huu).mono ?_
          rintro e5 w5 ⟨i, rfl, rfl, hd5, ho5⟩
          refine ⟨0, rfl, rfl, ?_, ho5⟩
          rw [← hS]
          exact hd5))
      have HR := Lib.hid (show ∀ w5, DiskAt w5 (S1 S (crashFrom keeps 0 (a ++ [(s, f)]) ++ b)) → Off [S.dp, f.blk] W w5 → CrRel w2 S keeps w5 (a ++ [(s, f)]) b (k + 1) from fun w5 hd5 ho5 =>
        ⟨by rw [hre, List.append_assoc]; rfl, by rw [List.length_append, hrl]; rfl, hd5, oW.trans ho5 (fun j hj => .inl (by
          simp only [List.mem_cons, List.not_mem_nil, or_false] at hj
          rcases hj with rfl | rfl
          · simp [foot]
          · exact hfb))⟩)
      clear hr hk hfr hre hrl hnd hval hname hcell hcl2 hgl hgw hst hlk hsnot hff hfb hWd oW hkc hdc hv o2 hfoot hS hul huu hsum hu h hbox2 hS1
      subst hW
      go_wp2_with (first | (go_at_call 19; refine N.out.mono ?_; rintro e w4 ⟨rfl, rfl⟩) | fail)
      refine C1.out.mono ?_
      rintro e w5 ⟨i, rfl, rfl, hd5, ho5⟩
      have hnx := Lib.hid (HR.out w5 hd5 ho5)
      clear hd5 ho5 HR C1 N hK
      go_wp2_with fail
      go_roundw
      case rel => exact ⟨k + 1, a ++ [(s, f)], b, by simp, hnx.out⟩
      case measure => simp [intOf]; omega
end Go.Proofs.Ytkabgebfbbkioab
