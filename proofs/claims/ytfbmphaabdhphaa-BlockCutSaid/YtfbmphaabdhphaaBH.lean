/-
  The chapter's examples: what they come to.
-/
import Derived.Test.YtfbmphaabdhphaaBG
import Derived.Test.YtfbmphaabdhphaaHelp
import Derived.Test.YtfbmphaabdhphaaIkS
namespace Go.Proofs.Ytfbmphaabdhphaa
set_option maxRecDepth 100000
open Go.RowKit Go.Shelf
set_option linter.unusedVariables false

def exA : Ent := ⟨⟨#[97]⟩, 5, 1, ⟨#[120]⟩⟩
def exC : Ent := ⟨⟨#[97, 98]⟩, 4, 0, ⟨#[]⟩⟩
def exL : List Ent := [exA, exC]
def exB : List UInt8 := [0, 1, 97, 11, 1, 120, 1, 1, 98, 8, 0, 0, 0, 0, 1, 0, 0, 0]
def exD : List UInt8 := [0, 1, 97, 11, 1, 120, 0, 2, 97, 98, 8, 0, 0, 0, 0, 1, 0, 0, 0]
theorem ex_blk : blkB exL = true := by decide +kernel
theorem ex_form : blkL exL = exB := by decide +kernel
theorem ex_bld : bldL exL = exB ∧ bldE exL = 0 := by unfold bldL bldE; rw [ex_blk]; exact ⟨ex_form, rfl⟩
theorem ex_parse : parseB exB = some exL := parse_iff.2 ⟨ex_blk, ex_form⟩
theorem ex_prs : prsL exB = exL ∧ prsE exB = 0 := by unfold prsL prsE; rw [ex_parse]; exact ⟨rfl, rfl⟩
theorem ex_none : prsE exD = 70 := by
  have h : parseB exD = none := by
    unfold parseB
    rw [if_neg (by decide +kernel)]
  unfold prsE; rw [h]
theorem ex_s1 : skV exB ⟨#[97]⟩ 6 1 = exA ∧ skB exB ⟨#[97]⟩ 6 1 = true := by unfold skV skB; rw [ex_prs.1]; exact ⟨by rfl, by rfl⟩
theorem ex_s2 : skV exB ⟨#[97]⟩ 4 1 = exC ∧ skB exB ⟨#[97]⟩ 4 1 = true := by unfold skV skB; rw [ex_prs.1]; exact ⟨by rfl, by rfl⟩
theorem ex_s3 : skV exB ⟨#[97, 98]⟩ 3 1 = noE ∧ skB exB ⟨#[97, 98]⟩ 3 1 = false := by unfold skV skB; rw [ex_prs.1]; exact ⟨by rfl, by rfl⟩
theorem ex_nil : bldE [] = 70 := by rfl
theorem ex_nilL : bldL [] = [] := by rfl
set_option maxRecDepth 100000 in
theorem key7_c (w : World) (s : ByteArray) (q k : Nat) : Calls Try.prog 21 #[.string s, .int .u64 (q : Int), .int .u8 (k : Int)] w (RetVl w (ik s q k)) := by
  go_enter Try.func21, Try.ntmps21
  go_wp2
  exact ret_cell rfl rfl rfl (heap_alloc_new w _) (RetVl.of rfl (below_alloc _ _))
theorem build_t {w : World} {B n c : Nat} {A : Option Addr} {L : List Ent} (h : RdE w B A n c L) (hB : B ≤ w.heap.size) (hn : (n : Int) ≤ 70368744000000) {l : List UInt8} {e0 : Int} (hl : bldL L = l) (he : bldE L = e0) :
    Calls Try.prog 10 #[.slice A n c] w (RetBE w l e0) := by rw [← hl, ← he]; exact build_c h hB hn
theorem parse_t {w : World} {B n c : Nat} {A : Option Addr} {l : List UInt8} (h : Rd w B A n c (bv l)) (hB : B ≤ w.heap.size) (hn : n ≤ 1000000000) {L : List Ent} {e0 : Int} (hl : prsL l = L) (he : prsE l = e0) :
    Calls Try.prog 12 #[.slice A n c] w (RetLE w L e0) := by rw [← hl, ← he]; exact parse_c h hB hn
theorem seek_t {w : World} {B n c : Nat} {A : Option Addr} {l : List UInt8} (h : Rd w B A n c (bv l)) (hB : B ≤ w.heap.size) (hn : n ≤ 1000000000) (s : ByteArray) (q k : Nat) {x : Ent} {ok : Bool} {e0 : Int} (hx : skV l s q k = x) (ho : skB l s q k = ok) (he : prsE l = e0) :
    Calls Try.prog 16 #[.slice A n c, ik s q k] w (RetEB w x ok e0) := by rw [← hx, ← ho, ← he]; exact seek_c h hB hn s q k
end Go.Proofs.Ytfbmphaabdhphaa
