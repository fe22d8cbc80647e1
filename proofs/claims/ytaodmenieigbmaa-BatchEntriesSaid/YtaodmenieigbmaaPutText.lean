/-
  Contract: the program's PutText.
-/
import Derived.Test.YtaodmenieigbmaaIter
namespace Go.Proofs.Ytaodmenieigbmaa
open Go.RowKit Go.Shelf
attribute [local go_sem] Oper.semAt_some

set_option maxRecDepth 100000 in
set_option maxHeartbeats 1000000 in
theorem putText_c {w : World} {B n c : Nat} {A : Option Addr} {l : List UInt8} (h : Rd w B A n c (bv l)) (hB : B ≤ w.heap.size) (hn : n ≤ 70368744100000) (s : ByteArray) (hs : s.size ≤ 60000) :
    Calls Try.prog 41 #[.slice A n c, .string s] w (RetB w (l ++ textL s)) := by
  have hl : l.length = n := by simpa using h.len
  have hsl := shortL_len s.size
  have hj : Calls Try.prog 39 #[.slice A n c, .func (.func 48) #[] #[.pointer (some ⟨w.heap.size, 0, none⟩)], .int .i64 (s.size : Int)] (w.alloc (.cells #[.int .u64 (s.size : Int)] 24)) (RetB (w.alloc (.cells #[.int .u64 (s.size : Int)] 24)) (l ++ shortL s.size)) := by
    refine (callsIn_wide (n := 4)).1 ?_
    refine join_in Fence.wide 4 trivial 48 trivial rfl (by omega) (h.alloc hB _) (by simp; omega) (by omega) s.size (by omega) _ _ hsl (enters_of Try.func48 (by kernel_rfl) rfl) fun w0 hb0 => ?_
    refine short_stops Fence.wide 3 trivial rfl (by omega) w.heap.size _ s.size (by omega) w0 (by have := hb0.size; simp at this; omega) ?_
    exact (hb0.cell (p := ⟨w.heap.size, 0, none⟩) (by simp)).trans (Boxed.new w 24 _).cell
  have HJ := Lib.hid hj
  have HL := Lib.hid hl
  have HS := Lib.hid hsl
  have HN := Lib.hid hn
  have hsi : (s.size : Int) ≤ 60000 := by omega
  clear hj h hn hl hsl
  go_enter Try.func41, Try.ntmps41
  go_wp2_with fail
  refine (short_c _).mono ?_
  rintro e w1 ⟨rfl, rfl⟩
  go_wp2_with fail
  refine HJ.out.mono ?_
  rintro e w2 ⟨A2, n2, c2, rfl, hf2, hb2⟩
  have hn2 : n2 ≤ 70368744100010 := by
    have := hf2.len; have := HL.out; have := HS.out; have := HN.out; simp at *; omega
  have HN2 := Lib.hid hn2
  have hbs : w.heap.size ≤ w2.heap.size := by have := hb2.size; simp at this; omega
  have hf2 : Fr w2 w.heap.size 5 A2 n2 c2 (bv (l ++ shortL s.size)) := hf2.mono (by simp)
  have hb3 : Below w.heap.size w w2 := (Below.refl _ _).alloc (Nat.le_refl _) _ |>.trans (hb2.mono (by simp))
  clear hn2 hb2
  go_wp2_with (at_builtin; refine wpList_apps rfl (.tmp 12) (.tmp 13) _ _ rfl Try.underlying23 Try.underlying9 info_u8 rfl hf2 rfl (by have := HN2.out; omega) hbs ?_; intro A' c' w' hf hb hg)
  go_ret
  refine ⟨A', _, c', rfl, ?_, hb3.trans hb⟩
  unfold textL
  rw [← List.append_assoc, bv_append]
  exact hf
end Go.Proofs.Ytaodmenieigbmaa
