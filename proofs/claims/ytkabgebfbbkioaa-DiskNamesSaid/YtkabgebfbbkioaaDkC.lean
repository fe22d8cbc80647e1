/-
  An operation done: the contract of Does.
-/
import Derived.Test.YtkabgebfbbkioaaDkB
namespace Go.Proofs.Ytkabgebfbbkioaa
open Go.RowKit Go.Maps

theorem At.rd {w0 w w' : World} {S : DiskS} {m : MD} (h : At w0 w S m) (ho : Off (foot S) w w') {A : Option Addr} {n c : Nat} {xs : List Value} (r : Rd w0 w0.heap.size A n c xs) : Rd w' w0.heap.size A n c xs :=
  r.keep fun p hp => (ho.cell (Nat.lt_of_lt_of_le hp h.below.size) (fun hm => by have := h.old _ hm; omega)).trans (h.below.cell hp)
theorem Next.box {w0 w w' : World} {S S' : DiskS} {m' : MD} {o : Obj} (h : Next w0 (w.alloc o) S m' w' S') : Next w0 w S m' w' S' :=
  ⟨h.at_, h.dp, ((Off.refl _ w).alloc o).trans h.off (fun _ hk => .inl hk), fun k hk => by
    rcases h.grow k hk with h1 | h1
    · exact .inl h1
    · right; simp at h1; omega⟩
theorem NextP.box {w0 w w' : World} {S : DiskS} {r : MD × Int} {o : Obj} {e : Ending} (h : NextP w0 (w.alloc o) S r e w') : NextP w0 w S r e w' := by
  obtain ⟨h1, S', h2⟩ := h
  exact ⟨h1, S', h2.box⟩
theorem At.boxed {w0 w : World} {S : DiskS} {m : MD} (h : At w0 w S m) (o : Obj) : At w0 (w.alloc o) S m := h.below_next ((Below.refl _ _).alloc (Nat.le_refl _) _)
theorem At.stay {w0 w : World} {S : DiskS} {m : MD} (h : At w0 w S m) : Next w0 w S m w S := ⟨h, rfl, Off.refl _ _, fun _ hk => .inl hk⟩

set_option maxRecDepth 100000 in
set_option maxHeartbeats 4000000 in
theorem does_a {w0 w : World} {S : DiskS} {m : MD} (h : At w0 w S m) (g : Good m) (x : LOp) (hx : LOk w0 w0.heap.size x) (hn : x.n ≤ 60) :
    Calls Try.prog 13 #[lv x, .pointer (some ⟨S.dp, 0, none⟩)] w (NextP w0 w S (doesM m x.op)) := by
  have hat := h.boxed (.cells #[.int .u8 (x.what : Int), .string x.s, .string x.t, .slice x.A x.n x.c, .slice x.A2 x.n2 x.c2] 36)
  have hb0 := hx.what
  have HRB := Lib.hid (fun w' (ho : Off (foot S) (w.alloc (.cells #[.int .u8 (x.what : Int), .string x.s, .string x.t, .slice x.A x.n x.c, .slice x.A2 x.n2 x.c2] 36)) w') => hat.rd ho hx.b)
  have HRK := Lib.hid (fun w' (ho : Off (foot S) (w.alloc (.cells #[.int .u8 (x.what : Int), .string x.s, .string x.t, .slice x.A x.n x.c, .slice x.A2 x.n2 x.c2] 36)) w') => hat.rd ho hx.k)
  have hD : ∀ r, x.what % 7 = r → doesM m x.op = if r = 0 then createM m x.s else if r = 1 then appendM m x.s x.b else if r = 2 then syncM m x.s else if r = 3 then renameM m x.s x.t else if r = 4 then removeM m x.s else if r = 6 then (crashM m x.keeps, 0) else (m, 0) := fun r hr => by subst hr; rfl
  obtain ⟨r, hr⟩ : ∃ r, x.what % 7 = r := ⟨_, rfl⟩
  have hDr := hD r hr
  have hr7 : r = 0 ∨ r = 1 ∨ r = 2 ∨ r = 3 ∨ r = 4 ∨ r = 5 ∨ r = 6 := by omega
  clear hD hx
  unfold lv
  rcases hr7 with rfl | rfl | rfl | rfl | rfl | rfl | rfl
  · have hw : (x.what : Int) % 7 = 0 := by omega
    have HC := Lib.hid (create_a hat g x.s)
    have HD := Lib.hid hDr
    clear hDr hr hat g
    go_enter Try.func13, Try.ntmps13
    go_wp2_with fail
    refine HC.out.mono ?_
    intro e w1 hp
    have HP := Lib.hid hp.box
    obtain ⟨rfl, _⟩ := hp
    generalize createM m x.s = rr at *
    go_wp2_with fail
    go_ret
    rw [show doesM m x.op = rr from HD.out]
    exact HP.out
  · have hw : (x.what : Int) % 7 = 1 := by omega
    have HC := Lib.hid (append_a hat g x.s HRB.out (by omega))
    have HD := Lib.hid hDr
    clear hDr hr hat g
    go_enter Try.func13, Try.ntmps13
    go_wp2_with fail
    refine HC.out.mono ?_
    intro e w1 hp
    have HP := Lib.hid hp.box
    obtain ⟨rfl, _⟩ := hp
    generalize appendM m x.s x.b = rr at *
    go_wp2_with fail
    go_ret
    rw [show doesM m x.op = rr from HD.out]
    exact HP.out
  · have hw : (x.what : Int) % 7 = 2 := by omega
    have HC := Lib.hid (sync_a hat g x.s)
    have HD := Lib.hid hDr
    clear hDr hr hat g
    go_enter Try.func13, Try.ntmps13
    go_wp2_with fail
    refine HC.out.mono ?_
    intro e w1 hp
    have HP := Lib.hid hp.box
    obtain ⟨rfl, _⟩ := hp
    generalize syncM m x.s = rr at *
    go_wp2_with fail
    go_ret
    rw [show doesM m x.op = rr from HD.out]
    exact HP.out
  · have hw : (x.what : Int) % 7 = 3 := by omega
    have HC := Lib.hid (rename_a hat g x.s x.t)
    have HD := Lib.hid hDr
    clear hDr hr hat g
    go_enter Try.func13, Try.ntmps13
    go_wp2_with fail
    refine HC.out.mono ?_
    intro e w1 hp
    have HP := Lib.hid hp.box
    obtain ⟨rfl, _⟩ := hp
    generalize renameM m x.s x.t = rr at *
    go_wp2_with fail
    go_ret
    rw [show doesM m x.op = rr from HD.out]
    exact HP.out
  · have hw : (x.what : Int) % 7 = 4 := by omega
    have HC := Lib.hid (remove_a hat g x.s)
    have HD := Lib.hid hDr
    clear hDr hr hat g
    go_enter Try.func13, Try.ntmps13
    go_wp2_with fail
    refine HC.out.mono ?_
    intro e w1 hp
    have HP := Lib.hid hp.box
    obtain ⟨rfl, _⟩ := hp
    generalize removeM m x.s = rr at *
    go_wp2_with fail
    go_ret
    rw [show doesM m x.op = rr from HD.out]
    exact HP.out
  · have hw : (x.what : Int) % 7 = 5 := by omega
    have HC := Lib.hid (hat.stay.box)
    have HD := Lib.hid hDr
    clear hDr hr hat g
    go_enter Try.func13, Try.ntmps13
    go_wp2_with fail
    go_ret
    rw [show doesM m x.op = (m, 0) from HD.out]
    exact ⟨rfl, S, HC.out⟩
  · have hw : (x.what : Int) % 7 = 6 := by omega
    have HC := Lib.hid (crash_a hat g HRK.out)
    have HD := Lib.hid hDr
    clear hDr hr hat g
    go_enter Try.func13, Try.ntmps13
    go_wp2_with fail
    refine HC.out.mono ?_
    intro e w1 hp
    obtain ⟨rfl, S', hN⟩ := hp
    have HN := Lib.hid hN.box
    clear hN
    go_wp2_with fail
    go_ret
    rw [show doesM m x.op = (crashM m x.keeps, 0) from HD.out]
    exact ⟨rfl, S', HN.out⟩
end Go.Proofs.Ytkabgebfbbkioaa
