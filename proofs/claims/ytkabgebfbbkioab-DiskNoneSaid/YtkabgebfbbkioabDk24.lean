/-
  Contract: DiskNone: a disk that is none.
-/
import Derived.Test.YtkabgebfbbkioabDk23
import Derived.LoopN
namespace Go.Proofs.Ytkabgebfbbkioab
open Go.RowKit Go.Maps

/-- What stands behind the two disks that are none. -/
structure NT (w W : World) : Prop where
  below : Below w.heap.size w W
  zero : NoDisk W (some ⟨w.heap.size, 0, none⟩)
  c1 : W.cell? ⟨w.heap.size + 1, 1, none⟩ = some (.pointer (some ⟨w.heap.size, 0, none⟩))
  lt : w.heap.size + 1 < W.heap.size
theorem NT.on {w W W' : World} (h : NT w W) (hb : Below W.heap.size W W') : NT w W' :=
  ⟨h.below.trans (hb.mono h.below.size), h.zero.below hb (Nat.le_refl _), (hb.cell h.lt).trans h.c1, Nat.lt_of_lt_of_le h.lt hb.size⟩
theorem NoDisk.nil (w : World) : NoDisk w none := fun _ e => by cases e

set_option maxRecDepth 100000 in
set_option maxHeartbeats 4000000 in
theorem none_c {w : World} (s : ByteArray) {A : Option Addr} {n c : Nat} : Calls Try.prog 3 #[.string s, .slice A n c] w (RetT w) := by
  by_cases hn : n ≤ 60
  · have hd : decide ((n : Int) > 60) = false := by simp; omega
    obtain ⟨w2, hw2⟩ : ∃ w2, w2 = (w.alloc (.cells #[.pointer none, .int .i64 0, .int .i64 0, .int .i64 0, .map none, .map none] 28)).alloc (.cells #[.pointer none, .pointer (some ⟨w.heap.size, 0, none⟩)] 24) := ⟨_, rfl⟩
    have t2 : NT w w2 := by
      rw [hw2]
      refine ⟨((Below.refl _ _).alloc (Nat.le_refl _) _).alloc (by simp) _, ?_, ?_, by simp⟩
      · intro a e
        cases e
        exact ⟨by rw [World.cell?_alloc_past _ _ _ (by simp), World.cell?_alloc_at _ _ _ _ rfl]; rfl, rfl⟩
      · rw [World.cell?_alloc_at _ _ _ _ (by simp)]; rfl
    have c00 : w2.cell? ⟨w.heap.size + 1, 0, none⟩ = some (.pointer none) := by rw [hw2, World.cell?_alloc_at _ _ _ _ (by simp)]; rfl
    go_enter Try.func3, Try.ntmps3
    go_wp2_with fail
    rw [← hw2]
    clear hw2
    refine wp_loop_rounds 3 ?_
    rw [rounds_succ]
    have tt := t2
    clear t2
    go_wp2_with fail
    refine (crash_none (NoDisk.nil _) _ _ _).mono ?_
    rintro e x1 ⟨rfl, hb⟩
    replace tt := (tt.on ((Below.refl _ _).alloc (Nat.le_refl _) _)).on hb
    clear hb
    go_wp2_with fail
    refine (read_none (NoDisk.nil _) _).mono ?_
    rintro e x2 ⟨rfl, hb⟩
    replace tt := tt.on hb
    clear hb
    go_wp2_with fail
    refine (size_none (NoDisk.nil _) _).mono ?_
    rintro e x3 ⟨rfl, hb⟩
    replace tt := tt.on hb
    clear hb
    go_wp2_with fail
    refine (loose_none (NoDisk.nil _) _).mono ?_
    rintro e x4 ⟨rfl, hb⟩
    replace tt := tt.on hb
    clear hb
    go_wp2_with fail
    refine (create_none (NoDisk.nil _) _).mono ?_
    rintro e x5 ⟨rfl, hb⟩
    replace tt := tt.on hb
    clear hb
    go_wp2_with fail
    refine (append_none (NoDisk.nil _) _ _ _ _).mono ?_
    rintro e x6 ⟨rfl, hb⟩
    replace tt := tt.on hb
    clear hb
    go_wp2_with fail
    refine (sync_none (NoDisk.nil _) _).mono ?_
    rintro e x7 ⟨rfl, hb⟩
    replace tt := tt.on hb
    clear hb
    go_wp2_with fail
    refine (rename_none (NoDisk.nil _) _ _).mono ?_
    rintro e x8 ⟨rfl, hb⟩
    replace tt := tt.on hb
    clear hb
    go_wp2_with fail
    refine (remove_none (NoDisk.nil _) _).mono ?_
    rintro e x9 ⟨rfl, hb⟩
    replace tt := tt.on hb
    clear hb
    go_wp2_with fail
    refine (used_none (NoDisk.nil _)).mono ?_
    rintro e x10 ⟨rfl, rfl⟩
    go_wp2_with fail
    refine (calls_none (NoDisk.nil _)).mono ?_
    rintro e x11 ⟨rfl, rfl⟩
    go_wp2_with fail
    refine (list_none (NoDisk.nil _)).mono ?_
    rintro e x12 ⟨rfl, rfl⟩
    go_wp2_with fail
    refine (copy_none (NoDisk.nil _)).mono ?_
    rintro e x13 ⟨rfl, rfl⟩
    go_wp2_with fail
    rw [rounds_succ]
    have q1 := tt.c1
    go_wp2_with fail
    refine (crash_none (tt.zero.alloc _) _ _ _).mono ?_
    rintro e x14 ⟨rfl, hb⟩
    replace tt := (tt.on ((Below.refl _ _).alloc (Nat.le_refl _) _)).on hb
    clear hb
    go_wp2_with fail
    refine (read_none tt.zero _).mono ?_
    rintro e x15 ⟨rfl, hb⟩
    replace tt := tt.on hb
    clear hb
    go_wp2_with fail
    refine (size_none tt.zero _).mono ?_
    rintro e x16 ⟨rfl, hb⟩
    replace tt := tt.on hb
    clear hb
    go_wp2_with fail
    refine (loose_none tt.zero _).mono ?_
    rintro e x17 ⟨rfl, hb⟩
    replace tt := tt.on hb
    clear hb
    go_wp2_with fail
    refine (create_none tt.zero _).mono ?_
    rintro e x18 ⟨rfl, hb⟩
    replace tt := tt.on hb
    clear hb
    go_wp2_with fail
    refine (append_none tt.zero _ _ _ _).mono ?_
    rintro e x19 ⟨rfl, hb⟩
    replace tt := tt.on hb
    clear hb
    go_wp2_with fail
    refine (sync_none tt.zero _).mono ?_
    rintro e x20 ⟨rfl, hb⟩
    replace tt := tt.on hb
    clear hb
    go_wp2_with fail
    refine (rename_none tt.zero _ _).mono ?_
    rintro e x21 ⟨rfl, hb⟩
    replace tt := tt.on hb
    clear hb
    go_wp2_with fail
    refine (remove_none tt.zero _).mono ?_
    rintro e x22 ⟨rfl, hb⟩
    replace tt := tt.on hb
    clear hb
    go_wp2_with fail
    refine (used_none tt.zero).mono ?_
    rintro e x23 ⟨rfl, rfl⟩
    go_wp2_with fail
    refine (calls_none tt.zero).mono ?_
    rintro e x24 ⟨rfl, rfl⟩
    go_wp2_with fail
    refine (list_none tt.zero).mono ?_
    rintro e x25 ⟨rfl, rfl⟩
    go_wp2_with fail
    refine (copy_none tt.zero).mono ?_
    rintro e x26 ⟨rfl, rfl⟩
    go_wp2_with fail
    rw [rounds_succ]
    go_wp2_with fail
    refine awake_c.mono ?_
    rintro e w9 ⟨rfl, hb⟩
    replace tt := tt.on hb
    have HB := Lib.hid tt.below
    clear tt hb
    go_wp2
    go_ret
    exact ⟨rfl, HB.out⟩
  · have hd : decide ((n : Int) > 60) = true := by simp; omega
    go_enter Try.func3, Try.ntmps3
    go_wp2_with fail
    refine awake_c.mono ?_
    rintro e w9 ⟨rfl, hb⟩
    go_wp2
    go_ret
    exact ⟨rfl, hb⟩
end Go.Proofs.Ytkabgebfbbkioab
