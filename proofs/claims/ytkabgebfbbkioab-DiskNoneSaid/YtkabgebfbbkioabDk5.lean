/-
  Contracts: change of a disk.
-/
import Derived.Test.YtkabgebfbbkioabDk4
import Derived.Shelf.SlGeneric
namespace Go.Proofs.Ytkabgebfbbkioab
open Go.RowKit Go.Maps

theorem Off.cell {F : List Nat} {a b : World} (h : Off F a b) {p : Addr} (hp : p.block < a.heap.size) (hF : p.block ∉ F) : b.cell? p = a.cell? p := by
  simp only [World.cell?, h.block _ hp hF]

def DiskS.tick (S : DiskS) : DiskS := { S with calls := S.calls + 1 }

set_option maxRecDepth 100000 in
theorem change_c {w : World} {S : DiskS} (h : DiskAt w S) (hc : S.calls ≤ 70368744177664) {s : ByteArray} {fn : Nat} {cs : Array Value} {R : Int → World → Prop}
    (eg : ∀ args w, (callFunc fn args).run Try.prog w = .ok (.enter fn args) w)
    (hno : ∀ w1, DiskAt w1 S.tick → Off [S.dp] w w1 → validB s = false → R 2 w1)
    (hnf : ∀ w1, DiskAt w1 S.tick → Off [S.dp] w w1 → validB s = true → lookF S.files s.data.toList = none → R 10 w1)
    (hyes : ∀ w1 f, DiskAt w1 S.tick → Off [S.dp] w w1 → validB s = true → lookF S.files s.data.toList = some f →
      Calls Try.prog fn (#[.pointer (some ⟨f.blk, 0, none⟩), callV S.plan (S.calls + 1)] ++ cs) w1 (ErrR R)) :
    Calls Try.prog 30 #[.pointer (some ⟨S.dp, 0, none⟩), .string s, .func (.func fn) #[] cs] w (ErrR R) := by
  have hmf : ∀ (fn : Fn) (first cap : Array Value) (w : World), (Instr.makeFunc fn first cap).run Try.prog w = .ok (.func fn first cap) w := fun _ _ _ _ => rfl
  obtain ⟨w3, hw3⟩ : ∃ w3, w3 = ((w.alloc (.cells #[.pointer (some ⟨S.dp, 0, none⟩)] 24)).alloc (.cells #[.string s] 9)).alloc (.cells #[.func (.func fn) #[] cs] 62) := ⟨_, rfl⟩
  have hdp : S.dp < w.heap.size := h.there _ (by simp [foot])
  have h3 : DiskAt w3 S := by rw [hw3]; exact ((h.alloc _).alloc _).alloc _
  have o3 : Off [S.dp] w w3 := by rw [hw3]; exact (((Off.refl _ _).alloc _).alloc _).alloc _
  have hs3 : w3.heap.size = w.heap.size + 3 := by rw [hw3]; simp
  have b0 : w3.cell? ⟨w.heap.size, 0, none⟩ = some (.pointer (some ⟨S.dp, 0, none⟩)) := by rw [hw3, World.cell?_alloc_past _ _ _ (by simp; omega), World.cell?_alloc_past _ _ _ (by simp), World.cell?_alloc_at _ _ _ _ rfl]; rfl
  have b1 : w3.cell? ⟨w.heap.size + 1, 0, none⟩ = some (.string s) := by rw [hw3, World.cell?_alloc_past _ _ _ (by simp), World.cell?_alloc_at _ _ _ _ (by simp)]; rfl
  have b2 : w3.cell? ⟨w.heap.size + 2, 0, none⟩ = some (.func (.func fn) #[] cs) := by rw [hw3, World.cell?_alloc_at _ _ _ _ (by simp)]; rfl
  have key : ∀ w1, DiskAt w1 S.tick → Off [S.dp] w3 w1 → Calls Try.prog 43 (#[callV S.plan (S.calls + 1)] ++ #[.pointer (some ⟨w.heap.size, 0, none⟩), .pointer (some ⟨w.heap.size + 1, 0, none⟩), .pointer (some ⟨w.heap.size + 2, 0, none⟩)]) w1 (ErrR R) := by
    intro w1 h1 o1
    have ow1 : Off [S.dp] w w1 := o3.trans o1 (fun _ hk => .inl hk)
    have c0 : w1.cell? ⟨w.heap.size, 0, none⟩ = some (.pointer (some ⟨S.dp, 0, none⟩)) := (o1.cell (show _ < w3.heap.size by simp only []; omega) (by simp only [List.mem_singleton]; omega)).trans b0
    have c1 : w1.cell? ⟨w.heap.size + 1, 0, none⟩ = some (.string s) := (o1.cell (show _ < w3.heap.size by simp only []; omega) (by simp only [List.mem_singleton]; omega)).trans b1
    have c2 : w1.cell? ⟨w.heap.size + 2, 0, none⟩ = some (.func (.func fn) #[] cs) := (o1.cell (show _ < w3.heap.size by simp only []; omega) (by simp only [List.mem_singleton]; omega)).trans b2
    have hs1 := o1.size
    have l0 : w.heap.size < w1.heap.size := by omega
    have l1 : w.heap.size + 1 < w1.heap.size := by omega
    have l2 : w.heap.size + 2 < w1.heap.size := by omega
    show Calls Try.prog 43 #[.agg #[.bool (failsAt S.plan (S.calls + 1)), .int .i64 (partOf S.plan (S.calls + 1))], .pointer (some ⟨w.heap.size, 0, none⟩), .pointer (some ⟨w.heap.size + 1, 0, none⟩), .pointer (some ⟨w.heap.size + 2, 0, none⟩)] w1 (ErrR R)
    obtain ⟨w2, hw2⟩ : ∃ w2, w2 = w1.alloc (.cells #[.bool (failsAt S.plan (S.calls + 1)), .int .i64 (partOf S.plan (S.calls + 1))] 57) := ⟨_, rfl⟩
    have h2 : DiskAt w2 S.tick := by rw [hw2]; exact h1.alloc _
    have ow2 : Off [S.dp] w w2 := by rw [hw2]; exact ow1.alloc _
    have d2 : w2.cell? ⟨w.heap.size + 2, 0, none⟩ = some (.func (.func fn) #[] cs) := by rw [hw2, World.cell?_alloc_past _ _ _ l2]; exact c2
    have e0 : w2.cell? ⟨w1.heap.size, 0, none⟩ = some (.bool (failsAt S.plan (S.calls + 1))) := by rw [hw2, World.cell?_alloc_at _ _ _ _ rfl]; rfl
    have e1 : w2.cell? ⟨w1.heap.size, 1, none⟩ = some (.int .i64 (partOf S.plan (S.calls + 1))) := by rw [hw2, World.cell?_alloc_at _ _ _ _ rfl]; rfl
    have HYE := Lib.hid fun f hv hl => hyes w2 f h2 ow2 hv hl
    have W := Lib.hid (with_c (R := R) h2 (s := s) (fn := 44) (cs := #[.pointer (some ⟨w.heap.size + 2, 0, none⟩), .pointer (some ⟨w1.heap.size, 0, none⟩)])
      (enters_of Try.func44 (by kernel_rfl) rfl) (fun hv => hno w2 h2 ow2 hv) (fun hv hl => hnf w2 h2 ow2 hv hl) (fun f hv hl => by
        have r := HYE.out f hv hl
        show Calls Try.prog 44 #[.pointer (some ⟨f.blk, 0, none⟩), .pointer (some ⟨w.heap.size + 2, 0, none⟩), .pointer (some ⟨w1.heap.size, 0, none⟩)] w2 (ErrR R)
        have R1 := Lib.hid r
        clear r HYE h3 o3 b0 b1 b2 h1 o1 ow1 c0 c1 c2 h2 ow2 hnf hno hyes h hw2 hw3
        go_enter Try.func44, Try.ntmps44
        go_wp2_with fail
        refine R1.out.mono ?_
        rintro e w4 ⟨i, rfl, hR⟩
        go_wp2
        go_ret
        exact ⟨i, rfl, hR⟩))
    clear HYE h3 o3 b0 b1 b2 h1 o1 ow1 h2 ow2 hnf hno hyes h d2 e0 e1 hw3
    subst hw2
    go_enter Try.func43, Try.ntmps43
    go_wp2_with fail
    refine W.out.mono ?_
    rintro e w4 ⟨i, rfl, hR⟩
    go_wp2
    go_ret
    exact ⟨i, rfl, hR⟩
  have C := Lib.hid (count_c (R := R) h3 hc (fn := 43) (enters_of Try.func43 (by kernel_rfl) rfl) key)
  clear key b0 b1 b2 h3 o3 hyes hno hnf h
  subst hw3
  go_enter Try.func30, Try.ntmps30
  go_wp2_with fail
  refine C.out.mono ?_
  rintro e w4 ⟨i, rfl, hR⟩
  go_wp2
  go_ret
  exact ⟨i, rfl, hR⟩
end Go.Proofs.Ytkabgebfbbkioab
