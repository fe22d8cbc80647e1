/-
  The form of a group: the contract of the reference's Bytes.
-/
import Derived.Test.YthgaiimgfnbkaaaDoorBtP
namespace Go.Proofs.YthgaiimgfnbkaaaDoor
set_option maxRecDepth 100000
open Go.RowKit Go.Shelf

theorem Fr.drew {w : World} {b : Nat} {e : TypeId} {A : Option Addr} {n c : Nat} {xs : List Value} (h : Fr w b e A n c xs) : Fr w.drew b e A n c xs := ⟨h.own⟩
/-- An append at a step of a region that draws its order. -/
theorem step_app {ops : Array Oper} {o : Oper} {a : Act} {K : Act → World → Prop} {Q : Exit → Act → World → Prop} {E : Prop} {w : World} (hgd : o.guard = none) (s x : Operand)
    (ho : o.op = .call { callee := .builtin .append, args := #[s, x], argTypes := #[31, 31] })
    {b : Nat} {A : Option Addr} {n c : Nat} {xs : List Value} (h : Fr w b 5 A n c xs) (hs : a.eval s = .slice A n c)
    {B m c2 : Nat} {A2 : Option Addr} {news : List Value} (hr : Rd w B A2 m c2 news) (hx : a.eval x = .slice A2 m c2) (h1 : ∀ u ∈ news, u.oneCell' = true) (h63 : n + m ≤ 140737488355328) (hb : b ≤ w.heap.size)
    (hk : ∀ A' c' w', App w w' b 5 (.slice A n c) A' (n + m) c' (xs ++ news) → K (a.put o.dst (.slice A' (n + m) c')) w') :
    if Region.wanted o (yielded ops a.tmps) = true then Oper.wp Tryd.prog o a w K Q else E := by
  have hw : Region.wanted o (yielded ops a.tmps) = true := by simp [Region.wanted, hgd]
  rw [if_pos hw]
  obtain ⟨A', c', w', hrun, h2⟩ := run_app (P := Tryd.prog) w 31 o.type 5 Tryd.underlying31 info_u8 rfl h hr h1 (by omega) h63 hb
  unfold Oper.wp execOp
  simp only [ho, resolve, invoke, builtin, Sem.run_bind, Sem.run_pure, Result.andThen_ok, List.map_toArray, List.map_cons, List.map_nil, hs, hx, hrun]
  exact hk A' c' w' h2

end Go.Proofs.YthgaiimgfnbkaaaDoor
