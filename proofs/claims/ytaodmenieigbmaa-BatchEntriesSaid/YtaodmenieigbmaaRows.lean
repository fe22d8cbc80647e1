/-
  No cell of these rows narrows 'for every input' (looked for: loops, veiled, ifaces, maps, wideKeys, modest, calm, conditions, laid).
  DERIVED. THE GIVEN ROWS OF THIS SEAT. 5 by the template 'for every input the law returns true; each argument reads behind the call as it read before'; 0 by the template 'total and deterministic' (their statements: YtaodmenieigbmaaTotals.lean).
  GIVEN WITH THE SEED: the statements are not yours to turn. If you find one false, say at which input.
  Laid BY PROGRAM, IN A SANDBOX (cutbox-rows.mjs): the forced cells as the released guide's own fill.sh prints them over the translation 141b0264c29b362a… (all of the seat's roots in one cut). By AI agents, Wed Nov 11 2026. No macro, syntax, notation, axiom, sorry.
-/
import Derived.Test.YtaodmenieigbmaaChecked
import GoSem.Claim
import GoSem.ClaimJoined
import GoSem.ClaimMapViews
import Derived.JoinedTies
import Derived.KernelRfl
namespace Go.Proofs.Ytaodmenieigbmaa
/- THE CELL 'sum', in the pinned program and in every row, IS THE sha256 OF THE DUMP (.gsa) THAT YtaodmenieigbmaaProg.lean LOADS. Nothing in Lean hashes anything: it is a label: what it is worth is what the hold of that sum in a sandbox is worth. -/
noncomputable def Try.pinned : Pinned := { name := "ytaodmenieigbmaa", sum := "141b0264c29b362a549c95bcdc8eb5ff195c0b4d321cd00820a7f981880846a6", checked := Try.checked }
namespace Rows
def none {H : Type} : Left H := { results := [], args := [] }

/-- 'ratlinelaw04.BatchTells': WHATEVER THE INPUT: true; the input reads as it did. -/
def batchTellsSpec : ChangeSpec := { name := "batchTells", fn := fun _ => fun
  | [d1, d2, d3] => { results := [.lit (.bool true)], args := [d1, d2, d3] }
  | _ => none }
def batchTellsRow : OpenClaim := { program := "ytaodmenieigbmaa", sum := "141b0264c29b362a549c95bcdc8eb5ff195c0b4d321cd00820a7f981880846a6", func := "ratline/ratlinelaw04.BatchTells", spec := "batchTells", unfollowed := true, recurses := true, apart := false }
def BatchTellsSaid : Prop := batchTellsRow.holds Try.pinned (OpenSpec.ofChange batchTellsSpec)

/-- ITS FALSE NEIGHBOUR: 'it returns false'. Refute it at one input. -/
def batchTellsWrong : ChangeSpec := { name := "batchTells", fn := fun _ => fun
  | [d1, d2, d3] => { results := [.lit (.bool false)], args := [d1, d2, d3] }
  | _ => none }
def BatchTellsWrongFalsely : Prop := batchTellsRow.holds Try.pinned (OpenSpec.ofChange batchTellsWrong)

/-- 'ratlinelaw04.BatchBack': WHATEVER THE INPUT: true; the input reads as it did. -/
def batchBackSpec : ChangeSpec := { name := "batchBack", fn := fun _ => fun
  | [d1, d2, d3] => { results := [.lit (.bool true)], args := [d1, d2, d3] }
  | _ => none }
def batchBackRow : OpenClaim := { program := "ytaodmenieigbmaa", sum := "141b0264c29b362a549c95bcdc8eb5ff195c0b4d321cd00820a7f981880846a6", func := "ratline/ratlinelaw04.BatchBack", spec := "batchBack", unfollowed := true, recurses := true, apart := false }
def BatchBackSaid : Prop := batchBackRow.holds Try.pinned (OpenSpec.ofChange batchBackSpec)

/-- ITS FALSE NEIGHBOUR: 'it returns false'. Refute it at one input. -/
def batchBackWrong : ChangeSpec := { name := "batchBack", fn := fun _ => fun
  | [d1, d2, d3] => { results := [.lit (.bool false)], args := [d1, d2, d3] }
  | _ => none }
def BatchBackWrongFalsely : Prop := batchBackRow.holds Try.pinned (OpenSpec.ofChange batchBackWrong)

/-- 'ratlinelaw04.BatchEntries': WHATEVER THE INPUT: true; the input reads as it did. -/
def batchEntriesSpec : ChangeSpec := { name := "batchEntries", fn := fun _ => fun
  | [d1, d2, d3] => { results := [.lit (.bool true)], args := [d1, d2, d3] }
  | _ => none }
def batchEntriesRow : OpenClaim := { program := "ytaodmenieigbmaa", sum := "141b0264c29b362a549c95bcdc8eb5ff195c0b4d321cd00820a7f981880846a6", func := "ratline/ratlinelaw04.BatchEntries", spec := "batchEntries", unfollowed := true, recurses := true, apart := false }
def BatchEntriesSaid : Prop := batchEntriesRow.holds Try.pinned (OpenSpec.ofChange batchEntriesSpec)

/-- ITS FALSE NEIGHBOUR: 'it returns false'. Refute it at one input. -/
def batchEntriesWrong : ChangeSpec := { name := "batchEntries", fn := fun _ => fun
  | [d1, d2, d3] => { results := [.lit (.bool false)], args := [d1, d2, d3] }
  | _ => none }
def BatchEntriesWrongFalsely : Prop := batchEntriesRow.holds Try.pinned (OpenSpec.ofChange batchEntriesWrong)

/-- 'ratlinelaw04.BatchCut': WHATEVER THE INPUT: true; the input reads as it did. -/
def batchCutSpec : ChangeSpec := { name := "batchCut", fn := fun _ => fun
  | [d1, d2, d3, d4] => { results := [.lit (.bool true)], args := [d1, d2, d3, d4] }
  | _ => none }
def batchCutRow : OpenClaim := { program := "ytaodmenieigbmaa", sum := "141b0264c29b362a549c95bcdc8eb5ff195c0b4d321cd00820a7f981880846a6", func := "ratline/ratlinelaw04.BatchCut", spec := "batchCut", unfollowed := true, recurses := true, apart := false }
def BatchCutSaid : Prop := batchCutRow.holds Try.pinned (OpenSpec.ofChange batchCutSpec)

/-- ITS FALSE NEIGHBOUR: 'it returns false'. Refute it at one input. -/
def batchCutWrong : ChangeSpec := { name := "batchCut", fn := fun _ => fun
  | [d1, d2, d3, d4] => { results := [.lit (.bool false)], args := [d1, d2, d3, d4] }
  | _ => none }
def BatchCutWrongFalsely : Prop := batchCutRow.holds Try.pinned (OpenSpec.ofChange batchCutWrong)

/-- 'ratlinelaw04.BatchRight': WHATEVER THE INPUT: true; the input reads as it did. -/
def batchRightSpec : ChangeSpec := { name := "batchRight", fn := fun _ => fun
  | [d1, d2, d3] => { results := [.lit (.bool true)], args := [d1, d2, d3] }
  | _ => none }
def batchRightRow : OpenClaim := { program := "ytaodmenieigbmaa", sum := "141b0264c29b362a549c95bcdc8eb5ff195c0b4d321cd00820a7f981880846a6", func := "ratline/ratlinelaw04.BatchRight", spec := "batchRight", unfollowed := true, recurses := true, apart := false }
def BatchRightSaid : Prop := batchRightRow.holds Try.pinned (OpenSpec.ofChange batchRightSpec)

/-- ITS FALSE NEIGHBOUR: 'it returns false'. Refute it at one input. -/
def batchRightWrong : ChangeSpec := { name := "batchRight", fn := fun _ => fun
  | [d1, d2, d3] => { results := [.lit (.bool false)], args := [d1, d2, d3] }
  | _ => none }
def BatchRightWrongFalsely : Prop := batchRightRow.holds Try.pinned (OpenSpec.ofChange batchRightWrong)

/- THE SECOND FORM. 'bulk': how many values and letters a reading holds, each counted each time it is reached (what is shared counts as often as it is met; a slice's spare places count too). A statement '..UptoSaid' is the law's where the arguments, and the package variables that the reading takes, are together of bulk at most 1048576: NARROWER than '..Said'. Prove '..Said' where nothing that the law and all that it calls make is longer than what came in: it says more and counts as full. Else prove '..UptoSaid'. A law counts once. -/
mutual
def uptoBulk {H : Type} : DataW H → Nat
  | .lit (.string bytes) => bytes.length + 1
  | .lit _ => 1
  | .nil => 1
  | .ptr d => uptoBulk d + 1
  | .slice elems spare => uptoBulkAll elems + uptoBulkAll spare + 1
  | .agg parts => uptoBulkAll parts + 1
  | .iface _ d => uptoBulk d + 1
  | .map entries => uptoBulkEntries entries + 1
  | .held _ => 1
def uptoBulkAll {H : Type} : List (DataW H) → Nat
  | [] => 0
  | d :: r => uptoBulk d + uptoBulkAll r
def uptoBulkEntries {H : Type} : List (Lit × DataW H) → Nat
  | [] => 0
  | x :: r => uptoBulkEntry x + uptoBulkEntries r
def uptoBulkEntry {H : Type} : Lit × DataW H → Nat
  | (.string bytes, d) => bytes.length + uptoBulk d + 1
  | (_, d) => uptoBulk d + 1
 end
def uptoSmall : (H : Type) → List (DataW H) → Bool := fun _ ds => decide (uptoBulkAll ds ≤ 1048576)
def OpenSpec.upto (s : _root_.Go.ChangeSpec) : _root_.Go.OpenSpec := { _root_.Go.OpenSpec.ofChange s with cond := some uptoSmall }

/-- 'ratlinelaw04.BatchTells', WHERE WHAT IT READS IS OF BULK AT MOST 1048576: true; the input reads as it did. -/
def batchTellsUptoRow : OpenClaim := { program := "ytaodmenieigbmaa", sum := "141b0264c29b362a549c95bcdc8eb5ff195c0b4d321cd00820a7f981880846a6", func := "ratline/ratlinelaw04.BatchTells", spec := "batchTells", unfollowed := true, recurses := true, apart := false, narrowed := true }
def BatchTellsUptoSaid : Prop := batchTellsUptoRow.holds Try.pinned (OpenSpec.upto batchTellsSpec)

/-- 'ratlinelaw04.BatchBack', WHERE WHAT IT READS IS OF BULK AT MOST 1048576: true; the input reads as it did. -/
def batchBackUptoRow : OpenClaim := { program := "ytaodmenieigbmaa", sum := "141b0264c29b362a549c95bcdc8eb5ff195c0b4d321cd00820a7f981880846a6", func := "ratline/ratlinelaw04.BatchBack", spec := "batchBack", unfollowed := true, recurses := true, apart := false, narrowed := true }
def BatchBackUptoSaid : Prop := batchBackUptoRow.holds Try.pinned (OpenSpec.upto batchBackSpec)

/-- 'ratlinelaw04.BatchEntries', WHERE WHAT IT READS IS OF BULK AT MOST 1048576: true; the input reads as it did. -/
def batchEntriesUptoRow : OpenClaim := { program := "ytaodmenieigbmaa", sum := "141b0264c29b362a549c95bcdc8eb5ff195c0b4d321cd00820a7f981880846a6", func := "ratline/ratlinelaw04.BatchEntries", spec := "batchEntries", unfollowed := true, recurses := true, apart := false, narrowed := true }
def BatchEntriesUptoSaid : Prop := batchEntriesUptoRow.holds Try.pinned (OpenSpec.upto batchEntriesSpec)

/-- 'ratlinelaw04.BatchCut', WHERE WHAT IT READS IS OF BULK AT MOST 1048576: true; the input reads as it did. -/
def batchCutUptoRow : OpenClaim := { program := "ytaodmenieigbmaa", sum := "141b0264c29b362a549c95bcdc8eb5ff195c0b4d321cd00820a7f981880846a6", func := "ratline/ratlinelaw04.BatchCut", spec := "batchCut", unfollowed := true, recurses := true, apart := false, narrowed := true }
def BatchCutUptoSaid : Prop := batchCutUptoRow.holds Try.pinned (OpenSpec.upto batchCutSpec)

/-- 'ratlinelaw04.BatchRight', WHERE WHAT IT READS IS OF BULK AT MOST 1048576: true; the input reads as it did. -/
def batchRightUptoRow : OpenClaim := { program := "ytaodmenieigbmaa", sum := "141b0264c29b362a549c95bcdc8eb5ff195c0b4d321cd00820a7f981880846a6", func := "ratline/ratlinelaw04.BatchRight", spec := "batchRight", unfollowed := true, recurses := true, apart := false, narrowed := true }
def BatchRightUptoSaid : Prop := batchRightUptoRow.holds Try.pinned (OpenSpec.upto batchRightSpec)

end Rows
end Go.Proofs.Ytaodmenieigbmaa
