/-
  No cell of these rows narrows 'for every input' (looked for: loops, veiled, ifaces, maps, wideKeys, modest, calm, conditions, laid).
  DERIVED. THE GIVEN ROWS OF THIS SEAT. 6 by the template 'for every input the law returns true; each argument reads behind the call as it read before'; 0 by the template 'total and deterministic' (their statements: YtobfdhnaejfehaaTotals.lean).
  GIVEN WITH THE SEED: the statements are not yours to turn. If you find one false, say at which input.
  Laid BY PROGRAM, IN A SANDBOX (cutbox-rows.mjs): the forced cells as the released guide's own fill.sh prints them over the translation 455c248d60375625… (all of the seat's roots in one cut). By AI agents, Wed Nov 11 2026. No macro, syntax, notation, axiom, sorry.
-/
import Derived.Test.YtobfdhnaejfehaaChecked
import GoSem.Claim
import GoSem.ClaimJoined
import GoSem.ClaimMapViews
import Derived.JoinedTies
import Derived.KernelRfl
namespace Go.Proofs.Ytobfdhnaejfehaa
/- THE CELL 'sum', in the pinned program and in every row, IS THE sha256 OF THE DUMP (.gsa) THAT YtobfdhnaejfehaaProg.lean LOADS. Nothing in Lean hashes anything: it is a label: what it is worth is what the hold of that sum in a sandbox is worth. -/
noncomputable def Try.pinned : Pinned := { name := "ytobfdhnaejfehaa", sum := "455c248d60375625556c6c888c55e8a0ec55e4dd22921d92fd0f4b92b14a05e2", checked := Try.checked }
namespace Rows
def none {H : Type} : Left H := { results := [], args := [] }

/-- 'ratlinelaw03.IkeyTells': WHATEVER THE INPUT: true; the input reads as it did. -/
def ikeyTellsSpec : ChangeSpec := { name := "ikeyTells", fn := fun _ => fun
  | [d1, d2, d3, d4, d5] => { results := [.lit (.bool true)], args := [d1, d2, d3, d4, d5] }
  | _ => none }
def ikeyTellsRow : OpenClaim := { program := "ytobfdhnaejfehaa", sum := "455c248d60375625556c6c888c55e8a0ec55e4dd22921d92fd0f4b92b14a05e2", func := "ratline/ratlinelaw03.IkeyTells", spec := "ikeyTells", inPlace := ["internal/bytealg.abigen_runtime_cmpstring"], unfollowed := true, recurses := true, apart := false }
def IkeyTellsSaid : Prop := ikeyTellsRow.holds Try.pinned (OpenSpec.ofChange ikeyTellsSpec)

/-- ITS FALSE NEIGHBOUR: 'it returns false'. Refute it at one input. -/
def ikeyTellsWrong : ChangeSpec := { name := "ikeyTells", fn := fun _ => fun
  | [d1, d2, d3, d4, d5] => { results := [.lit (.bool false)], args := [d1, d2, d3, d4, d5] }
  | _ => none }
def IkeyTellsWrongFalsely : Prop := ikeyTellsRow.holds Try.pinned (OpenSpec.ofChange ikeyTellsWrong)

/-- 'ratlinelaw03.IkeyOrder': WHATEVER THE INPUT: true; the input reads as it did. -/
def ikeyOrderSpec : ChangeSpec := { name := "ikeyOrder", fn := fun _ => fun
  | [d1, d2, d3] => { results := [.lit (.bool true)], args := [d1, d2, d3] }
  | _ => none }
def ikeyOrderRow : OpenClaim := { program := "ytobfdhnaejfehaa", sum := "455c248d60375625556c6c888c55e8a0ec55e4dd22921d92fd0f4b92b14a05e2", func := "ratline/ratlinelaw03.IkeyOrder", spec := "ikeyOrder", inPlace := ["internal/bytealg.abigen_runtime_cmpstring"], unfollowed := true, recurses := true, apart := false }
def IkeyOrderSaid : Prop := ikeyOrderRow.holds Try.pinned (OpenSpec.ofChange ikeyOrderSpec)

/-- ITS FALSE NEIGHBOUR: 'it returns false'. Refute it at one input. -/
def ikeyOrderWrong : ChangeSpec := { name := "ikeyOrder", fn := fun _ => fun
  | [d1, d2, d3] => { results := [.lit (.bool false)], args := [d1, d2, d3] }
  | _ => none }
def IkeyOrderWrongFalsely : Prop := ikeyOrderRow.holds Try.pinned (OpenSpec.ofChange ikeyOrderWrong)

/-- 'ratlinelaw03.IkeySought': WHATEVER THE INPUT: true; the input reads as it did. -/
def ikeySoughtSpec : ChangeSpec := { name := "ikeySought", fn := fun _ => fun
  | [d1, d2, d3] => { results := [.lit (.bool true)], args := [d1, d2, d3] }
  | _ => none }
def ikeySoughtRow : OpenClaim := { program := "ytobfdhnaejfehaa", sum := "455c248d60375625556c6c888c55e8a0ec55e4dd22921d92fd0f4b92b14a05e2", func := "ratline/ratlinelaw03.IkeySought", spec := "ikeySought", inPlace := ["internal/bytealg.abigen_runtime_cmpstring"], unfollowed := true, recurses := true, apart := false }
def IkeySoughtSaid : Prop := ikeySoughtRow.holds Try.pinned (OpenSpec.ofChange ikeySoughtSpec)

/-- ITS FALSE NEIGHBOUR: 'it returns false'. Refute it at one input. -/
def ikeySoughtWrong : ChangeSpec := { name := "ikeySought", fn := fun _ => fun
  | [d1, d2, d3] => { results := [.lit (.bool false)], args := [d1, d2, d3] }
  | _ => none }
def IkeySoughtWrongFalsely : Prop := ikeySoughtRow.holds Try.pinned (OpenSpec.ofChange ikeySoughtWrong)

/-- 'ratlinelaw03.IkeyBack': WHATEVER THE INPUT: true; the input reads as it did. -/
def ikeyBackSpec : ChangeSpec := { name := "ikeyBack", fn := fun _ => fun
  | [d1, d2, d3] => { results := [.lit (.bool true)], args := [d1, d2, d3] }
  | _ => none }
def ikeyBackRow : OpenClaim := { program := "ytobfdhnaejfehaa", sum := "455c248d60375625556c6c888c55e8a0ec55e4dd22921d92fd0f4b92b14a05e2", func := "ratline/ratlinelaw03.IkeyBack", spec := "ikeyBack", inPlace := ["internal/bytealg.abigen_runtime_cmpstring"], unfollowed := true, recurses := true, apart := false }
def IkeyBackSaid : Prop := ikeyBackRow.holds Try.pinned (OpenSpec.ofChange ikeyBackSpec)

/-- ITS FALSE NEIGHBOUR: 'it returns false'. Refute it at one input. -/
def ikeyBackWrong : ChangeSpec := { name := "ikeyBack", fn := fun _ => fun
  | [d1, d2, d3] => { results := [.lit (.bool false)], args := [d1, d2, d3] }
  | _ => none }
def IkeyBackWrongFalsely : Prop := ikeyBackRow.holds Try.pinned (OpenSpec.ofChange ikeyBackWrong)

/-- 'ratlinelaw03.IkeyRising': WHATEVER THE INPUT: true; the input reads as it did. -/
def ikeyRisingSpec : ChangeSpec := { name := "ikeyRising", fn := fun _ => fun
  | [d1, d2] => { results := [.lit (.bool true)], args := [d1, d2] }
  | _ => none }
def ikeyRisingRow : OpenClaim := { program := "ytobfdhnaejfehaa", sum := "455c248d60375625556c6c888c55e8a0ec55e4dd22921d92fd0f4b92b14a05e2", func := "ratline/ratlinelaw03.IkeyRising", spec := "ikeyRising", inPlace := ["internal/bytealg.abigen_runtime_cmpstring"], unfollowed := true, recurses := true, apart := false }
def IkeyRisingSaid : Prop := ikeyRisingRow.holds Try.pinned (OpenSpec.ofChange ikeyRisingSpec)

/-- ITS FALSE NEIGHBOUR: 'it returns false'. Refute it at one input. -/
def ikeyRisingWrong : ChangeSpec := { name := "ikeyRising", fn := fun _ => fun
  | [d1, d2] => { results := [.lit (.bool false)], args := [d1, d2] }
  | _ => none }
def IkeyRisingWrongFalsely : Prop := ikeyRisingRow.holds Try.pinned (OpenSpec.ofChange ikeyRisingWrong)

/-- 'ratlinelaw03.IkeyRight': WHATEVER THE INPUT: true; the input reads as it did. -/
def ikeyRightSpec : ChangeSpec := { name := "ikeyRight", fn := fun _ => fun
  | [d1, d2, d3] => { results := [.lit (.bool true)], args := [d1, d2, d3] }
  | _ => none }
def ikeyRightRow : OpenClaim := { program := "ytobfdhnaejfehaa", sum := "455c248d60375625556c6c888c55e8a0ec55e4dd22921d92fd0f4b92b14a05e2", func := "ratline/ratlinelaw03.IkeyRight", spec := "ikeyRight", inPlace := ["internal/bytealg.abigen_runtime_cmpstring"], unfollowed := true, recurses := true, apart := false }
def IkeyRightSaid : Prop := ikeyRightRow.holds Try.pinned (OpenSpec.ofChange ikeyRightSpec)

/-- ITS FALSE NEIGHBOUR: 'it returns false'. Refute it at one input. -/
def ikeyRightWrong : ChangeSpec := { name := "ikeyRight", fn := fun _ => fun
  | [d1, d2, d3] => { results := [.lit (.bool false)], args := [d1, d2, d3] }
  | _ => none }
def IkeyRightWrongFalsely : Prop := ikeyRightRow.holds Try.pinned (OpenSpec.ofChange ikeyRightWrong)

/- THE SECOND FORM. 'bulk': how many values and letters a reading holds, each counted each time it is reached (what is shared counts as often as it is met; a slice's spare places count too). A statement '..UptoSaid' is the law's where the arguments, and the package variables that the reading takes, are together of bulk at most 1048576: NARROWER than '..Said'. Prove '..Said' where nothing that the law and all that it calls make is longer than what came in: it says more and counts as full. Else prove '..UptoSaid'. A law counts once. -/
mutual
def uptoBulk {H : Type} : DataW H → Nat
  | .lit (.string bytes) => bytes.length + 1
  | .lit _ => 1
  | .nil => 1
  | .ptr d => uptoBulk d + 1
  | .slice elems spare => uptoBulkAll elems + uptoBulkAll spare + 1
  | .agg parts => uptoBulkAll parts + 1
  | .iface _ d => uptoBulk d + 1
  | .map entries => uptoBulkEntries entries + 1
  | .held _ => 1
def uptoBulkAll {H : Type} : List (DataW H) → Nat
  | [] => 0
  | d :: r => uptoBulk d + uptoBulkAll r
def uptoBulkEntries {H : Type} : List (Lit × DataW H) → Nat
  | [] => 0
  | x :: r => uptoBulkEntry x + uptoBulkEntries r
def uptoBulkEntry {H : Type} : Lit × DataW H → Nat
  | (.string bytes, d) => bytes.length + uptoBulk d + 1
  | (_, d) => uptoBulk d + 1
 end
def uptoSmall : (H : Type) → List (DataW H) → Bool := fun _ ds => decide (uptoBulkAll ds ≤ 1048576)
def OpenSpec.upto (s : _root_.Go.ChangeSpec) : _root_.Go.OpenSpec := { _root_.Go.OpenSpec.ofChange s with cond := some uptoSmall }

/-- 'ratlinelaw03.IkeyTells', WHERE WHAT IT READS IS OF BULK AT MOST 1048576: true; the input reads as it did. -/
def ikeyTellsUptoRow : OpenClaim := { program := "ytobfdhnaejfehaa", sum := "455c248d60375625556c6c888c55e8a0ec55e4dd22921d92fd0f4b92b14a05e2", func := "ratline/ratlinelaw03.IkeyTells", spec := "ikeyTells", inPlace := ["internal/bytealg.abigen_runtime_cmpstring"], unfollowed := true, recurses := true, apart := false, narrowed := true }
def IkeyTellsUptoSaid : Prop := ikeyTellsUptoRow.holds Try.pinned (OpenSpec.upto ikeyTellsSpec)

/-- 'ratlinelaw03.IkeyOrder', WHERE WHAT IT READS IS OF BULK AT MOST 1048576: true; the input reads as it did. -/
def ikeyOrderUptoRow : OpenClaim := { program := "ytobfdhnaejfehaa", sum := "455c248d60375625556c6c888c55e8a0ec55e4dd22921d92fd0f4b92b14a05e2", func := "ratline/ratlinelaw03.IkeyOrder", spec := "ikeyOrder", inPlace := ["internal/bytealg.abigen_runtime_cmpstring"], unfollowed := true, recurses := true, apart := false, narrowed := true }
def IkeyOrderUptoSaid : Prop := ikeyOrderUptoRow.holds Try.pinned (OpenSpec.upto ikeyOrderSpec)

/-- 'ratlinelaw03.IkeySought', WHERE WHAT IT READS IS OF BULK AT MOST 1048576: true; the input reads as it did. -/
def ikeySoughtUptoRow : OpenClaim := { program := "ytobfdhnaejfehaa", sum := "455c248d60375625556c6c888c55e8a0ec55e4dd22921d92fd0f4b92b14a05e2", func := "ratline/ratlinelaw03.IkeySought", spec := "ikeySought", inPlace := ["internal/bytealg.abigen_runtime_cmpstring"], unfollowed := true, recurses := true, apart := false, narrowed := true }
def IkeySoughtUptoSaid : Prop := ikeySoughtUptoRow.holds Try.pinned (OpenSpec.upto ikeySoughtSpec)

/-- 'ratlinelaw03.IkeyBack', WHERE WHAT IT READS IS OF BULK AT MOST 1048576: true; the input reads as it did. -/
def ikeyBackUptoRow : OpenClaim := { program := "ytobfdhnaejfehaa", sum := "455c248d60375625556c6c888c55e8a0ec55e4dd22921d92fd0f4b92b14a05e2", func := "ratline/ratlinelaw03.IkeyBack", spec := "ikeyBack", inPlace := ["internal/bytealg.abigen_runtime_cmpstring"], unfollowed := true, recurses := true, apart := false, narrowed := true }
def IkeyBackUptoSaid : Prop := ikeyBackUptoRow.holds Try.pinned (OpenSpec.upto ikeyBackSpec)

/-- 'ratlinelaw03.IkeyRising', WHERE WHAT IT READS IS OF BULK AT MOST 1048576: true; the input reads as it did. -/
def ikeyRisingUptoRow : OpenClaim := { program := "ytobfdhnaejfehaa", sum := "455c248d60375625556c6c888c55e8a0ec55e4dd22921d92fd0f4b92b14a05e2", func := "ratline/ratlinelaw03.IkeyRising", spec := "ikeyRising", inPlace := ["internal/bytealg.abigen_runtime_cmpstring"], unfollowed := true, recurses := true, apart := false, narrowed := true }
def IkeyRisingUptoSaid : Prop := ikeyRisingUptoRow.holds Try.pinned (OpenSpec.upto ikeyRisingSpec)

/-- 'ratlinelaw03.IkeyRight', WHERE WHAT IT READS IS OF BULK AT MOST 1048576: true; the input reads as it did. -/
def ikeyRightUptoRow : OpenClaim := { program := "ytobfdhnaejfehaa", sum := "455c248d60375625556c6c888c55e8a0ec55e4dd22921d92fd0f4b92b14a05e2", func := "ratline/ratlinelaw03.IkeyRight", spec := "ikeyRight", inPlace := ["internal/bytealg.abigen_runtime_cmpstring"], unfollowed := true, recurses := true, apart := false, narrowed := true }
def IkeyRightUptoSaid : Prop := ikeyRightUptoRow.holds Try.pinned (OpenSpec.upto ikeyRightSpec)

end Rows
end Go.Proofs.Ytobfdhnaejfehaa
