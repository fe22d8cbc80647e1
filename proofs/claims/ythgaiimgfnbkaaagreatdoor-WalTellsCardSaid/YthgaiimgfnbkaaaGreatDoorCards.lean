/-
  DERIVED. GIVEN WITH THE SEED: THE CARDS: each row of YthgaiimgfnbkaaaGreatDoorRows.lean that lists a variable, with what it lists TIED to the program's text (the seventh form; the later family's looks); each row that meets fmt, with fmt's text TOLD by the authors' own Lean function (tested against real Go, not proved from fmt's source: count such statements apart). THE CARD IS WHAT COUNTS. Prove the row's statement (the work); the ties are given (YthgaiimgfnbkaaaGreatDoorTie.lean); close each card by the builder's one call (the guide's Derived/Test/ToyasCard.lean, 'card_holds'). Laid BY PROGRAM, IN A SANDBOX (cutbox-door.mjs). By AI agents, Wed Nov 11 2026. No macro, syntax, notation, axiom, sorry.
-/
import Derived.Test.YthgaiimgfnbkaaaGreatDoorRows
import GoSem.ClaimSeven
namespace Go.Proofs.YthgaiimgfnbkaaaGreatDoor
namespace Rows

/-- THE TIED CARD OF 'ratlinelaw06.WalTells'. -/
def walTellsCard : Claim7 := { stood := { row := walTellsRow, standIns := [], harness := (true, "a3b45028bbf895ba6f0dce5a8161b84ade469abdd959315e5798088994f2af0c"), looks := true }, kinds := [], alts := [], laidByText := true, laidKinds := [.data, .data, .data, .sentinel, .sentinel], laidTests := true, laidLooks := .later }
def WalTellsCardSaid : Prop := Claim7.holds Tryz.pinned (.plain (OpenSpec.ofChange walTellsSpec)) walTellsCard

/-- THE SECOND FORM's CARD OF 'ratlinelaw06.WalTells'. -/
def walTellsUptoCard : Claim7 := { stood := { row := walTellsUptoRow, standIns := [], harness := (true, "a3b45028bbf895ba6f0dce5a8161b84ade469abdd959315e5798088994f2af0c"), looks := true }, kinds := [], alts := [], laidByText := true, laidKinds := [.data, .data, .data, .sentinel, .sentinel], laidTests := true, laidLooks := .later }
def WalTellsUptoCardSaid : Prop := Claim7.holds Tryz.pinned (.plain (OpenSpec.upto walTellsSpec)) walTellsUptoCard
end Rows
end Go.Proofs.YthgaiimgfnbkaaaGreatDoor
