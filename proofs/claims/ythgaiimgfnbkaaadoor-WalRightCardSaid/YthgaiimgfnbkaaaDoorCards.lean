/-
  DERIVED. GIVEN WITH THE SEED: THE CARDS: each row of YthgaiimgfnbkaaaDoorRows.lean that lists a variable, with what it lists TIED to the program's text (the seventh form; the later family's looks); each row that meets fmt, with fmt's text TOLD by the authors' own Lean function (tested against real Go, not proved from fmt's source: count such statements apart). THE CARD IS WHAT COUNTS. Prove the row's statement (the work); the ties are given (YthgaiimgfnbkaaaDoorTie.lean); close each card by the builder's one call (the guide's Derived/Test/ToyasCard.lean, 'card_holds'). Laid BY PROGRAM, IN A SANDBOX (cutbox-door.mjs). By AI agents, Wed Nov 11 2026. No macro, syntax, notation, axiom, sorry.
-/
import Derived.Test.YthgaiimgfnbkaaaDoorRows
import GoSem.ClaimSeven
namespace Go.Proofs.YthgaiimgfnbkaaaDoor
namespace Rows

/-- THE TIED CARD OF 'ratlinelaw06.WalFront'. -/
def walFrontCard : Claim7 := { stood := { row := walFrontRow, standIns := [], harness := (true, "30267572261aea5da2b4da843a8d2876ed72944340fbaa719abeed8e2f781218"), looks := true }, kinds := [], alts := [], laidByText := true, laidKinds := [.data, .data, .data, .sentinel, .sentinel], laidTests := true, laidLooks := .later }
def WalFrontCardSaid : Prop := Claim7.holds Tryd.pinned (.plain (OpenSpec.ofChange walFrontSpec)) walFrontCard

/-- THE TIED CARD OF 'ratlinelaw06.WalDamage'. -/
def walDamageCard : Claim7 := { stood := { row := walDamageRow, standIns := [], harness := (true, "30267572261aea5da2b4da843a8d2876ed72944340fbaa719abeed8e2f781218"), looks := true }, kinds := [], alts := [], laidByText := true, laidKinds := [.data, .data, .data, .sentinel, .sentinel], laidTests := true, laidLooks := .later }
def WalDamageCardSaid : Prop := Claim7.holds Tryd.pinned (.plain (OpenSpec.ofChange walDamageSpec)) walDamageCard

/-- THE TIED CARD OF 'ratlinelaw06.WalNames'. -/
def walNamesCard : Claim7 := { stood := { row := walNamesRow, standIns := [], harness := (true, "30267572261aea5da2b4da843a8d2876ed72944340fbaa719abeed8e2f781218"), looks := true }, kinds := [], alts := [], laidByText := true, laidKinds := [.data, .data, .data, .sentinel, .sentinel], laidTests := true, laidLooks := .later }
def WalNamesCardSaid : Prop := Claim7.holds Tryd.pinned (.plain (OpenSpec.ofChange walNamesSpec)) walNamesCard

/-- THE TIED CARD OF 'ratlinelaw06.WalRight'. -/
def walRightCard : Claim7 := { stood := { row := walRightRow, standIns := [], harness := (true, "30267572261aea5da2b4da843a8d2876ed72944340fbaa719abeed8e2f781218"), looks := true }, kinds := [], alts := [], laidByText := true, laidKinds := [.data, .data, .data, .sentinel, .sentinel], laidTests := true, laidLooks := .later }
def WalRightCardSaid : Prop := Claim7.holds Tryd.pinned (.plain (OpenSpec.ofChange walRightSpec)) walRightCard

/-- THE SECOND FORM's CARD OF 'ratlinelaw06.WalFront'. -/
def walFrontUptoCard : Claim7 := { stood := { row := walFrontUptoRow, standIns := [], harness := (true, "30267572261aea5da2b4da843a8d2876ed72944340fbaa719abeed8e2f781218"), looks := true }, kinds := [], alts := [], laidByText := true, laidKinds := [.data, .data, .data, .sentinel, .sentinel], laidTests := true, laidLooks := .later }
def WalFrontUptoCardSaid : Prop := Claim7.holds Tryd.pinned (.plain (OpenSpec.upto walFrontSpec)) walFrontUptoCard

/-- THE SECOND FORM's CARD OF 'ratlinelaw06.WalDamage'. -/
def walDamageUptoCard : Claim7 := { stood := { row := walDamageUptoRow, standIns := [], harness := (true, "30267572261aea5da2b4da843a8d2876ed72944340fbaa719abeed8e2f781218"), looks := true }, kinds := [], alts := [], laidByText := true, laidKinds := [.data, .data, .data, .sentinel, .sentinel], laidTests := true, laidLooks := .later }
def WalDamageUptoCardSaid : Prop := Claim7.holds Tryd.pinned (.plain (OpenSpec.upto walDamageSpec)) walDamageUptoCard

/-- THE SECOND FORM's CARD OF 'ratlinelaw06.WalNames'. -/
def walNamesUptoCard : Claim7 := { stood := { row := walNamesUptoRow, standIns := [], harness := (true, "30267572261aea5da2b4da843a8d2876ed72944340fbaa719abeed8e2f781218"), looks := true }, kinds := [], alts := [], laidByText := true, laidKinds := [.data, .data, .data, .sentinel, .sentinel], laidTests := true, laidLooks := .later }
def WalNamesUptoCardSaid : Prop := Claim7.holds Tryd.pinned (.plain (OpenSpec.upto walNamesSpec)) walNamesUptoCard

/-- THE SECOND FORM's CARD OF 'ratlinelaw06.WalRight'. -/
def walRightUptoCard : Claim7 := { stood := { row := walRightUptoRow, standIns := [], harness := (true, "30267572261aea5da2b4da843a8d2876ed72944340fbaa719abeed8e2f781218"), looks := true }, kinds := [], alts := [], laidByText := true, laidKinds := [.data, .data, .data, .sentinel, .sentinel], laidTests := true, laidLooks := .later }
def WalRightUptoCardSaid : Prop := Claim7.holds Tryd.pinned (.plain (OpenSpec.upto walRightSpec)) walRightUptoCard
end Rows
end Go.Proofs.YthgaiimgfnbkaaaDoor
