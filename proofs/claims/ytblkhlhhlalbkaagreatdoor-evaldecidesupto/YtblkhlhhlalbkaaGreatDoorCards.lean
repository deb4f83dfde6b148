/-
  DERIVED. GIVEN WITH THE SEED: THE CARDS: each row of YtblkhlhhlalbkaaGreatDoorRows.lean that lists a variable, with what it lists TIED to the program's text (the seventh form; the later family's looks); each row that meets fmt, with fmt's text TOLD by the authors' own Lean function (tested against real Go, not proved from fmt's source: count such statements apart). THE CARD IS WHAT COUNTS. Prove the row's statement (the work); the ties are given (YtblkhlhhlalbkaaGreatDoorTie.lean); close each card by the builder's one call (the guide's Derived/Test/ToyasCard.lean, 'card_holds'). Laid BY PROGRAM, IN A SANDBOX (cutbox-door.mjs). By AI agents, Wed Nov 11 2026. No macro, syntax, notation, axiom, sorry.
-/
import Derived.Test.YtblkhlhhlalbkaaGreatDoorRows
import GoSem.ClaimSeven
namespace Go.Proofs.YtblkhlhhlalbkaaGreatDoor
namespace Rows

/-- THE TIED CARD OF 'quarrylaw16.EvalDoes'. -/
def evalDoesCard : Claim7 := { stood := { row := evalDoesRow, standIns := [], harness := (true, "4cb0cd4d2e45f24d31635fec202a6f4eca66897b2d17080c599006d700739342"), looks := true }, kinds := [], alts := [], laidByText := true, laidKinds := [.data, .data, .data, .data, .data, .data, .pinned, .pinned], laidTests := true, laidLooks := .later }
def EvalDoesCardSaid : Prop := Claim7.holds Tryz.pinned (.plain (OpenSpec.ofChange evalDoesSpec)) evalDoesCard

/-- THE TIED CARD OF 'quarrylaw16.EvalConstant'. -/
def evalConstantCard : Claim7 := { stood := { row := evalConstantRow, standIns := [], harness := (true, "4cb0cd4d2e45f24d31635fec202a6f4eca66897b2d17080c599006d700739342"), looks := true }, kinds := [], alts := [], laidByText := true, laidKinds := [.data, .data, .data, .data, .sentinel, .sentinel, .data, .data, .pinned, .pinned], laidTests := true, laidLooks := .later }
def EvalConstantCardSaid : Prop := Claim7.holds Tryz.pinned (.plain (OpenSpec.ofChange evalConstantSpec)) evalConstantCard

/-- THE TIED CARD OF 'quarrylaw16.EvalPart'. -/
def evalPartCard : Claim7 := { stood := { row := evalPartRow, standIns := [], harness := (true, "4cb0cd4d2e45f24d31635fec202a6f4eca66897b2d17080c599006d700739342"), looks := true }, kinds := [], alts := [], laidByText := true, laidKinds := [.data, .data, .data, .data, .sentinel, .sentinel, .data, .data, .pinned, .pinned], laidTests := true, laidLooks := .later }
def EvalPartCardSaid : Prop := Claim7.holds Tryz.pinned (.plain (OpenSpec.ofChange evalPartSpec)) evalPartCard

/-- THE TIED CARD OF 'quarrylaw16.EvalDecides'. -/
def evalDecidesCard : Claim7 := { stood := { row := evalDecidesRow, standIns := [], harness := (true, "4cb0cd4d2e45f24d31635fec202a6f4eca66897b2d17080c599006d700739342"), looks := true }, kinds := [], alts := [], laidByText := true, laidKinds := [.data, .data, .data, .data, .sentinel, .sentinel, .data, .data, .pinned, .pinned], laidTests := true, laidLooks := .later }
def EvalDecidesCardSaid : Prop := Claim7.holds Tryz.pinned (.plain (OpenSpec.ofChange evalDecidesSpec)) evalDecidesCard

/-- THE SECOND FORM's CARD OF 'quarrylaw16.EvalDoes'. -/
def evalDoesUptoCard : Claim7 := { stood := { row := evalDoesUptoRow, standIns := [], harness := (true, "4cb0cd4d2e45f24d31635fec202a6f4eca66897b2d17080c599006d700739342"), looks := true }, kinds := [], alts := [], laidByText := true, laidKinds := [.data, .data, .data, .data, .data, .data, .pinned, .pinned], laidTests := true, laidLooks := .later }
def EvalDoesUptoCardSaid : Prop := Claim7.holds Tryz.pinned (.plain (OpenSpec.upto evalDoesSpec)) evalDoesUptoCard

/-- THE SECOND FORM's CARD OF 'quarrylaw16.EvalConstant'. -/
def evalConstantUptoCard : Claim7 := { stood := { row := evalConstantUptoRow, standIns := [], harness := (true, "4cb0cd4d2e45f24d31635fec202a6f4eca66897b2d17080c599006d700739342"), looks := true }, kinds := [], alts := [], laidByText := true, laidKinds := [.data, .data, .data, .data, .sentinel, .sentinel, .data, .data, .pinned, .pinned], laidTests := true, laidLooks := .later }
def EvalConstantUptoCardSaid : Prop := Claim7.holds Tryz.pinned (.plain (OpenSpec.upto evalConstantSpec)) evalConstantUptoCard

/-- THE SECOND FORM's CARD OF 'quarrylaw16.EvalPart'. -/
def evalPartUptoCard : Claim7 := { stood := { row := evalPartUptoRow, standIns := [], harness := (true, "4cb0cd4d2e45f24d31635fec202a6f4eca66897b2d17080c599006d700739342"), looks := true }, kinds := [], alts := [], laidByText := true, laidKinds := [.data, .data, .data, .data, .sentinel, .sentinel, .data, .data, .pinned, .pinned], laidTests := true, laidLooks := .later }
def EvalPartUptoCardSaid : Prop := Claim7.holds Tryz.pinned (.plain (OpenSpec.upto evalPartSpec)) evalPartUptoCard

/-- THE SECOND FORM's CARD OF 'quarrylaw16.EvalDecides'. -/
def evalDecidesUptoCard : Claim7 := { stood := { row := evalDecidesUptoRow, standIns := [], harness := (true, "4cb0cd4d2e45f24d31635fec202a6f4eca66897b2d17080c599006d700739342"), looks := true }, kinds := [], alts := [], laidByText := true, laidKinds := [.data, .data, .data, .data, .sentinel, .sentinel, .data, .data, .pinned, .pinned], laidTests := true, laidLooks := .later }
def EvalDecidesUptoCardSaid : Prop := Claim7.holds Tryz.pinned (.plain (OpenSpec.upto evalDecidesSpec)) evalDecidesUptoCard
end Rows
end Go.Proofs.YtblkhlhhlalbkaaGreatDoor
