/-
  DERIVED. GIVEN WITH THE SEED: THE CARDS: each row of YtkjfbeempmfipaaGreatDoorRows.lean that lists a variable, with what it lists TIED to the program's text (the seventh form; the later family's looks); each row that meets fmt, with fmt's text TOLD by the authors' own Lean function (tested against real Go, not proved from fmt's source: count such statements apart). THE CARD IS WHAT COUNTS. Prove the row's statement (the work); the ties are given (YtkjfbeempmfipaaGreatDoorTie.lean); close each card by the builder's one call (the guide's Derived/Test/ToyasCard.lean, 'card_holds'). Laid BY PROGRAM, IN A SANDBOX (cutbox-door.mjs). By AI agents, Wed Nov 11 2026. No macro, syntax, notation, axiom, sorry.
-/
import Derived.Test.YtkjfbeempmfipaaGreatDoorRows
import GoSem.ClaimSeven
namespace Go.Proofs.YtkjfbeempmfipaaGreatDoor
namespace Rows

/-- THE TIED CARD OF 'lammastidelaw3.CommitTexts'. -/
def commitTextsCard : Claim7 := { stood := { row := commitTextsRow, standIns := [], harness := (true, "3432cf94a6d3d1b1e7429651d0e797bf7166366ea3b4304e425f4ba2b30e2653"), looks := true }, kinds := [], alts := [], laidByText := true, laidKinds := [.data, .data, .data, .data, .handle, .sentinel, .sentinel, .sentinel, .sentinel, .sentinel, .sentinel, .sentinel, .sentinel, .sentinel, .sentinel, .sentinel, .sentinel, .sentinel, .data, .pinned], laidTests := true, laidLooks := .later }
def CommitTextsCardSaid : Prop := Claim7.holds Tryz.pinned (.plain (OpenSpec.ofChange commitTextsSpec)) commitTextsCard

/-- THE SECOND FORM's CARD OF 'lammastidelaw3.CommitTexts'. -/
def commitTextsUptoCard : Claim7 := { stood := { row := commitTextsUptoRow, standIns := [], harness := (true, "3432cf94a6d3d1b1e7429651d0e797bf7166366ea3b4304e425f4ba2b30e2653"), looks := true }, kinds := [], alts := [], laidByText := true, laidKinds := [.data, .data, .data, .data, .handle, .sentinel, .sentinel, .sentinel, .sentinel, .sentinel, .sentinel, .sentinel, .sentinel, .sentinel, .sentinel, .sentinel, .sentinel, .sentinel, .data, .pinned], laidTests := true, laidLooks := .later }
def CommitTextsUptoCardSaid : Prop := Claim7.holds Tryz.pinned (.plain (OpenSpec.upto commitTextsSpec)) commitTextsUptoCard
end Rows
end Go.Proofs.YtkjfbeempmfipaaGreatDoor
