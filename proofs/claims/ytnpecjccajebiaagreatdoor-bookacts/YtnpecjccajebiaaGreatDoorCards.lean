/-
  DERIVED. GIVEN WITH THE SEED: THE CARDS: each row of YtnpecjccajebiaaGreatDoorRows.lean that lists a variable, with what it lists TIED to the program's text (the seventh form; the later family's looks); each row that meets fmt, with fmt's text TOLD by the authors' own Lean function (tested against real Go, not proved from fmt's source: count such statements apart). THE CARD IS WHAT COUNTS. Prove the row's statement (the work); the ties are given (YtnpecjccajebiaaGreatDoorTie.lean); close each card by the builder's one call (the guide's Derived/Test/ToyasCard.lean, 'card_holds'). Laid BY PROGRAM, IN A SANDBOX (cutbox-door.mjs). By AI agents, Wed Nov 11 2026. No macro, syntax, notation, axiom, sorry.
-/
import Derived.Test.YtnpecjccajebiaaGreatDoorRows
import GoSem.ClaimSeven
namespace Go.Proofs.YtnpecjccajebiaaGreatDoor
namespace Rows

/-- THE TIED CARD OF 'lammastidelaw2.BookBack'. -/
def bookBackCard : Claim7 := { stood := { row := bookBackRow, standIns := [], harness := (true, "a23243d40fff03878dda3188e77b7a4424ba946fc8e38152d03ba9e7ecf20462"), looks := true }, kinds := [], alts := [], laidByText := true, laidKinds := [.data, .data, .data, .data, .sentinel, .sentinel, .sentinel, .sentinel, .sentinel, .sentinel, .sentinel, .sentinel, .sentinel, .sentinel, .data, .pinned], laidTests := true, laidLooks := .later }
def BookBackCardSaid : Prop := Claim7.holds Tryz.pinned (.plain (OpenSpec.ofChange bookBackSpec)) bookBackCard

/-- THE TIED CARD OF 'lammastidelaw2.BookOn'. -/
def bookOnCard : Claim7 := { stood := { row := bookOnRow, standIns := [], harness := (true, "a23243d40fff03878dda3188e77b7a4424ba946fc8e38152d03ba9e7ecf20462"), looks := true }, kinds := [], alts := [], laidByText := true, laidKinds := [.sentinel, .sentinel, .sentinel, .sentinel, .sentinel, .sentinel, .sentinel, .sentinel], laidTests := true, laidLooks := .later }
def BookOnCardSaid : Prop := Claim7.holds Tryz.pinned (.plain (OpenSpec.ofChange bookOnSpec)) bookOnCard

/-- THE TIED CARD OF 'lammastidelaw2.BookActs'. -/
def bookActsCard : Claim7 := { stood := { row := bookActsRow, standIns := [], harness := (true, "a23243d40fff03878dda3188e77b7a4424ba946fc8e38152d03ba9e7ecf20462"), looks := true }, kinds := [], alts := [], laidByText := true, laidKinds := [.data, .data, .data, .handle, .sentinel, .sentinel, .sentinel, .sentinel, .sentinel, .sentinel, .sentinel, .sentinel, .sentinel, .sentinel, .sentinel, .data], laidTests := true, laidLooks := .later }
def BookActsCardSaid : Prop := Claim7.holds Tryz.pinned (.plain (OpenSpec.ofChange bookActsSpec)) bookActsCard

/-- THE SECOND FORM's CARD OF 'lammastidelaw2.BookBack'. -/
def bookBackUptoCard : Claim7 := { stood := { row := bookBackUptoRow, standIns := [], harness := (true, "a23243d40fff03878dda3188e77b7a4424ba946fc8e38152d03ba9e7ecf20462"), looks := true }, kinds := [], alts := [], laidByText := true, laidKinds := [.data, .data, .data, .data, .sentinel, .sentinel, .sentinel, .sentinel, .sentinel, .sentinel, .sentinel, .sentinel, .sentinel, .sentinel, .data, .pinned], laidTests := true, laidLooks := .later }
def BookBackUptoCardSaid : Prop := Claim7.holds Tryz.pinned (.plain (OpenSpec.upto bookBackSpec)) bookBackUptoCard

/-- THE SECOND FORM's CARD OF 'lammastidelaw2.BookOn'. -/
def bookOnUptoCard : Claim7 := { stood := { row := bookOnUptoRow, standIns := [], harness := (true, "a23243d40fff03878dda3188e77b7a4424ba946fc8e38152d03ba9e7ecf20462"), looks := true }, kinds := [], alts := [], laidByText := true, laidKinds := [.sentinel, .sentinel, .sentinel, .sentinel, .sentinel, .sentinel, .sentinel, .sentinel], laidTests := true, laidLooks := .later }
def BookOnUptoCardSaid : Prop := Claim7.holds Tryz.pinned (.plain (OpenSpec.upto bookOnSpec)) bookOnUptoCard

/-- THE SECOND FORM's CARD OF 'lammastidelaw2.BookActs'. -/
def bookActsUptoCard : Claim7 := { stood := { row := bookActsUptoRow, standIns := [], harness := (true, "a23243d40fff03878dda3188e77b7a4424ba946fc8e38152d03ba9e7ecf20462"), looks := true }, kinds := [], alts := [], laidByText := true, laidKinds := [.data, .data, .data, .handle, .sentinel, .sentinel, .sentinel, .sentinel, .sentinel, .sentinel, .sentinel, .sentinel, .sentinel, .sentinel, .sentinel, .data], laidTests := true, laidLooks := .later }
def BookActsUptoCardSaid : Prop := Claim7.holds Tryz.pinned (.plain (OpenSpec.upto bookActsSpec)) bookActsUptoCard
end Rows
end Go.Proofs.YtnpecjccajebiaaGreatDoor
