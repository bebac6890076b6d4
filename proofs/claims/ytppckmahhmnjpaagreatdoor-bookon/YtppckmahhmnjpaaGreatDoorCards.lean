/-
  DERIVED. GIVEN WITH THE SEED: THE CARDS: each row of YtppckmahhmnjpaaGreatDoorRows.lean that lists a variable, with what it lists TIED to the program's text (the seventh form; the later family's looks); each row that meets fmt, with fmt's text TOLD by the authors' own Lean function (tested against real Go, not proved from fmt's source: count such statements apart). THE CARD IS WHAT COUNTS. Prove the row's statement (the work); the ties are given (YtppckmahhmnjpaaGreatDoorTie.lean); close each card by the builder's one call (the guide's Derived/Test/ToyasCard.lean, 'card_holds'). Laid BY PROGRAM, IN A SANDBOX (cutbox-door.mjs). By AI agents, Wed Nov 11 2026. No macro, syntax, notation, axiom, sorry.
-/
import Derived.Test.YtppckmahhmnjpaaGreatDoorRows
import GoSem.ClaimSeven
namespace Go.Proofs.YtppckmahhmnjpaaGreatDoor
namespace Rows

/-- THE TIED CARD OF 'lammastidelaw2.BookOn'. -/
def bookOnCard : Claim7 := { stood := { row := bookOnRow, standIns := [], harness := (true, "5b8d80e7ae5d01456d241d565899cf7e03115f5abc099fbf2d03249f91edee7c"), looks := false }, kinds := [], alts := [], laidByText := true, laidKinds := [.sentinel, .sentinel, .sentinel, .sentinel, .sentinel, .sentinel, .sentinel, .sentinel], laidTests := true, laidLooks := .later }
def BookOnCardSaid : Prop := Claim7.holds Tryz.pinned (.plain (OpenSpec.ofChange bookOnSpec)) bookOnCard

/-- THE SECOND FORM's CARD OF 'lammastidelaw2.BookOn'. -/
def bookOnUptoCard : Claim7 := { stood := { row := bookOnUptoRow, standIns := [], harness := (true, "5b8d80e7ae5d01456d241d565899cf7e03115f5abc099fbf2d03249f91edee7c"), looks := false }, kinds := [], alts := [], laidByText := true, laidKinds := [.sentinel, .sentinel, .sentinel, .sentinel, .sentinel, .sentinel, .sentinel, .sentinel], laidTests := true, laidLooks := .later }
def BookOnUptoCardSaid : Prop := Claim7.holds Tryz.pinned (.plain (OpenSpec.upto bookOnSpec)) bookOnUptoCard
end Rows
end Go.Proofs.YtppckmahhmnjpaaGreatDoor
