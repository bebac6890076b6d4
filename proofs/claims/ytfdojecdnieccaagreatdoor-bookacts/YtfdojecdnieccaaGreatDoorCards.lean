/-
  DERIVED. GIVEN WITH THE SEED: THE CARDS: each row of YtfdojecdnieccaaGreatDoorRows.lean that lists a variable, with what it lists TIED to the program's text (the seventh form; the later family's looks); each row that meets fmt, with fmt's text TOLD by the authors' own Lean function (tested against real Go, not proved from fmt's source: count such statements apart). THE CARD IS WHAT COUNTS. Prove the row's statement (the work); the ties are given (YtfdojecdnieccaaGreatDoorTie.lean); close each card by the builder's one call (the guide's Derived/Test/ToyasCard.lean, 'card_holds'). Laid BY PROGRAM, IN A SANDBOX (cutbox-door.mjs). By AI agents, Wed Nov 11 2026. No macro, syntax, notation, axiom, sorry.
-/
import Derived.Test.YtfdojecdnieccaaGreatDoorRows
import GoSem.ClaimSeven
namespace Go.Proofs.YtfdojecdnieccaaGreatDoor
namespace Rows

/-- THE TIED CARD OF 'lammastidelaw2.BookActs'. -/
def bookActsCard : Claim7 := { stood := { row := bookActsRow, standIns := [], harness := (true, "0820fe7a983b3f9420c75573d9239830e9f65274baab601d0933958f8fb546fe"), looks := true }, kinds := [], alts := [], laidByText := true, laidKinds := [.data, .data, .data, .handle, .sentinel, .sentinel, .sentinel, .sentinel, .sentinel, .sentinel, .sentinel, .sentinel, .sentinel, .sentinel, .sentinel, .data], laidTests := true, laidLooks := .later }
def BookActsCardSaid : Prop := Claim7.holds Tryz.pinned (.plain (OpenSpec.ofChange bookActsSpec)) bookActsCard

/-- THE SECOND FORM's CARD OF 'lammastidelaw2.BookActs'. -/
def bookActsUptoCard : Claim7 := { stood := { row := bookActsUptoRow, standIns := [], harness := (true, "0820fe7a983b3f9420c75573d9239830e9f65274baab601d0933958f8fb546fe"), looks := true }, kinds := [], alts := [], laidByText := true, laidKinds := [.data, .data, .data, .handle, .sentinel, .sentinel, .sentinel, .sentinel, .sentinel, .sentinel, .sentinel, .sentinel, .sentinel, .sentinel, .sentinel, .data], laidTests := true, laidLooks := .later }
def BookActsUptoCardSaid : Prop := Claim7.holds Tryz.pinned (.plain (OpenSpec.upto bookActsSpec)) bookActsUptoCard
end Rows
end Go.Proofs.YtfdojecdnieccaaGreatDoor
