/-
  DERIVED. GIVEN WITH THE SEED: THE CARDS: each row of YtijdnmkkdofbeaaGreatDoorRows.lean that lists a variable, with what it lists TIED to the program's text (the seventh form; the later family's looks); each row that meets fmt, with fmt's text TOLD by the authors' own Lean function (tested against real Go, not proved from fmt's source: count such statements apart). THE CARD IS WHAT COUNTS. Prove the row's statement (the work); the ties are given (YtijdnmkkdofbeaaGreatDoorTie.lean); close each card by the builder's one call (the guide's Derived/Test/ToyasCard.lean, 'card_holds'). Laid BY PROGRAM, IN A SANDBOX (cutbox-door.mjs). By AI agents, Wed Nov 11 2026. No macro, syntax, notation, axiom, sorry.
-/
import Derived.Test.YtijdnmkkdofbeaaGreatDoorRows
import GoSem.ClaimSeven
namespace Go.Proofs.YtijdnmkkdofbeaaGreatDoor
namespace Rows

/-- THE TIED CARD OF 'lammastidelaw1.EventDays'. -/
def eventDaysCard : Claim7 := { stood := { row := eventDaysRow, standIns := [], harness := (true, "e895acba91b03ef8989ade97706b597a2908c010aea4528dda4315da38de824b"), looks := true }, kinds := [], alts := [], laidByText := true, laidKinds := [.data, .data, .data, .handle, .sentinel, .sentinel, .sentinel, .sentinel, .sentinel, .sentinel, .sentinel, .sentinel, .sentinel, .sentinel, .sentinel, .data], laidTests := true, laidLooks := .later }
def EventDaysCardSaid : Prop := Claim7.holds Tryz.pinned (.plain (OpenSpec.ofChange eventDaysSpec)) eventDaysCard

/-- THE TIED CARD OF 'lammastidelaw1.EventSkips'. -/
def eventSkipsCard : Claim7 := { stood := { row := eventSkipsRow, standIns := [], harness := (true, "e895acba91b03ef8989ade97706b597a2908c010aea4528dda4315da38de824b"), looks := true }, kinds := [], alts := [], laidByText := true, laidKinds := [.data, .data, .data, .sentinel, .sentinel, .sentinel, .sentinel, .sentinel, .sentinel, .sentinel, .data], laidTests := true, laidLooks := .later }
def EventSkipsCardSaid : Prop := Claim7.holds Tryz.pinned (.plain (OpenSpec.ofChange eventSkipsSpec)) eventSkipsCard

/-- THE TIED CARD OF 'lammastidelaw1.EventLong'. -/
def eventLongCard : Claim7 := { stood := { row := eventLongRow, standIns := [], harness := (true, "e895acba91b03ef8989ade97706b597a2908c010aea4528dda4315da38de824b"), looks := true }, kinds := [], alts := [], laidByText := true, laidKinds := [.data, .data, .data, .sentinel, .sentinel, .sentinel, .sentinel, .sentinel, .sentinel, .sentinel, .data], laidTests := true, laidLooks := .later }
def EventLongCardSaid : Prop := Claim7.holds Tryz.pinned (.plain (OpenSpec.ofChange eventLongSpec)) eventLongCard

/-- THE SECOND FORM's CARD OF 'lammastidelaw1.EventDays'. -/
def eventDaysUptoCard : Claim7 := { stood := { row := eventDaysUptoRow, standIns := [], harness := (true, "e895acba91b03ef8989ade97706b597a2908c010aea4528dda4315da38de824b"), looks := true }, kinds := [], alts := [], laidByText := true, laidKinds := [.data, .data, .data, .handle, .sentinel, .sentinel, .sentinel, .sentinel, .sentinel, .sentinel, .sentinel, .sentinel, .sentinel, .sentinel, .sentinel, .data], laidTests := true, laidLooks := .later }
def EventDaysUptoCardSaid : Prop := Claim7.holds Tryz.pinned (.plain (OpenSpec.upto eventDaysSpec)) eventDaysUptoCard

/-- THE SECOND FORM's CARD OF 'lammastidelaw1.EventSkips'. -/
def eventSkipsUptoCard : Claim7 := { stood := { row := eventSkipsUptoRow, standIns := [], harness := (true, "e895acba91b03ef8989ade97706b597a2908c010aea4528dda4315da38de824b"), looks := true }, kinds := [], alts := [], laidByText := true, laidKinds := [.data, .data, .data, .sentinel, .sentinel, .sentinel, .sentinel, .sentinel, .sentinel, .sentinel, .data], laidTests := true, laidLooks := .later }
def EventSkipsUptoCardSaid : Prop := Claim7.holds Tryz.pinned (.plain (OpenSpec.upto eventSkipsSpec)) eventSkipsUptoCard

/-- THE SECOND FORM's CARD OF 'lammastidelaw1.EventLong'. -/
def eventLongUptoCard : Claim7 := { stood := { row := eventLongUptoRow, standIns := [], harness := (true, "e895acba91b03ef8989ade97706b597a2908c010aea4528dda4315da38de824b"), looks := true }, kinds := [], alts := [], laidByText := true, laidKinds := [.data, .data, .data, .sentinel, .sentinel, .sentinel, .sentinel, .sentinel, .sentinel, .sentinel, .data], laidTests := true, laidLooks := .later }
def EventLongUptoCardSaid : Prop := Claim7.holds Tryz.pinned (.plain (OpenSpec.upto eventLongSpec)) eventLongUptoCard
end Rows
end Go.Proofs.YtijdnmkkdofbeaaGreatDoor
