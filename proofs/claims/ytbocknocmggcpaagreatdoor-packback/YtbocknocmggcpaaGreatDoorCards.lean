/-
  DERIVED. GIVEN WITH THE SEED: THE CARDS: each row of YtbocknocmggcpaaGreatDoorRows.lean that lists a variable, with what it lists TIED to the program's text (the seventh form; the later family's looks); each row that meets fmt, with fmt's text TOLD by the authors' own Lean function (tested against real Go, not proved from fmt's source: count such statements apart). THE CARD IS WHAT COUNTS. Prove the row's statement (the work); the ties are given (YtbocknocmggcpaaGreatDoorTie.lean); close each card by the builder's one call (the guide's Derived/Test/ToyasCard.lean, 'card_holds'). Laid BY PROGRAM, IN A SANDBOX (cutbox-door.mjs). By AI agents, Wed Nov 11 2026. No macro, syntax, notation, axiom, sorry.
-/
import Derived.Test.YtbocknocmggcpaaGreatDoorRows
import GoSem.ClaimSeven
namespace Go.Proofs.YtbocknocmggcpaaGreatDoor
namespace Rows

/-- THE TIED CARD OF 'lammastidelaw3.PackDeltas'. -/
def packDeltasCard : Claim7 := { stood := { row := packDeltasRow, standIns := [], harness := (true, "921977a1a55d27cfd3ae4ec1f8776c03b5f6f4188b0ead3bb387827544ee9765"), looks := true }, kinds := [], alts := [], laidByText := true, laidKinds := [.data, .data, .data, .sentinel, .sentinel, .sentinel, .sentinel, .sentinel, .sentinel], laidTests := true, laidLooks := .later }
def PackDeltasCardSaid : Prop := Claim7.holds Tryz.pinned (.plain (OpenSpec.ofChange packDeltasSpec)) packDeltasCard

/-- THE TIED CARD OF 'lammastidelaw3.PackBack'. -/
def packBackCard : Claim7 := { stood := { row := packBackRow, standIns := [], harness := (true, "921977a1a55d27cfd3ae4ec1f8776c03b5f6f4188b0ead3bb387827544ee9765"), looks := true }, kinds := [], alts := [], laidByText := true, laidKinds := [.data, .data, .data, .sentinel, .sentinel, .sentinel, .sentinel, .sentinel, .sentinel, .sentinel], laidTests := true, laidLooks := .later }
def PackBackCardSaid : Prop := Claim7.holds Tryz.pinned (.plain (OpenSpec.ofChange packBackSpec)) packBackCard

/-- THE SECOND FORM's CARD OF 'lammastidelaw3.PackDeltas'. -/
def packDeltasUptoCard : Claim7 := { stood := { row := packDeltasUptoRow, standIns := [], harness := (true, "921977a1a55d27cfd3ae4ec1f8776c03b5f6f4188b0ead3bb387827544ee9765"), looks := true }, kinds := [], alts := [], laidByText := true, laidKinds := [.data, .data, .data, .sentinel, .sentinel, .sentinel, .sentinel, .sentinel, .sentinel], laidTests := true, laidLooks := .later }
def PackDeltasUptoCardSaid : Prop := Claim7.holds Tryz.pinned (.plain (OpenSpec.upto packDeltasSpec)) packDeltasUptoCard

/-- THE SECOND FORM's CARD OF 'lammastidelaw3.PackBack'. -/
def packBackUptoCard : Claim7 := { stood := { row := packBackUptoRow, standIns := [], harness := (true, "921977a1a55d27cfd3ae4ec1f8776c03b5f6f4188b0ead3bb387827544ee9765"), looks := true }, kinds := [], alts := [], laidByText := true, laidKinds := [.data, .data, .data, .sentinel, .sentinel, .sentinel, .sentinel, .sentinel, .sentinel, .sentinel], laidTests := true, laidLooks := .later }
def PackBackUptoCardSaid : Prop := Claim7.holds Tryz.pinned (.plain (OpenSpec.upto packBackSpec)) packBackUptoCard
end Rows
end Go.Proofs.YtbocknocmggcpaaGreatDoor
