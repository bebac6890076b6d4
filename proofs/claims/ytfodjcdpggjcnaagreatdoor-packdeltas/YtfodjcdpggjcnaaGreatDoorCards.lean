/-
  DERIVED. GIVEN WITH THE SEED: THE CARDS: each row of YtfodjcdpggjcnaaGreatDoorRows.lean that lists a variable, with what it lists TIED to the program's text (the seventh form; the later family's looks); each row that meets fmt, with fmt's text TOLD by the authors' own Lean function (tested against real Go, not proved from fmt's source: count such statements apart). THE CARD IS WHAT COUNTS. Prove the row's statement (the work); the ties are given (YtfodjcdpggjcnaaGreatDoorTie.lean); close each card by the builder's one call (the guide's Derived/Test/ToyasCard.lean, 'card_holds'). Laid BY PROGRAM, IN A SANDBOX (cutbox-door.mjs). By AI agents, Wed Nov 11 2026. No macro, syntax, notation, axiom, sorry.
-/
import Derived.Test.YtfodjcdpggjcnaaGreatDoorRows
import GoSem.ClaimSeven
namespace Go.Proofs.YtfodjcdpggjcnaaGreatDoor
namespace Rows

/-- THE TIED CARD OF 'lammastidelaw3.PackDeltas'. -/
def packDeltasCard : Claim7 := { stood := { row := packDeltasRow, standIns := [], harness := (true, "15651b79d9c6f497cf14171008283bb0af92a27a4a34b19ea7aa84fde7345e74"), looks := true }, kinds := [], alts := [], laidByText := true, laidKinds := [.data, .data, .data, .sentinel, .sentinel, .sentinel, .sentinel, .sentinel, .sentinel], laidTests := true, laidLooks := .later }
def PackDeltasCardSaid : Prop := Claim7.holds Tryz.pinned (.plain (OpenSpec.ofChange packDeltasSpec)) packDeltasCard

/-- THE SECOND FORM's CARD OF 'lammastidelaw3.PackDeltas'. -/
def packDeltasUptoCard : Claim7 := { stood := { row := packDeltasUptoRow, standIns := [], harness := (true, "15651b79d9c6f497cf14171008283bb0af92a27a4a34b19ea7aa84fde7345e74"), looks := true }, kinds := [], alts := [], laidByText := true, laidKinds := [.data, .data, .data, .sentinel, .sentinel, .sentinel, .sentinel, .sentinel, .sentinel], laidTests := true, laidLooks := .later }
def PackDeltasUptoCardSaid : Prop := Claim7.holds Tryz.pinned (.plain (OpenSpec.upto packDeltasSpec)) packDeltasUptoCard
end Rows
end Go.Proofs.YtfodjcdpggjcnaaGreatDoor
