/-
  DERIVED. GIVEN WITH THE SEED: THE CARDS: each row of YtfnajhpcbajhfabDoorRows.lean that lists a variable, with what it lists TIED to the program's text (the seventh form; the later family's looks); each row that meets fmt, with fmt's text TOLD by the authors' own Lean function (tested against real Go, not proved from fmt's source: count such statements apart). THE CARD IS WHAT COUNTS. Prove the row's statement (the work); the ties are given (YtfnajhpcbajhfabDoorTie.lean); close each card by the builder's one call (the guide's Derived/Test/ToyasCard.lean, 'card_holds'). Laid BY PROGRAM, IN A SANDBOX (cutbox-door.mjs). By AI agents, Wed Nov 11 2026. No macro, syntax, notation, axiom, sorry.
-/
import Derived.Test.YtfnajhpcbajhfabDoorRows
import GoSem.ClaimSeven
namespace Go.Proofs.YtfnajhpcbajhfabDoor
namespace Rows

/-- THE TIED CARD OF 'lammastidelaw1.ExpandDays'. -/
def expandDaysCard : Claim7 := { stood := { row := expandDaysRow, standIns := [], harness := (true, "3eae34e48fa7f11778ea4aafa9457f3438ebe448c184ebab472903cefdabd013"), looks := true }, kinds := [], alts := [], laidByText := true, laidKinds := [.handle, .sentinel, .sentinel, .sentinel, .sentinel, .sentinel, .sentinel, .sentinel, .sentinel, .sentinel, .sentinel, .sentinel], laidTests := true, laidLooks := .later }
def ExpandDaysCardSaid : Prop := Claim7.holds Tryd.pinned (.plain (OpenSpec.ofChange expandDaysSpec)) expandDaysCard

/-- THE TIED CARD OF 'lammastidelaw1.ExpandRises'. -/
def expandRisesCard : Claim7 := { stood := { row := expandRisesRow, standIns := [], harness := (true, "3eae34e48fa7f11778ea4aafa9457f3438ebe448c184ebab472903cefdabd013"), looks := true }, kinds := [], alts := [], laidByText := true, laidKinds := [.sentinel, .sentinel, .sentinel, .sentinel], laidTests := true, laidLooks := .later }
def ExpandRisesCardSaid : Prop := Claim7.holds Tryd.pinned (.plain (OpenSpec.ofChange expandRisesSpec)) expandRisesCard

/-- THE TIED CARD OF 'lammastidelaw1.ExpandCounts'. -/
def expandCountsCard : Claim7 := { stood := { row := expandCountsRow, standIns := [], harness := (true, "3eae34e48fa7f11778ea4aafa9457f3438ebe448c184ebab472903cefdabd013"), looks := true }, kinds := [], alts := [], laidByText := true, laidKinds := [.sentinel, .sentinel, .sentinel, .sentinel], laidTests := true, laidLooks := .later }
def ExpandCountsCardSaid : Prop := Claim7.holds Tryd.pinned (.plain (OpenSpec.ofChange expandCountsSpec)) expandCountsCard

/-- THE SECOND FORM's CARD OF 'lammastidelaw1.ExpandDays'. -/
def expandDaysUptoCard : Claim7 := { stood := { row := expandDaysUptoRow, standIns := [], harness := (true, "3eae34e48fa7f11778ea4aafa9457f3438ebe448c184ebab472903cefdabd013"), looks := true }, kinds := [], alts := [], laidByText := true, laidKinds := [.handle, .sentinel, .sentinel, .sentinel, .sentinel, .sentinel, .sentinel, .sentinel, .sentinel, .sentinel, .sentinel, .sentinel], laidTests := true, laidLooks := .later }
def ExpandDaysUptoCardSaid : Prop := Claim7.holds Tryd.pinned (.plain (OpenSpec.upto expandDaysSpec)) expandDaysUptoCard

/-- THE SECOND FORM's CARD OF 'lammastidelaw1.ExpandRises'. -/
def expandRisesUptoCard : Claim7 := { stood := { row := expandRisesUptoRow, standIns := [], harness := (true, "3eae34e48fa7f11778ea4aafa9457f3438ebe448c184ebab472903cefdabd013"), looks := true }, kinds := [], alts := [], laidByText := true, laidKinds := [.sentinel, .sentinel, .sentinel, .sentinel], laidTests := true, laidLooks := .later }
def ExpandRisesUptoCardSaid : Prop := Claim7.holds Tryd.pinned (.plain (OpenSpec.upto expandRisesSpec)) expandRisesUptoCard

/-- THE SECOND FORM's CARD OF 'lammastidelaw1.ExpandCounts'. -/
def expandCountsUptoCard : Claim7 := { stood := { row := expandCountsUptoRow, standIns := [], harness := (true, "3eae34e48fa7f11778ea4aafa9457f3438ebe448c184ebab472903cefdabd013"), looks := true }, kinds := [], alts := [], laidByText := true, laidKinds := [.sentinel, .sentinel, .sentinel, .sentinel], laidTests := true, laidLooks := .later }
def ExpandCountsUptoCardSaid : Prop := Claim7.holds Tryd.pinned (.plain (OpenSpec.upto expandCountsSpec)) expandCountsUptoCard
end Rows
end Go.Proofs.YtfnajhpcbajhfabDoor
