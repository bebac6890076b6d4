/-
  DERIVED. GIVEN WITH THE SEED: THE CARDS: each row of YtcaeafgkogfgdaaGreatDoorRows.lean that lists a variable, with what it lists TIED to the program's text (the seventh form; the later family's looks); each row that meets fmt, with fmt's text TOLD by the authors' own Lean function (tested against real Go, not proved from fmt's source: count such statements apart). THE CARD IS WHAT COUNTS. Prove the row's statement (the work); the ties are given (YtcaeafgkogfgdaaGreatDoorTie.lean); close each card by the builder's one call (the guide's Derived/Test/ToyasCard.lean, 'card_holds'). Laid BY PROGRAM, IN A SANDBOX (cutbox-door.mjs). By AI agents, Wed Nov 11 2026. No macro, syntax, notation, axiom, sorry.
-/
import Derived.Test.YtcaeafgkogfgdaaGreatDoorRows
import GoSem.ClaimSeven
namespace Go.Proofs.YtcaeafgkogfgdaaGreatDoor
namespace Rows

/-- THE TIED CARD OF 'lammastidelaw3.RefsStay'. -/
def refsStayCard : Claim7 := { stood := { row := refsStayRow, standIns := [], harness := (true, "17257873be6c9f937af9ad9be35d68c5d3ca63bbc4c92a9f79a7839f6bcd23f1"), looks := true }, kinds := [], alts := [], laidByText := true, laidKinds := [.data, .data, .data, .data, .sentinel, .sentinel, .sentinel, .sentinel, .sentinel, .sentinel, .sentinel, .sentinel, .sentinel, .sentinel, .pinned], laidTests := true, laidLooks := .later }
def RefsStayCardSaid : Prop := Claim7.holds Tryz.pinned (.plain (OpenSpec.ofChange refsStaySpec)) refsStayCard

/-- THE SECOND FORM's CARD OF 'lammastidelaw3.RefsStay'. -/
def refsStayUptoCard : Claim7 := { stood := { row := refsStayUptoRow, standIns := [], harness := (true, "17257873be6c9f937af9ad9be35d68c5d3ca63bbc4c92a9f79a7839f6bcd23f1"), looks := true }, kinds := [], alts := [], laidByText := true, laidKinds := [.data, .data, .data, .data, .sentinel, .sentinel, .sentinel, .sentinel, .sentinel, .sentinel, .sentinel, .sentinel, .sentinel, .sentinel, .pinned], laidTests := true, laidLooks := .later }
def RefsStayUptoCardSaid : Prop := Claim7.holds Tryz.pinned (.plain (OpenSpec.upto refsStaySpec)) refsStayUptoCard
end Rows
end Go.Proofs.YtcaeafgkogfgdaaGreatDoor
