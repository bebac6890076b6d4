/- Lists that are searched: slices.BinarySearch over rising numbers, BinarySearchFunc over moves, and package event's movedTo. -/
import Derived.Test.YtpdcjnkgkpbdgaaGreatDoorPaZ
import Derived.Deep.LoopGhost
import Derived.Test.YtpdcjnkgkpbdgaaGreatDoorPaL
import Derived.BigRegionIn
import Derived.OrdersIn
namespace Go.Proofs.YtpdcjnkgkpbdgaaGreatDoor
open Go Go.RowKit Cal
attribute [local go_sem] Oper.semAt_some

end Go.Proofs.YtpdcjnkgkpbdgaaGreatDoor

/- The days of an event that is well, as package event's daysUpTo gives them. -/
namespace Go.Proofs.YtpdcjnkgkpbdgaaGreatDoor
open Go Go.RowKit Go.Shelf Cal
attribute [local go_sem] Oper.semAt_some

end Go.Proofs.YtpdcjnkgkpbdgaaGreatDoor
