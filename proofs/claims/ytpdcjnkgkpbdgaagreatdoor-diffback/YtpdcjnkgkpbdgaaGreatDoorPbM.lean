/- Package event's Days: the days of an event in a span, or the error full. -/
import Derived.Test.YtpdcjnkgkpbdgaaGreatDoorPbO
import Derived.Test.YtpdcjnkgkpbdgaaGreatDoorPaM
import Derived.Maps.AppendAt
namespace Go.Proofs.YtpdcjnkgkpbdgaaGreatDoor
open Go Go.RowKit Go.Shelf Cal
attribute [local go_sem] Oper.semAt_some

end Go.Proofs.YtpdcjnkgkpbdgaaGreatDoor

/- Package event's Covers: is a day within an event? -/
namespace Go.Proofs.YtpdcjnkgkpbdgaaGreatDoor
open Go Go.RowKit Cal
attribute [local go_sem] Oper.semAt_some

end Go.Proofs.YtpdcjnkgkpbdgaaGreatDoor
