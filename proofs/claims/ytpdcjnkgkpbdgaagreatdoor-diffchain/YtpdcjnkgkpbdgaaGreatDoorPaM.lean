/- The library's own contracts of slices.Sort and slices.Compact at ints, laid at this program. -/
import Derived.Shelf.Sort.Plain
import Derived.Shelf.Slices.In.SortNone
import Derived.Shelf.Slices.CompactI
import Derived.Test.YtpdcjnkgkpbdgaaGreatDoorProg
import Derived.Test.YtpdcjnkgkpbdgaaGreatDoorPbK
import Derived.Sort.OwnSortedInts
import Derived.Lib.SlicesCompact
namespace Go.Proofs
open Go.Shelf
end Go.Proofs

/- Sorted, and what is twice dropped: the library's contracts of slices.Sort and slices.Compact in words of a row that a call owns. -/
namespace Go.Proofs.YtpdcjnkgkpbdgaaGreatDoor
open Go Go.RowKit Go.Sort Cal

end Go.Proofs.YtpdcjnkgkpbdgaaGreatDoor
