/- Contracts of the document's own answer to days: AddMonths. -/
import Derived.Test.YtbocknocmggcpaaGreatDoorRefW2
namespace Go.Proofs.YtbocknocmggcpaaGreatDoor
open Go.RowKit Cal

theorem ret_ib {x : Value} {b c : Bool} (h : b = c) : Ending.returned (.tuple #[x, .bool b]) = .returned (.tuple #[x, .bool c]) := by rw [h]
end Go.Proofs.YtbocknocmggcpaaGreatDoor
