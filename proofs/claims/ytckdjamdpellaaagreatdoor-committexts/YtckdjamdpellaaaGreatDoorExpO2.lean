/- The law's own OwnRule: the days lie in memory of its own. -/
import Derived.Test.YtckdjamdpellaaaGreatDoorExpO
namespace Go.Proofs.YtckdjamdpellaaaGreatDoor
open Go.RowKit Cal

end Go.Proofs.YtckdjamdpellaaaGreatDoor
