/- errors.Is, errors.As over package api's errors; plain.Code and the law's own coded -/
import Derived.Test.YtekminpoiokgfaaGreatDoorProg
import Derived.WalkKit
import Derived.WalkSpells
import Derived.WalkLawsBesides
import Derived.LaidEql
import Derived.Stop.Asserts
import Derived.RowKitTokens
namespace Go.Proofs.YtekminpoiokgfaaGreatDoor
open Go.RowKit Go.Extern.Stop Go.Stop Go.Extern

/-- what the model does at a function without a body -/
def ext (fn : Func) : Array Value → Sem Value := (Extern.find fn).getD (fun _ => pure (.bool false))
end Go.Proofs.YtekminpoiokgfaaGreatDoor
namespace Go.Proofs.YtekminpoiokgfaaGreatDoor
open Go.RowKit Go.Extern.Stop Go.Stop Go.Extern

end Go.Proofs.YtekminpoiokgfaaGreatDoor
namespace Go.Proofs.YtekminpoiokgfaaGreatDoor
open Go.RowKit Go.Extern.Stop Go.Stop Go.Extern

end Go.Proofs.YtekminpoiokgfaaGreatDoor
namespace Go.Proofs.YtekminpoiokgfaaGreatDoor
open Go.RowKit Go.Extern.Stop Go.Stop Go.Extern

end Go.Proofs.YtekminpoiokgfaaGreatDoor
namespace Go.Proofs.YtekminpoiokgfaaGreatDoor
open Go.RowKit

end Go.Proofs.YtekminpoiokgfaaGreatDoor
