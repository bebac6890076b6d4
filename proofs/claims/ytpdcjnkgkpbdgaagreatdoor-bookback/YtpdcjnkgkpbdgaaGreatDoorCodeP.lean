/- errors.Is, errors.As over package api's errors; plain.Code and the law's own coded -/
import Derived.Test.YtpdcjnkgkpbdgaaGreatDoorProg
import Derived.WalkKit
import Derived.WalkSpells
import Derived.WalkLawsBesides
import Derived.LaidEql
import Derived.Stop.Asserts
import Derived.RowKitTokens
namespace Go.Proofs.YtpdcjnkgkpbdgaaGreatDoor
open Go.RowKit Go.Extern.Stop Go.Stop Go.Extern

end Go.Proofs.YtpdcjnkgkpbdgaaGreatDoor
namespace Go.Proofs.YtpdcjnkgkpbdgaaGreatDoor
open Go.RowKit Go.Extern.Stop Go.Stop Go.Extern

end Go.Proofs.YtpdcjnkgkpbdgaaGreatDoor
namespace Go.Proofs.YtpdcjnkgkpbdgaaGreatDoor
open Go.RowKit Go.Extern.Stop Go.Stop Go.Extern

end Go.Proofs.YtpdcjnkgkpbdgaaGreatDoor
namespace Go.Proofs.YtpdcjnkgkpbdgaaGreatDoor
open Go.RowKit Go.Extern.Stop Go.Stop Go.Extern

end Go.Proofs.YtpdcjnkgkpbdgaaGreatDoor
namespace Go.Proofs.YtpdcjnkgkpbdgaaGreatDoor
open Go.RowKit

end Go.Proofs.YtpdcjnkgkpbdgaaGreatDoor
