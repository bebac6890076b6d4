/- Plain mathematics of events (no program text in it): where a day is now, the days of an event in a span; what sorting and dropping what is twice leaves. -/
import Derived.Test.YtpdcjnkgkpbdgaaGreatDoorExpMP
import Derived.Lib.SlicesCompact
namespace Go.Proofs.YtpdcjnkgkpbdgaaGreatDoor.Cal

end Go.Proofs.YtpdcjnkgkpbdgaaGreatDoor.Cal
