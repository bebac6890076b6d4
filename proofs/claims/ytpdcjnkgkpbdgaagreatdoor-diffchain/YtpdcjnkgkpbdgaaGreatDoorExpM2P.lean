/- Plain mathematics of what comes again: from month to month, from week to week. -/
import Derived.Test.YtpdcjnkgkpbdgaaGreatDoorExpMP
namespace Go.Proofs.YtpdcjnkgkpbdgaaGreatDoor.Cal

theorem getD_at {ds : List Int} {q : Nat} (h : q < ds.length) : ds.getD q 0 = ds[q] := by simp [List.getD, List.getElem?_eq_getElem h]
end Go.Proofs.YtpdcjnkgkpbdgaaGreatDoor.Cal
