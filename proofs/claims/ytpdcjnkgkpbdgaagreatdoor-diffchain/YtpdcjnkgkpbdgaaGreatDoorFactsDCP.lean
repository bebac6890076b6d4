/- The closed facts of the law DiffChain's row, one by one. -/
import Derived.Test.YtpdcjnkgkpbdgaaGreatDoorRows
import Derived.JoinedOf
namespace Go.Proofs.YtpdcjnkgkpbdgaaGreatDoor

theorem dch_z1 : Rows.diffChainRow.wf (OpenSpec.ofChange Rows.diffChainSpec) = true := by kernel_rfl
theorem dch_z2 : laidOutB Tryz.prog = true := by kernel_rfl
theorem dch_z3 : mapsRowed Tryz.prog = true := by kernel_rfl
theorem dch_z4 : Tryz.f7.params.all (Tryz.prog.readableRec ·) = true := by kernel_rfl
theorem dch_z5 : namedTie Tryz.prog Rows.diffChainRow.named Rows.diffChainSpec.vars = true := by kernel_rfl
theorem dch_z6 : (Rows.diffChainRow.inPlace == Tryz.prog.inPlace 7) = true := by kernel_rfl
theorem dch_z7 : (Rows.diffChainRow.unfollowed == Tryz.prog.unfollowed 7) = true := by kernel_rfl
theorem dch_z8 : (Rows.diffChainRow.recurses == Tryz.prog.recurses 7) = true := by kernel_rfl
theorem dch_z9 : (Rows.diffChainRow.named == Tryz.prog.varsNamed 7) = true := by kernel_rfl
theorem dch_z10 : (Rows.diffChainRow.plainKeys == Tryz.prog.plainKeys) = true := by kernel_rfl
theorem dch_z11 : Tryz.prog.stopsHeard = true := by kernel_rfl
theorem dch_z12 : Tryz.prog.mayEnter = true := by kernel_rfl
theorem dch_z13 : (Rows.diffChainRow.lifted == Tryz.prog.liftsFinal) = true := by kernel_rfl
theorem dch_z14 : (Tryz.prog.make == some Rows.diffChainRow.make) = true := by kernel_rfl
theorem dch_closed : joinedFacts Tryz.prog 7 Tryz.f7 Rows.diffChainSpec Rows.diffChainRow = true := by
  unfold joinedFacts
  rw [dch_z1, dch_z2, dch_z3, dch_z4, dch_z5, dch_z6, dch_z7, dch_z8, dch_z9, dch_z10, dch_z11, dch_z12, dch_z13, dch_z14]
  kernel_rfl
end Go.Proofs.YtpdcjnkgkpbdgaaGreatDoor
