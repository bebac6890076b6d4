/- The closed facts of the law DiffBack's row, one by one. -/
import Derived.Test.YtpdcjnkgkpbdgaaGreatDoorRows
import Derived.JoinedOf
namespace Go.Proofs.YtpdcjnkgkpbdgaaGreatDoor

theorem dbk_z1 : Rows.diffBackRow.wf (OpenSpec.ofChange Rows.diffBackSpec) = true := by kernel_rfl
theorem dbk_z2 : laidOutB Tryz.prog = true := by kernel_rfl
theorem dbk_z3 : mapsRowed Tryz.prog = true := by kernel_rfl
theorem dbk_z4 : Tryz.f6.params.all (Tryz.prog.readableRec ·) = true := by kernel_rfl
theorem dbk_z5 : namedTie Tryz.prog Rows.diffBackRow.named Rows.diffBackSpec.vars = true := by kernel_rfl
theorem dbk_z6 : (Rows.diffBackRow.inPlace == Tryz.prog.inPlace 6) = true := by kernel_rfl
theorem dbk_z7 : (Rows.diffBackRow.unfollowed == Tryz.prog.unfollowed 6) = true := by kernel_rfl
theorem dbk_z8 : (Rows.diffBackRow.recurses == Tryz.prog.recurses 6) = true := by kernel_rfl
theorem dbk_z9 : (Rows.diffBackRow.named == Tryz.prog.varsNamed 6) = true := by kernel_rfl
theorem dbk_z10 : (Rows.diffBackRow.plainKeys == Tryz.prog.plainKeys) = true := by kernel_rfl
theorem dbk_z11 : Tryz.prog.stopsHeard = true := by kernel_rfl
theorem dbk_z12 : Tryz.prog.mayEnter = true := by kernel_rfl
theorem dbk_z13 : (Rows.diffBackRow.lifted == Tryz.prog.liftsFinal) = true := by kernel_rfl
theorem dbk_z14 : (Tryz.prog.make == some Rows.diffBackRow.make) = true := by kernel_rfl
theorem dbk_closed : joinedFacts Tryz.prog 6 Tryz.f6 Rows.diffBackSpec Rows.diffBackRow = true := by
  unfold joinedFacts
  rw [dbk_z1, dbk_z2, dbk_z3, dbk_z4, dbk_z5, dbk_z6, dbk_z7, dbk_z8, dbk_z9, dbk_z10, dbk_z11, dbk_z12, dbk_z13, dbk_z14]
  kernel_rfl
end Go.Proofs.YtpdcjnkgkpbdgaaGreatDoor
