/- The closed facts of the law BookBack's row, one by one. -/
import Derived.Test.YtpdcjnkgkpbdgaaGreatDoorRows
import Derived.JoinedOf
namespace Go.Proofs.YtpdcjnkgkpbdgaaGreatDoor

theorem bbk_z1 : Rows.bookBackRow.wf (OpenSpec.ofChange Rows.bookBackSpec) = true := by kernel_rfl
theorem bbk_z2 : laidOutB Tryz.prog = true := by kernel_rfl
theorem bbk_z3 : mapsRowed Tryz.prog = true := by kernel_rfl
theorem bbk_z4 : Tryz.f5.params.all (Tryz.prog.readableRec ·) = true := by kernel_rfl
theorem bbk_z5 : namedTie Tryz.prog Rows.bookBackRow.named Rows.bookBackSpec.vars = true := by kernel_rfl
theorem bbk_z6 : (Rows.bookBackRow.inPlace == Tryz.prog.inPlace 5) = true := by kernel_rfl
theorem bbk_z7 : (Rows.bookBackRow.unfollowed == Tryz.prog.unfollowed 5) = true := by kernel_rfl
theorem bbk_z8 : (Rows.bookBackRow.recurses == Tryz.prog.recurses 5) = true := by kernel_rfl
theorem bbk_z9 : (Rows.bookBackRow.named == Tryz.prog.varsNamed 5) = true := by kernel_rfl
theorem bbk_z10 : (Rows.bookBackRow.plainKeys == Tryz.prog.plainKeys) = true := by kernel_rfl
theorem bbk_z11 : Tryz.prog.stopsHeard = true := by kernel_rfl
theorem bbk_z12 : Tryz.prog.mayEnter = true := by kernel_rfl
theorem bbk_z13 : (Rows.bookBackRow.lifted == Tryz.prog.liftsFinal) = true := by kernel_rfl
theorem bbk_z14 : (Tryz.prog.make == some Rows.bookBackRow.make) = true := by kernel_rfl
theorem bbk_closed : joinedFacts Tryz.prog 5 Tryz.f5 Rows.bookBackSpec Rows.bookBackRow = true := by
  unfold joinedFacts
  rw [bbk_z1, bbk_z2, bbk_z3, bbk_z4, bbk_z5, bbk_z6, bbk_z7, bbk_z8, bbk_z9, bbk_z10, bbk_z11, bbk_z12, bbk_z13, bbk_z14]
  kernel_rfl
end Go.Proofs.YtpdcjnkgkpbdgaaGreatDoor
