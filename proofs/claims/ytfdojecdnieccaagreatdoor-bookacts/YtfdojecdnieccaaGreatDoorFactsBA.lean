/- The closed facts of the law BookActs's row, one by one. -/
import Derived.Test.YtfdojecdnieccaaGreatDoorRows
import Derived.JoinedOf
namespace Go.Proofs.YtfdojecdnieccaaGreatDoor

theorem bac_z1 : Rows.bookActsRow.wf (OpenSpec.ofChange Rows.bookActsSpec) = true := by kernel_rfl
theorem bac_z2 : laidOutB Tryz.prog = true := by kernel_rfl
theorem bac_z3 : mapsRowed Tryz.prog = true := by kernel_rfl
theorem bac_z4 : Tryz.f3.params.all (Tryz.prog.readableRec ·) = true := by kernel_rfl
theorem bac_z5 : namedTie Tryz.prog Rows.bookActsRow.named Rows.bookActsSpec.vars = true := by kernel_rfl
theorem bac_z6 : (Rows.bookActsRow.inPlace == Tryz.prog.inPlace 3) = true := by kernel_rfl
theorem bac_z7 : (Rows.bookActsRow.unfollowed == Tryz.prog.unfollowed 3) = true := by kernel_rfl
theorem bac_z8 : (Rows.bookActsRow.recurses == Tryz.prog.recurses 3) = true := by kernel_rfl
theorem bac_z9 : (Rows.bookActsRow.named == Tryz.prog.varsNamed 3) = true := by kernel_rfl
theorem bac_z10 : (Rows.bookActsRow.plainKeys == Tryz.prog.plainKeys) = true := by kernel_rfl
theorem bac_z11 : Tryz.prog.stopsHeard = true := by kernel_rfl
theorem bac_z12 : Tryz.prog.mayEnter = true := by kernel_rfl
theorem bac_z13 : (Rows.bookActsRow.lifted == Tryz.prog.liftsFinal) = true := by kernel_rfl
theorem bac_z14 : (Tryz.prog.make == some Rows.bookActsRow.make) = true := by kernel_rfl
theorem bac_closed : joinedFacts Tryz.prog 3 Tryz.f3 Rows.bookActsSpec Rows.bookActsRow = true := by
  unfold joinedFacts
  rw [bac_z1, bac_z2, bac_z3, bac_z4, bac_z5, bac_z6, bac_z7, bac_z8, bac_z9, bac_z10, bac_z11, bac_z12, bac_z13, bac_z14]
  kernel_rfl
end Go.Proofs.YtfdojecdnieccaaGreatDoor
