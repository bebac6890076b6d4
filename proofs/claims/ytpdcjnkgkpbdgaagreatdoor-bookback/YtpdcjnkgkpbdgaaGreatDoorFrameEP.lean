/- What the rows' lists of package-level variables give the walks over package expand: the errors' cells; a rule as an argument, opened. -/
import Derived.Test.YtpdcjnkgkpbdgaaGreatDoorRows
import Derived.Test.YtpdcjnkgkpbdgaaGreatDoorQbK
import Derived.WalkKit
import Derived.ProofKit
import Derived.LaidMore
import Derived.ChangeSlices
import Derived.Stop.LaidErr
import Derived.Stop.Joined
namespace Go.Proofs.YtpdcjnkgkpbdgaaGreatDoor
open Go.ChangeShapes Go.WideShapes Go.ChangeAt Go.RowKit Cal

theorem own : ownKnob Tryz.prog.godebug = none := by kernel_rfl
theorem gBound : Tryz.prog.globalNamed "lammastide/api.ErrBound" = some 1 := by kernel_rfl
theorem tBound : (Tryz.prog.globals[1]?).map (·.type) = some 29 := by kernel_rfl
theorem gShape : Tryz.prog.globalNamed "lammastide/api.ErrShape" = some 2 := by kernel_rfl
theorem tShape : (Tryz.prog.globals[2]?).map (·.type) = some 29 := by kernel_rfl
theorem gName : Tryz.prog.globalNamed "lammastide/api.ErrName" = some 0 := by kernel_rfl
theorem tName : (Tryz.prog.globals[0]?).map (·.type) = some 29 := by kernel_rfl
theorem gOrder : Tryz.prog.globalNamed "lammastide/api.ErrOrder" = some 3 := by kernel_rfl
theorem tOrder : (Tryz.prog.globals[3]?).map (·.type) = some 29 := by kernel_rfl
theorem cErrStr : Tryz.prog.cellsOf 280 = 1 := by kernel_rfl
theorem cStr : Tryz.prog.cellsOf 9 = 1 := by kernel_rfl
theorem star : "*" ++ "errors.errorString" = "*errors.errorString" := by decide
theorem rowErrStr (u : TypeId) (h : Tryz.prog.typeName? 3 u = some "*errors.errorString") : u = 278 :=
  typeName_ptr_named (nm := "errors.errorString") (by rw [star]; kernel_rfl) (by kernel_rfl) (by decide) u (by rw [star]; exact h)

/-- an error of errors.New's make at the head of the list: its cell -/
theorem sentinel {n : String} {g : Nat} {text : List UInt8} {r : List (String × DataW Unit)} {W : World}
    (h : laidMet Tryz.prog ((n, .iface "*errors.errorString" (.ptr (.agg [.lit (.string text)]))) :: r) W) (hg : Tryz.prog.globalNamed n = some g) (ht : (Tryz.prog.globals[g]?).map (·.type) = some 29) :
    ∃ a : Addr, W.cell? ⟨g, 0, none⟩ = some (.iface 278 (.pointer (some a))) := by
  obtain ⟨a, s, hv, _, _, _⟩ := laid_sentinel h hg ht Tryz.underlying29 rowErrStr Tryz.underlying278 Tryz.underlying280 rfl rfl Tryz.underlying9 cErrStr cStr
  exact ⟨a, by simpa using World.var?_cell hg hv 0⟩
theorem cRule : Tryz.prog.cellsOf 24 = 5 := by kernel_rfl
theorem cInt : Tryz.prog.cellsOf 3 = 1 := by kernel_rfl
theorem cInts : Tryz.prog.cellsOf 22 = 1 := by kernel_rfl

end Go.Proofs.YtpdcjnkgkpbdgaaGreatDoor
