/- What the rows' lists of package-level variables give a walk: the library's table of powers of ten, and the cells of the errors. -/
import Derived.Test.YtbocknocmggcpaaGreatDoorRows
import Derived.Test.YtbocknocmggcpaaGreatDoorDated
import Derived.WalkKit
import Derived.ProofKit
import Derived.LaidMore
import Derived.Lib.LaidTab
import Derived.Stop.LaidErr
import Derived.Stop.Joined
namespace Go.Proofs.YtbocknocmggcpaaGreatDoor
open Go.ChangeShapes Go.WideShapes Go.ChangeAt Go.RowKit Cal

theorem own : ownKnob Tryz.prog.godebug = none := by kernel_rfl
theorem tPow : (Tryz.prog.globals[5]?).map (·.type) = some 146 := by kernel_rfl
theorem cPow : Tryz.prog.cellsOf 146 = 20 := by kernel_rfl
theorem cU64 : Tryz.prog.cellsOf 129 = 1 := by kernel_rfl
theorem gBound : Tryz.prog.globalNamed "lammastide/api.ErrBound" = some 1 := by kernel_rfl
theorem tBound : (Tryz.prog.globals[1]?).map (·.type) = some 42 := by kernel_rfl
theorem gText : Tryz.prog.globalNamed "lammastide/api.ErrText" = some 0 := by kernel_rfl
theorem tText : (Tryz.prog.globals[0]?).map (·.type) = some 42 := by kernel_rfl
theorem cErrStr : Tryz.prog.cellsOf 175 = 1 := by kernel_rfl
theorem cStr : Tryz.prog.cellsOf 9 = 1 := by kernel_rfl
theorem star : "*" ++ "errors.errorString" = "*errors.errorString" := by decide
theorem rowErrStr (u : TypeId) (h : Tryz.prog.typeName? 3 u = some "*errors.errorString") : u = 173 :=
  typeName_ptr_named (nm := "errors.errorString") (by rw [star]; kernel_rfl) (by kernel_rfl) (by decide) u (by rw [star]; exact h)

/-- an error of errors.New's make at the head of the list: its cell -/
theorem sentinel {n : String} {g : Nat} {text : List UInt8} {r : List (String × DataW Unit)} {W : World}
    (h : laidMet Tryz.prog ((n, .iface "*errors.errorString" (.ptr (.agg [.lit (.string text)]))) :: r) W) (hg : Tryz.prog.globalNamed n = some g) (ht : (Tryz.prog.globals[g]?).map (·.type) = some 42) :
    ∃ a : Addr, W.cell? ⟨g, 0, none⟩ = some (.iface 173 (.pointer (some a))) := by
  obtain ⟨a, s, hv, _, _, _⟩ := laid_sentinel h hg ht Tryz.underlying42 rowErrStr Tryz.underlying173 Tryz.underlying175 rfl rfl Tryz.underlying9 cErrStr cStr
  exact ⟨a, by simpa using World.var?_cell hg hv 0⟩
/-- the table at the head of the list -/
theorem table {r : List (String × DataW Unit)} {W : World} (h : laidMet Tryz.prog (("internal/strconv.uint64pow10", Rows.laid_internal_strconv_uint64pow10) :: r) W) : Tab W :=
  Lib.tabIs_of_head gPow tPow Tryz.underlying146 Tryz.underlying129 cU64 cPow h
end Go.Proofs.YtbocknocmggcpaaGreatDoor
