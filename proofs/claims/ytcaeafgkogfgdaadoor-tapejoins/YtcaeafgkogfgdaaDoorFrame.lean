/- What the rows' lists of package-level variables give a walk: the library's table of powers of ten, and the cells of the errors. -/
import Derived.Test.YtcaeafgkogfgdaaDoorRows
import Derived.Test.YtcaeafgkogfgdaaDoorDated
import Derived.WalkKit
import Derived.ProofKit
import Derived.LaidMore
import Derived.Lib.LaidTab
import Derived.Stop.LaidErr
import Derived.Stop.Joined
namespace Go.Proofs.YtcaeafgkogfgdaaDoor
open Go.ChangeShapes Go.WideShapes Go.ChangeAt Go.RowKit Cal

theorem own : ownKnob Tryd.prog.godebug = none := by kernel_rfl
theorem tPow : (Tryd.prog.globals[5]?).map (·.type) = some 75 := by kernel_rfl
theorem cPow : Tryd.prog.cellsOf 75 = 20 := by kernel_rfl
theorem cU64 : Tryd.prog.cellsOf 60 = 1 := by kernel_rfl
theorem gBound : Tryd.prog.globalNamed "lammastide/api.ErrBound" = some 0 := by kernel_rfl
theorem tBound : (Tryd.prog.globals[0]?).map (·.type) = some 26 := by kernel_rfl
theorem cErrStr : Tryd.prog.cellsOf 92 = 1 := by kernel_rfl
theorem cStr : Tryd.prog.cellsOf 9 = 1 := by kernel_rfl
theorem star : "*" ++ "errors.errorString" = "*errors.errorString" := by decide
theorem rowErrStr (u : TypeId) (h : Tryd.prog.typeName? 3 u = some "*errors.errorString") : u = 90 :=
  typeName_ptr_named (nm := "errors.errorString") (by rw [star]; kernel_rfl) (by kernel_rfl) (by decide) u (by rw [star]; exact h)

/-- an error of errors.New's make at the head of the list: its cell -/
theorem sentinel {n : String} {g : Nat} {text : List UInt8} {r : List (String × DataW Unit)} {W : World}
    (h : laidMet Tryd.prog ((n, .iface "*errors.errorString" (.ptr (.agg [.lit (.string text)]))) :: r) W) (hg : Tryd.prog.globalNamed n = some g) (ht : (Tryd.prog.globals[g]?).map (·.type) = some 26) :
    ∃ a : Addr, W.cell? ⟨g, 0, none⟩ = some (.iface 90 (.pointer (some a))) := by
  obtain ⟨a, s, hv, _, _, _⟩ := laid_sentinel h hg ht Tryd.underlying26 rowErrStr Tryd.underlying90 Tryd.underlying92 rfl rfl Tryd.underlying9 cErrStr cStr
  exact ⟨a, by simpa using World.var?_cell hg hv 0⟩
/-- the table at the head of the list -/
theorem table {r : List (String × DataW Unit)} {W : World} (h : laidMet Tryd.prog (("internal/strconv.uint64pow10", Rows.laid_internal_strconv_uint64pow10) :: r) W) : Tab W :=
  Lib.tabIs_of_head gPow tPow Tryd.underlying75 Tryd.underlying60 cU64 cPow h
end Go.Proofs.YtcaeafgkogfgdaaDoor
