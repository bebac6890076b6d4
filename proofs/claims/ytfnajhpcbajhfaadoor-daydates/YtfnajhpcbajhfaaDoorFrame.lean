/- What the rows' lists of package-level variables give a walk: the library's table of powers of ten, and the cells of the errors. -/
import Derived.Test.YtfnajhpcbajhfaaDoorRows
import Derived.Test.YtfnajhpcbajhfaaDoorDated
import Derived.WalkKit
import Derived.ProofKit
import Derived.LaidMore
import Derived.Lib.LaidTab
import Derived.Stop.LaidErr
import Derived.Stop.Joined
namespace Go.Proofs.YtfnajhpcbajhfaaDoor
open Go.ChangeShapes Go.WideShapes Go.ChangeAt Go.RowKit Cal

theorem own : ownKnob Tryd.prog.godebug = none := by kernel_rfl
theorem tPow : (Tryd.prog.globals[12]?).map (·.type) = some 100 := by kernel_rfl
theorem cPow : Tryd.prog.cellsOf 100 = 20 := by kernel_rfl
theorem cU64 : Tryd.prog.cellsOf 93 = 1 := by kernel_rfl
theorem gBound : Tryd.prog.globalNamed "lammastide/api.ErrBound" = some 1 := by kernel_rfl
theorem tBound : (Tryd.prog.globals[1]?).map (·.type) = some 25 := by kernel_rfl
theorem gText : Tryd.prog.globalNamed "lammastide/api.ErrText" = some 0 := by kernel_rfl
theorem tText : (Tryd.prog.globals[0]?).map (·.type) = some 25 := by kernel_rfl
theorem cErrStr : Tryd.prog.cellsOf 58 = 1 := by kernel_rfl
theorem cStr : Tryd.prog.cellsOf 9 = 1 := by kernel_rfl
theorem star : "*" ++ "errors.errorString" = "*errors.errorString" := by decide
theorem rowErrStr (u : TypeId) (h : Tryd.prog.typeName? 3 u = some "*errors.errorString") : u = 56 :=
  typeName_ptr_named (nm := "errors.errorString") (by rw [star]; kernel_rfl) (by kernel_rfl) (by decide) u (by rw [star]; exact h)

/-- an error of errors.New's make at the head of the list: its cell -/
theorem sentinel {n : String} {g : Nat} {text : List UInt8} {r : List (String × DataW Unit)} {W : World}
    (h : laidMet Tryd.prog ((n, .iface "*errors.errorString" (.ptr (.agg [.lit (.string text)]))) :: r) W) (hg : Tryd.prog.globalNamed n = some g) (ht : (Tryd.prog.globals[g]?).map (·.type) = some 25) :
    ∃ a : Addr, W.cell? ⟨g, 0, none⟩ = some (.iface 56 (.pointer (some a))) := by
  obtain ⟨a, s, hv, _, _, _⟩ := laid_sentinel h hg ht Tryd.underlying25 rowErrStr Tryd.underlying56 Tryd.underlying58 rfl rfl Tryd.underlying9 cErrStr cStr
  exact ⟨a, by simpa using World.var?_cell hg hv 0⟩
/-- the table at the head of the list -/
theorem table {r : List (String × DataW Unit)} {W : World} (h : laidMet Tryd.prog (("internal/strconv.uint64pow10", Rows.laid_internal_strconv_uint64pow10) :: r) W) : Tab W :=
  Lib.tabIs_of_head gPow tPow Tryd.underlying100 Tryd.underlying93 cU64 cPow h
end Go.Proofs.YtfnajhpcbajhfaaDoor
