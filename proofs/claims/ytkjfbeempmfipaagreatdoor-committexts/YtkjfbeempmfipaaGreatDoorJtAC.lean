/- The error 'bound' and the library's table of powers, as they are carried along; small lemmas. -/
import Derived.Test.YtkjfbeempmfipaaGreatDoorJtAB
import Derived.Test.YtkjfbeempmfipaaGreatDoorRows
import Derived.WalkKit
import Derived.ProofKit
import Derived.LaidMore
import Derived.Lib.LaidTab
import Derived.Stop.LaidErr
import Derived.Stop.Joined
namespace Go.Proofs.YtkjfbeempmfipaaGreatDoor
open Go.RowKit Cal

/-- the error 'bound', and the library's table -/
structure Env (ev : Addr) (w : World) : Prop where
  bound : w.cell? ⟨1, 0, none⟩ = some (.iface 221 (.pointer (some ev)))
  tab : Tab w
theorem Env.step {ev : Addr} {w w' : World} (g : Env ev w) (hb : Below w.heap.size w w') : Env ev w' :=
  ⟨by rw [hb.cell (p := ⟨1, 0, none⟩) (lt_of_cell g.bound)]; exact g.bound, g.tab.step hb⟩
end Go.Proofs.YtkjfbeempmfipaaGreatDoor

/- Contracts: the closed fact that every law of chapter 1 asks first (a leap day's number and text), and Add in one form for every count of months. -/
namespace Go.Proofs.YtkjfbeempmfipaaGreatDoor
open Go.RowKit Cal

/-- is there a day so many months on? -/
def addB (y m d k : Int) : Bool := decide (0 ≤ atM y m + k ∧ atM y m + k < 2400 ∧ d ≤ dim (yM (atM y m + k)) (mM (atM y m + k)))
/-- which one -/
def addI (y m d k : Int) : Int := if addB y m d k = true then num (yM (atM y m + k)) (mM (atM y m + k)) d else 0
theorem addB_iff (y m d k : Int) : addB y m d k = true ↔ (0 ≤ atM y m + k ∧ atM y m + k < 2400 ∧ d ≤ dim (yM (atM y m + k)) (mM (atM y m + k))) := by unfold addB; simp
theorem addI_no {y m d k : Int} (h : addB y m d k = false) : addI y m d k = 0 := by unfold addI; rw [h]; rfl
theorem addI_yes {y m d k : Int} (h : addB y m d k = true) : addI y m d k = num (yM (atM y m + k)) (mM (atM y m + k)) d := by unfold addI; rw [if_pos h]
theorem add_vld {y m d k : Int} (h : vld y m d) (hb : addB y m d k = true) : vld (yM (atM y m + k)) (mM (atM y m + k)) d := by
  rw [addB_iff] at hb
  have hi := yM_in _ hb.1 hb.2.1
  exact ⟨hi.1, hi.2.1, hi.2.2.1, hi.2.2.2, h.2.2.2.2.1, hb.2.2⟩
theorem addB_two {y m d a : Int} (b : Int) : addB (yM (atM y m + a)) (mM (atM y m + a)) d b = addB y m d (a + b) := by
  unfold addB; rw [atM_yM, Int.add_assoc]
theorem addI_two {y m d a : Int} (b : Int) : addI (yM (atM y m + a)) (mM (atM y m + a)) d b = addI y m d (a + b) := by
  unfold addI; rw [addB_two, atM_yM, Int.add_assoc]
theorem addI_bd {y m d k : Int} (h : vld y m d) : 0 ≤ addI y m d k ∧ addI y m d k ≤ 73048 := by
  cases hb : addB y m d k with
  | true => rw [addI_yes hb]; exact num_bd (add_vld h hb)
  | false => rw [addI_no hb]; omega

end Go.Proofs.YtkjfbeempmfipaaGreatDoor

/- What the rows' lists of package-level variables give a walk: the library's table of powers of ten, and the cells of the errors. -/
namespace Go.Proofs.YtkjfbeempmfipaaGreatDoor
open Go.ChangeShapes Go.WideShapes Go.ChangeAt Go.RowKit Cal

theorem own : ownKnob Tryz.prog.godebug = none := by kernel_rfl
theorem tPow : (Tryz.prog.globals[12]?).map (·.type) = some 165 := by kernel_rfl
theorem cPow : Tryz.prog.cellsOf 165 = 20 := by kernel_rfl
theorem cU64 : Tryz.prog.cellsOf 127 = 1 := by kernel_rfl
theorem gBound : Tryz.prog.globalNamed "lammastide/api.ErrBound" = some 1 := by kernel_rfl
theorem tBound : (Tryz.prog.globals[1]?).map (·.type) = some 30 := by kernel_rfl
theorem gText : Tryz.prog.globalNamed "lammastide/api.ErrText" = some 0 := by kernel_rfl
theorem tText : (Tryz.prog.globals[0]?).map (·.type) = some 30 := by kernel_rfl
theorem cErrStr : Tryz.prog.cellsOf 223 = 1 := by kernel_rfl
theorem cStr : Tryz.prog.cellsOf 9 = 1 := by kernel_rfl
theorem star : "*" ++ "errors.errorString" = "*errors.errorString" := by decide
theorem rowErrStr (u : TypeId) (h : Tryz.prog.typeName? 3 u = some "*errors.errorString") : u = 221 :=
  typeName_ptr_named (nm := "errors.errorString") (by rw [star]; kernel_rfl) (by kernel_rfl) (by decide) u (by rw [star]; exact h)

/-- an error of errors.New's make at the head of the list: its cell -/
theorem sentinel {n : String} {g : Nat} {text : List UInt8} {r : List (String × DataW Unit)} {W : World}
    (h : laidMet Tryz.prog ((n, .iface "*errors.errorString" (.ptr (.agg [.lit (.string text)]))) :: r) W) (hg : Tryz.prog.globalNamed n = some g) (ht : (Tryz.prog.globals[g]?).map (·.type) = some 30) :
    ∃ a : Addr, W.cell? ⟨g, 0, none⟩ = some (.iface 221 (.pointer (some a))) := by
  obtain ⟨a, s, hv, _, _, _⟩ := laid_sentinel h hg ht Tryz.underlying30 rowErrStr Tryz.underlying221 Tryz.underlying223 rfl rfl Tryz.underlying9 cErrStr cStr
  exact ⟨a, by simpa using World.var?_cell hg hv 0⟩
/-- the table at the head of the list -/
theorem table {r : List (String × DataW Unit)} {W : World} (h : laidMet Tryz.prog (("internal/strconv.uint64pow10", Rows.laid_internal_strconv_uint64pow10) :: r) W) : Tab W :=
  Lib.tabIs_of_head gPow tPow Tryz.underlying165 Tryz.underlying127 cU64 cPow h
end Go.Proofs.YtkjfbeempmfipaaGreatDoor
