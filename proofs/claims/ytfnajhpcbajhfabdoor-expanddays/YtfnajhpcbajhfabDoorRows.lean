/-
  NARROWER THAN 'FOR EVERY INPUT', by the rows' own cells (each row's printed sentence says how): ExpandDays: laid · ExpandRises: laid · ExpandCounts: laid.
  DERIVED. THE GIVEN ROWS OF THIS SEAT. 3 by the template 'for every input the law returns true; each argument reads behind the call as it read before'; 0 by the template 'total and deterministic' (their statements: YtfnajhpcbajhfabDoorTotals.lean).
  GIVEN WITH THE SEED: the statements are not yours to turn. If you find one false, say at which input.
  Laid BY PROGRAM, IN A SANDBOX (cutbox-rows.mjs): the forced cells as the released guide's own fill.sh prints them over the translation 952ba39adc57e539… (all of the seat's roots in one cut). By AI agents, Wed Nov 11 2026. No macro, syntax, notation, axiom, sorry.
-/
import Derived.Test.YtfnajhpcbajhfabDoorChecked
import GoSem.Claim
import GoSem.ClaimJoined
import GoSem.ClaimMapViews
import Derived.JoinedTies
import Derived.KernelRfl
namespace Go.Proofs.YtfnajhpcbajhfabDoor
/- THE CELL 'sum', in the pinned program and in every row, IS THE sha256 OF THE DUMP (.gsa) THAT YtfnajhpcbajhfabDoorProg.lean LOADS. Nothing in Lean hashes anything: it is a label: what it is worth is what the hold of that sum in a sandbox is worth. -/
noncomputable def Tryd.pinned : Pinned := { name := "ytfnajhpcbajhfabdoor", sum := "952ba39adc57e539b42a284d3ce3b1ffd371031417901f945b2c4ef9676a8dd2", checked := Tryd.checked }
namespace Rows
def none {H : Type} : Left H := { results := [], args := [] }

/- WHAT THE LISTED PACKAGE-LEVEL VARIABLES READ AS WHEN THE CALL BEGINS. Each datum BY PROGRAM (the guide's laid-datum.mjs) off the statement by which the dump's own 'gosem.cut.vars' lays the variable. In a bare row this is a premise. The card (YtfnajhpcbajhfabDoorCards.lean) ties it to the program's text. -/
def laid_errors_errorType {H : Type} : DataW H := .iface "internal/reflectlite.rtype" (.agg [.ptr (.lit (.string [101, 114, 114, 111, 114]))])
def laid_lammastide_api_ErrText {H : Type} : DataW H := .iface "*errors.errorString" (.ptr (.agg [.lit (.string [108, 97, 109, 109, 97, 115, 116, 105, 100, 101, 58, 32, 116, 101, 120, 116])]))
def laid_lammastide_api_ErrBound {H : Type} : DataW H := .iface "*errors.errorString" (.ptr (.agg [.lit (.string [108, 97, 109, 109, 97, 115, 116, 105, 100, 101, 58, 32, 98, 111, 117, 110, 100])]))
def laid_lammastide_api_ErrShape {H : Type} : DataW H := .iface "*errors.errorString" (.ptr (.agg [.lit (.string [108, 97, 109, 109, 97, 115, 116, 105, 100, 101, 58, 32, 115, 104, 97, 112, 101])]))
def laid_lammastide_api_ErrName {H : Type} : DataW H := .iface "*errors.errorString" (.ptr (.agg [.lit (.string [108, 97, 109, 109, 97, 115, 116, 105, 100, 101, 58, 32, 110, 97, 109, 101])]))
def laid_lammastide_api_ErrNone {H : Type} : DataW H := .iface "*errors.errorString" (.ptr (.agg [.lit (.string [108, 97, 109, 109, 97, 115, 116, 105, 100, 101, 58, 32, 110, 111, 110, 101])]))
def laid_lammastide_api_ErrExist {H : Type} : DataW H := .iface "*errors.errorString" (.ptr (.agg [.lit (.string [108, 97, 109, 109, 97, 115, 116, 105, 100, 101, 58, 32, 101, 120, 105, 115, 116])]))
def laid_lammastide_api_ErrFull {H : Type} : DataW H := .iface "*errors.errorString" (.ptr (.agg [.lit (.string [108, 97, 109, 109, 97, 115, 116, 105, 100, 101, 58, 32, 102, 117, 108, 108])]))
def laid_lammastide_api_ErrOrder {H : Type} : DataW H := .iface "*errors.errorString" (.ptr (.agg [.lit (.string [108, 97, 109, 109, 97, 115, 116, 105, 100, 101, 58, 32, 111, 114, 100, 101, 114])]))
def laid_lammastide_api_ErrStale {H : Type} : DataW H := .iface "*errors.errorString" (.ptr (.agg [.lit (.string [108, 97, 109, 109, 97, 115, 116, 105, 100, 101, 58, 32, 115, 116, 97, 108, 101])]))
def laid_lammastide_api_ErrClash {H : Type} : DataW H := .iface "*errors.errorString" (.ptr (.agg [.lit (.string [108, 97, 109, 109, 97, 115, 116, 105, 100, 101, 58, 32, 99, 108, 97, 115, 104])]))
def laid_lammastide_api_ErrOff {H : Type} : DataW H := .iface "*errors.errorString" (.ptr (.agg [.lit (.string [108, 97, 109, 109, 97, 115, 116, 105, 100, 101, 58, 32, 111, 102, 102])]))

/-- 'lammastidelaw1.ExpandDays': WHATEVER THE INPUT: true; the input reads as it did. -/
def expandDaysSpec : ChangeSpec := { name := "expandDays", fn := fun _ => fun
  | [d1, d2, d3, d4, d5, d6] => { results := [.lit (.bool true)], args := [d1, d2, d3, d4, d5, d6] }
  | _ => none }
def expandDaysRow : OpenClaim := { program := "ytfnajhpcbajhfabdoor", sum := "952ba39adc57e539b42a284d3ce3b1ffd371031417901f945b2c4ef9676a8dd2", func := "lammastide/lammastidelaw1.ExpandDays", spec := "expandDays", inPlace := ["internal/reflectlite.ValueOf", "(internal/reflectlite.Value).Type", "(internal/reflectlite.Value).IsNil", "internal/reflectlite.TypeOf", "(internal/reflectlite.Value).Elem", "(internal/reflectlite.Value).Set"], unfollowed := true, recurses := true, named := ["lammastide/api.ErrName", "lammastide/api.ErrBound", "lammastide/api.ErrShape", "lammastide/api.ErrOrder", "lammastide/api.ErrFull", "lammastide/api.ErrText", "lammastide/api.ErrNone", "lammastide/api.ErrExist", "lammastide/api.ErrStale", "lammastide/api.ErrClash", "lammastide/api.ErrOff", "errors.errorType"], apart := false, laid := [("errors.errorType", laid_errors_errorType), ("lammastide/api.ErrText", laid_lammastide_api_ErrText), ("lammastide/api.ErrBound", laid_lammastide_api_ErrBound), ("lammastide/api.ErrShape", laid_lammastide_api_ErrShape), ("lammastide/api.ErrName", laid_lammastide_api_ErrName), ("lammastide/api.ErrNone", laid_lammastide_api_ErrNone), ("lammastide/api.ErrExist", laid_lammastide_api_ErrExist), ("lammastide/api.ErrFull", laid_lammastide_api_ErrFull), ("lammastide/api.ErrOrder", laid_lammastide_api_ErrOrder), ("lammastide/api.ErrStale", laid_lammastide_api_ErrStale), ("lammastide/api.ErrClash", laid_lammastide_api_ErrClash), ("lammastide/api.ErrOff", laid_lammastide_api_ErrOff)] }
def ExpandDaysSaid : Prop := expandDaysRow.holds Tryd.pinned (OpenSpec.ofChange expandDaysSpec)

/-- ITS FALSE NEIGHBOUR: 'it returns false'. Refute it at one input. -/
def expandDaysWrong : ChangeSpec := { name := "expandDays", fn := fun _ => fun
  | [d1, d2, d3, d4, d5, d6] => { results := [.lit (.bool false)], args := [d1, d2, d3, d4, d5, d6] }
  | _ => none }
def ExpandDaysWrongFalsely : Prop := expandDaysRow.holds Tryd.pinned (OpenSpec.ofChange expandDaysWrong)

/-- 'lammastidelaw1.ExpandRises': WHATEVER THE INPUT: true; the input reads as it did. -/
def expandRisesSpec : ChangeSpec := { name := "expandRises", fn := fun _ => fun
  | [d1, d2, d3] => { results := [.lit (.bool true)], args := [d1, d2, d3] }
  | _ => none }
def expandRisesRow : OpenClaim := { program := "ytfnajhpcbajhfabdoor", sum := "952ba39adc57e539b42a284d3ce3b1ffd371031417901f945b2c4ef9676a8dd2", func := "lammastide/lammastidelaw1.ExpandRises", spec := "expandRises", unfollowed := true, recurses := true, named := ["lammastide/api.ErrName", "lammastide/api.ErrBound", "lammastide/api.ErrShape", "lammastide/api.ErrOrder"], apart := false, laid := [("lammastide/api.ErrBound", laid_lammastide_api_ErrBound), ("lammastide/api.ErrShape", laid_lammastide_api_ErrShape), ("lammastide/api.ErrName", laid_lammastide_api_ErrName), ("lammastide/api.ErrOrder", laid_lammastide_api_ErrOrder)] }
def ExpandRisesSaid : Prop := expandRisesRow.holds Tryd.pinned (OpenSpec.ofChange expandRisesSpec)

/-- ITS FALSE NEIGHBOUR: 'it returns false'. Refute it at one input. -/
def expandRisesWrong : ChangeSpec := { name := "expandRises", fn := fun _ => fun
  | [d1, d2, d3] => { results := [.lit (.bool false)], args := [d1, d2, d3] }
  | _ => none }
def ExpandRisesWrongFalsely : Prop := expandRisesRow.holds Tryd.pinned (OpenSpec.ofChange expandRisesWrong)

/-- 'lammastidelaw1.ExpandCounts': WHATEVER THE INPUT: true; the input reads as it did. -/
def expandCountsSpec : ChangeSpec := { name := "expandCounts", fn := fun _ => fun
  | [d1, d2, d3, d4] => { results := [.lit (.bool true)], args := [d1, d2, d3, d4] }
  | _ => none }
def expandCountsRow : OpenClaim := { program := "ytfnajhpcbajhfabdoor", sum := "952ba39adc57e539b42a284d3ce3b1ffd371031417901f945b2c4ef9676a8dd2", func := "lammastide/lammastidelaw1.ExpandCounts", spec := "expandCounts", unfollowed := true, recurses := true, named := ["lammastide/api.ErrName", "lammastide/api.ErrBound", "lammastide/api.ErrShape", "lammastide/api.ErrOrder"], apart := false, laid := [("lammastide/api.ErrBound", laid_lammastide_api_ErrBound), ("lammastide/api.ErrShape", laid_lammastide_api_ErrShape), ("lammastide/api.ErrName", laid_lammastide_api_ErrName), ("lammastide/api.ErrOrder", laid_lammastide_api_ErrOrder)] }
def ExpandCountsSaid : Prop := expandCountsRow.holds Tryd.pinned (OpenSpec.ofChange expandCountsSpec)

/-- ITS FALSE NEIGHBOUR: 'it returns false'. Refute it at one input. -/
def expandCountsWrong : ChangeSpec := { name := "expandCounts", fn := fun _ => fun
  | [d1, d2, d3, d4] => { results := [.lit (.bool false)], args := [d1, d2, d3, d4] }
  | _ => none }
def ExpandCountsWrongFalsely : Prop := expandCountsRow.holds Tryd.pinned (OpenSpec.ofChange expandCountsWrong)

/- THE SECOND FORM. 'bulk': how many values and letters a reading holds, each counted each time it is reached (what is shared counts as often as it is met; a slice's spare places count too). A statement '..UptoSaid' is the law's where the arguments, and the package variables that the reading takes, are together of bulk at most 1048576: NARROWER than '..Said'. Prove '..Said' where nothing that the law and all that it calls make is longer than what came in: it says more and counts as full. Else prove '..UptoSaid'. A law counts once. -/
mutual
def uptoBulk {H : Type} : DataW H → Nat
  | .lit (.string bytes) => bytes.length + 1
  | .lit _ => 1
  | .nil => 1
  | .ptr d => uptoBulk d + 1
  | .slice elems spare => uptoBulkAll elems + uptoBulkAll spare + 1
  | .agg parts => uptoBulkAll parts + 1
  | .iface _ d => uptoBulk d + 1
  | .map entries => uptoBulkEntries entries + 1
  | .held _ => 1
def uptoBulkAll {H : Type} : List (DataW H) → Nat
  | [] => 0
  | d :: r => uptoBulk d + uptoBulkAll r
def uptoBulkEntries {H : Type} : List (Lit × DataW H) → Nat
  | [] => 0
  | x :: r => uptoBulkEntry x + uptoBulkEntries r
def uptoBulkEntry {H : Type} : Lit × DataW H → Nat
  | (.string bytes, d) => bytes.length + uptoBulk d + 1
  | (_, d) => uptoBulk d + 1
 end
def uptoSmall : (H : Type) → List (DataW H) → Bool := fun _ ds => decide (uptoBulkAll ds ≤ 1048576)
def OpenSpec.upto (s : _root_.Go.ChangeSpec) : _root_.Go.OpenSpec := { _root_.Go.OpenSpec.ofChange s with cond := some uptoSmall }

/-- 'lammastidelaw1.ExpandDays', WHERE WHAT IT READS IS OF BULK AT MOST 1048576: true; the input reads as it did. -/
def expandDaysUptoRow : OpenClaim := { program := "ytfnajhpcbajhfabdoor", sum := "952ba39adc57e539b42a284d3ce3b1ffd371031417901f945b2c4ef9676a8dd2", func := "lammastide/lammastidelaw1.ExpandDays", spec := "expandDays", inPlace := ["internal/reflectlite.ValueOf", "(internal/reflectlite.Value).Type", "(internal/reflectlite.Value).IsNil", "internal/reflectlite.TypeOf", "(internal/reflectlite.Value).Elem", "(internal/reflectlite.Value).Set"], unfollowed := true, recurses := true, named := ["lammastide/api.ErrName", "lammastide/api.ErrBound", "lammastide/api.ErrShape", "lammastide/api.ErrOrder", "lammastide/api.ErrFull", "lammastide/api.ErrText", "lammastide/api.ErrNone", "lammastide/api.ErrExist", "lammastide/api.ErrStale", "lammastide/api.ErrClash", "lammastide/api.ErrOff", "errors.errorType"], apart := false, laid := [("errors.errorType", laid_errors_errorType), ("lammastide/api.ErrText", laid_lammastide_api_ErrText), ("lammastide/api.ErrBound", laid_lammastide_api_ErrBound), ("lammastide/api.ErrShape", laid_lammastide_api_ErrShape), ("lammastide/api.ErrName", laid_lammastide_api_ErrName), ("lammastide/api.ErrNone", laid_lammastide_api_ErrNone), ("lammastide/api.ErrExist", laid_lammastide_api_ErrExist), ("lammastide/api.ErrFull", laid_lammastide_api_ErrFull), ("lammastide/api.ErrOrder", laid_lammastide_api_ErrOrder), ("lammastide/api.ErrStale", laid_lammastide_api_ErrStale), ("lammastide/api.ErrClash", laid_lammastide_api_ErrClash), ("lammastide/api.ErrOff", laid_lammastide_api_ErrOff)], narrowed := true }
def ExpandDaysUptoSaid : Prop := expandDaysUptoRow.holds Tryd.pinned (OpenSpec.upto expandDaysSpec)

/-- 'lammastidelaw1.ExpandRises', WHERE WHAT IT READS IS OF BULK AT MOST 1048576: true; the input reads as it did. -/
def expandRisesUptoRow : OpenClaim := { program := "ytfnajhpcbajhfabdoor", sum := "952ba39adc57e539b42a284d3ce3b1ffd371031417901f945b2c4ef9676a8dd2", func := "lammastide/lammastidelaw1.ExpandRises", spec := "expandRises", unfollowed := true, recurses := true, named := ["lammastide/api.ErrName", "lammastide/api.ErrBound", "lammastide/api.ErrShape", "lammastide/api.ErrOrder"], apart := false, laid := [("lammastide/api.ErrBound", laid_lammastide_api_ErrBound), ("lammastide/api.ErrShape", laid_lammastide_api_ErrShape), ("lammastide/api.ErrName", laid_lammastide_api_ErrName), ("lammastide/api.ErrOrder", laid_lammastide_api_ErrOrder)], narrowed := true }
def ExpandRisesUptoSaid : Prop := expandRisesUptoRow.holds Tryd.pinned (OpenSpec.upto expandRisesSpec)

/-- 'lammastidelaw1.ExpandCounts', WHERE WHAT IT READS IS OF BULK AT MOST 1048576: true; the input reads as it did. -/
def expandCountsUptoRow : OpenClaim := { program := "ytfnajhpcbajhfabdoor", sum := "952ba39adc57e539b42a284d3ce3b1ffd371031417901f945b2c4ef9676a8dd2", func := "lammastide/lammastidelaw1.ExpandCounts", spec := "expandCounts", unfollowed := true, recurses := true, named := ["lammastide/api.ErrName", "lammastide/api.ErrBound", "lammastide/api.ErrShape", "lammastide/api.ErrOrder"], apart := false, laid := [("lammastide/api.ErrBound", laid_lammastide_api_ErrBound), ("lammastide/api.ErrShape", laid_lammastide_api_ErrShape), ("lammastide/api.ErrName", laid_lammastide_api_ErrName), ("lammastide/api.ErrOrder", laid_lammastide_api_ErrOrder)], narrowed := true }
def ExpandCountsUptoSaid : Prop := expandCountsUptoRow.holds Tryd.pinned (OpenSpec.upto expandCountsSpec)

end Rows
end Go.Proofs.YtfnajhpcbajhfabDoor
