/-
  NARROWER THAN 'FOR EVERY INPUT', by the rows' own cells (each row's printed sentence says how): BookOn: laid.
  DERIVED. THE GIVEN ROWS OF THIS SEAT. 1 by the template 'for every input the law returns true; each argument reads behind the call as it read before'; 0 by the template 'total and deterministic' (their statements: YtppckmahhmnjpaaGreatDoorTotals.lean).
  GIVEN WITH THE SEED: the statements are not yours to turn. If you find one false, say at which input.
  Laid BY PROGRAM, IN A SANDBOX (cutbox-rows.mjs): the forced cells as the released guide's own fill.sh prints them over the translation a311266dc187cbea… (all of the seat's roots in one cut). By AI agents, Wed Nov 11 2026. No macro, syntax, notation, axiom, sorry.
-/
import Derived.Test.YtppckmahhmnjpaaGreatDoorChecked
import GoSem.Claim
import GoSem.ClaimJoined
import GoSem.ClaimMapViews
import Derived.JoinedTies
import Derived.KernelRfl
namespace Go.Proofs.YtppckmahhmnjpaaGreatDoor
/- THE CELL 'sum', in the pinned program and in every row, IS THE sha256 OF THE DUMP (.gsa) THAT YtppckmahhmnjpaaGreatDoorProg.lean LOADS. Nothing in Lean hashes anything: it is a label: what it is worth is what the hold of that sum in a sandbox is worth. -/
noncomputable def Tryz.pinned : Pinned := { name := "ytppckmahhmnjpaagreatdoor", sum := "a311266dc187cbeac9a091f21de0b9b4d2495ab222c872b86f60ffe18da31435", checked := Tryz.checked }
namespace Rows
def none {H : Type} : Left H := { results := [], args := [] }

/- WHAT THE LISTED PACKAGE-LEVEL VARIABLES READ AS WHEN THE CALL BEGINS. Each datum BY PROGRAM (the guide's laid-datum.mjs) off the statement by which the dump's own 'gosem.cut.vars' lays the variable. In a bare row this is a premise. The card (YtppckmahhmnjpaaGreatDoorCards.lean) ties it to the program's text. -/
def laid_lammastide_api_ErrText {H : Type} : DataW H := .iface "*errors.errorString" (.ptr (.agg [.lit (.string [108, 97, 109, 109, 97, 115, 116, 105, 100, 101, 58, 32, 116, 101, 120, 116])]))
def laid_lammastide_api_ErrBound {H : Type} : DataW H := .iface "*errors.errorString" (.ptr (.agg [.lit (.string [108, 97, 109, 109, 97, 115, 116, 105, 100, 101, 58, 32, 98, 111, 117, 110, 100])]))
def laid_lammastide_api_ErrShape {H : Type} : DataW H := .iface "*errors.errorString" (.ptr (.agg [.lit (.string [108, 97, 109, 109, 97, 115, 116, 105, 100, 101, 58, 32, 115, 104, 97, 112, 101])]))
def laid_lammastide_api_ErrName {H : Type} : DataW H := .iface "*errors.errorString" (.ptr (.agg [.lit (.string [108, 97, 109, 109, 97, 115, 116, 105, 100, 101, 58, 32, 110, 97, 109, 101])]))
def laid_lammastide_api_ErrNone {H : Type} : DataW H := .iface "*errors.errorString" (.ptr (.agg [.lit (.string [108, 97, 109, 109, 97, 115, 116, 105, 100, 101, 58, 32, 110, 111, 110, 101])]))
def laid_lammastide_api_ErrExist {H : Type} : DataW H := .iface "*errors.errorString" (.ptr (.agg [.lit (.string [108, 97, 109, 109, 97, 115, 116, 105, 100, 101, 58, 32, 101, 120, 105, 115, 116])]))
def laid_lammastide_api_ErrFull {H : Type} : DataW H := .iface "*errors.errorString" (.ptr (.agg [.lit (.string [108, 97, 109, 109, 97, 115, 116, 105, 100, 101, 58, 32, 102, 117, 108, 108])]))
def laid_lammastide_api_ErrOrder {H : Type} : DataW H := .iface "*errors.errorString" (.ptr (.agg [.lit (.string [108, 97, 109, 109, 97, 115, 116, 105, 100, 101, 58, 32, 111, 114, 100, 101, 114])]))

/-- 'lammastidelaw2.BookOn': WHATEVER THE INPUT: true; the input reads as it did. -/
def bookOnSpec : ChangeSpec := { name := "bookOn", fn := fun _ => fun
  | [d1, d2, d3] => { results := [.lit (.bool true)], args := [d1, d2, d3] }
  | _ => none }
def bookOnRow : OpenClaim := { program := "ytppckmahhmnjpaagreatdoor", sum := "a311266dc187cbeac9a091f21de0b9b4d2495ab222c872b86f60ffe18da31435", func := "lammastide/lammastidelaw2.BookOn", spec := "bookOn", unfollowed := true, recurses := true, named := ["lammastide/api.ErrShape", "lammastide/api.ErrFull", "lammastide/api.ErrName", "lammastide/api.ErrText", "lammastide/api.ErrBound", "lammastide/api.ErrOrder", "lammastide/api.ErrExist", "lammastide/api.ErrNone"], apart := false, laid := [("lammastide/api.ErrText", laid_lammastide_api_ErrText), ("lammastide/api.ErrBound", laid_lammastide_api_ErrBound), ("lammastide/api.ErrShape", laid_lammastide_api_ErrShape), ("lammastide/api.ErrName", laid_lammastide_api_ErrName), ("lammastide/api.ErrNone", laid_lammastide_api_ErrNone), ("lammastide/api.ErrExist", laid_lammastide_api_ErrExist), ("lammastide/api.ErrFull", laid_lammastide_api_ErrFull), ("lammastide/api.ErrOrder", laid_lammastide_api_ErrOrder)] }
def BookOnSaid : Prop := bookOnRow.holds Tryz.pinned (OpenSpec.ofChange bookOnSpec)

/-- ITS FALSE NEIGHBOUR: 'it returns false'. Refute it at one input. -/
def bookOnWrong : ChangeSpec := { name := "bookOn", fn := fun _ => fun
  | [d1, d2, d3] => { results := [.lit (.bool false)], args := [d1, d2, d3] }
  | _ => none }
def BookOnWrongFalsely : Prop := bookOnRow.holds Tryz.pinned (OpenSpec.ofChange bookOnWrong)

/- THE SECOND FORM. 'bulk': how many values and letters a reading holds, each counted each time it is reached (what is shared counts as often as it is met; a slice's spare places count too). A statement '..UptoSaid' is the law's where the arguments, and the package variables that the reading takes, are together of bulk at most 1048576: NARROWER than '..Said'. Prove '..Said' where nothing that the law and all that it calls make is longer than what came in: it says more and counts as full. Else prove '..UptoSaid'. A law counts once. -/
mutual
def uptoBulk {H : Type} : DataW H → Nat
  | .lit (.string bytes) => bytes.length + 1
  | .lit _ => 1
  | .nil => 1
  | .ptr d => uptoBulk d + 1
  | .slice elems spare => uptoBulkAll elems + uptoBulkAll spare + 1
  | .agg parts => uptoBulkAll parts + 1
  | .iface _ d => uptoBulk d + 1
  | .map entries => uptoBulkEntries entries + 1
  | .held _ => 1
def uptoBulkAll {H : Type} : List (DataW H) → Nat
  | [] => 0
  | d :: r => uptoBulk d + uptoBulkAll r
def uptoBulkEntries {H : Type} : List (Lit × DataW H) → Nat
  | [] => 0
  | x :: r => uptoBulkEntry x + uptoBulkEntries r
def uptoBulkEntry {H : Type} : Lit × DataW H → Nat
  | (.string bytes, d) => bytes.length + uptoBulk d + 1
  | (_, d) => uptoBulk d + 1
 end
def uptoSmall : (H : Type) → List (DataW H) → Bool := fun _ ds => decide (uptoBulkAll ds ≤ 1048576)
def OpenSpec.upto (s : _root_.Go.ChangeSpec) : _root_.Go.OpenSpec := { _root_.Go.OpenSpec.ofChange s with cond := some uptoSmall }

/-- 'lammastidelaw2.BookOn', WHERE WHAT IT READS IS OF BULK AT MOST 1048576: true; the input reads as it did. -/
def bookOnUptoRow : OpenClaim := { program := "ytppckmahhmnjpaagreatdoor", sum := "a311266dc187cbeac9a091f21de0b9b4d2495ab222c872b86f60ffe18da31435", func := "lammastide/lammastidelaw2.BookOn", spec := "bookOn", unfollowed := true, recurses := true, named := ["lammastide/api.ErrShape", "lammastide/api.ErrFull", "lammastide/api.ErrName", "lammastide/api.ErrText", "lammastide/api.ErrBound", "lammastide/api.ErrOrder", "lammastide/api.ErrExist", "lammastide/api.ErrNone"], apart := false, laid := [("lammastide/api.ErrText", laid_lammastide_api_ErrText), ("lammastide/api.ErrBound", laid_lammastide_api_ErrBound), ("lammastide/api.ErrShape", laid_lammastide_api_ErrShape), ("lammastide/api.ErrName", laid_lammastide_api_ErrName), ("lammastide/api.ErrNone", laid_lammastide_api_ErrNone), ("lammastide/api.ErrExist", laid_lammastide_api_ErrExist), ("lammastide/api.ErrFull", laid_lammastide_api_ErrFull), ("lammastide/api.ErrOrder", laid_lammastide_api_ErrOrder)], narrowed := true }
def BookOnUptoSaid : Prop := bookOnUptoRow.holds Tryz.pinned (OpenSpec.upto bookOnSpec)

end Rows
end Go.Proofs.YtppckmahhmnjpaaGreatDoor
