/- The iterator of strings.SplitSeq at a separator of one sign: it gives a text's pieces, one by one; between two rounds it writes its own variable. -/
import Derived.Test.YtckdjamdpellaaaGreatDoorRF
import Derived.Test.YtckdjamdpellaaaGreatDoorRuleM2
import Derived.Test.YtckdjamdpellaaaGreatDoorShelf2
import Derived.Shelf.Abstract
import Derived.Shelf.RegionOpen
import Derived.WalkKit
import Derived.OwnWalkIn
import Derived.TacticsInMore
import Derived.LoopNIn
import Derived.LoopIn
namespace Go.Proofs.YtckdjamdpellaaaGreatDoor
open Go Go.RowKit Go.Shelf Cal
attribute [local go_sem] Oper.semAt_some

theorem ba_ext {a b : ByteArray} (h : a.data.toList = b.data.toList) : a = b := by
  obtain ⟨⟨x⟩⟩ := a
  obtain ⟨⟨y⟩⟩ := b
  have : x = y := h
  subst this
  rfl

/-- what is left of the text, read off the world -/
def leftOf (W : World) (B : Nat) : Nat := match W.cell? ⟨B, 0, none⟩ with
  | some (.string s) => s.size + 1
  | _ => 0

/-- the iterator's three variables -/
structure Its (W : World) (Bs Bp Bv : Nat) (s : ByteArray) (c : UInt8) : Prop where
  s : Boxed W Bs 9 (.string s)
  p : Boxed W Bp 9 (.string ⟨#[c]⟩)
  v : Boxed W Bv 3 (.int .i64 0)

theorem leftOf_eq {W : World} {B : Nat} {s : ByteArray} {t : TypeId} (h : Boxed W B t (.string s)) : leftOf W B = s.size + 1 := by
  unfold leftOf; rw [h.cell]

end Go.Proofs.YtckdjamdpellaaaGreatDoor
