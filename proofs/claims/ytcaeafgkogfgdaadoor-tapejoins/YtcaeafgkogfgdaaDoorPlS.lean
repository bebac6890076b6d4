/- strings.Builder: the library's contracts of WriteString and String, laid at this program. -/
import Derived.Test.YtcaeafgkogfgdaaDoorPlB
import Derived.Shelf.Strings.BuilderK
namespace Go.Proofs
open Go.Shelf
end Go.Proofs
namespace Go.Proofs.YtcaeafgkogfgdaaDoor
open Go Go.RowKit Go.Shelf Cal

theorem pb_step {T e : TypeId} {B b : Nat} {l : List Value} {w w' : World} (h : Lib.IsBuilderF T e B b l w) (hb : Below w.heap.size w w') : Lib.IsBuilderF T e B b l w' := by
  have key : ∀ p, Lib.BuilderAtF T e B b p l w → Lib.BuilderAtF T e B b p l w' := fun p ⟨h1, v, h2, h3, h4⟩ => ⟨h1, v, (hb.block _ (Array.getElem?_eq_some_iff.1 h2).1).trans h2, h3.kept (grown_below hb none) (by cases v.ownBlock <;> simp), h4⟩
  exact h.imp (key _) (key _)
theorem pl_both {B : Nat} {a b c : World} (h : Below B a b) (k : Below B b c) : Below B a c := ⟨k.os.trans h.os, k.tape.trans h.tape, k.output.trans h.output, Nat.le_trans h.size k.size, fun i hi => (k.block i hi).trans (h.block i hi)⟩
end Go.Proofs.YtcaeafgkogfgdaaDoor
