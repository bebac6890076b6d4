/- Contracts of package expand's makers of iterators, of its check, and of the candidates: an iterator that gives the candidates of a start and a rule that are well. -/
import Derived.Test.YthhjhfibpfonnaaGreatDoorExpI3
import Derived.Test.YthhjhfibpfonnaaGreatDoorExpG
namespace Go.Proofs.YthhjhfibpfonnaaGreatDoor
open Go Go.RowKit Go.Shelf Cal

/-- what an iterator of candidates reads -/
def RdC (sl : Value) (ds : List Int) (W : World) : Prop := Glob W ∧ Days W sl ds
/-- a maker has handed back an iterator that gives these days -/
def Cand (sl : Value) (ds cs : List Int) (w : World) (g : Nat) (lb : Array Value) (w' : World) : Prop :=
  Below w.heap.size w w' ∧ (∀ args v, (callFunc g args).run Tryz.prog v = .ok (.enter g args) v) ∧
    ∀ (aa bb : Nat) (W : World), bb + 2 ≤ aa → Below w'.heap.size w' W → Gives aa bb g lb (fun k => w.heap.size ≤ k ∧ k < w'.heap.size) (RdC sl ds) cs W

end Go.Proofs.YthhjhfibpfonnaaGreatDoor
