/- The error 'bound' and the library's table of powers, as they are carried along; small lemmas. -/
import Derived.Test.YtfnajhpcbajhfaaDoorTextW
import Derived.Test.YtfnajhpcbajhfaaDoorExpL
namespace Go.Proofs.YtfnajhpcbajhfaaDoor
open Go.RowKit Cal

/-- the error 'bound', and the library's table -/
structure Env (ev : Addr) (w : World) : Prop where
  bound : w.cell? ⟨1, 0, none⟩ = some (.iface 56 (.pointer (some ev)))
  tab : Tab w
theorem Env.step {ev : Addr} {w w' : World} (g : Env ev w) (hb : Below w.heap.size w w') : Env ev w' :=
  ⟨by rw [hb.cell (p := ⟨1, 0, none⟩) (lt_of_cell g.bound)]; exact g.bound, g.tab.step hb⟩
end Go.Proofs.YtfnajhpcbajhfaaDoor
