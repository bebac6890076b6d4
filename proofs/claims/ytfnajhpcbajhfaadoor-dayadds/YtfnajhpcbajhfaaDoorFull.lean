/- The errors of package api and the library's table in one; what coded answers at nil, at the error text and at the error bound. -/
import Derived.Test.YtfnajhpcbajhfaaDoorCode
import Derived.Test.YtfnajhpcbajhfaaDoorDated
namespace Go.Proofs.YtfnajhpcbajhfaaDoor
open Go.RowKit Cal

/-- the errors and the table -/
structure Full (s : Nat → Addr) (w : World) : Prop where
  sents : Sents s w
  tab : Tab w
theorem Full.env {s : Nat → Addr} {w : World} (g : Full s w) : Env (s 1) w := ⟨g.sents.c1, g.tab⟩
theorem Full.step {s : Nat → Addr} {w w' : World} (g : Full s w) (hb : Below w.heap.size w w') : Full s w' := ⟨g.sents.step hb, g.tab.step hb⟩
theorem coded_bound (s : Nat → Addr) (w : World) (g : Full s w) :
    Calls Tryd.prog 10 #[.iface 56 (.pointer (some (s 1))), .int .i64 2] w fun e w' => e = .returned (.bool true) ∧ Below w.heap.size w w' :=
  coded_err s 1 w g.sents (by omega)
theorem coded_text (s : Nat → Addr) (w : World) (g : Full s w) :
    Calls Tryd.prog 10 #[.iface 56 (.pointer (some (s 0))), .int .i64 1] w fun e w' => e = .returned (.bool true) ∧ Below w.heap.size w w' :=
  coded_err s 0 w g.sents (by omega)
theorem coded_none (w : World) :
    Calls Tryd.prog 10 #[.nilIface, .int .i64 0] w fun e w' => e = .returned (.bool true) ∧ w' = w := coded_nil 0 w
theorem not_vld {y m d : Int} (h : ¬ vld y m d) : d < 1 ∨ dim y m < d := by
  rcases Int.lt_or_le d 1 with a | a
  · exact Or.inl a
  · rcases Int.lt_or_le (dim y m) d with b | b
    · exact Or.inr b
    · have := dim_in y m (by omega)
      exact absurd ⟨this.1, this.2.1, this.2.2.1, this.2.2.2, a, b⟩ h
end Go.Proofs.YtfnajhpcbajhfaaDoor
