/- Contracts of the document's own answer to days: MakeDay, DateOf, AddMonths. -/
import Derived.Test.YtbocknocmggcpaaGreatDoorRefW
namespace Go.Proofs.YtbocknocmggcpaaGreatDoor
open Go.RowKit Cal

theorem dim2 (k : Int) (h0 : 2000 ≤ k) (h1 : k ≤ 2199) : ((dim k 2 == 29) = true ∧ yd k = 366) ∨ ((dim k 2 == 29) = false ∧ yd k = 365) := by
  have h := dim_feb k h0 h1
  rcases lp_eq k with ⟨_, hl⟩ | ⟨_, hl⟩
  · exact Or.inl ⟨by simp; omega, by unfold yd; omega⟩
  · exact Or.inr ⟨by simp; omega, by unfold yd; omega⟩

end Go.Proofs.YtbocknocmggcpaaGreatDoor
