/- The iterator of package expand that goes by weeks. -/
import Derived.Test.YthhjhfibpfonnaaGreatDoorExpI2
import Derived.Test.YthhjhfibpfonnaaGreatDoorExpO
namespace Go.Proofs.YthhjhfibpfonnaaGreatDoor
open Go Go.RowKit Go.Shelf Cal
attribute [local go_sem] Oper.semAt_some

/-- the cells of a list of days -/
def Cls (w : World) (a : Option Addr) (ds : List Int) : Prop := ∀ (j : Nat) (h : j < ds.length), ∃ b : Nat, a = some ⟨b, 0, none⟩ ∧ b < w.heap.size ∧ w.cell? ⟨b, j, none⟩ = some (.int .i64 ds[j])
theorem Cls.step {w w' : World} {a : Option Addr} {ds : List Int} (h : Cls w a ds) (hb : Below w.heap.size w w') : Cls w' a ds := fun j hj => by
  obtain ⟨b, e, hl, hc⟩ := h j hj
  exact ⟨b, e, Nat.lt_of_lt_of_le hl hb.size, cell_step hc hb⟩

theorem wds_in {s : Int} {ds : List Int} (h : ∀ d ∈ ds, 0 ≤ d ∧ d ≤ 6) : ∀ d ∈ wds s ds, 0 ≤ d ∧ d ≤ 6 := by
  intro d hd
  unfold wds at hd
  split at hd
  · have : d = (s + 5) % 7 := by simpa using hd
    omega
  · exact h d hd
theorem wds_rise {s : Int} {ds : List Int} (h : Rise ds) : Rise (wds s ds) := by
  unfold wds
  split
  · intro i hi
    simp at hi
  · exact h

end Go.Proofs.YthhjhfibpfonnaaGreatDoor
