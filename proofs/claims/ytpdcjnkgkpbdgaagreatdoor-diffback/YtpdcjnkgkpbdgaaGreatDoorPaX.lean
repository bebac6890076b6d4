/- The iterators of package expand that go by months, and the one of a single day. -/
import Derived.Test.YtpdcjnkgkpbdgaaGreatDoorExpIP
import Derived.Test.YtpdcjnkgkpbdgaaGreatDoorExpM2P
import Derived.Test.YtpdcjnkgkpbdgaaGreatDoorPbK
namespace Go.Proofs.YtpdcjnkgkpbdgaaGreatDoor
open Go Go.RowKit Go.Shelf Cal
attribute [local go_sem] Oper.semAt_some

end Go.Proofs.YtpdcjnkgkpbdgaaGreatDoor

/- The iterator of package expand that goes by weeks. -/
namespace Go.Proofs.YtpdcjnkgkpbdgaaGreatDoor
open Go Go.RowKit Go.Shelf Cal
attribute [local go_sem] Oper.semAt_some

/-- the cells of a list of days -/
def Cls (w : World) (a : Option Addr) (ds : List Int) : Prop := ∀ (j : Nat) (h : j < ds.length), ∃ b : Nat, a = some ⟨b, 0, none⟩ ∧ b < w.heap.size ∧ w.cell? ⟨b, j, none⟩ = some (.int .i64 ds[j])
theorem Cls.step {w w' : World} {a : Option Addr} {ds : List Int} (h : Cls w a ds) (hb : Below w.heap.size w w') : Cls w' a ds := fun j hj => by
  obtain ⟨b, e, hl, hc⟩ := h j hj
  exact ⟨b, e, Nat.lt_of_lt_of_le hl hb.size, cell_step hc hb⟩

end Go.Proofs.YtpdcjnkgkpbdgaaGreatDoor
