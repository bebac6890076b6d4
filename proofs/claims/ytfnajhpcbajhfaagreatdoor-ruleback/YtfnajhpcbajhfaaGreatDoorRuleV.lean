/- What package rule's text and reader read: errors, the days' names, the library's table. -/
import Derived.Test.YtfnajhpcbajhfaaGreatDoorLow
import Derived.Test.YtfnajhpcbajhfaaGreatDoorRuleM2
import Derived.Test.YtfnajhpcbajhfaaGreatDoorExpC
namespace Go.Proofs.YtfnajhpcbajhfaaGreatDoor
open Go.RowKit Cal

/-- what package rule reads -/
structure GlobR (w : World) : Prop where
  name : ∃ p, w.cell? ⟨0, 0, none⟩ = some (.iface 132 (.pointer (some p)))
  bound : ∃ p, w.cell? ⟨1, 0, none⟩ = some (.iface 132 (.pointer (some p)))
  shape : ∃ p, w.cell? ⟨2, 0, none⟩ = some (.iface 132 (.pointer (some p)))
  order : ∃ p, w.cell? ⟨3, 0, none⟩ = some (.iface 132 (.pointer (some p)))
  text : ∃ p, w.cell? ⟨4, 0, none⟩ = some (.iface 132 (.pointer (some p)))
  days : ∀ d : Nat, d < 7 → w.cell? ⟨5, d, none⟩ = some (.string ⟨(nm d).toArray⟩)
  tab : Tab w
theorem GlobR.step {w w' : World} (g : GlobR w) (hb : Below w.heap.size w w') : GlobR w' := by
  obtain ⟨⟨p1, h1⟩, ⟨p2, h2⟩, ⟨p3, h3⟩, ⟨p4, h4⟩, ⟨p5, h5⟩, h6, h7⟩ := g
  exact ⟨⟨p1, cell_step h1 hb⟩, ⟨p2, cell_step h2 hb⟩, ⟨p3, cell_step h3 hb⟩, ⟨p4, cell_step h4 hb⟩, ⟨p5, cell_step h5 hb⟩, fun d hd => cell_step (h6 d hd) hb, h7.step hb⟩
theorem GlobR.glob {w : World} (g : GlobR w) : Glob w := ⟨g.name, g.bound, g.shape, g.order⟩
end Go.Proofs.YtfnajhpcbajhfaaGreatDoor
