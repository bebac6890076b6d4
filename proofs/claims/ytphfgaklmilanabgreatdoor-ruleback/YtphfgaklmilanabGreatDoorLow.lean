/- The error 'bound' and the library's table of powers, as they are carried along; small lemmas. -/
import Derived.Test.YtphfgaklmilanabGreatDoorTextW
namespace Go.Proofs.YtphfgaklmilanabGreatDoor
open Go.RowKit Cal

theorem below_then {a b c : World} (h : Below a.heap.size a b) (k : Below b.heap.size b c) : Below a.heap.size a c := h.trans (k.mono h.size)
theorem lt_of_cell {w : World} {b o : Nat} {v : Value} (h : w.cell? ⟨b, o, none⟩ = some v) : b < w.heap.size := by
  rcases Nat.lt_or_ge b w.heap.size with hl | hl
  · exact hl
  · simp [World.cell?, Array.getElem?_eq_none hl] at h
/-- the error 'bound', and the library's table -/
structure Env (ev : Addr) (w : World) : Prop where
  bound : w.cell? ⟨1, 0, none⟩ = some (.iface 131 (.pointer (some ev)))
  tab : Tab w
theorem Env.step {ev : Addr} {w w' : World} (g : Env ev w) (hb : Below w.heap.size w w') : Env ev w' :=
  ⟨by rw [hb.cell (p := ⟨1, 0, none⟩) (lt_of_cell g.bound)]; exact g.bound, g.tab.step hb⟩
end Go.Proofs.YtphfgaklmilanabGreatDoor
