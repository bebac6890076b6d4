/- What the tape laws' rows give: the errors, the table; a list of texts as an argument. (by wip/gen/mkFTC.py) -/
import Derived.Test.YtcaeafgkogfgdaaDoorCards
import Derived.Test.YtcaeafgkogfgdaaDoorTie
import Derived.Test.YtcaeafgkogfgdaaDoorFrame
import Derived.Test.YtcaeafgkogfgdaaDoorLawTJ
import Derived.SliceStrings
import Derived.Lay
import Derived.WideKeyArgs
import Derived.DataShut
namespace Go.Proofs.YtcaeafgkogfgdaaDoor
open Go.ChangeShapes Go.WideShapes Go.ChangeAt Go.RowKit Cal

theorem tgShape : Tryd.prog.globalNamed "lammastide/api.ErrShape" = some 2 := by kernel_rfl
theorem ttShape : (Tryd.prog.globals[2]?).map (·.type) = some 26 := by kernel_rfl
theorem tgFull : Tryd.prog.globalNamed "lammastide/api.ErrFull" = some 3 := by kernel_rfl
theorem ttFull : (Tryd.prog.globals[3]?).map (·.type) = some 26 := by kernel_rfl
theorem tgOff : Tryd.prog.globalNamed "lammastide/api.ErrOff" = some 1 := by kernel_rfl
theorem ttOff : (Tryd.prog.globals[1]?).map (·.type) = some 26 := by kernel_rfl
theorem tgRng : Tryd.prog.globalNamed "strconv.ErrRange" = some 7 := by kernel_rfl
theorem ttRng : (Tryd.prog.globals[7]?).map (·.type) = some 26 := by kernel_rfl
theorem tgSyn : Tryd.prog.globalNamed "strconv.ErrSyntax" = some 6 := by kernel_rfl
theorem ttSyn : (Tryd.prog.globals[6]?).map (·.type) = some 26 := by kernel_rfl
theorem lt_of_addrT {w : World} {a : Addr} {v : Value} (h : w.cell? a = some v) : a.block < w.heap.size := by
  rcases Nat.lt_or_ge a.block w.heap.size with hl | hl
  · exact hl
  · simp [World.cell?, Array.getElem?_eq_none hl] at h
theorem open_textsT {H : Type} {enc : TypeId × Value → H} {W : World} {fuel : Nat} {v : Value} {x : DataW H × List MemPlace} (hf : DataW.trod enc Tryd.prog W 0 (fun _ => true) true fuel 22 [v] = some x) : ∃ xs, TxA W v xs := by
  rcases open_strings Tryd.underlying22 Tryd.underlying9 cStr hf with ⟨e, _⟩ | ⟨a, len, cap, ss, e, _, hlc, _, hz, _, hc, _⟩
  · cases e
    exact ⟨[], none, 0, rfl, by simp, fun j h => by simp at h⟩
  · cases e
    rw [if_pos rfl] at hz
    have hl : (ss.take len).length = len := by rw [List.length_take]; omega
    refine ⟨ss.take len, some a, cap, by rw [hl], by omega, fun j hj => ⟨a, rfl, ?_, ?_⟩⟩
    · have := lt_of_addrT (hc j (by omega))
      rwa [addrT_block] at this
    · rw [hc j (by omega), List.getElem_take]
      congr 2
      rw [List.getD_eq_getElem?_getD, List.getElem?_eq_getElem (by omega)]
      rfl
end Go.Proofs.YtcaeafgkogfgdaaDoor
