/- The law PackJoins: two deltas of one text, one behind the other, make what they make, joined. -/
import Derived.Test.YtbocknocmggcpaaGreatDoorPkP
namespace Go.Proofs.YtbocknocmggcpaaGreatDoor
open Go Go.RowKit Go.Maps Cal Pk
attribute [local go_sem] Oper.semAt_some

theorem ap_closed : apK [104, 101, 108, 108, 111] [99, 49, 44, 51, 59, 105, 50, 58, 97, 98, 59] = (0, [101, 108, 108, 97, 98]) := by decide

theorem packed_any (sn : Nat → Addr) (w : World) (g : GlobA sn w) : Calls Tryz.prog 5 #[] w fun r w' => r = .returned (.bool true) ∧ Below w.heap.size w w' := by
  have A : Hid (Calls Tryz.prog 15 #[.string ⟨#[104, 101, 108, 108, 111]⟩, .string ⟨#[99, 49, 44, 51, 59, 105, 50, 58, 97, 98, 59]⟩] w fun r w' => r = .returned (.tuple #[.string ⟨#[101, 108, 108, 97, 98]⟩, .nilIface]) ∧ Below w.heap.size w w') := by
    have := apply_any [104, 101, 108, 108, 111] [99, 49, 44, 51, 59, 105, 50, 58, 97, 98, 59] sn w g (by simp) (by simp)
    rw [ap_closed] at this
    exact this
  clear g
  go_enter Tryz.func5, Tryz.ntmps5
  go_wp2_with (go_at_call 15; refine Calls.mono A.out ?_; rintro r w1 ⟨rfl, hb1⟩)
  go_ret
  exact ⟨rfl, hb1⟩

end Go.Proofs.YtbocknocmggcpaaGreatDoor
