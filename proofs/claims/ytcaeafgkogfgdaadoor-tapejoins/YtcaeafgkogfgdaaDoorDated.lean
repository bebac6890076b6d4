/- Contracts: the closed fact that every law of chapter 1 asks first (a leap day's number and text), and Add in one form for every count of months. -/
import Derived.Test.YtcaeafgkogfgdaaDoorLow
import Derived.Test.YtcaeafgkogfgdaaDoorDay3
namespace Go.Proofs.YtcaeafgkogfgdaaDoor
open Go.RowKit Cal

/-- is there a day so many months on? -/
def addB (y m d k : Int) : Bool := decide (0 ≤ atM y m + k ∧ atM y m + k < 2400 ∧ d ≤ dim (yM (atM y m + k)) (mM (atM y m + k)))
/-- which one -/
def addI (y m d k : Int) : Int := if addB y m d k = true then num (yM (atM y m + k)) (mM (atM y m + k)) d else 0
theorem addB_iff (y m d k : Int) : addB y m d k = true ↔ (0 ≤ atM y m + k ∧ atM y m + k < 2400 ∧ d ≤ dim (yM (atM y m + k)) (mM (atM y m + k))) := by unfold addB; simp
theorem addI_no {y m d k : Int} (h : addB y m d k = false) : addI y m d k = 0 := by unfold addI; rw [h]; rfl
theorem addI_yes {y m d k : Int} (h : addB y m d k = true) : addI y m d k = num (yM (atM y m + k)) (mM (atM y m + k)) d := by unfold addI; rw [if_pos h]
theorem add_vld {y m d k : Int} (h : vld y m d) (hb : addB y m d k = true) : vld (yM (atM y m + k)) (mM (atM y m + k)) d := by
  rw [addB_iff] at hb
  have hi := yM_in _ hb.1 hb.2.1
  exact ⟨hi.1, hi.2.1, hi.2.2.1, hi.2.2.2, h.2.2.2.2.1, hb.2.2⟩
theorem addB_two {y m d a : Int} (b : Int) : addB (yM (atM y m + a)) (mM (atM y m + a)) d b = addB y m d (a + b) := by
  unfold addB; rw [atM_yM, Int.add_assoc]
theorem addI_two {y m d a : Int} (b : Int) : addI (yM (atM y m + a)) (mM (atM y m + a)) d b = addI y m d (a + b) := by
  unfold addI; rw [addB_two, atM_yM, Int.add_assoc]
theorem addI_bd {y m d k : Int} (h : vld y m d) : 0 ≤ addI y m d k ∧ addI y m d k ≤ 73048 := by
  cases hb : addB y m d k with
  | true => rw [addI_yes hb]; exact num_bd (add_vld h hb)
  | false => rw [addI_no hb]; omega

end Go.Proofs.YtcaeafgkogfgdaaDoor
