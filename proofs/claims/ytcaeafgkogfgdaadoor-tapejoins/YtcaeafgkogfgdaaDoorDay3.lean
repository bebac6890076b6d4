/- Contracts of package day's Add: months more and less; what is returned is the day of the same number in the month that many months on, where there is one, else nought and false. -/
import Derived.Test.YtcaeafgkogfgdaaDoorDay2
namespace Go.Proofs.YtcaeafgkogfgdaaDoor
open Go.RowKit Cal

/-- months from the first one on -/
def atM (y m : Int) : Int := (y - 2000) * 12 + m - 1
/-- the year and the month of a count of months -/
def yM (s : Int) : Int := 2000 + s / 12
def mM (s : Int) : Int := s % 12 + 1

theorem atM_bd {y m d : Int} (h : vld y m d) : 0 ≤ atM y m ∧ atM y m < 2400 := by
  obtain ⟨a, b, c, e, _, _⟩ := h; unfold atM; omega
theorem yM_atM {y m d : Int} (h : vld y m d) : yM (atM y m) = y ∧ mM (atM y m) = m := by
  obtain ⟨a, b, c, e, _, _⟩ := h; unfold atM yM mM; omega
theorem atM_yM (s : Int) : atM (yM s) (mM s) = s := by unfold atM yM mM; omega
theorem yM_in (s : Int) (h0 : 0 ≤ s) (h1 : s < 2400) : 2000 ≤ yM s ∧ yM s ≤ 2199 ∧ 1 ≤ mM s ∧ mM s ≤ 12 := by unfold yM mM; omega

end Go.Proofs.YtcaeafgkogfgdaaDoor
