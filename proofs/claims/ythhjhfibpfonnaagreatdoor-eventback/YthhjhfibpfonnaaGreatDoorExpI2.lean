/- The iterators of package expand that go by months, and the one of a single day. -/
import Derived.Test.YthhjhfibpfonnaaGreatDoorExpI
import Derived.Test.YthhjhfibpfonnaaGreatDoorExpM2
namespace Go.Proofs.YthhjhfibpfonnaaGreatDoor
open Go Go.RowKit Go.Shelf Cal
attribute [local go_sem] Oper.semAt_some

/-- where the months' walk stands -/
def mpos (j mo : Int) : Int := F (min (j + mo) 2400)
theorem mpos_zero {j : Int} (h : j < 2400) : mpos j 0 = F j := by unfold mpos; rw [Int.add_zero, show min j 2400 = j by omega]
theorem mpos_in {j mo : Int} (h : j + mo < 2400) : mpos j mo = F (j + mo) := by unfold mpos; rw [show min (j + mo) 2400 = j + mo by omega]
theorem mpos_out {j mo : Int} (h : 2400 ≤ j + mo) : mpos j mo = 73049 := by unfold mpos; rw [show min (j + mo) 2400 = 2400 by omega, F_last]
theorem mpos_on {j mo e : Int} : mpos j (mo + e) = F (min (j + mo + e) 2400) := by unfold mpos; rw [Int.add_assoc]

end Go.Proofs.YthhjhfibpfonnaaGreatDoor
