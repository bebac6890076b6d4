/- Contracts of package day's twoDigits and Text: a day's text is the date's ten signs; no day has the empty one. -/
import Derived.Test.YtcaeafgkogfgdaaDoorDay2
import Derived.Test.YtcaeafgkogfgdaaDoorTxt
import Derived.Test.YtcaeafgkogfgdaaDoorShelf
import Derived.Lib.SmallJoins
namespace Go.Proofs.YtcaeafgkogfgdaaDoor
open Go.RowKit Cal

theorem grow_below (w : World) (q : Nat) (os : Array Obj) : Below w.heap.size w (Sort.grow (w.drewN q) os) :=
  ⟨rfl, rfl, rfl, by simp [Sort.grow], fun k hk => by
    show (w.heap ++ os)[k]? = w.heap[k]?
    rw [Array.getElem?_append_left hk]⟩
theorem ret_str {a b : ByteArray} (h : a = b) : Ending.returned (.string a) = .returned (.string b) := by rw [h]
theorem gPow : Tryd.prog.globalNamed "internal/strconv.uint64pow10" = some 5 := by kernel_rfl
/-- the library's table of powers of ten -/
def Tab (w : World) : Prop := Lib.TabIs Tryd.prog w "internal/strconv.uint64pow10" .u64 Lib.pow10Tab
theorem Tab.step {w w' : World} (h : Tab w) (hb : Below w.heap.size w w') : Tab w' := Joins.tab_stays gPow h hb (Nat.le_refl _)

theorem itoa_year (y : Int) (w : World) (h0 : 1000 ≤ y) (h1 : y ≤ 9999) (ht : Tab w) :
    Calls Tryd.prog 20 #[.int .i64 y] w fun e w' => e = .returned (.string ⟨(four y).toArray⟩) ∧ Below w.heap.size w w' := by
  refine (Tryd.strconv_Itoa y (by omega) (by omega) w ht).mono ?_
  rintro e w' ⟨rfl, k, os, rfl⟩
  exact ⟨by rw [itoa_four y h0 h1], grow_below _ _ _⟩

end Go.Proofs.YtcaeafgkogfgdaaDoor
