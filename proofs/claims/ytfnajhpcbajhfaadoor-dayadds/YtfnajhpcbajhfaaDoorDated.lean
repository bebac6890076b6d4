/- Contracts: the closed fact that every law of chapter 1 asks first (a leap day's number and text), and Add in one form for every count of months. -/
import Derived.Test.YtfnajhpcbajhfaaDoorLow
import Derived.Test.YtfnajhpcbajhfaaDoorDay3
namespace Go.Proofs.YtfnajhpcbajhfaaDoor
open Go.RowKit Cal

theorem dated_any (ev : Addr) (w : World) (g : Env ev w) :
    Calls Tryd.prog 12 #[] w fun e w' => e = .returned (.bool true) ∧ Below w.heap.size w w' := by
  have hv : vld 2000 2 29 := by unfold vld; decide
  have hn : num 2000 2 29 = 59 := by decide
  have hm := fun w => make_ok 2000 2 29 w hv
  rw [hn] at hm
  have ht := text_ok 59 2000 2 29 w hv hn g.tab
  rw [show txt 2000 2 29 = [50, 48, 48, 48, 45, 48, 50, 45, 50, 57] by decide] at ht
  have HM : Hid (_) := hm
  have HT : Hid (Calls _ _ _ _ _) := ht
  clear hm ht hn g
  go_enter Tryd.func12, Tryd.ntmps12
  go_wp2_with (first
    | (go_at_call 13; refine (HM.out _).mono ?_; rintro e w' ⟨rfl, rfl⟩)
    | (go_at_call 17; refine (Calls.mono (Hid.out HT) ?_); rintro e w' ⟨rfl, hb⟩))
  go_ret
  exact ⟨rfl, hb⟩

/-- is there a day so many months on? -/
def addB (y m d k : Int) : Bool := decide (0 ≤ atM y m + k ∧ atM y m + k < 2400 ∧ d ≤ dim (yM (atM y m + k)) (mM (atM y m + k)))
/-- which one -/
def addI (y m d k : Int) : Int := if addB y m d k = true then num (yM (atM y m + k)) (mM (atM y m + k)) d else 0
theorem addB_iff (y m d k : Int) : addB y m d k = true ↔ (0 ≤ atM y m + k ∧ atM y m + k < 2400 ∧ d ≤ dim (yM (atM y m + k)) (mM (atM y m + k))) := by unfold addB; simp
theorem addI_no {y m d k : Int} (h : addB y m d k = false) : addI y m d k = 0 := by unfold addI; rw [h]; rfl
theorem addI_yes {y m d k : Int} (h : addB y m d k = true) : addI y m d k = num (yM (atM y m + k)) (mM (atM y m + k)) d := by unfold addI; rw [if_pos h]
theorem add_vld {y m d k : Int} (h : vld y m d) (hb : addB y m d k = true) : vld (yM (atM y m + k)) (mM (atM y m + k)) d := by
  rw [addB_iff] at hb
  have hi := yM_in _ hb.1 hb.2.1
  exact ⟨hi.1, hi.2.1, hi.2.2.1, hi.2.2.2, h.2.2.2.2.1, hb.2.2⟩
theorem addB_two {y m d a : Int} (b : Int) : addB (yM (atM y m + a)) (mM (atM y m + a)) d b = addB y m d (a + b) := by
  unfold addB; rw [atM_yM, Int.add_assoc]
theorem addI_two {y m d a : Int} (b : Int) : addI (yM (atM y m + a)) (mM (atM y m + a)) d b = addI y m d (a + b) := by
  unfold addI; rw [addB_two, atM_yM, Int.add_assoc]
theorem addI_bd {y m d k : Int} (h : vld y m d) : 0 ≤ addI y m d k ∧ addI y m d k ≤ 73048 := by
  cases hb : addB y m d k with
  | true => rw [addI_yes hb]; exact num_bd (add_vld h hb)
  | false => rw [addI_no hb]; omega

theorem add_any (n k y m d : Int) (ev : Addr) (w : World) (h : vld y m d) (hn : num y m d = n) (g : Env ev w) :
    Calls Tryd.prog 24 #[.int .i64 n, .int .i64 k] w fun e w' => e = .returned (.tuple #[.int .i64 (addI y m d k), .bool (addB y m d k)]) ∧ Below w.heap.size w w' := by
  cases hb : addB y m d k with
  | true =>
    rw [addI_yes hb]
    rw [addB_iff] at hb
    exact add_ok n k y m d w h hn hb.1 hb.2.1 hb.2.2
  | false =>
    rw [addI_no hb]
    rw [← Bool.not_eq_true, addB_iff] at hb
    by_cases h1 : 0 ≤ atM y m + k ∧ atM y m + k < 2400
    · exact add_bad n k y m d ev w h hn h1.1 h1.2 (by omega) g.bound
    · refine (add_out n k y m d w h hn (by omega)).mono ?_
      rintro e w' ⟨rfl, rfl⟩
      exact ⟨rfl, Below.refl _ _⟩
end Go.Proofs.YtfnajhpcbajhfaaDoor
