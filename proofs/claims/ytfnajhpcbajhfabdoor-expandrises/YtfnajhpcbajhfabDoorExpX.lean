/- The law's own closed fact: each second day. -/
import Derived.Test.YtfnajhpcbajhfabDoorExpN
namespace Go.Proofs.YtfnajhpcbajhfabDoor
open Go.RowKit Cal

theorem daily_is : (⟨#[100, 97, 105, 108, 121]⟩ : ByteArray).toList = dailyW := ByteArray.toList_eq _
theorem each_second : IsDays ⟨#[100, 97, 105, 108, 121]⟩ 2 [] 0 (-1) 10 (From (pD 10 2) 10) := by
  refine .inl ⟨?_, by decide, by decide, ?_⟩
  · refine ⟨.inr (.inl daily_is), ?_, by decide, by decide, by decide, fun h => ?_, fun _ => rfl, Or.inl rfl, fun i h => ?_⟩
    · intro d hd
      exact absurd hd (by show ¬ (d ∈ ([] : List Int)); simp)
    · exact absurd (daily_is.symm.trans h) (by decide)
    · exact absurd h (by show ¬ (i + 1 < 0); omega)
  · rw [cut_none]
    unfold cds cnd
    rw [if_pos daily_is]
theorem step2 (v : Int) (h0 : 10 ≤ v) (h1 : (v - 10) % 2 = 0) (h2 : v ≤ 73048) : From (pD 10 2) v = v :: From (pD 10 2) (v + 2) := daily_step (by decide) h0 h1 h2
theorem each_fourth : nthD (From (pD 10 2) 10) 3 = 16 ∧ nthB (From (pD 10 2) 10) 3 = true := by
  rw [step2 10 (by decide) (by decide) (by decide), step2 (10 + 2) (by decide) (by decide) (by decide), step2 (10 + 2 + 2) (by decide) (by decide) (by decide), step2 (10 + 2 + 2 + 2) (by decide) (by decide) (by decide)]
  generalize From (pD 10 2) (10 + 2 + 2 + 2 + 2) = t
  unfold nthD nthB
  refine ⟨?_, ?_⟩
  · rw [if_pos (by decide)]
    rfl
  · rw [decide_eq_true_iff]
    simp only [List.length_cons]
    omega

theorem expanded_any (w : World) (g : Glob w) :
    Calls Tryd.prog 6 #[] w fun r w' => r = .returned (.bool true) ∧ Below w.heap.size w w' := by
  have C := nth_any ⟨#[100, 97, 105, 108, 121]⟩ 2 (.slice none 0 0) 0 (-1) [] 10 3 _ w g (Days.nil w 0) each_second
  rw [each_fourth.1, each_fourth.2] at C
  unfold rv at C
  have CC : Hid (_) := C
  clear C
  go_enter Tryd.func6, Tryd.ntmps6
  go_wp2_with (go_at_call 12; refine Calls.mono CC.out ?_; rintro r w1 ⟨rfl, hb1⟩)
  go_ret
  exact ⟨rfl, hb1⟩
end Go.Proofs.YtfnajhpcbajhfabDoor
