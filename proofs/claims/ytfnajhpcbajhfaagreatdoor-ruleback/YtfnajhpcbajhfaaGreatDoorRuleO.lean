/- Contracts of the law's own LongRule, OwnRule and ruled. -/
import Derived.Test.YtfnajhpcbajhfaaGreatDoorRuleW
import Derived.Test.YtfnajhpcbajhfaaGreatDoorRuleY
import Derived.Test.YtfnajhpcbajhfaaGreatDoorRuleS
import Derived.Test.YtfnajhpcbajhfaaGreatDoorExpO
import Derived.Laws.AppendOwnNone
namespace Go.Proofs.YtfnajhpcbajhfaaGreatDoor
open Go.RowKit Cal

theorem ruled_any (w : World) (g : GlobR w) :
    Calls Tryz.prog 4 #[] w fun r w' => r = .returned (.bool true) ∧ Below w.heap.size w w' := by
  have hw : Well (rd ⟨#[119, 101, 101, 107, 108, 121]⟩ 2 [0, 4] 5 (-1)) := by
    refine ⟨?_, ?_, by decide, by decide, by decide, fun h => ?_, fun h => ?_, Or.inr rfl, ?_⟩
    · right; right; left; exact ByteArray.toList_eq _
    · intro d hd
      have hd' : d ∈ ([0, 4] : List Int) := hd
      simp at hd'
      rcases hd' with rfl | rfl <;> decide
    · exact absurd ((ByteArray.toList_eq _).symm.trans h) (by decide)
    · exact absurd (ByteArray.toList_eq _) h
    · intro i h
      have h' : i + 1 < 2 := h
      have : i = 0 := by omega
      subst this
      show (0 : Int) < 4
      decide
  have hu : UT (rd ⟨#[119, 101, 101, 107, 108, 121]⟩ 2 [0, 4] 5 (-1)) [] := Or.inl ⟨rfl, rfl⟩
  have hd : ∀ (w' : World), Below w.heap.size w w' → Days (w'.alloc (.cells #[.int .i64 0, .int .i64 4] 3)) (.slice (some ⟨w'.heap.size, 0, none⟩) 2 2) [0, 4] := fun w' _ =>
    ow_days (base := 0) (World.ownsRow_lit (size := 1) w' #[.int .i64 0, .int .i64 4] 2 (Nat.zero_le _) (by unfold maxLen; omega) rfl) (by decide)
  have hx : bs (rtext (rd ⟨#[119, 101, 101, 107, 108, 121]⟩ 2 [0, 4] 5 (-1)) []) = ⟨#[119, 101, 101, 107, 108, 121, 32, 50, 32, 109, 111, 44, 102, 114, 32, 99, 111, 117, 110, 116, 32, 53]⟩ := by
    unfold rtext words
    rw [if_neg (show ¬ (rd ⟨#[119, 101, 101, 107, 108, 121]⟩ 2 [0, 4] 5 (-1)).freq = onceW from fun h => absurd ((ByteArray.toList_eq _).symm.trans h) (by decide)), days_some (by decide), count_some (by decide), until_nil rfl]
    have e1 : (rd ⟨#[119, 101, 101, 107, 108, 121]⟩ 2 [0, 4] 5 (-1)).freq = [119, 101, 101, 107, 108, 121] := ByteArray.toList_eq _
    have e2 : Lib.itoa (rd ⟨#[119, 101, 101, 107, 108, 121]⟩ 2 [0, 4] 5 (-1)).every = [50] := by
      show Lib.itoa ((2 : Nat) : Int) = _
      rw [Lib.itoa_nonneg, Lib.decDigits_one (by omega)]; rfl
    have e3 : Lib.itoa 5 = [53] := by
      show Lib.itoa ((5 : Nat) : Int) = _
      rw [Lib.itoa_nonneg, Lib.decDigits_one (by omega)]; rfl
    rw [e1, e2, e3]
    rfl
  have C := rtext_any ⟨#[119, 101, 101, 107, 108, 121]⟩ 2 _ 5 (-1) [0, 4] [] _ (g.step (below_alloc w (.cells #[.int .i64 0, .int .i64 4] 3))) (hd w (Below.refl _ _)) hw hu
  rw [hx] at C
  have CC : Hid (_) := C
  clear C hx hd hu hw g
  go_enter Tryz.func4, Tryz.ntmps4
  go_wp2_with (go_at_call 9; refine Calls.mono CC.out ?_; rintro r w1 ⟨rfl, hb1⟩)
  go_ret
  exact ⟨rfl, below_then (below_alloc _ _) hb1⟩
end Go.Proofs.YtfnajhpcbajhfaaGreatDoor
