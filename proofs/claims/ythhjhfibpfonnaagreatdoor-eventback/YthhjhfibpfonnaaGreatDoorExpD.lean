/- The days of a start and a rule: the iterator that package expand's days hands back gives just those that a count and an end leave of the candidates; none where one of the two is not well. -/
import Derived.Test.YthhjhfibpfonnaaGreatDoorExpJ
namespace Go.Proofs.YthhjhfibpfonnaaGreatDoor
open Go Go.RowKit Go.Shelf Cal
attribute [local go_sem] Oper.semAt_some

/-- what is left behind k days -/
def cutK (c : Int) (k : Nat) (u : Int) (l : List Int) : List Int := if 0 < c then (cutU u l).take (c - k).toNat else cutU u l
theorem cutK_zero (c u : Int) (l : List Int) : cut c u l = cutK c 0 u l := by unfold cut cutK; simp
theorem cutU_nil (u : Int) : cutU u [] = [] := by unfold cutU; split <;> rfl
theorem cutK_nil (c : Int) (k : Nat) (u : Int) : cutK c k u [] = [] := by unfold cutK; rw [cutU_nil]; split <;> simp
theorem cutK_over {c : Int} {k : Nat} {u x : Int} {r : List Int} (h0 : 0 ≤ u) (h : u < x) : cutK c k u (x :: r) = [] := by
  have : cutU u (x :: r) = [] := by unfold cutU; rw [if_pos h0, List.takeWhile_cons_of_neg (by simp; omega)]
  unfold cutK; rw [this]; split <;> simp
theorem cutK_on {c : Int} {k : Nat} {u x : Int} {r : List Int} (hk : 0 < c → (k : Int) < c) (h : ¬ (0 ≤ u ∧ u < x)) : cutK c k u (x :: r) = x :: cutK c (k + 1) u r := by
  have e1 : cutU u (x :: r) = x :: cutU u r := by
    unfold cutU
    split
    · rw [List.takeWhile_cons_of_pos (by simp; omega)]
    · rfl
  unfold cutK
  rw [e1]
  split
  · rename_i hc
    have := hk hc
    rw [show (c - k).toNat = (c - ((k + 1 : Nat) : Int)).toNat + 1 by omega, List.take_succ_cons]
  · rfl
theorem cutK_full {c : Int} {k : Nat} {u : Int} {r : List Int} (hc : 0 < c) (h : (k : Int) = c) : cutK c k u r = [] := by
  unfold cutK; rw [if_pos hc, show (c - k).toNat = 0 by omega]; rfl
theorem fr_len {p : Int → Bool} : ∀ (n : Nat) (a : Int), (fr p a n).length ≤ n
  | 0, a => by simp [fr]
  | n + 1, a => by
    unfold fr
    have := fr_len (p := p) n (a + 1)
    split
    · simp; omega
    · omega
theorem From_len {p : Int → Bool} {a : Int} (h : 0 ≤ a) : (From p a).length ≤ 73049 := by
  unfold From
  have := fr_len (p := p) (73049 - a).toNat a
  omega

/-- the box of a rule -/
def RB (W : World) (B : Nat) (f : ByteArray) (e : Int) (sl : Value) (c u : Int) : Prop := W.heap[B]? = some (.cells #[.string f, .int .i64 e, sl, .int .i64 c, .int .i64 u] 24 (0, 0))

end Go.Proofs.YthhjhfibpfonnaaGreatDoor
