/- Contracts of plain.Code: nil, an error of package api (its number), another one of errors.New's make, and a Fault with its place. -/
import Derived.Test.YtdhggknmefonkabDoorErrAs2
import Derived.Test.YtdhggknmefonkabDoorErrAs3
namespace Go.Proofs.YtdhggknmefonkabDoor
open Go.RowKit

/-- where the eleven errors of package api lie -/
structure Sents (s : Nat → Addr) (w : World) : Prop where
  c0 : w.cell? ⟨5, 0, none⟩ = some (.iface 102 (.pointer (some (s 0))))
  c1 : w.cell? ⟨2, 0, none⟩ = some (.iface 102 (.pointer (some (s 1))))
  c2 : w.cell? ⟨3, 0, none⟩ = some (.iface 102 (.pointer (some (s 2))))
  c3 : w.cell? ⟨1, 0, none⟩ = some (.iface 102 (.pointer (some (s 3))))
  c4 : w.cell? ⟨6, 0, none⟩ = some (.iface 102 (.pointer (some (s 4))))
  c5 : w.cell? ⟨7, 0, none⟩ = some (.iface 102 (.pointer (some (s 5))))
  c6 : w.cell? ⟨0, 0, none⟩ = some (.iface 102 (.pointer (some (s 6))))
  c7 : w.cell? ⟨4, 0, none⟩ = some (.iface 102 (.pointer (some (s 7))))
  c8 : w.cell? ⟨8, 0, none⟩ = some (.iface 102 (.pointer (some (s 8))))
  c9 : w.cell? ⟨9, 0, none⟩ = some (.iface 102 (.pointer (some (s 9))))
  c10 : w.cell? ⟨10, 0, none⟩ = some (.iface 102 (.pointer (some (s 10))))
  blk : ∀ k, k < 11 → ∃ c t, w.heap[(s k).block]? = some (.cells c t (0, 0))
  ne : ∀ j k, j < 11 → k < 11 → j ≠ k → s j ≠ s k
  et : w.cell? ⟨11, 0, none⟩ = some (.iface 85 (.agg #[.pointer (some ⟨12, 29, none⟩)]))

theorem cell_lt {w : World} {p : Addr} {v : Value} (h : w.cell? p = some v) : p.block < w.heap.size := by
  rcases Nat.lt_or_ge p.block w.heap.size with hl | hl
  · exact hl
  · simp [World.cell?, Array.getElem?_eq_none hl] at h
theorem blk_lt {w : World} {b : Nat} {o : Obj} (h : w.heap[b]? = some o) : b < w.heap.size := by
  rcases Nat.lt_or_ge b w.heap.size with hl | hl
  · exact hl
  · rw [Array.getElem?_eq_none hl] at h; exact absurd h (by simp)
theorem cell_stepB {w w' : World} {p : Addr} {v : Value} {B : Nat} (h : w.cell? p = some v) (hb : Below B w w') (hB : w.heap.size ≤ B) : w'.cell? p = some v := by
  rw [hb.cell (p := p) (Nat.lt_of_lt_of_le (cell_lt h) hB)]; exact h
theorem Sents.step {s : Nat → Addr} {w w' : World} (g : Sents s w) (hb : Below w.heap.size w w') : Sents s w' where
  c0 := cell_stepB g.c0 hb (Nat.le_refl _)
  c1 := cell_stepB g.c1 hb (Nat.le_refl _)
  c2 := cell_stepB g.c2 hb (Nat.le_refl _)
  c3 := cell_stepB g.c3 hb (Nat.le_refl _)
  c4 := cell_stepB g.c4 hb (Nat.le_refl _)
  c5 := cell_stepB g.c5 hb (Nat.le_refl _)
  c6 := cell_stepB g.c6 hb (Nat.le_refl _)
  c7 := cell_stepB g.c7 hb (Nat.le_refl _)
  c8 := cell_stepB g.c8 hb (Nat.le_refl _)
  c9 := cell_stepB g.c9 hb (Nat.le_refl _)
  c10 := cell_stepB g.c10 hb (Nat.le_refl _)
  blk := fun k hk => by
    obtain ⟨c, t, h⟩ := g.blk k hk
    exact ⟨c, t, by rw [hb.block _ (blk_lt h)]; exact h⟩
  ne := g.ne
  et := cell_stepB g.et hb (Nat.le_refl _)
theorem Sents.alloc {s : Nat → Addr} {w : World} (g : Sents s w) (o : Obj) : Sents s (w.alloc o) :=
  g.step ((Below.refl _ _).alloc (Nat.le_refl _) _)

/-- the row of the eleven errors, as Code lays it -/
def row11 (s : Nat → Addr) : Obj := .cells #[.iface 102 (.pointer (some (s 0))), .iface 102 (.pointer (some (s 1))), .iface 102 (.pointer (some (s 2))), .iface 102 (.pointer (some (s 3))), .iface 102 (.pointer (some (s 4))), .iface 102 (.pointer (some (s 5))), .iface 102 (.pointer (some (s 6))), .iface 102 (.pointer (some (s 7))), .iface 102 (.pointer (some (s 8))), .iface 102 (.pointer (some (s 9))), .iface 102 (.pointer (some (s 10)))] 29
theorem row11_cell (s : Nat → Addr) (w : World) (k : Nat) (hk : k < 11) : (w.alloc (row11 s)).cell? ⟨w.heap.size, k, none⟩ = some (.iface 102 (.pointer (some (s k)))) := by
  unfold row11
  rw [World.cell?_alloc_new]
  match k, hk with
  | 0, _ => rfl
  | 1, _ => rfl
  | 2, _ => rfl
  | 3, _ => rfl
  | 4, _ => rfl
  | 5, _ => rfl
  | 6, _ => rfl
  | 7, _ => rfl
  | 8, _ => rfl
  | 9, _ => rfl
  | 10, _ => rfl

theorem code_nil (w : World) : Calls Tryd.prog 23 #[.nilIface] w fun e w' => e = .returned (.tuple #[.int .i64 0, .int .i64 (-1)]) ∧ w' = w := by
  go_enter Tryd.func23, Tryd.ntmps23
  go_wp2
  go_ret2
  exact ⟨rfl, rfl⟩

theorem ret_two {k : IntKind} {a b : Int} {v : Value} (h : a = b) : Ending.returned (.tuple #[.int k a, v]) = .returned (.tuple #[.int k b, v]) := by rw [h]
/-- the number of the j-th error; beyond them: another one -/
def cnum (j : Nat) : Int := if j < 11 then (j : Int) + 1 else -1
theorem cnum_lt {j : Nat} (h : j < 11) : cnum j = (j : Int) + 1 := by unfold cnum; rw [if_pos h]
theorem cnum_ge {j : Nat} (h : ¬ j < 11) : cnum j = -1 := by unfold cnum; rw [if_neg h]

set_option maxHeartbeats 1000000 in
theorem code_gen (s : Nat → Addr) (j : Nat) (a : Addr) (w : World) (g : Sents s w) (hj : j ≤ 11) (hno : ∀ k, k < j → a ≠ s k) (hyes : j < 11 → a = s j) (hblk : ∃ c t, w.heap[a.block]? = some (.cells c t (0, 0))) :
    Calls Tryd.prog 23 #[.iface 102 (.pointer (some a))] w fun e w' => e = .returned (.tuple #[.int .i64 (cnum j), .int .i64 (-1)]) ∧ Below w.heap.size w w' := by
  have HN : Hid (∀ k, k < j → a ≠ s k) := hno
  have HY : Hid (j < 11 → a = s j) := hyes
  clear hno hyes
  obtain ⟨ca, ta, hba⟩ := hblk
  have HB : Hid (w.heap[a.block]? = some (.cells ca ta (0, 0))) := hba
  clear hba
  have g1 := g.alloc (.cells #[.pointer none] 56)
  go_enter Tryd.func23, Tryd.ntmps23
  go_wp2_with fail
  go_at_call 34
  refine (as_miss a _ _ g1.et).mono ?_
  rintro e w2 ⟨rfl, k2⟩
  have g2 := g1.step k2
  have c0 := g2.c0
  have c1 := g2.c1
  have c2 := g2.c2
  have c3 := g2.c3
  have c4 := g2.c4
  have c5 := g2.c5
  have c6 := g2.c6
  have c7 := g2.c7
  have c8 := g2.c8
  have c9 := g2.c9
  have c10 := g2.c10
  go_wp2_with fail
  have gW := g2.alloc (row11 s)
  have hcell := row11_cell s w2
  have kW : Below w.heap.size w (w2.alloc (row11 s)) :=
    ((Below.refl _ _).alloc (Nat.le_refl _) _).trans ((k2.mono (by simp)).trans ((Below.refl _ _).alloc (by have := k2.size; simp at this; omega) _))
  have hcW : ∀ b, b < w2.heap.size → True := fun _ _ => trivial
  change Code.wp _ _ _ _ (w2.alloc (row11 s))
  generalize w2.alloc (row11 s) = W at gW hcell kW ⊢
  generalize w2.heap.size = N at hcell ⊢
  clear c0 c1 c2 c3 c4 c5 c6 c7 c8 c9 c10 g2 g1 hcW k2
  go_loop [3, 29] (fun p i => p = .int .i64 (-1) ∧ ∃ k : Nat, k ≤ j ∧ i = .int .i64 k) (fun _ i => j - (intOf i).toNat)
  case atStart => exact ⟨rfl, 0, Nat.zero_le _, rfl⟩
  case round =>
    obtain ⟨rfl, k, hk, rfl⟩ := hrel
    have HC : Hid (∀ k, k < 11 → W.cell? ⟨N, k, none⟩ = some (.iface 102 (.pointer (some (s k))))) := hcell
    clear hcell
    by_cases hlt : k < j
    · have hc := HC.out k (by omega)
      obtain ⟨cb, tb, hbb⟩ := gW.blk k (by omega)
      have hne := HN.out k hlt
      have hbW : W.heap[a.block]? = some (.cells ca ta (0, 0)) := by rw [kW.block _ (blk_lt HB.out)]; exact HB.out
      have Q : Hid (_) := is_other a (s k) ca cb ta tb W hne hbW hbb
      clear hbb hne hbW
      go_wp2_with (go_at_call 35; refine (Calls.mono Q.out ?_); rintro e w' ⟨rfl, rfl⟩)
      go_round
      case rel => exact ⟨rfl, k + 1, by omega, by go_num⟩
      case measure => simp [intOf]; omega
    · obtain rfl : k = j := by omega
      by_cases h11 : k < 11
      · have ha := HY.out h11
        have Q : Hid (_) := is_same (s k) W
        have hc := HC.out k h11
        subst ha
        go_wp2_with (go_at_call 35; refine (Calls.mono Q.out ?_); rintro e w' ⟨rfl, rfl⟩)
        go_ret2
        exact ⟨ret_two (cnum_lt h11).symm, kW⟩
      · go_wp2
        go_ret2
        exact ⟨ret_two (cnum_ge h11).symm, kW⟩

/-- coded: an error's number, without a place -/
theorem coded_nil (c : Int) (w : World) :
    Calls Tryd.prog 14 #[.nilIface, .int .i64 c] w fun e w' => e = .returned (.bool (0 == c)) ∧ w' = w := by
  by_cases h : c = 0
  · subst h
    go_enter Tryd.func14, Tryd.ntmps14
    go_wp2_with (go_at_call 23; refine (code_nil _).mono ?_; rintro e w' ⟨rfl, rfl⟩)
    go_ret
    exact ⟨rfl, rfl⟩
  · have h' : ((0 : Int) == c) = false := by simp; omega
    rw [h']
    go_enter Tryd.func14, Tryd.ntmps14
    go_wp2_with (go_at_call 23; refine (code_nil _).mono ?_; rintro e w' ⟨rfl, rfl⟩)
    go_ret
    exact ⟨rfl, rfl⟩
theorem coded_err (s : Nat → Addr) (j : Nat) (w : World) (g : Sents s w) (hj : j < 11) :
    Calls Tryd.prog 14 #[.iface 102 (.pointer (some (s j))), .int .i64 (j + 1)] w fun e w' => e = .returned (.bool true) ∧ Below w.heap.size w w' := by
  have hc := code_gen s j (s j) w g (by omega) (fun k hk => g.ne j k hj (by omega) (by omega)) (fun _ => rfl) (g.blk j hj)
  rw [cnum_lt hj] at hc
  have HC : Hid (_) := hc
  clear hc
  go_enter Tryd.func14, Tryd.ntmps14
  go_wp2_with (go_at_call 23; refine (Calls.mono HC.out ?_); rintro e w' ⟨rfl, hb⟩)
  go_ret
  exact ⟨rfl, hb⟩
end Go.Proofs.YtdhggknmefonkabDoor
