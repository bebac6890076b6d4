/- Contracts of package day's Add: months more and less; what is returned is the day of the same number in the month that many months on, where there is one, else nought and false. -/
import Derived.Test.YtfnajhpcbajhfaaDoorDay2
namespace Go.Proofs.YtfnajhpcbajhfaaDoor
open Go.RowKit Cal

/-- months from the first one on -/
def atM (y m : Int) : Int := (y - 2000) * 12 + m - 1
/-- the year and the month of a count of months -/
def yM (s : Int) : Int := 2000 + s / 12
def mM (s : Int) : Int := s % 12 + 1

theorem atM_bd {y m d : Int} (h : vld y m d) : 0 ≤ atM y m ∧ atM y m < 2400 := by
  obtain ⟨a, b, c, e, _, _⟩ := h; unfold atM; omega
theorem yM_atM {y m d : Int} (h : vld y m d) : yM (atM y m) = y ∧ mM (atM y m) = m := by
  obtain ⟨a, b, c, e, _, _⟩ := h; unfold atM yM mM; omega
theorem atM_yM (s : Int) : atM (yM s) (mM s) = s := by unfold atM yM mM; omega
theorem yM_in (s : Int) (h0 : 0 ≤ s) (h1 : s < 2400) : 2000 ≤ yM s ∧ yM s ≤ 2199 ∧ 1 ≤ mM s ∧ mM s ≤ 12 := by unfold yM mM; omega

theorem add_no (n k : Int) (ev : Addr) (w : World) (h : n < 0 ∨ 73048 < n) (hB : w.cell? ⟨1, 0, none⟩ = some (.iface 56 (.pointer (some ev)))) :
    Calls Tryd.prog 24 #[.int .i64 n, .int .i64 k] w fun e w' => e = .returned (.tuple #[.int .i64 0, .bool false]) ∧ Below w.heap.size w w' := by
  go_enter Tryd.func24, Tryd.ntmps24
  go_wp2_with (go_at_call 19; refine (date_no n ev _ h hB).mono ?_; rintro e w' ⟨rfl, hb⟩)
  go_ret2
  exact ⟨rfl, hb⟩

theorem add_out (n k y m d : Int) (w : World) (h : vld y m d) (hn : num y m d = n) (hk : atM y m + k < 0 ∨ 2400 ≤ atM y m + k) :
    Calls Tryd.prog 24 #[.int .i64 n, .int .i64 k] w fun e w' => e = .returned (.tuple #[.int .i64 0, .bool false]) ∧ w' = w := by
  have hh := h
  unfold atM at hk
  obtain ⟨hy0, hy1, hm0, hm1, hd0, hd1⟩ := hh
  clear hd1
  rcases hk with hk | hk
  · go_enter Tryd.func24, Tryd.ntmps24
    go_wp2_with (go_at_call 19; refine (date_ok n y m d _ h hn).mono ?_; rintro e w' ⟨rfl, rfl⟩)
    go_ret2
    exact ⟨rfl, rfl⟩
  · go_enter Tryd.func24, Tryd.ntmps24
    go_wp2_with (go_at_call 19; refine (date_ok n y m d _ h hn).mono ?_; rintro e w' ⟨rfl, rfl⟩)
    go_ret2
    exact ⟨rfl, rfl⟩

theorem add_ok (n k y m d : Int) (w : World) (h : vld y m d) (hn : num y m d = n) (hk0 : 0 ≤ atM y m + k) (hk1 : atM y m + k < 2400) (hv : d ≤ dim (yM (atM y m + k)) (mM (atM y m + k))) :
    Calls Tryd.prog 24 #[.int .i64 n, .int .i64 k] w fun e w' => e = .returned (.tuple #[.int .i64 (num (yM (atM y m + k)) (mM (atM y m + k)) d), .bool true]) ∧ Below w.heap.size w w' := by
  have hi := yM_in _ hk0 hk1
  have hw : vld (yM (atM y m + k)) (mM (atM y m + k)) d := ⟨hi.1, hi.2.1, hi.2.2.1, hi.2.2.2, h.2.2.2.2.1, hv⟩
  clear hi hv
  unfold atM at hk0 hk1
  unfold yM mM atM at hw ⊢
  have hh := h
  obtain ⟨hy0, hy1, hm0, hm1, hd0, hd1⟩ := hh
  clear hd1
  go_enter Tryd.func24, Tryd.ntmps24
  go_wp2_with (first | (go_at_call 19; refine (date_ok n y m d _ h hn).mono ?_; rintro e w' ⟨rfl, rfl⟩) | (go_at_call 13; refine (make_ok _ _ _ _ hw).mono ?_; rintro e w' ⟨rfl, rfl⟩))
  go_quiet (fail)
  go_wp2
  go_ret2
  exact ⟨rfl, drewN_below _ _⟩

theorem add_bad (n k y m d : Int) (ev : Addr) (w : World) (h : vld y m d) (hn : num y m d = n) (hk0 : 0 ≤ atM y m + k) (hk1 : atM y m + k < 2400) (hv : dim (yM (atM y m + k)) (mM (atM y m + k)) < d) (hB : w.cell? ⟨1, 0, none⟩ = some (.iface 56 (.pointer (some ev)))) :
    Calls Tryd.prog 24 #[.int .i64 n, .int .i64 k] w fun e w' => e = .returned (.tuple #[.int .i64 0, .bool false]) ∧ Below w.heap.size w w' := by
  unfold atM at hk0 hk1
  unfold yM mM atM at hv
  have hw : Hid (_ ∨ _) := Or.inr (a := d < 1) hv
  clear hv
  have hh := h
  obtain ⟨hy0, hy1, hm0, hm1, hd0, hd1⟩ := hh
  clear hd1
  go_enter Tryd.func24, Tryd.ntmps24
  go_wp2_with (first | (go_at_call 19; refine (date_ok n y m d _ h hn).mono ?_; rintro e w' ⟨rfl, rfl⟩) | (go_at_call 13; refine (make_no _ _ _ ev _ hw.out hB).mono ?_; rintro e w' ⟨rfl, hb⟩))
  go_quiet (fail)
  go_wp2
  go_ret2
  exact ⟨rfl, hb.trans ((drewN_below _ _).mono hb.size)⟩
end Go.Proofs.YtfnajhpcbajhfaaDoor
