/- The walk of the law DayMonths: for every day and every two counts of months it returns true, and memory that was there is as it was. -/
import Derived.Test.YtfnajhpcbajhfaaDoorDated
namespace Go.Proofs.YtfnajhpcbajhfaaDoor
open Go.RowKit Cal

theorem mo_early (n a b : Int) (ev : Addr) (w : World) (g : Env ev w) (h : a < -2400 ∨ 2400 < a ∨ b < -2400 ∨ 2400 < b) :
    Calls Tryd.prog 7 #[.int .i64 n, .int .i64 a, .int .i64 b] w fun e w' => e = .returned (.bool true) ∧ Below w.heap.size w w' := by
  by_cases h1 : a < -2400
  · clear h
    go_enter Tryd.func7, Tryd.ntmps7
    go_wp2_with (go_at_call 12; refine (dated_any ev _ g).mono ?_; rintro e w' ⟨rfl, hb⟩)
    go_ret
    exact ⟨rfl, hb⟩
  · by_cases h2 : 2400 < a
    · clear h
      go_enter Tryd.func7, Tryd.ntmps7
      go_wp2_with (go_at_call 12; refine (dated_any ev _ g).mono ?_; rintro e w' ⟨rfl, hb⟩)
      go_ret
      exact ⟨rfl, hb⟩
    · by_cases h3 : b < -2400
      · clear h
        go_enter Tryd.func7, Tryd.ntmps7
        go_wp2_with (go_at_call 12; refine (dated_any ev _ g).mono ?_; rintro e w' ⟨rfl, hb⟩)
        go_ret
        exact ⟨rfl, hb⟩
      · have h4 : 2400 < b := by omega
        clear h
        go_enter Tryd.func7, Tryd.ntmps7
        go_wp2_with (go_at_call 12; refine (dated_any ev _ g).mono ?_; rintro e w' ⟨rfl, hb⟩)
        go_ret
        exact ⟨rfl, hb⟩

theorem mo_noDay (n a b : Int) (ev : Addr) (w : World) (g : Env ev w) (ha0 : -2400 ≤ a) (ha1 : a ≤ 2400) (hb0 : -2400 ≤ b) (hb1 : b ≤ 2400) (h : n < 0 ∨ 73048 < n) :
    Calls Tryd.prog 7 #[.int .i64 n, .int .i64 a, .int .i64 b] w fun e w' => e = .returned (.bool true) ∧ Below w.heap.size w w' := by
  go_enter Tryd.func7, Tryd.ntmps7
  go_wp2_with (first
    | (go_at_call 12; refine (dated_any ev _ g).mono ?_; rintro e w1 ⟨rfl, hb⟩; have g1 := g.step hb)
    | (go_at_call 24; refine (add_no n a ev _ h g1.bound).mono ?_; rintro e w2 ⟨rfl, hc⟩))
  go_ret
  exact ⟨rfl, below_then hb hc⟩

theorem mo_none (n a b y m d : Int) (ev : Addr) (w : World) (g : Env ev w) (ha0 : -2400 ≤ a) (ha1 : a ≤ 2400) (hb0 : -2400 ≤ b) (hb1 : b ≤ 2400) (h : vld y m d) (hn : num y m d = n) (hf : addB y m d a = false) :
    Calls Tryd.prog 7 #[.int .i64 n, .int .i64 a, .int .i64 b] w fun e w' => e = .returned (.bool true) ∧ Below w.heap.size w w' := by
  have hc := fun w g => add_any n a y m d ev w h hn g
  rw [hf, addI_no hf] at hc
  have HC : Hid (_) := hc
  clear hc hn hf
  go_enter Tryd.func7, Tryd.ntmps7
  go_wp2_with (first
    | (go_at_call 12; refine (dated_any ev _ g).mono ?_; rintro e w1 ⟨rfl, hb⟩; have g1 := g.step hb)
    | (go_at_call 24; refine (HC.out _ g1).mono ?_; rintro e w2 ⟨rfl, hc⟩))
  go_ret
  exact ⟨rfl, below_then hb hc⟩

set_option maxHeartbeats 1000000 in
theorem mo_day (n a b y m d : Int) (ev : Addr) (w : World) (g : Env ev w) (ha0 : -2400 ≤ a) (ha1 : a ≤ 2400) (hb0 : -2400 ≤ b) (hb1 : b ≤ 2400) (h : vld y m d) (hn : num y m d = n) (hf : addB y m d a = true) :
    Calls Tryd.prog 7 #[.int .i64 n, .int .i64 a, .int .i64 b] w fun e w' => e = .returned (.bool true) ∧ Below w.heap.size w w' := by
  have hv := add_vld h hf
  obtain ⟨x, hx⟩ : ∃ x, num (yM (atM y m + a)) (mM (atM y m + a)) d = x := ⟨_, rfl⟩
  obtain ⟨z, hz⟩ : ∃ z, addI y m d (a + b) = z := ⟨_, rfl⟩
  obtain ⟨t, ht⟩ : ∃ t, addB y m d (a + b) = t := ⟨_, rfl⟩
  have c1 := fun w g => add_any n a y m d ev w h hn g
  rw [hf, addI_yes hf, hx] at c1
  have c2 := fun w g => add_any x b _ _ d ev w hv hx g
  rw [addI_two, addB_two, hz, ht] at c2
  have c3 := fun w g => add_any n (a + b) y m d ev w h hn g
  rw [hz, ht] at c3
  have hh := h
  obtain ⟨hy0, hy1, hm0, hm1, hd0, hd1⟩ := hh
  have hlo := dim_lo y m hy0 hy1 hm0 hm1
  have hhi := (dim_bd y m).2
  have c4 := fun w => date_ok n y m d w h hn
  have hv1 : vld y m 1 := ⟨hy0, hy1, hm0, hm1, by omega, by omega⟩
  have hv2 : vld y m (dim y m) := ⟨hy0, hy1, hm0, hm1, by omega, by omega⟩
  have b1 := num_bd hv1
  have b2 := num_bd hv2
  obtain ⟨f, hfirst⟩ : ∃ f, num y m 1 = f := ⟨_, rfl⟩
  obtain ⟨l, hlast⟩ : ∃ l, num y m (dim y m) = l := ⟨_, rfl⟩
  have c5 := fun w => make_ok y m 1 w hv1
  have c6 := fun w => make_ok y m (dim y m) w hv2
  rw [hfirst] at c5 b1
  rw [hlast] at c6 b2
  have hfl : l - f + 1 = dim y m := by unfold num at hfirst hlast; omega
  have hfn : f ≤ n := by unfold num at hfirst hn; omega
  have hnl : n ≤ l := by unfold num at hlast hn; omega
  have c7 := fun w g => make_no y m (dim y m + 1) ev w (Or.inr (by omega)) g
  have C1 : Hid (_) := c1
  have C2 : Hid (_) := c2
  have C3 : Hid (_) := c3
  have C4 : Hid (_) := c4
  have C5 : Hid (_) := c5
  have C6 : Hid (_) := c6
  have C7 : Hid (_) := c7
  clear c1 c2 c3 c4 c5 c6 c7 hx hz ht hfirst hlast hn hf hv
  go_enter Tryd.func7, Tryd.ntmps7
  go_wp2_with (go_at_call 12; refine (dated_any ev _ g).mono ?_; rintro e w1 ⟨rfl, k1⟩; have g1 := g.step k1)
  go_at_call 24
  refine (C1.out _ g1).mono ?_
  rintro e w2 ⟨rfl, k2⟩
  have g2 := g1.step k2
  go_wp2_with fail
  go_at_call 24
  refine (C2.out _ g2).mono ?_
  rintro e w3 ⟨rfl, k3⟩
  have g3 := g2.step k3
  go_wp2_with fail
  go_at_call 24
  refine (C3.out _ g3).mono ?_
  rintro e w4 ⟨rfl, k4⟩
  have g4 := g3.step k4
  have kk := below_then k1 (below_then k2 (below_then k3 k4))
  clear C1 C2 C3 g g1 g2 g3 k1 k2 k3 k4
  cases t
  all_goals
    go_wp2_with fail
    go_at_call 19
    refine (C4.out _).mono ?_
    rintro e w' ⟨rfl, rfl⟩
    go_wp2_with fail
    go_at_call 13
    refine (C5.out _).mono ?_
    rintro e w' ⟨rfl, rfl⟩
    go_wp2_with (go_at_call 15; refine (months_any _ _ _).mono ?_; rintro e w' ⟨rfl, rfl⟩)
    go_at_call 13
    refine (C6.out _).mono ?_
    rintro e w' ⟨rfl, rfl⟩
    go_wp2_with (go_at_call 15; refine (months_any _ _ _).mono ?_; rintro e w' ⟨rfl, rfl⟩)
    go_at_call 13
    refine (C7.out _ g4.bound).mono ?_
    rintro e w5 ⟨rfl, k5⟩
    go_wp2_with (go_at_call 15; refine (months_any _ _ _).mono ?_; rintro e w' ⟨rfl, rfl⟩)
    go_ret
    exact ⟨rfl, below_then kk k5⟩
end Go.Proofs.YtfnajhpcbajhfaaDoor
