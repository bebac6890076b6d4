/- Contracts of package day's plain functions: isLeap, yearDays, Months, isDay, Make, Date, Week, Add: each returns what the plain mathematics (Cal) says, for every input, and leaves memory that was there as it was. -/
import Derived.Test.YtfnajhpcbajhfaaDoorProg
import Derived.Test.YtfnajhpcbajhfaaDoorMath
import Derived.WalkKit
import Derived.WalkSpells
import Derived.WalkLawsBesides
import Derived.Deep.QuietTactic
import Derived.BigQuiet
namespace Go.Proofs.YtfnajhpcbajhfaaDoor
open Go.RowKit Cal

theorem ret_int {k : IntKind} {a b : Int} (h : a = b) : Ending.returned (.int k a) = .returned (.int k b) := by rw [h]
theorem ret_bool {a b : Bool} (h : a = b) : Ending.returned (.bool a) = .returned (.bool b) := by rw [h]
theorem drewN_below (w : World) (n : Nat) : Below w.heap.size w (w.drewN n) := ⟨rfl, rfl, rfl, Nat.le_refl _, fun _ _ => rfl⟩

theorem isLeap_any (y : Int) (w : World) (h0 : 2000 ≤ y) (h1 : y ≤ 2200) :
    Calls Tryd.prog 30 #[.int .i64 y] w fun e w' => e = .returned (.bool (lpB y)) ∧ w' = w := by
  by_cases a : y % 4 = 0
  · by_cases b : y % 100 = 0
    · by_cases c : y % 400 = 0
      · have hl : lpB y = true := by rw [lpB_iff]; omega
        rw [hl]
        go_enter Tryd.func30, Tryd.ntmps30
        go_wp2
        go_ret
        exact ⟨rfl, rfl⟩
      · have hl : lpB y = false := by rw [← Bool.not_eq_true, lpB_iff]; omega
        rw [hl]
        go_enter Tryd.func30, Tryd.ntmps30
        go_wp2
        go_ret
        exact ⟨ret_bool (by simpa using c), rfl⟩
    · have hl : lpB y = true := by rw [lpB_iff]; omega
      rw [hl]
      go_enter Tryd.func30, Tryd.ntmps30
      go_wp2
      go_ret
      exact ⟨rfl, rfl⟩
  · have hl : lpB y = false := by rw [← Bool.not_eq_true, lpB_iff]; omega
    rw [hl]
    go_enter Tryd.func30, Tryd.ntmps30
    go_wp2
    go_ret
    exact ⟨rfl, rfl⟩

theorem yearDays_any (y : Int) (w : World) (h0 : 2000 ≤ y) (h1 : y ≤ 2200) :
    Calls Tryd.prog 29 #[.int .i64 y] w fun e w' => e = .returned (.int .i64 (yd y)) ∧ w' = w := by
  rcases lp_eq y with ⟨hb, hl⟩ | ⟨hb, hl⟩
  · have hy : yd y = 366 := by unfold yd; omega
    rw [hy]
    have hc := fun w => isLeap_any y w h0 h1
    rw [hb] at hc
    have HC : Hid (_) := hc
    clear hc hl hy hb
    go_enter Tryd.func29, Tryd.ntmps29
    go_wp2_with (go_at_call 30; refine (HC.out _).mono ?_; rintro e w' ⟨rfl, rfl⟩)
    go_ret
    exact ⟨rfl, rfl⟩
  · have hy : yd y = 365 := by unfold yd; omega
    rw [hy]
    have hc := fun w => isLeap_any y w h0 h1
    rw [hb] at hc
    have HC : Hid (_) := hc
    clear hc hl hy hb
    go_enter Tryd.func29, Tryd.ntmps29
    go_wp2_with (go_at_call 30; refine (HC.out _).mono ?_; rintro e w' ⟨rfl, rfl⟩)
    go_ret
    exact ⟨rfl, rfl⟩

theorem isDay_yes (n : Int) (w : World) (h0 : 0 ≤ n) (h1 : n ≤ 73048) :
    Calls Tryd.prog 36 #[.int .i64 n] w fun e w' => e = .returned (.bool true) ∧ w' = w := by
  go_enter Tryd.func36, Tryd.ntmps36
  go_wp2
  go_ret
  exact ⟨rfl, rfl⟩
theorem isDay_no (n : Int) (w : World) (h : n < 0 ∨ 73048 < n) :
    Calls Tryd.prog 36 #[.int .i64 n] w fun e w' => e = .returned (.bool false) ∧ w' = w := by
  rcases h with h | h
  · go_enter Tryd.func36, Tryd.ntmps36
    go_wp2
    go_ret
    exact ⟨rfl, rfl⟩
  · have h0 : 0 ≤ n := by omega
    go_enter Tryd.func36, Tryd.ntmps36
    go_wp2
    go_ret
    exact ⟨ret_bool (by simp; omega), rfl⟩

theorem months_out (y m : Int) (w : World) (h : y < 2000 ∨ 2199 < y) :
    Calls Tryd.prog 15 #[.int .i64 y, .int .i64 m] w fun e w' => e = .returned (.int .i64 0) ∧ w' = w := by
  rcases h with h | h
  · go_enter Tryd.func15, Tryd.ntmps15
    go_wp2
    go_ret
    exact ⟨rfl, rfl⟩
  · have h0 : ¬ y < 2000 := by omega
    go_enter Tryd.func15, Tryd.ntmps15
    go_wp2
    go_ret
    exact ⟨rfl, rfl⟩
theorem months_none (y m : Int) (w : World) (h0 : 2000 ≤ y) (h1 : y ≤ 2199) (h : m < 1 ∨ 12 < m) :
    Calls Tryd.prog 15 #[.int .i64 y, .int .i64 m] w fun e w' => e = .returned (.int .i64 0) ∧ w' = w := by
  rcases h with h | h
  · go_enter Tryd.func15, Tryd.ntmps15
    go_wp2
    go_ret
    exact ⟨rfl, rfl⟩
  · go_enter Tryd.func15, Tryd.ntmps15
    go_wp2
    go_ret
    exact ⟨rfl, rfl⟩
theorem months_feb (y : Int) (w : World) (h0 : 2000 ≤ y) (h1 : y ≤ 2199) :
    Calls Tryd.prog 15 #[.int .i64 y, .int .i64 2] w fun e w' => e = .returned (.int .i64 (28 + lp y)) ∧ w' = w := by
  rcases lp_eq y with ⟨hb, hl⟩ | ⟨hb, hl⟩
  all_goals
    rw [hl]
    have hc := fun w => isLeap_any y w h0 (by omega)
    rw [hb] at hc
    have HC : Hid (_) := hc
    clear hc hl hb
    go_enter Tryd.func15, Tryd.ntmps15
    go_wp2_with (go_at_call 30; refine (HC.out _).mono ?_; rintro e w' ⟨rfl, rfl⟩)
    go_ret
    exact ⟨rfl, rfl⟩
theorem months_any (y m : Int) (w : World) :
    Calls Tryd.prog 15 #[.int .i64 y, .int .i64 m] w fun e w' => e = .returned (.int .i64 (dim y m)) ∧ w' = w := by
  by_cases hy : y < 2000 ∨ 2199 < y
  · rw [dim_out y m (by omega)]; exact months_out y m w hy
  · by_cases hm : m < 1 ∨ 12 < m
    · rw [dim_out y m (by omega)]; exact months_none y m w (by omega) (by omega) hm
    · have h0 : 2000 ≤ y := by omega
      have h1 : y ≤ 2199 := by omega
      by_cases h2 : m = 2
      · subst h2
        rw [dim_feb y h0 h1]; exact months_feb y w h0 h1
      · by_cases h30 : m = 4 ∨ m = 6 ∨ m = 9 ∨ m = 11
        · rw [dim_30 y m h0 h1 h30]
          rcases h30 with h | h | h | h
          all_goals
            subst h
            clear hm hy
            go_enter Tryd.func15, Tryd.ntmps15
            go_wp2
            go_ret
            exact ⟨rfl, rfl⟩
        · have h31 : m = 1 ∨ m = 3 ∨ m = 5 ∨ m = 7 ∨ m = 8 ∨ m = 10 ∨ m = 12 := by omega
          rw [dim_31 y m h0 h1 h31]
          clear h2 h30 hm hy
          rcases h31 with h | h | h | h | h | h | h
          all_goals
            subst h
            go_enter Tryd.func15, Tryd.ntmps15
            go_wp2
            go_ret
            exact ⟨rfl, rfl⟩

/-- a date that is none: nought and the error. -/
theorem make_no_q (y m d : Int) (ev : Addr) (w : World) (h : d < 1 ∨ dim y m < d) (hB : w.cell? ⟨1, 0, none⟩ = some (.iface 56 (.pointer (some ev)))) :
    Calls Tryd.prog 13 #[.int .i64 y, .int .i64 m, .int .i64 d] w fun e w' => e = .returned (.tuple #[.int .i64 0, .iface 56 (.pointer (some ev))]) ∧ ∃ q, w' = w.drewN q := by
  by_cases h1 : d < 1
  · go_enter Tryd.func13, Tryd.ntmps13
    go_wp2
    go_quiet (fail)
    go_wp2
    go_ret2
    exact ⟨rfl, _, rfl⟩
  · have h2 : dim y m < d := by omega
    go_enter Tryd.func13, Tryd.ntmps13
    go_wp2_with (go_at_call 15; refine (months_any _ _ _).mono ?_; rintro e w' ⟨rfl, rfl⟩)
    go_quiet (fail)
    go_wp2
    go_ret2
    exact ⟨rfl, _, rfl⟩

theorem make_no (y m d : Int) (ev : Addr) (w : World) (h : d < 1 ∨ dim y m < d) (hB : w.cell? ⟨1, 0, none⟩ = some (.iface 56 (.pointer (some ev)))) :
    Calls Tryd.prog 13 #[.int .i64 y, .int .i64 m, .int .i64 d] w fun e w' => e = .returned (.tuple #[.int .i64 0, .iface 56 (.pointer (some ev))]) ∧ Below w.heap.size w w' := by
  refine (make_no_q y m d ev w h hB).mono ?_
  rintro e w' ⟨rfl, q, rfl⟩
  exact ⟨rfl, drewN_below _ _⟩

/-- a date: its number. -/
theorem make_ok (y m d : Int) (w : World) (h : vld y m d) :
    Calls Tryd.prog 13 #[.int .i64 y, .int .i64 m, .int .i64 d] w fun e w' => e = .returned (.tuple #[.int .i64 (num y m d), .nilIface]) ∧ w' = w := by
  obtain ⟨hy0, hy1, hm0, hm1, hd0, hd1⟩ := h
  have hd31 := (dim_bd y m).2
  go_enter Tryd.func13, Tryd.ntmps13
  go_wp2_with (go_at_call 15; refine (months_any _ _ _).mono ?_; rintro e w' ⟨rfl, rfl⟩)
  go_loop [8, 9] (fun n k => ∃ j : Int, 2000 ≤ j ∧ j ≤ y ∧ k = .int .i64 j ∧ n = .int .i64 (dby j + d - 1)) (fun _ k => (y - intOf k).toNat)
  case atStart => exact ⟨2000, by omega, by omega, rfl, by rw [dby_zero]; go_num⟩
  case round =>
    obtain ⟨j, hj0, hj1, rfl, rfl⟩ := hrel
    have hb := dby_bd j hj0 (by omega)
    have hyd := yd_bd j
    by_cases hlt : j < y
    · have hs := dby_succ j
      have HS : Hid (_) := hs
      clear hs
      go_wp2_with (go_at_call 29; refine (yearDays_any _ _ (by omega) (by omega)).mono ?_; rintro e w' ⟨rfl, rfl⟩)
      go_round
      case rel => exact ⟨j + 1, by omega, by omega, rfl, by rw [HS.out]; go_num⟩
      case measure => simp [intOf]; omega
    · obtain rfl : j = y := by omega
      go_wp2
      go_loop [8, 10] (fun n k => ∃ i : Int, 1 ≤ i ∧ i ≤ m ∧ k = .int .i64 i ∧ n = .int .i64 (dby j + cum j i + d - 1)) (fun _ k => (m - intOf k).toNat)
      case atStart => exact ⟨1, by omega, by omega, rfl, by rw [cum_one]; go_num⟩
      case round =>
        obtain ⟨i, hi0, hi1, rfl, rfl⟩ := hrel
        have hcb := cum_bd j i hi0 (by omega)
        have hdb := dim_bd j i
        by_cases hlt : i < m
        · have hs := cum_succ j i hy0 hy1 hi0 (by omega)
          have HS : Hid (_) := hs
          clear hs
          go_wp2_with (go_at_call 15; refine (months_any _ _ _).mono ?_; rintro e w' ⟨rfl, rfl⟩)
          go_round
          case rel => exact ⟨i + 1, by omega, by omega, rfl, by rw [HS.out]; go_num⟩
          case measure => simp [intOf]; omega
        · obtain rfl : i = m := by omega
          go_wp2
          go_ret2
          exact ⟨rfl, rfl⟩
end Go.Proofs.YtfnajhpcbajhfaaDoor
