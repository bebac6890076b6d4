/- Contracts of package day's plain functions: isLeap, yearDays, Months, isDay, Make, Date, Week, Add: each returns what the plain mathematics (Cal) says, for every input, and leaves memory that was there as it was. -/
import Derived.Test.YtpdcjnkgkpbdgaaGreatDoorProg
import Derived.Test.YtpdcjnkgkpbdgaaGreatDoorMathP
import Derived.WalkKit
import Derived.WalkSpells
import Derived.WalkLawsBesides
import Derived.Deep.QuietTactic
import Derived.BigQuiet
namespace Go.Proofs.YtpdcjnkgkpbdgaaGreatDoor
open Go.RowKit Cal

theorem ret_int {k : IntKind} {a b : Int} (h : a = b) : Ending.returned (.int k a) = .returned (.int k b) := by rw [h]
theorem ret_bool {a b : Bool} (h : a = b) : Ending.returned (.bool a) = .returned (.bool b) := by rw [h]
theorem drewN_below (w : World) (n : Nat) : Below w.heap.size w (w.drewN n) := ⟨rfl, rfl, rfl, Nat.le_refl _, fun _ _ => rfl⟩

theorem isLeap_any (y : Int) (w : World) (h0 : 2000 ≤ y) (h1 : y ≤ 2200) :
    Calls Tryz.prog 180 #[.int .i64 y] w fun e w' => e = .returned (.bool (lpB y)) ∧ w' = w := by
  by_cases a : y % 4 = 0
  · by_cases b : y % 100 = 0
    · by_cases c : y % 400 = 0
      · have hl : lpB y = true := by rw [lpB_iff]; omega
        rw [hl]
        go_enter Tryz.func180, Tryz.ntmps180
        go_wp2
        go_ret
        exact ⟨rfl, rfl⟩
      · have hl : lpB y = false := by rw [← Bool.not_eq_true, lpB_iff]; omega
        rw [hl]
        go_enter Tryz.func180, Tryz.ntmps180
        go_wp2
        go_ret
        exact ⟨ret_bool (by simpa using c), rfl⟩
    · have hl : lpB y = true := by rw [lpB_iff]; omega
      rw [hl]
      go_enter Tryz.func180, Tryz.ntmps180
      go_wp2
      go_ret
      exact ⟨rfl, rfl⟩
  · have hl : lpB y = false := by rw [← Bool.not_eq_true, lpB_iff]; omega
    rw [hl]
    go_enter Tryz.func180, Tryz.ntmps180
    go_wp2
    go_ret
    exact ⟨rfl, rfl⟩

theorem yearDays_any (y : Int) (w : World) (h0 : 2000 ≤ y) (h1 : y ≤ 2200) :
    Calls Tryz.prog 140 #[.int .i64 y] w fun e w' => e = .returned (.int .i64 (yd y)) ∧ w' = w := by
  rcases lp_eq y with ⟨hb, hl⟩ | ⟨hb, hl⟩
  · have hy : yd y = 366 := by unfold yd; omega
    rw [hy]
    have hc := fun w => isLeap_any y w h0 h1
    rw [hb] at hc
    have HC : Hid (_) := hc
    clear hc hl hy hb
    go_enter Tryz.func140, Tryz.ntmps140
    go_wp2_with (go_at_call 180; refine (HC.out _).mono ?_; rintro e w' ⟨rfl, rfl⟩)
    go_ret
    exact ⟨rfl, rfl⟩
  · have hy : yd y = 365 := by unfold yd; omega
    rw [hy]
    have hc := fun w => isLeap_any y w h0 h1
    rw [hb] at hc
    have HC : Hid (_) := hc
    clear hc hl hy hb
    go_enter Tryz.func140, Tryz.ntmps140
    go_wp2_with (go_at_call 180; refine (HC.out _).mono ?_; rintro e w' ⟨rfl, rfl⟩)
    go_ret
    exact ⟨rfl, rfl⟩

theorem isDay_yes (n : Int) (w : World) (h0 : 0 ≤ n) (h1 : n ≤ 73048) :
    Calls Tryz.prog 139 #[.int .i64 n] w fun e w' => e = .returned (.bool true) ∧ w' = w := by
  go_enter Tryz.func139, Tryz.ntmps139
  go_wp2
  go_ret
  exact ⟨rfl, rfl⟩
theorem isDay_no (n : Int) (w : World) (h : n < 0 ∨ 73048 < n) :
    Calls Tryz.prog 139 #[.int .i64 n] w fun e w' => e = .returned (.bool false) ∧ w' = w := by
  rcases h with h | h
  · go_enter Tryz.func139, Tryz.ntmps139
    go_wp2
    go_ret
    exact ⟨rfl, rfl⟩
  · have h0 : 0 ≤ n := by omega
    go_enter Tryz.func139, Tryz.ntmps139
    go_wp2
    go_ret
    exact ⟨ret_bool (by simp; omega), rfl⟩

theorem months_out (y m : Int) (w : World) (h : y < 2000 ∨ 2199 < y) :
    Calls Tryz.prog 141 #[.int .i64 y, .int .i64 m] w fun e w' => e = .returned (.int .i64 0) ∧ w' = w := by
  rcases h with h | h
  · go_enter Tryz.func141, Tryz.ntmps141
    go_wp2
    go_ret
    exact ⟨rfl, rfl⟩
  · have h0 : ¬ y < 2000 := by omega
    go_enter Tryz.func141, Tryz.ntmps141
    go_wp2
    go_ret
    exact ⟨rfl, rfl⟩
theorem months_none (y m : Int) (w : World) (h0 : 2000 ≤ y) (h1 : y ≤ 2199) (h : m < 1 ∨ 12 < m) :
    Calls Tryz.prog 141 #[.int .i64 y, .int .i64 m] w fun e w' => e = .returned (.int .i64 0) ∧ w' = w := by
  rcases h with h | h
  · go_enter Tryz.func141, Tryz.ntmps141
    go_wp2
    go_ret
    exact ⟨rfl, rfl⟩
  · go_enter Tryz.func141, Tryz.ntmps141
    go_wp2
    go_ret
    exact ⟨rfl, rfl⟩
theorem months_feb (y : Int) (w : World) (h0 : 2000 ≤ y) (h1 : y ≤ 2199) :
    Calls Tryz.prog 141 #[.int .i64 y, .int .i64 2] w fun e w' => e = .returned (.int .i64 (28 + lp y)) ∧ w' = w := by
  rcases lp_eq y with ⟨hb, hl⟩ | ⟨hb, hl⟩
  all_goals
    rw [hl]
    have hc := fun w => isLeap_any y w h0 (by omega)
    rw [hb] at hc
    have HC : Hid (_) := hc
    clear hc hl hb
    go_enter Tryz.func141, Tryz.ntmps141
    go_wp2_with (go_at_call 180; refine (HC.out _).mono ?_; rintro e w' ⟨rfl, rfl⟩)
    go_ret
    exact ⟨rfl, rfl⟩
theorem months_any (y m : Int) (w : World) :
    Calls Tryz.prog 141 #[.int .i64 y, .int .i64 m] w fun e w' => e = .returned (.int .i64 (dim y m)) ∧ w' = w := by
  by_cases hy : y < 2000 ∨ 2199 < y
  · rw [dim_out y m (by omega)]; exact months_out y m w hy
  · by_cases hm : m < 1 ∨ 12 < m
    · rw [dim_out y m (by omega)]; exact months_none y m w (by omega) (by omega) hm
    · have h0 : 2000 ≤ y := by omega
      have h1 : y ≤ 2199 := by omega
      by_cases h2 : m = 2
      · subst h2
        rw [dim_feb y h0 h1]; exact months_feb y w h0 h1
      · by_cases h30 : m = 4 ∨ m = 6 ∨ m = 9 ∨ m = 11
        · rw [dim_30 y m h0 h1 h30]
          rcases h30 with h | h | h | h
          all_goals
            subst h
            clear hm hy
            go_enter Tryz.func141, Tryz.ntmps141
            go_wp2
            go_ret
            exact ⟨rfl, rfl⟩
        · have h31 : m = 1 ∨ m = 3 ∨ m = 5 ∨ m = 7 ∨ m = 8 ∨ m = 10 ∨ m = 12 := by omega
          rw [dim_31 y m h0 h1 h31]
          clear h2 h30 hm hy
          rcases h31 with h | h | h | h | h | h | h
          all_goals
            subst h
            go_enter Tryz.func141, Tryz.ntmps141
            go_wp2
            go_ret
            exact ⟨rfl, rfl⟩

/-- a date that is none: nought and the error. -/
theorem make_no_q (y m d : Int) (ev : Addr) (w : World) (h : d < 1 ∨ dim y m < d) (hB : w.cell? ⟨1, 0, none⟩ = some (.iface 278 (.pointer (some ev)))) :
    Calls Tryz.prog 151 #[.int .i64 y, .int .i64 m, .int .i64 d] w fun e w' => e = .returned (.tuple #[.int .i64 0, .iface 278 (.pointer (some ev))]) ∧ ∃ q, w' = w.drewN q := by
  by_cases h1 : d < 1
  · go_enter Tryz.func151, Tryz.ntmps151
    go_wp2
    go_quiet (fail)
    go_wp2
    go_ret2
    exact ⟨rfl, _, rfl⟩
  · have h2 : dim y m < d := by omega
    go_enter Tryz.func151, Tryz.ntmps151
    go_wp2_with (go_at_call 141; refine (months_any _ _ _).mono ?_; rintro e w' ⟨rfl, rfl⟩)
    go_quiet (fail)
    go_wp2
    go_ret2
    exact ⟨rfl, _, rfl⟩

theorem make_no (y m d : Int) (ev : Addr) (w : World) (h : d < 1 ∨ dim y m < d) (hB : w.cell? ⟨1, 0, none⟩ = some (.iface 278 (.pointer (some ev)))) :
    Calls Tryz.prog 151 #[.int .i64 y, .int .i64 m, .int .i64 d] w fun e w' => e = .returned (.tuple #[.int .i64 0, .iface 278 (.pointer (some ev))]) ∧ Below w.heap.size w w' := by
  refine (make_no_q y m d ev w h hB).mono ?_
  rintro e w' ⟨rfl, q, rfl⟩
  exact ⟨rfl, drewN_below _ _⟩

/-- a date: its number. -/
theorem make_ok (y m d : Int) (w : World) (h : vld y m d) :
    Calls Tryz.prog 151 #[.int .i64 y, .int .i64 m, .int .i64 d] w fun e w' => e = .returned (.tuple #[.int .i64 (num y m d), .nilIface]) ∧ w' = w := by
  obtain ⟨hy0, hy1, hm0, hm1, hd0, hd1⟩ := h
  have hd31 := (dim_bd y m).2
  go_enter Tryz.func151, Tryz.ntmps151
  go_wp2_with (go_at_call 141; refine (months_any _ _ _).mono ?_; rintro e w' ⟨rfl, rfl⟩)
  go_loop [8, 9] (fun n k => ∃ j : Int, 2000 ≤ j ∧ j ≤ y ∧ k = .int .i64 j ∧ n = .int .i64 (dby j + d - 1)) (fun _ k => (y - intOf k).toNat)
  case atStart => exact ⟨2000, by omega, by omega, rfl, by rw [dby_zero]; go_num⟩
  case round =>
    obtain ⟨j, hj0, hj1, rfl, rfl⟩ := hrel
    have hb := dby_bd j hj0 (by omega)
    have hyd := yd_bd j
    by_cases hlt : j < y
    · have hs := dby_succ j
      have HS : Hid (_) := hs
      clear hs
      go_wp2_with (go_at_call 140; refine (yearDays_any _ _ (by omega) (by omega)).mono ?_; rintro e w' ⟨rfl, rfl⟩)
      go_round
      case rel => exact ⟨j + 1, by omega, by omega, rfl, by rw [HS.out]; go_num⟩
      case measure => simp [intOf]; omega
    · obtain rfl : j = y := by omega
      go_wp2
      go_loop [8, 10] (fun n k => ∃ i : Int, 1 ≤ i ∧ i ≤ m ∧ k = .int .i64 i ∧ n = .int .i64 (dby j + cum j i + d - 1)) (fun _ k => (m - intOf k).toNat)
      case atStart => exact ⟨1, by omega, by omega, rfl, by rw [cum_one]; go_num⟩
      case round =>
        obtain ⟨i, hi0, hi1, rfl, rfl⟩ := hrel
        have hcb := cum_bd j i hi0 (by omega)
        have hdb := dim_bd j i
        by_cases hlt : i < m
        · have hs := cum_succ j i hy0 hy1 hi0 (by omega)
          have HS : Hid (_) := hs
          clear hs
          go_wp2_with (go_at_call 141; refine (months_any _ _ _).mono ?_; rintro e w' ⟨rfl, rfl⟩)
          go_round
          case rel => exact ⟨i + 1, by omega, by omega, rfl, by rw [HS.out]; go_num⟩
          case measure => simp [intOf]; omega
        · obtain rfl : i = m := by omega
          go_wp2
          go_ret2
          exact ⟨rfl, rfl⟩
end Go.Proofs.YtpdcjnkgkpbdgaaGreatDoor

/- Contracts of package day's Date, Week and Add: each returns what the plain mathematics (Cal) says, for every input, and leaves memory that was there as it was. -/
namespace Go.Proofs.YtpdcjnkgkpbdgaaGreatDoor
open Go.RowKit Cal

set_option maxHeartbeats 1000000 in
theorem date_ok (n y m d : Int) (w : World) (h : vld y m d) (hn : num y m d = n) :
    Calls Tryz.prog 90 #[.int .i64 n] w fun e w' => e = .returned (.tuple #[.int .i64 y, .int .i64 m, .int .i64 d, .nilIface]) ∧ w' = w := by
  have hnb := num_bd h
  have hny := num_year h
  have hnm := num_month h
  have hdd : d = n - dby y - cum y m + 1 := by unfold num at hn; omega
  rw [hn] at hnb hny hnm
  obtain ⟨hy0, hy1, hm0, hm1, hd0, hd1⟩ := h
  have HD : Hid (_) := hdd
  clear hdd hn
  obtain ⟨hn0, hn1⟩ := hnb
  obtain ⟨ha, hb⟩ := hny
  obtain ⟨hc, hd⟩ := hnm
  go_enter Tryz.func90, Tryz.ntmps90
  go_wp2_with (go_at_call 139; refine (isDay_yes _ _ hn0 hn1).mono ?_; rintro e w' ⟨rfl, rfl⟩)
  go_loop [0, 2] (fun r t => ∃ k : Int, 2000 ≤ k ∧ k ≤ y ∧ t = .int .i64 k ∧ r = .int .i64 (n - dby k)) (fun _ t => (y - intOf t).toNat)
  case atStart => exact ⟨2000, by omega, by omega, rfl, by rw [dby_zero]; go_num⟩
  case round =>
    obtain ⟨k, hk0, hk1, rfl, rfl⟩ := hrel
    have kb := dby_bd k hk0 (by omega)
    have kd := yd_bd k
    have ks := dby_succ k
    by_cases hlt : k < y
    · have hm := dby_mono (k + 1) y (by omega)
      have hge : yd k ≤ n - dby k := by omega
      have KS : Hid (_) := ks
      clear ks
      go_wp2_with (go_at_call 140; refine (yearDays_any _ _ (by omega) (by omega)).mono ?_; rintro e w' ⟨rfl, rfl⟩)
      go_round
      case rel => exact ⟨k + 1, by omega, by omega, rfl, by rw [KS.out]; go_num⟩
      case measure => simp [intOf]; omega
    · obtain rfl : k = y := by omega
      have hl : n - dby k < yd k := by omega
      clear ks hlt
      go_wp2_with (go_at_call 140; refine (yearDays_any _ _ (by omega) (by omega)).mono ?_; rintro e w' ⟨rfl, rfl⟩)
      go_loop [0, 3] (fun r t => ∃ i : Int, 1 ≤ i ∧ i ≤ m ∧ t = .int .i64 i ∧ r = .int .i64 (n - dby k - cum k i)) (fun _ t => (m - intOf t).toNat)
      case atStart => exact ⟨1, by omega, by omega, rfl, by rw [cum_one]; go_num⟩
      case round =>
        obtain ⟨i, hi0, hi1, rfl, rfl⟩ := hrel
        have ib := cum_bd k i hi0 (by omega)
        have id := dim_bd k i
        have is := cum_succ k i hy0 hy1 hi0 (by omega)
        by_cases hlt : i < m
        · have hm := cum_mono k (i + 1) m (by omega) (by omega)
          have hge : dim k i ≤ n - dby k - cum k i := by omega
          have IS : Hid (_) := is
          clear is
          go_wp2_with (go_at_call 141; refine (months_any _ _ _).mono ?_; rintro e w' ⟨rfl, rfl⟩)
          go_round
          case rel => exact ⟨i + 1, by omega, by omega, rfl, by rw [IS.out]; go_num⟩
          case measure => simp [intOf]; omega
        · obtain rfl : i = m := by omega
          have hl : n - dby k - cum k i < dim k i := by omega
          clear is hlt
          go_wp2_with (go_at_call 141; refine (months_any _ _ _).mono ?_; rintro e w' ⟨rfl, rfl⟩)
          exact bodyPost_ret (v := .tuple #[.int .i64 k, .int .i64 i, .int .i64 (n - dby k - cum k i + 1), .nilIface]) (by simp [results, Tryz.results90, go_sem]) rfl ⟨by rw [HD.out], rfl⟩

theorem week_no (n : Int) (ev : Addr) (w : World) (h : n < 0 ∨ 73048 < n) (hB : w.cell? ⟨1, 0, none⟩ = some (.iface 278 (.pointer (some ev)))) :
    Calls Tryz.prog 252 #[.int .i64 n] w fun e w' => e = .returned (.tuple #[.int .i64 0, .iface 278 (.pointer (some ev))]) ∧ Below w.heap.size w w' := by
  go_enter Tryz.func252, Tryz.ntmps252
  go_wp2_with (go_at_call 139; refine (isDay_no _ _ h).mono ?_; rintro e w' ⟨rfl, rfl⟩)
  go_quiet (fail)
  go_wp2
  go_ret2
  exact ⟨rfl, drewN_below _ _⟩
theorem week_ok (n : Int) (w : World) (h0 : 0 ≤ n) (h1 : n ≤ 73048) :
    Calls Tryz.prog 252 #[.int .i64 n] w fun e w' => e = .returned (.tuple #[.int .i64 ((n + 5) % 7), .nilIface]) ∧ w' = w := by
  go_enter Tryz.func252, Tryz.ntmps252
  go_wp2_with (go_at_call 139; refine (isDay_yes _ _ h0 h1).mono ?_; rintro e w' ⟨rfl, rfl⟩)
  go_ret2
  exact ⟨rfl, rfl⟩
end Go.Proofs.YtpdcjnkgkpbdgaaGreatDoor

/- Contracts of package day's Add: months more and less; what is returned is the day of the same number in the month that many months on, where there is one, else nought and false. -/
namespace Go.Proofs.YtpdcjnkgkpbdgaaGreatDoor
open Go.RowKit Cal

/-- months from the first one on -/
def atM (y m : Int) : Int := (y - 2000) * 12 + m - 1
/-- the year and the month of a count of months -/
def yM (s : Int) : Int := 2000 + s / 12
def mM (s : Int) : Int := s % 12 + 1

theorem atM_bd {y m d : Int} (h : vld y m d) : 0 ≤ atM y m ∧ atM y m < 2400 := by
  obtain ⟨a, b, c, e, _, _⟩ := h; unfold atM; omega
theorem yM_atM {y m d : Int} (h : vld y m d) : yM (atM y m) = y ∧ mM (atM y m) = m := by
  obtain ⟨a, b, c, e, _, _⟩ := h; unfold atM yM mM; omega
theorem yM_in (s : Int) (h0 : 0 ≤ s) (h1 : s < 2400) : 2000 ≤ yM s ∧ yM s ≤ 2199 ∧ 1 ≤ mM s ∧ mM s ≤ 12 := by unfold yM mM; omega

theorem add_ok (n k y m d : Int) (w : World) (h : vld y m d) (hn : num y m d = n) (hk0 : 0 ≤ atM y m + k) (hk1 : atM y m + k < 2400) (hv : d ≤ dim (yM (atM y m + k)) (mM (atM y m + k))) :
    Calls Tryz.prog 265 #[.int .i64 n, .int .i64 k] w fun e w' => e = .returned (.tuple #[.int .i64 (num (yM (atM y m + k)) (mM (atM y m + k)) d), .bool true]) ∧ Below w.heap.size w w' := by
  have hi := yM_in _ hk0 hk1
  have hw : vld (yM (atM y m + k)) (mM (atM y m + k)) d := ⟨hi.1, hi.2.1, hi.2.2.1, hi.2.2.2, h.2.2.2.2.1, hv⟩
  clear hi hv
  unfold atM at hk0 hk1
  unfold yM mM atM at hw ⊢
  have hh := h
  obtain ⟨hy0, hy1, hm0, hm1, hd0, hd1⟩ := hh
  clear hd1
  go_enter Tryz.func265, Tryz.ntmps265
  go_wp2_with (first | (go_at_call 90; refine (date_ok n y m d _ h hn).mono ?_; rintro e w' ⟨rfl, rfl⟩) | (go_at_call 151; refine (make_ok _ _ _ _ hw).mono ?_; rintro e w' ⟨rfl, rfl⟩))
  go_quiet (fail)
  go_wp2
  go_ret2
  exact ⟨rfl, drewN_below _ _⟩

theorem add_bad (n k y m d : Int) (ev : Addr) (w : World) (h : vld y m d) (hn : num y m d = n) (hk0 : 0 ≤ atM y m + k) (hk1 : atM y m + k < 2400) (hv : dim (yM (atM y m + k)) (mM (atM y m + k)) < d) (hB : w.cell? ⟨1, 0, none⟩ = some (.iface 278 (.pointer (some ev)))) :
    Calls Tryz.prog 265 #[.int .i64 n, .int .i64 k] w fun e w' => e = .returned (.tuple #[.int .i64 0, .bool false]) ∧ Below w.heap.size w w' := by
  unfold atM at hk0 hk1
  unfold yM mM atM at hv
  have hw : Hid (_ ∨ _) := Or.inr (a := d < 1) hv
  clear hv
  have hh := h
  obtain ⟨hy0, hy1, hm0, hm1, hd0, hd1⟩ := hh
  clear hd1
  go_enter Tryz.func265, Tryz.ntmps265
  go_wp2_with (first | (go_at_call 90; refine (date_ok n y m d _ h hn).mono ?_; rintro e w' ⟨rfl, rfl⟩) | (go_at_call 151; refine (make_no _ _ _ ev _ hw.out hB).mono ?_; rintro e w' ⟨rfl, hb⟩))
  go_quiet (fail)
  go_wp2
  go_ret2
  exact ⟨rfl, hb.trans ((drewN_below _ _).mono hb.size)⟩
end Go.Proofs.YtpdcjnkgkpbdgaaGreatDoor
