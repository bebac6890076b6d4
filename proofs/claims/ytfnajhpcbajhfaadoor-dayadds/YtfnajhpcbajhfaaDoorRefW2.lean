/- Contracts of the document's own answer to days: MakeDay, DateOf, AddMonths. -/
import Derived.Test.YtfnajhpcbajhfaaDoorRefW
namespace Go.Proofs.YtfnajhpcbajhfaaDoor
open Go.RowKit Cal

theorem dim2 (k : Int) (h0 : 2000 ≤ k) (h1 : k ≤ 2199) : ((dim k 2 == 29) = true ∧ yd k = 366) ∨ ((dim k 2 == 29) = false ∧ yd k = 365) := by
  have h := dim_feb k h0 h1
  rcases lp_eq k with ⟨_, hl⟩ | ⟨_, hl⟩
  · exact Or.inl ⟨by simp; omega, by unfold yd; omega⟩
  · exact Or.inr ⟨by simp; omega, by unfold yd; omega⟩

theorem makeDay_no (y m d : Int) (w : World) (h : d < 1 ∨ dim y m < d) :
    Calls Tryd.prog 14 #[.int .i64 y, .int .i64 m, .int .i64 d] w fun e w' => e = .returned (.tuple #[.int .i64 0, .int .i64 2]) ∧ w' = w := by
  by_cases h1 : d < 1
  · clear h
    go_enter Tryd.func14, Tryd.ntmps14
    go_wp2
    go_ret2
    exact ⟨rfl, rfl⟩
  · have h2 : dim y m < d := by omega
    clear h
    go_enter Tryd.func14, Tryd.ntmps14
    go_wp2_with (go_at_call 16; refine (monthOf_any _ _ _).mono ?_; rintro e w' ⟨rfl, rfl⟩)
    go_ret2
    exact ⟨rfl, rfl⟩

set_option maxHeartbeats 400000 in
theorem makeDay_ok (y m d : Int) (w : World) (h : vld y m d) :
    Calls Tryd.prog 14 #[.int .i64 y, .int .i64 m, .int .i64 d] w fun e w' => e = .returned (.tuple #[.int .i64 (num y m d), .int .i64 0]) ∧ w' = w := by
  obtain ⟨hy0, hy1, hm0, hm1, hd0, hd1⟩ := h
  have hd31 := (dim_bd y m).2
  go_enter Tryd.func14, Tryd.ntmps14
  go_wp2_with (go_at_call 16; refine (monthOf_any _ _ _).mono ?_; rintro e w' ⟨rfl, rfl⟩)
  go_loop [8, 9] (fun n k => ∃ j : Int, 2000 ≤ j ∧ j ≤ y ∧ k = .int .i64 j ∧ n = .int .i64 (dby j)) (fun _ k => (y - intOf k).toNat)
  case atStart => exact ⟨2000, by omega, by omega, rfl, by rw [dby_zero]⟩
  case round =>
    obtain ⟨j, hj0, hj1, rfl, rfl⟩ := hrel
    have hb := dby_bd j hj0 (by omega)
    by_cases hlt : j < y
    · have hs := dby_succ j
      rcases dim2 j hj0 (by omega) with ⟨h29, hyd⟩ | ⟨h29, hyd⟩
      · rw [hyd] at hs
        have HS : Hid (_) := hs
        clear hs hyd
        go_wp2_with (go_at_call 16; refine (monthOf_any _ _ _).mono ?_; rintro e w' ⟨rfl, rfl⟩)
        go_round
        case rel => exact ⟨j + 1, by omega, by omega, rfl, by rw [HS.out]; go_num⟩
        case measure => simp [intOf]; omega
      · rw [hyd] at hs
        have HS : Hid (_) := hs
        clear hs hyd
        go_wp2_with (go_at_call 16; refine (monthOf_any _ _ _).mono ?_; rintro e w' ⟨rfl, rfl⟩)
        go_round
        case rel => exact ⟨j + 1, by omega, by omega, rfl, by rw [HS.out]⟩
        case measure => simp [intOf]; omega
    · obtain rfl : j = y := by omega
      go_wp2
      go_loop [8, 10] (fun n k => ∃ i : Int, 1 ≤ i ∧ i ≤ m ∧ k = .int .i64 i ∧ n = .int .i64 (dby j + cum j i)) (fun _ k => (m - intOf k).toNat)
      case atStart => exact ⟨1, by omega, by omega, rfl, by rw [cum_one]; go_num⟩
      case round =>
        obtain ⟨i, hi0, hi1, rfl, rfl⟩ := hrel
        have hcb := cum_bd j i hi0 (by omega)
        have hdb := dim_bd j i
        by_cases hlt : i < m
        · have hs := cum_succ j i hy0 hy1 hi0 (by omega)
          have HS : Hid (_) := hs
          clear hs
          go_wp2_with (go_at_call 16; refine (monthOf_any _ _ _).mono ?_; rintro e w' ⟨rfl, rfl⟩)
          go_round
          case rel => exact ⟨i + 1, by omega, by omega, rfl, by rw [HS.out]; go_num⟩
          case measure => simp [intOf]; omega
        · obtain rfl : i = m := by omega
          go_wp2
          go_ret2
          exact ⟨rfl, rfl⟩

set_option maxHeartbeats 1000000 in
theorem dateOf_ok (n y m d : Int) (w : World) (h : vld y m d) (hn : num y m d = n) :
    Calls Tryd.prog 22 #[.int .i64 n] w fun e w' => e = .returned (.tuple #[.int .i64 y, .int .i64 m, .int .i64 d]) ∧ w' = w := by
  have hnb := num_bd h
  have hny := num_year h
  have hnm := num_month h
  have hdd : d = n - dby y - cum y m + 1 := by unfold num at hn; omega
  rw [hn] at hnb hny hnm
  obtain ⟨hy0, hy1, hm0, hm1, hd0, hd1⟩ := h
  have HD : Hid (_) := hdd
  clear hdd hn
  obtain ⟨hn0, hn1⟩ := hnb
  obtain ⟨ha, hb⟩ := hny
  obtain ⟨hc, hd⟩ := hnm
  go_enter Tryd.func22, Tryd.ntmps22
  go_wp2
  go_loop [0, 5] (fun r t => ∃ k : Int, 2000 ≤ k ∧ k ≤ y ∧ t = .int .i64 k ∧ r = .int .i64 (n - dby k)) (fun _ t => (y - intOf t).toNat)
  case atStart => exact ⟨2000, by omega, by omega, rfl, by rw [dby_zero]; go_num⟩
  case round =>
    obtain ⟨k, hk0, hk1, rfl, rfl⟩ := hrel
    have kb := dby_bd k hk0 (by omega)
    have ks := dby_succ k
    by_cases hlt : k < y
    · have hm := dby_mono (k + 1) y (by omega)
      rcases dim2 k hk0 (by omega) with ⟨h29, hyd⟩ | ⟨h29, hyd⟩
      · rw [hyd] at ks
        have hge : 366 ≤ n - dby k := by omega
        have KS : Hid (_) := ks
        clear ks hyd
        go_wp2_with (go_at_call 16; refine (monthOf_any _ _ _).mono ?_; rintro e w' ⟨rfl, rfl⟩)
        go_round
        case rel => exact ⟨k + 1, by omega, by omega, rfl, by rw [KS.out]; go_num⟩
        case measure => simp [intOf]; omega
      · rw [hyd] at ks
        have hge : 365 ≤ n - dby k := by omega
        have KS : Hid (_) := ks
        clear ks hyd
        go_wp2_with (go_at_call 16; refine (monthOf_any _ _ _).mono ?_; rintro e w' ⟨rfl, rfl⟩)
        go_round
        case rel => exact ⟨k + 1, by omega, by omega, rfl, by rw [KS.out]; go_num⟩
        case measure => simp [intOf]; omega
    · obtain rfl : k = y := by omega
      rcases dim2 k hk0 (by omega) with ⟨h29, hyd⟩ | ⟨h29, hyd⟩
      · rw [hyd] at ks
        have hl : n - dby k < 366 := by omega
        clear ks hlt hyd
        go_wp2_with (go_at_call 16; refine (monthOf_any _ _ _).mono ?_; rintro e w' ⟨rfl, rfl⟩)
        go_loop [0, 7] (fun r t => ∃ i : Int, 1 ≤ i ∧ i ≤ m ∧ t = .int .i64 i ∧ r = .int .i64 (n - dby k - cum k i)) (fun _ t => (m - intOf t).toNat)
        case atStart => exact ⟨1, by omega, by omega, rfl, by rw [cum_one]; go_num⟩
        case round =>
          obtain ⟨i, hi0, hi1, rfl, rfl⟩ := hrel
          have ib := cum_bd k i hi0 (by omega)
          have id := dim_bd k i
          have is := cum_succ k i hy0 hy1 hi0 (by omega)
          by_cases hlt : i < m
          · have hm := cum_mono k (i + 1) m (by omega) (by omega)
            have hge : dim k i ≤ n - dby k - cum k i := by omega
            have IS : Hid (_) := is
            clear is
            go_wp2_with (go_at_call 16; refine (monthOf_any _ _ _).mono ?_; rintro e w' ⟨rfl, rfl⟩)
            go_round
            case rel => exact ⟨i + 1, by omega, by omega, rfl, by rw [IS.out]; go_num⟩
            case measure => simp [intOf]; omega
          · obtain rfl : i = m := by omega
            have hl : n - dby k - cum k i < dim k i := by omega
            clear is hlt
            go_wp2_with (go_at_call 16; refine (monthOf_any _ _ _).mono ?_; rintro e w' ⟨rfl, rfl⟩)
            go_ret3
            exact ⟨by rw [HD.out]; rfl, rfl⟩
      · rw [hyd] at ks
        have hl : n - dby k < 365 := by omega
        clear ks hlt hyd
        go_wp2_with (go_at_call 16; refine (monthOf_any _ _ _).mono ?_; rintro e w' ⟨rfl, rfl⟩)
        go_loop [0, 7] (fun r t => ∃ i : Int, 1 ≤ i ∧ i ≤ m ∧ t = .int .i64 i ∧ r = .int .i64 (n - dby k - cum k i)) (fun _ t => (m - intOf t).toNat)
        case atStart => exact ⟨1, by omega, by omega, rfl, by rw [cum_one]; go_num⟩
        case round =>
          obtain ⟨i, hi0, hi1, rfl, rfl⟩ := hrel
          have ib := cum_bd k i hi0 (by omega)
          have id := dim_bd k i
          have is := cum_succ k i hy0 hy1 hi0 (by omega)
          by_cases hlt : i < m
          · have hm := cum_mono k (i + 1) m (by omega) (by omega)
            have hge : dim k i ≤ n - dby k - cum k i := by omega
            have IS : Hid (_) := is
            clear is
            go_wp2_with (go_at_call 16; refine (monthOf_any _ _ _).mono ?_; rintro e w' ⟨rfl, rfl⟩)
            go_round
            case rel => exact ⟨i + 1, by omega, by omega, rfl, by rw [IS.out]; go_num⟩
            case measure => simp [intOf]; omega
          · obtain rfl : i = m := by omega
            have hl : n - dby k - cum k i < dim k i := by omega
            clear is hlt
            go_wp2_with (go_at_call 16; refine (monthOf_any _ _ _).mono ?_; rintro e w' ⟨rfl, rfl⟩)
            go_ret3
            exact ⟨by rw [HD.out]; rfl, rfl⟩
end Go.Proofs.YtfnajhpcbajhfaaDoor
