/- Contracts of package day's Date, Week and Add: each returns what the plain mathematics (Cal) says, for every input, and leaves memory that was there as it was. -/
import Derived.Test.YtfnajhpcbajhfaaDoorDay
namespace Go.Proofs.YtfnajhpcbajhfaaDoor
open Go.RowKit Cal

theorem date_no (n : Int) (ev : Addr) (w : World) (h : n < 0 ∨ 73048 < n) (hB : w.cell? ⟨1, 0, none⟩ = some (.iface 56 (.pointer (some ev)))) :
    Calls Tryd.prog 19 #[.int .i64 n] w fun e w' => e = .returned (.tuple #[.int .i64 0, .int .i64 0, .int .i64 0, .iface 56 (.pointer (some ev))]) ∧ Below w.heap.size w w' := by
  go_enter Tryd.func19, Tryd.ntmps19
  go_wp2_with (go_at_call 36; refine (isDay_no _ _ h).mono ?_; rintro e w' ⟨rfl, rfl⟩)
  go_quiet (fail)
  go_wp2
  exact bodyPost_ret (v := .tuple #[.int .i64 0, .int .i64 0, .int .i64 0, .iface 56 (.pointer (some ev))]) (by simp [results, Tryd.results19, go_sem]) rfl ⟨rfl, drewN_below _ _⟩

set_option maxHeartbeats 1000000 in
theorem date_ok (n y m d : Int) (w : World) (h : vld y m d) (hn : num y m d = n) :
    Calls Tryd.prog 19 #[.int .i64 n] w fun e w' => e = .returned (.tuple #[.int .i64 y, .int .i64 m, .int .i64 d, .nilIface]) ∧ w' = w := by
  have hnb := num_bd h
  have hny := num_year h
  have hnm := num_month h
  have hdd : d = n - dby y - cum y m + 1 := by unfold num at hn; omega
  rw [hn] at hnb hny hnm
  obtain ⟨hy0, hy1, hm0, hm1, hd0, hd1⟩ := h
  have HD : Hid (_) := hdd
  clear hdd hn
  obtain ⟨hn0, hn1⟩ := hnb
  obtain ⟨ha, hb⟩ := hny
  obtain ⟨hc, hd⟩ := hnm
  go_enter Tryd.func19, Tryd.ntmps19
  go_wp2_with (go_at_call 36; refine (isDay_yes _ _ hn0 hn1).mono ?_; rintro e w' ⟨rfl, rfl⟩)
  go_loop [0, 2] (fun r t => ∃ k : Int, 2000 ≤ k ∧ k ≤ y ∧ t = .int .i64 k ∧ r = .int .i64 (n - dby k)) (fun _ t => (y - intOf t).toNat)
  case atStart => exact ⟨2000, by omega, by omega, rfl, by rw [dby_zero]; go_num⟩
  case round =>
    obtain ⟨k, hk0, hk1, rfl, rfl⟩ := hrel
    have kb := dby_bd k hk0 (by omega)
    have kd := yd_bd k
    have ks := dby_succ k
    by_cases hlt : k < y
    · have hm := dby_mono (k + 1) y (by omega)
      have hge : yd k ≤ n - dby k := by omega
      have KS : Hid (_) := ks
      clear ks
      go_wp2_with (go_at_call 29; refine (yearDays_any _ _ (by omega) (by omega)).mono ?_; rintro e w' ⟨rfl, rfl⟩)
      go_round
      case rel => exact ⟨k + 1, by omega, by omega, rfl, by rw [KS.out]; go_num⟩
      case measure => simp [intOf]; omega
    · obtain rfl : k = y := by omega
      have hl : n - dby k < yd k := by omega
      clear ks hlt
      go_wp2_with (go_at_call 29; refine (yearDays_any _ _ (by omega) (by omega)).mono ?_; rintro e w' ⟨rfl, rfl⟩)
      go_loop [0, 3] (fun r t => ∃ i : Int, 1 ≤ i ∧ i ≤ m ∧ t = .int .i64 i ∧ r = .int .i64 (n - dby k - cum k i)) (fun _ t => (m - intOf t).toNat)
      case atStart => exact ⟨1, by omega, by omega, rfl, by rw [cum_one]; go_num⟩
      case round =>
        obtain ⟨i, hi0, hi1, rfl, rfl⟩ := hrel
        have ib := cum_bd k i hi0 (by omega)
        have id := dim_bd k i
        have is := cum_succ k i hy0 hy1 hi0 (by omega)
        by_cases hlt : i < m
        · have hm := cum_mono k (i + 1) m (by omega) (by omega)
          have hge : dim k i ≤ n - dby k - cum k i := by omega
          have IS : Hid (_) := is
          clear is
          go_wp2_with (go_at_call 15; refine (months_any _ _ _).mono ?_; rintro e w' ⟨rfl, rfl⟩)
          go_round
          case rel => exact ⟨i + 1, by omega, by omega, rfl, by rw [IS.out]; go_num⟩
          case measure => simp [intOf]; omega
        · obtain rfl : i = m := by omega
          have hl : n - dby k - cum k i < dim k i := by omega
          clear is hlt
          go_wp2_with (go_at_call 15; refine (months_any _ _ _).mono ?_; rintro e w' ⟨rfl, rfl⟩)
          exact bodyPost_ret (v := .tuple #[.int .i64 k, .int .i64 i, .int .i64 (n - dby k - cum k i + 1), .nilIface]) (by simp [results, Tryd.results19, go_sem]) rfl ⟨by rw [HD.out], rfl⟩

theorem week_no (n : Int) (ev : Addr) (w : World) (h : n < 0 ∨ 73048 < n) (hB : w.cell? ⟨1, 0, none⟩ = some (.iface 56 (.pointer (some ev)))) :
    Calls Tryd.prog 20 #[.int .i64 n] w fun e w' => e = .returned (.tuple #[.int .i64 0, .iface 56 (.pointer (some ev))]) ∧ Below w.heap.size w w' := by
  go_enter Tryd.func20, Tryd.ntmps20
  go_wp2_with (go_at_call 36; refine (isDay_no _ _ h).mono ?_; rintro e w' ⟨rfl, rfl⟩)
  go_quiet (fail)
  go_wp2
  go_ret2
  exact ⟨rfl, drewN_below _ _⟩
theorem week_ok (n : Int) (w : World) (h0 : 0 ≤ n) (h1 : n ≤ 73048) :
    Calls Tryd.prog 20 #[.int .i64 n] w fun e w' => e = .returned (.tuple #[.int .i64 ((n + 5) % 7), .nilIface]) ∧ w' = w := by
  go_enter Tryd.func20, Tryd.ntmps20
  go_wp2_with (go_at_call 36; refine (isDay_yes _ _ h0 h1).mono ?_; rintro e w' ⟨rfl, rfl⟩)
  go_ret2
  exact ⟨rfl, rfl⟩
end Go.Proofs.YtfnajhpcbajhfaaDoor
