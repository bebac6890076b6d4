/- Contracts of the document's own answer to days: MonthOf, MakeDay, DateOf, AddMonths: each returns what the plain mathematics (Cal) says. -/
import Derived.Test.YtfnajhpcbajhfaaDoorDated
namespace Go.Proofs.YtfnajhpcbajhfaaDoor
open Go.RowKit Cal

theorem in_yes (n a b : Int) (w : World) (h0 : a ≤ n) (h1 : n ≤ b) :
    Calls Tryd.prog 31 #[.int .i64 n, .int .i64 a, .int .i64 b] w fun e w' => e = .returned (.bool true) ∧ w' = w := by
  go_enter Tryd.func31, Tryd.ntmps31
  go_wp2
  go_ret
  exact ⟨rfl, rfl⟩
theorem in_no (n a b : Int) (w : World) (h : n < a ∨ b < n) :
    Calls Tryd.prog 31 #[.int .i64 n, .int .i64 a, .int .i64 b] w fun e w' => e = .returned (.bool false) ∧ w' = w := by
  by_cases h0 : n < a
  · clear h
    go_enter Tryd.func31, Tryd.ntmps31
    go_wp2
    go_ret
    exact ⟨rfl, rfl⟩
  · have h1 : b < n := by omega
    have h2 : a ≤ n := by omega
    clear h h0
    go_enter Tryd.func31, Tryd.ntmps31
    go_wp2
    go_ret
    exact ⟨ret_bool (by simp; omega), rfl⟩
theorem isDayR_yes (n : Int) (w : World) (h0 : 0 ≤ n) (h1 : n ≤ 73048) :
    Calls Tryd.prog 21 #[.int .i64 n] w fun e w' => e = .returned (.bool true) ∧ w' = w := by
  go_enter Tryd.func21, Tryd.ntmps21
  go_wp2_with (go_at_call 31; refine (in_yes _ _ _ _ h0 h1).mono ?_; rintro e w' ⟨rfl, rfl⟩)
  go_ret
  exact ⟨rfl, rfl⟩
theorem isDayR_no (n : Int) (w : World) (h : n < 0 ∨ 73048 < n) :
    Calls Tryd.prog 21 #[.int .i64 n] w fun e w' => e = .returned (.bool false) ∧ w' = w := by
  go_enter Tryd.func21, Tryd.ntmps21
  go_wp2_with (go_at_call 31; refine (in_no _ _ _ _ h).mono ?_; rintro e w' ⟨rfl, rfl⟩)
  go_ret
  exact ⟨rfl, rfl⟩

theorem monthOf_out (y m : Int) (w : World) (h : y < 2000 ∨ 2199 < y) :
    Calls Tryd.prog 16 #[.int .i64 y, .int .i64 m] w fun e w' => e = .returned (.int .i64 0) ∧ w' = w := by
  by_cases hm : m < 1 ∨ 12 < m
  · go_enter Tryd.func16, Tryd.ntmps16
    go_wp2_with (first
      | (go_at_call_of 31 (Value.int .i64 y); refine (in_no y _ _ _ h).mono ?_; rintro e w' ⟨rfl, rfl⟩)
      | (go_at_call_of 31 (Value.int .i64 m); refine (in_no m _ _ _ hm).mono ?_; rintro e w' ⟨rfl, rfl⟩))
    go_ret
    exact ⟨rfl, rfl⟩
  · go_enter Tryd.func16, Tryd.ntmps16
    go_wp2_with (first
      | (go_at_call_of 31 (Value.int .i64 y); refine (in_no y _ _ _ h).mono ?_; rintro e w' ⟨rfl, rfl⟩)
      | (go_at_call_of 31 (Value.int .i64 m); refine (in_yes m _ _ _ (by omega) (by omega)).mono ?_; rintro e w' ⟨rfl, rfl⟩))
    go_ret
    exact ⟨rfl, rfl⟩
theorem monthOf_none (y m : Int) (w : World) (h0 : 2000 ≤ y) (h1 : y ≤ 2199) (h : m < 1 ∨ 12 < m) :
    Calls Tryd.prog 16 #[.int .i64 y, .int .i64 m] w fun e w' => e = .returned (.int .i64 0) ∧ w' = w := by
  go_enter Tryd.func16, Tryd.ntmps16
  go_wp2_with (first
    | (go_at_call_of 31 (Value.int .i64 y); refine (in_yes y _ _ _ h0 h1).mono ?_; rintro e w' ⟨rfl, rfl⟩)
    | (go_at_call_of 31 (Value.int .i64 m); refine (in_no m _ _ _ h).mono ?_; rintro e w' ⟨rfl, rfl⟩))
  go_ret
  exact ⟨rfl, rfl⟩
theorem monthOf_feb (y : Int) (w : World) (h0 : 2000 ≤ y) (h1 : y ≤ 2199) :
    Calls Tryd.prog 16 #[.int .i64 y, .int .i64 2] w fun e w' => e = .returned (.int .i64 (28 + lp y)) ∧ w' = w := by
  have hy : Hid (2000 ≤ y ∧ y ≤ 2199) := ⟨h0, h1⟩
  rcases lp_eq y with ⟨hb, hl⟩ | ⟨hb, hl⟩
  · rw [hl]
    rw [lpB_iff] at hb
    by_cases c : y % 400 = 0
    · clear hb hl
      go_enter Tryd.func16, Tryd.ntmps16
      go_wp2_with (first
        | (go_at_call_of 31 (Value.int .i64 y); refine (in_yes y _ _ _ hy.out.1 hy.out.2).mono ?_; rintro e w' ⟨rfl, rfl⟩)
        | (go_at_call 31; refine (in_yes 2 _ _ _ (by omega) (by omega)).mono ?_; rintro e w' ⟨rfl, rfl⟩))
      go_ret
      exact ⟨rfl, rfl⟩
    · have c' : (y % 400 == 0) = false := by simpa using c
      have a' : (y % 4 == 0) = true := by simp; omega
      have b' : (y % 100 == 0) = false := by simp; omega
      clear hb hl c
      go_enter Tryd.func16, Tryd.ntmps16
      go_wp2_with (first
        | (go_at_call_of 31 (Value.int .i64 y); refine (in_yes y _ _ _ hy.out.1 hy.out.2).mono ?_; rintro e w' ⟨rfl, rfl⟩)
        | (go_at_call 31; refine (in_yes 2 _ _ _ (by omega) (by omega)).mono ?_; rintro e w' ⟨rfl, rfl⟩))
      go_ret
      exact ⟨rfl, rfl⟩
  · rw [hl]
    rw [← Bool.not_eq_true, lpB_iff] at hb
    have c' : (y % 400 == 0) = false := by simp; omega
    by_cases a : y % 4 = 0
    · have a' : (y % 4 == 0) = true := by simpa using a
      have b' : (y % 100 == 0) = true := by simp; omega
      clear hb hl a
      go_enter Tryd.func16, Tryd.ntmps16
      go_wp2_with (first
        | (go_at_call_of 31 (Value.int .i64 y); refine (in_yes y _ _ _ hy.out.1 hy.out.2).mono ?_; rintro e w' ⟨rfl, rfl⟩)
        | (go_at_call 31; refine (in_yes 2 _ _ _ (by omega) (by omega)).mono ?_; rintro e w' ⟨rfl, rfl⟩))
      go_ret
      exact ⟨rfl, rfl⟩
    · have a' : (y % 4 == 0) = false := by simpa using a
      clear hb hl a
      go_enter Tryd.func16, Tryd.ntmps16
      go_wp2_with (first
        | (go_at_call_of 31 (Value.int .i64 y); refine (in_yes y _ _ _ hy.out.1 hy.out.2).mono ?_; rintro e w' ⟨rfl, rfl⟩)
        | (go_at_call 31; refine (in_yes 2 _ _ _ (by omega) (by omega)).mono ?_; rintro e w' ⟨rfl, rfl⟩))
      go_ret
      exact ⟨rfl, rfl⟩
theorem monthOf_any (y m : Int) (w : World) :
    Calls Tryd.prog 16 #[.int .i64 y, .int .i64 m] w fun e w' => e = .returned (.int .i64 (dim y m)) ∧ w' = w := by
  by_cases hy : y < 2000 ∨ 2199 < y
  · rw [dim_out y m (by omega)]; exact monthOf_out y m w hy
  · by_cases hm : m < 1 ∨ 12 < m
    · rw [dim_out y m (by omega)]; exact monthOf_none y m w (by omega) (by omega) hm
    · have h0 : 2000 ≤ y := by omega
      have h1 : y ≤ 2199 := by omega
      by_cases h2 : m = 2
      · subst h2
        rw [dim_feb y h0 h1]; exact monthOf_feb y w h0 h1
      · by_cases h30 : m = 4 ∨ m = 6 ∨ m = 9 ∨ m = 11
        · rw [dim_30 y m h0 h1 h30]
          rcases h30 with h | h | h | h
          all_goals
            subst h
            clear hm hy h2
            go_enter Tryd.func16, Tryd.ntmps16
            go_wp2_with (first
              | (go_at_call_of 31 (Value.int .i64 y); refine (in_yes y _ _ _ h0 h1).mono ?_; rintro e w' ⟨rfl, rfl⟩)
              | (go_at_call 31; refine (in_yes _ _ _ _ (by omega) (by omega)).mono ?_; rintro e w' ⟨rfl, rfl⟩))
            go_ret
            exact ⟨rfl, rfl⟩
        · have h31 : m = 1 ∨ m = 3 ∨ m = 5 ∨ m = 7 ∨ m = 8 ∨ m = 10 ∨ m = 12 := by omega
          rw [dim_31 y m h0 h1 h31]
          clear h2 h30 hm hy
          rcases h31 with h | h | h | h | h | h | h
          all_goals
            subst h
            go_enter Tryd.func16, Tryd.ntmps16
            go_wp2_with (first
              | (go_at_call_of 31 (Value.int .i64 y); refine (in_yes y _ _ _ h0 h1).mono ?_; rintro e w' ⟨rfl, rfl⟩)
              | (go_at_call 31; refine (in_yes _ _ _ _ (by omega) (by omega)).mono ?_; rintro e w' ⟨rfl, rfl⟩))
            go_ret
            exact ⟨rfl, rfl⟩
end Go.Proofs.YtfnajhpcbajhfaaDoor
