/- Plain mathematics of days (no program text in it): leap years, a month's days, the days before a year and before a month, a date's number; that dates and numbers fit one to one. -/
namespace Go.Proofs.YtekminpoiokgfaaGreatDoor.Cal

/-- a leap year -/
def lpB (y : Int) : Bool := (y % 4 == 0) && ((!(y % 100 == 0)) || (y % 400 == 0))
/-- one where a year is a leap year, else nought -/
def lp (y : Int) : Int := if lpB y = true then 1 else 0
/-- a year's days -/
def yd (y : Int) : Int := 365 + lp y
/-- a month's days; nought: there is none -/
def dim (y m : Int) : Int :=
  if y < 2000 ∨ 2199 < y then 0 else
  if m = 1 ∨ m = 3 ∨ m = 5 ∨ m = 7 ∨ m = 8 ∨ m = 10 ∨ m = 12 then 31 else
  if m = 4 ∨ m = 6 ∨ m = 9 ∨ m = 11 then 30 else
  if m = 2 then 28 + lp y else 0
/-- days before a year -/
def dby (y : Int) : Int := 365 * (y - 2000) + (y - 2000 + 3) / 4 - (y - 2000 + 99) / 100 + (y - 2000 + 399) / 400
/-- days of a year before a month -/
def cum (y m : Int) : Int := (367 * m - 362) / 12 + (if m ≤ 2 then 0 else lp y - 2)
/-- a date's number -/
def num (y m d : Int) : Int := dby y + cum y m + d - 1
/-- is it a date? -/
def vld (y m d : Int) : Prop := 2000 ≤ y ∧ y ≤ 2199 ∧ 1 ≤ m ∧ m ≤ 12 ∧ 1 ≤ d ∧ d ≤ dim y m

theorem lp_01 (y : Int) : 0 ≤ lp y ∧ lp y ≤ 1 := by unfold lp; split <;> omega
theorem lp_eq (y : Int) : (lpB y = true ∧ lp y = 1) ∨ (lpB y = false ∧ lp y = 0) := by
  unfold lp; cases h : lpB y <;> simp
theorem lpB_iff (y : Int) : lpB y = true ↔ (y % 4 = 0 ∧ (y % 100 ≠ 0 ∨ y % 400 = 0)) := by
  unfold lpB; simp
theorem dim_bd (y m : Int) : 0 ≤ dim y m ∧ dim y m ≤ 31 := by
  have := lp_01 y; unfold dim; repeat' split
  all_goals omega
theorem dim_out (y m : Int) (h : ¬ (2000 ≤ y ∧ y ≤ 2199 ∧ 1 ≤ m ∧ m ≤ 12)) : dim y m = 0 := by
  unfold dim; repeat' split
  all_goals omega
theorem dim_31 (y m : Int) (h0 : 2000 ≤ y) (h1 : y ≤ 2199) (h : m = 1 ∨ m = 3 ∨ m = 5 ∨ m = 7 ∨ m = 8 ∨ m = 10 ∨ m = 12) : dim y m = 31 := by
  unfold dim; rw [if_neg (by omega), if_pos h]
theorem dim_30 (y m : Int) (h0 : 2000 ≤ y) (h1 : y ≤ 2199) (h : m = 4 ∨ m = 6 ∨ m = 9 ∨ m = 11) : dim y m = 30 := by
  unfold dim; rw [if_neg (by omega), if_neg (by omega), if_pos h]
theorem dim_feb (y : Int) (h0 : 2000 ≤ y) (h1 : y ≤ 2199) : dim y 2 = 28 + lp y := by
  unfold dim; rw [if_neg (by omega), if_neg (by omega), if_neg (by omega), if_pos rfl]
theorem dby_succ (y : Int) : dby (y + 1) = dby y + yd y := by
  unfold yd lp dby
  by_cases hl : lpB y = true
  · rw [if_pos hl]; rw [lpB_iff] at hl; omega
  · rw [if_neg hl]; rw [lpB_iff] at hl; omega
theorem dby_zero : dby 2000 = 0 := by decide
theorem dby_end : dby 2200 = 73049 := by decide
theorem yd_bd (y : Int) : 365 ≤ yd y ∧ yd y ≤ 366 := by have := lp_01 y; unfold yd; omega
theorem dby_mono (a b : Int) (h : a ≤ b) : dby a ≤ dby b := by unfold dby; omega
theorem dby_bd (y : Int) (h0 : 2000 ≤ y) (h : y ≤ 2200) : 0 ≤ dby y ∧ dby y ≤ 73049 := by
  have a := dby_mono 2000 y h0
  have b := dby_mono y 2200 h
  rw [dby_zero] at a; rw [dby_end] at b; omega
theorem cum_one (y : Int) : cum y 1 = 0 := by unfold cum; rw [if_pos (by omega)]; omega
theorem cum_end (y : Int) : cum y 13 = yd y := by unfold cum yd; rw [if_neg (by omega)]; omega
theorem m12 (m : Int) (h1 : 1 ≤ m) (h2 : m ≤ 12) : m = 1 ∨ m = 2 ∨ m = 3 ∨ m = 4 ∨ m = 5 ∨ m = 6 ∨ m = 7 ∨ m = 8 ∨ m = 9 ∨ m = 10 ∨ m = 11 ∨ m = 12 := by omega
theorem cum_succ (y m : Int) (h1 : 2000 ≤ y) (h2 : y ≤ 2199) (h3 : 1 ≤ m) (h4 : m ≤ 12) : cum y (m + 1) = cum y m + dim y m := by
  have hy : ¬ (y < 2000 ∨ 2199 < y) := by omega
  rcases m12 m h3 h4 with h | h | h | h | h | h | h | h | h | h | h | h <;> subst h <;> simp [cum, dim, hy] <;> omega
theorem cum_bd (y m : Int) (h1 : 1 ≤ m) (h2 : m ≤ 13) : 0 ≤ cum y m ∧ cum y m ≤ 366 := by
  have := lp_01 y; unfold cum; split <;> omega
theorem cum_mono (y m k : Int) (h0 : 1 ≤ m) (h : m ≤ k) : cum y m ≤ cum y k := by
  have := lp_01 y; unfold cum; split <;> split <;> omega
theorem cum_le (y m : Int) (h0 : 1 ≤ m) (h : m ≤ 13) : cum y m ≤ yd y := by rw [← cum_end]; exact cum_mono y m 13 h0 h
theorem num_bd {y m d : Int} (h : vld y m d) : 0 ≤ num y m d ∧ num y m d ≤ 73048 := by
  obtain ⟨a, b, c, e, f, g⟩ := h
  have h1 := dby_bd y a (by omega)
  have h2 := cum_bd y m c (by omega)
  have h3 := cum_succ y m a b c e
  have h4 := cum_le y (m + 1) (by omega) (by omega)
  have h5 := dby_succ y
  have h6 := dby_bd (y + 1) (by omega) (by omega)
  unfold num; omega
theorem num_year {y m d : Int} (h : vld y m d) : dby y ≤ num y m d ∧ num y m d < dby (y + 1) := by
  obtain ⟨a, b, c, e, f, g⟩ := h
  have h2 := cum_bd y m c (by omega)
  have h3 := cum_succ y m a b c e
  have h4 := cum_le y (m + 1) (by omega) (by omega)
  have h5 := dby_succ y
  unfold num; omega
theorem num_month {y m d : Int} (h : vld y m d) : dby y + cum y m ≤ num y m d ∧ num y m d < dby y + cum y (m + 1) := by
  obtain ⟨a, b, c, e, f, g⟩ := h
  have h3 := cum_succ y m a b c e
  unfold num; omega
theorem num_inj {y m d y' m' d' : Int} (h : vld y m d) (h' : vld y' m' d') (e : num y m d = num y' m' d') : y = y' ∧ m = m' ∧ d = d' := by
  have a := num_year h
  have a' := num_year h'
  have hy : y = y' := by
    rcases Int.lt_trichotomy y y' with l | l | l
    · have := dby_mono (y + 1) y' (by omega); omega
    · exact l
    · have := dby_mono (y' + 1) y (by omega); omega
  subst hy
  have b := num_month h
  have b' := num_month h'
  have hm : m = m' := by
    rcases Int.lt_trichotomy m m' with l | l | l
    · have := cum_mono y (m + 1) m' (by have := h.2.2.1; omega) (by omega); omega
    · exact l
    · have := cum_mono y (m' + 1) m (by have := h'.2.2.1; omega) (by omega); omega
  subst hm
  refine ⟨rfl, rfl, ?_⟩
  unfold num at e; omega
/-- every number of a day has a date -/
theorem exists_year (n : Int) (h0 : 0 ≤ n) (h1 : n ≤ 73048) : ∃ y : Int, 2000 ≤ y ∧ y ≤ 2199 ∧ dby y ≤ n ∧ n < dby (y + 1) := by
  have key : ∀ k : Nat, k ≤ 200 → n < dby (2000 + k) → ∃ y : Int, 2000 ≤ y ∧ y < 2000 + k ∧ dby y ≤ n ∧ n < dby (y + 1) := by
    intro k
    induction k with
    | zero => intro _ h; have : dby (2000 + ((0 : Nat) : Int)) = 0 := dby_zero; omega
    | succ k ih =>
      intro hk h
      by_cases hc : n < dby (2000 + k)
      · obtain ⟨y, a, b, c, d⟩ := ih (by omega) hc; exact ⟨y, a, by omega, c, d⟩
      · refine ⟨2000 + k, by omega, by omega, by omega, ?_⟩
        have e : (2000 : Int) + (k : Int) + 1 = 2000 + ((k + 1 : Nat) : Int) := by omega
        rw [e]; exact h
  obtain ⟨y, a, b, c, d⟩ := key 200 (by omega) (by have : dby (2000 + ((200 : Nat) : Int)) = 73049 := dby_end; omega)
  exact ⟨y, a, by omega, c, d⟩
theorem exists_month (y r : Int) (h0 : 0 ≤ r) (h : r < yd y) : ∃ m : Int, 1 ≤ m ∧ m ≤ 12 ∧ cum y m ≤ r ∧ r < cum y (m + 1) := by
  have key : ∀ k : Nat, k ≤ 12 → r < cum y (1 + k) → ∃ m : Int, 1 ≤ m ∧ m < 1 + k ∧ cum y m ≤ r ∧ r < cum y (m + 1) := by
    intro k
    induction k with
    | zero => intro _ h; have : cum y (1 + ((0 : Nat) : Int)) = 0 := cum_one y; omega
    | succ k ih =>
      intro hk h
      by_cases hc : r < cum y (1 + k)
      · obtain ⟨m, a, b, c, d⟩ := ih (by omega) hc; exact ⟨m, a, by omega, c, d⟩
      · refine ⟨1 + k, by omega, by omega, by omega, ?_⟩
        have e : (1 : Int) + (k : Int) + 1 = 1 + ((k + 1 : Nat) : Int) := by omega
        rw [e]; exact h
  obtain ⟨m, a, b, c, d⟩ := key 12 (by omega) (by have : cum y (1 + ((12 : Nat) : Int)) = yd y := cum_end y; omega)
  exact ⟨m, a, by omega, c, d⟩
theorem exists_date (n : Int) (h0 : 0 ≤ n) (h1 : n ≤ 73048) : ∃ y m d : Int, vld y m d ∧ num y m d = n := by
  obtain ⟨y, a, b, c, d⟩ := exists_year n h0 h1
  have hs := dby_succ y
  obtain ⟨m, e, f, g, h⟩ := exists_month y (n - dby y) (by omega) (by omega)
  have hc := cum_succ y m a b e f
  exact ⟨y, m, n - dby y - cum y m + 1, ⟨a, b, e, f, by omega, by omega⟩, by unfold num; omega⟩
end Go.Proofs.YtekminpoiokgfaaGreatDoor.Cal
