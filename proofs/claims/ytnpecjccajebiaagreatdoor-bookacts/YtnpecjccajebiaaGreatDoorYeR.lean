/- Contracts: the closed fact that every law of chapter 1 asks first (a leap day's number and text), and Add in one form for every count of months. -/
import Derived.Test.YtnpecjccajebiaaGreatDoorYbAB
import Derived.Test.YtnpecjccajebiaaGreatDoorYaAA
import Derived.Test.YtnpecjccajebiaaGreatDoorYbAA
import Derived.Test.YtnpecjccajebiaaGreatDoorYaAI
import Derived.Lib.ItoaLen
namespace Go.Proofs.YtnpecjccajebiaaGreatDoor
open Go.RowKit Cal

/-- is there a day so many months on? -/
def addB (y m d k : Int) : Bool := decide (0 ≤ atM y m + k ∧ atM y m + k < 2400 ∧ d ≤ dim (yM (atM y m + k)) (mM (atM y m + k)))
/-- which one -/
def addI (y m d k : Int) : Int := if addB y m d k = true then num (yM (atM y m + k)) (mM (atM y m + k)) d else 0
theorem addB_iff (y m d k : Int) : addB y m d k = true ↔ (0 ≤ atM y m + k ∧ atM y m + k < 2400 ∧ d ≤ dim (yM (atM y m + k)) (mM (atM y m + k))) := by unfold addB; simp
theorem addI_no {y m d k : Int} (h : addB y m d k = false) : addI y m d k = 0 := by unfold addI; rw [h]; rfl
theorem addI_yes {y m d k : Int} (h : addB y m d k = true) : addI y m d k = num (yM (atM y m + k)) (mM (atM y m + k)) d := by unfold addI; rw [if_pos h]
theorem add_vld {y m d k : Int} (h : vld y m d) (hb : addB y m d k = true) : vld (yM (atM y m + k)) (mM (atM y m + k)) d := by
  rw [addB_iff] at hb
  have hi := yM_in _ hb.1 hb.2.1
  exact ⟨hi.1, hi.2.1, hi.2.2.1, hi.2.2.2, h.2.2.2.2.1, hb.2.2⟩
theorem addB_two {y m d a : Int} (b : Int) : addB (yM (atM y m + a)) (mM (atM y m + a)) d b = addB y m d (a + b) := by
  unfold addB; rw [atM_yM, Int.add_assoc]
theorem addI_two {y m d a : Int} (b : Int) : addI (yM (atM y m + a)) (mM (atM y m + a)) d b = addI y m d (a + b) := by
  unfold addI; rw [addB_two, atM_yM, Int.add_assoc]
theorem addI_bd {y m d k : Int} (h : vld y m d) : 0 ≤ addI y m d k ∧ addI y m d k ≤ 73048 := by
  cases hb : addB y m d k with
  | true => rw [addI_yes hb]; exact num_bd (add_vld h hb)
  | false => rw [addI_no hb]; omega

theorem add_any (n k y m d : Int) (ev : Addr) (w : World) (h : vld y m d) (hn : num y m d = n) (g : Env ev w) :
    Calls Tryz.prog 243 #[.int .i64 n, .int .i64 k] w fun e w' => e = .returned (.tuple #[.int .i64 (addI y m d k), .bool (addB y m d k)]) ∧ Below w.heap.size w w' := by
  cases hb : addB y m d k with
  | true =>
    rw [addI_yes hb]
    rw [addB_iff] at hb
    exact add_ok n k y m d w h hn hb.1 hb.2.1 hb.2.2
  | false =>
    rw [addI_no hb]
    rw [← Bool.not_eq_true, addB_iff] at hb
    by_cases h1 : 0 ≤ atM y m + k ∧ atM y m + k < 2400
    · exact add_bad n k y m d ev w h hn h1.1 h1.2 (by omega) g.bound
    · refine (add_out n k y m d w h hn (by omega)).mono ?_
      rintro e w' ⟨rfl, rfl⟩
      exact ⟨rfl, Below.refl _ _⟩
end Go.Proofs.YtnpecjccajebiaaGreatDoor

/- Contracts of the document's own answer to days: MonthOf, MakeDay, DateOf, AddMonths: each returns what the plain mathematics (Cal) says. -/
namespace Go.Proofs.YtnpecjccajebiaaGreatDoor
open Go.RowKit Cal

theorem in_yes (n a b : Int) (w : World) (h0 : a ≤ n) (h1 : n ≤ b) :
    Calls Tryz.prog 82 #[.int .i64 n, .int .i64 a, .int .i64 b] w fun e w' => e = .returned (.bool true) ∧ w' = w := by
  go_enter Tryz.func82, Tryz.ntmps82
  go_wp2
  go_ret
  exact ⟨rfl, rfl⟩
theorem in_no (n a b : Int) (w : World) (h : n < a ∨ b < n) :
    Calls Tryz.prog 82 #[.int .i64 n, .int .i64 a, .int .i64 b] w fun e w' => e = .returned (.bool false) ∧ w' = w := by
  by_cases h0 : n < a
  · clear h
    go_enter Tryz.func82, Tryz.ntmps82
    go_wp2
    go_ret
    exact ⟨rfl, rfl⟩
  · have h1 : b < n := by omega
    have h2 : a ≤ n := by omega
    clear h h0
    go_enter Tryz.func82, Tryz.ntmps82
    go_wp2
    go_ret
    exact ⟨ret_bool (by simp; omega), rfl⟩
theorem isDayR_yes (n : Int) (w : World) (h0 : 0 ≤ n) (h1 : n ≤ 73048) :
    Calls Tryz.prog 56 #[.int .i64 n] w fun e w' => e = .returned (.bool true) ∧ w' = w := by
  go_enter Tryz.func56, Tryz.ntmps56
  go_wp2_with (go_at_call 82; refine (in_yes _ _ _ _ h0 h1).mono ?_; rintro e w' ⟨rfl, rfl⟩)
  go_ret
  exact ⟨rfl, rfl⟩
theorem isDayR_no (n : Int) (w : World) (h : n < 0 ∨ 73048 < n) :
    Calls Tryz.prog 56 #[.int .i64 n] w fun e w' => e = .returned (.bool false) ∧ w' = w := by
  go_enter Tryz.func56, Tryz.ntmps56
  go_wp2_with (go_at_call 82; refine (in_no _ _ _ _ h).mono ?_; rintro e w' ⟨rfl, rfl⟩)
  go_ret
  exact ⟨rfl, rfl⟩

theorem monthOf_out (y m : Int) (w : World) (h : y < 2000 ∨ 2199 < y) :
    Calls Tryz.prog 245 #[.int .i64 y, .int .i64 m] w fun e w' => e = .returned (.int .i64 0) ∧ w' = w := by
  by_cases hm : m < 1 ∨ 12 < m
  · go_enter Tryz.func245, Tryz.ntmps245
    go_wp2_with (first
      | (go_at_call_of 82 (Value.int .i64 y); refine (in_no y _ _ _ h).mono ?_; rintro e w' ⟨rfl, rfl⟩)
      | (go_at_call_of 82 (Value.int .i64 m); refine (in_no m _ _ _ hm).mono ?_; rintro e w' ⟨rfl, rfl⟩))
    go_ret
    exact ⟨rfl, rfl⟩
  · go_enter Tryz.func245, Tryz.ntmps245
    go_wp2_with (first
      | (go_at_call_of 82 (Value.int .i64 y); refine (in_no y _ _ _ h).mono ?_; rintro e w' ⟨rfl, rfl⟩)
      | (go_at_call_of 82 (Value.int .i64 m); refine (in_yes m _ _ _ (by omega) (by omega)).mono ?_; rintro e w' ⟨rfl, rfl⟩))
    go_ret
    exact ⟨rfl, rfl⟩
theorem monthOf_none (y m : Int) (w : World) (h0 : 2000 ≤ y) (h1 : y ≤ 2199) (h : m < 1 ∨ 12 < m) :
    Calls Tryz.prog 245 #[.int .i64 y, .int .i64 m] w fun e w' => e = .returned (.int .i64 0) ∧ w' = w := by
  go_enter Tryz.func245, Tryz.ntmps245
  go_wp2_with (first
    | (go_at_call_of 82 (Value.int .i64 y); refine (in_yes y _ _ _ h0 h1).mono ?_; rintro e w' ⟨rfl, rfl⟩)
    | (go_at_call_of 82 (Value.int .i64 m); refine (in_no m _ _ _ h).mono ?_; rintro e w' ⟨rfl, rfl⟩))
  go_ret
  exact ⟨rfl, rfl⟩
theorem monthOf_feb (y : Int) (w : World) (h0 : 2000 ≤ y) (h1 : y ≤ 2199) :
    Calls Tryz.prog 245 #[.int .i64 y, .int .i64 2] w fun e w' => e = .returned (.int .i64 (28 + lp y)) ∧ w' = w := by
  have hy : Hid (2000 ≤ y ∧ y ≤ 2199) := ⟨h0, h1⟩
  rcases lp_eq y with ⟨hb, hl⟩ | ⟨hb, hl⟩
  · rw [hl]
    rw [lpB_iff] at hb
    by_cases c : y % 400 = 0
    · clear hb hl
      go_enter Tryz.func245, Tryz.ntmps245
      go_wp2_with (first
        | (go_at_call_of 82 (Value.int .i64 y); refine (in_yes y _ _ _ hy.out.1 hy.out.2).mono ?_; rintro e w' ⟨rfl, rfl⟩)
        | (go_at_call 82; refine (in_yes 2 _ _ _ (by omega) (by omega)).mono ?_; rintro e w' ⟨rfl, rfl⟩))
      go_ret
      exact ⟨rfl, rfl⟩
    · have c' : (y % 400 == 0) = false := by simpa using c
      have a' : (y % 4 == 0) = true := by simp; omega
      have b' : (y % 100 == 0) = false := by simp; omega
      clear hb hl c
      go_enter Tryz.func245, Tryz.ntmps245
      go_wp2_with (first
        | (go_at_call_of 82 (Value.int .i64 y); refine (in_yes y _ _ _ hy.out.1 hy.out.2).mono ?_; rintro e w' ⟨rfl, rfl⟩)
        | (go_at_call 82; refine (in_yes 2 _ _ _ (by omega) (by omega)).mono ?_; rintro e w' ⟨rfl, rfl⟩))
      go_ret
      exact ⟨rfl, rfl⟩
  · rw [hl]
    rw [← Bool.not_eq_true, lpB_iff] at hb
    have c' : (y % 400 == 0) = false := by simp; omega
    by_cases a : y % 4 = 0
    · have a' : (y % 4 == 0) = true := by simpa using a
      have b' : (y % 100 == 0) = true := by simp; omega
      clear hb hl a
      go_enter Tryz.func245, Tryz.ntmps245
      go_wp2_with (first
        | (go_at_call_of 82 (Value.int .i64 y); refine (in_yes y _ _ _ hy.out.1 hy.out.2).mono ?_; rintro e w' ⟨rfl, rfl⟩)
        | (go_at_call 82; refine (in_yes 2 _ _ _ (by omega) (by omega)).mono ?_; rintro e w' ⟨rfl, rfl⟩))
      go_ret
      exact ⟨rfl, rfl⟩
    · have a' : (y % 4 == 0) = false := by simpa using a
      clear hb hl a
      go_enter Tryz.func245, Tryz.ntmps245
      go_wp2_with (first
        | (go_at_call_of 82 (Value.int .i64 y); refine (in_yes y _ _ _ hy.out.1 hy.out.2).mono ?_; rintro e w' ⟨rfl, rfl⟩)
        | (go_at_call 82; refine (in_yes 2 _ _ _ (by omega) (by omega)).mono ?_; rintro e w' ⟨rfl, rfl⟩))
      go_ret
      exact ⟨rfl, rfl⟩
theorem monthOf_any (y m : Int) (w : World) :
    Calls Tryz.prog 245 #[.int .i64 y, .int .i64 m] w fun e w' => e = .returned (.int .i64 (dim y m)) ∧ w' = w := by
  by_cases hy : y < 2000 ∨ 2199 < y
  · rw [dim_out y m (by omega)]; exact monthOf_out y m w hy
  · by_cases hm : m < 1 ∨ 12 < m
    · rw [dim_out y m (by omega)]; exact monthOf_none y m w (by omega) (by omega) hm
    · have h0 : 2000 ≤ y := by omega
      have h1 : y ≤ 2199 := by omega
      by_cases h2 : m = 2
      · subst h2
        rw [dim_feb y h0 h1]; exact monthOf_feb y w h0 h1
      · by_cases h30 : m = 4 ∨ m = 6 ∨ m = 9 ∨ m = 11
        · rw [dim_30 y m h0 h1 h30]
          rcases h30 with h | h | h | h
          all_goals
            subst h
            clear hm hy h2
            go_enter Tryz.func245, Tryz.ntmps245
            go_wp2_with (first
              | (go_at_call_of 82 (Value.int .i64 y); refine (in_yes y _ _ _ h0 h1).mono ?_; rintro e w' ⟨rfl, rfl⟩)
              | (go_at_call 82; refine (in_yes _ _ _ _ (by omega) (by omega)).mono ?_; rintro e w' ⟨rfl, rfl⟩))
            go_ret
            exact ⟨rfl, rfl⟩
        · have h31 : m = 1 ∨ m = 3 ∨ m = 5 ∨ m = 7 ∨ m = 8 ∨ m = 10 ∨ m = 12 := by omega
          rw [dim_31 y m h0 h1 h31]
          clear h2 h30 hm hy
          rcases h31 with h | h | h | h | h | h | h
          all_goals
            subst h
            go_enter Tryz.func245, Tryz.ntmps245
            go_wp2_with (first
              | (go_at_call_of 82 (Value.int .i64 y); refine (in_yes y _ _ _ h0 h1).mono ?_; rintro e w' ⟨rfl, rfl⟩)
              | (go_at_call 82; refine (in_yes _ _ _ _ (by omega) (by omega)).mono ?_; rintro e w' ⟨rfl, rfl⟩))
            go_ret
            exact ⟨rfl, rfl⟩
end Go.Proofs.YtnpecjccajebiaaGreatDoor

/- Contracts of the document's own answer to days: MakeDay, DateOf, AddMonths. -/
namespace Go.Proofs.YtnpecjccajebiaaGreatDoor
open Go.RowKit Cal

theorem dim2 (k : Int) (h0 : 2000 ≤ k) (h1 : k ≤ 2199) : ((dim k 2 == 29) = true ∧ yd k = 366) ∨ ((dim k 2 == 29) = false ∧ yd k = 365) := by
  have h := dim_feb k h0 h1
  rcases lp_eq k with ⟨_, hl⟩ | ⟨_, hl⟩
  · exact Or.inl ⟨by simp; omega, by unfold yd; omega⟩
  · exact Or.inr ⟨by simp; omega, by unfold yd; omega⟩

set_option maxHeartbeats 1000000 in
theorem dateOf_ok (n y m d : Int) (w : World) (h : vld y m d) (hn : num y m d = n) :
    Calls Tryz.prog 216 #[.int .i64 n] w fun e w' => e = .returned (.tuple #[.int .i64 y, .int .i64 m, .int .i64 d]) ∧ w' = w := by
  have hnb := num_bd h
  have hny := num_year h
  have hnm := num_month h
  have hdd : d = n - dby y - cum y m + 1 := by unfold num at hn; omega
  rw [hn] at hnb hny hnm
  obtain ⟨hy0, hy1, hm0, hm1, hd0, hd1⟩ := h
  have HD : Hid (_) := hdd
  clear hdd hn
  obtain ⟨hn0, hn1⟩ := hnb
  obtain ⟨ha, hb⟩ := hny
  obtain ⟨hc, hd⟩ := hnm
  go_enter Tryz.func216, Tryz.ntmps216
  go_wp2
  go_loop [0, 5] (fun r t => ∃ k : Int, 2000 ≤ k ∧ k ≤ y ∧ t = .int .i64 k ∧ r = .int .i64 (n - dby k)) (fun _ t => (y - intOf t).toNat)
  case atStart => exact ⟨2000, by omega, by omega, rfl, by rw [dby_zero]; go_num⟩
  case round =>
    obtain ⟨k, hk0, hk1, rfl, rfl⟩ := hrel
    have kb := dby_bd k hk0 (by omega)
    have ks := dby_succ k
    by_cases hlt : k < y
    · have hm := dby_mono (k + 1) y (by omega)
      rcases dim2 k hk0 (by omega) with ⟨h29, hyd⟩ | ⟨h29, hyd⟩
      · rw [hyd] at ks
        have hge : 366 ≤ n - dby k := by omega
        have KS : Hid (_) := ks
        clear ks hyd
        go_wp2_with (go_at_call 245; refine (monthOf_any _ _ _).mono ?_; rintro e w' ⟨rfl, rfl⟩)
        go_round
        case rel => exact ⟨k + 1, by omega, by omega, rfl, by rw [KS.out]; go_num⟩
        case measure => simp [intOf]; omega
      · rw [hyd] at ks
        have hge : 365 ≤ n - dby k := by omega
        have KS : Hid (_) := ks
        clear ks hyd
        go_wp2_with (go_at_call 245; refine (monthOf_any _ _ _).mono ?_; rintro e w' ⟨rfl, rfl⟩)
        go_round
        case rel => exact ⟨k + 1, by omega, by omega, rfl, by rw [KS.out]; go_num⟩
        case measure => simp [intOf]; omega
    · obtain rfl : k = y := by omega
      rcases dim2 k hk0 (by omega) with ⟨h29, hyd⟩ | ⟨h29, hyd⟩
      · rw [hyd] at ks
        have hl : n - dby k < 366 := by omega
        clear ks hlt hyd
        go_wp2_with (go_at_call 245; refine (monthOf_any _ _ _).mono ?_; rintro e w' ⟨rfl, rfl⟩)
        go_loop [0, 7] (fun r t => ∃ i : Int, 1 ≤ i ∧ i ≤ m ∧ t = .int .i64 i ∧ r = .int .i64 (n - dby k - cum k i)) (fun _ t => (m - intOf t).toNat)
        case atStart => exact ⟨1, by omega, by omega, rfl, by rw [cum_one]; go_num⟩
        case round =>
          obtain ⟨i, hi0, hi1, rfl, rfl⟩ := hrel
          have ib := cum_bd k i hi0 (by omega)
          have id := dim_bd k i
          have is := cum_succ k i hy0 hy1 hi0 (by omega)
          by_cases hlt : i < m
          · have hm := cum_mono k (i + 1) m (by omega) (by omega)
            have hge : dim k i ≤ n - dby k - cum k i := by omega
            have IS : Hid (_) := is
            clear is
            go_wp2_with (go_at_call 245; refine (monthOf_any _ _ _).mono ?_; rintro e w' ⟨rfl, rfl⟩)
            go_round
            case rel => exact ⟨i + 1, by omega, by omega, rfl, by rw [IS.out]; go_num⟩
            case measure => simp [intOf]; omega
          · obtain rfl : i = m := by omega
            have hl : n - dby k - cum k i < dim k i := by omega
            clear is hlt
            go_wp2_with (go_at_call 245; refine (monthOf_any _ _ _).mono ?_; rintro e w' ⟨rfl, rfl⟩)
            go_ret3
            exact ⟨by rw [HD.out]; rfl, rfl⟩
      · rw [hyd] at ks
        have hl : n - dby k < 365 := by omega
        clear ks hlt hyd
        go_wp2_with (go_at_call 245; refine (monthOf_any _ _ _).mono ?_; rintro e w' ⟨rfl, rfl⟩)
        go_loop [0, 7] (fun r t => ∃ i : Int, 1 ≤ i ∧ i ≤ m ∧ t = .int .i64 i ∧ r = .int .i64 (n - dby k - cum k i)) (fun _ t => (m - intOf t).toNat)
        case atStart => exact ⟨1, by omega, by omega, rfl, by rw [cum_one]; go_num⟩
        case round =>
          obtain ⟨i, hi0, hi1, rfl, rfl⟩ := hrel
          have ib := cum_bd k i hi0 (by omega)
          have id := dim_bd k i
          have is := cum_succ k i hy0 hy1 hi0 (by omega)
          by_cases hlt : i < m
          · have hm := cum_mono k (i + 1) m (by omega) (by omega)
            have hge : dim k i ≤ n - dby k - cum k i := by omega
            have IS : Hid (_) := is
            clear is
            go_wp2_with (go_at_call 245; refine (monthOf_any _ _ _).mono ?_; rintro e w' ⟨rfl, rfl⟩)
            go_round
            case rel => exact ⟨i + 1, by omega, by omega, rfl, by rw [IS.out]; go_num⟩
            case measure => simp [intOf]; omega
          · obtain rfl : i = m := by omega
            have hl : n - dby k - cum k i < dim k i := by omega
            clear is hlt
            go_wp2_with (go_at_call 245; refine (monthOf_any _ _ _).mono ?_; rintro e w' ⟨rfl, rfl⟩)
            go_ret3
            exact ⟨by rw [HD.out]; rfl, rfl⟩
end Go.Proofs.YtnpecjccajebiaaGreatDoor

/- Contracts of the document's own answer to days: AddMonths. -/
namespace Go.Proofs.YtnpecjccajebiaaGreatDoor
open Go.RowKit Cal

theorem ret_ib {x : Value} {b c : Bool} (h : b = c) : Ending.returned (.tuple #[x, .bool b]) = .returned (.tuple #[x, .bool c]) := by rw [h]
end Go.Proofs.YtnpecjccajebiaaGreatDoor

/- Contracts of the document's own answer to a day's text: Byte, below, Decimal, pad, DayText. -/
namespace Go.Proofs.YtnpecjccajebiaaGreatDoor
open Go.RowKit Cal

set_option maxRecDepth 100000 in
theorem byte_any (n : Int) (w : World) (h0 : 48 ≤ n) (h1 : n ≤ 57) :
    Calls Tryz.prog 246 #[.int .i64 n] w fun e w' => e = .returned (.string ⟨#[dgt (n - 48)]⟩) ∧ Below w.heap.size w w' := by
  have hcv := run_convert_bytes_arg (P := Tryz.prog) (w.alloc (.cells #[.int .u8 n] 5)) 73 5 Tryz.underlying73 Tryz.underlying5 w.heap.size 0 1 1 [n] rfl (fun i hi => by
    obtain rfl : i = 0 := by omega
    simp) 9 Tryz.underlying9
  have hs : strOfNums [n] = ⟨#[dgt (n - 48)]⟩ := by
    unfold strOfNums dgt
    have e : n.toNat = 48 + (n - 48).toNat := by omega
    simp [e]
  rw [hs] at hcv
  clear hs
  go_enter Tryz.func246, Tryz.ntmps246
  go_wp2
  go_ret
  exact ⟨rfl, (Below.refl _ _).alloc (Nat.le_refl _) _⟩

theorem below_any (u : Nat) : ∀ (w : World), u ≤ 9999 →
    Calls Tryz.prog 218 #[.int .i64 (-(u : Int))] w fun e w' => e = .returned (.string ⟨(Lib.decDigits u).toArray⟩) ∧ Below w.heap.size w w' := by
  induction u using Nat.strongRecOn with
  | ind u ih =>
    intro w hu
    by_cases h10 : u < 10
    · have HD : Hid (Lib.decDigits u = [dgt (48 + (u : Int) - 48)]) := by
        show _ = _
        rw [Lib.decDigits_one h10]; unfold dgt
        have e : ((48 : Int) + (u : Int) - 48).toNat = u := by omega
        rw [e]
      clear ih
      go_enter Tryz.func218, Tryz.ntmps218
      go_wp2_with fail
      go_at_call 246
      refine (byte_any _ _ (by omega) (by omega)).mono ?_
      rintro e w' ⟨rfl, hb⟩
      go_wp2
      go_ret
      exact ⟨ret_str (by rw [HD.out]), hb⟩
    · have hc := fun w => ih (u / 10) (by omega) w (by omega)
      have e : ((u / 10 : Nat) : Int) = (u : Int) / 10 := by omega
      rw [e] at hc
      have HC : Hid (_) := hc
      have HD : Hid (Lib.decDigits u = Lib.decDigits (u / 10) ++ [dgt (48 + (u : Int) % 10 - 48)]) := by
        show _ = _
        rw [Lib.decDigits, dif_neg h10]; unfold dgt
        have e : ((48 : Int) + (u : Int) % 10 - 48).toNat = u % 10 := by omega
        rw [e]
      have hl : (Lib.decDigits (u / 10)).length ≤ 21 := by
        have := Lib.itoa_length_le ((u / 10 : Nat) : Int) (by omega) (by omega)
        rw [Lib.itoa_nonneg] at this
        exact this
      clear hc e ih
      go_enter Tryz.func218, Tryz.ntmps218
      go_wp2_with fail
      go_at_call 218
      refine (HC.out _).mono ?_
      rintro e w1 ⟨rfl, k1⟩
      go_wp2_with fail
      go_at_call 246
      refine (byte_any _ _ (by omega) (by omega)).mono ?_
      rintro e w2 ⟨rfl, k2⟩
      go_wp2
      go_ret
      exact ⟨ret_str (by rw [HD.out]; exact ByteArray.mk_append_mk _ [_]), below_then k1 k2⟩

theorem decimal_any (u : Nat) (w : World) (hu : u ≤ 9999) :
    Calls Tryz.prog 180 #[.int .i64 (u : Int)] w fun e w' => e = .returned (.string ⟨(Lib.decDigits u).toArray⟩) ∧ Below w.heap.size w w' := by
  go_enter Tryz.func180, Tryz.ntmps180
  go_wp2_with fail
  go_at_call 218
  refine (below_any u _ hu).mono ?_
  rintro e w1 ⟨rfl, k1⟩
  go_wp2
  go_ret
  exact ⟨rfl, k1⟩

theorem pad_any (k : Int) (w : World) (h0 : 0 ≤ k) (h1 : k < 100) :
    Calls Tryz.prog 217 #[.int .i64 k] w fun e w' => e = .returned (.string ⟨(two k).toArray⟩) ∧ Below w.heap.size w w' := by
  obtain ⟨u, rfl⟩ : ∃ u : Nat, k = u := ⟨k.toNat, by omega⟩
  by_cases hu : u < 10
  · have ht := dec_low u hu
    have hl : (Lib.decDigits u).length = 1 := by rw [Lib.decDigits_one hu]; rfl
    have HT : Hid (_) := ht
    clear ht
    go_enter Tryz.func217, Tryz.ntmps217
    go_wp2_with (go_at_call 180; refine (decimal_any u _ (by omega)).mono ?_; rintro e w' ⟨rfl, hb⟩)
    go_ret
    exact ⟨ret_str (by rw [← HT.out]; exact ByteArray.mk_append_mk [48] _), hb⟩
  · have ht := dec_two u hu (by omega)
    have HT : Hid (_) := ht
    clear ht
    go_enter Tryz.func217, Tryz.ntmps217
    go_wp2_with (go_at_call 180; refine (decimal_any u _ (by omega)).mono ?_; rintro e w' ⟨rfl, hb⟩)
    go_ret
    exact ⟨ret_str (by rw [← HT.out]), hb⟩

theorem dayText_no (n : Int) (w : World) (h : n < 0 ∨ 73048 < n) :
    Calls Tryz.prog 179 #[.int .i64 n] w fun e w' => e = .returned (.string ⟨#[]⟩) ∧ w' = w := by
  go_enter Tryz.func179, Tryz.ntmps179
  go_wp2_with (go_at_call 56; refine (isDayR_no _ _ h).mono ?_; rintro e w' ⟨rfl, rfl⟩)
  go_ret
  exact ⟨rfl, rfl⟩

theorem dayText_ok (n y m d : Int) (w : World) (h : vld y m d) (hn : num y m d = n) :
    Calls Tryz.prog 179 #[.int .i64 n] w fun e w' => e = .returned (.string ⟨(txt y m d).toArray⟩) ∧ Below w.heap.size w w' := by
  have hnb := num_bd h
  rw [hn] at hnb
  obtain ⟨hn0, hn1⟩ := hnb
  have hh := h
  obtain ⟨hy0, hy1, hm0, hm1, hd0, hd1⟩ := hh
  have hd31 := (dim_bd y m).2
  have hl4 := four_length y
  have hl2 := two_length m
  have hl3 := two_length d
  have hdec : ∀ w, Calls Tryz.prog 180 #[.int .i64 y] w fun e w' => e = .returned (.string ⟨(four y).toArray⟩) ∧ Below w.heap.size w w' := by
    intro w
    obtain ⟨u, rfl⟩ : ∃ u : Nat, y = u := ⟨y.toNat, by omega⟩
    have := decimal_any u w (by omega)
    rw [← Lib.itoa_nonneg, itoa_four _ (by omega) (by omega)] at this
    exact this
  have HD : Hid (_) := hdec
  clear hdec
  go_enter Tryz.func179, Tryz.ntmps179
  go_wp2_with (first
    | (go_at_call 56; refine (isDayR_yes _ _ hn0 hn1).mono ?_; rintro e w' ⟨rfl, rfl⟩)
    | (go_at_call 216; refine (dateOf_ok n y m d _ h hn).mono ?_; rintro e w' ⟨rfl, rfl⟩)
    | (go_at_call 180; refine (HD.out _).mono ?_; rintro e w1 ⟨rfl, k1⟩)
    | (go_at_call_of 217 (Value.int .i64 m); refine (pad_any m _ (by omega) (by omega)).mono ?_; rintro e w2 ⟨rfl, k2⟩)
    | (go_at_call_of 217 (Value.int .i64 d); refine (pad_any d _ (by omega) (by omega)).mono ?_; rintro e w3 ⟨rfl, k3⟩))
  go_ret
  exact ⟨ret_str (by unfold txt; simp [ByteArray.mk_append_mk]), below_then k1 (below_then k2 k3)⟩
end Go.Proofs.YtnpecjccajebiaaGreatDoor
