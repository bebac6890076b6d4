/- Contracts of package day's plain functions: isLeap, yearDays, Months, isDay, Make, Date, Week, Add: each returns what the plain mathematics (Cal) says, for every input, and leaves memory that was there as it was. -/
import Derived.Test.YtkjfbeempmfipaaGreatDoorProg
import Derived.Test.YtkjfbeempmfipaaGreatDoorMathP
import Derived.WalkKit
import Derived.WalkSpells
import Derived.WalkLawsBesides
import Derived.Deep.QuietTactic
import Derived.BigQuiet
import Derived.Lib.ItoaNum
import Derived.Lib.ItoaMem
import Derived.Shelf.LaysM
import Derived.Shelf.Strconv.Itoa3
namespace Go.Proofs.YtkjfbeempmfipaaGreatDoor
open Go.RowKit Cal

theorem ret_int {k : IntKind} {a b : Int} (h : a = b) : Ending.returned (.int k a) = .returned (.int k b) := by rw [h]
theorem ret_bool {a b : Bool} (h : a = b) : Ending.returned (.bool a) = .returned (.bool b) := by rw [h]
theorem drewN_below (w : World) (n : Nat) : Below w.heap.size w (w.drewN n) := ⟨rfl, rfl, rfl, Nat.le_refl _, fun _ _ => rfl⟩

theorem isLeap_any (y : Int) (w : World) (h0 : 2000 ≤ y) (h1 : y ≤ 2200) :
    Calls Tryz.prog 164 #[.int .i64 y] w fun e w' => e = .returned (.bool (lpB y)) ∧ w' = w := by
  by_cases a : y % 4 = 0
  · by_cases b : y % 100 = 0
    · by_cases c : y % 400 = 0
      · have hl : lpB y = true := by rw [lpB_iff]; omega
        rw [hl]
        go_enter Tryz.func164, Tryz.ntmps164
        go_wp2
        go_ret
        exact ⟨rfl, rfl⟩
      · have hl : lpB y = false := by rw [← Bool.not_eq_true, lpB_iff]; omega
        rw [hl]
        go_enter Tryz.func164, Tryz.ntmps164
        go_wp2
        go_ret
        exact ⟨ret_bool (by simpa using c), rfl⟩
    · have hl : lpB y = true := by rw [lpB_iff]; omega
      rw [hl]
      go_enter Tryz.func164, Tryz.ntmps164
      go_wp2
      go_ret
      exact ⟨rfl, rfl⟩
  · have hl : lpB y = false := by rw [← Bool.not_eq_true, lpB_iff]; omega
    rw [hl]
    go_enter Tryz.func164, Tryz.ntmps164
    go_wp2
    go_ret
    exact ⟨rfl, rfl⟩

theorem yearDays_any (y : Int) (w : World) (h0 : 2000 ≤ y) (h1 : y ≤ 2200) :
    Calls Tryz.prog 154 #[.int .i64 y] w fun e w' => e = .returned (.int .i64 (yd y)) ∧ w' = w := by
  rcases lp_eq y with ⟨hb, hl⟩ | ⟨hb, hl⟩
  · have hy : yd y = 366 := by unfold yd; omega
    rw [hy]
    have hc := fun w => isLeap_any y w h0 h1
    rw [hb] at hc
    have HC : Hid (_) := hc
    clear hc hl hy hb
    go_enter Tryz.func154, Tryz.ntmps154
    go_wp2_with (go_at_call 164; refine (HC.out _).mono ?_; rintro e w' ⟨rfl, rfl⟩)
    go_ret
    exact ⟨rfl, rfl⟩
  · have hy : yd y = 365 := by unfold yd; omega
    rw [hy]
    have hc := fun w => isLeap_any y w h0 h1
    rw [hb] at hc
    have HC : Hid (_) := hc
    clear hc hl hy hb
    go_enter Tryz.func154, Tryz.ntmps154
    go_wp2_with (go_at_call 164; refine (HC.out _).mono ?_; rintro e w' ⟨rfl, rfl⟩)
    go_ret
    exact ⟨rfl, rfl⟩

theorem isDay_yes (n : Int) (w : World) (h0 : 0 ≤ n) (h1 : n ≤ 73048) :
    Calls Tryz.prog 153 #[.int .i64 n] w fun e w' => e = .returned (.bool true) ∧ w' = w := by
  go_enter Tryz.func153, Tryz.ntmps153
  go_wp2
  go_ret
  exact ⟨rfl, rfl⟩
theorem isDay_no (n : Int) (w : World) (h : n < 0 ∨ 73048 < n) :
    Calls Tryz.prog 153 #[.int .i64 n] w fun e w' => e = .returned (.bool false) ∧ w' = w := by
  rcases h with h | h
  · go_enter Tryz.func153, Tryz.ntmps153
    go_wp2
    go_ret
    exact ⟨rfl, rfl⟩
  · have h0 : 0 ≤ n := by omega
    go_enter Tryz.func153, Tryz.ntmps153
    go_wp2
    go_ret
    exact ⟨ret_bool (by simp; omega), rfl⟩

theorem months_out (y m : Int) (w : World) (h : y < 2000 ∨ 2199 < y) :
    Calls Tryz.prog 155 #[.int .i64 y, .int .i64 m] w fun e w' => e = .returned (.int .i64 0) ∧ w' = w := by
  rcases h with h | h
  · go_enter Tryz.func155, Tryz.ntmps155
    go_wp2
    go_ret
    exact ⟨rfl, rfl⟩
  · have h0 : ¬ y < 2000 := by omega
    go_enter Tryz.func155, Tryz.ntmps155
    go_wp2
    go_ret
    exact ⟨rfl, rfl⟩
theorem months_none (y m : Int) (w : World) (h0 : 2000 ≤ y) (h1 : y ≤ 2199) (h : m < 1 ∨ 12 < m) :
    Calls Tryz.prog 155 #[.int .i64 y, .int .i64 m] w fun e w' => e = .returned (.int .i64 0) ∧ w' = w := by
  rcases h with h | h
  · go_enter Tryz.func155, Tryz.ntmps155
    go_wp2
    go_ret
    exact ⟨rfl, rfl⟩
  · go_enter Tryz.func155, Tryz.ntmps155
    go_wp2
    go_ret
    exact ⟨rfl, rfl⟩
theorem months_feb (y : Int) (w : World) (h0 : 2000 ≤ y) (h1 : y ≤ 2199) :
    Calls Tryz.prog 155 #[.int .i64 y, .int .i64 2] w fun e w' => e = .returned (.int .i64 (28 + lp y)) ∧ w' = w := by
  rcases lp_eq y with ⟨hb, hl⟩ | ⟨hb, hl⟩
  all_goals
    rw [hl]
    have hc := fun w => isLeap_any y w h0 (by omega)
    rw [hb] at hc
    have HC : Hid (_) := hc
    clear hc hl hb
    go_enter Tryz.func155, Tryz.ntmps155
    go_wp2_with (go_at_call 164; refine (HC.out _).mono ?_; rintro e w' ⟨rfl, rfl⟩)
    go_ret
    exact ⟨rfl, rfl⟩
theorem months_any (y m : Int) (w : World) :
    Calls Tryz.prog 155 #[.int .i64 y, .int .i64 m] w fun e w' => e = .returned (.int .i64 (dim y m)) ∧ w' = w := by
  by_cases hy : y < 2000 ∨ 2199 < y
  · rw [dim_out y m (by omega)]; exact months_out y m w hy
  · by_cases hm : m < 1 ∨ 12 < m
    · rw [dim_out y m (by omega)]; exact months_none y m w (by omega) (by omega) hm
    · have h0 : 2000 ≤ y := by omega
      have h1 : y ≤ 2199 := by omega
      by_cases h2 : m = 2
      · subst h2
        rw [dim_feb y h0 h1]; exact months_feb y w h0 h1
      · by_cases h30 : m = 4 ∨ m = 6 ∨ m = 9 ∨ m = 11
        · rw [dim_30 y m h0 h1 h30]
          rcases h30 with h | h | h | h
          all_goals
            subst h
            clear hm hy
            go_enter Tryz.func155, Tryz.ntmps155
            go_wp2
            go_ret
            exact ⟨rfl, rfl⟩
        · have h31 : m = 1 ∨ m = 3 ∨ m = 5 ∨ m = 7 ∨ m = 8 ∨ m = 10 ∨ m = 12 := by omega
          rw [dim_31 y m h0 h1 h31]
          clear h2 h30 hm hy
          rcases h31 with h | h | h | h | h | h | h
          all_goals
            subst h
            go_enter Tryz.func155, Tryz.ntmps155
            go_wp2
            go_ret
            exact ⟨rfl, rfl⟩

end Go.Proofs.YtkjfbeempmfipaaGreatDoor

/- Contracts of package day's Date, Week and Add: each returns what the plain mathematics (Cal) says, for every input, and leaves memory that was there as it was. -/
namespace Go.Proofs.YtkjfbeempmfipaaGreatDoor
open Go.RowKit Cal

theorem date_no (n : Int) (ev : Addr) (w : World) (h : n < 0 ∨ 73048 < n) (hB : w.cell? ⟨1, 0, none⟩ = some (.iface 221 (.pointer (some ev)))) :
    Calls Tryz.prog 129 #[.int .i64 n] w fun e w' => e = .returned (.tuple #[.int .i64 0, .int .i64 0, .int .i64 0, .iface 221 (.pointer (some ev))]) ∧ Below w.heap.size w w' := by
  go_enter Tryz.func129, Tryz.ntmps129
  go_wp2_with (go_at_call 153; refine (isDay_no _ _ h).mono ?_; rintro e w' ⟨rfl, rfl⟩)
  go_quiet (fail)
  go_wp2
  exact bodyPost_ret (v := .tuple #[.int .i64 0, .int .i64 0, .int .i64 0, .iface 221 (.pointer (some ev))]) (by simp [results, Tryz.results129, go_sem]) rfl ⟨rfl, drewN_below _ _⟩

set_option maxHeartbeats 1000000 in
theorem date_ok (n y m d : Int) (w : World) (h : vld y m d) (hn : num y m d = n) :
    Calls Tryz.prog 129 #[.int .i64 n] w fun e w' => e = .returned (.tuple #[.int .i64 y, .int .i64 m, .int .i64 d, .nilIface]) ∧ w' = w := by
  have hnb := num_bd h
  have hny := num_year h
  have hnm := num_month h
  have hdd : d = n - dby y - cum y m + 1 := by unfold num at hn; omega
  rw [hn] at hnb hny hnm
  obtain ⟨hy0, hy1, hm0, hm1, hd0, hd1⟩ := h
  have HD : Hid (_) := hdd
  clear hdd hn
  obtain ⟨hn0, hn1⟩ := hnb
  obtain ⟨ha, hb⟩ := hny
  obtain ⟨hc, hd⟩ := hnm
  go_enter Tryz.func129, Tryz.ntmps129
  go_wp2_with (go_at_call 153; refine (isDay_yes _ _ hn0 hn1).mono ?_; rintro e w' ⟨rfl, rfl⟩)
  go_loop [0, 2] (fun r t => ∃ k : Int, 2000 ≤ k ∧ k ≤ y ∧ t = .int .i64 k ∧ r = .int .i64 (n - dby k)) (fun _ t => (y - intOf t).toNat)
  case atStart => exact ⟨2000, by omega, by omega, rfl, by rw [dby_zero]; go_num⟩
  case round =>
    obtain ⟨k, hk0, hk1, rfl, rfl⟩ := hrel
    have kb := dby_bd k hk0 (by omega)
    have kd := yd_bd k
    have ks := dby_succ k
    by_cases hlt : k < y
    · have hm := dby_mono (k + 1) y (by omega)
      have hge : yd k ≤ n - dby k := by omega
      have KS : Hid (_) := ks
      clear ks
      go_wp2_with (go_at_call 154; refine (yearDays_any _ _ (by omega) (by omega)).mono ?_; rintro e w' ⟨rfl, rfl⟩)
      go_round
      case rel => exact ⟨k + 1, by omega, by omega, rfl, by rw [KS.out]; go_num⟩
      case measure => simp [intOf]; omega
    · obtain rfl : k = y := by omega
      have hl : n - dby k < yd k := by omega
      clear ks hlt
      go_wp2_with (go_at_call 154; refine (yearDays_any _ _ (by omega) (by omega)).mono ?_; rintro e w' ⟨rfl, rfl⟩)
      go_loop [0, 3] (fun r t => ∃ i : Int, 1 ≤ i ∧ i ≤ m ∧ t = .int .i64 i ∧ r = .int .i64 (n - dby k - cum k i)) (fun _ t => (m - intOf t).toNat)
      case atStart => exact ⟨1, by omega, by omega, rfl, by rw [cum_one]; go_num⟩
      case round =>
        obtain ⟨i, hi0, hi1, rfl, rfl⟩ := hrel
        have ib := cum_bd k i hi0 (by omega)
        have id := dim_bd k i
        have is := cum_succ k i hy0 hy1 hi0 (by omega)
        by_cases hlt : i < m
        · have hm := cum_mono k (i + 1) m (by omega) (by omega)
          have hge : dim k i ≤ n - dby k - cum k i := by omega
          have IS : Hid (_) := is
          clear is
          go_wp2_with (go_at_call 155; refine (months_any _ _ _).mono ?_; rintro e w' ⟨rfl, rfl⟩)
          go_round
          case rel => exact ⟨i + 1, by omega, by omega, rfl, by rw [IS.out]; go_num⟩
          case measure => simp [intOf]; omega
        · obtain rfl : i = m := by omega
          have hl : n - dby k - cum k i < dim k i := by omega
          clear is hlt
          go_wp2_with (go_at_call 155; refine (months_any _ _ _).mono ?_; rintro e w' ⟨rfl, rfl⟩)
          exact bodyPost_ret (v := .tuple #[.int .i64 k, .int .i64 i, .int .i64 (n - dby k - cum k i + 1), .nilIface]) (by simp [results, Tryz.results129, go_sem]) rfl ⟨by rw [HD.out], rfl⟩

end Go.Proofs.YtkjfbeempmfipaaGreatDoor

/- Plain mathematics of a day's text: ten signs, four digits, two and two, a line between; and how these signs are read. -/
namespace Go.Proofs.YtkjfbeempmfipaaGreatDoor.Cal
open Go

/-- a digit's sign -/
def dgt (k : Int) : UInt8 := UInt8.ofNat (48 + k.toNat)
/-- two digits -/
def two (k : Int) : List UInt8 := [dgt (k / 10), dgt (k % 10)]
/-- four digits -/
def four (k : Int) : List UInt8 := [dgt (k / 1000), dgt (k / 100 % 10), dgt (k / 10 % 10), dgt (k % 10)]
/-- a date's text -/
def txt (y m d : Int) : List UInt8 := four y ++ [45] ++ two m ++ [45] ++ two d

theorem itoa_four (y : Int) (h0 : 1000 ≤ y) (h1 : y ≤ 9999) : Lib.itoa y = four y := by
  obtain ⟨u, rfl⟩ : ∃ u : Nat, y = u := ⟨y.toNat, by omega⟩
  rw [Lib.itoa_nonneg, Lib.decDigits, dif_neg (by omega), Lib.decDigits, dif_neg (by omega), Lib.decDigits_two (by omega) (by omega)]
  unfold four dgt
  have e1 : u / 10 / 10 / 10 = ((u : Int) / 1000).toNat := by omega
  have e2 : u / 10 / 10 % 10 = ((u : Int) / 100 % 10).toNat := by omega
  have e3 : u / 10 % 10 = ((u : Int) / 10 % 10).toNat := by omega
  have e4 : u % 10 = ((u : Int) % 10).toNat := by omega
  rw [e1, e2, e3, e4]; rfl
theorem dec_low (k : Nat) (h : k < 10) : [48] ++ Lib.decDigits k = two k := by
  rw [Lib.decDigits_one h]; unfold two dgt
  have e1 : ((k : Int) / 10).toNat = 0 := by omega
  have e2 : ((k : Int) % 10).toNat = k := by omega
  rw [e1, e2]; rfl
theorem dec_two (k : Nat) (h0 : ¬ k < 10) (h1 : k < 100) : Lib.decDigits k = two k := by
  rw [Lib.decDigits_two h0 h1]; unfold two dgt
  have e1 : ((k : Int) / 10).toNat = k / 10 := by omega
  have e2 : ((k : Int) % 10).toNat = k % 10 := by omega
  rw [e1, e2]
theorem two_length (k : Int) : (two k).length = 2 := rfl
theorem four_length (k : Int) : (four k).length = 4 := rfl
theorem txt_length (y m d : Int) : (txt y m d).length = 10 := rfl
theorem dgt_nat (k : Int) (h0 : 0 ≤ k) (h1 : k ≤ 9) : (dgt k).toNat = 48 + k.toNat := by
  unfold dgt; rw [UInt8.toNat_ofNat']; omega
end Go.Proofs.YtkjfbeempmfipaaGreatDoor.Cal

/- The library's own contracts of strconv.Itoa, laid at this program: a number's decimal digits, for every int; and, below a hundred, without a table. -/
namespace Go.Proofs
open Go.Shelf
def Tryz.laysM171_ren : Go.Shelf.Ren := ⟨fun | 171 => 14 | 243 => 30 | 246 => 48 | 283 => 69 | 284 => 70 | 285 => 71 | 286 => 72 | 129 => 98 | 317 => 97 | 318 => 99 | 319 => 100 | 320 => 101 | 337 => 132 | 338 => 133 | n => n, fun | 3 => 3 | 9 => 9 | 2 => 2 | 4 => 4 | 171 => 126 | 0 => 0 | 53 => 127 | 37 => 66 | 5 => 5 | 173 => 130 | 212 => 165 | 51 => 166 | 20 => 20 | 213 => 167 | 46 => 168 | 232 => 214 | 233 => 215 | n => n, fun | 17 => 12 | 18 => 17 | 19 => 18 | n => n⟩
theorem Tryz.laysM171 : Go.Proofs.LaysM.n171 Tryz.prog Tryz.laysM171_ren := {
  mixed := by kernel_rfl
  f129 := Tryz.func98.trans (congrArg some (by kernel_rfl))
  f171 := Tryz.func14.trans (congrArg some (by kernel_rfl))
  f243 := Tryz.func30.trans (congrArg some (by kernel_rfl))
  f246 := Tryz.func48.trans (congrArg some (by kernel_rfl))
  f283 := Tryz.func69.trans (congrArg some (by kernel_rfl))
  f284 := Tryz.func70.trans (congrArg some (by kernel_rfl))
  f285 := Tryz.func71.trans (congrArg some (by kernel_rfl))
  f286 := Tryz.func72.trans (congrArg some (by kernel_rfl))
  f317 := Tryz.func97.trans (congrArg some (by kernel_rfl))
  f318 := Tryz.func99.trans (congrArg some (by kernel_rfl))
  f319 := Tryz.func100.trans (congrArg some (by kernel_rfl))
  f320 := Tryz.func101.trans (congrArg some (by kernel_rfl))
  f337 := Tryz.func132.trans (congrArg some (by kernel_rfl))
  f338 := Tryz.func133.trans (congrArg some (by kernel_rfl))
  t0 := Tryz.underlying0
  a0 := Tryz.isAgg0
  z0 := Tryz.sizeOf0
  v0 := Tryz.zeroValue0
  t2 := Tryz.underlying2
  a2 := Tryz.isAgg2
  z2 := Tryz.sizeOf2
  v2 := Tryz.zeroValue2
  t3 := Tryz.underlying3
  a3 := Tryz.isAgg3
  z3 := Tryz.sizeOf3
  v3 := Tryz.zeroValue3
  t4 := Tryz.underlying4
  a4 := Tryz.isAgg4
  z4 := Tryz.sizeOf4
  v4 := Tryz.zeroValue4
  t5 := Tryz.underlying5
  a5 := Tryz.isAgg5
  z5 := Tryz.sizeOf5
  v5 := Tryz.zeroValue5
  t9 := Tryz.underlying9
  a9 := Tryz.isAgg9
  z9 := Tryz.sizeOf9
  v9 := Tryz.zeroValue9
  t20 := Tryz.underlying20
  a20 := Tryz.isAgg20
  z20 := Tryz.sizeOf20
  v20 := Tryz.zeroValue20
  t37 := Tryz.underlying66
  a37 := Tryz.isAgg66
  z37 := Tryz.sizeOf66
  v37 := Tryz.zeroValue66
  t46 := Tryz.underlying168
  a46 := Tryz.isAgg168
  z46 := Tryz.sizeOf168
  v46 := Tryz.zeroValue168
  t51 := Tryz.underlying166
  a51 := Tryz.isAgg166
  z51 := Tryz.sizeOf166
  v51 := Tryz.zeroValue166
  t53 := Tryz.underlying127
  a53 := Tryz.isAgg127
  z53 := Tryz.sizeOf127
  v53 := Tryz.zeroValue127
  t171 := Tryz.underlying126
  a171 := Tryz.isAgg126
  z171 := Tryz.sizeOf126
  v171 := Tryz.zeroValue126
  t173 := Tryz.underlying130
  a173 := Tryz.isAgg130
  z173 := Tryz.sizeOf130
  v173 := Tryz.zeroValue130
  t212 := Tryz.underlying165
  a212 := Tryz.isAgg165
  z212 := Tryz.sizeOf165
  v212 := Tryz.zeroValue165
  t213 := Tryz.underlying167
  a213 := Tryz.isAgg167
  z213 := Tryz.sizeOf167
  t232 := Tryz.underlying214
  a232 := Tryz.isAgg214
  z232 := Tryz.sizeOf214
  v232 := Tryz.zeroValue214
  t233 := Tryz.underlying215
  a233 := Tryz.isAgg215
  z233 := Tryz.sizeOf215
  v233 := Tryz.zeroValue215
  g17 := by kernel_rfl
  g18 := by kernel_rfl
  g19 := by kernel_rfl
  i0 := by kernel_rfl
  i2 := by kernel_rfl
  i3 := by kernel_rfl
  i4 := by kernel_rfl
  i5 := by kernel_rfl
  i9 := by kernel_rfl
  i20 := by kernel_rfl
  i37 := by kernel_rfl
  i46 := by kernel_rfl
  i51 := by kernel_rfl
  i53 := by kernel_rfl
  i171 := by kernel_rfl
  i173 := by kernel_rfl
  i212 := by kernel_rfl
  i232 := by kernel_rfl
  i233 := by kernel_rfl
  m17 := by kernel_rfl
  m18 := by kernel_rfl
  m19 := by kernel_rfl }
open Go.RowKit Go.Sort Go.Lib in
theorem Tryz.strconv_Itoa (n : Int) (h0 : -9223372036854775808 ≤ n) (h1 : n ≤ 9223372036854775807) (w : World) (htab : Lib.TabIs Tryz.prog w "internal/strconv.uint64pow10" .u64 Lib.pow10Tab) :
    Calls Tryz.prog 14 #[.int .i64 n] w fun e w' => e = .returned (.string ⟨(Lib.itoa n).toArray⟩) ∧ ∃ k os, w' = grow (w.drewN k) os := Any.strconv_Itoa Tryz.laysM171 n h0 h1 w htab
def Tryz.lays171_ren : Go.Shelf.Ren := ⟨fun | 171 => 14 | 243 => 30 | 246 => 48 | 283 => 69 | 284 => 70 | 285 => 71 | 286 => 72 | 129 => 98 | 317 => 97 | 318 => 99 | 319 => 100 | 320 => 101 | 337 => 132 | 338 => 133 | n => n, fun | 3 => 3 | 9 => 9 | 2 => 2 | 4 => 4 | 171 => 126 | 0 => 0 | 53 => 127 | 37 => 66 | 5 => 5 | 173 => 130 | 212 => 165 | 51 => 166 | 20 => 20 | 213 => 167 | 46 => 168 | 232 => 214 | 233 => 215 | n => n, fun | 17 => 12 | 18 => 17 | 19 => 18 | n => n⟩
theorem Tryz.lays171 : Go.Proofs.Lays.n171 Tryz.prog Tryz.lays171_ren := {
  mixed := by kernel_rfl
  f129 := Tryz.func98.trans (congrArg some (by kernel_rfl))
  f171 := Tryz.func14.trans (congrArg some (by kernel_rfl))
  f243 := Tryz.func30.trans (congrArg some (by kernel_rfl))
  f246 := Tryz.func48.trans (congrArg some (by kernel_rfl))
  f283 := Tryz.func69.trans (congrArg some (by kernel_rfl))
  f284 := Tryz.func70.trans (congrArg some (by kernel_rfl))
  f285 := Tryz.func71.trans (congrArg some (by kernel_rfl))
  f286 := Tryz.func72.trans (congrArg some (by kernel_rfl))
  f317 := Tryz.func97.trans (congrArg some (by kernel_rfl))
  f318 := Tryz.func99.trans (congrArg some (by kernel_rfl))
  f319 := Tryz.func100.trans (congrArg some (by kernel_rfl))
  f320 := Tryz.func101.trans (congrArg some (by kernel_rfl))
  f337 := Tryz.func132.trans (congrArg some (by kernel_rfl))
  f338 := Tryz.func133.trans (congrArg some (by kernel_rfl))
  t0 := Tryz.underlying0
  a0 := Tryz.isAgg0
  z0 := Tryz.sizeOf0
  v0 := Tryz.zeroValue0
  t2 := Tryz.underlying2
  a2 := Tryz.isAgg2
  z2 := Tryz.sizeOf2
  v2 := Tryz.zeroValue2
  t3 := Tryz.underlying3
  a3 := Tryz.isAgg3
  z3 := Tryz.sizeOf3
  v3 := Tryz.zeroValue3
  t4 := Tryz.underlying4
  a4 := Tryz.isAgg4
  z4 := Tryz.sizeOf4
  v4 := Tryz.zeroValue4
  t5 := Tryz.underlying5
  a5 := Tryz.isAgg5
  z5 := Tryz.sizeOf5
  v5 := Tryz.zeroValue5
  t9 := Tryz.underlying9
  a9 := Tryz.isAgg9
  z9 := Tryz.sizeOf9
  v9 := Tryz.zeroValue9
  t20 := Tryz.underlying20
  a20 := Tryz.isAgg20
  z20 := Tryz.sizeOf20
  v20 := Tryz.zeroValue20
  t37 := Tryz.underlying66
  a37 := Tryz.isAgg66
  z37 := Tryz.sizeOf66
  v37 := Tryz.zeroValue66
  t46 := Tryz.underlying168
  a46 := Tryz.isAgg168
  z46 := Tryz.sizeOf168
  v46 := Tryz.zeroValue168
  t51 := Tryz.underlying166
  a51 := Tryz.isAgg166
  z51 := Tryz.sizeOf166
  v51 := Tryz.zeroValue166
  t53 := Tryz.underlying127
  a53 := Tryz.isAgg127
  z53 := Tryz.sizeOf127
  v53 := Tryz.zeroValue127
  t171 := Tryz.underlying126
  a171 := Tryz.isAgg126
  z171 := Tryz.sizeOf126
  v171 := Tryz.zeroValue126
  t173 := Tryz.underlying130
  a173 := Tryz.isAgg130
  z173 := Tryz.sizeOf130
  v173 := Tryz.zeroValue130
  t212 := Tryz.underlying165
  a212 := Tryz.isAgg165
  z212 := Tryz.sizeOf165
  v212 := Tryz.zeroValue165
  t213 := Tryz.underlying167
  a213 := Tryz.isAgg167
  z213 := Tryz.sizeOf167
  t232 := Tryz.underlying214
  a232 := Tryz.isAgg214
  z232 := Tryz.sizeOf214
  v232 := Tryz.zeroValue214
  t233 := Tryz.underlying215
  a233 := Tryz.isAgg215
  z233 := Tryz.sizeOf215
  v233 := Tryz.zeroValue215
  g17 := by kernel_rfl
  g18 := by kernel_rfl
  g19 := by kernel_rfl }
open Go.RowKit Go.Sort Go.Lib in
theorem Tryz.strconv_Itoa_small (i : Nat) (hi : i < 100) (w : World) :
    Calls Tryz.prog 14 #[.int .i64 i] w fun e w' => e = .returned (.string ⟨(Lib.decDigits i).toArray⟩) ∧ w' = w := Any.strconv_Itoa_small Tryz.lays171 i hi w
end Go.Proofs
