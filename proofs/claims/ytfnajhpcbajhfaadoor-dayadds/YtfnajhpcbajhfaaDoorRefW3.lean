/- Contracts of the document's own answer to days: AddMonths. -/
import Derived.Test.YtfnajhpcbajhfaaDoorRefW2
namespace Go.Proofs.YtfnajhpcbajhfaaDoor
open Go.RowKit Cal

theorem ret_ib {x : Value} {b c : Bool} (h : b = c) : Ending.returned (.tuple #[x, .bool b]) = .returned (.tuple #[x, .bool c]) := by rw [h]
theorem addMonths_no (n k : Int) (w : World) (h : n < 0 ∨ 73048 < n) :
    Calls Tryd.prog 25 #[.int .i64 n, .int .i64 k] w fun e w' => e = .returned (.tuple #[.int .i64 0, .bool false]) ∧ w' = w := by
  go_enter Tryd.func25, Tryd.ntmps25
  go_wp2_with (go_at_call 21; refine (isDayR_no _ _ h).mono ?_; rintro e w' ⟨rfl, rfl⟩)
  go_ret2
  exact ⟨rfl, rfl⟩
theorem addMonths_far (n k : Int) (w : World) (h0 : 0 ≤ n) (h1 : n ≤ 73048) (h : 2400 < k ∨ k < -2400) :
    Calls Tryd.prog 25 #[.int .i64 n, .int .i64 k] w fun e w' => e = .returned (.tuple #[.int .i64 0, .bool false]) ∧ w' = w := by
  rcases h with h | h
  · go_enter Tryd.func25, Tryd.ntmps25
    go_wp2_with (go_at_call 21; refine (isDayR_yes _ _ h0 h1).mono ?_; rintro e w' ⟨rfl, rfl⟩)
    go_ret2
    exact ⟨rfl, rfl⟩
  · go_enter Tryd.func25, Tryd.ntmps25
    go_wp2_with (go_at_call 21; refine (isDayR_yes _ _ h0 h1).mono ?_; rintro e w' ⟨rfl, rfl⟩)
    go_ret2
    exact ⟨rfl, rfl⟩

/-- MakeDay at the month so many months on -/
theorem makeDay_add (y m d k Y M : Int) (w : World) (h : vld y m d) (e1 : Y = yM (atM y m + k)) (e2 : M = mM (atM y m + k)) :
    Calls Tryd.prog 14 #[.int .i64 Y, .int .i64 M, .int .i64 d] w fun e w' => e = .returned (.tuple #[.int .i64 (addI y m d k), .int .i64 (if addB y m d k = true then 0 else 2)]) ∧ w' = w := by
  subst e1 e2
  cases hb : addB y m d k with
  | true =>
    rw [addI_yes hb]
    exact makeDay_ok _ _ _ w (add_vld h hb)
  | false =>
    rw [addI_no hb]
    refine makeDay_no _ _ _ w ?_
    rcases Int.lt_or_le (dim (yM (atM y m + k)) (mM (atM y m + k))) d with x | x
    · exact Or.inr x
    · exfalso
      have hd0 := h.2.2.2.2.1
      have hi := dim_in _ _ (by omega : 1 ≤ dim (yM (atM y m + k)) (mM (atM y m + k)))
      have : addB y m d k = true := by rw [addB_iff]; refine ⟨?_, ?_, x⟩ <;> (unfold yM mM at hi; omega)
      rw [hb] at this; exact absurd this (by decide)

set_option maxHeartbeats 1000000 in
theorem addMonths_near (n k y m d : Int) (w : World) (h : vld y m d) (hn : num y m d = n) (hk0 : -2400 ≤ k) (hk1 : k ≤ 2400) :
    Calls Tryd.prog 25 #[.int .i64 n, .int .i64 k] w fun e w' => e = .returned (.tuple #[.int .i64 (addI y m d k), .bool (addB y m d k)]) ∧ w' = w := by
  have hnb := num_bd h
  rw [hn] at hnb
  obtain ⟨hn0, hn1⟩ := hnb
  have hh := h
  obtain ⟨hy0, hy1, hm0, hm1, hd0, hd1⟩ := hh
  clear hd1
  go_enter Tryd.func25, Tryd.ntmps25
  go_wp2_with (first
    | (go_at_call 21; refine (isDayR_yes _ _ hn0 hn1).mono ?_; rintro e w' ⟨rfl, rfl⟩)
    | (go_at_call 22; refine (dateOf_ok n y m d _ h hn).mono ?_; rintro e w' ⟨rfl, rfl⟩))
  go_loop [7, 8] (fun a b => ∃ Y M : Int, 1500 ≤ Y ∧ Y ≤ 3000 ∧ -2400 ≤ M ∧ M ≤ 2412 ∧ Hid (Y * 12 + M = y * 12 + m + k) ∧ a = .int .i64 Y ∧ b = .int .i64 M) (fun _ b => (intOf b).toNat)
  case atStart => exact ⟨y, m + k, by omega, by omega, by omega, by omega, by show _ = _; omega, rfl, rfl⟩
  case round =>
    obtain ⟨Y, M, hY0, hY1, hM0, hM1, hE, rfl, rfl⟩ := hrel
    by_cases hlt : 12 < M
    · have hY2 : Y + 1 ≤ 3000 := by have := hE.out; omega
      go_wp2
      go_round
      case rel => exact ⟨Y + 1, M - 12, by omega, by omega, by omega, by omega, by show _ = _; have := hE.out; omega, rfl, rfl⟩
      case measure => simp [intOf]; omega
    · have hM2 : M ≤ 12 := by omega
      clear hlt hM1
      go_wp2
      go_loop [7, 8] (fun a b => ∃ Y M : Int, 1500 ≤ Y ∧ Y ≤ 3000 ∧ -2400 ≤ M ∧ M ≤ 12 ∧ Hid (Y * 12 + M = y * 12 + m + k) ∧ a = .int .i64 Y ∧ b = .int .i64 M) (fun _ b => (12 - intOf b).toNat)
      case atStart => exact ⟨Y, M, by omega, by omega, by omega, by omega, hE, rfl, rfl⟩
      case round =>
        clear hY0 hY1 hM0 hM2 hE
        obtain ⟨Z, X, hY0, hY1, hM0, hM1, hE, rfl, rfl⟩ := hrel
        by_cases hlt : X < 1
        · have hY2 : 1500 ≤ Z - 1 := by have := hE.out; omega
          go_wp2
          go_round
          case rel => exact ⟨Z - 1, X + 12, by omega, by omega, by omega, by omega, by show _ = _; have := hE.out; omega, rfl, rfl⟩
          case measure => simp [intOf]; omega
        · have e1 : Z = yM (atM y m + k) := by have := hE.out; unfold yM atM; omega
          have e2 : X = mM (atM y m + k) := by have := hE.out; unfold mM atM; omega
          have hc := fun w => makeDay_add y m d k Z X w h e1 e2
          cases hb : addB y m d k with
          | true =>
            rw [hb] at hc
            have HC : Hid (_) := hc
            have HB : Hid (_) := hb
            clear hc e1 e2 hb
            go_wp2_with (go_at_call 14; refine (HC.out _).mono ?_; rintro e w' ⟨rfl, rfl⟩)
            go_ret2
            exact ⟨ret_ib HB.out.symm, rfl⟩
          | false =>
            rw [hb] at hc
            have HC : Hid (_) := hc
            have HB : Hid (_) := hb
            clear hc e1 e2 hb
            go_wp2_with (go_at_call 14; refine (HC.out _).mono ?_; rintro e w' ⟨rfl, rfl⟩)
            go_ret2
            exact ⟨ret_ib HB.out.symm, rfl⟩

theorem addMonths_any (n k y m d : Int) (w : World) (h : vld y m d) (hn : num y m d = n) :
    Calls Tryd.prog 25 #[.int .i64 n, .int .i64 k] w fun e w' => e = .returned (.tuple #[.int .i64 (addI y m d k), .bool (addB y m d k)]) ∧ w' = w := by
  by_cases hk : 2400 < k ∨ k < -2400
  · have hnb := num_bd h
    rw [hn] at hnb
    have hab := atM_bd h
    have hb : addB y m d k = false := by rw [← Bool.not_eq_true, addB_iff]; omega
    rw [hb, addI_no hb]
    exact addMonths_far n k w hnb.1 hnb.2 hk
  · exact addMonths_near n k y m d w h hn (by omega) (by omega)
end Go.Proofs.YtfnajhpcbajhfaaDoor
