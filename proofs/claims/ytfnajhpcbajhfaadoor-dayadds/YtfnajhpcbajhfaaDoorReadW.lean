/- Contracts of package day's isDateText, number and Read: any text as a day. -/
import Derived.Test.YtfnajhpcbajhfaaDoorLow
import Derived.Test.YtfnajhpcbajhfaaDoorReadM
namespace Go.Proofs.YtfnajhpcbajhfaaDoor
open Go.RowKit Cal

set_option maxHeartbeats 400000 in
theorem number_any (s : ByteArray) (w : World) (hs : s.size ≤ 4) (hd : digs s.data.toList) :
    Calls Tryd.prog 38 #[.string s] w fun e w' => e = .returned (.int .i64 (val s.data.toList)) ∧ w' = w := by
  go_enter Tryd.func38, Tryd.ntmps38
  go_wp2
  go_loop [3, 7] (fun n i => ∃ k : Nat, k ≤ s.size ∧ i = .int .i64 k ∧ n = .int .i64 (val (s.data.toList.take k))) (fun _ i => s.size - (intOf i).toNat)
  case atStart => exact ⟨0, Nat.zero_le _, rfl, rfl⟩
  case round =>
    obtain ⟨k, hk, rfl, rfl⟩ := hrel
    have hb := val_bd _ (digs_take hd k) (by rw [List.length_take]; omega)
    by_cases hlt : k < s.size
    · have hc := digs_at hd k hlt
      have HS : Hid (val (s.data.toList.take (k + 1)) = val (s.data.toList.take k) * 10 + ((s[k].toNat : Int) - 48)) := by rw [take_snoc s k hlt]; exact val_snoc _ _
      go_wp2
      go_round
      case rel => exact ⟨k + 1, by omega, by go_num, by rw [HS.out]⟩
      case measure => simp [intOf]; omega
    · go_wp2
      go_ret
      exact ⟨ret_int (by rw [List.take_of_length_le (by simp; omega)]), rfl⟩

theorem isDT_len (s : ByteArray) (w : World) (h : s.size ≠ 10) :
    Calls Tryd.prog 37 #[.string s] w fun e w' => e = .returned (.bool false) ∧ w' = w := by
  have h' : ((s.size : Int) == 10) = false := by simp; omega
  go_enter Tryd.func37, Tryd.ntmps37
  go_wp2
  go_ret
  exact ⟨rfl, rfl⟩

set_option maxHeartbeats 1000000 in
theorem isDT_ten (s : ByteArray) (w : World) (b : Bool) (h : s.size = 10) (hb : b = true ↔ isDT s) :
    Calls Tryd.prog 37 #[.string s] w fun e w' => e = .returned (.bool b) ∧ w' = w := by
  have HB : Hid (b = true ↔ isDT s) := hb
  clear hb
  have H10 : Hid (s.size = 10) := h
  have hlo : (10 : Int) ≤ s.size := by omega
  have hhi : (s.size : Int) ≤ 10 := by omega
  clear h
  go_enter Tryd.func37, Tryd.ntmps37
  go_wp2
  go_loop [9] (fun i => ∃ k : Nat, k ≤ 10 ∧ i = .int .i64 k ∧ ∀ (j : Nat) (hj : j < s.size), j < k → sgn j s[j]) (fun i => 10 - (intOf i).toNat)
  case atStart => exact ⟨0, Nat.zero_le _, rfl, fun j _ h => absurd h (Nat.not_lt_zero _)⟩
  case round =>
    obtain ⟨k, hk, rfl, hall⟩ := hrel
    have HA : Hid (∀ (j : Nat) (hj : j < s.size), j < k → sgn j s[j]) := hall
    clear hall
    by_cases hlt : k < 10
    · have hks : k < s.size := by omega
      have HN : Hid (sgn k s[k] → ∀ (j : Nat) (hj : j < s.size), j < k + 1 → sgn j s[j]) := fun hc j hj hjk => by
        by_cases e : j = k
        · subst e; exact hc
        · exact HA.out j hj (by omega)
      have HF : Hid (¬ sgn k s[k] → b = false) := fun hc => by
        cases b with
        | false => rfl
        | true => exact absurd ((HB.out.1 rfl).2 k hks) hc
      clear HA HB
      by_cases h47 : k = 4 ∨ k = 7
      · have HL : Hid (sgn k s[k] ↔ (s[k].toNat : Int) = 45) := sgn_line h47
        by_cases hc : (s[k].toNat : Int) = 45
        · have hc' : ((s[k].toNat : Int) == 45) = true := by simpa using hc
          have HG : Hid (∀ (j : Nat) (hj : j < s.size), j < k + 1 → sgn j s[j]) := HN.out (HL.out.2 hc)
          clear HN HF HL hc
          rcases h47 with e | e
          · have e1 : ((k : Int) == 4) = true := by simp; omega
            clear e
            go_wp2
            go_round
            case rel => exact ⟨k + 1, by omega, by go_num, HG.out⟩
            case measure => simp [intOf]; omega
          · have e1 : ((k : Int) == 4) = false := by simp; omega
            have e2 : ((k : Int) == 7) = true := by simp; omega
            clear e
            go_wp2
            go_round
            case rel => exact ⟨k + 1, by omega, by go_num, HG.out⟩
            case measure => simp [intOf]; omega
        · have hc' : ((s[k].toNat : Int) == 45) = false := by simpa using hc
          have HG : Hid (b = false) := HF.out (fun x => hc (HL.out.1 x))
          clear HN HF HL hc
          rcases h47 with e | e
          · have e1 : ((k : Int) == 4) = true := by simp; omega
            clear e
            go_wp2
            go_ret
            exact ⟨ret_bool HG.out.symm, rfl⟩
          · have e1 : ((k : Int) == 4) = false := by simp; omega
            have e2 : ((k : Int) == 7) = true := by simp; omega
            clear e
            go_wp2
            go_ret
            exact ⟨ret_bool HG.out.symm, rfl⟩
      · have HL : Hid (sgn k s[k] ↔ (48 ≤ (s[k].toNat : Int) ∧ (s[k].toNat : Int) ≤ 57)) := sgn_digit h47
        have e1 : ((k : Int) == 4) = false := by simp; omega
        have e2 : ((k : Int) == 7) = false := by simp; omega
        clear h47
        by_cases hc : 48 ≤ (s[k].toNat : Int) ∧ (s[k].toNat : Int) ≤ 57
        · have HG : Hid (∀ (j : Nat) (hj : j < s.size), j < k + 1 → sgn j s[j]) := HN.out (HL.out.2 hc)
          clear HN HF HL
          obtain ⟨hc1, hc2⟩ := hc
          go_wp2
          go_round
          case rel => exact ⟨u2, .int .i64 k, .int .i64 ((k : Int) + 1), ⟨k + 1, by omega, by go_num, HG.out⟩, rfl, rfl, rfl⟩
          case measure => simp [intOf]; omega
        · have HG : Hid (b = false) := HF.out (fun x => hc (HL.out.1 x))
          clear HN HF HL
          by_cases hc1 : (s[k].toNat : Int) < 48
          · clear hc
            go_wp2
            go_ret
            exact ⟨ret_bool HG.out.symm, rfl⟩
          · have hc2 : 57 < (s[k].toNat : Int) := by omega
            clear hc
            go_wp2
            go_ret
            exact ⟨ret_bool HG.out.symm, rfl⟩
    · go_wp2
      go_ret
      refine ⟨ret_bool ((HB.out.2 ⟨H10.out, fun j hj => HA.out j hj (by have := H10.out; omega)⟩).symm), rfl⟩

theorem isDT_no (s : ByteArray) (w : World) (h : ¬ isDT s) :
    Calls Tryd.prog 37 #[.string s] w fun e w' => e = .returned (.bool false) ∧ w' = w := by
  by_cases h10 : s.size = 10
  · exact isDT_ten s w false h10 ⟨fun x => absurd x (by decide), fun x => absurd x h⟩
  · exact isDT_len s w h10
theorem isDT_yes (s : ByteArray) (w : World) (h : isDT s) :
    Calls Tryd.prog 37 #[.string s] w fun e w' => e = .returned (.bool true) ∧ w' = w :=
  isDT_ten s w true h.1 ⟨fun _ => h, fun _ => rfl⟩

theorem read_no (s : ByteArray) (et : Addr) (w : World) (h : ¬ isDT s) (hT : w.cell? ⟨0, 0, none⟩ = some (.iface 56 (.pointer (some et)))) :
    Calls Tryd.prog 23 #[.string s] w fun e w' => e = .returned (.tuple #[.int .i64 0, .iface 56 (.pointer (some et))]) ∧ Below w.heap.size w w' := by
  go_enter Tryd.func23, Tryd.ntmps23
  go_wp2_with (go_at_call 37; refine (isDT_no _ _ h).mono ?_; rintro e w' ⟨rfl, rfl⟩)
  go_quiet (fail)
  go_wp2
  go_ret2
  exact ⟨rfl, drewN_below _ _⟩

set_option maxHeartbeats 400000 in
theorem read_ok (s : ByteArray) (w : World) (h : isDT s) (hv : vld (yS s) (mS s) (dS s)) :
    Calls Tryd.prog 23 #[.string s] w fun e w' => e = .returned (.tuple #[.int .i64 (num (yS s) (mS s) (dS s)), .nilIface]) ∧ Below w.heap.size w w' := by
  obtain ⟨p0, p1, p2, z0, z1, z2⟩ := isDT_parts h
  have n0 := fun w => number_any (s.extract 0 4) w (by omega) p0
  have n1 := fun w => number_any (s.extract 5 7) w (by omega) p1
  have n2 := fun w => number_any (s.extract 8 s.size) w (by omega) p2
  have mk := fun w => make_ok (yS s) (mS s) (dS s) w hv
  change ∀ w, Calls _ _ _ w fun e w' => e = .returned (.int .i64 (yS s)) ∧ w' = w at n0
  change ∀ w, Calls _ _ _ w fun e w' => e = .returned (.int .i64 (mS s)) ∧ w' = w at n1
  change ∀ w, Calls _ _ _ w fun e w' => e = .returned (.int .i64 (dS s)) ∧ w' = w at n2
  have N0 : Hid (_) := n0
  have N1 : Hid (_) := n1
  have N2 : Hid (_) := n2
  have M : Hid (_) := mk
  have hlo : (10 : Int) ≤ s.size := by have := h.1; omega
  have hhi : (s.size : Int) ≤ 10 := by have := h.1; omega
  clear n0 n1 n2 mk p0 p1 p2 z0 z1 z2 hv
  go_enter Tryd.func23, Tryd.ntmps23
  go_wp2_with (go_at_call 37; refine (isDT_yes _ _ h).mono ?_; rintro e w' ⟨rfl, rfl⟩)
  go_quiet (first
    | (go_at_call_of 38 (Value.string (s.extract 0 4)); exact Calls.quiet_of_same (N0.out _))
    | (go_at_call_of 38 (Value.string (s.extract 5 7)); exact Calls.quiet_of_same (N1.out _))
    | (go_at_call_of 38 (Value.string (s.extract 8 s.size)); exact Calls.quiet_of_same (N2.out _))
    | (go_at_call 13; exact Calls.quiet_of_same (M.out _)))
  go_wp2
  go_ret2
  exact ⟨rfl, drewN_below _ _⟩

set_option maxHeartbeats 400000 in
theorem read_bad (s : ByteArray) (ev : Addr) (w : World) (h : isDT s) (hv : ¬ vld (yS s) (mS s) (dS s)) (hB : w.cell? ⟨1, 0, none⟩ = some (.iface 56 (.pointer (some ev)))) :
    Calls Tryd.prog 23 #[.string s] w fun e w' => e = .returned (.tuple #[.int .i64 0, .iface 56 (.pointer (some ev))]) ∧ Below w.heap.size w w' := by
  obtain ⟨p0, p1, p2, z0, z1, z2⟩ := isDT_parts h
  have hv' : dS s < 1 ∨ dim (yS s) (mS s) < dS s := by
    rcases Int.lt_or_le (dS s) 1 with a | a
    · exact Or.inl a
    · rcases Int.lt_or_le (dim (yS s) (mS s)) (dS s) with b | b
      · exact Or.inr b
      · have := dim_in (yS s) (mS s) (by omega)
        exact absurd ⟨this.1, this.2.1, this.2.2.1, this.2.2.2, a, b⟩ hv
  have n0 := fun w => number_any (s.extract 0 4) w (by omega) p0
  have n1 := fun w => number_any (s.extract 5 7) w (by omega) p1
  have n2 := fun w => number_any (s.extract 8 s.size) w (by omega) p2
  have mk := fun n => make_no_q (yS s) (mS s) (dS s) ev (w.drewN n) hv' hB
  change ∀ w, Calls _ _ _ w fun e w' => e = .returned (.int .i64 (yS s)) ∧ w' = w at n0
  change ∀ w, Calls _ _ _ w fun e w' => e = .returned (.int .i64 (mS s)) ∧ w' = w at n1
  change ∀ w, Calls _ _ _ w fun e w' => e = .returned (.int .i64 (dS s)) ∧ w' = w at n2
  have N0 : Hid (_) := n0
  have N1 : Hid (_) := n1
  have N2 : Hid (_) := n2
  have M : Hid (_) := mk
  have hlo : (10 : Int) ≤ s.size := by have := h.1; omega
  have hhi : (s.size : Int) ≤ 10 := by have := h.1; omega
  clear n0 n1 n2 mk p0 p1 p2 z0 z1 z2 hv hv' hB
  go_enter Tryd.func23, Tryd.ntmps23
  go_wp2_with (go_at_call 37; refine (isDT_yes _ _ h).mono ?_; rintro e w' ⟨rfl, rfl⟩)
  go_quiet (first
    | (go_at_call_of 38 (Value.string (s.extract 0 4)); exact Calls.quiet_of_same (N0.out _))
    | (go_at_call_of 38 (Value.string (s.extract 5 7)); exact Calls.quiet_of_same (N1.out _))
    | (go_at_call_of 38 (Value.string (s.extract 8 s.size)); exact Calls.quiet_of_same (N2.out _))
    | (go_at_call 13; exact Calls.quiet_of (M.out _)))
  go_wp2
  go_ret2
  exact ⟨rfl, drewN_below _ _⟩
end Go.Proofs.YtfnajhpcbajhfaaDoor
