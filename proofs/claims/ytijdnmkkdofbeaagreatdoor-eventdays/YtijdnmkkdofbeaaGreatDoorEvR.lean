/- The document's own answers on events: names, titles, an event's error. -/
import Derived.Test.YtijdnmkkdofbeaaGreatDoorEvE
import Derived.Test.YtijdnmkkdofbeaaGreatDoorRefE
import Derived.BigQuiet
import Derived.Deep.DeepCutAuto
import Derived.Deep.RegionWith
namespace Go.Proofs.YtijdnmkkdofbeaaGreatDoor
open Go Go.RowKit Cal
attribute [local go_sem] Oper.semAt_some

set_option maxHeartbeats 1000000 in
theorem isNameR_any (s : ByteArray) (w : World) (hs : s.size ≤ 60) (b : Bool) (hb : b = true ↔ okID s) :
    Calls Tryz.prog 25 #[.string s] w fun r w' => r = .returned (.bool b) ∧ w' = w := by
  have HB : Hid (b = true ↔ okID s) := hb
  clear hb
  go_enter Tryz.func25, Tryz.ntmps25
  go_wp2
  go_loop [3, 4, 5, 6] (fun i _ _ _ => ∃ k : Nat, k ≤ s.size ∧ i = .int .i64 k ∧ Hid (∀ (j : Nat) (h : j < s.size), j < k → okc s[j])) (fun i _ _ _ => s.size - (intOf i).toNat)
  case atStart => exact ⟨0, Nat.zero_le _, rfl, fun j _ h => absurd h (Nat.not_lt_zero _)⟩
  case round =>
    obtain ⟨k, hk, rfl, HA⟩ := hrel
    by_cases hlt : k < s.size
    · have HN : Hid (okc s[k] → ∀ (j : Nat) (h : j < s.size), j < k + 1 → okc s[j]) := fun hx j hj hjk => by
        by_cases ej : j = k
        · subst ej; exact hx
        · exact HA.out j hj (by omega)
      have HF : Hid (¬ okc s[k] → b = false) := fun hx => by
        cases b with
        | false => rfl
        | true => exact absurd ((HB.out.1 rfl).1 k hlt) hx
      clear HA HB
      have hok : Hid (okc s[k] ↔ (97 ≤ (s[k].toNat : Int) ∧ (s[k].toNat : Int) ≤ 122) ∨ (48 ≤ (s[k].toNat : Int) ∧ (s[k].toNat : Int) ≤ 57)) := Iff.rfl
      by_cases h1 : 97 ≤ (s[k].toNat : Int) ∧ (s[k].toNat : Int) ≤ 122
      · have HN' : Hid (_) := HN.out (hok.out.2 (.inl h1))
        clear HF HN hok
        obtain ⟨h1, h2⟩ := h1
        go_wp2
        go_round
        case rel => exact ⟨k + 1, by omega, by go_num, HN'.out⟩
        case measure => simp [intOf]; omega
      · by_cases h2 : 48 ≤ (s[k].toNat : Int) ∧ (s[k].toNat : Int) ≤ 57
        · have HN' : Hid (_) := HN.out (hok.out.2 (.inr h2))
          clear HF HN hok h1
          obtain ⟨h1, h2⟩ := h2
          go_wp2
          go_round
          case rel => exact ⟨k + 1, by omega, by go_num, HN'.out⟩
          case measure => simp [intOf]; omega
        · have HF' : Hid (b = false) := HF.out (fun q => by rcases hok.out.1 q with q | q; exact h1 q; exact h2 q)
          clear HF HN hok
          have h3 : (s[k].toNat : Int) < 48 ∨ (57 < (s[k].toNat : Int) ∧ (s[k].toNat : Int) < 97) ∨ 122 < (s[k].toNat : Int) := by omega
          clear h1 h2
          rcases h3 with h3 | ⟨h3, h4⟩ | h3
          · go_wp2
            go_ret
            exact ⟨ret_bool HF'.out.symm, rfl⟩
          · have e1 : decide ((s[k].toNat : Int) ≤ 57) = false := decide_eq_false (by omega)
            go_wp2
            go_ret
            exact ⟨ret_bool HF'.out.symm, rfl⟩
          · have e1 : decide ((s[k].toNat : Int) ≤ 57) = false := decide_eq_false (by omega)
            have e2 : decide ((s[k].toNat : Int) ≤ 122) = false := decide_eq_false (by omega)
            go_wp2
            go_ret
            exact ⟨ret_bool HF'.out.symm, rfl⟩
    · have HR : Hid (b = true ↔ 1 ≤ s.size ∧ s.size ≤ 12) := by
        show _ ↔ _
        rw [HB.out]
        exact ⟨fun q => q.2, fun q => ⟨fun j hj => HA.out j hj (by omega), q⟩⟩
      clear HA HB
      go_wp2
      all_goals
        go_ret
        refine ⟨ret_bool ?_, rfl⟩
        rw [Bool.eq_iff_iff, HR.out]
        simp
        try omega

/-- a sign that may be told -/
def okp (c : UInt8) : Prop := 32 ≤ (c.toNat : Int) ∧ (c.toNat : Int) ≤ 126
set_option maxHeartbeats 1000000 in
theorem isPlainR_any (s : ByteArray) (w : World) (hs : s.size ≤ 60) (b : Bool) (hb : b = true ↔ ∀ (j : Nat) (h : j < s.size), okp s[j]) :
    Calls Tryz.prog 47 #[.string s] w fun r w' => r = .returned (.bool b) ∧ Below w.heap.size w w' := by
  have HB : Hid (b = true ↔ ∀ (j : Nat) (h : j < s.size), okp s[j]) := hb
  clear hb
  go_enter Tryz.func47, Tryz.ntmps47
  go_wp2
  go_loopw [3] (fun i wr => ∃ k : Nat, k ≤ s.size ∧ i = .int .i64 k ∧ Hid (Below w.heap.size w wr) ∧ Hid (∀ (j : Nat) (h : j < s.size), j < k → okp s[j])) (fun i _ => s.size - (intOf i).toNat)
  case atStart => exact ⟨0, Nat.zero_le _, rfl, Below.refl _ _, fun j _ h => absurd h (Nat.not_lt_zero _)⟩
  case round =>
    obtain ⟨k, hk, rfl, hBw, HA⟩ := hrel
    by_cases hlt : k < s.size
    · have HN : Hid (okp s[k] → ∀ (j : Nat) (h : j < s.size), j < k + 1 → okp s[j]) := fun hx j hj hjk => by
        by_cases ej : j = k
        · subst ej; exact hx
        · exact HA.out j hj (by omega)
      have HF : Hid (¬ okp s[k] → b = false) := fun hx => by
        cases b with
        | false => rfl
        | true => exact absurd (HB.out.1 rfl k hlt) hx
      have hok : Hid (okp s[k] ↔ 32 ≤ (s[k].toNat : Int) ∧ (s[k].toNat : Int) ≤ 126) := Iff.rfl
      clear HA HB
      by_cases h1 : (s[k].toNat : Int) < 32
      · have HF' : Hid (b = false) := HF.out (fun x => by have := hok.out.1 x; omega)
        have e1 : decide ((s[k].toNat : Int) < 32) = true := decide_eq_true h1
        clear HF HN hok
        go_wp2_with (fail)
        try go_quiet (fail)
        go_wp2
        go_ret
        exact ⟨ret_bool HF'.out.symm, below_then hBw.out (by first | exact Below.refl _ _ | exact drewN_below _ _)⟩
      · have e1 : decide ((s[k].toNat : Int) < 32) = false := decide_eq_false h1
        by_cases h2 : 126 < (s[k].toNat : Int)
        · have HF' : Hid (b = false) := HF.out (fun x => by have := hok.out.1 x; omega)
          have e2 : decide (126 < (s[k].toNat : Int)) = true := decide_eq_true h2
          clear HF HN hok
          go_wp2_with (fail)
          try go_quiet (fail)
          go_wp2
          go_ret
          exact ⟨ret_bool HF'.out.symm, below_then hBw.out (by first | exact Below.refl _ _ | exact drewN_below _ _)⟩
        · have e2 : decide (126 < (s[k].toNat : Int)) = false := decide_eq_false h2
          have HN' : Hid (_) := HN.out (hok.out.2 ⟨by omega, by omega⟩)
          clear HF HN hok
          go_wp2_with (fail)
          try go_quiet (fail)
          go_wp2
          go_roundw
          case rel => exact ⟨k + 1, by omega, by go_num, below_then hBw.out (by first | exact Below.refl _ _ | exact drewN_below _ _), HN'.out⟩
          case measure => simp [intOf]; omega
    · have HR : Hid (b = true) := HB.out.2 (fun j hj => HA.out j hj (by omega))
      clear HA HB
      go_wp2
      go_ret
      exact ⟨ret_bool HR.out.symm, hBw.out⟩

set_option maxHeartbeats 1000000 in
theorem isTitleR_any (s : ByteArray) (w : World) (hs : s.size ≤ 60) (b : Bool) (hb : b = true ↔ okTi s) :
    Calls Tryz.prog 26 #[.string s] w fun r w' => r = .returned (.bool b) ∧ Below w.heap.size w w' := by
  have HB : Hid (b = true ↔ okTi s) := hb
  have IP : Hid (∀ (W : World) (b : Bool), (b = true ↔ ∀ (j : Nat) (h : j < s.size), okp s[j]) → Calls Tryz.prog 47 #[.string s] W fun r w' => r = .returned (.bool b) ∧ Below W.heap.size W w') := fun W b h => isPlainR_any s W hs b h
  clear hb
  go_enter Tryz.func26, Tryz.ntmps26
  go_wp2
  go_loop [3] (fun i => ∃ k : Nat, k ≤ s.size ∧ i = .int .i64 k ∧ Hid (∀ (j : Nat) (h : j < s.size), j < k → (s[j].toNat : Int) ≠ 124)) (fun i => s.size - (intOf i).toNat)
  case atStart => exact ⟨0, Nat.zero_le _, rfl, fun j _ h => absurd h (Nat.not_lt_zero _)⟩
  case round =>
    obtain ⟨k, hk, rfl, HA⟩ := hrel
    by_cases hlt : k < s.size
    · by_cases h3 : (s[k].toNat : Int) = 124
      · have HF' : Hid (b = false) := by
          cases b with
          | false => trivial
          | true => exact absurd h3 ((HB.out.1 rfl).1 k hlt).2.2
        have e3 : ((s[k].toNat : Int) == 124) = true := by rw [beq_iff_eq]; exact h3
        clear HA HB IP h3
        go_wp2
        go_ret
        exact ⟨ret_bool HF'.out.symm, Below.refl _ _⟩
      · have HN : Hid (∀ (j : Nat) (h : j < s.size), j < k + 1 → (s[j].toNat : Int) ≠ 124) := fun j hj hjk => by
          by_cases ej : j = k
          · subst ej; exact h3
          · exact HA.out j hj (by omega)
        have e3 : ((s[k].toNat : Int) == 124) = false := by rw [beq_eq_false_iff_ne]; exact h3
        clear HA HB IP h3
        go_wp2
        go_round
        case rel => exact ⟨k + 1, by omega, by go_num, HN.out⟩
        case measure => simp [intOf]; omega
    · have HK : Hid (∀ (j : Nat) (h : j < s.size), (s[j].toNat : Int) ≠ 124) := fun j hj => HA.out j hj (by omega)
      clear HA
      by_cases h40 : s.size ≤ 40
      · have IP' : Hid (_) := IP.out w b (by
          rw [HB.out]
          constructor
          · rintro ⟨q, _⟩ j hj; exact ⟨(q j hj).1, (q j hj).2.1⟩
          · intro q; exact ⟨fun j hj => ⟨(q j hj).1, (q j hj).2, HK.out j hj⟩, h40⟩)
        clear HB IP HK
        go_wp2_with (go_at_call 47; refine Calls.mono IP'.out ?_; rintro r w1 ⟨rfl, hb1⟩)
        go_ret
        exact ⟨rfl, hb1⟩
      · have HF' : Hid (b = false) := by
          cases b with
          | false => trivial
          | true => exact absurd (HB.out.1 rfl).2 h40
        clear HB IP HK
        go_wp2
        go_ret
        exact ⟨ret_bool HF'.out.symm, Below.refl _ _⟩
end Go.Proofs.YtijdnmkkdofbeaaGreatDoor
