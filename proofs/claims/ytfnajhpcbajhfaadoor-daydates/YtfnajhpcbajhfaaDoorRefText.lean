/- Contracts of the document's own answer to a day's text: Byte, below, Decimal, pad, DayText. -/
import Derived.Test.YtfnajhpcbajhfaaDoorRefW3
import Derived.Test.YtfnajhpcbajhfaaDoorReadM
import Derived.Test.YtfnajhpcbajhfaaDoorTextW
import Derived.Lib.ItoaLen
namespace Go.Proofs.YtfnajhpcbajhfaaDoor
open Go.RowKit Cal

set_option maxRecDepth 100000 in
theorem byte_any (n : Int) (w : World) (h0 : 48 ≤ n) (h1 : n ≤ 57) :
    Calls Tryd.prog 50 #[.int .i64 n] w fun e w' => e = .returned (.string ⟨#[dgt (n - 48)]⟩) ∧ Below w.heap.size w w' := by
  have hcv := run_convert_bytes_arg (P := Tryd.prog) (w.alloc (.cells #[.int .u8 n] 5)) 96 5 Tryd.underlying96 Tryd.underlying5 w.heap.size 0 1 1 [n] rfl (fun i hi => by
    obtain rfl : i = 0 := by omega
    simp) 9 Tryd.underlying9
  have hs : strOfNums [n] = ⟨#[dgt (n - 48)]⟩ := by
    unfold strOfNums dgt
    have e : n.toNat = 48 + (n - 48).toNat := by omega
    simp [e]
  rw [hs] at hcv
  clear hs
  go_enter Tryd.func50, Tryd.ntmps50
  go_wp2
  go_ret
  exact ⟨rfl, (Below.refl _ _).alloc (Nat.le_refl _) _⟩

theorem below_any (u : Nat) : ∀ (w : World), u ≤ 9999 →
    Calls Tryd.prog 46 #[.int .i64 (-(u : Int))] w fun e w' => e = .returned (.string ⟨(Lib.decDigits u).toArray⟩) ∧ Below w.heap.size w w' := by
  induction u using Nat.strongRecOn with
  | ind u ih =>
    intro w hu
    by_cases h10 : u < 10
    · have HD : Hid (Lib.decDigits u = [dgt (48 + (u : Int) - 48)]) := by
        show _ = _
        rw [Lib.decDigits_one h10]; unfold dgt
        have e : ((48 : Int) + (u : Int) - 48).toNat = u := by omega
        rw [e]
      clear ih
      go_enter Tryd.func46, Tryd.ntmps46
      go_wp2_with fail
      go_at_call 50
      refine (byte_any _ _ (by omega) (by omega)).mono ?_
      rintro e w' ⟨rfl, hb⟩
      go_wp2
      go_ret
      exact ⟨ret_str (by rw [HD.out]), hb⟩
    · have hc := fun w => ih (u / 10) (by omega) w (by omega)
      have e : ((u / 10 : Nat) : Int) = (u : Int) / 10 := by omega
      rw [e] at hc
      have HC : Hid (_) := hc
      have HD : Hid (Lib.decDigits u = Lib.decDigits (u / 10) ++ [dgt (48 + (u : Int) % 10 - 48)]) := by
        show _ = _
        rw [Lib.decDigits, dif_neg h10]; unfold dgt
        have e : ((48 : Int) + (u : Int) % 10 - 48).toNat = u % 10 := by omega
        rw [e]
      have hl : (Lib.decDigits (u / 10)).length ≤ 21 := by
        have := Lib.itoa_length_le ((u / 10 : Nat) : Int) (by omega) (by omega)
        rw [Lib.itoa_nonneg] at this
        exact this
      clear hc e ih
      go_enter Tryd.func46, Tryd.ntmps46
      go_wp2_with fail
      go_at_call 46
      refine (HC.out _).mono ?_
      rintro e w1 ⟨rfl, k1⟩
      go_wp2_with fail
      go_at_call 50
      refine (byte_any _ _ (by omega) (by omega)).mono ?_
      rintro e w2 ⟨rfl, k2⟩
      go_wp2
      go_ret
      exact ⟨ret_str (by rw [HD.out]; exact ByteArray.mk_append_mk _ [_]), below_then k1 k2⟩

theorem decimal_any (u : Nat) (w : World) (hu : u ≤ 9999) :
    Calls Tryd.prog 34 #[.int .i64 (u : Int)] w fun e w' => e = .returned (.string ⟨(Lib.decDigits u).toArray⟩) ∧ Below w.heap.size w w' := by
  go_enter Tryd.func34, Tryd.ntmps34
  go_wp2_with fail
  go_at_call 46
  refine (below_any u _ hu).mono ?_
  rintro e w1 ⟨rfl, k1⟩
  go_wp2
  go_ret
  exact ⟨rfl, k1⟩

theorem pad_any (k : Int) (w : World) (h0 : 0 ≤ k) (h1 : k < 100) :
    Calls Tryd.prog 35 #[.int .i64 k] w fun e w' => e = .returned (.string ⟨(two k).toArray⟩) ∧ Below w.heap.size w w' := by
  obtain ⟨u, rfl⟩ : ∃ u : Nat, k = u := ⟨k.toNat, by omega⟩
  by_cases hu : u < 10
  · have ht := dec_low u hu
    have hl : (Lib.decDigits u).length = 1 := by rw [Lib.decDigits_one hu]; rfl
    have HT : Hid (_) := ht
    clear ht
    go_enter Tryd.func35, Tryd.ntmps35
    go_wp2_with (go_at_call 34; refine (decimal_any u _ (by omega)).mono ?_; rintro e w' ⟨rfl, hb⟩)
    go_ret
    exact ⟨ret_str (by rw [← HT.out]; exact ByteArray.mk_append_mk [48] _), hb⟩
  · have ht := dec_two u hu (by omega)
    have HT : Hid (_) := ht
    clear ht
    go_enter Tryd.func35, Tryd.ntmps35
    go_wp2_with (go_at_call 34; refine (decimal_any u _ (by omega)).mono ?_; rintro e w' ⟨rfl, hb⟩)
    go_ret
    exact ⟨ret_str (by rw [← HT.out]), hb⟩

theorem dayText_no (n : Int) (w : World) (h : n < 0 ∨ 73048 < n) :
    Calls Tryd.prog 18 #[.int .i64 n] w fun e w' => e = .returned (.string ⟨#[]⟩) ∧ w' = w := by
  go_enter Tryd.func18, Tryd.ntmps18
  go_wp2_with (go_at_call 21; refine (isDayR_no _ _ h).mono ?_; rintro e w' ⟨rfl, rfl⟩)
  go_ret
  exact ⟨rfl, rfl⟩

theorem dayText_ok (n y m d : Int) (w : World) (h : vld y m d) (hn : num y m d = n) :
    Calls Tryd.prog 18 #[.int .i64 n] w fun e w' => e = .returned (.string ⟨(txt y m d).toArray⟩) ∧ Below w.heap.size w w' := by
  have hnb := num_bd h
  rw [hn] at hnb
  obtain ⟨hn0, hn1⟩ := hnb
  have hh := h
  obtain ⟨hy0, hy1, hm0, hm1, hd0, hd1⟩ := hh
  have hd31 := (dim_bd y m).2
  have hl4 := four_length y
  have hl2 := two_length m
  have hl3 := two_length d
  have hdec : ∀ w, Calls Tryd.prog 34 #[.int .i64 y] w fun e w' => e = .returned (.string ⟨(four y).toArray⟩) ∧ Below w.heap.size w w' := by
    intro w
    obtain ⟨u, rfl⟩ : ∃ u : Nat, y = u := ⟨y.toNat, by omega⟩
    have := decimal_any u w (by omega)
    rw [← Lib.itoa_nonneg, itoa_four _ (by omega) (by omega)] at this
    exact this
  have HD : Hid (_) := hdec
  clear hdec
  go_enter Tryd.func18, Tryd.ntmps18
  go_wp2_with (first
    | (go_at_call 21; refine (isDayR_yes _ _ hn0 hn1).mono ?_; rintro e w' ⟨rfl, rfl⟩)
    | (go_at_call 22; refine (dateOf_ok n y m d _ h hn).mono ?_; rintro e w' ⟨rfl, rfl⟩)
    | (go_at_call 34; refine (HD.out _).mono ?_; rintro e w1 ⟨rfl, k1⟩)
    | (go_at_call_of 35 (Value.int .i64 m); refine (pad_any m _ (by omega) (by omega)).mono ?_; rintro e w2 ⟨rfl, k2⟩)
    | (go_at_call_of 35 (Value.int .i64 d); refine (pad_any d _ (by omega) (by omega)).mono ?_; rintro e w3 ⟨rfl, k3⟩))
  go_ret
  exact ⟨ret_str (by unfold txt; simp [ByteArray.mk_append_mk]), below_then k1 (below_then k2 k3)⟩
end Go.Proofs.YtfnajhpcbajhfaaDoor
