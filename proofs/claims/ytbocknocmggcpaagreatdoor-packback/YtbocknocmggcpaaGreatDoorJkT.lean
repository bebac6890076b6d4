/- Contracts of the document's own answer to days: MonthOf, MakeDay, DateOf, AddMonths: each returns what the plain mathematics (Cal) says. -/
import Derived.Test.YtbocknocmggcpaaGreatDoorDated
import Derived.Test.YtbocknocmggcpaaGreatDoorReadM
import Derived.Test.YtbocknocmggcpaaGreatDoorTextW
import Derived.Lib.ItoaLen
namespace Go.Proofs.YtbocknocmggcpaaGreatDoor
open Go.RowKit Cal

end Go.Proofs.YtbocknocmggcpaaGreatDoor

/- Contracts of the document's own answer to days: MakeDay, DateOf, AddMonths. -/
namespace Go.Proofs.YtbocknocmggcpaaGreatDoor
open Go.RowKit Cal

theorem dim2 (k : Int) (h0 : 2000 ≤ k) (h1 : k ≤ 2199) : ((dim k 2 == 29) = true ∧ yd k = 366) ∨ ((dim k 2 == 29) = false ∧ yd k = 365) := by
  have h := dim_feb k h0 h1
  rcases lp_eq k with ⟨_, hl⟩ | ⟨_, hl⟩
  · exact Or.inl ⟨by simp; omega, by unfold yd; omega⟩
  · exact Or.inr ⟨by simp; omega, by unfold yd; omega⟩

end Go.Proofs.YtbocknocmggcpaaGreatDoor

/- Contracts of the document's own answer to days: AddMonths. -/
namespace Go.Proofs.YtbocknocmggcpaaGreatDoor
open Go.RowKit Cal

theorem ret_ib {x : Value} {b c : Bool} (h : b = c) : Ending.returned (.tuple #[x, .bool b]) = .returned (.tuple #[x, .bool c]) := by rw [h]
end Go.Proofs.YtbocknocmggcpaaGreatDoor

/- Contracts of the document's own answer to a day's text: Byte, below, Decimal, pad, DayText. -/
namespace Go.Proofs.YtbocknocmggcpaaGreatDoor
open Go.RowKit Cal

set_option maxRecDepth 100000 in
theorem byte_any (n : Int) (w : World) (h0 : 48 ≤ n) (h1 : n ≤ 57) :
    Calls Tryz.prog 50 #[.int .i64 n] w fun e w' => e = .returned (.string ⟨#[dgt (n - 48)]⟩) ∧ Below w.heap.size w w' := by
  have hcv := run_convert_bytes_arg (P := Tryz.prog) (w.alloc (.cells #[.int .u8 n] 5)) 48 5 Tryz.underlying48 Tryz.underlying5 w.heap.size 0 1 1 [n] rfl (fun i hi => by
    obtain rfl : i = 0 := by omega
    simp) 9 Tryz.underlying9
  have hs : strOfNums [n] = ⟨#[dgt (n - 48)]⟩ := by
    unfold strOfNums dgt
    have e : n.toNat = 48 + (n - 48).toNat := by omega
    simp [e]
  rw [hs] at hcv
  clear hs
  go_enter Tryz.func50, Tryz.ntmps50
  go_wp2
  go_ret
  exact ⟨rfl, (Below.refl _ _).alloc (Nat.le_refl _) _⟩

theorem below_any (u : Nat) : ∀ (w : World), u ≤ 9999 →
    Calls Tryz.prog 25 #[.int .i64 (-(u : Int))] w fun e w' => e = .returned (.string ⟨(Lib.decDigits u).toArray⟩) ∧ Below w.heap.size w w' := by
  induction u using Nat.strongRecOn with
  | ind u ih =>
    intro w hu
    by_cases h10 : u < 10
    · have HD : Hid (Lib.decDigits u = [dgt (48 + (u : Int) - 48)]) := by
        show _ = _
        rw [Lib.decDigits_one h10]; unfold dgt
        have e : ((48 : Int) + (u : Int) - 48).toNat = u := by omega
        rw [e]
      clear ih
      go_enter Tryz.func25, Tryz.ntmps25
      go_wp2_with fail
      go_at_call 50
      refine (byte_any _ _ (by omega) (by omega)).mono ?_
      rintro e w' ⟨rfl, hb⟩
      go_wp2
      go_ret
      exact ⟨ret_str (by rw [HD.out]), hb⟩
    · have hc := fun w => ih (u / 10) (by omega) w (by omega)
      have e : ((u / 10 : Nat) : Int) = (u : Int) / 10 := by omega
      rw [e] at hc
      have HC : Hid (_) := hc
      have HD : Hid (Lib.decDigits u = Lib.decDigits (u / 10) ++ [dgt (48 + (u : Int) % 10 - 48)]) := by
        show _ = _
        rw [Lib.decDigits, dif_neg h10]; unfold dgt
        have e : ((48 : Int) + (u : Int) % 10 - 48).toNat = u % 10 := by omega
        rw [e]
      have hl : (Lib.decDigits (u / 10)).length ≤ 21 := by
        have := Lib.itoa_length_le ((u / 10 : Nat) : Int) (by omega) (by omega)
        rw [Lib.itoa_nonneg] at this
        exact this
      clear hc e ih
      go_enter Tryz.func25, Tryz.ntmps25
      go_wp2_with fail
      go_at_call 25
      refine (HC.out _).mono ?_
      rintro e w1 ⟨rfl, k1⟩
      go_wp2_with fail
      go_at_call 50
      refine (byte_any _ _ (by omega) (by omega)).mono ?_
      rintro e w2 ⟨rfl, k2⟩
      go_wp2
      go_ret
      exact ⟨ret_str (by rw [HD.out]; exact ByteArray.mk_append_mk _ [_]), below_then k1 k2⟩

theorem decimal_any (u : Nat) (w : World) (hu : u ≤ 9999) :
    Calls Tryz.prog 9 #[.int .i64 (u : Int)] w fun e w' => e = .returned (.string ⟨(Lib.decDigits u).toArray⟩) ∧ Below w.heap.size w w' := by
  go_enter Tryz.func9, Tryz.ntmps9
  go_wp2_with fail
  go_at_call 25
  refine (below_any u _ hu).mono ?_
  rintro e w1 ⟨rfl, k1⟩
  go_wp2
  go_ret
  exact ⟨rfl, k1⟩

end Go.Proofs.YtbocknocmggcpaaGreatDoor
