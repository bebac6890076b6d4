/- Plain mathematics of a day's text: ten signs, four digits, two and two, a line between; and how these signs are read. -/
import Derived.Test.YtfnajhpcbajhfaaDoorMath
import Derived.Lib.ItoaNum
import Derived.Lib.ItoaMem
namespace Go.Proofs.YtfnajhpcbajhfaaDoor.Cal
open Go

/-- a digit's sign -/
def dgt (k : Int) : UInt8 := UInt8.ofNat (48 + k.toNat)
/-- two digits -/
def two (k : Int) : List UInt8 := [dgt (k / 10), dgt (k % 10)]
/-- four digits -/
def four (k : Int) : List UInt8 := [dgt (k / 1000), dgt (k / 100 % 10), dgt (k / 10 % 10), dgt (k % 10)]
/-- a date's text -/
def txt (y m d : Int) : List UInt8 := four y ++ [45] ++ two m ++ [45] ++ two d

theorem itoa_four (y : Int) (h0 : 1000 ≤ y) (h1 : y ≤ 9999) : Lib.itoa y = four y := by
  obtain ⟨u, rfl⟩ : ∃ u : Nat, y = u := ⟨y.toNat, by omega⟩
  rw [Lib.itoa_nonneg, Lib.decDigits, dif_neg (by omega), Lib.decDigits, dif_neg (by omega), Lib.decDigits_two (by omega) (by omega)]
  unfold four dgt
  have e1 : u / 10 / 10 / 10 = ((u : Int) / 1000).toNat := by omega
  have e2 : u / 10 / 10 % 10 = ((u : Int) / 100 % 10).toNat := by omega
  have e3 : u / 10 % 10 = ((u : Int) / 10 % 10).toNat := by omega
  have e4 : u % 10 = ((u : Int) % 10).toNat := by omega
  rw [e1, e2, e3, e4]; rfl
theorem dec_low (k : Nat) (h : k < 10) : [48] ++ Lib.decDigits k = two k := by
  rw [Lib.decDigits_one h]; unfold two dgt
  have e1 : ((k : Int) / 10).toNat = 0 := by omega
  have e2 : ((k : Int) % 10).toNat = k := by omega
  rw [e1, e2]; rfl
theorem dec_two (k : Nat) (h0 : ¬ k < 10) (h1 : k < 100) : Lib.decDigits k = two k := by
  rw [Lib.decDigits_two h0 h1]; unfold two dgt
  have e1 : ((k : Int) / 10).toNat = k / 10 := by omega
  have e2 : ((k : Int) % 10).toNat = k % 10 := by omega
  rw [e1, e2]
theorem two_length (k : Int) : (two k).length = 2 := rfl
theorem four_length (k : Int) : (four k).length = 4 := rfl
theorem txt_length (y m d : Int) : (txt y m d).length = 10 := rfl
theorem dgt_nat (k : Int) (h0 : 0 ≤ k) (h1 : k ≤ 9) : (dgt k).toNat = 48 + k.toNat := by
  unfold dgt; rw [UInt8.toNat_ofNat']; omega
end Go.Proofs.YtfnajhpcbajhfaaDoor.Cal
