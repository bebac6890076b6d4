/- Contracts of package day's twoDigits and Text: a day's text is the date's ten signs; no day has the empty one. -/
import Derived.Test.YtfnajhpcbajhfaaDoorDay2
import Derived.Test.YtfnajhpcbajhfaaDoorTxt
import Derived.Test.YtfnajhpcbajhfaaDoorShelf
import Derived.Lib.SmallJoins
namespace Go.Proofs.YtfnajhpcbajhfaaDoor
open Go.RowKit Cal

theorem grow_below (w : World) (q : Nat) (os : Array Obj) : Below w.heap.size w (Sort.grow (w.drewN q) os) :=
  ⟨rfl, rfl, rfl, by simp [Sort.grow], fun k hk => by
    show (w.heap ++ os)[k]? = w.heap[k]?
    rw [Array.getElem?_append_left hk]⟩
theorem ret_str {a b : ByteArray} (h : a = b) : Ending.returned (.string a) = .returned (.string b) := by rw [h]
theorem gPow : Tryd.prog.globalNamed "internal/strconv.uint64pow10" = some 12 := by kernel_rfl
/-- the library's table of powers of ten -/
def Tab (w : World) : Prop := Lib.TabIs Tryd.prog w "internal/strconv.uint64pow10" .u64 Lib.pow10Tab
theorem Tab.step {w w' : World} (h : Tab w) (hb : Below w.heap.size w w') : Tab w' := Joins.tab_stays gPow h hb (Nat.le_refl _)

theorem itoa_year (y : Int) (w : World) (h0 : 1000 ≤ y) (h1 : y ≤ 9999) (ht : Tab w) :
    Calls Tryd.prog 32 #[.int .i64 y] w fun e w' => e = .returned (.string ⟨(four y).toArray⟩) ∧ Below w.heap.size w w' := by
  refine (Tryd.strconv_Itoa y (by omega) (by omega) w ht).mono ?_
  rintro e w' ⟨rfl, k, os, rfl⟩
  exact ⟨by rw [itoa_four y h0 h1], grow_below _ _ _⟩

theorem twoDigits_any (k : Int) (w : World) (h0 : 0 ≤ k) (h1 : k < 100) :
    Calls Tryd.prog 33 #[.int .i64 k] w fun e w' => e = .returned (.string ⟨(two k).toArray⟩) ∧ w' = w := by
  obtain ⟨u, rfl⟩ : ∃ u : Nat, k = u := ⟨k.toNat, by omega⟩
  by_cases hu : u < 10
  · have ht := dec_low u hu
    have hl : (Lib.decDigits u).length = 1 := by rw [Lib.decDigits_one hu]; rfl
    have HT : Hid (_) := ht
    clear ht
    go_enter Tryd.func33, Tryd.ntmps33
    go_wp2_with (go_at_call 32; refine (Tryd.strconv_Itoa_small u (by omega) _).mono ?_; rintro e w' ⟨rfl, rfl⟩)
    go_ret
    exact ⟨ret_str (by rw [← HT.out]; exact ByteArray.mk_append_mk [48] _), rfl⟩
  · have ht := dec_two u hu (by omega)
    have HT : Hid (_) := ht
    clear ht
    go_enter Tryd.func33, Tryd.ntmps33
    go_wp2_with (go_at_call 32; refine (Tryd.strconv_Itoa_small u (by omega) _).mono ?_; rintro e w' ⟨rfl, rfl⟩)
    go_ret
    exact ⟨ret_str (by rw [← HT.out]), rfl⟩

theorem text_no (n : Int) (ev : Addr) (w : World) (h : n < 0 ∨ 73048 < n) (hB : w.cell? ⟨1, 0, none⟩ = some (.iface 56 (.pointer (some ev)))) :
    Calls Tryd.prog 17 #[.int .i64 n] w fun e w' => e = .returned (.string ⟨#[]⟩) ∧ Below w.heap.size w w' := by
  go_enter Tryd.func17, Tryd.ntmps17
  go_wp2_with (go_at_call 19; refine (date_no n ev _ h hB).mono ?_; rintro e w' ⟨rfl, hb⟩)
  go_ret
  exact ⟨rfl, hb⟩

theorem text_ok (n y m d : Int) (w : World) (h : vld y m d) (hn : num y m d = n) (ht : Tab w) :
    Calls Tryd.prog 17 #[.int .i64 n] w fun e w' => e = .returned (.string ⟨(txt y m d).toArray⟩) ∧ Below w.heap.size w w' := by
  have hh := h
  obtain ⟨hy0, hy1, hm0, hm1, hd0, hd1⟩ := hh
  have hd31 := (dim_bd y m).2
  have hl4 := four_length y
  have hl2 := two_length m
  have hl3 := two_length d
  go_enter Tryd.func17, Tryd.ntmps17
  go_wp2_with (first
    | (go_at_call 19; refine (date_ok n y m d _ h hn).mono ?_; rintro e w' ⟨rfl, rfl⟩)
    | (go_at_call 32; refine (itoa_year y _ (by omega) (by omega) ht).mono ?_; rintro e w' ⟨rfl, hb⟩)
    | (go_at_call_of 33 (Value.int .i64 m); refine (twoDigits_any m _ (by omega) (by omega)).mono ?_; rintro e w' ⟨rfl, rfl⟩)
    | (go_at_call_of 33 (Value.int .i64 d); refine (twoDigits_any d _ (by omega) (by omega)).mono ?_; rintro e w' ⟨rfl, rfl⟩))
  go_ret
  exact ⟨ret_str (by unfold txt; simp [ByteArray.mk_append_mk]), hb⟩
end Go.Proofs.YtfnajhpcbajhfaaDoor
