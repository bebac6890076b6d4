/- Contracts of takePart and take at the words of a rule that is well. -/
import Derived.Test.YtfnajhpcbajhfaaGreatDoorRuleD
namespace Go.Proofs.YtfnajhpcbajhfaaGreatDoor
open Go.RowKit Cal

theorem part_count (B : Nat) (w : World) (f : ByteArray) (e : Int) (sl : Value) (c u p : Int) (hp : p < 4) (h : Rd w B f e sl c u p) :
    Calls Tryz.prog 27 #[.pointer (some ⟨B, 0, none⟩), .string ⟨#[99, 111, 117, 110, 116]⟩] w fun r w' => r = .returned (.bool true) ∧ w.grownBy w' (some B) ∧ Rd w' B f e sl c u 4 := by
  have H : Hid (Rd w B f e sl c u p) := h
  obtain ⟨x0, x1, x2, x3, x4, x5⟩ := rd_cell h
  have z5 := rd_frozen h 5
  clear h
  go_enter Tryz.func27, Tryz.ntmps27
  go_wp2
  go_ret
  exact ⟨rfl, grown_set _ ⟨B, 5, none⟩ _, rd_set5 H.out 4⟩
theorem part_until (B : Nat) (w : World) (f : ByteArray) (e : Int) (sl : Value) (c u p : Int) (hp : p < 6) (h : Rd w B f e sl c u p) :
    Calls Tryz.prog 27 #[.pointer (some ⟨B, 0, none⟩), .string ⟨#[117, 110, 116, 105, 108]⟩] w fun r w' => r = .returned (.bool true) ∧ w.grownBy w' (some B) ∧ Rd w' B f e sl c u 6 := by
  have H : Hid (Rd w B f e sl c u p) := h
  obtain ⟨x0, x1, x2, x3, x4, x5⟩ := rd_cell h
  have z5 := rd_frozen h 5
  clear h
  go_enter Tryz.func27, Tryz.ntmps27
  go_wp2
  go_ret
  exact ⟨rfl, grown_set _ ⟨B, 5, none⟩ _, rd_set5 H.out 6⟩
theorem part_days (B : Nat) (ds : List Int) (w0 w : World) (f : ByteArray) (e : Int) (c u : Int) (g : GlobR w0) (hb0 : Below w0.heap.size w0 w) (hB : w0.heap.size ≤ B) (h0 : ds ≠ []) (hD : bD ds) (h20 : ds.length ≤ 20)
    (h : Rd w B f e (.slice none 0 0) c u 2) :
    Calls Tryz.prog 27 #[.pointer (some ⟨B, 0, none⟩), .string (bs (Lib.join (ds.map nm) [44]))] w fun r w' => r = .returned (.bool true) ∧ w.grownBy w' (some B) ∧
      ∃ sl, Rd w' B f e sl c u 3 ∧ w'.ownsRow w.heap.size 3 1 sl ds.length (ds.map (Value.int .i64)) := by
  have C : Hid (_) := takeDays_any B ds w0 w f e c u 2 g hb0 hB h0 hD h20 h
  have n1 : ((bs (Lib.join (ds.map nm) [44])).toList == [99, 111, 117, 110, 116]) = false := by
    rw [beq_eq_false_iff_ne, ByteArray.toList_eq]; exact days_ne_count h0
  have n2 : ((bs (Lib.join (ds.map nm) [44])).toList == [117, 110, 116, 105, 108]) = false := by
    rw [beq_eq_false_iff_ne, ByteArray.toList_eq]; exact days_ne_until h0
  generalize bs (Lib.join (ds.map nm) [44]) = sb at C n1 n2
  have CC : Hid (Calls Tryz.prog 40 #[.pointer (some ⟨B, 0, none⟩), .string sb] w fun r w' => r = .returned (.bool true) ∧ w.grownBy w' (some B) ∧
      ∃ sl, Rd w' B f e sl c u 3 ∧ w'.ownsRow w.heap.size 3 1 sl ds.length (ds.map (Value.int .i64))) := C.out
  obtain ⟨x0, x1, x2, x3, x4, x5⟩ := rd_cell h
  clear C h g hb0 hD
  go_enter Tryz.func27, Tryz.ntmps27
  go_wp2_with (go_at_call 40; refine Calls.mono CC.out ?_; rintro r w' ⟨rfl, hg1, hg2⟩)
  go_ret
  exact ⟨rfl, hg1, hg2⟩

theorem take_freq (B : Nat) (x : ByteArray) (sl : Value) (w : World) (hx : isF x = true) (h : Rd w B ⟨#[]⟩ 0 sl 0 (-1) 0) :
    Calls Tryz.prog 16 #[.pointer (some ⟨B, 0, none⟩), .string x] w fun r w' => r = .returned (.bool true) ∧ w.grownBy w' (some B) ∧
      ((x.toList == [111, 110, 99, 101]) = true → Rd w' B x 1 sl 0 (-1) 7) ∧ ((x.toList == [111, 110, 99, 101]) = false → Rd w' B x 0 sl 0 (-1) 1) := by
  have C : Hid (_) := takeFreq_any B x sl w hx h
  obtain ⟨x0, x1, x2, x3, x4, x5⟩ := rd_cell h
  clear h hx
  go_enter Tryz.func16, Tryz.ntmps16
  go_wp2_with (go_at_call 24; refine Calls.mono C.out ?_; rintro r w' ⟨rfl, h1, h2, h3⟩)
  go_ret
  exact ⟨rfl, h1, h2, h3⟩
theorem take_every (B : Nat) (m : Int) (w : World) (f : ByteArray) (e : Int) (sl : Value) (c u : Int) (h0 : 0 ≤ m) (h1 : m ≤ 100000) (ht : Tab w) (h : Rd w B f e sl c u 1) :
    Calls Tryz.prog 16 #[.pointer (some ⟨B, 0, none⟩), .string (bs (Lib.itoa m))] w fun r w' => r = .returned (.bool true) ∧ w.grownBy w' (some B) ∧ Rd w' B f m sl c u 2 := by
  have C := takeNumber_any B m 2 1 w f e sl c u 1 h0 h1 (Or.inl rfl) ht h
  generalize bs (Lib.itoa m) = sb at C
  have CC : Hid (Calls Tryz.prog 25 #[.pointer (some ⟨B, 0, none⟩), .string sb, .pointer (some ⟨B, 1, none⟩), .int .i64 2] w fun r w' => r = .returned (.bool true) ∧ w.grownBy w' (some B) ∧ Rd w' B f m sl c u 2) := by
    refine C.mono ?_; rintro r w' ⟨a, b, c1, _⟩; exact ⟨a, b, c1 rfl⟩
  obtain ⟨x0, x1, x2, x3, x4, x5⟩ := rd_cell h
  clear h C ht
  go_enter Tryz.func16, Tryz.ntmps16
  go_wp2_with (go_at_call 25; refine Calls.mono CC.out ?_; rintro r w' ⟨rfl, h1, h2⟩)
  go_ret
  exact ⟨rfl, h1, h2⟩
theorem take_count (B : Nat) (m : Int) (w : World) (f : ByteArray) (e : Int) (sl : Value) (c u : Int) (h0 : 0 < m) (h1 : m ≤ 100000) (ht : Tab w) (h : Rd w B f e sl c u 4) :
    Calls Tryz.prog 16 #[.pointer (some ⟨B, 0, none⟩), .string (bs (Lib.itoa m))] w fun r w' => r = .returned (.bool true) ∧ w.grownBy w' (some B) ∧ Rd w' B f e sl m u 5 := by
  have C := takeNumber_any B m 5 3 w f e sl c u 4 (by omega) h1 (Or.inr rfl) ht h
  generalize bs (Lib.itoa m) = sb at C
  have CC : Hid (Calls Tryz.prog 25 #[.pointer (some ⟨B, 0, none⟩), .string sb, .pointer (some ⟨B, 3, none⟩), .int .i64 5] w fun r w' => r = .returned (.bool true) ∧ w.grownBy w' (some B) ∧ Rd w' B f e sl m u 5) := by
    refine C.mono ?_; rintro r w' ⟨a, b, _, c1⟩; exact ⟨a, b, c1 rfl⟩
  obtain ⟨x0, x1, x2, x3, x4, x5⟩ := rd_cell h
  clear h C ht
  go_enter Tryz.func16, Tryz.ntmps16
  go_wp2_with (go_at_call 25; refine Calls.mono CC.out ?_; rintro r w' ⟨rfl, h1, h2⟩; have y3 := (rd_cell h2).2.2.2.1)
  go_ret
  exact ⟨rfl, h1, h2⟩
theorem take_until (B : Nat) (n y m d : Int) (w : World) (f : ByteArray) (e : Int) (sl : Value) (c u : Int) (hv : vld y m d) (hn : num y m d = n) (g : GlobR w) (h : Rd w B f e sl c u 6) :
    Calls Tryz.prog 16 #[.pointer (some ⟨B, 0, none⟩), .string (bs (txt y m d))] w fun r w' => r = .returned (.bool true) ∧ w.grownBy w' (some B) ∧ Rd w' B f e sl c n 7 := by
  have C := takeUntil_any B n y m d w f e sl c u 6 hv hn g h
  generalize bs (txt y m d) = sb at C
  have CC : Hid (_) := C
  obtain ⟨x0, x1, x2, x3, x4, x5⟩ := rd_cell h
  clear h C g
  go_enter Tryz.func16, Tryz.ntmps16
  go_wp2_with (go_at_call 26; refine Calls.mono CC.out ?_; rintro r w' ⟨rfl, h1, h2⟩)
  go_ret
  exact ⟨rfl, h1, h2⟩
/-- the other places: the word goes to takePart -/
theorem take_part (B : Nat) (x : ByteArray) (w : World) (f : ByteArray) (e : Int) (sl : Value) (c u p : Int) (R : World → Prop) (hp : p = 2 ∨ p = 3 ∨ p = 5) (h : Rd w B f e sl c u p)
    (C : Calls Tryz.prog 27 #[.pointer (some ⟨B, 0, none⟩), .string x] w fun r w' => r = .returned (.bool true) ∧ R w') :
    Calls Tryz.prog 16 #[.pointer (some ⟨B, 0, none⟩), .string x] w fun r w' => r = .returned (.bool true) ∧ R w' := by
  have CC : Hid (_) := C
  obtain ⟨x0, x1, x2, x3, x4, x5⟩ := rd_cell h
  clear h C
  rcases hp with rfl | rfl | rfl
  all_goals
    go_enter Tryz.func16, Tryz.ntmps16
    go_wp2_with (go_at_call 27; refine Calls.mono CC.out ?_; rintro r w' ⟨rfl, h1⟩)
    go_ret
    exact ⟨rfl, h1⟩
end Go.Proofs.YtfnajhpcbajhfaaGreatDoor
