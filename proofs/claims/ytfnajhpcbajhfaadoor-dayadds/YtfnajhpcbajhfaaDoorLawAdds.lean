/- The walk of the law DayAdds: for every number, every count of months and every text it returns true, and memory that was there is as it was. -/
import Derived.Test.YtfnajhpcbajhfaaDoorRefW3
import Derived.Test.YtfnajhpcbajhfaaDoorFull
import Derived.Test.YtfnajhpcbajhfaaDoorReadW
import Derived.Test.YtfnajhpcbajhfaaDoorRefRead
namespace Go.Proofs.YtfnajhpcbajhfaaDoor
open Go.RowKit Cal

theorem readDay_no (s : ByteArray) (w : World) (h : ¬ isDT s) :
    Calls Tryd.prog 26 #[.string s] w fun e w' => e = .returned (.tuple #[.int .i64 0, .int .i64 1]) ∧ Below w.heap.size w w' := by
  by_cases h10 : s.size = 10
  · exact readDay_ten s w 0 1 h10 (Or.inr ⟨h, rfl, rfl⟩)
  · refine (readDay_len s w h10).mono ?_
    rintro e w' ⟨rfl, rfl⟩
    exact ⟨rfl, Below.refl _ _⟩
theorem readDay_ok (s : ByteArray) (w : World) (h : isDT s) (hv : vld (yS s) (mS s) (dS s)) :
    Calls Tryd.prog 26 #[.string s] w fun e w' => e = .returned (.tuple #[.int .i64 (num (yS s) (mS s) (dS s)), .int .i64 0]) ∧ Below w.heap.size w w' :=
  readDay_ten s w _ 0 h.1 (Or.inl ⟨h, Or.inl ⟨hv, rfl, rfl⟩⟩)
theorem readDay_bad (s : ByteArray) (w : World) (h : isDT s) (hv : ¬ vld (yS s) (mS s) (dS s)) :
    Calls Tryd.prog 26 #[.string s] w fun e w' => e = .returned (.tuple #[.int .i64 0, .int .i64 2]) ∧ Below w.heap.size w w' :=
  readDay_ten s w 0 2 h.1 (Or.inl ⟨h, Or.inr ⟨hv, rfl, rfl⟩⟩)

theorem adds_long (s : Nat → Addr) (n k : Int) (t : ByteArray) (w : World) (g : Full s w) (hl : 20 < (t.size : Int)) :
    Calls Tryd.prog 6 #[.int .i64 n, .int .i64 k, .string t] w fun e w' => e = .returned (.bool true) ∧ Below w.heap.size w w' := by
  go_enter Tryd.func6, Tryd.ntmps6
  go_wp2_with (go_at_call 12; refine (dated_any (s 1) _ g.env).mono ?_; rintro e w1 ⟨rfl, hb⟩)
  go_ret
  exact ⟨rfl, hb⟩

set_option maxHeartbeats 2000000 in
set_option maxRecDepth 100000 in
theorem adds_noDay_no (s : Nat → Addr) (n k : Int) (t : ByteArray) (w : World) (g : Full s w) (hl : (t.size : Int) ≤ 20) (hn : n < 0 ∨ 73048 < n) (hd : ¬ isDT t) :
    Calls Tryd.prog 6 #[.int .i64 n, .int .i64 k, .string t] w fun e w' => e = .returned (.bool true) ∧ Below w.heap.size w w' := by
  have HN : Hid (_) := hn
  have HD : Hid (_) := hd
  clear hn hd
  go_enter Tryd.func6, Tryd.ntmps6
  go_wp2_with (first
    | (go_at_call 12; refine (dated_any (s 1) _ g.env).mono ?_; rintro e w1 ⟨rfl, hb⟩; have g1 := g.step hb; have k1 := hb; clear hb)
    | (go_at_call 24; refine (add_no _ _ (s 1) _ HN.out g1.sents.c1).mono ?_; rintro e w2 ⟨rfl, hb⟩; have g2 := g1.step hb; have k2 := below_then k1 hb; clear hb g1 k1)
    | (go_at_call 25; refine (addMonths_no _ _ _ HN.out).mono ?_; rintro e w' ⟨rfl, rfl⟩)
    | (go_at_call 23; refine (read_no _ (s 0) _ HD.out g2.sents.c0).mono ?_; rintro e w3 ⟨rfl, hb⟩; have g3 := g2.step hb; have k3 := below_then k2 hb; clear hb g2 k2)
    | (go_at_call 26; refine (readDay_no _ _ HD.out).mono ?_; rintro e w4 ⟨rfl, hb⟩; have g4 := g3.step hb; have k4 := below_then k3 hb; clear hb g3 k3)
    | (go_at_call 10; refine (coded_text s _ g4).mono ?_; rintro e w5 ⟨rfl, hb⟩; have k5 := below_then k4 hb))
  go_ret
  exact ⟨rfl, k5⟩

set_option maxHeartbeats 2000000 in
set_option maxRecDepth 100000 in
theorem adds_noDay_ok (s : Nat → Addr) (n k : Int) (t : ByteArray) (w : World) (g : Full s w) (hl : (t.size : Int) ≤ 20) (hn : n < 0 ∨ 73048 < n) (hd : isDT t) (hw : vld (yS t) (mS t) (dS t)) :
    Calls Tryd.prog 6 #[.int .i64 n, .int .i64 k, .string t] w fun e w' => e = .returned (.bool true) ∧ Below w.heap.size w w' := by
  have HN : Hid (_) := hn
  have HD : Hid (_) := hd
  have HW : Hid (_) := hw
  clear hn hd hw
  go_enter Tryd.func6, Tryd.ntmps6
  go_wp2_with (first
    | (go_at_call 12; refine (dated_any (s 1) _ g.env).mono ?_; rintro e w1 ⟨rfl, hb⟩; have g1 := g.step hb; have k1 := hb; clear hb)
    | (go_at_call 24; refine (add_no _ _ (s 1) _ HN.out g1.sents.c1).mono ?_; rintro e w2 ⟨rfl, hb⟩; have g2 := g1.step hb; have k2 := below_then k1 hb; clear hb g1 k1)
    | (go_at_call 25; refine (addMonths_no _ _ _ HN.out).mono ?_; rintro e w' ⟨rfl, rfl⟩)
    | (go_at_call 23; refine (read_ok _ _ HD.out HW.out).mono ?_; rintro e w3 ⟨rfl, hb⟩; have g3 := g2.step hb; have k3 := below_then k2 hb; clear hb g2 k2)
    | (go_at_call 26; refine (readDay_ok _ _ HD.out HW.out).mono ?_; rintro e w4 ⟨rfl, hb⟩; have g4 := g3.step hb; have k4 := below_then k3 hb; clear hb g3 k3)
    | (go_at_call 10; refine (coded_none _).mono ?_; rintro e w' ⟨rfl, rfl⟩; have k5 := k4))
  go_ret
  exact ⟨rfl, k5⟩

set_option maxHeartbeats 2000000 in
set_option maxRecDepth 100000 in
theorem adds_noDay_bad (s : Nat → Addr) (n k : Int) (t : ByteArray) (w : World) (g : Full s w) (hl : (t.size : Int) ≤ 20) (hn : n < 0 ∨ 73048 < n) (hd : isDT t) (hw : ¬ vld (yS t) (mS t) (dS t)) :
    Calls Tryd.prog 6 #[.int .i64 n, .int .i64 k, .string t] w fun e w' => e = .returned (.bool true) ∧ Below w.heap.size w w' := by
  have HN : Hid (_) := hn
  have HD : Hid (_) := hd
  have HW : Hid (_) := hw
  clear hn hd hw
  go_enter Tryd.func6, Tryd.ntmps6
  go_wp2_with (first
    | (go_at_call 12; refine (dated_any (s 1) _ g.env).mono ?_; rintro e w1 ⟨rfl, hb⟩; have g1 := g.step hb; have k1 := hb; clear hb)
    | (go_at_call 24; refine (add_no _ _ (s 1) _ HN.out g1.sents.c1).mono ?_; rintro e w2 ⟨rfl, hb⟩; have g2 := g1.step hb; have k2 := below_then k1 hb; clear hb g1 k1)
    | (go_at_call 25; refine (addMonths_no _ _ _ HN.out).mono ?_; rintro e w' ⟨rfl, rfl⟩)
    | (go_at_call 23; refine (read_bad _ (s 1) _ HD.out HW.out g2.sents.c1).mono ?_; rintro e w3 ⟨rfl, hb⟩; have g3 := g2.step hb; have k3 := below_then k2 hb; clear hb g2 k2)
    | (go_at_call 26; refine (readDay_bad _ _ HD.out HW.out).mono ?_; rintro e w4 ⟨rfl, hb⟩; have g4 := g3.step hb; have k4 := below_then k3 hb; clear hb g3 k3)
    | (go_at_call 10; refine (coded_bound s _ g4).mono ?_; rintro e w5 ⟨rfl, hb⟩; have k5 := below_then k4 hb))
  go_ret
  exact ⟨rfl, k5⟩

set_option maxHeartbeats 2000000 in
set_option maxRecDepth 100000 in
theorem adds_day_no (s : Nat → Addr) (n k : Int) (y m d : Int) (t : ByteArray) (w : World) (g : Full s w) (hl : (t.size : Int) ≤ 20) (hv : vld y m d) (hn : num y m d = n) (hd : ¬ isDT t) :
    Calls Tryd.prog 6 #[.int .i64 n, .int .i64 k, .string t] w fun e w' => e = .returned (.bool true) ∧ Below w.heap.size w w' := by
  have HN : Hid (_) := hn
  have HD : Hid (_) := hd
  have HV : Hid (_) := hv
  clear hn hd hv
  go_enter Tryd.func6, Tryd.ntmps6
  go_wp2_with (first
    | (go_at_call 12; refine (dated_any (s 1) _ g.env).mono ?_; rintro e w1 ⟨rfl, hb⟩; have g1 := g.step hb; have k1 := hb; clear hb)
    | (go_at_call 24; refine (add_any _ _ _ _ _ (s 1) _ HV.out HN.out g1.env).mono ?_; rintro e w2 ⟨rfl, hb⟩; have g2 := g1.step hb; have k2 := below_then k1 hb; clear hb g1 k1)
    | (go_at_call 25; refine (addMonths_any _ _ _ _ _ _ HV.out HN.out).mono ?_; rintro e w' ⟨rfl, rfl⟩)
    | (go_at_call 23; refine (read_no _ (s 0) _ HD.out g2.sents.c0).mono ?_; rintro e w3 ⟨rfl, hb⟩; have g3 := g2.step hb; have k3 := below_then k2 hb; clear hb g2 k2)
    | (go_at_call 26; refine (readDay_no _ _ HD.out).mono ?_; rintro e w4 ⟨rfl, hb⟩; have g4 := g3.step hb; have k4 := below_then k3 hb; clear hb g3 k3)
    | (go_at_call 10; refine (coded_text s _ g4).mono ?_; rintro e w5 ⟨rfl, hb⟩; have k5 := below_then k4 hb))
  go_ret
  exact ⟨rfl, k5⟩

set_option maxHeartbeats 2000000 in
set_option maxRecDepth 100000 in
theorem adds_day_ok (s : Nat → Addr) (n k : Int) (y m d : Int) (t : ByteArray) (w : World) (g : Full s w) (hl : (t.size : Int) ≤ 20) (hv : vld y m d) (hn : num y m d = n) (hd : isDT t) (hw : vld (yS t) (mS t) (dS t)) :
    Calls Tryd.prog 6 #[.int .i64 n, .int .i64 k, .string t] w fun e w' => e = .returned (.bool true) ∧ Below w.heap.size w w' := by
  have HN : Hid (_) := hn
  have HD : Hid (_) := hd
  have HV : Hid (_) := hv
  have HW : Hid (_) := hw
  clear hn hd hv hw
  go_enter Tryd.func6, Tryd.ntmps6
  go_wp2_with (first
    | (go_at_call 12; refine (dated_any (s 1) _ g.env).mono ?_; rintro e w1 ⟨rfl, hb⟩; have g1 := g.step hb; have k1 := hb; clear hb)
    | (go_at_call 24; refine (add_any _ _ _ _ _ (s 1) _ HV.out HN.out g1.env).mono ?_; rintro e w2 ⟨rfl, hb⟩; have g2 := g1.step hb; have k2 := below_then k1 hb; clear hb g1 k1)
    | (go_at_call 25; refine (addMonths_any _ _ _ _ _ _ HV.out HN.out).mono ?_; rintro e w' ⟨rfl, rfl⟩)
    | (go_at_call 23; refine (read_ok _ _ HD.out HW.out).mono ?_; rintro e w3 ⟨rfl, hb⟩; have g3 := g2.step hb; have k3 := below_then k2 hb; clear hb g2 k2)
    | (go_at_call 26; refine (readDay_ok _ _ HD.out HW.out).mono ?_; rintro e w4 ⟨rfl, hb⟩; have g4 := g3.step hb; have k4 := below_then k3 hb; clear hb g3 k3)
    | (go_at_call 10; refine (coded_none _).mono ?_; rintro e w' ⟨rfl, rfl⟩; have k5 := k4))
  go_ret
  exact ⟨rfl, k5⟩

set_option maxHeartbeats 2000000 in
set_option maxRecDepth 100000 in
theorem adds_day_bad (s : Nat → Addr) (n k : Int) (y m d : Int) (t : ByteArray) (w : World) (g : Full s w) (hl : (t.size : Int) ≤ 20) (hv : vld y m d) (hn : num y m d = n) (hd : isDT t) (hw : ¬ vld (yS t) (mS t) (dS t)) :
    Calls Tryd.prog 6 #[.int .i64 n, .int .i64 k, .string t] w fun e w' => e = .returned (.bool true) ∧ Below w.heap.size w w' := by
  have HN : Hid (_) := hn
  have HD : Hid (_) := hd
  have HV : Hid (_) := hv
  have HW : Hid (_) := hw
  clear hn hd hv hw
  go_enter Tryd.func6, Tryd.ntmps6
  go_wp2_with (first
    | (go_at_call 12; refine (dated_any (s 1) _ g.env).mono ?_; rintro e w1 ⟨rfl, hb⟩; have g1 := g.step hb; have k1 := hb; clear hb)
    | (go_at_call 24; refine (add_any _ _ _ _ _ (s 1) _ HV.out HN.out g1.env).mono ?_; rintro e w2 ⟨rfl, hb⟩; have g2 := g1.step hb; have k2 := below_then k1 hb; clear hb g1 k1)
    | (go_at_call 25; refine (addMonths_any _ _ _ _ _ _ HV.out HN.out).mono ?_; rintro e w' ⟨rfl, rfl⟩)
    | (go_at_call 23; refine (read_bad _ (s 1) _ HD.out HW.out g2.sents.c1).mono ?_; rintro e w3 ⟨rfl, hb⟩; have g3 := g2.step hb; have k3 := below_then k2 hb; clear hb g2 k2)
    | (go_at_call 26; refine (readDay_bad _ _ HD.out HW.out).mono ?_; rintro e w4 ⟨rfl, hb⟩; have g4 := g3.step hb; have k4 := below_then k3 hb; clear hb g3 k3)
    | (go_at_call 10; refine (coded_bound s _ g4).mono ?_; rintro e w5 ⟨rfl, hb⟩; have k5 := below_then k4 hb))
  go_ret
  exact ⟨rfl, k5⟩

end Go.Proofs.YtfnajhpcbajhfaaDoor
