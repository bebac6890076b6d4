/- The walk of the law DayDates: for all numbers as a date and every number as a day it returns true, and memory that was there is as it was. -/
import Derived.Test.YtfnajhpcbajhfaaDoorRefText
import Derived.Test.YtfnajhpcbajhfaaDoorFull
namespace Go.Proofs.YtfnajhpcbajhfaaDoor
open Go.RowKit Cal

set_option maxHeartbeats 2000000 in
set_option maxRecDepth 100000 in
theorem dates_no_no (s : Nat → Addr) (y m d n : Int) (w : World) (g : Full s w) (hv : d < 1 ∨ dim y m < d) (hn : n < 0 ∨ 73048 < n) :
    Calls Tryd.prog 4 #[.int .i64 y, .int .i64 m, .int .i64 d, .int .i64 n] w fun e w' => e = .returned (.bool true) ∧ Below w.heap.size w w' := by
  have HV : Hid (_) := hv
  have HN : Hid (_) := hn
  clear hv hn
  go_enter Tryd.func4, Tryd.ntmps4
  go_wp2_with (first
    | (go_at_call 12; refine (dated_any (s 1) _ g.env).mono ?_; rintro e w1 ⟨rfl, hb⟩; have g1 := g.step hb; have k1 := hb; clear hb)
    | (go_at_call 13; refine (make_no _ _ _ (s 1) _ HV.out g1.sents.c1).mono ?_; rintro e w2 ⟨rfl, hb⟩; have g2 := g1.step hb; have k2 := below_then k1 hb; clear hb g1 k1)
    | (go_at_call 14; refine (makeDay_no _ _ _ _ HV.out).mono ?_; rintro e w' ⟨rfl, rfl⟩)
    | (go_at_call 10; refine (coded_bound s _ g2).mono ?_; rintro e w3 ⟨rfl, hb⟩; have g3 := g2.step hb; have k3 := below_then k2 hb; clear hb g2 k2)
    | (go_at_call 15; refine (months_any _ _ _).mono ?_; rintro e w' ⟨rfl, rfl⟩)
    | (go_at_call 16; refine (monthOf_any _ _ _).mono ?_; rintro e w' ⟨rfl, rfl⟩)
    | (go_at_call 17; refine (text_no _ (s 1) _ HN.out g3.sents.c1).mono ?_; rintro e w4 ⟨rfl, hb⟩; have g4 := g3.step hb; have k4 := below_then k3 hb; clear hb g3 k3)
    | (go_at_call 18; refine (dayText_no _ _ HN.out).mono ?_; rintro e w' ⟨rfl, rfl⟩)
    | (go_at_call 19; refine (date_no _ (s 1) _ HN.out g4.sents.c1).mono ?_; rintro e w5 ⟨rfl, hb⟩; have g5 := g4.step hb; have k5 := below_then k4 hb; clear hb g4 k4)
    | (go_at_call 20; refine (week_no _ (s 1) _ HN.out g5.sents.c1).mono ?_; rintro e w6 ⟨rfl, hb⟩; have g6 := g5.step hb; have k6 := below_then k5 hb; clear hb g5 k5)
    | (go_at_call 21; refine (isDayR_no _ _ HN.out).mono ?_; rintro e w' ⟨rfl, rfl⟩))
  go_at_call 10
  refine (coded_bound s _ g6).mono ?_
  rintro e w7 ⟨rfl, hb⟩
  have g7 := g6.step hb
  have k7 := below_then k6 hb
  clear hb g6 k6
  go_wp2_with fail
  go_at_call 10
  refine (coded_bound s _ g7).mono ?_
  rintro e w8 ⟨rfl, hb⟩
  have k8 := below_then k7 hb
  clear hb g7 k7
  go_wp2
  go_ret
  exact ⟨rfl, k8⟩

set_option maxHeartbeats 2000000 in
set_option maxRecDepth 100000 in
theorem dates_no_ok (s : Nat → Addr) (y m d n : Int) (Y M D : Int) (w : World) (g : Full s w) (hv : d < 1 ∨ dim y m < d) (hn : vld Y M D) (hd : num Y M D = n) :
    Calls Tryd.prog 4 #[.int .i64 y, .int .i64 m, .int .i64 d, .int .i64 n] w fun e w' => e = .returned (.bool true) ∧ Below w.heap.size w w' := by
  have HV : Hid (_) := hv
  have HN : Hid (_) := hn
  have hnb := num_bd hn
  rw [hd] at hnb
  obtain ⟨hn0, hn1⟩ := hnb
  have HD : Hid (_) := hd
  clear hd
  clear hv hn
  go_enter Tryd.func4, Tryd.ntmps4
  go_wp2_with (first
    | (go_at_call 12; refine (dated_any (s 1) _ g.env).mono ?_; rintro e w1 ⟨rfl, hb⟩; have g1 := g.step hb; have k1 := hb; clear hb)
    | (go_at_call 13; refine (make_no _ _ _ (s 1) _ HV.out g1.sents.c1).mono ?_; rintro e w2 ⟨rfl, hb⟩; have g2 := g1.step hb; have k2 := below_then k1 hb; clear hb g1 k1)
    | (go_at_call 14; refine (makeDay_no _ _ _ _ HV.out).mono ?_; rintro e w' ⟨rfl, rfl⟩)
    | (go_at_call 10; refine (coded_bound s _ g2).mono ?_; rintro e w3 ⟨rfl, hb⟩; have g3 := g2.step hb; have k3 := below_then k2 hb; clear hb g2 k2)
    | (go_at_call 15; refine (months_any _ _ _).mono ?_; rintro e w' ⟨rfl, rfl⟩)
    | (go_at_call 16; refine (monthOf_any _ _ _).mono ?_; rintro e w' ⟨rfl, rfl⟩)
    | (go_at_call 17; refine (text_ok _ _ _ _ _ HN.out HD.out g3.tab).mono ?_; rintro e w4 ⟨rfl, hb⟩; have g4 := g3.step hb; have k4 := below_then k3 hb; clear hb g3 k3)
    | (go_at_call 18; refine (dayText_ok _ _ _ _ _ HN.out HD.out).mono ?_; rintro e w5 ⟨rfl, hb⟩; have g5 := g4.step hb; have k5 := below_then k4 hb; clear hb g4 k4)
    | (go_at_call 19; refine (date_ok _ _ _ _ _ HN.out HD.out).mono ?_; rintro e w' ⟨rfl, rfl⟩)
    | (go_at_call 20; refine (week_ok _ _ hn0 hn1).mono ?_; rintro e w' ⟨rfl, rfl⟩)
    | (go_at_call 21; refine (isDayR_yes _ _ hn0 hn1).mono ?_; rintro e w' ⟨rfl, rfl⟩)
    | (go_at_call 22; refine (dateOf_ok _ _ _ _ _ HN.out HD.out).mono ?_; rintro e w' ⟨rfl, rfl⟩))
  go_ret
  exact ⟨rfl, k5⟩

set_option maxHeartbeats 2000000 in
set_option maxRecDepth 100000 in
theorem dates_ok_no (s : Nat → Addr) (y m d n : Int) (w : World) (g : Full s w) (hv : vld y m d) (hn : n < 0 ∨ 73048 < n) :
    Calls Tryd.prog 4 #[.int .i64 y, .int .i64 m, .int .i64 d, .int .i64 n] w fun e w' => e = .returned (.bool true) ∧ Below w.heap.size w w' := by
  have HV : Hid (_) := hv
  have HN : Hid (_) := hn
  clear hv hn
  go_enter Tryd.func4, Tryd.ntmps4
  go_wp2_with (first
    | (go_at_call 12; refine (dated_any (s 1) _ g.env).mono ?_; rintro e w1 ⟨rfl, hb⟩; have g1 := g.step hb; have k1 := hb; clear hb)
    | (go_at_call 13; refine (make_ok _ _ _ _ HV.out).mono ?_; rintro e w' ⟨rfl, rfl⟩)
    | (go_at_call 14; refine (makeDay_ok _ _ _ _ HV.out).mono ?_; rintro e w' ⟨rfl, rfl⟩)
    | (go_at_call_of 10 (Value.nilIface); refine (coded_none _).mono ?_; rintro e w3 ⟨rfl, rfl⟩; have g3 := g1; have k3 := k1; clear g1 k1)
    | (go_at_call 15; refine (months_any _ _ _).mono ?_; rintro e w' ⟨rfl, rfl⟩)
    | (go_at_call 16; refine (monthOf_any _ _ _).mono ?_; rintro e w' ⟨rfl, rfl⟩)
    | (go_at_call 17; refine (text_no _ (s 1) _ HN.out g3.sents.c1).mono ?_; rintro e w4 ⟨rfl, hb⟩; have g4 := g3.step hb; have k4 := below_then k3 hb; clear hb g3 k3)
    | (go_at_call 18; refine (dayText_no _ _ HN.out).mono ?_; rintro e w' ⟨rfl, rfl⟩)
    | (go_at_call 19; refine (date_no _ (s 1) _ HN.out g4.sents.c1).mono ?_; rintro e w5 ⟨rfl, hb⟩; have g5 := g4.step hb; have k5 := below_then k4 hb; clear hb g4 k4)
    | (go_at_call 20; refine (week_no _ (s 1) _ HN.out g5.sents.c1).mono ?_; rintro e w6 ⟨rfl, hb⟩; have g6 := g5.step hb; have k6 := below_then k5 hb; clear hb g5 k5)
    | (go_at_call 21; refine (isDayR_no _ _ HN.out).mono ?_; rintro e w' ⟨rfl, rfl⟩))
  go_at_call 10
  refine (coded_bound s _ g6).mono ?_
  rintro e w7 ⟨rfl, hb⟩
  have g7 := g6.step hb
  have k7 := below_then k6 hb
  clear hb g6 k6
  go_wp2_with fail
  go_at_call 10
  refine (coded_bound s _ g7).mono ?_
  rintro e w8 ⟨rfl, hb⟩
  have k8 := below_then k7 hb
  clear hb g7 k7
  go_wp2
  go_ret
  exact ⟨rfl, k8⟩

set_option maxHeartbeats 2000000 in
set_option maxRecDepth 100000 in
theorem dates_ok_ok (s : Nat → Addr) (y m d n : Int) (Y M D : Int) (w : World) (g : Full s w) (hv : vld y m d) (hn : vld Y M D) (hd : num Y M D = n) :
    Calls Tryd.prog 4 #[.int .i64 y, .int .i64 m, .int .i64 d, .int .i64 n] w fun e w' => e = .returned (.bool true) ∧ Below w.heap.size w w' := by
  have HV : Hid (_) := hv
  have HN : Hid (_) := hn
  have hnb := num_bd hn
  rw [hd] at hnb
  obtain ⟨hn0, hn1⟩ := hnb
  have HD : Hid (_) := hd
  clear hd
  clear hv hn
  go_enter Tryd.func4, Tryd.ntmps4
  go_wp2_with (first
    | (go_at_call 12; refine (dated_any (s 1) _ g.env).mono ?_; rintro e w1 ⟨rfl, hb⟩; have g1 := g.step hb; have k1 := hb; clear hb)
    | (go_at_call 13; refine (make_ok _ _ _ _ HV.out).mono ?_; rintro e w' ⟨rfl, rfl⟩)
    | (go_at_call 14; refine (makeDay_ok _ _ _ _ HV.out).mono ?_; rintro e w' ⟨rfl, rfl⟩)
    | (go_at_call_of 10 (Value.nilIface); refine (coded_none _).mono ?_; rintro e w3 ⟨rfl, rfl⟩; have g3 := g1; have k3 := k1; clear g1 k1)
    | (go_at_call 15; refine (months_any _ _ _).mono ?_; rintro e w' ⟨rfl, rfl⟩)
    | (go_at_call 16; refine (monthOf_any _ _ _).mono ?_; rintro e w' ⟨rfl, rfl⟩)
    | (go_at_call 17; refine (text_ok _ _ _ _ _ HN.out HD.out g3.tab).mono ?_; rintro e w4 ⟨rfl, hb⟩; have g4 := g3.step hb; have k4 := below_then k3 hb; clear hb g3 k3)
    | (go_at_call 18; refine (dayText_ok _ _ _ _ _ HN.out HD.out).mono ?_; rintro e w5 ⟨rfl, hb⟩; have g5 := g4.step hb; have k5 := below_then k4 hb; clear hb g4 k4)
    | (go_at_call 19; refine (date_ok _ _ _ _ _ HN.out HD.out).mono ?_; rintro e w' ⟨rfl, rfl⟩)
    | (go_at_call 20; refine (week_ok _ _ hn0 hn1).mono ?_; rintro e w' ⟨rfl, rfl⟩)
    | (go_at_call 21; refine (isDayR_yes _ _ hn0 hn1).mono ?_; rintro e w' ⟨rfl, rfl⟩)
    | (go_at_call 22; refine (dateOf_ok _ _ _ _ _ HN.out HD.out).mono ?_; rintro e w' ⟨rfl, rfl⟩))
  go_ret
  exact ⟨rfl, k5⟩
end Go.Proofs.YtfnajhpcbajhfaaDoor
