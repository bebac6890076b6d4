/- Proved: the law DayAdds returns true for every number, every count of months and every text, and each argument reads afterwards as it read before; the listed package-level variables hold what the program's own text lays in them (the card's tie). -/
import Derived.Test.YtfnajhpcbajhfaaDoorCards
import Derived.Test.YtfnajhpcbajhfaaDoorTie
import Derived.Test.YtfnajhpcbajhfaaDoorFullOf
import Derived.Test.YtfnajhpcbajhfaaDoorLawAdds
namespace Go.Proofs.YtfnajhpcbajhfaaDoor
open Go.ChangeShapes Go.WideShapes Go.ChangeAt Go.RowKit Cal
open Go.ChangeMaps (open_string shut_string)

theorem adds_all (n k : Int) (t : ByteArray) (w : World) (h : laidMetH Tryd.prog Rows.dayAddsRow.laid w) :
    Calls Tryd.prog 6 #[.int .i64 n, .int .i64 k, .string t] w fun e w' => e = .returned (.bool true) ∧ Below w.heap.size w w' := by
  obtain ⟨s, g⟩ := full_of h
  by_cases hl : 20 < (t.size : Int)
  · exact adds_long s n k t w g hl
  · have hl' : (t.size : Int) ≤ 20 := by omega
    by_cases hn : n < 0 ∨ 73048 < n
    · by_cases hd : isDT t
      · by_cases hw : vld (yS t) (mS t) (dS t)
        · exact adds_noDay_ok s n k t w g hl' hn hd hw
        · exact adds_noDay_bad s n k t w g hl' hn hd hw
      · exact adds_noDay_no s n k t w g hl' hn hd
    · obtain ⟨y, m, d, hv, hm⟩ := exists_date n (by omega) (by omega)
      by_cases hd : isDT t
      · by_cases hw : vld (yS t) (mS t) (dS t)
        · exact adds_day_ok s n k y m d t w g hl' hv hm hd hw
        · exact adds_day_bad s n k y m d t w g hl' hv hm hd hw
      · exact adds_day_no s n k y m d t w g hl' hv hm hd

theorem adds_door (os : Os) (args : Array Value) : laidMetH Tryd.prog Rows.dayAddsRow.laid ((World.doorLaid Tryd.prog 240 os).forCall (fun _ _ => 0) ⟨#[], args, []⟩).memory :=
  laidMetH_of_parts3 (fuel := 8) (laidMet_of_run' 8 (by kernel_rfl) (by kernel_rfl)) (by kernel_rfl) (by kernel_rfl)

set_option maxRecDepth 100000 in
theorem adds_lifted (os : Os) (started : os.Started) (H : Type) (enc : TypeId × Value → H) :
    ReturnsInHanded {} Tryd.checked os 6 .any (fun w args => (Rows.dayAddsSpec.pre enc Tryd.prog Tryd.f6 [] false w args ∧ laidMetH Tryd.prog Rows.dayAddsRow.laid w) ∧ sizedMet enc Tryd.prog Tryd.f6 (OpenSpec.ofChange Rows.dayAddsSpec) false w args)
      (Rows.dayAddsSpec.post enc Tryd.prog Tryd.f6 false true false false) := by
  refine returnsInHanded_of_change_and (C := Tryd.checked) (X := fun w _ => laidMetH Tryd.prog Rows.dayAddsRow.laid w) (fun _ _ _ hh h => h.of_heap hh) own started (by kernel_rfl) Tryd.func6
    (ChangeSpec.witness_shaped (enc := enc) (C := Tryd.checked) (os := os) (X := fun w _ => laidMetH Tryd.prog Rows.dayAddsRow.laid w) false (World.doorLaid Tryd.prog 240 os) #[.int .i64 0, .int .i64 0, .string ⟨#[]⟩] 8 rfl (World.shaped_of_RefB (by kernel_rfl) (by kernel_rfl)) (by kernel_rfl) (by kernel_rfl) (by kernel_rfl) (adds_door os _)) ?_
  intro W base args ds gs before hval0 hW _ _ hL _
  have hval : ∀ (j : Nat) t v, Tryd.f6.params[j]? = some t → args[j]? = some v → Value.okWide Tryd.prog W .any base t v := hval0
  have hW' := hW
  obtain ⟨p, q, hA0, hV, rfl, hfz, hnd⟩ := hW
  have hA : DataW.TrodAll enc Tryd.prog W 0 (fun _ => true) true Tryd.f6.params.toList args.toList ds p := hA0
  rw [Tryd.params6] at hA hval
  obtain ⟨v0, v1, v2, d0, d1, d2, p0, p1, p2, rfl, rfl, rfl, h0, h1, h2⟩ := trodAll_three hA
  obtain ⟨rfl, rfl⟩ := trodVars_none hV
  obtain ⟨n, rfl, rfl, rfl, wn⟩ := open_int Tryd.underlying3 (hval 0 3 v0 rfl rfl) h0
  obtain ⟨k, rfl, rfl, rfl, wk⟩ := open_int Tryd.underlying3 (hval 1 3 v1 rfl rfl) h1
  obtain ⟨t, rfl, rfl, rfl, ht⟩ := open_string Tryd.underlying9 (hval 2 9 v2 rfl rfl) h2
  clear hA0 hval0
  simp only [List.append_nil] at hW'
  refine (adds_all n k t W hL).mono fun e W' ⟨he, hb⟩ => ?_
  subst he
  refine ⟨_, rfl, _, _, _, [], [], [], hW', ?_, ?_, ?_, hb.frame _, fun h => by cases h⟩
  · exact trodAll_mk1 (shut_bool Tryd.underlying4 true)
  · exact trodAll_mk3 (shut_int Tryd.underlying3 wn) (shut_int Tryd.underlying3 wk) (shut_string Tryd.underlying9 ht)
  · rfl

theorem adds_said : Rows.DayAddsSaid :=
  OpenClaim.holds_of_wide 6 Tryd.f6 rfl rfl rfl rfl rfl rfl rfl ⟨rfl, rfl, rfl, rfl, rfl⟩ rfl rfl rfl rfl rfl (by kernel_rfl) Tryd.func6 (by kernel_rfl)
    (of_decide_eq_true (by kernel_rfl)) (by unfold Func.isWrapper; rw [if_neg (of_decide_eq_false (by kernel_rfl))]; exact ⟨rfl, rfl⟩)
    (fun os started H enc _ => adds_lifted os started H enc)

/-- no parameter wants a stand-in -/
theorem adds_plain (f : FuncId) (fn : Func) (hf : Tryd.pinned.checked.prog.funcNamed "lammastide/lammastidelaw1.DayAdds" = some f) (hfn : Tryd.pinned.checked.prog.funcs[f]? = some fn) :
    true = Tryd.pinned.checked.prog.looks [] ∧ ∀ (j : Nat) t, fn.params[j]? = some t → Tryd.pinned.checked.prog.wantsStandIn t = false := by
  obtain rfl : f = 6 := Option.some.inj ((show Tryd.prog.funcNamed "lammastide/lammastidelaw1.DayAdds" = some 6 by kernel_rfl).symm.trans hf) |>.symm
  obtain rfl : fn = Tryd.f6 := (Option.some.inj (Tryd.func6.symm.trans hfn)).symm
  refine ⟨by kernel_rfl, fun j t ht => ?_⟩
  rw [Tryd.params6] at ht
  have hm := Array.mem_of_getElem? ht
  have ht2 : t = 3 ∨ t = 9 := by simpa using hm
  rcases ht2 with rfl | rfl
  · exact (show Tryd.prog.wantsStandIn 3 = false by kernel_rfl)
  · exact (show Tryd.prog.wantsStandIn 9 = false by kernel_rfl)

/-- The law's card. -/
theorem dayAdds_card : Rows.DayAddsCardSaid :=
  Claim7.holds_tied_plain_at .later [] _ _ _ _ adds_said (fun _ h => by cases h) (by kernel_rfl) (fun _ h => by cases h) dayAdds_row_tie rfl ⟨rfl, rfl⟩ (by kernel_rfl) rfl adds_plain (by kernel_rfl)
end Go.Proofs.YtfnajhpcbajhfaaDoor
