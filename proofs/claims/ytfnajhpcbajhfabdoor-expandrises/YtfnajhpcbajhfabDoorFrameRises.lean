/- Proved: the law ExpandRises returns true for every start, rule and number, and each argument reads afterwards as it read before; the listed package-level variables hold what the program's own text lays in them (the card's tie). -/
import Derived.Test.YtfnajhpcbajhfabDoorCards
import Derived.Test.YtfnajhpcbajhfabDoorTie
import Derived.Test.YtfnajhpcbajhfabDoorFrameE
import Derived.Test.YtfnajhpcbajhfabDoorLawRises
namespace Go.Proofs.YtfnajhpcbajhfabDoor
open Go.ChangeShapes Go.WideShapes Go.ChangeAt Go.RowKit Cal

theorem risesl_plainly : laidMetH Tryd.prog Rows.expandRisesRow.laid = laidMet Tryd.prog Rows.expandRisesRow.laid := by
  funext W
  exact MakeChecks.laidMetH_plain _ _ _ (by kernel_rfl)

theorem risesl_glob {W : World} (h : laidMetH Tryd.prog Rows.expandRisesRow.laid W) : Glob W := by
  rw [risesl_plainly] at h
  have h0 : laidMet Tryd.prog Rows.expandRisesRow.laid W := h
  exact ⟨sentinel h0.tail.tail gName tName, sentinel h0 gBound tBound, sentinel h0.tail gShape tShape, sentinel h0.tail.tail.tail gOrder tOrder⟩

theorem risesl_door (os : Os) (args : Array Value) : laidMetH Tryd.prog Rows.expandRisesRow.laid ((World.doorLaid Tryd.prog 225 os).forCall (fun _ _ => 0) ⟨#[], args, []⟩).memory :=
  laidMetH_of_parts3 (fuel := 8) (laidMet_of_run' 8 (by kernel_rfl) (by kernel_rfl)) (by kernel_rfl) (by kernel_rfl)

set_option maxRecDepth 100000 in
theorem risesl_lifted (os : Os) (started : os.Started) (H : Type) (enc : TypeId × Value → H) :
    ReturnsInHanded {} Tryd.checked os 4 .any (fun w args => (Rows.expandRisesSpec.pre enc Tryd.prog Tryd.f4 [] false w args ∧ laidMetH Tryd.prog Rows.expandRisesRow.laid w) ∧ sizedMet enc Tryd.prog Tryd.f4 (OpenSpec.ofChange Rows.expandRisesSpec) false w args)
      (Rows.expandRisesSpec.post enc Tryd.prog Tryd.f4 false true false false) := by
  refine returnsInHanded_of_change_and (C := Tryd.checked) (X := fun w _ => laidMetH Tryd.prog Rows.expandRisesRow.laid w) (fun _ _ _ hh h => h.of_heap hh) own started (by kernel_rfl) Tryd.func4
    (ChangeSpec.witness_shaped (enc := enc) (C := Tryd.checked) (os := os) (X := fun w _ => laidMetH Tryd.prog Rows.expandRisesRow.laid w) false (World.doorLaid Tryd.prog 225 os)
      #[.int .i64 0, .agg #[.string ⟨#[]⟩, .int .i64 0, .slice none 0 0, .int .i64 0, .int .i64 0], .int .i64 0] 8 rfl (World.shaped_of_RefB (by kernel_rfl) (by kernel_rfl)) (by kernel_rfl) (by kernel_rfl) (by kernel_rfl) (risesl_door os _)) ?_
  intro W base args ds gs before hval0 hW _ _ hL _
  have hval : ∀ (j : Nat) t v, Tryd.f4.params[j]? = some t → args[j]? = some v → Value.okWide Tryd.prog W .any base t v := hval0
  have hW' := hW
  obtain ⟨p, q, hA0, hV, rfl, hfz, hnd⟩ := hW
  have hA : DataW.TrodAll enc Tryd.prog W 0 (fun _ => true) true Tryd.f4.params.toList args.toList ds p := hA0
  rw [Tryd.params4] at hA hval
  obtain ⟨v0, v1, v2, d0, d1, d2, p0, p1, p2, rfl, rfl, rfl, h0, h1, h2⟩ := trodAll_three hA
  obtain ⟨rfl, rfl⟩ := trodVars_none hV
  have k1 := h1
  obtain ⟨s, rfl, rfl, rfl, ws⟩ := open_int Tryd.underlying3 (hval 0 3 v0 rfl rfl) h0
  obtain ⟨f, e, sl, c, u, zs, rfl, D⟩ := open_rule (hval 1 24 v1 rfl rfl) h1
  obtain ⟨n, rfl, rfl, rfl, wn⟩ := open_int Tryd.underlying3 (hval 2 3 v2 rfl rfl) h2
  clear hA0 hval0
  simp only [List.append_nil, List.nil_append] at hW'
  have hlt1 : ∀ x ∈ p1, x.block < W.heap.size := fun x hx => hW'.lt x hx
  refine (rises_all f e sl c u zs s n W (risesl_glob hL) D).mono fun r W' ⟨he, hb⟩ => ?_
  subst he
  refine ⟨_, rfl, _, _, _, [], p1, [], hW', ?_, ?_, ?_, hb.frame _, fun h => by cases h⟩
  · exact trodAll_mk1 (shut_bool Tryd.underlying4 true)
  · rw [show p1 = [] ++ (p1 ++ []) by simp]
    exact trodAll_mk3 (shut_int Tryd.underlying3 ws) (WideElems.Trod_stays (P := Tryd.prog) (show laidOutB Tryd.prog = true by kernel_rfl) (by kernel_rfl) (of_decide_eq_true (by kernel_rfl)) k1 (fun x hx => hb.same (hlt1 x hx)) (fun x hx => by simpa using hlt1 x hx)) (shut_int Tryd.underlying3 wn)
  · rfl

theorem risesl_said : Rows.ExpandRisesSaid :=
  OpenClaim.holds_of_wide 4 Tryd.f4 rfl rfl rfl rfl rfl rfl rfl ⟨rfl, rfl, rfl, rfl, rfl⟩ rfl rfl rfl rfl rfl (by kernel_rfl) Tryd.func4 (by kernel_rfl)
    (of_decide_eq_true (by kernel_rfl)) (by unfold Func.isWrapper; rw [if_neg (of_decide_eq_false (by kernel_rfl))]; exact ⟨rfl, rfl⟩)
    (fun os started H enc _ => risesl_lifted os started H enc)

/-- no parameter wants a stand-in -/
theorem risesl_plain (f : FuncId) (fn : Func) (hf : Tryd.pinned.checked.prog.funcNamed "lammastide/lammastidelaw1.ExpandRises" = some f) (hfn : Tryd.pinned.checked.prog.funcs[f]? = some fn) :
    true = Tryd.pinned.checked.prog.looks [] ∧ ∀ (j : Nat) t, fn.params[j]? = some t → Tryd.pinned.checked.prog.wantsStandIn t = false := by
  obtain rfl : f = 4 := Option.some.inj ((show Tryd.prog.funcNamed "lammastide/lammastidelaw1.ExpandRises" = some 4 by kernel_rfl).symm.trans hf) |>.symm
  obtain rfl : fn = Tryd.f4 := (Option.some.inj (Tryd.func4.symm.trans hfn)).symm
  refine ⟨by kernel_rfl, fun j t ht => ?_⟩
  rw [Tryd.params4] at ht
  have hm := Array.mem_of_getElem? ht
  have hm' : t = 3 ∨ t = 24 := by
    by_cases ha : t = 3
    · exact .inl ha
    · simp [ha] at hm
      exact .inr hm
  rcases hm' with rfl | rfl
  · exact (show Tryd.prog.wantsStandIn 3 = false by kernel_rfl)
  · exact (show Tryd.prog.wantsStandIn 24 = false by kernel_rfl)

/-- The law's card. -/
theorem expandRises_card : Rows.ExpandRisesCardSaid :=
  Claim7.holds_tied_plain_at .later [] _ _ _ _ risesl_said (fun _ h => by cases h) (by kernel_rfl) (fun _ h => by cases h) expandRises_row_tie rfl ⟨rfl, rfl⟩ (by kernel_rfl) rfl risesl_plain (by kernel_rfl)
end Go.Proofs.YtfnajhpcbajhfabDoor
