/- Proved: the law BookActs returns true for every list of acts, day and identifier, and each argument reads afterwards as it read before; the listed package-level variables hold what the program's own text lays in them (the card's tie). -/
/- The closed facts of the law BookActs's row, one by one. -/
import Derived.Test.YtnpecjccajebiaaGreatDoorRows
import Derived.JoinedOf
import Derived.Test.YtnpecjccajebiaaGreatDoorCards
import Derived.Test.YtnpecjccajebiaaGreatDoorTie
import Derived.Test.YtnpecjccajebiaaGreatDoorYeAC
import Derived.Test.YtnpecjccajebiaaGreatDoorYbAC
import Derived.Test.YtnpecjccajebiaaGreatDoorSentsEW
import Derived.Test.YtnpecjccajebiaaGreatDoorLawBActsW
namespace Go.Proofs.YtnpecjccajebiaaGreatDoor

theorem bac_z1 : Rows.bookActsRow.wf (OpenSpec.ofChange Rows.bookActsSpec) = true := by kernel_rfl
theorem bac_z2 : laidOutB Tryz.prog = true := by kernel_rfl
theorem bac_z3 : mapsRowed Tryz.prog = true := by kernel_rfl
theorem bac_z4 : Tryz.f5.params.all (Tryz.prog.readableRec ·) = true := by kernel_rfl
theorem bac_z5 : namedTie Tryz.prog Rows.bookActsRow.named Rows.bookActsSpec.vars = true := by kernel_rfl
theorem bac_z6 : (Rows.bookActsRow.inPlace == Tryz.prog.inPlace 5) = true := by kernel_rfl
theorem bac_z7 : (Rows.bookActsRow.unfollowed == Tryz.prog.unfollowed 5) = true := by kernel_rfl
theorem bac_z8 : (Rows.bookActsRow.recurses == Tryz.prog.recurses 5) = true := by kernel_rfl
theorem bac_z9 : (Rows.bookActsRow.named == Tryz.prog.varsNamed 5) = true := by kernel_rfl
theorem bac_z10 : (Rows.bookActsRow.plainKeys == Tryz.prog.plainKeys) = true := by kernel_rfl
theorem bac_z11 : Tryz.prog.stopsHeard = true := by kernel_rfl
theorem bac_z12 : Tryz.prog.mayEnter = true := by kernel_rfl
theorem bac_z13 : (Rows.bookActsRow.lifted == Tryz.prog.liftsFinal) = true := by kernel_rfl
theorem bac_z14 : (Tryz.prog.make == some Rows.bookActsRow.make) = true := by kernel_rfl
theorem bac_closed : joinedFacts Tryz.prog 5 Tryz.f5 Rows.bookActsSpec Rows.bookActsRow = true := by
  unfold joinedFacts
  rw [bac_z1, bac_z2, bac_z3, bac_z4, bac_z5, bac_z6, bac_z7, bac_z8, bac_z9, bac_z10, bac_z11, bac_z12, bac_z13, bac_z14]
  kernel_rfl
end Go.Proofs.YtnpecjccajebiaaGreatDoor

namespace Go.Proofs.YtnpecjccajebiaaGreatDoor
open Go.ChangeShapes Go.WideShapes Go.ChangeAt Go.RowKit Cal
open Go.ChangeMaps (open_string shut_string)

/-- the row's list, but for the handle -/
def laid15 : List (String × DataW Unit) := [("math/bits.deBruijn32tab", Rows.laid_math_bits_deBruijn32tab), ("math/bits.deBruijn64tab", Rows.laid_math_bits_deBruijn64tab), ("internal/strconv.uint64pow10", Rows.laid_internal_strconv_uint64pow10), ("lammastide/api.ErrText", Rows.laid_lammastide_api_ErrText), ("lammastide/api.ErrBound", Rows.laid_lammastide_api_ErrBound), ("lammastide/api.ErrShape", Rows.laid_lammastide_api_ErrShape), ("lammastide/api.ErrName", Rows.laid_lammastide_api_ErrName), ("lammastide/api.ErrNone", Rows.laid_lammastide_api_ErrNone), ("lammastide/api.ErrExist", Rows.laid_lammastide_api_ErrExist), ("lammastide/api.ErrFull", Rows.laid_lammastide_api_ErrFull), ("lammastide/api.ErrOrder", Rows.laid_lammastide_api_ErrOrder), ("lammastide/api.ErrStale", Rows.laid_lammastide_api_ErrStale), ("lammastide/api.ErrClash", Rows.laid_lammastide_api_ErrClash), ("lammastide/api.ErrOff", Rows.laid_lammastide_api_ErrOff), ("lammastide/rule.dayNames", Rows.laid_lammastide_rule_dayNames)]
theorem laid15_11 : laid15.filter (fun x => laid11.any (fun y => y.1 == x.1)) = laid11 := by kernel_rfl
theorem bac_glob {W : World} (h : laidMetH Tryz.prog Rows.bookActsRow.laid W) : ∃ s, Sents s W ∧ GlobR W := by
  have h' : laidMet Tryz.prog laid15 W ∧ handlesMet Tryz.prog [("errors.errorType", Rows.laid_errors_errorType)] W := h
  have h0 := h'.1
  have h1 := h0.filter (fun x => laid11.any (fun y => y.1 == x.1))
  rw [laid15_11] at h1
  obtain ⟨s, g⟩ := sents_of_laid h1 (et_of_handles h'.2 (List.mem_singleton.2 rfl))
  have hn := names_of h0.tail.tail.tail.tail.tail.tail.tail.tail.tail.tail.tail.tail.tail.tail
  exact ⟨s, g, ⟨s 3, g.c3⟩, ⟨s 1, g.c1⟩, ⟨s 2, g.c2⟩, ⟨s 7, g.c7⟩, ⟨s 0, g.c0⟩, hn, table h0.tail.tail⟩

theorem bac_door (os : Os) (args : Array Value) : laidMetH Tryz.prog Rows.bookActsRow.laid ((World.doorLaid Tryz.prog 293 os).forCall (fun _ _ => 0) ⟨#[], args, []⟩).memory :=
  laidMetH_of_parts3 (fuel := 8) (laidMet_of_run' 8 (by kernel_rfl) (by kernel_rfl)) (by kernel_rfl) (by kernel_rfl)

set_option maxRecDepth 100000 in
theorem bac_lifted (os : Os) (started : os.Started) (H : Type) (enc : TypeId × Value → H) :
    ReturnsInHanded {} Tryz.checked os 5 .any (fun w args => (Rows.bookActsSpec.pre enc Tryz.prog Tryz.f5 [] false w args ∧ laidMetH Tryz.prog Rows.bookActsRow.laid w) ∧ sizedMet enc Tryz.prog Tryz.f5 (OpenSpec.ofChange Rows.bookActsSpec) false w args)
      (Rows.bookActsSpec.post enc Tryz.prog Tryz.f5 false true false false) := by
  refine returnsInHanded_of_change_and (C := Tryz.checked) (X := fun w _ => laidMetH Tryz.prog Rows.bookActsRow.laid w) (fun _ _ _ hh h => h.of_heap hh) own started (by kernel_rfl) Tryz.func5
    (ChangeSpec.witness_shaped (enc := enc) (C := Tryz.checked) (os := os) (X := fun w _ => laidMetH Tryz.prog Rows.bookActsRow.laid w) false (World.doorLaid Tryz.prog 293 os)
      #[.slice none 0 0, .int .i64 0, .string ⟨#[]⟩] 8 rfl (World.shaped_of_RefB (by kernel_rfl) (by kernel_rfl)) (by kernel_rfl) (by kernel_rfl) (by kernel_rfl) (bac_door os _)) ?_
  intro W base args ds gs before hval0 hW _ hZ hL _
  have hval : ∀ (j : Nat) t v, Tryz.f5.params[j]? = some t → args[j]? = some v → Value.okWide Tryz.prog W .any base t v := hval0
  have hZ' : (DataW.weightsEach Tryz.prog (Tryz.f5.params.toList ++ Rows.bookActsSpec.plain.varTypes Tryz.prog) (ds ++ gs)).all (· ≤ reachBytes) = true := hZ
  have hW' := hW
  obtain ⟨p, q, hA0, hV, rfl, hfz, hnd⟩ := hW
  have hA : DataW.TrodAll enc Tryz.prog W 0 (fun _ => true) true Tryz.f5.params.toList args.toList ds p := hA0
  rw [Tryz.params5] at hA hval hZ'
  obtain ⟨v0, v1, v2, d0, d1, d2, p0, p1, p2, rfl, rfl, rfl, h0, h1, h2⟩ := trodAll_three hA
  obtain ⟨rfl, rfl⟩ := trodVars_none hV
  have k0 := h0
  have hw0 : ∀ k ∈ d0.weights Tryz.prog 54, k ≤ reachBytes := fun k hk => by
    have := List.all_eq_true.1 hZ' k (DataW.weights_mem_each (j := 0) rfl rfl k hk)
    simpa using this
  obtain ⟨sa, sn, sc, rfl⟩ := okWide_slice Tryz.underlying54 (hval 0 54 v0 rfl rfl)
  obtain ⟨fuel0, hf0⟩ := h0
  obtain ⟨Ks, hKs⟩ := open_acts hf0 hw0
  obtain ⟨n, rfl, rfl, rfl, wn⟩ := open_int Tryz.underlying3 (hval 1 3 v1 rfl rfl) h1
  obtain ⟨x, rfl, rfl, rfl, wx⟩ := open_string Tryz.underlying9 (hval 2 9 v2 rfl rfl) h2
  clear hA0 hval0
  simp only [List.append_nil] at hW'
  have hlt0 : ∀ x ∈ p0, x.block < W.heap.size := fun x hx => hW'.lt x hx
  obtain ⟨s, hg, hr⟩ := bac_glob hL
  refine (bookActs_all Ks _ n x s W hg hr hKs).mono fun r W' ⟨he, hb⟩ => ?_
  subst he
  refine ⟨_, rfl, _, _, _, [], p0, [], hW', ?_, ?_, ?_, hb.frame _, fun h => by cases h⟩
  · exact trodAll_mk1 (shut_bool Tryz.underlying4 true)
  · rw [show p0 = p0 ++ ([] ++ []) by simp]
    exact trodAll_mk3 (WideElems.Trod_stays (P := Tryz.prog) (show laidOutB Tryz.prog = true by kernel_rfl) (by kernel_rfl) (of_decide_eq_true (by kernel_rfl)) k0 (fun x hx => hb.same (hlt0 x hx)) (fun x hx => by simpa using hlt0 x hx)) (shut_int Tryz.underlying3 wn) (shut_string Tryz.underlying9 wx)
  · rfl

theorem bac_said : Rows.BookActsSaid :=
  OpenClaim.holds_of_wide 5 Tryz.f5 rfl rfl rfl rfl rfl rfl rfl ⟨rfl, rfl, rfl, rfl, rfl⟩ rfl rfl rfl rfl rfl (by kernel_rfl) Tryz.func5 bac_closed
    (of_decide_eq_true (by kernel_rfl)) (by unfold Func.isWrapper; rw [if_neg (of_decide_eq_false (by kernel_rfl))]; exact ⟨rfl, rfl⟩)
    (fun os started H enc _ => bac_lifted os started H enc)

/-- no parameter wants a stand-in -/
theorem bac_plain (f : FuncId) (fn : Func) (hf : Tryz.pinned.checked.prog.funcNamed "lammastide/lammastidelaw2.BookActs" = some f) (hfn : Tryz.pinned.checked.prog.funcs[f]? = some fn) :
    true = Tryz.pinned.checked.prog.looks [] ∧ ∀ (j : Nat) t, fn.params[j]? = some t → Tryz.pinned.checked.prog.wantsStandIn t = false := by
  obtain rfl : f = 5 := Option.some.inj ((show Tryz.prog.funcNamed "lammastide/lammastidelaw2.BookActs" = some 5 by kernel_rfl).symm.trans hf) |>.symm
  obtain rfl : fn = Tryz.f5 := (Option.some.inj (Tryz.func5.symm.trans hfn)).symm
  refine ⟨by kernel_rfl, fun j t ht => ?_⟩
  rw [Tryz.params5] at ht
  have hm := Array.mem_of_getElem? ht
  simp only [List.mem_toArray, List.mem_cons, List.not_mem_nil, or_false] at hm
  rcases hm with rfl | rfl | rfl
  · exact (show Tryz.prog.wantsStandIn 54 = false by kernel_rfl)
  · exact (show Tryz.prog.wantsStandIn 3 = false by kernel_rfl)
  · exact (show Tryz.prog.wantsStandIn 9 = false by kernel_rfl)

/-- The law's card. -/
theorem bookActs_card : Rows.BookActsCardSaid :=
  Claim7.holds_tied_plain_at .later [] _ _ _ _ bac_said (fun _ h => by cases h) (by kernel_rfl) (fun _ h => by cases h) bookActs_row_tie rfl ⟨rfl, rfl⟩ (by kernel_rfl) rfl bac_plain (by kernel_rfl)
end Go.Proofs.YtnpecjccajebiaaGreatDoor
