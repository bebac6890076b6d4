/- Proved: the law EventBack returns true for any two events, and the two arguments read afterwards as they read before; the listed package-level variables hold what the program's own text lays in them (the card's tie). -/
import Derived.Test.YtjhlbkjcchejjaaGreatDoorCards
import Derived.Test.YtjhlbkjcchejjaaGreatDoorTie
import Derived.Test.YtjhlbkjcchejjaaGreatDoorYaK
import Derived.Test.YtjhlbkjcchejjaaGreatDoorLawEBackW
import Derived.Lay
import Derived.WideKeyArgs
namespace Go.Proofs.YtjhlbkjcchejjaaGreatDoor
open Go.ChangeShapes Go.WideShapes Go.ChangeAt Go.RowKit Cal

theorem eback_plainly : laidMetH Tryz.prog Rows.eventBackRow.laid = laidMet Tryz.prog Rows.eventBackRow.laid := by
  funext W
  exact MakeChecks.laidMetH_plain _ _ _ (by kernel_rfl)

theorem eback_glob {W : World} (h : laidMetH Tryz.prog Rows.eventBackRow.laid W) : GlobR W ∧ ∃ s, GlobK s W := by
  rw [eback_plainly] at h
  have h0 : laidMet Tryz.prog Rows.eventBackRow.laid W := h
  have ht : Tab W := table h0.tail.tail
  have h4 := h0.tail.tail.tail.tail
  obtain ⟨a0, c0⟩ := sentinel h4 gText tText
  obtain ⟨a1, c1⟩ := sentinel h4.tail gBound tBound
  obtain ⟨a2, c2⟩ := sentinel h4.tail.tail gShape tShape
  obtain ⟨a3, c3⟩ := sentinel h4.tail.tail.tail gName tName
  obtain ⟨a5, c5⟩ := sentinel h4.tail.tail.tail.tail gExist tExist
  obtain ⟨a6, c6⟩ := sentinel h4.tail.tail.tail.tail.tail gFull tFull
  obtain ⟨a7, c7⟩ := sentinel h4.tail.tail.tail.tail.tail.tail gOrder tOrder
  exact ⟨⟨⟨a3, c3⟩, ⟨a1, c1⟩, ⟨a2, c2⟩, ⟨a7, c7⟩, ⟨a0, c0⟩, names_of h4.tail.tail.tail.tail.tail.tail.tail.tail.tail, ht⟩, seven a0 a1 a2 a3 a5 a6 a7, c0, c1, c2, c3, c5, c6, c7⟩

set_option maxRecDepth 100000 in
theorem eback_lifted (os : Os) (started : os.Started) (H : Type) (enc : TypeId × Value → H) :
    ReturnsInHanded {} Tryz.checked os 3 .any (fun w args => (Rows.eventBackSpec.pre enc Tryz.prog Tryz.f3 [] false w args ∧ laidMetH Tryz.prog Rows.eventBackRow.laid w) ∧ sizedMet enc Tryz.prog Tryz.f3 (OpenSpec.ofChange Rows.eventBackSpec) false w args)
      (Rows.eventBackSpec.post enc Tryz.prog Tryz.f3 false true false false) := by
  refine returnsInHanded_of_change_and (C := Tryz.checked) (X := fun w _ => laidMetH Tryz.prog Rows.eventBackRow.laid w) (fun _ _ _ hh h => h.of_heap hh) own started (by kernel_rfl) Tryz.func3
    (ChangeSpec.witness_shaped (enc := enc) (C := Tryz.checked) (os := os) (X := fun w _ => laidMetH Tryz.prog Rows.eventBackRow.laid w) false (World.laidAll Tryz.prog os Rows.eventBackRow.laid)
      #[.agg #[.string ⟨#[]⟩, .string ⟨#[]⟩, .int .i64 0, .int .i64 0, .string ⟨#[]⟩, .int .i64 0, .slice none 0 0, .int .i64 0, .int .i64 0, .slice none 0 0, .slice none 0 0], .agg #[.string ⟨#[]⟩, .string ⟨#[]⟩, .int .i64 0, .int .i64 0, .string ⟨#[]⟩, .int .i64 0, .slice none 0 0, .int .i64 0, .int .i64 0, .slice none 0 0, .slice none 0 0]] 8 (World.laidAll_os _ _ _)
      (World.shaped_of_ZipB (by kernel_rfl) (by kernel_rfl)) (by kernel_rfl) (by kernel_rfl) (by kernel_rfl)
      (by rw [MakeChecks.laidMetH_plain _ _ _ (by kernel_rfl)]; exact laidMet_laidAll _ (by kernel_rfl) (by kernel_rfl))) ?_
  intro W base args ds gs before hval0 hW _ _ hL _
  have hval : ∀ (j : Nat) t v, Tryz.f3.params[j]? = some t → args[j]? = some v → Value.okWide Tryz.prog W .any base t v := hval0
  have hW' := hW
  obtain ⟨p, q, hA0, hV, rfl, hfz, hnd⟩ := hW
  have hA : DataW.TrodAll enc Tryz.prog W 0 (fun _ => true) true Tryz.f3.params.toList args.toList ds p := hA0
  rw [Tryz.params3] at hA hval
  obtain ⟨v0, v1, d0, d1, p0, p1, rfl, rfl, rfl, h0, h1⟩ := trodAll_two hA
  obtain ⟨rfl, rfl⟩ := trodVars_none hV
  have k0 := h0
  have k1 := h1
  obtain ⟨E, sl, skv, mvv, rfl, D, S, M⟩ := open_event (hval 0 27 v0 rfl rfl) h0
  obtain ⟨E', sl', skv', mvv', rfl, D', S', M'⟩ := open_event (hval 1 27 v1 rfl rfl) h1
  clear hA0 hval0
  have hlt0 : ∀ x ∈ p0, x.block < W.heap.size := fun x hx => hW'.lt x (List.mem_append_left _ (List.mem_append_left _ hx))
  have hlt1 : ∀ x ∈ p1, x.block < W.heap.size := fun x hx => hW'.lt x (List.mem_append_left _ (List.mem_append_right _ hx))
  simp only [List.append_nil] at hW'
  obtain ⟨hr, s, hg⟩ := eback_glob hL
  refine (eback_all E E' sl skv mvv sl' skv' mvv' s W hg hr D S M D' S' M').mono fun r W' ⟨he, hb⟩ => ?_
  subst he
  refine ⟨_, rfl, _, _, _, [], p0 ++ p1, [], hW', ?_, ?_, ?_, hb.frame _, fun h => by cases h⟩
  · exact trodAll_mk1 (shut_bool Tryz.underlying4 true)
  · exact trodAll_mk2 (WideElems.Trod_stays (P := Tryz.prog) (show laidOutB Tryz.prog = true by kernel_rfl) (by kernel_rfl) (of_decide_eq_true (by kernel_rfl)) k0 (fun x hx => hb.same (hlt0 x hx)) (fun x hx => by simpa using hlt0 x hx))
      (WideElems.Trod_stays (P := Tryz.prog) (show laidOutB Tryz.prog = true by kernel_rfl) (by kernel_rfl) (of_decide_eq_true (by kernel_rfl)) k1 (fun x hx => hb.same (hlt1 x hx)) (fun x hx => by simpa using hlt1 x hx))
  · rfl

theorem eback_said : Rows.EventBackSaid :=
  OpenClaim.holds_of_wide 3 Tryz.f3 rfl rfl rfl rfl rfl rfl rfl ⟨rfl, rfl, rfl, rfl, rfl⟩ rfl rfl rfl rfl rfl (by kernel_rfl) Tryz.func3 (by kernel_rfl)
    (of_decide_eq_true (by kernel_rfl)) (by unfold Func.isWrapper; rw [if_neg (of_decide_eq_false (by kernel_rfl))]; exact ⟨rfl, rfl⟩)
    (fun os started H enc _ => eback_lifted os started H enc)

/-- no parameter wants a stand-in -/
theorem eback_plain (f : FuncId) (fn : Func) (hf : Tryz.pinned.checked.prog.funcNamed "lammastide/lammastidelaw1.EventBack" = some f) (hfn : Tryz.pinned.checked.prog.funcs[f]? = some fn) :
    true = Tryz.pinned.checked.prog.looks [] ∧ ∀ (j : Nat) t, fn.params[j]? = some t → Tryz.pinned.checked.prog.wantsStandIn t = false := by
  obtain rfl : f = 3 := Option.some.inj ((show Tryz.prog.funcNamed "lammastide/lammastidelaw1.EventBack" = some 3 by kernel_rfl).symm.trans hf) |>.symm
  obtain rfl : fn = Tryz.f3 := (Option.some.inj (Tryz.func3.symm.trans hfn)).symm
  refine ⟨by kernel_rfl, fun j t ht => ?_⟩
  rw [Tryz.params3] at ht
  have hm := Array.mem_of_getElem? ht
  obtain rfl : t = 27 := by simpa using hm
  exact (show Tryz.prog.wantsStandIn 27 = false by kernel_rfl)

/-- The law's card. -/
theorem eventBack_card : Rows.EventBackCardSaid :=
  Claim7.holds_tied_plain_at .later [] _ _ _ _ eback_said (fun _ h => by cases h) (by kernel_rfl) (fun _ h => by cases h) eventBack_row_tie rfl ⟨rfl, rfl⟩ (by kernel_rfl) rfl eback_plain (by kernel_rfl)
end Go.Proofs.YtjhlbkjcchejjaaGreatDoor
