/- Proved: the law PackJoins returns true for every three texts, and each argument reads afterwards as it read before; the listed package-level variables hold what the program's own text lays in them (the card's tie). -/
import Derived.Test.YtbocknocmggcpaaDoorCards
import Derived.Test.YtbocknocmggcpaaDoorTie
import Derived.Test.YtbocknocmggcpaaDoorFrame
import Derived.Test.YtbocknocmggcpaaDoorLawPJ
import Derived.Lay
import Derived.WideKeyArgs
namespace Go.Proofs.YtbocknocmggcpaaDoor
open Go.ChangeShapes Go.WideShapes Go.ChangeAt Go.RowKit Cal
open Go.ChangeMaps (open_string shut_string)

theorem jgSyn : Tryd.prog.globalNamed "strconv.ErrSyntax" = some 3 := by kernel_rfl
theorem jtSyn : (Tryd.prog.globals[3]?).map (·.type) = some 24 := by kernel_rfl
theorem jgRng : Tryd.prog.globalNamed "strconv.ErrRange" = some 4 := by kernel_rfl
theorem jtRng : (Tryd.prog.globals[4]?).map (·.type) = some 24 := by kernel_rfl

theorem pj_plainly : laidMetH Tryd.prog Rows.packJoinsRow.laid = laidMet Tryd.prog Rows.packJoinsRow.laid := by
  funext W
  exact MakeChecks.laidMetH_plain _ _ _ (by kernel_rfl)
theorem pj_glob {W : World} (h : laidMetH Tryd.prog Rows.packJoinsRow.laid W) : ∃ s, GlobA s W := by
  rw [pj_plainly] at h
  have h0 : laidMet Tryd.prog Rows.packJoinsRow.laid W := h
  have h3 := h0.tail.tail.tail
  obtain ⟨a0, c0⟩ := sentinel h3 gText tText
  obtain ⟨a1, c1⟩ := sentinel h3.tail gBound tBound
  obtain ⟨a2, c2⟩ := sentinel h3.tail.tail jgRng jtRng
  obtain ⟨a3, c3⟩ := sentinel h3.tail.tail.tail jgSyn jtSyn
  exact ⟨fun k => if k = 0 then a0 else a1, ⟨a2, c2⟩, ⟨a3, c3⟩, c0, c1⟩

set_option maxRecDepth 100000 in
theorem pj_lifted (os : Os) (started : os.Started) (H : Type) (enc : TypeId × Value → H) :
    ReturnsInHanded {} Tryd.checked os 3 .any (fun w args => (Rows.packJoinsSpec.pre enc Tryd.prog Tryd.f3 [] false w args ∧ laidMetH Tryd.prog Rows.packJoinsRow.laid w) ∧ sizedMet enc Tryd.prog Tryd.f3 (OpenSpec.ofChange Rows.packJoinsSpec) false w args)
      (Rows.packJoinsSpec.post enc Tryd.prog Tryd.f3 false true false false) := by
  refine returnsInHanded_of_change_and (C := Tryd.checked) (X := fun w _ => laidMetH Tryd.prog Rows.packJoinsRow.laid w) (fun _ _ _ hh h => h.of_heap hh) own started (by kernel_rfl) Tryd.func3
    (ChangeSpec.witness_shaped (enc := enc) (C := Tryd.checked) (os := os) (X := fun w _ => laidMetH Tryd.prog Rows.packJoinsRow.laid w) false (World.laidAll Tryd.prog os Rows.packJoinsRow.laid)
      #[.string ⟨#[]⟩, .string ⟨#[]⟩, .string ⟨#[]⟩] 8 (World.laidAll_os _ _ _)
      (World.shaped_of_ZipB (by kernel_rfl) (by kernel_rfl)) (by kernel_rfl) (by kernel_rfl) (by kernel_rfl)
      (by rw [MakeChecks.laidMetH_plain _ _ _ (by kernel_rfl)]; exact laidMet_laidAll _ (by kernel_rfl) (by kernel_rfl))) ?_
  intro W base args ds gs before hval0 hW _ _ hL _
  have hval : ∀ (j : Nat) t v, Tryd.f3.params[j]? = some t → args[j]? = some v → Value.okWide Tryd.prog W .any base t v := hval0
  have hW' := hW
  obtain ⟨p, q, hA0, hV, rfl, hfz, hnd⟩ := hW
  have hA : DataW.TrodAll enc Tryd.prog W 0 (fun _ => true) true Tryd.f3.params.toList args.toList ds p := hA0
  rw [Tryd.params3] at hA hval
  obtain ⟨v0, v1, v2, d0, d1, d2, p0, p1, p2, rfl, rfl, rfl, h0, h1, h2⟩ := trodAll_three hA
  obtain ⟨rfl, rfl⟩ := trodVars_none hV
  obtain ⟨t0, rfl, rfl, rfl, ht0⟩ := open_string Tryd.underlying9 (hval 0 9 v0 rfl rfl) h0
  obtain ⟨t1, rfl, rfl, rfl, ht1⟩ := open_string Tryd.underlying9 (hval 1 9 v1 rfl rfl) h1
  obtain ⟨t2, rfl, rfl, rfl, ht2⟩ := open_string Tryd.underlying9 (hval 2 9 v2 rfl rfl) h2
  clear hA0 hval0
  simp only [List.append_nil] at hW'
  obtain ⟨s, hg⟩ := pj_glob hL
  refine (packJoins_all t0 t1 t2 s W hg).mono fun e W' ⟨he, hb⟩ => ?_
  subst he
  refine ⟨_, rfl, _, _, _, [], [], [], hW', ?_, ?_, ?_, hb.frame _, fun h => by cases h⟩
  · exact trodAll_mk1 (shut_bool Tryd.underlying4 true)
  · exact trodAll_mk3 (shut_string Tryd.underlying9 ht0) (shut_string Tryd.underlying9 ht1) (shut_string Tryd.underlying9 ht2)
  · rfl

theorem pj_said : Rows.PackJoinsSaid :=
  OpenClaim.holds_of_wide 3 Tryd.f3 rfl rfl rfl rfl rfl rfl rfl ⟨rfl, rfl, rfl, rfl, rfl⟩ rfl rfl rfl rfl rfl (by kernel_rfl) Tryd.func3 (by kernel_rfl)
    (of_decide_eq_true (by kernel_rfl)) (by unfold Func.isWrapper; rw [if_neg (of_decide_eq_false (by kernel_rfl))]; exact ⟨rfl, rfl⟩)
    (fun os started H enc _ => pj_lifted os started H enc)

/-- no parameter wants a stand-in -/
theorem pj_plain (f : FuncId) (fn : Func) (hf : Tryd.pinned.checked.prog.funcNamed "lammastide/lammastidelaw3.PackJoins" = some f) (hfn : Tryd.pinned.checked.prog.funcs[f]? = some fn) :
    true = Tryd.pinned.checked.prog.looks [] ∧ ∀ (j : Nat) t, fn.params[j]? = some t → Tryd.pinned.checked.prog.wantsStandIn t = false := by
  obtain rfl : f = 3 := Option.some.inj ((show Tryd.prog.funcNamed "lammastide/lammastidelaw3.PackJoins" = some 3 by kernel_rfl).symm.trans hf) |>.symm
  obtain rfl : fn = Tryd.f3 := (Option.some.inj (Tryd.func3.symm.trans hfn)).symm
  refine ⟨by kernel_rfl, fun j t ht => ?_⟩
  rw [Tryd.params3] at ht
  have hm := Array.mem_of_getElem? ht
  obtain rfl : t = 9 := by simpa using hm
  exact (show Tryd.prog.wantsStandIn 9 = false by kernel_rfl)

/-- The law's card. -/
theorem packJoins_card : Rows.PackJoinsCardSaid :=
  Claim7.holds_tied_plain_at .later [] _ _ _ _ pj_said (fun _ h => by cases h) (by kernel_rfl) (fun _ h => by cases h) packJoins_row_tie rfl ⟨rfl, rfl⟩ (by kernel_rfl) rfl pj_plain (by kernel_rfl)
end Go.Proofs.YtbocknocmggcpaaDoor
