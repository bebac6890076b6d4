/- Proved: the law TapeJoins returns true for every list of texts and every text, and each argument reads afterwards as it read before; the listed package-level variables hold what the program's own text lays in them (the card's tie). -/
import Derived.Test.YtcaeafgkogfgdaaDoorFrameT0
namespace Go.Proofs.YtcaeafgkogfgdaaDoor
open Go.ChangeShapes Go.WideShapes Go.ChangeAt Go.RowKit Cal
open Go.ChangeMaps (open_string shut_string)

theorem tjj_plainly : laidMetH Tryd.prog Rows.tapeJoinsRow.laid = laidMet Tryd.prog Rows.tapeJoinsRow.laid := by
  funext W
  exact MakeChecks.laidMetH_plain _ _ _ (by kernel_rfl)
theorem tjj_glob {W : World} (h : laidMetH Tryd.prog Rows.tapeJoinsRow.laid W) : GlobT W := by
  rw [tjj_plainly] at h
  have h0 : laidMet Tryd.prog Rows.tapeJoinsRow.laid W := h
  have ht : Tab W := table h0.tail.tail
  have h3 := h0.tail.tail.tail
  obtain ⟨a0, c0⟩ := sentinel h3 gBound tBound
  obtain ⟨a1, c1⟩ := sentinel h3.tail tgShape ttShape
  obtain ⟨a2, c2⟩ := sentinel h3.tail.tail tgFull ttFull
  obtain ⟨a3, c3⟩ := sentinel h3.tail.tail.tail tgOff ttOff
  obtain ⟨a4, c4⟩ := sentinel h3.tail.tail.tail.tail tgRng ttRng
  obtain ⟨a5, c5⟩ := sentinel h3.tail.tail.tail.tail.tail tgSyn ttSyn
  exact ⟨ht, ⟨⟨a4, c4⟩, ⟨a5, c5⟩⟩, ⟨a0, c0⟩, ⟨a1, c1⟩, ⟨a2, c2⟩, ⟨a3, c3⟩⟩

set_option maxRecDepth 100000 in
theorem tjj_lifted (os : Os) (started : os.Started) (H : Type) (enc : TypeId × Value → H) :
    ReturnsInHanded {} Tryd.checked os 4 .any (fun w args => (Rows.tapeJoinsSpec.pre enc Tryd.prog Tryd.f4 [] false w args ∧ laidMetH Tryd.prog Rows.tapeJoinsRow.laid w) ∧ sizedMet enc Tryd.prog Tryd.f4 (OpenSpec.ofChange Rows.tapeJoinsSpec) false w args)
      (Rows.tapeJoinsSpec.post enc Tryd.prog Tryd.f4 false true false false) := by
  refine returnsInHanded_of_change_and (C := Tryd.checked) (X := fun w _ => laidMetH Tryd.prog Rows.tapeJoinsRow.laid w) (fun _ _ _ hh h => h.of_heap hh) own started (by kernel_rfl) Tryd.func4
    (ChangeSpec.witness_shaped (enc := enc) (C := Tryd.checked) (os := os) (X := fun w _ => laidMetH Tryd.prog Rows.tapeJoinsRow.laid w) false (World.laidAll Tryd.prog os Rows.tapeJoinsRow.laid)
      #[.slice none 0 0, .string ⟨#[]⟩] 8 (World.laidAll_os _ _ _)
      (World.shaped_of_ZipB (by kernel_rfl) (by kernel_rfl)) (by kernel_rfl) (by kernel_rfl) (by kernel_rfl)
      (by rw [MakeChecks.laidMetH_plain _ _ _ (by kernel_rfl)]; exact laidMet_laidAll _ (by kernel_rfl) (by kernel_rfl))) ?_
  intro W base args ds gs before hval0 hW _ _ hL _
  have hval : ∀ (j : Nat) t v, Tryd.f4.params[j]? = some t → args[j]? = some v → Value.okWide Tryd.prog W .any base t v := hval0
  have hW' := hW
  obtain ⟨p, q, hA0, hV, rfl, hfz, hnd⟩ := hW
  have hA : DataW.TrodAll enc Tryd.prog W 0 (fun _ => true) true Tryd.f4.params.toList args.toList ds p := hA0
  rw [Tryd.params4] at hA hval
  obtain ⟨v0, v1, d0, d1, p0, p1, rfl, rfl, rfl, h0, h1⟩ := trodAll_two hA
  obtain ⟨rfl, rfl⟩ := trodVars_none hV
  have k0 := h0
  obtain ⟨sa0, sn0, sc0, rfl⟩ := okWide_slice Tryd.underlying22 (hval 0 22 v0 rfl rfl)
  obtain ⟨fuel0, hf0⟩ := h0
  obtain ⟨X0, hX0⟩ := open_textsT hf0
  obtain ⟨n, rfl, rfl, rfl, wn⟩ := open_string Tryd.underlying9 (hval 1 9 v1 rfl rfl) h1
  clear hA0 hval0
  simp only [List.append_nil] at hW'
  have hlt0 : ∀ x ∈ p0, x.block < W.heap.size := fun x hx => hW'.lt x (by simpa using hx)
  have hg := tjj_glob hL
  refine (tapeJoins_all X0 _ n W hg hX0).mono fun r W' ⟨he, hb⟩ => ?_
  subst he
  refine ⟨_, rfl, _, _, _, [], p0, [], hW', ?_, ?_, ?_, hb.frame _, fun h => by cases h⟩
  · exact trodAll_mk1 (shut_bool Tryd.underlying4 true)
  · rw [show p0 = p0 ++ [] by simp]
    exact trodAll_mk2 (WideElems.Trod_stays (P := Tryd.prog) (by kernel_rfl) (by kernel_rfl) (of_decide_eq_true (by kernel_rfl)) k0 (fun x hx => hb.same (hlt0 x hx)) (fun x hx => by simpa using hlt0 x hx)) (shut_string Tryd.underlying9 wn)
  · rfl

theorem tjj_said : Rows.TapeJoinsSaid :=
  OpenClaim.holds_of_wide 4 Tryd.f4 rfl rfl rfl rfl rfl rfl rfl ⟨rfl, rfl, rfl, rfl, rfl⟩ rfl rfl rfl rfl rfl (by kernel_rfl) Tryd.func4 (by kernel_rfl)
    (of_decide_eq_true (by kernel_rfl)) (by unfold Func.isWrapper; rw [if_neg (of_decide_eq_false (by kernel_rfl))]; exact ⟨rfl, rfl⟩)
    (fun os started H enc _ => tjj_lifted os started H enc)

/-- no parameter wants a stand-in -/
theorem tjj_plain (f : FuncId) (fn : Func) (hf : Tryd.pinned.checked.prog.funcNamed "lammastide/lammastidelaw3.TapeJoins" = some f) (hfn : Tryd.pinned.checked.prog.funcs[f]? = some fn) :
    true = Tryd.pinned.checked.prog.looks [] ∧ ∀ (j : Nat) t, fn.params[j]? = some t → Tryd.pinned.checked.prog.wantsStandIn t = false := by
  obtain rfl : f = 4 := Option.some.inj ((show Tryd.prog.funcNamed "lammastide/lammastidelaw3.TapeJoins" = some 4 by kernel_rfl).symm.trans hf) |>.symm
  obtain rfl : fn = Tryd.f4 := (Option.some.inj (Tryd.func4.symm.trans hfn)).symm
  refine ⟨by kernel_rfl, fun j t ht => ?_⟩
  rw [Tryd.params4] at ht
  have hm := Array.mem_of_getElem? ht
  have ht2 : t = 22 ∨ t = 9 := by simpa using hm
  rcases ht2 with rfl | rfl
  · exact (show Tryd.prog.wantsStandIn 22 = false by kernel_rfl)
  · exact (show Tryd.prog.wantsStandIn 9 = false by kernel_rfl)

/-- The law's card. -/
theorem tapeJoins_card : Rows.TapeJoinsCardSaid :=
  Claim7.holds_tied_plain_at .later [] _ _ _ _ tjj_said (fun _ h => by cases h) (by kernel_rfl) (fun _ h => by cases h) tapeJoins_row_tie rfl ⟨rfl, rfl⟩ (by kernel_rfl) rfl tjj_plain (by kernel_rfl)
end Go.Proofs.YtcaeafgkogfgdaaDoor
