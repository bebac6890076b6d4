/- Proved: the law BookBack returns true for every list of events, and the argument reads afterwards as it read before; the listed package-level variables hold what the program's own text lays in them (the card's tie). -/
import Derived.Test.YtnpecjccajebiaaGreatDoorCards
import Derived.Test.YtnpecjccajebiaaGreatDoorTie
import Derived.Test.YtnpecjccajebiaaGreatDoorYaAR
import Derived.Test.YtnpecjccajebiaaGreatDoorYbAC
import Derived.Test.YtnpecjccajebiaaGreatDoorYdAF
namespace Go.Proofs.YtnpecjccajebiaaGreatDoor
open Go.ChangeShapes Go.WideShapes Go.ChangeAt Go.RowKit Cal

theorem gNone : Tryz.prog.globalNamed "lammastide/api.ErrNone" = some 3 := by kernel_rfl
theorem tNone : (Tryz.prog.globals[3]?).map (·.type) = some 32 := by kernel_rfl
theorem bbk_plainly : laidMetH Tryz.prog Rows.bookBackRow.laid = laidMet Tryz.prog Rows.bookBackRow.laid := by
  funext W
  exact MakeChecks.laidMetH_plain _ _ _ (by kernel_rfl)

theorem bbk_glob {W : World} (h : laidMetH Tryz.prog Rows.bookBackRow.laid W) : GlobR W ∧ (∃ s, GlobK s W) ∧ ∃ p, W.cell? ⟨3, 0, none⟩ = some (.iface 288 (.pointer (some p))) := by
  rw [bbk_plainly] at h
  have h0 : laidMet Tryz.prog Rows.bookBackRow.laid W := h
  have ht : Tab W := table h0.tail.tail
  have h3 := h0.tail.tail.tail.tail
  obtain ⟨a0, c0⟩ := sentinel h3 gText tText
  obtain ⟨a1, c1⟩ := sentinel h3.tail gBound tBound
  obtain ⟨a2, c2⟩ := sentinel h3.tail.tail gShape tShape
  obtain ⟨a3, c3⟩ := sentinel h3.tail.tail.tail gName tName
  obtain ⟨a4, c4⟩ := sentinel h3.tail.tail.tail.tail gNone tNone
  obtain ⟨a5, c5⟩ := sentinel h3.tail.tail.tail.tail.tail gExist tExist
  obtain ⟨a6, c6⟩ := sentinel h3.tail.tail.tail.tail.tail.tail gFull tFull
  obtain ⟨a7, c7⟩ := sentinel h3.tail.tail.tail.tail.tail.tail.tail gOrder tOrder
  exact ⟨⟨⟨a3, c3⟩, ⟨a1, c1⟩, ⟨a2, c2⟩, ⟨a7, c7⟩, ⟨a0, c0⟩, names_of h3.tail.tail.tail.tail.tail.tail.tail.tail.tail.tail, ht⟩, ⟨seven a0 a1 a2 a3 a5 a6 a7, c0, c1, c2, c3, c5, c6, c7⟩, a4, c4⟩

set_option maxRecDepth 100000 in
theorem bbk_lifted (os : Os) (started : os.Started) (H : Type) (enc : TypeId × Value → H) :
    ReturnsInHanded {} Tryz.checked os 3 .any (fun w args => (Rows.bookBackSpec.pre enc Tryz.prog Tryz.f3 [] false w args ∧ laidMetH Tryz.prog Rows.bookBackRow.laid w) ∧ sizedMet enc Tryz.prog Tryz.f3 (OpenSpec.ofChange Rows.bookBackSpec) false w args)
      (Rows.bookBackSpec.post enc Tryz.prog Tryz.f3 false true false false) := by
  refine returnsInHanded_of_change_and (C := Tryz.checked) (X := fun w _ => laidMetH Tryz.prog Rows.bookBackRow.laid w) (fun _ _ _ hh h => h.of_heap hh) own started (by kernel_rfl) Tryz.func3
    (ChangeSpec.witness_shaped (enc := enc) (C := Tryz.checked) (os := os) (X := fun w _ => laidMetH Tryz.prog Rows.bookBackRow.laid w) false (World.laidAll Tryz.prog os Rows.bookBackRow.laid)
      #[.slice none 0 0] 8 (World.laidAll_os _ _ _)
      (World.shaped_of_ZipB (by kernel_rfl) (by kernel_rfl)) (by kernel_rfl) (by kernel_rfl) (by kernel_rfl)
      (by rw [MakeChecks.laidMetH_plain _ _ _ (by kernel_rfl)]; exact laidMet_laidAll _ (by kernel_rfl) (by kernel_rfl))) ?_
  intro W base args ds gs before hval0 hW _ hZ hL _
  have hval : ∀ (j : Nat) t v, Tryz.f3.params[j]? = some t → args[j]? = some v → Value.okWide Tryz.prog W .any base t v := hval0
  have hZ' : (DataW.weightsEach Tryz.prog (Tryz.f3.params.toList ++ Rows.bookBackSpec.plain.varTypes Tryz.prog) (ds ++ gs)).all (· ≤ reachBytes) = true := hZ
  have hW' := hW
  obtain ⟨p, q, hA0, hV, rfl, hfz, hnd⟩ := hW
  have hA : DataW.TrodAll enc Tryz.prog W 0 (fun _ => true) true Tryz.f3.params.toList args.toList ds p := hA0
  rw [Tryz.params3] at hA hval hZ'
  obtain ⟨v0, d0, rfl, rfl, h0⟩ := trodAll_one hA
  obtain ⟨rfl, rfl⟩ := trodVars_none hV
  have k0 := h0
  have hw0 : ∀ k ∈ d0.weights Tryz.prog 22, k ≤ reachBytes := fun k hk => by
    have := List.all_eq_true.1 hZ' k (DataW.weights_mem_each (j := 0) rfl rfl k hk)
    simpa using this
  obtain ⟨sa, sn, sc, rfl⟩ := okWide_slice Tryz.underlying22 (hval 0 22 v0 rfl rfl)
  obtain ⟨fuel0, hf0⟩ := h0
  obtain ⟨Es, hEs⟩ := open_events hf0 hw0
  clear hA0 hval0
  simp only [List.append_nil] at hW'
  have hlt0 : ∀ x ∈ p, x.block < W.heap.size := fun x hx => hW'.lt x hx
  obtain ⟨hr, ⟨s, hg⟩, pn, hn⟩ := bbk_glob hL
  refine (bookBack_all Es _ s pn W hg hr hn hEs).mono fun r W' ⟨he, hb⟩ => ?_
  subst he
  refine ⟨_, rfl, _, _, _, [], p, [], hW', ?_, ?_, ?_, hb.frame _, fun h => by cases h⟩
  · exact trodAll_mk1 (shut_bool Tryz.underlying4 true)
  · exact trodAll_mk1 (WideElems.Trod_stays (P := Tryz.prog) (show laidOutB Tryz.prog = true by kernel_rfl) (by kernel_rfl) (of_decide_eq_true (by kernel_rfl)) k0 (fun x hx => hb.same (hlt0 x hx)) (fun x hx => by simpa using hlt0 x hx))
  · rfl

theorem bbk_said : Rows.BookBackSaid :=
  OpenClaim.holds_of_wide 3 Tryz.f3 rfl rfl rfl rfl rfl rfl rfl ⟨rfl, rfl, rfl, rfl, rfl⟩ rfl rfl rfl rfl rfl (by kernel_rfl) Tryz.func3 bbk_closed
    (of_decide_eq_true (by kernel_rfl)) (by unfold Func.isWrapper; rw [if_neg (of_decide_eq_false (by kernel_rfl))]; exact ⟨rfl, rfl⟩)
    (fun os started H enc _ => bbk_lifted os started H enc)

/-- no parameter wants a stand-in -/
theorem bbk_plain (f : FuncId) (fn : Func) (hf : Tryz.pinned.checked.prog.funcNamed "lammastide/lammastidelaw2.BookBack" = some f) (hfn : Tryz.pinned.checked.prog.funcs[f]? = some fn) :
    true = Tryz.pinned.checked.prog.looks [] ∧ ∀ (j : Nat) t, fn.params[j]? = some t → Tryz.pinned.checked.prog.wantsStandIn t = false := by
  obtain rfl : f = 3 := Option.some.inj ((show Tryz.prog.funcNamed "lammastide/lammastidelaw2.BookBack" = some 3 by kernel_rfl).symm.trans hf) |>.symm
  obtain rfl : fn = Tryz.f3 := (Option.some.inj (Tryz.func3.symm.trans hfn)).symm
  refine ⟨by kernel_rfl, fun j t ht => ?_⟩
  rw [Tryz.params3] at ht
  have hm := Array.mem_of_getElem? ht
  obtain rfl : t = 22 := by simpa using hm
  exact (show Tryz.prog.wantsStandIn 22 = false by kernel_rfl)

/-- The law's card. -/
theorem bookBack_card : Rows.BookBackCardSaid :=
  Claim7.holds_tied_plain_at .later [] _ _ _ _ bbk_said (fun _ h => by cases h) (by kernel_rfl) (fun _ h => by cases h) bookBack_row_tie rfl ⟨rfl, rfl⟩ (by kernel_rfl) rfl bbk_plain (by kernel_rfl)
end Go.Proofs.YtnpecjccajebiaaGreatDoor
