/- Proved: the law DiffChain returns true for every three lists of events, and each argument reads afterwards as it read before; the listed package-level variables hold what the program's own text lays in them (the card's tie). -/
/- The closed facts of the law DiffChain's row, one by one. -/
import Derived.Test.YtjhlbkjcchejjaaGreatDoorRows
import Derived.JoinedOf
import Derived.Test.YtjhlbkjcchejjaaGreatDoorCards
import Derived.Test.YtjhlbkjcchejjaaGreatDoorTie
import Derived.Test.YtjhlbkjcchejjaaGreatDoorYaR
import Derived.Test.YtjhlbkjcchejjaaGreatDoorYaK
import Derived.Test.YtjhlbkjcchejjaaGreatDoorYbB
namespace Go.Proofs.YtjhlbkjcchejjaaGreatDoor

theorem dch_z1 : Rows.diffChainRow.wf (OpenSpec.ofChange Rows.diffChainSpec) = true := by kernel_rfl
theorem dch_z2 : laidOutB Tryz.prog = true := by kernel_rfl
theorem dch_z3 : mapsRowed Tryz.prog = true := by kernel_rfl
theorem dch_z4 : Tryz.f5.params.all (Tryz.prog.readableRec ·) = true := by kernel_rfl
theorem dch_z5 : namedTie Tryz.prog Rows.diffChainRow.named Rows.diffChainSpec.vars = true := by kernel_rfl
theorem dch_z6 : (Rows.diffChainRow.inPlace == Tryz.prog.inPlace 5) = true := by kernel_rfl
theorem dch_z7 : (Rows.diffChainRow.unfollowed == Tryz.prog.unfollowed 5) = true := by kernel_rfl
theorem dch_z8 : (Rows.diffChainRow.recurses == Tryz.prog.recurses 5) = true := by kernel_rfl
theorem dch_z9 : (Rows.diffChainRow.named == Tryz.prog.varsNamed 5) = true := by kernel_rfl
theorem dch_z10 : (Rows.diffChainRow.plainKeys == Tryz.prog.plainKeys) = true := by kernel_rfl
theorem dch_z11 : Tryz.prog.stopsHeard = true := by kernel_rfl
theorem dch_z12 : Tryz.prog.mayEnter = true := by kernel_rfl
theorem dch_z13 : (Rows.diffChainRow.lifted == Tryz.prog.liftsFinal) = true := by kernel_rfl
theorem dch_z14 : (Tryz.prog.make == some Rows.diffChainRow.make) = true := by kernel_rfl
theorem dch_closed : joinedFacts Tryz.prog 5 Tryz.f5 Rows.diffChainSpec Rows.diffChainRow = true := by
  unfold joinedFacts
  rw [dch_z1, dch_z2, dch_z3, dch_z4, dch_z5, dch_z6, dch_z7, dch_z8, dch_z9, dch_z10, dch_z11, dch_z12, dch_z13, dch_z14]
  kernel_rfl
end Go.Proofs.YtjhlbkjcchejjaaGreatDoor

namespace Go.Proofs.YtjhlbkjcchejjaaGreatDoor
open Go.ChangeShapes Go.WideShapes Go.ChangeAt Go.RowKit Cal

theorem gNone : Tryz.prog.globalNamed "lammastide/api.ErrNone" = some 8 := by kernel_rfl
theorem tNone : (Tryz.prog.globals[8]?).map (·.type) = some 32 := by kernel_rfl
theorem dch_plainly : laidMetH Tryz.prog Rows.diffChainRow.laid = laidMet Tryz.prog Rows.diffChainRow.laid := by
  funext W
  exact MakeChecks.laidMetH_plain _ _ _ (by kernel_rfl)

theorem gStale : Tryz.prog.globalNamed "lammastide/api.ErrStale" = some 9 := by kernel_rfl
theorem tStale : (Tryz.prog.globals[9]?).map (·.type) = some 32 := by kernel_rfl
theorem dch_glob {W : World} (h : laidMetH Tryz.prog Rows.diffChainRow.laid W) : ∃ s, GlobD s W := by
  rw [dch_plainly] at h
  have h0 : laidMet Tryz.prog Rows.diffChainRow.laid W := h
  have ht : Tab W := table h0.tail.tail
  have h3 := h0.tail.tail.tail.tail
  obtain ⟨a0, c0⟩ := sentinel h3 gText tText
  obtain ⟨a1, c1⟩ := sentinel h3.tail gBound tBound
  obtain ⟨a2, c2⟩ := sentinel h3.tail.tail gShape tShape
  obtain ⟨a3, c3⟩ := sentinel h3.tail.tail.tail gName tName
  obtain ⟨a4, c4⟩ := sentinel h3.tail.tail.tail.tail gNone tNone
  obtain ⟨a5, c5⟩ := sentinel h3.tail.tail.tail.tail.tail gExist tExist
  obtain ⟨a6, c6⟩ := sentinel h3.tail.tail.tail.tail.tail.tail gFull tFull
  obtain ⟨a7, c7⟩ := sentinel h3.tail.tail.tail.tail.tail.tail.tail gOrder tOrder
  obtain ⟨a8, c8⟩ := sentinel h3.tail.tail.tail.tail.tail.tail.tail.tail gStale tStale
  exact ⟨seven a0 a1 a2 a3 a5 a6 a7, ⟨c0, c1, c2, c3, c5, c6, c7⟩, ⟨⟨a3, c3⟩, ⟨a1, c1⟩, ⟨a2, c2⟩, ⟨a7, c7⟩, ⟨a0, c0⟩, names_of h3.tail.tail.tail.tail.tail.tail.tail.tail.tail.tail.tail, ht⟩, ⟨a4, c4⟩, ⟨a8, c8⟩⟩

set_option maxRecDepth 100000 in
theorem dch_lifted (os : Os) (started : os.Started) (H : Type) (enc : TypeId × Value → H) :
    ReturnsInHanded {} Tryz.checked os 5 .any (fun w args => (Rows.diffChainSpec.pre enc Tryz.prog Tryz.f5 [] false w args ∧ laidMetH Tryz.prog Rows.diffChainRow.laid w) ∧ sizedMet enc Tryz.prog Tryz.f5 (OpenSpec.ofChange Rows.diffChainSpec) false w args)
      (Rows.diffChainSpec.post enc Tryz.prog Tryz.f5 false true false false) := by
  refine returnsInHanded_of_change_and (C := Tryz.checked) (X := fun w _ => laidMetH Tryz.prog Rows.diffChainRow.laid w) (fun _ _ _ hh h => h.of_heap hh) own started (by kernel_rfl) Tryz.func5
    (ChangeSpec.witness_shaped (enc := enc) (C := Tryz.checked) (os := os) (X := fun w _ => laidMetH Tryz.prog Rows.diffChainRow.laid w) false (World.laidAll Tryz.prog os Rows.diffChainRow.laid)
      #[.slice none 0 0, .slice none 0 0, .slice none 0 0] 8 (World.laidAll_os _ _ _)
      (World.shaped_of_ZipB (by kernel_rfl) (by kernel_rfl)) (by kernel_rfl) (by kernel_rfl) (by kernel_rfl)
      (by rw [MakeChecks.laidMetH_plain _ _ _ (by kernel_rfl)]; exact laidMet_laidAll _ (by kernel_rfl) (by kernel_rfl))) ?_
  intro W base args ds gs before hval0 hW _ hZ hL _
  have hval : ∀ (j : Nat) t v, Tryz.f5.params[j]? = some t → args[j]? = some v → Value.okWide Tryz.prog W .any base t v := hval0
  have hZ' : (DataW.weightsEach Tryz.prog (Tryz.f5.params.toList ++ Rows.diffChainSpec.plain.varTypes Tryz.prog) (ds ++ gs)).all (· ≤ reachBytes) = true := hZ
  have hW' := hW
  obtain ⟨p, q, hA0, hV, rfl, hfz, hnd⟩ := hW
  have hA : DataW.TrodAll enc Tryz.prog W 0 (fun _ => true) true Tryz.f5.params.toList args.toList ds p := hA0
  rw [Tryz.params5] at hA hval hZ'
  obtain ⟨v0, v1, v2, d0, d1, d2, p0, p1, p2, rfl, rfl, rfl, h0, h1, h2⟩ := trodAll_three hA
  obtain ⟨rfl, rfl⟩ := trodVars_none hV
  have k0 := h0
  have k1 := h1
  have k2 := h2
  have hw0 : ∀ k ∈ d0.weights Tryz.prog 42, k ≤ reachBytes := fun k hk => by
    have := List.all_eq_true.1 hZ' k (DataW.weights_mem_each (j := 0) rfl rfl k hk)
    simpa using this
  have hw1 : ∀ k ∈ d1.weights Tryz.prog 42, k ≤ reachBytes := fun k hk => by
    have := List.all_eq_true.1 hZ' k (DataW.weights_mem_each (j := 1) rfl rfl k hk)
    simpa using this
  have hw2 : ∀ k ∈ d2.weights Tryz.prog 42, k ≤ reachBytes := fun k hk => by
    have := List.all_eq_true.1 hZ' k (DataW.weights_mem_each (j := 2) rfl rfl k hk)
    simpa using this
  obtain ⟨sa0, sn0, sc0, rfl⟩ := okWide_slice Tryz.underlying42 (hval 0 42 v0 rfl rfl)
  obtain ⟨sa1, sn1, sc1, rfl⟩ := okWide_slice Tryz.underlying42 (hval 1 42 v1 rfl rfl)
  obtain ⟨sa2, sn2, sc2, rfl⟩ := okWide_slice Tryz.underlying42 (hval 2 42 v2 rfl rfl)
  obtain ⟨fuel0, hf0⟩ := h0
  obtain ⟨fuel1, hf1⟩ := h1
  obtain ⟨fuel2, hf2⟩ := h2
  obtain ⟨E0, hE0⟩ := open_events hf0 hw0
  obtain ⟨E1, hE1⟩ := open_events hf1 hw1
  obtain ⟨E2, hE2⟩ := open_events hf2 hw2
  clear hA0 hval0
  simp only [List.append_nil] at hW'
  have hlt : ∀ x ∈ p0 ++ (p1 ++ p2), x.block < W.heap.size := fun x hx => hW'.lt x (by rw [List.append_assoc]; exact hx)
  have hlt0 : ∀ x ∈ p0, x.block < W.heap.size := fun x hx => hlt x (List.mem_append.2 (.inl hx))
  have hlt1 : ∀ x ∈ p1, x.block < W.heap.size := fun x hx => hlt x (List.mem_append.2 (.inr (List.mem_append.2 (.inl hx))))
  have hlt2 : ∀ x ∈ p2, x.block < W.heap.size := fun x hx => hlt x (List.mem_append.2 (.inr (List.mem_append.2 (.inr hx))))
  obtain ⟨s, hg⟩ := dch_glob hL
  refine (dchain_all E0 E1 E2 _ _ _ s W hg hE0 hE1 hE2).mono fun r W' ⟨he, hb⟩ => ?_
  subst he
  have z1 : laidOutB Tryz.prog = true := dch_z2
  rw [List.append_assoc] at hW'
  refine ⟨_, rfl, _, _, _, [], p0 ++ (p1 ++ p2), [], hW', ?_, ?_, ?_, hb.frame _, fun h => by cases h⟩
  · exact trodAll_mk1 (shut_bool Tryz.underlying4 true)
  · exact trodAll_mk3 (WideElems.Trod_stays (P := Tryz.prog) z1 (by kernel_rfl) (of_decide_eq_true (by kernel_rfl)) k0 (fun x hx => hb.same (hlt0 x hx)) (fun x hx => by simpa using hlt0 x hx))
      (WideElems.Trod_stays (P := Tryz.prog) z1 (by kernel_rfl) (of_decide_eq_true (by kernel_rfl)) k1 (fun x hx => hb.same (hlt1 x hx)) (fun x hx => by simpa using hlt1 x hx))
      (WideElems.Trod_stays (P := Tryz.prog) z1 (by kernel_rfl) (of_decide_eq_true (by kernel_rfl)) k2 (fun x hx => hb.same (hlt2 x hx)) (fun x hx => by simpa using hlt2 x hx))
  · rfl

theorem dch_said : Rows.DiffChainSaid :=
  OpenClaim.holds_of_wide 5 Tryz.f5 rfl rfl rfl rfl rfl rfl rfl ⟨rfl, rfl, rfl, rfl, rfl⟩ rfl rfl rfl rfl rfl (by kernel_rfl) Tryz.func5 dch_closed
    (of_decide_eq_true (by kernel_rfl)) (by unfold Func.isWrapper; rw [if_neg (of_decide_eq_false (by kernel_rfl))]; exact ⟨rfl, rfl⟩)
    (fun os started H enc _ => dch_lifted os started H enc)

/-- no parameter wants a stand-in -/
theorem dch_plain (f : FuncId) (fn : Func) (hf : Tryz.pinned.checked.prog.funcNamed "lammastide/lammastidelaw2.DiffChain" = some f) (hfn : Tryz.pinned.checked.prog.funcs[f]? = some fn) :
    true = Tryz.pinned.checked.prog.looks [] ∧ ∀ (j : Nat) t, fn.params[j]? = some t → Tryz.pinned.checked.prog.wantsStandIn t = false := by
  obtain rfl : f = 5 := Option.some.inj ((show Tryz.prog.funcNamed "lammastide/lammastidelaw2.DiffChain" = some 5 by kernel_rfl).symm.trans hf) |>.symm
  obtain rfl : fn = Tryz.f5 := (Option.some.inj (Tryz.func5.symm.trans hfn)).symm
  refine ⟨by kernel_rfl, fun j t ht => ?_⟩
  rw [Tryz.params5] at ht
  have hm := Array.mem_of_getElem? ht
  obtain rfl : t = 42 := by simpa using hm
  exact (show Tryz.prog.wantsStandIn 42 = false by kernel_rfl)

/-- The law's card. -/
theorem diffChain_card : Rows.DiffChainCardSaid :=
  Claim7.holds_tied_plain_at .later [] _ _ _ _ dch_said (fun _ h => by cases h) (by kernel_rfl) (fun _ h => by cases h) diffChain_row_tie rfl ⟨rfl, rfl⟩ (by kernel_rfl) rfl dch_plain (by kernel_rfl)
end Go.Proofs.YtjhlbkjcchejjaaGreatDoor
