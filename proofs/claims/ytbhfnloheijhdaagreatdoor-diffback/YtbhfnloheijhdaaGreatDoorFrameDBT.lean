/- Proved: the law DiffBack returns true for every two lists of events, and each argument reads afterwards as it read before; the listed package-level variables hold what the program's own text lays in them (the card's tie). -/
import Derived.Test.YtbhfnloheijhdaaGreatDoorCards
import Derived.Test.YtbhfnloheijhdaaGreatDoorTie
import Derived.Test.YtbhfnloheijhdaaGreatDoorJhAL
import Derived.Test.YtbhfnloheijhdaaGreatDoorJhAN
import Derived.Test.YtbhfnloheijhdaaGreatDoorJhBC
namespace Go.Proofs.YtbhfnloheijhdaaGreatDoor
open Go.ChangeShapes Go.WideShapes Go.ChangeAt Go.RowKit Cal

theorem gNone : Tryz.prog.globalNamed "lammastide/api.ErrNone" = some 5 := by kernel_rfl
theorem tNone : (Tryz.prog.globals[5]?).map (·.type) = some 32 := by kernel_rfl
theorem dbk_plainly : laidMetH Tryz.prog Rows.diffBackRow.laid = laidMet Tryz.prog Rows.diffBackRow.laid := by
  funext W
  exact MakeChecks.laidMetH_plain _ _ _ (by kernel_rfl)

theorem gStale : Tryz.prog.globalNamed "lammastide/api.ErrStale" = some 9 := by kernel_rfl
theorem tStale : (Tryz.prog.globals[9]?).map (·.type) = some 32 := by kernel_rfl
theorem dbk_glob {W : World} (h : laidMetH Tryz.prog Rows.diffBackRow.laid W) : ∃ s, GlobD s W := by
  rw [dbk_plainly] at h
  have h0 : laidMet Tryz.prog Rows.diffBackRow.laid W := h
  have ht : Tab W := table h0.tail.tail
  have h3 := h0.tail.tail.tail.tail
  obtain ⟨a0, c0⟩ := sentinel h3 gText tText
  obtain ⟨a1, c1⟩ := sentinel h3.tail gBound tBound
  obtain ⟨a2, c2⟩ := sentinel h3.tail.tail gShape tShape
  obtain ⟨a3, c3⟩ := sentinel h3.tail.tail.tail gName tName
  obtain ⟨a4, c4⟩ := sentinel h3.tail.tail.tail.tail gNone tNone
  obtain ⟨a5, c5⟩ := sentinel h3.tail.tail.tail.tail.tail gExist tExist
  obtain ⟨a6, c6⟩ := sentinel h3.tail.tail.tail.tail.tail.tail gFull tFull
  obtain ⟨a7, c7⟩ := sentinel h3.tail.tail.tail.tail.tail.tail.tail gOrder tOrder
  obtain ⟨a8, c8⟩ := sentinel h3.tail.tail.tail.tail.tail.tail.tail.tail gStale tStale
  exact ⟨seven a0 a1 a2 a3 a5 a6 a7, ⟨c0, c1, c2, c3, c5, c6, c7⟩, ⟨⟨a3, c3⟩, ⟨a1, c1⟩, ⟨a2, c2⟩, ⟨a7, c7⟩, ⟨a0, c0⟩, names_of h3.tail.tail.tail.tail.tail.tail.tail.tail.tail.tail.tail, ht⟩, ⟨a4, c4⟩, ⟨a8, c8⟩⟩

set_option maxRecDepth 100000 in
theorem dbk_lifted (os : Os) (started : os.Started) (H : Type) (enc : TypeId × Value → H) :
    ReturnsInHanded {} Tryz.checked os 5 .any (fun w args => (Rows.diffBackSpec.pre enc Tryz.prog Tryz.f5 [] false w args ∧ laidMetH Tryz.prog Rows.diffBackRow.laid w) ∧ sizedMet enc Tryz.prog Tryz.f5 (OpenSpec.ofChange Rows.diffBackSpec) false w args)
      (Rows.diffBackSpec.post enc Tryz.prog Tryz.f5 false true false false) := by
  refine returnsInHanded_of_change_and (C := Tryz.checked) (X := fun w _ => laidMetH Tryz.prog Rows.diffBackRow.laid w) (fun _ _ _ hh h => h.of_heap hh) own started (by kernel_rfl) Tryz.func5
    (ChangeSpec.witness_shaped (enc := enc) (C := Tryz.checked) (os := os) (X := fun w _ => laidMetH Tryz.prog Rows.diffBackRow.laid w) false (World.laidAll Tryz.prog os Rows.diffBackRow.laid)
      #[.slice none 0 0, .slice none 0 0] 8 (World.laidAll_os _ _ _)
      (World.shaped_of_ZipB (by kernel_rfl) (by kernel_rfl)) (by kernel_rfl) (by kernel_rfl) (by kernel_rfl)
      (by rw [MakeChecks.laidMetH_plain _ _ _ (by kernel_rfl)]; exact laidMet_laidAll _ (by kernel_rfl) (by kernel_rfl))) ?_
  intro W base args ds gs before hval0 hW _ hZ hL _
  have hval : ∀ (j : Nat) t v, Tryz.f5.params[j]? = some t → args[j]? = some v → Value.okWide Tryz.prog W .any base t v := hval0
  have hZ' : (DataW.weightsEach Tryz.prog (Tryz.f5.params.toList ++ Rows.diffBackSpec.plain.varTypes Tryz.prog) (ds ++ gs)).all (· ≤ reachBytes) = true := hZ
  have hW' := hW
  obtain ⟨p, q, hA0, hV, rfl, hfz, hnd⟩ := hW
  have hA : DataW.TrodAll enc Tryz.prog W 0 (fun _ => true) true Tryz.f5.params.toList args.toList ds p := hA0
  rw [Tryz.params5] at hA hval hZ'
  obtain ⟨v0, v1, d0, d1, p0, p1, rfl, rfl, rfl, h0, h1⟩ := trodAll_two hA
  obtain ⟨rfl, rfl⟩ := trodVars_none hV
  have k0 := h0
  have k1 := h1
  have hw0 : ∀ k ∈ d0.weights Tryz.prog 42, k ≤ reachBytes := fun k hk => by
    have := List.all_eq_true.1 hZ' k (DataW.weights_mem_each (j := 0) rfl rfl k hk)
    simpa using this
  have hw1 : ∀ k ∈ d1.weights Tryz.prog 42, k ≤ reachBytes := fun k hk => by
    have := List.all_eq_true.1 hZ' k (DataW.weights_mem_each (j := 1) rfl rfl k hk)
    simpa using this
  obtain ⟨sa0, sn0, sc0, rfl⟩ := okWide_slice Tryz.underlying42 (hval 0 42 v0 rfl rfl)
  obtain ⟨sa1, sn1, sc1, rfl⟩ := okWide_slice Tryz.underlying42 (hval 1 42 v1 rfl rfl)
  obtain ⟨fuel0, hf0⟩ := h0
  obtain ⟨fuel1, hf1⟩ := h1
  obtain ⟨E0, hE0⟩ := open_events hf0 hw0
  obtain ⟨E1, hE1⟩ := open_events hf1 hw1
  clear hA0 hval0
  simp only [List.append_nil] at hW'
  have hlt : ∀ x ∈ p0 ++ p1, x.block < W.heap.size := fun x hx => hW'.lt x hx
  have hlt0 : ∀ x ∈ p0, x.block < W.heap.size := fun x hx => hlt x (List.mem_append.2 (.inl hx))
  have hlt1 : ∀ x ∈ p1, x.block < W.heap.size := fun x hx => hlt x (List.mem_append.2 (.inr hx))
  obtain ⟨s, hg⟩ := dbk_glob hL
  refine (dback_all E0 E1 _ _ s W hg hE0 hE1).mono fun r W' ⟨he, hb⟩ => ?_
  subst he
  have z1 : laidOutB Tryz.prog = true := dbk_z2
  refine ⟨_, rfl, _, _, _, [], p0 ++ p1, [], hW', ?_, ?_, ?_, hb.frame _, fun h => by cases h⟩
  · exact trodAll_mk1 (shut_bool Tryz.underlying4 true)
  · exact trodAll_mk2 (WideElems.Trod_stays (P := Tryz.prog) z1 (by kernel_rfl) (of_decide_eq_true (by kernel_rfl)) k0 (fun x hx => hb.same (hlt0 x hx)) (fun x hx => by simpa using hlt0 x hx))
      (WideElems.Trod_stays (P := Tryz.prog) z1 (by kernel_rfl) (of_decide_eq_true (by kernel_rfl)) k1 (fun x hx => hb.same (hlt1 x hx)) (fun x hx => by simpa using hlt1 x hx))
  · rfl

theorem dbk_said : Rows.DiffBackSaid :=
  OpenClaim.holds_of_wide 5 Tryz.f5 rfl rfl rfl rfl rfl rfl rfl ⟨rfl, rfl, rfl, rfl, rfl⟩ rfl rfl rfl rfl rfl (by kernel_rfl) Tryz.func5 dbk_closed
    (of_decide_eq_true (by kernel_rfl)) (by unfold Func.isWrapper; rw [if_neg (of_decide_eq_false (by kernel_rfl))]; exact ⟨rfl, rfl⟩)
    (fun os started H enc _ => dbk_lifted os started H enc)

/-- no parameter wants a stand-in -/
theorem dbk_plain (f : FuncId) (fn : Func) (hf : Tryz.pinned.checked.prog.funcNamed "lammastide/lammastidelaw2.DiffBack" = some f) (hfn : Tryz.pinned.checked.prog.funcs[f]? = some fn) :
    true = Tryz.pinned.checked.prog.looks [] ∧ ∀ (j : Nat) t, fn.params[j]? = some t → Tryz.pinned.checked.prog.wantsStandIn t = false := by
  obtain rfl : f = 5 := Option.some.inj ((show Tryz.prog.funcNamed "lammastide/lammastidelaw2.DiffBack" = some 5 by kernel_rfl).symm.trans hf) |>.symm
  obtain rfl : fn = Tryz.f5 := (Option.some.inj (Tryz.func5.symm.trans hfn)).symm
  refine ⟨by kernel_rfl, fun j t ht => ?_⟩
  rw [Tryz.params5] at ht
  have hm := Array.mem_of_getElem? ht
  obtain rfl : t = 42 := by simpa using hm
  exact (show Tryz.prog.wantsStandIn 42 = false by kernel_rfl)

/-- The law's card. -/
theorem diffBack_card : Rows.DiffBackCardSaid :=
  Claim7.holds_tied_plain_at .later [] _ _ _ _ dbk_said (fun _ h => by cases h) (by kernel_rfl) (fun _ h => by cases h) diffBack_row_tie rfl ⟨rfl, rfl⟩ (by kernel_rfl) rfl dbk_plain (by kernel_rfl)
end Go.Proofs.YtbhfnloheijhdaaGreatDoor
