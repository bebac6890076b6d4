/- Proved: the law BookOn returns true for every list of events, every number and every text, and each argument reads afterwards as it read before; the listed package-level variables hold what the program's own text lays in them (the card's tie). -/
import Derived.Test.YtnpecjccajebiaaGreatDoorCards
import Derived.Test.YtnpecjccajebiaaGreatDoorTie
import Derived.Test.YtnpecjccajebiaaGreatDoorYaAR
import Derived.Test.YtnpecjccajebiaaGreatDoorLawBOnW
namespace Go.Proofs.YtnpecjccajebiaaGreatDoor
open Go.ChangeShapes Go.WideShapes Go.ChangeAt Go.RowKit Cal
open Go.ChangeMaps (open_string shut_string)

theorem gNone : Tryz.prog.globalNamed "lammastide/api.ErrNone" = some 3 := by kernel_rfl
theorem tNone : (Tryz.prog.globals[3]?).map (·.type) = some 32 := by kernel_rfl
theorem bon_plainly : laidMetH Tryz.prog Rows.bookOnRow.laid = laidMet Tryz.prog Rows.bookOnRow.laid := by
  funext W
  exact MakeChecks.laidMetH_plain _ _ _ (by kernel_rfl)

theorem bon_glob {W : World} (h : laidMetH Tryz.prog Rows.bookOnRow.laid W) : (∃ s, GlobK s W) ∧ ∃ p, W.cell? ⟨3, 0, none⟩ = some (.iface 288 (.pointer (some p))) := by
  rw [bon_plainly] at h
  have h3 : laidMet Tryz.prog Rows.bookOnRow.laid W := h
  obtain ⟨a0, c0⟩ := sentinel h3 gText tText
  obtain ⟨a1, c1⟩ := sentinel h3.tail gBound tBound
  obtain ⟨a2, c2⟩ := sentinel h3.tail.tail gShape tShape
  obtain ⟨a3, c3⟩ := sentinel h3.tail.tail.tail gName tName
  obtain ⟨a4, c4⟩ := sentinel h3.tail.tail.tail.tail gNone tNone
  obtain ⟨a5, c5⟩ := sentinel h3.tail.tail.tail.tail.tail gExist tExist
  obtain ⟨a6, c6⟩ := sentinel h3.tail.tail.tail.tail.tail.tail gFull tFull
  obtain ⟨a7, c7⟩ := sentinel h3.tail.tail.tail.tail.tail.tail.tail gOrder tOrder
  exact ⟨⟨seven a0 a1 a2 a3 a5 a6 a7, c0, c1, c2, c3, c5, c6, c7⟩, a4, c4⟩

theorem bon_door (os : Os) (args : Array Value) : laidMetH Tryz.prog Rows.bookOnRow.laid ((World.doorLaid Tryz.prog 293 os).forCall (fun _ _ => 0) ⟨#[], args, []⟩).memory :=
  laidMetH_of_parts3 (fuel := 8) (laidMet_of_run' 8 (by kernel_rfl) (by kernel_rfl)) (by kernel_rfl) (by kernel_rfl)

set_option maxRecDepth 100000 in
theorem bon_lifted (os : Os) (started : os.Started) (H : Type) (enc : TypeId × Value → H) :
    ReturnsInHanded {} Tryz.checked os 4 .any (fun w args => (Rows.bookOnSpec.pre enc Tryz.prog Tryz.f4 [] false w args ∧ laidMetH Tryz.prog Rows.bookOnRow.laid w) ∧ sizedMet enc Tryz.prog Tryz.f4 (OpenSpec.ofChange Rows.bookOnSpec) false w args)
      (Rows.bookOnSpec.post enc Tryz.prog Tryz.f4 false true false false) := by
  refine returnsInHanded_of_change_and (C := Tryz.checked) (X := fun w _ => laidMetH Tryz.prog Rows.bookOnRow.laid w) (fun _ _ _ hh h => h.of_heap hh) own started (by kernel_rfl) Tryz.func4
    (ChangeSpec.witness_shaped (enc := enc) (C := Tryz.checked) (os := os) (X := fun w _ => laidMetH Tryz.prog Rows.bookOnRow.laid w) false (World.doorLaid Tryz.prog 293 os)
      #[.slice none 0 0, .int .i64 0, .string ⟨#[]⟩] 8 rfl (World.shaped_of_RefB (by kernel_rfl) (by kernel_rfl)) (by kernel_rfl) (by kernel_rfl) (by kernel_rfl) (bon_door os _)) ?_
  intro W base args ds gs before hval0 hW _ hZ hL _
  have hval : ∀ (j : Nat) t v, Tryz.f4.params[j]? = some t → args[j]? = some v → Value.okWide Tryz.prog W .any base t v := hval0
  have hZ' : (DataW.weightsEach Tryz.prog (Tryz.f4.params.toList ++ Rows.bookOnSpec.plain.varTypes Tryz.prog) (ds ++ gs)).all (· ≤ reachBytes) = true := hZ
  have hW' := hW
  obtain ⟨p, q, hA0, hV, rfl, hfz, hnd⟩ := hW
  have hA : DataW.TrodAll enc Tryz.prog W 0 (fun _ => true) true Tryz.f4.params.toList args.toList ds p := hA0
  rw [Tryz.params4] at hA hval hZ'
  obtain ⟨v0, v1, v2, d0, d1, d2, p0, p1, p2, rfl, rfl, rfl, h0, h1, h2⟩ := trodAll_three hA
  obtain ⟨rfl, rfl⟩ := trodVars_none hV
  have k0 := h0
  have hw0 : ∀ k ∈ d0.weights Tryz.prog 22, k ≤ reachBytes := fun k hk => by
    have := List.all_eq_true.1 hZ' k (DataW.weights_mem_each (j := 0) rfl rfl k hk)
    simpa using this
  obtain ⟨sa, sn, sc, rfl⟩ := okWide_slice Tryz.underlying22 (hval 0 22 v0 rfl rfl)
  obtain ⟨fuel0, hf0⟩ := h0
  obtain ⟨Es, hEs⟩ := open_events hf0 hw0
  obtain ⟨n, rfl, rfl, rfl, wn⟩ := open_int Tryz.underlying3 (hval 1 3 v1 rfl rfl) h1
  obtain ⟨x, rfl, rfl, rfl, wx⟩ := open_string Tryz.underlying9 (hval 2 9 v2 rfl rfl) h2
  clear hA0 hval0
  simp only [List.append_nil] at hW'
  have hlt0 : ∀ x ∈ p0, x.block < W.heap.size := fun x hx => hW'.lt x hx
  obtain ⟨⟨s, hg⟩, pn, hn⟩ := bon_glob hL
  refine (bookOn_all Es _ n x s pn W hg hn hEs).mono fun r W' ⟨he, hb⟩ => ?_
  subst he
  refine ⟨_, rfl, _, _, _, [], p0, [], hW', ?_, ?_, ?_, hb.frame _, fun h => by cases h⟩
  · exact trodAll_mk1 (shut_bool Tryz.underlying4 true)
  · rw [show p0 = p0 ++ ([] ++ []) by simp]
    exact trodAll_mk3 (WideElems.Trod_stays (P := Tryz.prog) (show laidOutB Tryz.prog = true by kernel_rfl) (by kernel_rfl) (of_decide_eq_true (by kernel_rfl)) k0 (fun x hx => hb.same (hlt0 x hx)) (fun x hx => by simpa using hlt0 x hx)) (shut_int Tryz.underlying3 wn) (shut_string Tryz.underlying9 wx)
  · rfl

theorem bon_said : Rows.BookOnSaid :=
  OpenClaim.holds_of_wide 4 Tryz.f4 rfl rfl rfl rfl rfl rfl rfl ⟨rfl, rfl, rfl, rfl, rfl⟩ rfl rfl rfl rfl rfl (by kernel_rfl) Tryz.func4 (by kernel_rfl)
    (of_decide_eq_true (by kernel_rfl)) (by unfold Func.isWrapper; rw [if_neg (of_decide_eq_false (by kernel_rfl))]; exact ⟨rfl, rfl⟩)
    (fun os started H enc _ => bon_lifted os started H enc)

/-- no parameter wants a stand-in -/
theorem bon_plain (f : FuncId) (fn : Func) (hf : Tryz.pinned.checked.prog.funcNamed "lammastide/lammastidelaw2.BookOn" = some f) (hfn : Tryz.pinned.checked.prog.funcs[f]? = some fn) :
    true = Tryz.pinned.checked.prog.looks [] ∧ ∀ (j : Nat) t, fn.params[j]? = some t → Tryz.pinned.checked.prog.wantsStandIn t = false := by
  obtain rfl : f = 4 := Option.some.inj ((show Tryz.prog.funcNamed "lammastide/lammastidelaw2.BookOn" = some 4 by kernel_rfl).symm.trans hf) |>.symm
  obtain rfl : fn = Tryz.f4 := (Option.some.inj (Tryz.func4.symm.trans hfn)).symm
  refine ⟨by kernel_rfl, fun j t ht => ?_⟩
  rw [Tryz.params4] at ht
  have hm := Array.mem_of_getElem? ht
  simp only [List.mem_toArray, List.mem_cons, List.not_mem_nil, or_false] at hm
  rcases hm with rfl | rfl | rfl
  · exact (show Tryz.prog.wantsStandIn 22 = false by kernel_rfl)
  · exact (show Tryz.prog.wantsStandIn 3 = false by kernel_rfl)
  · exact (show Tryz.prog.wantsStandIn 9 = false by kernel_rfl)

/-- The law's card. -/
theorem bookOn_card : Rows.BookOnCardSaid :=
  Claim7.holds_tied_plain_at .later [] _ _ _ _ bon_said (fun _ h => by cases h) (by kernel_rfl) (fun _ h => by cases h) bookOn_row_tie rfl ⟨rfl, rfl⟩ (by kernel_rfl) rfl bon_plain (by kernel_rfl)
end Go.Proofs.YtnpecjccajebiaaGreatDoor
