/- Proved: the law PackDeltas returns true for every list of texts, and the argument reads afterwards as it read before; the listed package-level variables hold what the program's own text lays in them (the card's tie). -/
import Derived.Test.YtbocknocmggcpaaGreatDoorCards
import Derived.Test.YtbocknocmggcpaaGreatDoorTie
import Derived.Test.YtbocknocmggcpaaGreatDoorFrame
import Derived.Test.YtbocknocmggcpaaGreatDoorLawPDK
import Derived.SliceStrings
import Derived.Lay
import Derived.WideKeyArgs
namespace Go.Proofs.YtbocknocmggcpaaGreatDoor
open Go.ChangeShapes Go.WideShapes Go.ChangeAt Go.RowKit Cal

theorem kgNone : Tryz.prog.globalNamed "lammastide/api.ErrNone" = some 3 := by kernel_rfl
theorem ktNone : (Tryz.prog.globals[3]?).map (·.type) = some 42 := by kernel_rfl
theorem kgFull : Tryz.prog.globalNamed "lammastide/api.ErrFull" = some 2 := by kernel_rfl
theorem ktFull : (Tryz.prog.globals[2]?).map (·.type) = some 42 := by kernel_rfl
theorem kgRng : Tryz.prog.globalNamed "strconv.ErrRange" = some 8 := by kernel_rfl
theorem ktRng : (Tryz.prog.globals[8]?).map (·.type) = some 42 := by kernel_rfl
theorem kgSyn : Tryz.prog.globalNamed "strconv.ErrSyntax" = some 7 := by kernel_rfl
theorem ktSyn : (Tryz.prog.globals[7]?).map (·.type) = some 42 := by kernel_rfl
def twoK (a0 a1 : Addr) (k : Nat) : Addr := if k = 0 then a0 else a1

theorem pkd_plainly : laidMetH Tryz.prog Rows.packDeltasRow.laid = laidMet Tryz.prog Rows.packDeltasRow.laid := by
  funext W
  exact MakeChecks.laidMetH_plain _ _ _ (by kernel_rfl)
theorem pkd_glob {W : World} (h : laidMetH Tryz.prog Rows.packDeltasRow.laid W) : ∃ s, GlobA s W ∧ GlobN W := by
  rw [pkd_plainly] at h
  have h0 : laidMet Tryz.prog Rows.packDeltasRow.laid W := h
  have ht : Tab W := table h0.tail.tail
  have h3 := h0.tail.tail.tail
  obtain ⟨a0, c0⟩ := sentinel h3 gText tText
  obtain ⟨a1, c1⟩ := sentinel h3.tail gBound tBound
  obtain ⟨a6, c6⟩ := sentinel h3.tail.tail.tail.tail kgRng ktRng
  obtain ⟨a5, c5⟩ := sentinel h3.tail.tail.tail.tail.tail kgSyn ktSyn
  exact ⟨twoK a0 a1, ⟨⟨a6, c6⟩, ⟨a5, c5⟩, c0, c1⟩, ht, a5, c5⟩

theorem lt_of_addrK {w : World} {a : Addr} {v : Value} (h : w.cell? a = some v) : a.block < w.heap.size := by
  rcases Nat.lt_or_ge a.block w.heap.size with hl | hl
  · exact hl
  · simp [World.cell?, Array.getElem?_eq_none hl] at h
theorem open_textsK {H : Type} {enc : TypeId × Value → H} {W : World} {fuel : Nat} {v : Value} {x : DataW H × List MemPlace} (hf : DataW.trod enc Tryz.prog W 0 (fun _ => true) true fuel 22 [v] = some x) : ∃ xs, TxK W v xs := by
  rcases open_strings Tryz.underlying22 Tryz.underlying9 cStr hf with ⟨e, _⟩ | ⟨a, len, cap, ss, e, _, hlc, _, hz, _, hc, _⟩
  · cases e
    exact ⟨[], none, 0, rfl, by simp, fun j h => by simp at h⟩
  · cases e
    rw [if_pos rfl] at hz
    have hl : (ss.take len).length = len := by rw [List.length_take]; omega
    refine ⟨ss.take len, some a, cap, by rw [hl], by omega, fun j hj => ⟨a, rfl, ?_, ?_⟩⟩
    · have := lt_of_addrK (hc j (by omega))
      rwa [addrK_block] at this
    · rw [hc j (by omega), List.getElem_take]
      congr 2
      rw [List.getD_eq_getElem?_getD, List.getElem?_eq_getElem (by omega)]
      rfl

set_option maxRecDepth 100000 in
theorem pkd_lifted (os : Os) (started : os.Started) (H : Type) (enc : TypeId × Value → H) :
    ReturnsInHanded {} Tryz.checked os 3 .any (fun w args => (Rows.packDeltasSpec.pre enc Tryz.prog Tryz.f3 [] false w args ∧ laidMetH Tryz.prog Rows.packDeltasRow.laid w) ∧ sizedMet enc Tryz.prog Tryz.f3 (OpenSpec.ofChange Rows.packDeltasSpec) false w args)
      (Rows.packDeltasSpec.post enc Tryz.prog Tryz.f3 false true false false) := by
  refine returnsInHanded_of_change_and (C := Tryz.checked) (X := fun w _ => laidMetH Tryz.prog Rows.packDeltasRow.laid w) (fun _ _ _ hh h => h.of_heap hh) own started (by kernel_rfl) Tryz.func3
    (ChangeSpec.witness_shaped (enc := enc) (C := Tryz.checked) (os := os) (X := fun w _ => laidMetH Tryz.prog Rows.packDeltasRow.laid w) false (World.laidAll Tryz.prog os Rows.packDeltasRow.laid)
      #[.slice none 0 0] 8 (World.laidAll_os _ _ _)
      (World.shaped_of_ZipB (by kernel_rfl) (by kernel_rfl)) (by kernel_rfl) (by kernel_rfl) (by kernel_rfl)
      (by rw [MakeChecks.laidMetH_plain _ _ _ (by kernel_rfl)]; exact laidMet_laidAll _ (by kernel_rfl) (by kernel_rfl))) ?_
  intro W base args ds gs before hval0 hW _ _ hL _
  have hval : ∀ (j : Nat) t v, Tryz.f3.params[j]? = some t → args[j]? = some v → Value.okWide Tryz.prog W .any base t v := hval0
  have hW' := hW
  obtain ⟨p, q, hA0, hV, rfl, hfz, hnd⟩ := hW
  have hA : DataW.TrodAll enc Tryz.prog W 0 (fun _ => true) true Tryz.f3.params.toList args.toList ds p := hA0
  rw [Tryz.params3] at hA hval
  obtain ⟨v0, d0, rfl, rfl, h0⟩ := trodAll_one hA
  obtain ⟨rfl, rfl⟩ := trodVars_none hV
  have k0 := h0
  obtain ⟨sa0, sn0, sc0, rfl⟩ := okWide_slice Tryz.underlying22 (hval 0 22 v0 rfl rfl)
  obtain ⟨fuel0, hf0⟩ := h0
  obtain ⟨X0, hX0⟩ := open_textsK hf0
  clear hA0 hval0
  simp only [List.append_nil] at hW'
  have hlt0 : ∀ x ∈ p, x.block < W.heap.size := fun x hx => hW'.lt x hx
  obtain ⟨s, hga, hgn⟩ := pkd_glob hL
  refine (packDeltas_all X0 _ s W hga hgn hX0).mono fun r W' ⟨he, hb⟩ => ?_
  subst he
  refine ⟨_, rfl, _, _, _, [], p, [], hW', ?_, ?_, ?_, hb.frame _, fun h => by cases h⟩
  · exact trodAll_mk1 (shut_bool Tryz.underlying4 true)
  · exact trodAll_mk1 (WideElems.Trod_stays (P := Tryz.prog) (by kernel_rfl) (by kernel_rfl) (of_decide_eq_true (by kernel_rfl)) k0 (fun x hx => hb.same (hlt0 x hx)) (fun x hx => by simpa using hlt0 x hx))
  · rfl

theorem pkd_said : Rows.PackDeltasSaid :=
  OpenClaim.holds_of_wide 3 Tryz.f3 rfl rfl rfl rfl rfl rfl rfl ⟨rfl, rfl, rfl, rfl, rfl⟩ rfl rfl rfl rfl rfl (by kernel_rfl) Tryz.func3 (by kernel_rfl)
    (of_decide_eq_true (by kernel_rfl)) (by unfold Func.isWrapper; rw [if_neg (of_decide_eq_false (by kernel_rfl))]; exact ⟨rfl, rfl⟩)
    (fun os started H enc _ => pkd_lifted os started H enc)

/-- no parameter wants a stand-in -/
theorem pkd_plain (f : FuncId) (fn : Func) (hf : Tryz.pinned.checked.prog.funcNamed "lammastide/lammastidelaw3.PackDeltas" = some f) (hfn : Tryz.pinned.checked.prog.funcs[f]? = some fn) :
    true = Tryz.pinned.checked.prog.looks [] ∧ ∀ (j : Nat) t, fn.params[j]? = some t → Tryz.pinned.checked.prog.wantsStandIn t = false := by
  obtain rfl : f = 3 := Option.some.inj ((show Tryz.prog.funcNamed "lammastide/lammastidelaw3.PackDeltas" = some 3 by kernel_rfl).symm.trans hf) |>.symm
  obtain rfl : fn = Tryz.f3 := (Option.some.inj (Tryz.func3.symm.trans hfn)).symm
  refine ⟨by kernel_rfl, fun j t ht => ?_⟩
  rw [Tryz.params3] at ht
  have hm := Array.mem_of_getElem? ht
  obtain rfl : t = 22 := by simpa using hm
  exact (show Tryz.prog.wantsStandIn 22 = false by kernel_rfl)

/-- The law's card. -/
theorem packDeltas_card : Rows.PackDeltasCardSaid :=
  Claim7.holds_tied_plain_at .later [] _ _ _ _ pkd_said (fun _ h => by cases h) (by kernel_rfl) (fun _ h => by cases h) packDeltas_row_tie rfl ⟨rfl, rfl⟩ (by kernel_rfl) rfl pkd_plain (by kernel_rfl)
end Go.Proofs.YtbocknocmggcpaaGreatDoor
