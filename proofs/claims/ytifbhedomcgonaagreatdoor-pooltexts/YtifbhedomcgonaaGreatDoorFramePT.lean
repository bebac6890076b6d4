/- Proved: the law PoolTexts returns true for every list of texts, every text and every number, and each argument reads afterwards as it read before; the listed package-level variables hold what the program's own text lays in them (the card's tie). -/
import Derived.Test.YtifbhedomcgonaaGreatDoorCards
import Derived.Test.YtifbhedomcgonaaGreatDoorTie
import Derived.Test.YtifbhedomcgonaaGreatDoorFrame
import Derived.Test.YtifbhedomcgonaaGreatDoorSents
import Derived.Test.YtifbhedomcgonaaGreatDoorHandle
import Derived.Test.YtifbhedomcgonaaGreatDoorLawPT
import Derived.SliceStrings
import Derived.Lay
import Derived.WideKeyArgs
namespace Go.Proofs.YtifbhedomcgonaaGreatDoor
open Go.ChangeShapes Go.WideShapes Go.ChangeAt Go.RowKit Cal
open Go.ChangeMaps (open_string shut_string)

theorem pgSyn : Tryz.prog.globalNamed "strconv.ErrSyntax" = some 14 := by kernel_rfl
theorem ptSyn : (Tryz.prog.globals[14]?).map (·.type) = some 30 := by kernel_rfl
/-- the row's list, but for the handle -/
def laid16 : List (String × DataW Unit) := [("math/bits.deBruijn32tab", Rows.laid_math_bits_deBruijn32tab), ("math/bits.deBruijn64tab", Rows.laid_math_bits_deBruijn64tab), ("internal/strconv.uint64pow10", Rows.laid_internal_strconv_uint64pow10), ("lammastide/api.ErrText", Rows.laid_lammastide_api_ErrText), ("lammastide/api.ErrBound", Rows.laid_lammastide_api_ErrBound), ("lammastide/api.ErrShape", Rows.laid_lammastide_api_ErrShape), ("lammastide/api.ErrName", Rows.laid_lammastide_api_ErrName), ("lammastide/api.ErrNone", Rows.laid_lammastide_api_ErrNone), ("lammastide/api.ErrExist", Rows.laid_lammastide_api_ErrExist), ("lammastide/api.ErrFull", Rows.laid_lammastide_api_ErrFull), ("lammastide/api.ErrOrder", Rows.laid_lammastide_api_ErrOrder), ("lammastide/api.ErrStale", Rows.laid_lammastide_api_ErrStale), ("lammastide/api.ErrClash", Rows.laid_lammastide_api_ErrClash), ("lammastide/api.ErrOff", Rows.laid_lammastide_api_ErrOff), ("strconv.ErrRange", Rows.laid_strconv_ErrRange), ("strconv.ErrSyntax", Rows.laid_strconv_ErrSyntax)]
theorem laid16_11 : laid16.filter (fun x => laid11.any (fun y => y.1 == x.1)) = laid11 := by kernel_rfl
theorem ptx_glob {W : World} (h : laidMetH Tryz.prog Rows.poolTextsRow.laid W) : GlobN W ∧ ∃ s, Sents s W := by
  have h' : laidMet Tryz.prog laid16 W ∧ handlesMet Tryz.prog [("errors.errorType", Rows.laid_errors_errorType)] W := h
  have h0 := h'.1
  have h1 := h0.filter (fun x => laid11.any (fun y => y.1 == x.1))
  rw [laid16_11] at h1
  obtain ⟨a5, c5⟩ := sentinel h0.tail.tail.tail.tail.tail.tail.tail.tail.tail.tail.tail.tail.tail.tail.tail pgSyn ptSyn
  exact ⟨⟨table h0.tail.tail, a5, c5⟩, sents_of_laid h1 (et_of_handles h'.2 (List.mem_singleton.2 rfl))⟩

theorem ptx_door (os : Os) (args : Array Value) : laidMetH Tryz.prog Rows.poolTextsRow.laid ((World.doorLaid Tryz.prog 278 os).forCall (fun _ _ => 0) ⟨#[], args, []⟩).memory :=
  laidMetH_of_parts3 (fuel := 8) (laidMet_of_run' 8 (by kernel_rfl) (by kernel_rfl)) (by kernel_rfl) (by kernel_rfl)

theorem lt_of_addr {w : World} {a : Addr} {v : Value} (h : w.cell? a = some v) : a.block < w.heap.size := by
  rcases Nat.lt_or_ge a.block w.heap.size with hl | hl
  · exact hl
  · simp [World.cell?, Array.getElem?_eq_none hl] at h
theorem open_texts {H : Type} {enc : TypeId × Value → H} {W : World} {fuel : Nat} {v : Value} {x : DataW H × List MemPlace} (hf : DataW.trod enc Tryz.prog W 0 (fun _ => true) true fuel 22 [v] = some x) : ∃ xs, TxA W v xs := by
  rcases open_strings Tryz.underlying22 Tryz.underlying9 cStr hf with ⟨e, _⟩ | ⟨a, len, cap, ss, e, _, hlc, _, hz, _, hc, _⟩
  · cases e
    exact ⟨[], none, 0, rfl, by simp, fun j h => by simp at h⟩
  · cases e
    rw [if_pos rfl] at hz
    have hl : (ss.take len).length = len := by rw [List.length_take]; omega
    refine ⟨ss.take len, some a, cap, by rw [hl], by omega, fun j hj => ⟨a, rfl, ?_, ?_⟩⟩
    · have := lt_of_addr (hc j (by omega))
      rwa [addr_block] at this
    · rw [hc j (by omega), List.getElem_take]
      congr 2
      rw [List.getD_eq_getElem?_getD, List.getElem?_eq_getElem (by omega)]
      rfl

set_option maxRecDepth 100000 in
theorem ptx_lifted (os : Os) (started : os.Started) (H : Type) (enc : TypeId × Value → H) :
    ReturnsInHanded {} Tryz.checked os 3 .any (fun w args => (Rows.poolTextsSpec.pre enc Tryz.prog Tryz.f3 [] false w args ∧ laidMetH Tryz.prog Rows.poolTextsRow.laid w) ∧ sizedMet enc Tryz.prog Tryz.f3 (OpenSpec.ofChange Rows.poolTextsSpec) false w args)
      (Rows.poolTextsSpec.post enc Tryz.prog Tryz.f3 false true false false) := by
  refine returnsInHanded_of_change_and (C := Tryz.checked) (X := fun w _ => laidMetH Tryz.prog Rows.poolTextsRow.laid w) (fun _ _ _ hh h => h.of_heap hh) own started (by kernel_rfl) Tryz.func3
    (ChangeSpec.witness_shaped (enc := enc) (C := Tryz.checked) (os := os) (X := fun w _ => laidMetH Tryz.prog Rows.poolTextsRow.laid w) false (World.doorLaid Tryz.prog 278 os)
      #[.slice none 0 0, .string ⟨#[]⟩, .int .i64 0] 8 rfl (World.shaped_of_RefB (by kernel_rfl) (by kernel_rfl)) (by kernel_rfl) (by kernel_rfl) (by kernel_rfl) (ptx_door os _)) ?_
  intro W base args ds gs before hval0 hW _ _ hL _
  have hval : ∀ (j : Nat) t v, Tryz.f3.params[j]? = some t → args[j]? = some v → Value.okWide Tryz.prog W .any base t v := hval0
  have hW' := hW
  obtain ⟨p, q, hA0, hV, rfl, hfz, hnd⟩ := hW
  have hA : DataW.TrodAll enc Tryz.prog W 0 (fun _ => true) true Tryz.f3.params.toList args.toList ds p := hA0
  rw [Tryz.params3] at hA hval
  obtain ⟨v0, v1, v2, d0, d1, d2, p0, p1, p2, rfl, rfl, rfl, h0, h1, h2⟩ := trodAll_three hA
  obtain ⟨rfl, rfl⟩ := trodVars_none hV
  have k0 := h0
  obtain ⟨sa0, sn0, sc0, rfl⟩ := okWide_slice Tryz.underlying22 (hval 0 22 v0 rfl rfl)
  obtain ⟨t, rfl, rfl, rfl, ht⟩ := open_string Tryz.underlying9 (hval 1 9 v1 rfl rfl) h1
  obtain ⟨n, rfl, rfl, rfl, wn⟩ := open_int Tryz.underlying3 (hval 2 3 v2 rfl rfl) h2
  obtain ⟨fuel0, hf0⟩ := h0
  obtain ⟨X0, hX0⟩ := open_texts hf0
  clear hA0 hval0
  simp only [List.append_nil] at hW'
  have hlt0 : ∀ x ∈ p0, x.block < W.heap.size := fun x hx => hW'.lt x hx
  obtain ⟨hgn, s, hg⟩ := ptx_glob hL
  refine (poolTexts_all X0 _ t n s W hg hgn hX0).mono fun r W' ⟨he, hb⟩ => ?_
  subst he
  refine ⟨_, rfl, _, _, _, [], p0, [], hW', ?_, ?_, ?_, hb.frame _, fun h => by cases h⟩
  · exact trodAll_mk1 (shut_bool Tryz.underlying4 true)
  · rw [show p0 = p0 ++ ([] ++ []) by simp]
    exact trodAll_mk3 (WideElems.Trod_stays (P := Tryz.prog) (show laidOutB Tryz.prog = true by kernel_rfl) (by kernel_rfl) (of_decide_eq_true (by kernel_rfl)) k0 (fun x hx => hb.same (hlt0 x hx)) (fun x hx => by simpa using hlt0 x hx)) (shut_string Tryz.underlying9 ht) (shut_int Tryz.underlying3 wn)
  · rfl

theorem ptx_said : Rows.PoolTextsSaid :=
  OpenClaim.holds_of_wide 3 Tryz.f3 rfl rfl rfl rfl rfl rfl rfl ⟨rfl, rfl, rfl, rfl, rfl⟩ rfl rfl rfl rfl rfl (by kernel_rfl) Tryz.func3 (by kernel_rfl)
    (of_decide_eq_true (by kernel_rfl)) (by unfold Func.isWrapper; rw [if_neg (of_decide_eq_false (by kernel_rfl))]; exact ⟨rfl, rfl⟩)
    (fun os started H enc _ => ptx_lifted os started H enc)

/-- no parameter wants a stand-in -/
theorem ptx_plain (f : FuncId) (fn : Func) (hf : Tryz.pinned.checked.prog.funcNamed "lammastide/lammastidelaw2.PoolTexts" = some f) (hfn : Tryz.pinned.checked.prog.funcs[f]? = some fn) :
    true = Tryz.pinned.checked.prog.looks [] ∧ ∀ (j : Nat) t, fn.params[j]? = some t → Tryz.pinned.checked.prog.wantsStandIn t = false := by
  obtain rfl : f = 3 := Option.some.inj ((show Tryz.prog.funcNamed "lammastide/lammastidelaw2.PoolTexts" = some 3 by kernel_rfl).symm.trans hf) |>.symm
  obtain rfl : fn = Tryz.f3 := (Option.some.inj (Tryz.func3.symm.trans hfn)).symm
  refine ⟨by kernel_rfl, fun j t ht => ?_⟩
  rw [Tryz.params3] at ht
  have hm := Array.mem_of_getElem? ht
  have ht2 : t = 22 ∨ t = 9 ∨ t = 3 := by simpa using hm
  rcases ht2 with rfl | rfl | rfl
  · exact (show Tryz.prog.wantsStandIn 22 = false by kernel_rfl)
  · exact (show Tryz.prog.wantsStandIn 9 = false by kernel_rfl)
  · exact (show Tryz.prog.wantsStandIn 3 = false by kernel_rfl)

/-- The law's card. -/
theorem poolTexts_card : Rows.PoolTextsCardSaid :=
  Claim7.holds_tied_plain_at .later [] _ _ _ _ ptx_said (fun _ h => by cases h) (by kernel_rfl) (fun _ h => by cases h) poolTexts_row_tie rfl ⟨rfl, rfl⟩ (by kernel_rfl) rfl ptx_plain (by kernel_rfl)
end Go.Proofs.YtifbhedomcgonaaGreatDoor
