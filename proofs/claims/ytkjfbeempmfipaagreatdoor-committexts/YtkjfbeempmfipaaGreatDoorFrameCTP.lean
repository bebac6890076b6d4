/- Proved: the law CommitTexts returns true for all numbers, every list of numbers and all texts, and each argument reads afterwards as it read before; the listed package-level variables hold what the program's own text lays in them (the card's tie). -/
import Derived.Test.YtkjfbeempmfipaaGreatDoorCards
import Derived.Test.YtkjfbeempmfipaaGreatDoorTie
import Derived.Test.YtkjfbeempmfipaaGreatDoorJtAC
import Derived.Test.YtkjfbeempmfipaaGreatDoorJtAD
import Derived.Test.YtkjfbeempmfipaaGreatDoorJtAR
import Derived.ChangeSlices
import Derived.DataShut
import Derived.Lay
import Derived.WideKeyArgs
namespace Go.Proofs.YtkjfbeempmfipaaGreatDoor
open Go.ChangeShapes Go.WideShapes Go.ChangeAt Go.RowKit Cal
open Go.ChangeMaps (open_string shut_string)

theorem pgSyn : Tryz.prog.globalNamed "strconv.ErrSyntax" = some 14 := by kernel_rfl
theorem ptSyn : (Tryz.prog.globals[14]?).map (·.type) = some 30 := by kernel_rfl
/-- the row's list, but for the handle -/
def laid19 : List (String × DataW Unit) := [("math/bits.deBruijn32tab", Rows.laid_math_bits_deBruijn32tab), ("math/bits.deBruijn64tab", Rows.laid_math_bits_deBruijn64tab), ("internal/strconv.uint64pow10", Rows.laid_internal_strconv_uint64pow10), ("unicode/utf8.acceptRanges", Rows.laid_unicode_utf8_acceptRanges), ("lammastide/api.ErrText", Rows.laid_lammastide_api_ErrText), ("lammastide/api.ErrBound", Rows.laid_lammastide_api_ErrBound), ("lammastide/api.ErrShape", Rows.laid_lammastide_api_ErrShape), ("lammastide/api.ErrName", Rows.laid_lammastide_api_ErrName), ("lammastide/api.ErrNone", Rows.laid_lammastide_api_ErrNone), ("lammastide/api.ErrExist", Rows.laid_lammastide_api_ErrExist), ("lammastide/api.ErrFull", Rows.laid_lammastide_api_ErrFull), ("lammastide/api.ErrOrder", Rows.laid_lammastide_api_ErrOrder), ("lammastide/api.ErrStale", Rows.laid_lammastide_api_ErrStale), ("lammastide/api.ErrClash", Rows.laid_lammastide_api_ErrClash), ("lammastide/api.ErrOff", Rows.laid_lammastide_api_ErrOff), ("strconv.ErrRange", Rows.laid_strconv_ErrRange), ("strconv.ErrSyntax", Rows.laid_strconv_ErrSyntax), ("lammastide/rule.dayNames", Rows.laid_lammastide_rule_dayNames), ("unicode/utf8.first", Rows.laid_unicode_utf8_first)]
theorem laid19_11 : laid19.filter (fun x => laid11.any (fun y => y.1 == x.1)) = laid11 := by kernel_rfl
theorem ctx_glob {W : World} (h : laidMetH Tryz.prog Rows.commitTextsRow.laid W) : GlobN W ∧ ∃ s, Sents s W := by
  have h' : laidMet Tryz.prog laid19 W ∧ handlesMet Tryz.prog [("errors.errorType", Rows.laid_errors_errorType)] W := h
  have h0 := h'.1
  have h1 := h0.filter (fun x => laid11.any (fun y => y.1 == x.1))
  rw [laid19_11] at h1
  obtain ⟨a5, c5⟩ := sentinel h0.tail.tail.tail.tail.tail.tail.tail.tail.tail.tail.tail.tail.tail.tail.tail.tail pgSyn ptSyn
  exact ⟨⟨table h0.tail.tail, a5, c5⟩, sents_of_laid h1 (et_of_handles h'.2 (List.mem_singleton.2 rfl))⟩

theorem ctx_door (os : Os) (args : Array Value) : laidMetH Tryz.prog Rows.commitTextsRow.laid (((World.doorLaid Tryz.prog 293 os).layVars Tryz.prog [("unicode/utf8.first", Rows.laid_unicode_utf8_first)]).forCall (fun _ _ => 0) ⟨#[], args, []⟩).memory :=
  laidMetH_of_parts3 (fuel := 8) (laidMet_of_run' 8 (by kernel_rfl) (by kernel_rfl)) (by kernel_rfl) (by kernel_rfl)

theorem lt_of_addr {w : World} {a : Addr} {v : Value} (h : w.cell? a = some v) : a.block < w.heap.size := by
  rcases Nat.lt_or_ge a.block w.heap.size with hl | hl
  · exact hl
  · simp [World.cell?, Array.getElem?_eq_none hl] at h
/-- numbers that were handed over -/
theorem open_nums {H : Type} {enc : TypeId × Value → H} {W : World} {fuel : Nat} {v : Value} {x : DataW H × List MemPlace} (h : DataW.trod enc Tryz.prog W 0 (fun _ => true) true fuel 22 [v] = some x) : ∃ ds : List Int, Got W v ds ∧ ∀ d ∈ ds, d ≤ 9223372036854775807 := by
  rcases open_ints Tryz.underlying22 Tryz.underlying3 (show Tryz.prog.cellsOf 3 = 1 by kernel_rfl) h with ⟨e2, _⟩ | ⟨a, len, cap, zs, e2, _, hlc, _, hz, _, hc, hwf⟩
  · cases e2
    exact ⟨[], ⟨none, 0, rfl, fun _ => ⟨rfl, rfl⟩, fun ad ha => by cases ha⟩, fun d hd => by cases hd⟩
  · cases e2
    have hzl : zs.length = cap := by simpa using hz
    have hl' : (zs.take len).length = len := by simp; omega
    refine ⟨zs.take len, ⟨some a, cap, by rw [hl'], fun ha => (by cases ha), fun ad ha j hj => ?_⟩, fun d hd => ((Lit.wf_int_iff .i64 d).1 (hwf d (List.mem_of_mem_take hd))).2⟩
    cases ha
    have hj' : j < len := by omega
    have hcell := hc j (by omega)
    have e5 : zs.getD j 0 = (zs.take len)[j] := by simp [List.getD, List.getElem?_eq_getElem (show j < zs.length by omega)]
    rw [e5] at hcell
    have hb := lt_of_addr hcell
    rw [addr_add_block] at hb
    exact ⟨hb, hcell⟩
theorem trodAll_fiveC {H : Type} {enc : TypeId × Value → H} {P : Program} {w : World} {base : Nat} {spare : Nat → Bool} {held : Bool} {t0 t1 t2 t3 t4 : TypeId} {args : Array Value} {ds : List (DataW H)} {ps : List MemPlace} (h : DataW.TrodAll enc P w base spare held [t0, t1, t2, t3, t4] args.toList ds ps) :
    ∃ v0 v1 v2 v3 v4 d0 d1 d2 d3 d4 p0 p1 p2 p3 p4, args = #[v0, v1, v2, v3, v4] ∧ ds = [d0, d1, d2, d3, d4] ∧ ps = p0 ++ p1 ++ p2 ++ p3 ++ p4 ∧ DataW.Trod enc P w base spare held t0 v0 d0 p0 ∧ DataW.Trod enc P w base spare held t1 v1 d1 p1 ∧ DataW.Trod enc P w base spare held t2 v2 d2 p2 ∧ DataW.Trod enc P w base spare held t3 v3 d3 p3 ∧ DataW.Trod enc P w base spare held t4 v4 d4 p4 := by
  obtain ⟨v0, x0, d0, y0, p0, q0, hargs, rfl, rfl, h0, r0⟩ := trodAll_cons h
  obtain ⟨v1, x1, d1, y1, p1, q1, rfl, rfl, rfl, h1, r1⟩ := trodAll_cons r0
  obtain ⟨v2, x2, d2, y2, p2, q2, rfl, rfl, rfl, h2, r2⟩ := trodAll_cons r1
  obtain ⟨v3, x3, d3, y3, p3, q3, rfl, rfl, rfl, h3, r3⟩ := trodAll_cons r2
  obtain ⟨v4, x4, d4, y4, p4, q4, rfl, rfl, rfl, h4, r4⟩ := trodAll_cons r3
  obtain ⟨rfl, rfl, rfl⟩ := trodAll_nil r4
  exact ⟨v0, v1, v2, v3, v4, d0, d1, d2, d3, d4, p0, p1, p2, p3, p4, by cases args; simp_all, rfl, by simp, h0, h1, h2, h3, h4⟩

set_option maxRecDepth 100000 in
theorem ctx_lifted (os : Os) (started : os.Started) (H : Type) (enc : TypeId × Value → H) :
    ReturnsInHanded {} Tryz.checked os 3 .any (fun w args => (Rows.commitTextsSpec.pre enc Tryz.prog Tryz.f3 [] false w args ∧ laidMetH Tryz.prog Rows.commitTextsRow.laid w) ∧ sizedMet enc Tryz.prog Tryz.f3 (OpenSpec.ofChange Rows.commitTextsSpec) false w args)
      (Rows.commitTextsSpec.post enc Tryz.prog Tryz.f3 false true false false) := by
  refine returnsInHanded_of_change_and (C := Tryz.checked) (X := fun w _ => laidMetH Tryz.prog Rows.commitTextsRow.laid w) (fun _ _ _ hh h => h.of_heap hh) own started (by kernel_rfl) Tryz.func3
    (ChangeSpec.witness_shaped (enc := enc) (C := Tryz.checked) (os := os) (X := fun w _ => laidMetH Tryz.prog Rows.commitTextsRow.laid w) false ((World.doorLaid Tryz.prog 293 os).layVars Tryz.prog [("unicode/utf8.first", Rows.laid_unicode_utf8_first)])
      #[.int .i64 0, .slice none 0 0, .int .i64 0, .string ⟨#[]⟩, .string ⟨#[]⟩] 8 rfl (World.shaped_of_RefB (by kernel_rfl) (by kernel_rfl)) (by kernel_rfl) (by kernel_rfl) (by kernel_rfl) (ctx_door os _)) ?_
  intro W base args ds gs before hval0 hW _ _ hL _
  have hval : ∀ (j : Nat) t v, Tryz.f3.params[j]? = some t → args[j]? = some v → Value.okWide Tryz.prog W .any base t v := hval0
  have hW' := hW
  obtain ⟨p, q, hA0, hV, rfl, hfz, hnd⟩ := hW
  have hA : DataW.TrodAll enc Tryz.prog W 0 (fun _ => true) true Tryz.f3.params.toList args.toList ds p := hA0
  rw [Tryz.params3] at hA hval
  obtain ⟨v0, v1, v2, v3, v4, d0, d1, d2, d3, d4, p0, p1, p2, p3, p4, rfl, rfl, rfl, h0, h1, h2, h3, h4⟩ := trodAll_fiveC hA
  obtain ⟨rfl, rfl⟩ := trodVars_none hV
  have k1 := h1
  obtain ⟨t, rfl, rfl, rfl, wt⟩ := open_int Tryz.underlying3 (hval 0 3 v0 rfl rfl) h0
  obtain ⟨sa1, sn1, sc1, rfl⟩ := okWide_slice Tryz.underlying22 (hval 1 22 v1 rfl rfl)
  obtain ⟨a, rfl, rfl, rfl, wa⟩ := open_int Tryz.underlying3 (hval 2 3 v2 rfl rfl) h2
  obtain ⟨note, rfl, rfl, rfl, hnote⟩ := open_string Tryz.underlying9 (hval 3 9 v3 rfl rfl) h3
  obtain ⟨x, rfl, rfl, rfl, hx⟩ := open_string Tryz.underlying9 (hval 4 9 v4 rfl rfl) h4
  obtain ⟨fuel1, hf1⟩ := h1
  obtain ⟨ps, hps, hpm⟩ := open_nums hf1
  clear hA0 hval0
  simp only [List.append_nil, List.nil_append] at hW'
  have hlt1 : ∀ x ∈ p1, x.block < W.heap.size := fun x hx => hW'.lt x hx
  obtain ⟨hgn, s, hg⟩ := ctx_glob hL
  refine (commitTexts_any t a _ ps note x s (fun n => match n with | 0 => s 0 | 1 => s 1 | 2 => s 4 | 3 => s 5 | _ => s 6) rfl rfl W hgn.tab hgn ⟨hg.c0, hg.c1, hg.c4, hg.c5, hg.c6⟩ hg hps ((Lit.wf_int_iff .i64 t).1 wt).2 ((Lit.wf_int_iff .i64 a).1 wa).2 hpm).mono fun r W' ⟨he, hb⟩ => ?_
  subst he
  refine ⟨_, rfl, _, _, _, [], p1, [], hW', ?_, ?_, ?_, hb.frame _, fun h => by cases h⟩
  · exact trodAll_mk1 (shut_bool Tryz.underlying4 true)
  · rw [show p1 = [] ++ (p1 ++ ([] ++ ([] ++ []))) by simp]
    exact ⟨_, _, shut_int Tryz.underlying3 wt, trodAll_mk4 (WideElems.Trod_stays (P := Tryz.prog) (show laidOutB Tryz.prog = true by kernel_rfl) (by kernel_rfl) (of_decide_eq_true (by kernel_rfl)) k1 (fun x hx => hb.same (hlt1 x hx)) (fun x hx => by simpa using hlt1 x hx)) (shut_int Tryz.underlying3 wa) (shut_string Tryz.underlying9 hnote) (shut_string Tryz.underlying9 hx), rfl⟩
  · rfl

theorem ctx_said : Rows.CommitTextsSaid :=
  OpenClaim.holds_of_wide 3 Tryz.f3 rfl rfl rfl rfl rfl rfl rfl ⟨rfl, rfl, rfl, rfl, rfl⟩ rfl rfl rfl rfl rfl (by kernel_rfl) Tryz.func3 (by kernel_rfl)
    (of_decide_eq_true (by kernel_rfl)) (by unfold Func.isWrapper; rw [if_neg (of_decide_eq_false (by kernel_rfl))]; exact ⟨rfl, rfl⟩)
    (fun os started H enc _ => ctx_lifted os started H enc)

/-- no parameter wants a stand-in -/
theorem ctx_plain (f : FuncId) (fn : Func) (hf : Tryz.pinned.checked.prog.funcNamed "lammastide/lammastidelaw3.CommitTexts" = some f) (hfn : Tryz.pinned.checked.prog.funcs[f]? = some fn) :
    true = Tryz.pinned.checked.prog.looks [] ∧ ∀ (j : Nat) t, fn.params[j]? = some t → Tryz.pinned.checked.prog.wantsStandIn t = false := by
  obtain rfl : f = 3 := Option.some.inj ((show Tryz.prog.funcNamed "lammastide/lammastidelaw3.CommitTexts" = some 3 by kernel_rfl).symm.trans hf) |>.symm
  obtain rfl : fn = Tryz.f3 := (Option.some.inj (Tryz.func3.symm.trans hfn)).symm
  refine ⟨by kernel_rfl, fun j t ht => ?_⟩
  rw [Tryz.params3] at ht
  have hm := Array.mem_of_getElem? ht
  have ht2 : t = 3 ∨ t = 22 ∨ t = 3 ∨ t = 9 ∨ t = 9 := by simpa using hm
  rcases ht2 with rfl | rfl | rfl | rfl | rfl
  · exact (show Tryz.prog.wantsStandIn 3 = false by kernel_rfl)
  · exact (show Tryz.prog.wantsStandIn 22 = false by kernel_rfl)
  · exact (show Tryz.prog.wantsStandIn 3 = false by kernel_rfl)
  · exact (show Tryz.prog.wantsStandIn 9 = false by kernel_rfl)
  · exact (show Tryz.prog.wantsStandIn 9 = false by kernel_rfl)

/-- The law's card. -/
theorem commitTexts_card : Rows.CommitTextsCardSaid :=
  Claim7.holds_tied_plain_at .later [] _ _ _ _ ctx_said (fun _ h => by cases h) (by kernel_rfl) (fun _ h => by cases h) commitTexts_row_tie rfl ⟨rfl, rfl⟩ (by kernel_rfl) rfl ctx_plain (by kernel_rfl)
end Go.Proofs.YtkjfbeempmfipaaGreatDoor
