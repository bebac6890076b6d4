/- Proved: the law PoolBack returns true for every list of texts, and the argument reads afterwards as it read before; the listed package-level variables hold what the program's own text lays in them (the card's tie). -/
import Derived.Test.YtifbhedomcgonaaDoorCards
import Derived.Test.YtifbhedomcgonaaDoorTie
import Derived.Test.YtifbhedomcgonaaDoorFrame
import Derived.Test.YtifbhedomcgonaaDoorLawPB
import Derived.SliceStrings
import Derived.Lay
import Derived.WideKeyArgs
namespace Go.Proofs.YtifbhedomcgonaaDoor
open Go.ChangeShapes Go.WideShapes Go.ChangeAt Go.RowKit Cal

theorem pgNone : Tryd.prog.globalNamed "lammastide/api.ErrNone" = some 2 := by kernel_rfl
theorem ptNone : (Tryd.prog.globals[2]?).map (·.type) = some 28 := by kernel_rfl
theorem pgExist : Tryd.prog.globalNamed "lammastide/api.ErrExist" = some 4 := by kernel_rfl
theorem ptExist : (Tryd.prog.globals[4]?).map (·.type) = some 28 := by kernel_rfl
theorem pgFull : Tryd.prog.globalNamed "lammastide/api.ErrFull" = some 1 := by kernel_rfl
theorem ptFull : (Tryd.prog.globals[1]?).map (·.type) = some 28 := by kernel_rfl
theorem pgSyn : Tryd.prog.globalNamed "strconv.ErrSyntax" = some 6 := by kernel_rfl
theorem ptSyn : (Tryd.prog.globals[6]?).map (·.type) = some 28 := by kernel_rfl
def five (a0 a1 a2 a3 a4 : Addr) (k : Nat) : Addr := if k = 0 then a0 else if k = 1 then a1 else if k = 2 then a2 else if k = 3 then a3 else a4

theorem pbk_plainly : laidMetH Tryd.prog Rows.poolBackRow.laid = laidMet Tryd.prog Rows.poolBackRow.laid := by
  funext W
  exact MakeChecks.laidMetH_plain _ _ _ (by kernel_rfl)
theorem pbk_glob {W : World} (h : laidMetH Tryd.prog Rows.poolBackRow.laid W) : ∃ s, GlobP s W ∧ GlobN W := by
  rw [pbk_plainly] at h
  have h0 : laidMet Tryd.prog Rows.poolBackRow.laid W := h
  have ht : Tab W := table h0.tail.tail
  have h3 := h0.tail.tail.tail
  obtain ⟨a0, c0⟩ := sentinel h3 gText tText
  obtain ⟨a1, c1⟩ := sentinel h3.tail gBound tBound
  obtain ⟨a2, c2⟩ := sentinel h3.tail.tail pgNone ptNone
  obtain ⟨a3, c3⟩ := sentinel h3.tail.tail.tail pgExist ptExist
  obtain ⟨a4, c4⟩ := sentinel h3.tail.tail.tail.tail pgFull ptFull
  obtain ⟨a5, c5⟩ := sentinel h3.tail.tail.tail.tail.tail.tail pgSyn ptSyn
  exact ⟨five a0 a1 a2 a3 a4, ⟨c0, c1, c2, c3, c4⟩, ht, a5, c5⟩

theorem lt_of_addr {w : World} {a : Addr} {v : Value} (h : w.cell? a = some v) : a.block < w.heap.size := by
  rcases Nat.lt_or_ge a.block w.heap.size with hl | hl
  · exact hl
  · simp [World.cell?, Array.getElem?_eq_none hl] at h
theorem open_texts {H : Type} {enc : TypeId × Value → H} {W : World} {fuel : Nat} {v : Value} {x : DataW H × List MemPlace} (hf : DataW.trod enc Tryd.prog W 0 (fun _ => true) true fuel 22 [v] = some x) : ∃ xs, TxA W v xs := by
  rcases open_strings Tryd.underlying22 Tryd.underlying9 cStr hf with ⟨e, _⟩ | ⟨a, len, cap, ss, e, _, hlc, _, hz, _, hc, _⟩
  · cases e
    exact ⟨[], none, 0, rfl, by simp, fun j h => by simp at h⟩
  · cases e
    rw [if_pos rfl] at hz
    have hl : (ss.take len).length = len := by rw [List.length_take]; omega
    refine ⟨ss.take len, some a, cap, by rw [hl], by omega, fun j hj => ⟨a, rfl, ?_, ?_⟩⟩
    · have := lt_of_addr (hc j (by omega))
      rwa [addr_block] at this
    · rw [hc j (by omega), List.getElem_take]
      congr 2
      rw [List.getD_eq_getElem?_getD, List.getElem?_eq_getElem (by omega)]
      rfl

set_option maxRecDepth 100000 in
theorem pbk_lifted (os : Os) (started : os.Started) (H : Type) (enc : TypeId × Value → H) :
    ReturnsInHanded {} Tryd.checked os 3 .any (fun w args => (Rows.poolBackSpec.pre enc Tryd.prog Tryd.f3 [] false w args ∧ laidMetH Tryd.prog Rows.poolBackRow.laid w) ∧ sizedMet enc Tryd.prog Tryd.f3 (OpenSpec.ofChange Rows.poolBackSpec) false w args)
      (Rows.poolBackSpec.post enc Tryd.prog Tryd.f3 false true false false) := by
  refine returnsInHanded_of_change_and (C := Tryd.checked) (X := fun w _ => laidMetH Tryd.prog Rows.poolBackRow.laid w) (fun _ _ _ hh h => h.of_heap hh) own started (by kernel_rfl) Tryd.func3
    (ChangeSpec.witness_shaped (enc := enc) (C := Tryd.checked) (os := os) (X := fun w _ => laidMetH Tryd.prog Rows.poolBackRow.laid w) false (World.laidAll Tryd.prog os Rows.poolBackRow.laid)
      #[.slice none 0 0] 8 (World.laidAll_os _ _ _)
      (World.shaped_of_ZipB (by kernel_rfl) (by kernel_rfl)) (by kernel_rfl) (by kernel_rfl) (by kernel_rfl)
      (by rw [MakeChecks.laidMetH_plain _ _ _ (by kernel_rfl)]; exact laidMet_laidAll _ (by kernel_rfl) (by kernel_rfl))) ?_
  intro W base args ds gs before hval0 hW _ _ hL _
  have hval : ∀ (j : Nat) t v, Tryd.f3.params[j]? = some t → args[j]? = some v → Value.okWide Tryd.prog W .any base t v := hval0
  have hW' := hW
  obtain ⟨p, q, hA0, hV, rfl, hfz, hnd⟩ := hW
  have hA : DataW.TrodAll enc Tryd.prog W 0 (fun _ => true) true Tryd.f3.params.toList args.toList ds p := hA0
  rw [Tryd.params3] at hA hval
  obtain ⟨v0, d0, rfl, rfl, h0⟩ := trodAll_one hA
  obtain ⟨rfl, rfl⟩ := trodVars_none hV
  have k0 := h0
  obtain ⟨sa0, sn0, sc0, rfl⟩ := okWide_slice Tryd.underlying22 (hval 0 22 v0 rfl rfl)
  obtain ⟨fuel0, hf0⟩ := h0
  obtain ⟨X0, hX0⟩ := open_texts hf0
  clear hA0 hval0
  simp only [List.append_nil] at hW'
  have hlt0 : ∀ x ∈ p, x.block < W.heap.size := fun x hx => hW'.lt x hx
  obtain ⟨s, hg, hgn⟩ := pbk_glob hL
  refine (poolBack_all X0 _ s W hg hgn hX0).mono fun r W' ⟨he, hb⟩ => ?_
  subst he
  refine ⟨_, rfl, _, _, _, [], p, [], hW', ?_, ?_, ?_, hb.frame _, fun h => by cases h⟩
  · exact trodAll_mk1 (shut_bool Tryd.underlying4 true)
  · exact trodAll_mk1 (WideElems.Trod_stays (P := Tryd.prog) (by kernel_rfl) (by kernel_rfl) (of_decide_eq_true (by kernel_rfl)) k0 (fun x hx => hb.same (hlt0 x hx)) (fun x hx => by simpa using hlt0 x hx))
  · rfl

theorem pbk_said : Rows.PoolBackSaid :=
  OpenClaim.holds_of_wide 3 Tryd.f3 rfl rfl rfl rfl rfl rfl rfl ⟨rfl, rfl, rfl, rfl, rfl⟩ rfl rfl rfl rfl rfl (by kernel_rfl) Tryd.func3 (by kernel_rfl)
    (of_decide_eq_true (by kernel_rfl)) (by unfold Func.isWrapper; rw [if_neg (of_decide_eq_false (by kernel_rfl))]; exact ⟨rfl, rfl⟩)
    (fun os started H enc _ => pbk_lifted os started H enc)

/-- no parameter wants a stand-in -/
theorem pbk_plain (f : FuncId) (fn : Func) (hf : Tryd.pinned.checked.prog.funcNamed "lammastide/lammastidelaw2.PoolBack" = some f) (hfn : Tryd.pinned.checked.prog.funcs[f]? = some fn) :
    true = Tryd.pinned.checked.prog.looks [] ∧ ∀ (j : Nat) t, fn.params[j]? = some t → Tryd.pinned.checked.prog.wantsStandIn t = false := by
  obtain rfl : f = 3 := Option.some.inj ((show Tryd.prog.funcNamed "lammastide/lammastidelaw2.PoolBack" = some 3 by kernel_rfl).symm.trans hf) |>.symm
  obtain rfl : fn = Tryd.f3 := (Option.some.inj (Tryd.func3.symm.trans hfn)).symm
  refine ⟨by kernel_rfl, fun j t ht => ?_⟩
  rw [Tryd.params3] at ht
  have hm := Array.mem_of_getElem? ht
  obtain rfl : t = 22 := by simpa using hm
  exact (show Tryd.prog.wantsStandIn 22 = false by kernel_rfl)

/-- The law's card. -/
theorem poolBack_card : Rows.PoolBackCardSaid :=
  Claim7.holds_tied_plain_at .later [] _ _ _ _ pbk_said (fun _ h => by cases h) (by kernel_rfl) (fun _ h => by cases h) poolBack_row_tie rfl ⟨rfl, rfl⟩ (by kernel_rfl) rfl pbk_plain (by kernel_rfl)
end Go.Proofs.YtifbhedomcgonaaDoor
