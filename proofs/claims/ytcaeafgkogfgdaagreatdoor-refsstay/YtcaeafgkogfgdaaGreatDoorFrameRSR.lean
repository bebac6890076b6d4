/- Proved: the law RefsStay returns true for every list of acts, every place of the cut and every time, and the arguments read afterwards as they read before; the listed package-level variables hold what the program's own text lays in them (the card's tie). -/
import Derived.Test.YtcaeafgkogfgdaaGreatDoorCards
import Derived.Test.YtcaeafgkogfgdaaGreatDoorTie
import Derived.Test.YtcaeafgkogfgdaaGreatDoorRaAB
import Derived.Test.YtcaeafgkogfgdaaGreatDoorLawRSR
import Derived.Lay
import Derived.WideKeyArgs
import Derived.Deep.Slices
import Derived.DataShut
namespace Go.Proofs.YtcaeafgkogfgdaaGreatDoor
open Go.ChangeShapes Go.WideShapes Go.ChangeAt Go.RowKit Cal

theorem rgName : Tryz.prog.globalNamed "lammastide/api.ErrName" = some 0 := by kernel_rfl
theorem rtName : (Tryz.prog.globals[0]?).map (·.type) = some 34 := by kernel_rfl
theorem rgNone : Tryz.prog.globalNamed "lammastide/api.ErrNone" = some 5 := by kernel_rfl
theorem rtNone : (Tryz.prog.globals[5]?).map (·.type) = some 34 := by kernel_rfl
theorem rgFull : Tryz.prog.globalNamed "lammastide/api.ErrFull" = some 4 := by kernel_rfl
theorem rtFull : (Tryz.prog.globals[4]?).map (·.type) = some 34 := by kernel_rfl
theorem rgOrder : Tryz.prog.globalNamed "lammastide/api.ErrOrder" = some 3 := by kernel_rfl
theorem rtOrder : (Tryz.prog.globals[3]?).map (·.type) = some 34 := by kernel_rfl
theorem rgStale : Tryz.prog.globalNamed "lammastide/api.ErrStale" = some 2 := by kernel_rfl
theorem rtStale : (Tryz.prog.globals[2]?).map (·.type) = some 34 := by kernel_rfl
theorem rgSyn : Tryz.prog.globalNamed "strconv.ErrSyntax" = some 14 := by kernel_rfl
theorem rtSyn : (Tryz.prog.globals[14]?).map (·.type) = some 34 := by kernel_rfl
def sixR (a1 a3 a4 a6 a7 a8 : Addr) (k : Nat) : Addr := if k = 1 then a1 else if k = 3 then a3 else if k = 4 then a4 else if k = 6 then a6 else if k = 7 then a7 else a8
theorem rst_plainly : laidMetH Tryz.prog Rows.refsStayRow.laid = laidMet Tryz.prog Rows.refsStayRow.laid := by
  funext W
  exact MakeChecks.laidMetH_plain _ _ _ (by kernel_rfl)
theorem rst_glob {W : World} (h : laidMetH Tryz.prog Rows.refsStayRow.laid W) : ∃ s, GlobF s W ∧ GlobN W := by
  rw [rst_plainly] at h
  have h0 : laidMet Tryz.prog Rows.refsStayRow.laid W := h
  have ht : Tab W := table h0.tail.tail
  have h3 := h0.tail.tail.tail.tail
  obtain ⟨a1, c1⟩ := sentinel h3.tail gBound tBound
  obtain ⟨a3, c3⟩ := sentinel h3.tail.tail.tail rgName rtName
  obtain ⟨a4, c4⟩ := sentinel h3.tail.tail.tail.tail rgNone rtNone
  obtain ⟨a6, c6⟩ := sentinel h3.tail.tail.tail.tail.tail rgFull rtFull
  obtain ⟨a7, c7⟩ := sentinel h3.tail.tail.tail.tail.tail.tail rgOrder rtOrder
  obtain ⟨a8, c8⟩ := sentinel h3.tail.tail.tail.tail.tail.tail.tail rgStale rtStale
  obtain ⟨a9, c9⟩ := sentinel h3.tail.tail.tail.tail.tail.tail.tail.tail.tail rgSyn rtSyn
  exact ⟨sixR a1 a3 a4 a6 a7 a8, ⟨c1, c3, c4, c6, c7, c8⟩, ht, a9, c9⟩

section
variable {H : Type} {enc : TypeId × Value → H} {W : World}
theorem wAllR {P : Program} {e : TypeId} : ∀ {l : List (DataW H)} {d : DataW H}, d ∈ l → ∀ n ∈ d.weights P e, n ∈ DataW.weightsAll P e l
  | x :: r, d, hd, n, hn => by
    rw [DataW.weightsAll, List.mem_append]
    rcases List.mem_cons.1 hd with rfl | hd
    · exact .inl hn
    · exact .inr (wAllR hd n hn)
  | [], _, hd, _, _ => absurd hd (by simp)
theorem sliceLenR {t e : TypeId} {fuel : Nat} {a : Option Addr} {n c : Nat} {x : DataW H × List MemPlace} (ht : Tryz.prog.underlying t = some (.slice e)) (hb : 1 ≤ Tryz.prog.bytesOf e)
    (h : DataW.trod enc Tryz.prog W 0 (fun _ => true) true fuel t [.slice a n c] = some x) (hw : ∀ k ∈ x.1.weights Tryz.prog t, k ≤ reachBytes) : n ≤ 1000000000000000 := by
  rcases Deep.open_slice ht h with ⟨e1, _⟩ | ⟨a', len, cap, m, k, D, Pl, e1, _, hlc, _, _, rfl, _⟩
  · cases e1; omega
  · cases e1
    have h1 := hw _ (show (((List.range n).map D).length + ((List.range (m - n)).map fun j => D (n + j)).length) * Tryz.prog.bytesOf e ∈ _ by simp [DataW.weights, ht])
    have h2 : n ≤ (((List.range n).map D).length + ((List.range (m - n)).map fun j => D (n + j)).length) * Tryz.prog.bytesOf e := by
      rw [List.length_map, List.length_range]
      exact Nat.le_trans (Nat.le_add_right _ _) (Nat.le_mul_of_pos_right _ hb)
    have h3 := reachBytes_lt
    omega

theorem addBlkR (a : Addr) (k : Nat) (hk : k ≠ 0) : a.add k = ⟨a.block, a.off + k, none⟩ := by
  unfold Addr.add
  rw [if_neg hk]

theorem bRAct : Tryz.prog.bytesOf 29 = 56 := by kernel_rfl
theorem cRAct : Tryz.prog.cellsOf 29 = 5 := by kernel_rfl
theorem cIntR : Tryz.prog.cellsOf 3 = 1 := by kernel_rfl
instance : Inhabited RA := ⟨⟨⟨#[]⟩, ⟨#[]⟩, 0, 0, 0⟩⟩
theorem fiveR {l : List Value} (h : l.length = 5) : ∃ c0 c1 c2 c3 c4, l = [c0, c1, c2, c3, c4] := by
  match l, h with
  | [a, b, c, d, e], _ => exact ⟨a, b, c, d, e, rfl⟩
set_option maxRecDepth 100000 in
theorem open_ract_cells {fuel : Nat} {c0 c1 c2 c3 c4 : Value} {x : DataW H × List MemPlace}
    (hf : DataW.trod enc Tryz.prog W 0 (fun _ => true) true fuel 29 [c0, c1, c2, c3, c4] = some x) (hw : ∀ k ∈ x.1.weights Tryz.prog 29, k ≤ reachBytes) :
    ∃ K : RA, [c0, c1, c2, c3, c4] = [.string K.kd, .string K.nm, .int .i64 K.old, .int .i64 K.to_, .int .i64 K.at_] ∧ K.nm.size ≤ 1000000000000000 := by
  obtain ⟨xs, n, _, hx, hl, hlen, hfl⟩ := DataW.trod_struct Tryz.underlying29 hf
  have h0 := hfl 0 _ rfl
  have h1 := hfl 1 _ rfl
  have h2 := hfl 2 _ rfl
  have h3 := hfl 3 _ rfl
  have h4 := hfl 4 _ rfl
  match xs, hlen with
  | [y0, y1, y2, y3, y4], _ =>
  have hwt : x.1.weights Tryz.prog 29 = DataW.weightsEach Tryz.prog [9, 9, 3, 3, 3] [y0.1, y1.1, y2.1, y3.1, y4.1] := by
    rw [hx]
    simp [DataW.weights, Tryz.underlying29]
  have w1 : ∀ k ∈ y1.1.weights Tryz.prog 9, k ≤ reachBytes := fun k hk => hw k (by rw [hwt]; exact DataW.weights_mem_each (j := 1) rfl rfl k hk)
  simp [cStr, cIntR] at h0 h1 h2 h3 h4
  obtain ⟨kd, e0, _, _⟩ := DataW.trod_string Tryz.underlying9 h0
  obtain ⟨nm, e1, ey1, _⟩ := DataW.trod_string Tryz.underlying9 h1
  obtain ⟨i2, e2, _⟩ := DataW.trod_int Tryz.underlying3 h2
  obtain ⟨i3, e3, _⟩ := DataW.trod_int Tryz.underlying3 h3
  obtain ⟨i4, e4, _⟩ := DataW.trod_int Tryz.underlying3 h4
  cases e0
  cases e1
  cases e2
  cases e3
  cases e4
  refine ⟨⟨kd, nm, i2, i3, i4⟩, rfl, ?_⟩
  have h1 := w1 nm.data.toList.length (by rw [ey1]; simp [DataW.weights])
  have h3 := reachBytes_lt
  have h2 : nm.data.toList.length = nm.size := by simp
  show nm.size ≤ _
  omega
set_option maxRecDepth 100000 in
/-- a list of acts that was handed over -/
theorem open_racts {fuel : Nat} {v : Value} {x : DataW H × List MemPlace} (h : DataW.trod enc Tryz.prog W 0 (fun _ => true) true fuel 22 [v] = some x) (hw : ∀ k ∈ x.1.weights Tryz.prog 22, k ≤ reachBytes) : ∃ Ks : List RA, RActs W v Ks := by
  have h' := h
  rcases Deep.open_slice Tryz.underlying22 h with ⟨e1, _⟩ | ⟨a, len, cap, m, n, D, Pl, e1, _, hlc, _, hm, hx, he⟩
  · cases e1
    exact ⟨[], none, 0, rfl, by simp, by simp, fun j hj => absurd hj (by simp)⟩
  · cases e1
    have hbl := sliceLenR Tryz.underlying22 (by rw [bRAct]; decide) h' hw
    have hm' : m = cap := by simpa using hm
    have each : ∀ i, i < len → ∃ K : RA, K.nm.size ≤ 1000000000000000 ∧ RActA W (a.add (i * 5)) K := by
      intro i hi
      obtain ⟨cs, q1, q2⟩ := he i (by omega)
      rw [cRAct] at q1
      obtain ⟨_, hlen, hcell⟩ := World.cells?_some q1
      obtain ⟨c0, c1, c2, c3, c4, rfl⟩ := fiveR hlen
      have hwi : ∀ k ∈ (D i).weights Tryz.prog 29, k ≤ reachBytes := fun k hk => hw k (by
        rw [hx]
        simp only [DataW.weights, Tryz.underlying22, List.mem_cons, List.mem_append]
        exact .inr (.inl (wAllR (List.mem_map.2 ⟨i, List.mem_range.2 hi, rfl⟩) k hk)))
      obtain ⟨K, hc, b1⟩ := open_ract_cells q2 hwi
      have A : ∀ k, k < 5 → k ≠ 0 → W.cell? ⟨(a.add (i * 5)).block, (a.add (i * 5)).off + k, none⟩ = [c0, c1, c2, c3, c4][k]? := fun k hk h0 => by
        rw [← addBlkR _ _ h0, hcell k hk]
      have A0 : W.cell? (a.add (i * 5)) = [c0, c1, c2, c3, c4][0]? := by
        have := hcell 0 (by decide)
        rwa [show (a.add (i * 5)).add 0 = a.add (i * 5) from rfl] at this
      rw [hc] at A0
      refine ⟨K, b1, A0, ?_, ?_, ?_, ?_⟩
      · have := A 1 (by decide) (by decide); rw [hc] at this; exact this
      · have := A 2 (by decide) (by decide); rw [hc] at this; exact this
      · have := A 3 (by decide) (by decide); rw [hc] at this; exact this
      · have := A 4 (by decide) (by decide); rw [hc] at this; exact this
    obtain ⟨q, hq⟩ := Deep.choose_lt each
    refine ⟨(List.range len).map q, some a, cap, by simp, by simpa using hbl, by simpa using hlc, fun j hj => ?_⟩
    have hj' : j < len := by simpa using hj
    have e5 : ((List.range len).map q)[j] = q j := by simp
    obtain ⟨b1, hA⟩ := hq j hj'
    rw [e5]
    exact ⟨a, rfl, b1, hA⟩
end

set_option maxRecDepth 100000 in
theorem rst_lifted (os : Os) (started : os.Started) (H : Type) (enc : TypeId × Value → H) :
    ReturnsInHanded {} Tryz.checked os 3 .any (fun w args => (Rows.refsStaySpec.pre enc Tryz.prog Tryz.f3 [] false w args ∧ laidMetH Tryz.prog Rows.refsStayRow.laid w) ∧ sizedMet enc Tryz.prog Tryz.f3 (OpenSpec.ofChange Rows.refsStaySpec) false w args)
      (Rows.refsStaySpec.post enc Tryz.prog Tryz.f3 false true false false) := by
  refine returnsInHanded_of_change_and (C := Tryz.checked) (X := fun w _ => laidMetH Tryz.prog Rows.refsStayRow.laid w) (fun _ _ _ hh h => h.of_heap hh) own started (by kernel_rfl) Tryz.func3
    (ChangeSpec.witness_shaped (enc := enc) (C := Tryz.checked) (os := os) (X := fun w _ => laidMetH Tryz.prog Rows.refsStayRow.laid w) false (World.laidAll Tryz.prog os Rows.refsStayRow.laid)
      #[.slice none 0 0, .int .i64 0, .int .i64 0] 8 (World.laidAll_os _ _ _)
      (World.shaped_of_ZipB (by kernel_rfl) (by kernel_rfl)) (by kernel_rfl) (by kernel_rfl) (by kernel_rfl)
      (by rw [MakeChecks.laidMetH_plain _ _ _ (by kernel_rfl)]; exact laidMet_laidAll _ (by kernel_rfl) (by kernel_rfl))) ?_
  intro W base args ds gs before hval0 hW _ hZ hL _
  have hval : ∀ (j : Nat) t v, Tryz.f3.params[j]? = some t → args[j]? = some v → Value.okWide Tryz.prog W .any base t v := hval0
  have hZ' : (DataW.weightsEach Tryz.prog (Tryz.f3.params.toList ++ Rows.refsStaySpec.plain.varTypes Tryz.prog) (ds ++ gs)).all (· ≤ reachBytes) = true := hZ
  have hW' := hW
  obtain ⟨p, q, hA0, hV, rfl, hfz, hnd⟩ := hW
  have hA : DataW.TrodAll enc Tryz.prog W 0 (fun _ => true) true Tryz.f3.params.toList args.toList ds p := hA0
  rw [Tryz.params3] at hA hval hZ'
  obtain ⟨v0, v1, v2, d0, d1, d2, p0, p1, p2, rfl, rfl, rfl, h0, h1, h2⟩ := trodAll_three hA
  obtain ⟨rfl, rfl⟩ := trodVars_none hV
  have k0 := h0
  have hw0 : ∀ k ∈ d0.weights Tryz.prog 22, k ≤ reachBytes := fun k hk => by
    have := List.all_eq_true.1 hZ' k (DataW.weights_mem_each (j := 0) rfl rfl k hk)
    simpa using this
  obtain ⟨sa, sn, sc, rfl⟩ := okWide_slice Tryz.underlying22 (hval 0 22 v0 rfl rfl)
  obtain ⟨fuel0, hf0⟩ := h0
  obtain ⟨Ks, hKs⟩ := open_racts hf0 hw0
  obtain ⟨n, rfl, rfl, rfl, wn⟩ := open_int Tryz.underlying3 (hval 1 3 v1 rfl rfl) h1
  obtain ⟨x, rfl, rfl, rfl, wx⟩ := open_int Tryz.underlying3 (hval 2 3 v2 rfl rfl) h2
  clear hA0 hval0
  simp only [List.append_nil] at hW'
  have hlt0 : ∀ x ∈ p0, x.block < W.heap.size := fun x hx => hW'.lt x hx
  obtain ⟨s, hg, hgn⟩ := rst_glob hL
  refine (refsStay_any Ks _ n x s W hg hgn hKs).mono fun r W' ⟨he, hb⟩ => ?_
  subst he
  refine ⟨_, rfl, _, _, _, [], p0, [], hW', ?_, ?_, ?_, hb.frame _, fun h => by cases h⟩
  · exact trodAll_mk1 (shut_bool Tryz.underlying4 true)
  · rw [show p0 = p0 ++ ([] ++ []) by simp]
    exact trodAll_mk3 (WideElems.Trod_stays (P := Tryz.prog) (show laidOutB Tryz.prog = true by kernel_rfl) (by kernel_rfl) (of_decide_eq_true (by kernel_rfl)) k0 (fun x hx => hb.same (hlt0 x hx)) (fun x hx => by simpa using hlt0 x hx)) (shut_int Tryz.underlying3 wn) (shut_int Tryz.underlying3 wx)
  · rfl

theorem rst_said : Rows.RefsStaySaid :=
  OpenClaim.holds_of_wide 3 Tryz.f3 rfl rfl rfl rfl rfl rfl rfl ⟨rfl, rfl, rfl, rfl, rfl⟩ rfl rfl rfl rfl rfl (by kernel_rfl) Tryz.func3 (by kernel_rfl)
    (of_decide_eq_true (by kernel_rfl)) (by unfold Func.isWrapper; rw [if_neg (of_decide_eq_false (by kernel_rfl))]; exact ⟨rfl, rfl⟩)
    (fun os started H enc _ => rst_lifted os started H enc)

/-- no parameter wants a stand-in -/
theorem rst_plain (f : FuncId) (fn : Func) (hf : Tryz.pinned.checked.prog.funcNamed "lammastide/lammastidelaw3.RefsStay" = some f) (hfn : Tryz.pinned.checked.prog.funcs[f]? = some fn) :
    true = Tryz.pinned.checked.prog.looks [] ∧ ∀ (j : Nat) t, fn.params[j]? = some t → Tryz.pinned.checked.prog.wantsStandIn t = false := by
  obtain rfl : f = 3 := Option.some.inj ((show Tryz.prog.funcNamed "lammastide/lammastidelaw3.RefsStay" = some 3 by kernel_rfl).symm.trans hf) |>.symm
  obtain rfl : fn = Tryz.f3 := (Option.some.inj (Tryz.func3.symm.trans hfn)).symm
  refine ⟨by kernel_rfl, fun j t ht => ?_⟩
  rw [Tryz.params3] at ht
  have hm := Array.mem_of_getElem? ht
  simp only [List.mem_toArray, List.mem_cons, List.not_mem_nil, or_false] at hm
  rcases hm with rfl | rfl | rfl
  · exact (show Tryz.prog.wantsStandIn 22 = false by kernel_rfl)
  · exact (show Tryz.prog.wantsStandIn 3 = false by kernel_rfl)
  · exact (show Tryz.prog.wantsStandIn 3 = false by kernel_rfl)

/-- The law's card. -/
theorem refsStay_card : Rows.RefsStayCardSaid :=
  Claim7.holds_tied_plain_at .later [] _ _ _ _ rst_said (fun _ h => by cases h) (by kernel_rfl) (fun _ h => by cases h) refsStay_row_tie rfl ⟨rfl, rfl⟩ (by kernel_rfl) rfl rst_plain (by kernel_rfl)
end Go.Proofs.YtcaeafgkogfgdaaGreatDoor
