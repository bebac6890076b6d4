/- The law's BookOf: a book and its model of one list of events. -/
import Derived.Test.YtekminpoiokgfaaGreatDoorYaY
import Derived.Test.YtekminpoiokgfaaGreatDoorYaT
import Derived.Test.YtekminpoiokgfaaGreatDoorEvR3W
import Derived.Test.YtekminpoiokgfaaGreatDoorExpE2W
import Derived.Test.YtekminpoiokgfaaGreatDoorYaX
import Derived.Maps.RangeWalk
import Derived.Maps.Ext
namespace Go.Proofs.YtekminpoiokgfaaGreatDoor
open Go Go.RowKit Go.Maps Cal
attribute [local go_sem] Oper.semAt_some

/-- one more would be too many -/
def Full60 (C : List EV) (E : EV) : Prop := (¬ ∃ F ∈ C, F.id = E.id) ∧ 60 ≤ C.length
open Classical in
/-- the calendar behind Put -/
noncomputable def addE (C : List EV) (E : EV) : List EV := if EW E ∧ ¬ Full60 C E then putC E C else C
/-- the calendar of events that are put one behind the other -/
noncomputable def calOf (Es : List EV) : List EV := Es.foldl addE []
theorem addE_bad {C : List EV} {E : EV} (h : ¬ EW E) : addE C E = C := by unfold addE; exact if_neg (fun q => h q.1)
theorem addE_full {C : List EV} {E : EV} (h : Full60 C E) : addE C E = C := by unfold addE; exact if_neg (fun q => q.2 h)
theorem addE_put {C : List EV} {E : EV} (h : EW E) (h2 : ¬ Full60 C E) : addE C E = putC E C := by unfold addE; exact if_pos ⟨h, h2⟩
theorem addE_rises {C : List EV} {E : EV} (h : Rises C) : Rises (addE C E) := by
  unfold addE
  split
  · exact putC_rises h
  · exact h
theorem addE_len {C : List EV} {E : EV} (hC : Rises C) (h : C.length ≤ 60) : (addE C E).length ≤ 60 := by
  unfold addE
  split
  · rename_i hq
    unfold putC
    rw [insE_len]
    by_cases hx : ∃ F ∈ C, F.id = E.id
    · obtain ⟨F, hF, e⟩ := hx
      rw [← e, woC_len hC hF]
      exact h
    · rw [woC_same (fun F hF q => hx ⟨F, hF, q⟩)]
      have : ¬ 60 ≤ C.length := fun q => hq.2 ⟨hx, q⟩
      omega
  · exact h
theorem calOf_snoc (Es : List EV) (E : EV) : calOf (Es ++ [E]) = addE (calOf Es) E := by
  unfold calOf
  rw [List.foldl_append]
  rfl
theorem fold_ok : ∀ (Es C : List EV), Rises C → C.length ≤ 60 → Rises (Es.foldl addE C) ∧ (Es.foldl addE C).length ≤ 60
  | [], _, h1, h2 => ⟨h1, h2⟩
  | _ :: r, _, h1, h2 => fold_ok r _ (addE_rises h1) (addE_len h1 h2)
theorem calOf_ok (Es : List EV) : Rises (calOf Es) ∧ (calOf Es).length ≤ 60 := fold_ok Es [] List.Pairwise.nil (Nat.zero_le _)
theorem ins_map (X : EX) : ∀ Xs : List EX, (ins X Xs).map EX.E = insE X.E (Xs.map EX.E)
  | [] => rfl
  | Y :: r => by
    unfold ins
    rw [List.map_cons, insE]
    have : X.lt Y = ltE X.E Y.E := rfl
    rw [this]
    split
    · rfl
    · rw [List.map_cons, ins_map X r]
theorem with_map (X : EX) (Xs : List EX) : (ins X (Xs.filter fun Y => decide (Y.E.id ≠ X.E.id))).map EX.E = putC X.E (Xs.map EX.E) := by
  rw [ins_map]
  unfold putC woC
  rw [List.filter_map]
  rfl
theorem find_map (X : EX) (Xs : List EX) : (∃ Y ∈ Xs, Y.E.id = X.E.id) ↔ ∃ F ∈ Xs.map EX.E, F.id = X.E.id := by
  constructor
  · rintro ⟨Y, hY, q⟩; exact ⟨Y.E, List.mem_map_of_mem hY, q⟩
  · rintro ⟨F, hF, q⟩
    obtain ⟨Y, hY, rfl⟩ := List.mem_map.1 hF
    exact ⟨Y, hY, q⟩

/-- an event of the model: its lists are those that were handed over -/
def XGot (w : World) (X : EX) : Prop := Got w X.sl X.E.ds ∧ Got w X.skv X.E.sk ∧ GotM w X.mvv X.E.mv ∧ lngE X.E = 0
theorem XGot.ok {w : World} {X : EX} (h : XGot w X) : X.ok := by
  obtain ⟨a1, c1, e1⟩ := got_form h.1
  obtain ⟨a2, c2, e2⟩ := got_form h.2.1
  obtain ⟨a3, c3, e3⟩ := gotM_form h.2.2.1
  exact ⟨⟨_, _, _, e1⟩, ⟨_, _, _, e2⟩, ⟨_, _, _, e3⟩⟩
/-- a book and its model -/
structure BM (lo : Nat) (w wr : World) (bb bm : Nat) (mo : Option Nat) (n base : Nat) (C : List EV) (vm : Value) (Xs : List EX) : Prop where
  book : BookAt lo wr bb mo n C
  cell : wr.heap[bm]? = some (.cells #[vm] 27 (0, 0))
  row : MR base wr vm Xs
  hbm : bm < lo
  hbb : bb < bm
  hlo : lo ≤ base
  map : ∀ mb, mo = some mb → mb < base
  nil : mo = none → vm = .slice none 0 0
  got : ∀ X ∈ Xs, XGot w X

theorem BM.step {lo : Nat} {w wr w' : World} {bb bm : Nat} {mo : Option Nat} {n base : Nat} {C : List EV} {vm : Value} {Xs : List EX} (h : BM lo w wr bb bm mo n base C vm Xs) (hb : Below wr.heap.size wr w') : BM lo w w' bb bm mo n base C vm Xs :=
  ⟨h.book.step hb, (hb.block _ (Array.getElem?_eq_some_iff.1 h.cell).1).trans h.cell, h.row.far (fun k _ hk => hb.block k hk), h.hbm, h.hbb, h.hlo, h.map, h.nil, h.got⟩
theorem BM.store {lo : Nat} {w W : World} {bb bm : Nat} {mo : Option Nat} {n base base' : Nat} {C : List EV} {vm v' : Value} {Xs Xs' : List EX} (h : BM lo w W bb bm mo n base C vm Xs) (hm : MR base' W v' Xs') (hl : lo ≤ base') (hmap : ∀ mb, mo = some mb → mb < base') (hne : mo ≠ none) (hg : ∀ X ∈ Xs', XGot w X) :
    BM lo w (W.setCell ⟨bm, 0, none⟩ v') bb bm mo n base' C v' Xs' :=
  ⟨h.book.grown (B := bm) (grown_set W ⟨bm, 0, none⟩ v') h.hbm (by have := h.hbb; omega), set_block (i := 0) _ h.cell, MR.far hm (fun k hk _ => Below.heap_setCell _ _ _ k (by intro q; have q' : k = bm := q; have := h.hbm; omega)), h.hbm, h.hbb, hl, hmap, fun q => absurd q hne, hg⟩
theorem BM.put {lo : Nat} {w wr w3 w4 : World} {bb bm : Nat} {mo : Option Nat} {n base : Nat} {C C' : List EV} {vm : Value} {Xs : List EX} (h : BM lo w wr bb bm mo n base C vm Xs) (hs : Xs.map EX.E = C) (hB : Below w.heap.size w wr) (hwb : w.heap.size ≤ bb) (hb3 : Below wr.heap.size wr w3) (hp : PutTo lo w3 w4 bb mo n C') :
    ∃ mo' base', BM lo w w4 bb bm mo' (n + 1) base' C' vm Xs ∧ Kept wr w4 bb mo ∧ Below w.heap.size w w4 ∧ w4.heap.size ≥ wr.heap.size := by
  obtain ⟨mo', q1, q2, q3⟩ := hp
  have hK := kept_from hb3 q2
  have hmo : ∀ mb, mo = some mb → lo ≤ mb := by
    obtain ⟨D, _, _, h3, _⟩ := h.book
    exact h3
  have hbm := h.hbm
  have hbb := h.hbb
  have hlo := h.hlo
  have hcell : w4.heap[bm]? = some (.cells #[vm] 27 (0, 0)) := (hK.block bm (Array.getElem?_eq_some_iff.1 h.cell).1 (by omega) (fun q => by have := hmo bm q.symm; omega)).trans h.cell
  have hBw : Below w.heap.size w w4 := hK.below hB hwb (fun m e => by have := hmo m e; omega)
  have hlow : lo ≤ w4.heap.size := by
    obtain ⟨D, _, h2, _, _⟩ := q1
    exact h2
  by_cases hn : mo = none
  · subst hn
    have hC := h.book.nil
    have hXs : Xs = [] := by rw [hC] at hs; simpa using hs
    subst hXs
    have hv := h.nil rfl
    subst hv
    exact ⟨mo', w4.heap.size, ⟨q1, hcell, MR.nil _ _, hbm, hbb, hlow, fun mb e => q1.lt.2 mb e, fun _ => rfl, h.got⟩, hK, hBw, hK.size⟩
  · have hmm : mo' = mo := by
      rcases q3 with q | q
      · exact q
      · exact absurd q.1 hn
    subst hmm
    exact ⟨mo', base, ⟨q1, hcell, h.row.far (fun k hk hlt => hK.block k hlt (by omega) (fun q => by have := h.map k q.symm; omega)), hbm, hbb, hlo, h.map, fun q => absurd q hn, h.got⟩, hK, hBw, hK.size⟩

theorem set_below {w W : World} {B : Nat} {v : Value} (h : Below w.heap.size w W) (hB : w.heap.size ≤ B) : Below w.heap.size w (W.setCell ⟨B, 0, none⟩ v) := by
  have g1 := grown_set W ⟨B, 0, none⟩ v
  exact ⟨g1.os.trans h.os, g1.tape.trans h.tape, g1.output.trans h.output, Nat.le_trans h.size g1.size, fun k hk => (g1.block k (Nat.lt_of_lt_of_le hk h.size) (fun q => by have : k = B := Option.some.inj q; omega)).trans (h.block k hk)⟩
theorem MPutIs.move {b b0 : Nat} {v v' : Value} {Xs : List EX} {X : EX} {k k' : Int} {W W' : World} (h : MPutIs b v Xs X k v' k' W) (hb : b0 ≤ b) (hk : ∀ j, b ≤ j → j < W.heap.size → W'.heap[j]? = W.heap[j]?) : MPutIs b0 v Xs X k v' k' W' := by
  rcases h with h | h | ⟨h1, h2, h3, h4⟩
  · exact .inl h
  · exact .inr (.inl h)
  · exact .inr (.inr ⟨h1, h2, h3, own_base (MR.far h4 hk) hb⟩)
theorem BookAt.low {lo lo' : Nat} {W : World} {bb : Nat} {mo : Option Nat} {n : Nat} {C : List EV} (h : BookAt lo W bb mo n C) (hl : lo' ≤ lo) : BookAt lo' W bb mo n C := by
  obtain ⟨D, h1, h2, h3, h4⟩ := h
  refine ⟨D, h1, Nat.le_trans hl h2, fun mb e => Nat.le_trans hl (h3 mb e), h4.up, h4.tidy, h4.size, h4.has, fun E hE => ?_⟩
  obtain ⟨q, sl, skv, mvv, q1, q2⟩ := h4.at_ E hE
  exact ⟨q, sl, skv, mvv, q1, q2.mono (fun k hk => hk.imp (fun z => Nat.lt_of_lt_of_le z hl) id)⟩

theorem putTo_add (lo bb n : Nat) (mo : Option Nat) (C : List EV) (E : EV) (sl skv mvv : Value) (k : Int) (s : Nat → Addr) (w : World) (g : GlobK s w) (h : BookAt lo w bb mo n C) (hn : n ≤ 90000) (hi : E.id.size ≤ 60) (ht : E.ti.size ≤ 60) (hL : Ls w E sl skv mvv) (hk : EvK E k) :
    Calls Tryz.prog 14 #[.pointer (some ⟨bb, 0, none⟩), ev E sl skv mvv] w fun r w' => ∃ v, r = .returned v ∧ PutTo lo w w' bb mo n (addE C E) := by
  refine Calls.mono (put_C lo bb n mo C E sl skv mvv k s w g h hn hi ht hL hk) ?_
  rintro r w' (⟨q0, rfl, hb⟩ | ⟨q0, q1, rfl, hb⟩ | ⟨q0, q1, rfl, hb⟩)
  · refine ⟨_, rfl, mo, ?_, ⟨hb.os, hb.tape, hb.output, hb.size, fun k hk _ _ => hb.block k hk⟩, .inl rfl⟩
    rw [addE_bad (fun q => q0 ((evK_0 hk).2 q))]
    obtain ⟨D, h1, h2, h3, h4⟩ := h.step hb
    exact ⟨D, bok_mono h1 (by omega), h2, h3, h4⟩
  · refine ⟨_, rfl, mo, ?_, ⟨hb.os, hb.tape, hb.output, hb.size, fun k hk _ _ => hb.block k hk⟩, .inl rfl⟩
    rw [addE_full q1]
    obtain ⟨D, h1, h2, h3, h4⟩ := h.step hb
    exact ⟨D, bok_mono h1 (by omega), h2, h3, h4⟩
  · refine ⟨_, rfl, ?_⟩
    rw [addE_put ((evK_0 hk).1 q0) q1]
    exact hb

set_option maxHeartbeats 4000000 in
set_option maxRecDepth 100000 in
theorem bookOf_any (Es : List EV) (v : Value) (s : Nat → Addr) (w : World) (g : GlobK s w) (hE : EvsL w v Es) (h70 : Es.length ≤ 70) (hl : ∀ E ∈ Es, lngE E = 0) :
    Calls Tryz.prog 7 #[v] w fun r w' => ∃ bb mo n vm Xs, r = .returned (.tuple #[.pointer (some ⟨bb, 0, none⟩), .agg #[vm]]) ∧ w.heap.size ≤ bb ∧ BookAt w.heap.size w' bb mo n (calOf Es) ∧ n ≤ 70 ∧ MR w.heap.size w' vm Xs ∧ Xs.map EX.E = calOf Es ∧ (∀ X ∈ Xs, XGot w X) ∧ Below w.heap.size w w' := by
  obtain ⟨a, cap, rfl, hlE, hcap, hc⟩ := hE
  have HC : Hid (_) := hc
  have HG : Hid (GlobK s w) := g
  have HL : Hid (∀ E ∈ Es, lngE E = 0) := hl
  clear hc g hl
  have hA0 := below_alloc w (.cells #[.slice none 0 0] 27)
  have k3 : (w.alloc (.cells #[.slice none 0 0] 27)).heap[w.heap.size]? = some (.cells #[.slice none 0 0] 27 (0, 0)) := block_at _ rfl
  have hz0 : (w.alloc (.cells #[.slice none 0 0] 27)).heap.size = w.heap.size + 1 := World.size_alloc _ _
  have NW : Hid (Calls _ _ _ _ _) := bookAt_new (w.alloc (.cells #[.slice none 0 0] 27))
  rw [hz0] at NW
  go_enter Tryz.func7, Tryz.ntmps7
  generalize hw0 : w.alloc (.cells #[.slice none 0 0] 27) = w0 at hA0 k3 hz0 NW
  go_upto_region 2 with (go_at_call 13; refine Calls.mono NW.out ?_; rintro r w1 ⟨rfl, hbk1, hb1⟩)
  have hb1' : Below w0.heap.size w0 w1 := by rw [hz0]; exact hb1
  have s1 : w.heap.size + 1 < w1.heap.size := hbk1.lt.1
  have BK2 : Hid (BookAt (w1.heap.size + 1) (w1.alloc (.cells #[.slice none 0 0] 27)) (w.heap.size + 1) none 0 []) := (hbk1.step (below_alloc _ _)).lift (by rw [World.size_alloc]; omega)
  have K3 : Hid ((w1.alloc (.cells #[.slice none 0 0] 27)).heap[w.heap.size]? = some (.cells #[.slice none 0 0] 27 (0, 0))) := block_alloc _ ((hb1'.block _ (by omega)).trans k3)
  have K5 : Hid ((w1.alloc (.cells #[.slice none 0 0] 27)).heap[w1.heap.size]? = some (.cells #[.slice none 0 0] 27 (0, 0))) := block_at _ rfl
  have B2 : Hid (Below w.heap.size w (w1.alloc (.cells #[.slice none 0 0] 27))) := below_then (below_then hA0 hb1') (below_alloc _ _)
  have hz2 : (w1.alloc (.cells #[.slice none 0 0] 27)).heap.size = w1.heap.size + 1 := World.size_alloc _ _
  clear hA0 k3 hz0 NW hbk1 hb1 hb1' hw0
  go_wp2
  generalize hw2 : w1.alloc (.cells #[.slice none 0 0] 27) = w2 at BK2 K3 K5 B2 hz2 ⊢
  clear hw2
  go_loopw [6] (fun i wr => ∃ m : Nat, m ≤ Es.length ∧ i = .int .i64 m ∧ Hid (∃ mo n base vm Xs, BM (w1.heap.size + 1) w wr (w.heap.size + 1) w1.heap.size mo n base (calOf (Es.take m)) vm Xs ∧ Xs.map EX.E = calOf (Es.take m) ∧ n ≤ m ∧ wr.heap[w.heap.size]? = some (.cells #[.slice none 0 0] 27 (0, 0)) ∧ Below w.heap.size w wr)) (fun i _ => Es.length - (intOf i).toNat)
  case atStart => exact ⟨0, Nat.zero_le _, rfl, none, 0, w1.heap.size + 1, .slice none 0 0, [], ⟨BK2.out, K5.out, MR.nil _ _, Nat.lt_succ_self _, s1, Nat.le_refl _, (fun mb e => by cases e), fun _ => rfl, fun X hX => absurd hX (by simp)⟩, rfl, Nat.le_refl _, K3.out, B2.out⟩
  case round =>
    obtain ⟨m, hm, rfl, HV⟩ := hrel
    by_cases hlt : m < Es.length
    · obtain ⟨mo, n, base, vm, Xs, hBM, hsm, hn, hk3, hB⟩ := HV.out
      obtain ⟨ad, rfl, _, _, _, ra, rc, sa, sc, ma, mc, hEA, hgd, hgs, hgm⟩ := HC.out m hlt
      have hlg : lngE Es[m] = 0 := HL.out _ (List.getElem_mem hlt)
      have htk : calOf (Es.take (m + 1)) = addE (calOf (Es.take m)) Es[m] := by rw [List.take_succ_eq_append_getElem hlt, calOf_snoc]
      have hXG : XGot w ⟨Es[m], .slice ra Es[m].ds.length rc, .slice sa Es[m].sk.length sc, .slice ma Es[m].mv.length mc⟩ := ⟨hgd, hgs, hgm, hlg⟩
      have HTK : Hid (calOf (Es.take (m + 1)) = addE (calOf (Es.take m)) Es[m]) := htk
      clear htk HV
      generalize Es[m] = E at hEA hgd hgs hgm hlg HTK hXG
      have HSZ : Hid (w2.heap.size ≤ wr.heap.size) := by
        show w2.heap.size ≤ wr.heap.size
        rw [hz2]
        exact (Array.getElem?_eq_some_iff.1 hBM.cell).1
      have HC60 : Hid ((calOf (Es.take m)).length ≤ 60) := (calOf_ok _).2
      generalize calOf (Es.take m) = C at HC60 hBM HTK hsm
      have HSM : Hid (Xs.map EX.E = C) := hsm
      clear hsm
      obtain ⟨k, hk⟩ := evK_ex E
      obtain ⟨kr, hkr⟩ := errK_ex E.f E.e E.ds E.c E.u
      obtain ⟨l1, l2, l3, l4, l5, l6⟩ := lngE_0 hlg
      have hEAr := hEA.step hB
      have HOE : Hid (Calls _ _ _ _ _) := ownEvent_any E (.slice ra E.ds.length rc) (.slice sa E.sk.length sc) (.slice ma E.mv.length mc) wr (hgd.step hB) (hgs.step hB) (hgm.step hB) l2 (by omega) (by omega)
      have HPUT : Hid (∀ (W : World) (sl skv mvv : Value), Below wr.heap.size wr W → Lists W E sl skv mvv → Calls Tryz.prog 14 #[.pointer (some ⟨w.heap.size + 1, 0, none⟩), ev E sl skv mvv] W fun r w' => ∃ v, r = .returned v ∧ PutTo (w1.heap.size + 1) W w' (w.heap.size + 1) mo n (addE C E)) := fun W sl skv mvv hW hLs => putTo_add _ _ n mo C E sl skv mvv k s W (HG.out.step (below_then hB hW)) (hBM.book.step hW) (by omega) (by omega) (by omega) ⟨hLs.d, hLs.s, hLs.m⟩ hk
      have HEE : Hid (∀ W, Below w.heap.size w W → Calls Tryz.prog 34 #[ev E (.slice ra E.ds.length rc) (.slice sa E.sk.length sc) (.slice ma E.mv.length mc)] W fun r w' => r = .returned (.int .i64 k) ∧ Below W.heap.size W w') := fun W hW => eventError_k E (.slice ra E.ds.length rc) (.slice sa E.sk.length sc) (.slice ma E.mv.length mc) k kr W (hgd.step hW) (hgs.step hW) (hgm.step hW) (by omega) (by omega) (by omega) (by omega) hkr hk (fun W' hG => ruleError_k E.f E.e _ E.c E.u E.ds kr W' hG l2 hkr)
      have hkb := evK_bd hk
      have HK0 : Hid (k = 0 ↔ EW E) := evK_0 hk
      have HXG : Hid (XGot w ⟨E, .slice ra E.ds.length rc, .slice sa E.sk.length sc, .slice ma E.mv.length mc⟩) := hXG
      have HEA : Hid (EvA w (ad.add (m * 11)) E (.slice ra E.ds.length rc) (.slice sa E.sk.length sc) (.slice ma E.mv.length mc)) := hEA
      have HBM : Hid (_) := hBM
      have HK3 : Hid (_) := hk3
      have HB : Hid (Below w.heap.size w wr) := hB
      unfold ev at HOE HPUT
      obtain ⟨x0, x1, x2, x3, x4, x5, x6, x7, x8, x9, x10⟩ := hEAr
      clear hBM hk3 hB hXG hEA hgd hgs hgm hk hkr HC HL HG
      go_upto_region 7 with (first
        | (go_at_call 18; refine Calls.mono HOE.out ?_; rintro r w3 ⟨sl3, sk3, mv3, rfl, hLs3, hb3⟩; have PT : Hid (Calls _ _ _ _ _) := HPUT.out w3 sl3 sk3 mv3 hb3 hLs3; obtain ⟨r3, rc3, rfl⟩ := got_form hLs3.gd; obtain ⟨s3, sc3, rfl⟩ := got_form hLs3.gs; obtain ⟨m3, mc3, rfl⟩ := gotM_form hLs3.gm)
        | (go_at_call 14; refine Calls.mono PT.out ?_; rintro r w4 ⟨v4, rfl, hPT⟩))
      obtain ⟨mo4, base4, hBM4, _, hB4, hs4⟩ := HBM.out.put HSM.out HB.out (Nat.le_succ _) hb3 hPT
      have hk34 : w4.heap[w.heap.size]? = some (.cells #[.slice none 0 0] 27 (0, 0)) := by
        refine (Kept.block (bb := w.heap.size + 1) (mo := mo) (kept_from hb3 ?_) w.heap.size ?_ (by omega) (fun q => ?_)).trans HK3.out
        · obtain ⟨_, _, q, _⟩ := hPT; exact q
        · exact (Array.getElem?_eq_some_iff.1 HK3.out).1
        · obtain ⟨D, _, _, h3, _⟩ := HBM.out.book
          have := h3 _ q.symm
          omega
      have HBM4 : Hid (_) := hBM4
      have HMB4 : Hid (∀ mb, mo4 = some mb → mb < w4.heap.size) := fun mb e => hBM4.book.lt.2 mb e
      have HB4 : Hid (Below w.heap.size w w4) := hB4
      have HK34 : Hid (_) := hk34
      obtain ⟨oa, oc, rfl, _, _⟩ := hBM4.row.form
      have hXl : Xs.length ≤ 1000 := by
        have h1 := congrArg List.length HSM.out
        have h2 := HBM.out.book
        rw [List.length_map] at h1
        have : C.length ≤ 60 := HC60.out
        omega
      have HMP : Hid (∀ W, Below w4.heap.size w4 W → Calls Tryz.prog 19 #[.agg #[.slice oa Xs.length oc], ev E (.slice ra E.ds.length rc) (.slice sa E.sk.length sc) (.slice ma E.mv.length mc)] W fun r w' => ∃ a' n' c' k', r = .returned (.tuple #[.agg #[.slice a' n' c'], .int .i64 k']) ∧ Below W.heap.size W w' ∧ MPutIs W.heap.size (.slice oa Xs.length oc) Xs ⟨E, .slice ra E.ds.length rc, .slice sa E.sk.length sc, .slice ma E.mv.length mc⟩ k (.slice a' n' c') k' w') := fun W hW => mput_any base4 E ra _ rc sa _ sc ma _ mc _ Xs k W (hBM4.row.far (fun k _ hk => hW.block k hk)) hXl (fun X hX => (HBM.out.got X hX).ok) hkb (fun W' hW' => HEE.out W' (below_then hB4 (below_then hW hW')))
      unfold ev at HMP
      have cM := cell_of hBM4.cell
      clear x0 x1 x2 x3 x4 x5 x6 x7 x8 x9 x10 HOE HPUT PT HEE hPT hLs3
      obtain ⟨x0, x1, x2, x3, x4, x5, x6, x7, x8, x9, x10⟩ := HEA.out.step hB4
      have KS : Hid (∀ W, Below w4.heap.size w4 W → Below w4.heap.size w4 W ∧ W.cell? ⟨w1.heap.size, 0, none⟩ = some (.slice oa Xs.length oc) ∧ W.cell? (ad.add (m * 11)) = some (.string E.id) ∧ W.cell? ⟨(ad.add (m * 11)).block, (ad.add (m * 11)).off + 1, none⟩ = some (.string E.ti) ∧ W.cell? ⟨(ad.add (m * 11)).block, (ad.add (m * 11)).off + 2, none⟩ = some (.int .i64 E.st) ∧ W.cell? ⟨(ad.add (m * 11)).block, (ad.add (m * 11)).off + 3, none⟩ = some (.int .i64 E.lg) ∧ W.cell? ⟨(ad.add (m * 11)).block, (ad.add (m * 11)).off + 4, none⟩ = some (.string E.f) ∧ W.cell? ⟨(ad.add (m * 11)).block, (ad.add (m * 11)).off + 5, none⟩ = some (.int .i64 E.e) ∧ W.cell? ⟨(ad.add (m * 11)).block, (ad.add (m * 11)).off + 6, none⟩ = some (.slice ra E.ds.length rc) ∧ W.cell? ⟨(ad.add (m * 11)).block, (ad.add (m * 11)).off + 7, none⟩ = some (.int .i64 E.c) ∧ W.cell? ⟨(ad.add (m * 11)).block, (ad.add (m * 11)).off + 8, none⟩ = some (.int .i64 E.u) ∧ W.cell? ⟨(ad.add (m * 11)).block, (ad.add (m * 11)).off + 9, none⟩ = some (.slice sa E.sk.length sc) ∧ W.cell? ⟨(ad.add (m * 11)).block, (ad.add (m * 11)).off + 10, none⟩ = some (.slice ma E.mv.length mc)) := fun W hW => ⟨hW, cell_step cM hW, cellA_step x0 hW, cellA_step x1 hW, cellA_step x2 hW, cellA_step x3 hW, cellA_step x4 hW, cellA_step x5 hW, cellA_step x6 hW, cellA_step x7 hW, cellA_step x8 hW, cellA_step x9 hW, cellA_step x10 hW⟩
      clear hBM4 hk34 hB4
      go_cut [7, 8] (fun v7 v8 wx => ∃ (bx n' c' : Nat) (a' : Option Addr) (k' : Int), v7 = .pointer (some ⟨bx, 0, none⟩) ∧ v8 = .int .i64 k' ∧ Hid (Below w4.heap.size w4 wx ∧ wx.heap[bx]? = some (.cells #[.slice a' n' c'] 27 (0, 0)) ∧ MPutIs w4.heap.size (.slice oa Xs.length oc) Xs ⟨E, .slice ra E.ds.length rc, .slice sa E.sk.length sc, .slice ma E.mv.length mc⟩ k (.slice a' n' c') k' wx))
      case first =>
        go_region_held3 (fun W => Below w4.heap.size w4 W ∧ W.cell? ⟨w1.heap.size, 0, none⟩ = some (.slice oa Xs.length oc) ∧ W.cell? (ad.add (m * 11)) = some (.string E.id) ∧ W.cell? ⟨(ad.add (m * 11)).block, (ad.add (m * 11)).off + 1, none⟩ = some (.string E.ti) ∧ W.cell? ⟨(ad.add (m * 11)).block, (ad.add (m * 11)).off + 2, none⟩ = some (.int .i64 E.st) ∧ W.cell? ⟨(ad.add (m * 11)).block, (ad.add (m * 11)).off + 3, none⟩ = some (.int .i64 E.lg) ∧ W.cell? ⟨(ad.add (m * 11)).block, (ad.add (m * 11)).off + 4, none⟩ = some (.string E.f) ∧ W.cell? ⟨(ad.add (m * 11)).block, (ad.add (m * 11)).off + 5, none⟩ = some (.int .i64 E.e) ∧ W.cell? ⟨(ad.add (m * 11)).block, (ad.add (m * 11)).off + 6, none⟩ = some (.slice ra E.ds.length rc) ∧ W.cell? ⟨(ad.add (m * 11)).block, (ad.add (m * 11)).off + 7, none⟩ = some (.int .i64 E.c) ∧ W.cell? ⟨(ad.add (m * 11)).block, (ad.add (m * 11)).off + 8, none⟩ = some (.int .i64 E.u) ∧ W.cell? ⟨(ad.add (m * 11)).block, (ad.add (m * 11)).off + 9, none⟩ = some (.slice sa E.sk.length sc) ∧ W.cell? ⟨(ad.add (m * 11)).block, (ad.add (m * 11)).off + 10, none⟩ = some (.slice ma E.mv.length mc)) ((refine KS.out _ ?_; (first | with_reducible assumption | with_reducible exact drew_below _ | with_reducible exact below_then (below_alloc _ _) (drew_below _) | with_reducible exact below_then (drew_below _) (below_alloc _ _) | with_reducible exact below_then hw20 (below_alloc _ _) | exact set_below hw20 (Nat.le_refl _))))
          ((go_at_call 19; refine Calls.mono (HMP.out _ ?_) ?_; (first | with_reducible assumption | with_reducible exact drew_below _ | with_reducible exact below_then (below_alloc _ _) (drew_below _) | with_reducible exact below_then (drew_below _) (below_alloc _ _)); rintro r w20 ⟨a', n', c', k', rfl, hb20, hIs⟩; have hw20 : Below w4.heap.size w4 w20 := (by first | with_reducible exact below_then (drew_below _) hb20 | with_reducible exact below_then (below_then (below_alloc _ _) (drew_below _)) hb20 | with_reducible exact below_then (below_then (drew_below _) (below_alloc _ _)) hb20); try (have zb : w20.heap[w4.heap.size]? = some (.cells #[.slice none 0 0] 27 (0, 0)) := (hb20.block _ (show w4.heap.size < (w4.alloc _).heap.size from (Nat.lt_of_lt_of_eq (Nat.lt_succ_self _) (World.size_alloc _ _).symm))).trans (block_at (W := w4) _ rfl); have zc := cell_of zb; have zf := blk11_frozen zb 0)))
        all_goals
          go_wp2_with fail
          go_meet
          case rel =>
            first
              | exact ⟨w20.heap.size, n', c', a', k', rfl, rfl, below_then hw20 (below_alloc _ _), block_at _ rfl, hIs.move (Nat.le_refl _) (fun j _ hj => (below_alloc w20 _).block j hj)⟩
              | exact ⟨w4.heap.size, n', c', a', k', rfl, rfl, set_below hw20 (Nat.le_refl _), set_block (i := 0) _ zb, hIs.move (b0 := w4.heap.size) (Nat.le_of_lt (show w4.heap.size < (w4.alloc _).heap.size from (Nat.lt_of_lt_of_eq (Nat.lt_succ_self _) (World.size_alloc _ _).symm))) (fun j hj _ => Below.heap_setCell _ _ _ j (by intro q; have q' : j = w4.heap.size := q; have hj' : (w4.alloc (.cells #[.slice none 0 0] 27)).heap.size ≤ j := hj; rw [World.size_alloc] at hj'; omega))⟩
      case rest =>
        obtain ⟨bx, n', c', a', k', rfl, rfl, HW⟩ := hcut
        obtain ⟨hBx, hcx, hIs⟩ := HW.out
        have hBMc := HBM4.out.step hBx
        have hBc : Below w.heap.size w wc := below_then HB4.out hBx
        have hk3c : wc.heap[w.heap.size]? = some (.cells #[.slice none 0 0] 27 (0, 0)) := (hBx.block _ (Array.getElem?_eq_some_iff.1 HK34.out).1).trans HK34.out
        clear x0 x1 x2 x3 x4 x5 x6 x7 x8 x9 x10 KS HMP cM HW HBM4 HB4 HK34
        rcases hIs with ⟨q0, rfl, q2⟩ | ⟨q0, q1, rfl, q3⟩ | ⟨q0, q1, rfl, q3⟩
        · have HR : Hid (∃ mo n base vm Xs, BM (w1.heap.size + 1) w wc (w.heap.size + 1) w1.heap.size mo n base (calOf (Es.take (m + 1))) vm Xs ∧ Xs.map EX.E = calOf (Es.take (m + 1)) ∧ n ≤ m + 1 ∧ wc.heap[w.heap.size]? = some (.cells #[.slice none 0 0] 27 (0, 0)) ∧ Below w.heap.size w wc) := ⟨mo4, n + 1, base4, _, Xs, by rw [HTK.out]; exact hBMc, by rw [HTK.out, addE_bad (fun z => q0 (HK0.out.2 z))]; exact HSM.out, by omega, hk3c, hBc⟩
          have hkp : 1 ≤ k' := by omega
          clear hBMc hBc hk3c hcx q2 q0
          go_wp2
          go_roundw
          case rel => exact ⟨m + 1, by omega, by go_num, HR.out⟩
          case measure => simp [intOf]; omega
        · have HR : Hid (∃ mo n base vm Xs, BM (w1.heap.size + 1) w wc (w.heap.size + 1) w1.heap.size mo n base (calOf (Es.take (m + 1))) vm Xs ∧ Xs.map EX.E = calOf (Es.take (m + 1)) ∧ n ≤ m + 1 ∧ wc.heap[w.heap.size]? = some (.cells #[.slice none 0 0] 27 (0, 0)) ∧ Below w.heap.size w wc) := by
            have hfull : Full60 C E := by
              have h1 := q1
              rw [find_map, HSM.out, ← List.length_map (f := EX.E), HSM.out] at h1
              exact h1
            exact ⟨mo4, n + 1, base4, _, Xs, by rw [HTK.out]; exact hBMc, by rw [HTK.out, addE_full hfull]; exact HSM.out, by omega, hk3c, hBc⟩
          clear hBMc hBc hk3c hcx q1 q3 q0
          go_wp2
          go_roundw
          case rel => exact ⟨m + 1, by omega, by go_num, HR.out⟩
          case measure => simp [intOf]; omega
        · have hnf : ¬ Full60 C E := fun z => q1 (by rw [find_map, HSM.out, ← List.length_map (f := EX.E), HSM.out]; exact z)
          have hput : addE C E = putC E C := addE_put (HK0.out.1 q0) hnf
          have hmne : mo4 ≠ none := fun z => by
            subst z
            have h1 := hBMc.book.nil
            rw [hput] at h1
            have : E ∈ putC E C := putC_mem.2 (.inl rfl)
            rw [h1] at this
            cases this
          have hlo4 : w1.heap.size + 1 ≤ w4.heap.size := Nat.le_trans (by rw [← hz2]; exact Nat.le_refl _) (Nat.le_trans HSZ.out hs4)
          have hst := hBMc.store (v' := .slice a' n' c') q3 hlo4 HMB4.out hmne (fun X hX => by
            rcases ins_mem.1 hX with rfl | hX'
            · exact HXG.out
            · exact HBM.out.got X (List.mem_filter.1 hX').1)
          have HR : Hid (∃ mo n base vm Xs, BM (w1.heap.size + 1) w (wc.setCell ⟨w1.heap.size, 0, none⟩ (.slice a' n' c')) (w.heap.size + 1) w1.heap.size mo n base (calOf (Es.take (m + 1))) vm Xs ∧ Xs.map EX.E = calOf (Es.take (m + 1)) ∧ n ≤ m + 1 ∧ (wc.setCell ⟨w1.heap.size, 0, none⟩ (.slice a' n' c')).heap[w.heap.size]? = some (.cells #[.slice none 0 0] 27 (0, 0)) ∧ Below w.heap.size w (wc.setCell ⟨w1.heap.size, 0, none⟩ (.slice a' n' c'))) := ⟨mo4, n + 1, _, _, _, by rw [HTK.out]; exact hst, by rw [HTK.out, hput, with_map, HSM.out], by omega, (Below.heap_setCell _ _ _ _ (by intro z; have z' : w.heap.size = w1.heap.size := z; omega)).trans hk3c, set_below hBc (by omega)⟩
          have cM2 := cell_of hBMc.cell
          have fM2 := blk11_frozen hBMc.cell 0
          have cX2 := cell_of hcx
          clear hBMc hBc hk3c hcx q1 q3 q0 hst hput hnf
          go_wp2
          go_roundw
          case rel => exact ⟨m + 1, by omega, by go_num, HR.out⟩
          case measure => simp [intOf]; omega
    · obtain ⟨mo, n, base, vm, Xs, hBM, hsm, hn, hk3, hB⟩ := HV.out
      have hfin : Es.take m = Es := List.take_of_length_le (by omega)
      rw [hfin] at hBM hsm
      obtain ⟨oa, oc, rfl, _, _⟩ := hBM.row.form
      have cM := cell_of hBM.cell
      have cR := cell_of hk3
      have fR := blk11_frozen hk3 0
      have hMl : MR base wr (.slice oa Xs.length oc) Xs := hBM.row
      have FIN : Hid (∀ W, Below wr.heap.size wr W → (W.setCell ⟨w.heap.size, 0, none⟩ (.slice oa Xs.length oc)).cell? ⟨w.heap.size, 0, none⟩ = some (.slice oa Xs.length oc) ∧ BookAt w.heap.size (W.setCell ⟨w.heap.size, 0, none⟩ (.slice oa Xs.length oc)) (w.heap.size + 1) mo n (calOf Es) ∧ MR w.heap.size (W.setCell ⟨w.heap.size, 0, none⟩ (.slice oa Xs.length oc)) (.slice oa Xs.length oc) Xs ∧ Below w.heap.size w (W.setCell ⟨w.heap.size, 0, none⟩ (.slice oa Xs.length oc))) := fun W hW => by
        have hbW := hBM.step hW
        have k3 := (hW.block _ (Array.getElem?_eq_some_iff.1 hk3).1).trans hk3
        have hlo := hbW.hlo
        refine ⟨cell_of (set_block (i := 0) _ k3), (hbW.book.grown (B := w.heap.size) (grown_set W ⟨w.heap.size, 0, none⟩ _) (by omega) (by omega)).low (by omega), own_base (MR.far hbW.row (fun j hj _ => Below.heap_setCell _ _ _ j (by intro q; have q' : j = w.heap.size := q; omega))) (by omega), set_below (below_then hB hW) (Nat.le_refl _)⟩
      have HSM : Hid (_) := hsm
      have HGOT : Hid (∀ X ∈ Xs, XGot w X) := hBM.got
      have HN : Hid (n ≤ 70) := by show n ≤ 70; omega
      clear HV HC HL HG hBM hsm hk3 hB hfin hMl
      go_wp2_with fail
      go_region
      all_goals
        obtain ⟨c1, b1, m1, bl1⟩ := FIN.out wr (Below.refl _ _)
        have cD := cell_step c1 (drew_below _)
        have HB1 : Hid (_) := b1
        have HM1 : Hid (MR _ _ _ _) := m1
        have HBL : Hid (_) := bl1
        clear c1 b1 m1 bl1 FIN cM cR fR
        go_wp2
        refine bodyPost_ret (v := .tuple #[.pointer (some ⟨w.heap.size + 1, 0, none⟩), .agg #[.slice oa Xs.length oc]]) (by simp [results, Tryz.f7, go_sem, cD]) rfl ⟨_, mo, n, _, Xs, rfl, Nat.le_succ _, BookAt.step HB1.out (drew_below _), HN.out, MR.far HM1.out (fun k _ hk => (drew_below _).block k hk), HSM.out, HGOT.out, below_then HBL.out (drew_below _)⟩
end Go.Proofs.YtekminpoiokgfaaGreatDoor

/- Package diff's find in one; set, add, drop: a change applied to a calendar. -/
namespace Go.Proofs.YtekminpoiokgfaaGreatDoor
open Go Go.RowKit Go.Maps Cal
attribute [local go_sem] Oper.semAt_some

theorem bs_inj {a b : List UInt8} (h : bs a = bs b) : a = b := by
  have := congrArg (fun x => x.data.toList) h
  exact this
theorem PutTo.from {lo : Nat} {w w1 w2 : World} {bb : Nat} {mo : Option Nat} {n : Nat} {C : List EV} (hb : Below w.heap.size w w1) (h : PutTo lo w1 w2 bb mo n C) : PutTo lo w w2 bb mo n C := by
  obtain ⟨mo', q1, q2, q3⟩ := h
  exact ⟨mo', q1, kept_from hb q2, q3.imp id (fun q => ⟨q.1, fun mb e => Nat.le_trans hb.size (q.2 mb e)⟩)⟩
theorem BookAt.more {lo : Nat} {W : World} {bb : Nat} {mo : Option Nat} {n n' : Nat} {C : List EV} (h : BookAt lo W bb mo n C) (hn : n ≤ n') : BookAt lo W bb mo n' C := by
  obtain ⟨D, h1, h2, h3, h4⟩ := h
  exact ⟨D, bok_mono h1 hn, h2, h3, h4⟩

end Go.Proofs.YtekminpoiokgfaaGreatDoor

/- Package diff's set and apply: a change applied to a calendar. -/
namespace Go.Proofs.YtekminpoiokgfaaGreatDoor
open Go Go.RowKit Go.Maps Cal
attribute [local go_sem] Oper.semAt_some

/-- a change: of field k (6: of the whole event) of an event, from a to b -/
structure DC where
  id : ByteArray
  k : Nat
  a : Option EV
  b : Option EV
noncomputable def oT (k : Nat) : Option EV → List UInt8
  | none => []
  | some E => cT E k
/-- a change, as the program holds it -/
noncomputable def DC.v (c : DC) : Value := chV c.id (fieldB c.k) (bs (oT c.k c.a)) (bs (oT c.k c.b))
/-- an event that a calendar may hold -/
def EOk (id : ByteArray) (E : EV) : Prop := EW E ∧ E.ds.length ≤ 20 ∧ E.id = id
/-- a change that Diff may tell -/
def DC.ok (c : DC) : Prop :=
  match c.a, c.b with
  | some F, some G => c.k < 6 ∧ EOk c.id F ∧ EOk c.id G
  | some F, none => c.k = 6 ∧ EOk c.id F
  | none, some G => c.k = 6 ∧ EOk c.id G
  | none, none => False
theorem eT_ne {E : EV} : eT E ≠ [] := by
  unfold eT
  rw [Lib.join_cons]
  intro q
  have := congrArg List.length q
  rw [List.length_append, Lib.joinTail_length] at this
  simp [pT] at this
end Go.Proofs.YtekminpoiokgfaaGreatDoor

/- Package book's Copy: a range over the map, in an order that nobody knows. -/
namespace Go.Proofs.YtekminpoiokgfaaGreatDoor
open Go Go.RowKit Go.Maps Go.Sort Cal
attribute [local go_sem] Oper.semAt_some

end Go.Proofs.YtekminpoiokgfaaGreatDoor

/- Changes one behind the other, in plain words; rows of them; package diff's Apply. -/
namespace Go.Proofs.YtekminpoiokgfaaGreatDoor
open Go Go.RowKit Go.Maps Cal
attribute [local go_sem] Oper.semAt_some

/-! ### rows of changes -/
noncomputable def DC.cells (c : DC) : List Value := [.string c.id, .string (fieldB c.k), .string (bs (oT c.k c.a)), .string (bs (oT c.k c.b))]
end Go.Proofs.YtekminpoiokgfaaGreatDoor
