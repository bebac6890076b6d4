/- The law's AsBook: a book has what its model has. -/
import Derived.Test.YtnpecjccajebiaaGreatDoorYeAB
import Derived.Deep.RegionWith
import Derived.Test.YtnpecjccajebiaaGreatDoorYaAR
namespace Go.Proofs.YtnpecjccajebiaaGreatDoor
open Go Go.RowKit Go.Maps Go.Sort Cal
attribute [local go_sem] Oper.semAt_some

theorem txs_form {W : World} {v : Value} {l : List ByteArray} {nl : Nat} (h : Txs W v l) (hn : l.length = nl) : ∃ a c, v = .slice a nl c := by
  obtain ⟨a, c, e, _⟩ := h
  subst hn
  exact ⟨a, c, e⟩

set_option maxHeartbeats 4000000 in
set_option maxRecDepth 100000 in
theorem asBook_any (lo bb n : Nat) (mo : Option Nat) (C : List EV) (base : Nat) (v : Value) (Xs : List EX) (s : Nat → Addr) (w w0 : World) (hB0 : Below w0.heap.size w0 w) (gk : GlobK s w) (g : GlobR w) (hb : BookAt lo w bb mo n C) (hn : n ≤ 1000) (hC : C.length ≤ 60) (hR : MR base w v Xs) (hg : ∀ X ∈ Xs, XGot w0 X) (hs : Xs.map EX.E = C) :
    Calls Tryz.prog 27 #[.pointer (some ⟨bb, 0, none⟩), .agg #[v]] w fun r w' => r = .returned (.int .i64 1) ∧ Below w.heap.size w w' := by
  have hXl : Xs.length = C.length := by rw [← hs, List.length_map]
  have hEW : ∀ X ∈ Xs, EW X.E := fun X hX => hb.rises.2 X.E (by rw [← hs]; exact List.mem_map_of_mem hX)
  obtain ⟨l, hl⟩ : ∃ l, C.map EV.id = l := ⟨_, rfl⟩
  obtain ⟨nl, hnl⟩ : ∃ nl, l.length = nl := ⟨_, rfl⟩
  have hl80 : l.length ≤ 80000 := by rw [← hl, List.length_map]; omega
  have hids : (Xs.map fun X => X.E.id) = l := by
    rw [← hl, ← hs, List.map_map]
    rfl
  have ID : Hid (∀ W, Below w.heap.size w W → Calls Tryz.prog 12 #[.pointer (some ⟨bb, 0, none⟩)] W fun r w' => ∃ a c, r = .returned (.slice a nl c) ∧ Txs w' (.slice a nl c) l ∧ Below W.heap.size W w') := fun W hW => by
    refine Calls.mono (ids_C lo bb n mo C W (hb.step hW) (Nat.le_trans hn (by decide))) ?_
    rintro r w' ⟨v1, rfl, hr, hb1⟩
    rw [hl] at hr
    have ht := hr.txs hl80
    obtain ⟨a, c, rfl⟩ := txs_form ht hnl
    exact ⟨a, c, rfl, ht, hb1⟩
  have MI : Hid (∀ W, Below w.heap.size w W → Calls Tryz.prog 52 #[.agg #[v]] W fun r w' => ∃ a c, r = .returned (.slice a nl c) ∧ Txs w' (.slice a nl c) l ∧ Below W.heap.size W w') := fun W hW => by
    refine Calls.mono (mids_any base v Xs W (hR.far (fun k _ hk => hW.block k hk)) (by omega)) ?_
    rintro r w' ⟨v1, rfl, ht, hb1⟩
    rw [hids] at ht
    obtain ⟨a, c, rfl⟩ := txs_form ht hnl
    exact ⟨a, c, rfl, ht, hb1⟩
  have BT : Hid (∀ W, Below w.heap.size w W → Calls Tryz.prog 9 #[.pointer (some ⟨bb, 0, none⟩)] W fun r w' => r = .returned (.string (bs (bkT C))) ∧ Below W.heap.size W w') := fun W hW => btext_C lo bb n mo C s W (gk.step hW) (g.step hW) (hb.step hW) (Nat.le_trans hn (by decide)) hC
  have MT : Hid (∀ W, Below w.heap.size w W → Calls Tryz.prog 53 #[.agg #[v]] W fun r w' => r = .returned (.string (bs (bkT C))) ∧ Below W.heap.size W w') := fun W hW => by
    have := mtext_any base v Xs W w0 (below_then hB0 hW) (hR.far (fun k _ hk => hW.block k hk)) (by omega) hg hEW
    rw [hs] at this
    exact this
  obtain ⟨a, cap, rfl, hcap, _⟩ := hR.form
  have hA := below_alloc w (.cells #[.slice a Xs.length cap] 27)
  have HA : Hid (_) := hA
  have cB := cell_of (block_at (W := w) (.cells #[.slice a Xs.length cap] 27) rfl)
  clear hA hR hg hs hb gk g hids hEW
  generalize bs (bkT C) = tx at BT MT
  generalize Xs.length = xl at MI MT cB HA ⊢
  generalize hw1 : w.alloc (.cells #[.slice a xl cap] 27) = w1 at HA cB
  have CB : Hid (∀ W, Below w1.heap.size w1 W → W.cell? ⟨w.heap.size, 0, none⟩ = some (.slice a xl cap)) := fun W hW => cell_step cB hW
  go_enter Tryz.func27, Tryz.ntmps27
  go_upto_region 3 with (fail)
  go_region_with (first
    | (go_at_call 29; refine Calls.mono (sameTexts_eq (l := l) (by first | exact HTI.out | exact HTI.out.step hbM) (by first | exact HTM.out | exact HTM.out.step hbI)) ?_; rintro r wS ⟨rfl, hbS⟩; have kS : Below w1.heap.size w1 wS := (by first | with_reducible exact below_then kM hbS | with_reducible exact below_then kI hbS); have cS := CB.out _ kS)
    | (go_at_call 9; refine Calls.mono (BT.out _ (below_then HA.out ?_)) ?_; (first | with_reducible assumption | with_reducible exact drew_below _); rintro r wT ⟨rfl, hbT⟩; have kT : Below w1.heap.size w1 wT := (by first | with_reducible exact below_then kS hbT | with_reducible exact below_then kU hbT); have cT := CB.out _ kT)
    | (go_at_call 53; refine Calls.mono (MT.out _ (below_then HA.out ?_)) ?_; (first | with_reducible assumption | with_reducible exact drew_below _); rintro r wU ⟨rfl, hbU⟩; have kU : Below w1.heap.size w1 wU := (by first | with_reducible exact below_then kT hbU | with_reducible exact below_then kS hbU); have cU := CB.out _ kU)
    | (go_at_call 12; refine Calls.mono (ID.out _ (below_then HA.out ?_)) ?_; (first | with_reducible assumption | with_reducible exact drew_below _); rintro r wI ⟨aI, cI, rfl, htI, hbI⟩; have HTI : Hid (Txs wI (.slice aI nl cI) l) := htI; have kI : Below w1.heap.size w1 wI := (by first | with_reducible exact below_then (drew_below _) hbI | with_reducible exact below_then kM hbI); have cI1 := CB.out _ kI; clear htI)
    | (go_at_call 52; refine Calls.mono (MI.out _ (below_then HA.out ?_)) ?_; (first | with_reducible assumption | with_reducible exact drew_below _); rintro r wM ⟨aM, cM, rfl, htM, hbM⟩; have HTM : Hid (Txs wM (.slice aM nl cM) l) := htM; have kM : Below w1.heap.size w1 wM := (by first | with_reducible exact below_then (drew_below _) hbM | with_reducible exact below_then kI hbM); have cM1 := CB.out _ kM; clear htM))
  all_goals
    go_wp2
    go_ret
    first
      | exact ⟨rfl, below_then HA.out kT⟩
      | exact ⟨rfl, below_then HA.out kU⟩
end Go.Proofs.YtnpecjccajebiaaGreatDoor

/- The law's longActs, and coded: acts on a calendar, wherever they lie. -/
namespace Go.Proofs.YtnpecjccajebiaaGreatDoor
open Go Go.RowKit Go.Maps Go.Sort Cal
attribute [local go_sem] Oper.semAt_some

theorem coded2_nil (w : World) :
    Calls Tryz.prog 22 #[.nilIface, .int .i64 0] w fun e w' => e = .returned (.bool true) ∧ w' = w := by
  go_enter Tryz.func22, Tryz.ntmps22
  go_wp2_with (go_at_call 50; refine (code_nil _).mono ?_; rintro e w' ⟨rfl, rfl⟩)
  go_ret
  exact ⟨rfl, rfl⟩
theorem coded2_err (s : Nat → Addr) (j : Nat) (w : World) (g : Sents s w) (hj : j < 11) :
    Calls Tryz.prog 22 #[.iface 288 (.pointer (some (s j))), .int .i64 (j + 1)] w fun e w' => e = .returned (.bool true) ∧ Below w.heap.size w w' := by
  have hc := code_gen s j (s j) w g (by omega) (fun k hk => g.ne j k hj (by omega) (by omega)) (fun _ => rfl) (g.blk j hj)
  rw [cnum_lt hj] at hc
  have HC : Hid (_) := hc
  clear hc
  go_enter Tryz.func22, Tryz.ntmps22
  go_wp2_with (go_at_call 50; refine (Calls.mono HC.out ?_); rintro e w' ⟨rfl, hb⟩)
  go_ret
  exact ⟨rfl, hb⟩

/-- an act -/
structure AC where
  kd : ByteArray
  E : EV
  id : ByteArray
/-- an act's thirteen cells, from any address on -/
structure ActA (W : World) (A : Addr) (K : AC) (sl skv mvv : Value) : Prop where
  k : W.cell? A = some (.string K.kd)
  e : EvA W ⟨A.block, A.off + 1, none⟩ K.E sl skv mvv
  i : W.cell? ⟨A.block, A.off + 12, none⟩ = some (.string K.id)
theorem ActA.step {W W' : World} {A : Addr} {K : AC} {sl skv mvv : Value} (h : ActA W A K sl skv mvv) (hb : Below W.heap.size W W') : ActA W' A K sl skv mvv := ⟨cellA_step h.k hb, h.e.step hb, cellA_step h.i hb⟩
/-- acts, as they are handed over -/
def ActsL (W : World) (v : Value) (Ks : List AC) : Prop :=
  ∃ (a : Option Addr) (c : Nat), v = .slice a Ks.length c ∧ Ks.length ≤ 1000000000000000 ∧ Ks.length ≤ c ∧
    ∀ (j : Nat) (h : j < Ks.length), ∃ ad : Addr, a = some ad ∧ Ks[j].E.sk.length ≤ 1000000000000000 ∧ Ks[j].E.mv.length ≤ 1000000000000000 ∧ Ks[j].E.ti.size ≤ 1000000000000000 ∧ Ks[j].id.size ≤ 1000000000000000 ∧ ∃ ra rc sa sc ma mc, ActA W (ad.add (j * 13)) Ks[j] (.slice ra Ks[j].E.ds.length rc) (.slice sa Ks[j].E.sk.length sc) (.slice ma Ks[j].E.mv.length mc) ∧
      Got W (.slice ra Ks[j].E.ds.length rc) Ks[j].E.ds ∧ Got W (.slice sa Ks[j].E.sk.length sc) Ks[j].E.sk ∧ GotM W (.slice ma Ks[j].E.mv.length mc) Ks[j].E.mv
theorem ActsL.step {W W' : World} {v : Value} {Ks : List AC} (h : ActsL W v Ks) (hb : Below W.heap.size W W') : ActsL W' v Ks := by
  obtain ⟨a, c, h1, h2, h3, h4⟩ := h
  refine ⟨a, c, h1, h2, h3, fun j hj => ?_⟩
  obtain ⟨ad, e, l1, l2, l3, l4, ra, rc, sa, sc, ma, mc, g1, g2, g3, g4⟩ := h4 j hj
  exact ⟨ad, e, l1, l2, l3, l4, ra, rc, sa, sc, ma, mc, g1.step hb, g2.step hb, g3.step hb, g4.step hb⟩

set_option maxHeartbeats 2000000 in
set_option maxRecDepth 100000 in
theorem longActs_any (Ks : List AC) (v : Value) (w : World) (h : ActsL w v Ks) :
    Calls Tryz.prog 20 #[v] w fun r w' => ∃ b : Bool, r = .returned (.bool b) ∧ (b = true ∨ (b = false ∧ Ks.length ≤ 90 ∧ ∀ K ∈ Ks, lngE K.E = 0 ∧ K.id.size ≤ 30)) ∧ Below w.heap.size w w' := by
  obtain ⟨a, cap, rfl, hl, hcap, hc⟩ := h
  have HC : Hid (_) := hc
  clear hc
  by_cases h90 : 90 < Ks.length
  · go_enter Tryz.func20, Tryz.ntmps20
    go_wp2
    go_ret
    exact ⟨true, rfl, .inl rfl, Below.refl _ _⟩
  · go_enter Tryz.func20, Tryz.ntmps20
    go_wp2
    go_loopw [3] (fun i wr => ∃ (m : Nat), m ≤ Ks.length ∧ i = .int .i64 m ∧ Hid (Below w.heap.size w wr) ∧ Hid (∀ (j : Nat) (h : j < Ks.length), j < m → lngE Ks[j].E = 0 ∧ Ks[j].id.size ≤ 30)) (fun i _ => Ks.length - (intOf i).toNat)
    case atStart => exact ⟨0, Nat.zero_le _, rfl, Below.refl _ _, fun j _ h => absurd h (Nat.not_lt_zero _)⟩
    case round =>
      obtain ⟨m, hm, rfl, hB, HA⟩ := hrel
      by_cases hlt : m < Ks.length
      · obtain ⟨ad, rfl, k1, k2, k3, k4, ra, rc, sa, sc, ma, mc, hE, _, _, _⟩ := HC.out m hlt
        have HN : Hid (lngE Ks[m].E = 0 ∧ Ks[m].id.size ≤ 30 → ∀ (j : Nat) (h : j < Ks.length), j < m + 1 → lngE Ks[j].E = 0 ∧ Ks[j].id.size ≤ 30) := fun q j hj hjk => by
          by_cases ej : j = m
          · subst ej; exact q
          · exact HA.out j hj (by omega)
        have LE : Hid (∀ W, Calls Tryz.prog 32 #[ev Ks[m].E (.slice ra Ks[m].E.ds.length rc) (.slice sa Ks[m].E.sk.length sc) (.slice ma Ks[m].E.mv.length mc)] W fun r w' => r = .returned (.int .i64 (lngE Ks[m].E)) ∧ Below W.heap.size W w') := fun W => longEvent_any _ _ _ _ _ _ _ W
        have hE2 := hE.step hB.out
        have HE3 : Hid (∀ W, Below wr.heap.size wr W → W.cell? ⟨(ad.add (m * 13)).block, (ad.add (m * 13)).off + 12, none⟩ = some (.string Ks[m].id)) := fun W hW => cellA_step hE2.i hW
        clear HA HC hE
        generalize Ks[m] = K at k1 k2 k3 k4 hE2 HN LE HE3
        obtain ⟨kd, E, id⟩ := K
        dsimp only at k1 k2 k3 k4 hE2 HN LE HE3
        obtain ⟨z0, ⟨x0, x1, x2, x3, x4, x5, x6, x7, x8, x9, x10⟩, z1⟩ := hE2
        dsimp only at z0 x0 x1 x2 x3 x4 x5 x6 x7 x8 x9 x10 z1
        unfold ev at LE
        rcases lng_01 E with hz | hz
        · have HN' : Hid (id.size ≤ 30 → _) := fun q => HN.out ⟨hz, q⟩
          rw [hz] at LE
          clear HN hz
          by_cases hs : (30 : Int) < (id.size : Int)
          · go_wp2_with (go_at_call 32; refine Calls.mono (LE.out _) ?_; rintro r w5 ⟨rfl, hb5⟩; have z2 := HE3.out w5 hb5)
            go_ret
            exact ⟨true, rfl, .inl rfl, below_then hB.out hb5⟩
          · have HN2 : Hid (_) := HN'.out (by omega)
            clear HN'
            go_wp2_with (go_at_call 32; refine Calls.mono (LE.out _) ?_; rintro r w5 ⟨rfl, hb5⟩; have z2 := HE3.out w5 hb5)
            go_roundw
            case rel => exact ⟨m + 1, by omega, by go_num, below_then hB.out hb5, HN2.out⟩
            case measure => simp [intOf]; omega
        · rw [hz] at LE
          clear HN hz
          go_wp2_with (go_at_call 32; refine Calls.mono (LE.out _) ?_; rintro r w5 ⟨rfl, hb5⟩)
          go_ret
          exact ⟨true, rfl, .inl rfl, below_then hB.out hb5⟩
      · have HR : Hid (∀ K ∈ Ks, lngE K.E = 0 ∧ K.id.size ≤ 30) := fun E hE => by
          obtain ⟨j, hj, rfl⟩ := List.mem_iff_getElem.1 hE
          exact HA.out j hj (by omega)
        clear HA HC
        go_wp2
        go_ret
        exact ⟨false, rfl, .inr ⟨rfl, by omega, HR.out⟩, hB.out⟩
end Go.Proofs.YtnpecjccajebiaaGreatDoor

/- A list of acts on a calendar as an argument, opened. -/
namespace Go.Proofs.YtnpecjccajebiaaGreatDoor
open Go.ChangeShapes Go.WideShapes Go.ChangeAt Go.RowKit Cal

section
variable {H : Type} {enc : TypeId × Value → H} {W : World}
theorem bAct : Tryz.prog.bytesOf 57 = 192 := by kernel_rfl
theorem cAct : Tryz.prog.cellsOf 57 = 13 := by kernel_rfl
instance : Inhabited AC := ⟨⟨⟨#[]⟩, default, ⟨#[]⟩⟩⟩
theorem thirteen {l : List Value} (h : l.length = 13) : ∃ c0 c1 c2 c3 c4 c5 c6 c7 c8 c9 c10 c11 c12, l = [c0, c1, c2, c3, c4, c5, c6, c7, c8, c9, c10, c11, c12] := by
  match l, h with
  | [a, b, c, d, e, f, g, h, i, j, k, l, m], _ => exact ⟨a, b, c, d, e, f, g, h, i, j, k, l, m, rfl⟩

set_option maxRecDepth 100000 in
theorem open_act_cells {fuel : Nat} {c0 c1 c2 c3 c4 c5 c6 c7 c8 c9 c10 c11 c12 : Value} {x : DataW H × List MemPlace}
    (hf : DataW.trod enc Tryz.prog W 0 (fun _ => true) true fuel 57 [c0, c1, c2, c3, c4, c5, c6, c7, c8, c9, c10, c11, c12] = some x) (hw : ∀ k ∈ x.1.weights Tryz.prog 57, k ≤ reachBytes) :
    ∃ (K : AC) (ra : Option Addr) (rc : Nat) (sa : Option Addr) (sc : Nat) (ma : Option Addr) (mc : Nat), [c0, c1, c2, c3, c4, c5, c6, c7, c8, c9, c10, c11, c12] = [.string K.kd, .string K.E.id, .string K.E.ti, .int .i64 K.E.st, .int .i64 K.E.lg, .string K.E.f, .int .i64 K.E.e, .slice ra K.E.ds.length rc, .int .i64 K.E.c, .int .i64 K.E.u, .slice sa K.E.sk.length sc, .slice ma K.E.mv.length mc, .string K.id] ∧
      Got W (.slice ra K.E.ds.length rc) K.E.ds ∧ Got W (.slice sa K.E.sk.length sc) K.E.sk ∧ GotM W (.slice ma K.E.mv.length mc) K.E.mv ∧ K.E.sk.length ≤ 1000000000000000 ∧ K.E.mv.length ≤ 1000000000000000 ∧ K.E.ti.size ≤ 1000000000000000 ∧ K.id.size ≤ 1000000000000000 := by
  obtain ⟨xs, n, _, hx, hl, hlen, hfl⟩ := DataW.trod_struct Tryz.underlying57 hf
  have h0 := hfl 0 _ rfl
  have h1 := hfl 1 _ rfl
  have h2 := hfl 2 _ rfl
  match xs, hlen with
  | [y0, y1, y2], _ =>
  have hwt : x.1.weights Tryz.prog 57 = DataW.weightsEach Tryz.prog [9, 44, 9] [y0.1, y1.1, y2.1] := by
    rw [hx]
    simp [DataW.weights, Tryz.underlying57]
  have w1 : ∀ k ∈ y1.1.weights Tryz.prog 44, k ≤ reachBytes := fun k hk => hw k (by rw [hwt]; exact DataW.weights_mem_each (j := 1) rfl rfl k hk)
  have w2 : ∀ k ∈ y2.1.weights Tryz.prog 9, k ≤ reachBytes := fun k hk => hw k (by rw [hwt]; exact DataW.weights_mem_each (j := 2) rfl rfl k hk)
  simp [cStr, cEvent] at h0 h1 h2
  obtain ⟨kd, e0, _, _⟩ := DataW.trod_string Tryz.underlying9 h0
  obtain ⟨aid, e2, ey2, _⟩ := DataW.trod_string Tryz.underlying9 h2
  obtain ⟨E, ra, rc, sa, sc, ma, mc, hc, d1, d2, d3, b1, b2, b3⟩ := open_event_cells h1 w1
  cases e0
  cases e2
  have b4 : aid.size ≤ 1000000000000000 := by
    have h1 := w2 aid.data.toList.length (by rw [ey2]; simp [DataW.weights])
    have h3 := reachBytes_lt
    have h2 : aid.data.toList.length = aid.size := by simp
    omega
  refine ⟨⟨kd, E, aid⟩, ra, rc, sa, sc, ma, mc, ?_, d1, d2, d3, b1, b2, b3, b4⟩
  show [.string kd] ++ [c1, c2, c3, c4, c5, c6, c7, c8, c9, c10, c11] ++ [.string aid] = _
  rw [hc]
  rfl

set_option maxRecDepth 100000 in
/-- a list of acts that was handed over -/
theorem open_acts {fuel : Nat} {v : Value} {x : DataW H × List MemPlace} (h : DataW.trod enc Tryz.prog W 0 (fun _ => true) true fuel 54 [v] = some x) (hw : ∀ k ∈ x.1.weights Tryz.prog 54, k ≤ reachBytes) : ∃ Ks : List AC, ActsL W v Ks := by
  have h' := h
  rcases Deep.open_slice Tryz.underlying54 h with ⟨e1, _⟩ | ⟨a, len, cap, m, n, D, Pl, e1, _, hlc, _, hm, hx, he⟩
  · cases e1
    exact ⟨[], none, 0, rfl, by simp, by simp, fun j hj => absurd hj (by simp)⟩
  · cases e1
    have hbl := slice_len Tryz.underlying54 (by rw [bAct]; decide) h' hw
    have hm' : m = cap := by simpa using hm
    have each : ∀ i, i < len → ∃ K : AC, K.E.sk.length ≤ 1000000000000000 ∧ K.E.mv.length ≤ 1000000000000000 ∧ K.E.ti.size ≤ 1000000000000000 ∧ K.id.size ≤ 1000000000000000 ∧ ∃ ra rc sa sc ma mc, ActA W (a.add (i * 13)) K (.slice ra K.E.ds.length rc) (.slice sa K.E.sk.length sc) (.slice ma K.E.mv.length mc) ∧
        Got W (.slice ra K.E.ds.length rc) K.E.ds ∧ Got W (.slice sa K.E.sk.length sc) K.E.sk ∧ GotM W (.slice ma K.E.mv.length mc) K.E.mv := by
      intro i hi
      obtain ⟨cs, q1, q2⟩ := he i (by omega)
      rw [cAct] at q1
      obtain ⟨_, hlen, hcell⟩ := World.cells?_some q1
      obtain ⟨c0, c1, c2, c3, c4, c5, c6, c7, c8, c9, c10, c11, c12, rfl⟩ := thirteen hlen
      have hwi : ∀ k ∈ (D i).weights Tryz.prog 57, k ≤ reachBytes := fun k hk => hw k (by
        rw [hx]
        simp only [DataW.weights, Tryz.underlying54, List.mem_cons, List.mem_append]
        exact .inr (.inl (weights_all (List.mem_map.2 ⟨i, List.mem_range.2 hi, rfl⟩) k hk)))
      obtain ⟨K, ra, rc, sa, sc, ma, mc, hc, d1, d2, d3, b1, b2, b3, b4⟩ := open_act_cells q2 hwi
      have A : ∀ k, k < 13 → k ≠ 0 → W.cell? ⟨(a.add (i * 13)).block, (a.add (i * 13)).off + k, none⟩ = [c0, c1, c2, c3, c4, c5, c6, c7, c8, c9, c10, c11, c12][k]? := fun k hk h0 => by
        rw [← add_blk _ _ h0, hcell k hk]
      have A0 : W.cell? (a.add (i * 13)) = [c0, c1, c2, c3, c4, c5, c6, c7, c8, c9, c10, c11, c12][0]? := by
        have := hcell 0 (by decide)
        rwa [show (a.add (i * 13)).add 0 = a.add (i * 13) from rfl] at this
      rw [hc] at A0
      refine ⟨K, b1, b2, b3, b4, ra, rc, sa, sc, ma, mc, ⟨A0, ⟨?_, ?_, ?_, ?_, ?_, ?_, ?_, ?_, ?_, ?_, ?_⟩, ?_⟩, d1, d2, d3⟩
      · have := A 1 (by decide) (by decide); rw [hc] at this; exact this
      · have := A 2 (by decide) (by decide); rw [hc] at this; exact this
      · have := A 3 (by decide) (by decide); rw [hc] at this; exact this
      · have := A 4 (by decide) (by decide); rw [hc] at this; exact this
      · have := A 5 (by decide) (by decide); rw [hc] at this; exact this
      · have := A 6 (by decide) (by decide); rw [hc] at this; exact this
      · have := A 7 (by decide) (by decide); rw [hc] at this; exact this
      · have := A 8 (by decide) (by decide); rw [hc] at this; exact this
      · have := A 9 (by decide) (by decide); rw [hc] at this; exact this
      · have := A 10 (by decide) (by decide); rw [hc] at this; exact this
      · have := A 11 (by decide) (by decide); rw [hc] at this; exact this
      · have := A 12 (by decide) (by decide); rw [hc] at this; exact this
    obtain ⟨q, hq⟩ := Deep.choose_lt each
    refine ⟨(List.range len).map q, some a, cap, by simp, by simpa using hbl, by simpa using hlc, fun j hj => ?_⟩
    have hj' : j < len := by simpa using hj
    have e5 : ((List.range len).map q)[j] = q j := by simp
    obtain ⟨b1, b2, b3, b4, ra, rc, sa, sc, ma, mc, hA, d1, d2, d3⟩ := hq j hj'
    rw [e5]
    exact ⟨a, rfl, b1, b2, b3, b4, ra, rc, sa, sc, ma, mc, hA, d1, d2, d3⟩
end
end Go.Proofs.YtnpecjccajebiaaGreatDoor
