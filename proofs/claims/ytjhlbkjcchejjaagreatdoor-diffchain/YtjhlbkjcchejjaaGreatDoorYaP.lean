/- Package book's New and keep. -/
import Derived.Test.YtjhlbkjcchejjaaGreatDoorBoMW
import Derived.Deep.RegionHeld3
import Derived.Carry
import Derived.Deep.DeepCutAuto
namespace Go.Proofs.YtjhlbkjcchejjaaGreatDoor
open Go Go.RowKit Go.Maps Cal
attribute [local go_sem] Oper.semAt_some

/-- what a book's writers leave as it was: all but its own block and its map's -/
structure Kept (w w' : World) (bb : Nat) (mo : Option Nat) : Prop where
  os : w'.os = w.os
  tape : w'.tape = w.tape
  output : w'.output = w.output
  size : w.heap.size ≤ w'.heap.size
  block : ∀ k, k < w.heap.size → k ≠ bb → some k ≠ mo → w'.heap[k]? = w.heap[k]?
theorem Kept.below {w w' : World} {bb : Nat} {mo : Option Nat} (h : Kept w w' bb mo) {w0 : World} (hb : Below w0.heap.size w0 w) (h1 : w0.heap.size ≤ bb) (h2 : ∀ m, mo = some m → w0.heap.size ≤ m) : Below w0.heap.size w0 w' :=
  ⟨h.os.trans hb.os, h.tape.trans hb.tape, h.output.trans hb.output, Nat.le_trans hb.size h.size, fun k hk => (h.block k (Nat.lt_of_lt_of_le hk hb.size) (by omega) (fun q => by have := h2 k q.symm; omega)).trans (hb.block k hk)⟩

theorem OffI.mono {N N' : Nat → Prop} {W : World} {v : Value} {xs : List Int} (h : OffI N W v xs) (q : ∀ b, N' b → N b) : OffI N' W v xs := by
  obtain ⟨a, c, h1, h2, h3, h4⟩ := h
  refine ⟨a, c, h1, h2, h3, fun j hj => ?_⟩
  obtain ⟨b, e, hb, hl, hc⟩ := h4 j hj
  exact ⟨b, e, fun k => hb (q b k), hl, hc⟩
theorem OffM.mono {N N' : Nat → Prop} {W : World} {v : Value} {xs : List (Int × Int)} (h : OffM N W v xs) (q : ∀ b, N' b → N b) : OffM N' W v xs := by
  obtain ⟨a, c, h1, h2, h3, h4⟩ := h
  refine ⟨a, c, h1, h2, h3, fun j hj => ?_⟩
  obtain ⟨b, e, hb, hl, hc⟩ := h4 j hj
  exact ⟨b, e, fun k => hb (q b k), hl, hc⟩
theorem Off.mono {N N' : Nat → Prop} {W : World} {E : EV} {sl skv mvv : Value} (h : Off N W E sl skv mvv) (q : ∀ b, N' b → N b) : Off N' W E sl skv mvv := ⟨h.d.mono q, h.s.mono q, h.m.mono q⟩

theorem new_any (w : World) : Calls Tryz.prog 45 #[] w fun r w' => r = .returned (.pointer (some ⟨w.heap.size, 0, none⟩)) ∧ Bok w' w.heap.size none 0 (.map []) ∧ Below w.heap.size w w' := by
  go_enter Tryz.func45, Tryz.ntmps45
  go_wp2
  go_ret
  exact ⟨rfl, ⟨block_at _ rfl, rfl⟩, below_alloc _ _⟩

set_option maxHeartbeats 2000000 in
set_option maxRecDepth 100000 in
/-- keep, where there is a map -/
theorem keep_some (bb mb n : Nat) (D : DataW Value) (E : EV) (sl skv mvv : Value) (w : World) (h : Bok w bb (some mb) n D) (hn : n ≤ 100000) (hi : E.id.size ≤ 1000) (hL : Ls w E sl skv mvv) (k20 : E.sk.length ≤ 20) (m20 : E.mv.length ≤ 20) :
    Calls Tryz.prog 85 #[.pointer (some ⟨bb, 0, none⟩), ev E sl skv mvv] w fun r w' => (∃ v, r = .returned v) ∧ ∃ sl' skv' mvv', Bok w' bb (some mb) (n + 1) (D.put (key E.id) (.held (ev E sl' skv' mvv'))) ∧ Off (fun k => k < w.heap.size ∨ k = mb) w' E sl' skv' mvv' ∧ Kept w w' bb (some mb) := by
  have HD20 : Hid (E.ds.length ≤ 20) := by obtain ⟨_, _, _, q, _⟩ := hL.d; exact q
  have hA := below_alloc w (.cells #[.string E.id, .string E.ti, .int .i64 E.st, .int .i64 E.lg, .string E.f, .int .i64 E.e, sl, .int .i64 E.c, .int .i64 E.u, skv, mvv] 27)
  have kE := EB.new w E sl skv mvv
  have hL0 := hL.step hA
  have h0 := h.step hA
  obtain ⟨hd, hs, hm⟩ := hL
  obtain ⟨ra, rc, rfl, _⟩ := hd
  obtain ⟨sa, sc, rfl, _⟩ := hs
  obtain ⟨ma, mc, rfl, _⟩ := hm
  have hbb : bb < w.heap.size := (Array.getElem?_eq_some_iff.1 h.1).1
  have hmb : mb < w.heap.size := h.2.2.lt
  have HNE : Hid (mb ≠ bb) := h.2.1
  have HA : Hid (_) := hA
  have HKY : Hid (keyOf Tryz.prog 9 (.string E.id) = some (key E.id)) := key_of hi
  have m8 : E.mv.length ≤ 80000 := by omega
  have hnm : n < maxLen := by unfold maxLen; omega
  unfold ev
  generalize hw0 : w.alloc (.cells #[.string E.id, .string E.ti, .int .i64 E.st, .int .i64 E.lg, .string E.f, .int .i64 E.e, .slice ra E.ds.length rc, .int .i64 E.c, .int .i64 E.u, .slice sa E.sk.length sc, .slice ma E.mv.length mc] 27) = w0 at HA kE hL0 h0
  have HB0 : Hid (Bok w0 bb (some mb) n D) := h0
  have KE : Hid (EB w0 w.heap.size E (.slice ra E.ds.length rc) (.slice sa E.sk.length sc) (.slice ma E.mv.length mc)) := kE
  have CP : Hid (∀ W, Below w0.heap.size w0 W → Calls Tryz.prog 38 #[ev E (.slice ra E.ds.length rc) (.slice sa E.sk.length sc) (.slice ma E.mv.length mc)] W fun r w' => ∃ sl' skv' mvv', r = .returned (ev E sl' skv' mvv') ∧ Ow W.heap.size w' sl' E.ds ∧ Ow W.heap.size w' skv' E.sk ∧ OwM W.heap.size w' mvv' E.mv ∧ Below W.heap.size W w') := fun W hW => copy_any E _ _ _ W (hL0.step hW) k20 m20
  unfold ev at CP
  have hbe : w.heap.size < w0.heap.size := by rw [← hw0, World.size_alloc]; exact Nat.lt_succ_self _
  have cB := h0.cell
  obtain ⟨x0, x1, x2, x3, x4, x5, x6, x7, x8, x9, x10⟩ := blk11 (show w0.heap[w.heap.size]? = _ from kE)
  have qn : ∀ (W : World), (binOp .eql 127 (.map (some mb)) (.map none)).run Tryz.prog W = .ok (.bool false) W := fun W => by kernel_rfl
  clear hA hL0 h0 h kE
  have KS : Hid (∀ (W : World) (be : Nat), W.heap[bb]? = some (.cells #[.map (some mb)] 129 (0, 0)) → W.heap[be]? = some (.cells #[.string E.id, .string E.ti, .int .i64 E.st, .int .i64 E.lg, .string E.f, .int .i64 E.e, .slice ra E.ds.length rc, .int .i64 E.c, .int .i64 E.u, .slice sa E.sk.length sc, .slice ma E.mv.length mc] 27 (0, 0)) → W.cell? ⟨bb, 0, none⟩ = some (.map (some mb)) ∧ W.cell? ⟨be, 0, none⟩ = some (.string E.id) ∧ W.cell? ⟨be, 1, none⟩ = some (.string E.ti) ∧ W.cell? ⟨be, 2, none⟩ = some (.int .i64 E.st) ∧ W.cell? ⟨be, 3, none⟩ = some (.int .i64 E.lg) ∧ W.cell? ⟨be, 4, none⟩ = some (.string E.f) ∧ W.cell? ⟨be, 5, none⟩ = some (.int .i64 E.e) ∧ W.cell? ⟨be, 6, none⟩ = some (.slice ra E.ds.length rc) ∧ W.cell? ⟨be, 7, none⟩ = some (.int .i64 E.c) ∧ W.cell? ⟨be, 8, none⟩ = some (.int .i64 E.u) ∧ W.cell? ⟨be, 9, none⟩ = some (.slice sa E.sk.length sc) ∧ W.cell? ⟨be, 10, none⟩ = some (.slice ma E.mv.length mc)) := fun W be h1 h2 => by
    obtain ⟨x0, x1, x2, x3, x4, x5, x6, x7, x8, x9, x10⟩ := blk11 h2
    exact ⟨by simp [World.cell?, h1], x0, x1, x2, x3, x4, x5, x6, x7, x8, x9, x10⟩
  go_enter Tryz.func85, Tryz.ntmps85
  go_upto_region 3 with (fail)
  have hl1 : bb < w0.heap.size := Nat.lt_trans hbb hbe
  have hlk : ∀ k, k < w.heap.size → k < w0.heap.size := fun k h => Nat.lt_trans h hbe
  have hl2 : mb < w0.heap.size := Nat.lt_trans hmb hbe
  have hne2 : w.heap.size ≠ mb := Nat.ne_of_gt hmb
  go_region_held3 (fun W => W.cell? ⟨bb, 0, none⟩ = some (.map (some mb)) ∧ W.cell? ⟨w.heap.size, 0, none⟩ = some (.string E.id) ∧ W.cell? ⟨w.heap.size, 1, none⟩ = some (.string E.ti) ∧ W.cell? ⟨w.heap.size, 2, none⟩ = some (.int .i64 E.st) ∧ W.cell? ⟨w.heap.size, 3, none⟩ = some (.int .i64 E.lg) ∧ W.cell? ⟨w.heap.size, 4, none⟩ = some (.string E.f) ∧ W.cell? ⟨w.heap.size, 5, none⟩ = some (.int .i64 E.e) ∧ W.cell? ⟨w.heap.size, 6, none⟩ = some (.slice ra E.ds.length rc) ∧ W.cell? ⟨w.heap.size, 7, none⟩ = some (.int .i64 E.c) ∧ W.cell? ⟨w.heap.size, 8, none⟩ = some (.int .i64 E.u) ∧ W.cell? ⟨w.heap.size, 9, none⟩ = some (.slice sa E.sk.length sc) ∧ W.cell? ⟨w.heap.size, 10, none⟩ = some (.slice ma E.mv.length mc)) ((first | exact KS.out _ _ hB6 hE6 | exact KS.out _ _ hB5 hE5 | exact KS.out _ _ HB0.out.1 KE.out))
    (first
      | (go_at_call 38; refine Calls.mono (CP.out _ ?_) ?_; (with_reducible exact drew_below _); rintro r w5 ⟨sl2, sk2, mv2, rfl, ho1, ho2, ho3, hb5⟩; obtain ⟨r2, rc2, rfl⟩ := ow_form ho1; obtain ⟨s2, sc2, rfl⟩ := ow_form ho2; obtain ⟨m2, mc2, rfl⟩ := gotM_form (owm_movs ho3 m8).2; have hB5 : w5.heap[bb]? = some (.cells #[.map (some mb)] 129 (0, 0)) := (hb5.block _ hl1).trans HB0.out.1; have hE5 : w5.heap[w.heap.size]? = some (.cells #[.string E.id, .string E.ti, .int .i64 E.st, .int .i64 E.lg, .string E.f, .int .i64 E.e, .slice ra E.ds.length rc, .int .i64 E.c, .int .i64 E.u, .slice sa E.sk.length sc, .slice ma E.mv.length mc] 27 (0, 0)) := (hb5.block _ hbe).trans KE.out; obtain ⟨w6, hrun, hown6, hturn6⟩ := World.ownsMap.store (HB0.out.2.2.kept (grown_below (below_then (drew_below _) hb5) none) (Option.some_ne_none mb)) law Tryz.underlying127 hnm HKY.out (rfl : hld (.agg #[.string E.id, .string E.ti, .int .i64 E.st, .int .i64 E.lg, .string E.f, .int .i64 E.e, .slice r2 E.ds.length rc2, .int .i64 E.c, .int .i64 E.u, .slice s2 E.sk.length sc2, .slice m2 E.mv.length mc2]) = some (.held (.agg #[.string E.id, .string E.ti, .int .i64 E.st, .int .i64 E.lg, .string E.f, .int .i64 E.e, .slice r2 E.ds.length rc2, .int .i64 E.c, .int .i64 E.u, .slice s2 E.sk.length sc2, .slice m2 E.mv.length mc2]), [])); have hB6 := (hturn6.grown.block bb (Array.getElem?_eq_some_iff.1 hB5).1 (fun q => HNE.out (Option.some.inj q).symm)).trans hB5; have hE6 := (hturn6.grown.block w.heap.size (Array.getElem?_eq_some_iff.1 hE5).1 (fun q => hne2 (Option.some.inj q))).trans hE5))
  have BW5 : Below w0.heap.size w0 w5 := below_then (drew_below _) hb5
  have HO6 : Hid (World.ownsMap _ _ _ _ _ _ _) := hown6
  have HT6 : Hid (World.mapTurned _ _ _) := hturn6
  have HB6 : Hid (_) := hB6
  have OF6 : Hid (Off (fun k => k < w.heap.size ∨ k = mb) w6 E (.slice r2 E.ds.length rc2) (.slice s2 E.sk.length sc2) (.slice m2 E.mv.length mc2)) := ⟨(ow_off ho1 (fun k h => by rcases h with h | h; (exact hlk k h); (rw [h]; exact hl2)) (by have := HD20.out; omega)).grown (B := mb) (.inr rfl) hturn6.grown, (ow_off ho2 (fun k h => by rcases h with h | h; (exact hlk k h); (rw [h]; exact hl2)) (by omega)).grown (B := mb) (.inr rfl) hturn6.grown, (owm_off ho3 (fun k h => by rcases h with h | h; (exact hlk k h); (rw [h]; exact hl2)) (by omega)).grown (B := mb) (.inr rfl) hturn6.grown⟩
  have KP : Hid (Kept w w6 bb (some mb)) := ⟨hturn6.grown.os.trans (BW5.os.trans HA.out.os), hturn6.grown.tape.trans (BW5.tape.trans HA.out.tape), hturn6.grown.output.trans (BW5.output.trans HA.out.output), Nat.le_trans HA.out.size (Nat.le_trans BW5.size hturn6.grown.size), fun k hk h1 h2 => (hturn6.grown.block k (Nat.lt_of_lt_of_le hk (Nat.le_trans HA.out.size BW5.size)) h2).trans ((BW5.block k (Nat.lt_of_lt_of_le hk HA.out.size)).trans (HA.out.block k hk))⟩
  clear hown6 hturn6 hB6 hrun ho1 ho2 ho3 hb5 hB5 hE5 hE6 BW5
  go_wp2
  refine bodyPost_end (v := .tuple #[]) (results_none rfl _ _ _) rfl ⟨⟨_, rfl⟩, _, _, _, ⟨HB6.out, HNE.out, HO6.out⟩, OF6.out, KP.out⟩

/-- lists of numbers do not lie in a book's block -/
theorem ints_book {W : World} {v : Value} {xs : List Int} {bb : Nat} {mo : Option Nat} (h : Ints W v xs) (h30 : xs.length ≤ 60) (hb : W.heap[bb]? = some (.cells #[.map mo] 129 (0, 0))) : OffI (· = bb) W v xs := by
  obtain ⟨a, c, h1, h2, h3, h4⟩ := h
  refine ⟨a, c, h1, h30, h3, fun j hj => ?_⟩
  obtain ⟨b, e, hl, hc⟩ := h4 j hj
  refine ⟨b, e, fun q => ?_, hl, hc⟩
  obtain ⟨b', e', _, hc'⟩ := h4 0 (by omega)
  have eb : b' = b := by rw [e] at e'; cases e'; rfl
  have q' : b = bb := q
  rw [eb, q'] at hc'
  simp [World.cell?, hb] at hc'
theorem movs_book {W : World} {v : Value} {xs : List (Int × Int)} {bb : Nat} {mo : Option Nat} (h : Movs W v xs) (h30 : xs.length ≤ 60) (hb : W.heap[bb]? = some (.cells #[.map mo] 129 (0, 0))) : OffM (· = bb) W v xs := by
  obtain ⟨a, c, h1, h2, h3, h4⟩ := h
  refine ⟨a, c, h1, h30, h3, fun j hj => ?_⟩
  obtain ⟨b, e, hl, hc⟩ := h4 j hj
  refine ⟨b, e, fun q => ?_, hl, hc⟩
  obtain ⟨b', e', _, hc', _⟩ := h4 0 (by omega)
  have eb : b' = b := by rw [e] at e'; cases e'; rfl
  have q' : b = bb := q
  rw [eb, q'] at hc'
  simp [World.cell?, hb] at hc'

set_option maxHeartbeats 2000000 in
set_option maxRecDepth 100000 in
/-- keep, where there is no map yet -/
theorem keep_none (bb : Nat) (E : EV) (sl skv mvv : Value) (n0 : Nat) (w : World) (h : Bok w bb none n0 (.map [])) (hi : E.id.size ≤ 1000) (hL : Ls w E sl skv mvv) (k20 : E.sk.length ≤ 20) (m20 : E.mv.length ≤ 20) :
    Calls Tryz.prog 85 #[.pointer (some ⟨bb, 0, none⟩), ev E sl skv mvv] w fun r w' => (∃ v, r = .returned v) ∧ ∃ mb, w.heap.size < mb ∧ ∃ sl' skv' mvv', Bok w' bb (some mb) 1 (DataW.put (.map []) (key E.id) (.held (ev E sl' skv' mvv'))) ∧ Off (fun k => k < w.heap.size ∨ k = mb) w' E sl' skv' mvv' ∧ Kept w w' bb none := by
  have HD20 : Hid (E.ds.length ≤ 20) := by obtain ⟨_, _, _, q, _⟩ := hL.d; exact q
  have hA := below_alloc w (.cells #[.string E.id, .string E.ti, .int .i64 E.st, .int .i64 E.lg, .string E.f, .int .i64 E.e, sl, .int .i64 E.c, .int .i64 E.u, skv, mvv] 27)
  have kE := EB.new w E sl skv mvv
  have OFL : Off (· = bb) w E sl skv mvv := ⟨ints_book (days_ints hL.d) (by have := HD20.out; omega) h.1, ints_book hL.s (by omega) h.1, movs_book hL.m (by omega) h.1⟩
  have h0 := h.step hA
  obtain ⟨hd, hs, hm⟩ := hL
  obtain ⟨ra, rc, rfl, _⟩ := hd
  obtain ⟨sa, sc, rfl, _⟩ := hs
  obtain ⟨ma, mc, rfl, _⟩ := hm
  have hbb : bb < w.heap.size := (Array.getElem?_eq_some_iff.1 h.1).1
  have HKY : Hid (keyOf Tryz.prog 9 (.string E.id) = some (key E.id)) := key_of hi
  have m8 : E.mv.length ≤ 80000 := by omega
  have hnm : 0 < maxLen := by unfold maxLen; omega
  unfold ev
  generalize hw0 : w.alloc (.cells #[.string E.id, .string E.ti, .int .i64 E.st, .int .i64 E.lg, .string E.f, .int .i64 E.e, .slice ra E.ds.length rc, .int .i64 E.c, .int .i64 E.u, .slice sa E.sk.length sc, .slice ma E.mv.length mc] 27) = w0 at hA kE h0
  have hbe : w0.heap.size = w.heap.size + 1 := by rw [← hw0, World.size_alloc]
  obtain ⟨mb, hmbe⟩ : ∃ m, m = w0.heap.size := ⟨_, rfl⟩
  have hbb0 : (w0.alloc (.map #[] 0)).heap[bb]? = some (.cells #[.map none] 129 (0, 0)) := block_alloc _ h0.1
  have g2 : (w0.alloc (.map #[] 0)).grownBy ((w0.alloc (.map #[] 0)).setCell ⟨bb, 0, none⟩ (.map (some mb))) (some bb) := grown_set _ ⟨bb, 0, none⟩ _
  have hs2 : ((w0.alloc (.map #[] 0)).setCell ⟨bb, 0, none⟩ (.map (some mb))).heap.size = w.heap.size + 2 := by rw [set_size, World.size_alloc, hbe]
  have HB2 : Hid (Bok ((w0.alloc (.map #[] 0)).setCell ⟨bb, 0, none⟩ (.map (some mb))) bb (some mb) 0 (.map [])) := ⟨set_block (i := 0) _ hbb0, by omega, by rw [hmbe]; exact World.ownsMap.setCell (World.ownsMap_made w0 Tryz.prog 9 hld) (by show w0.heap.size ≠ bb; omega) _⟩
  have KE2 : Hid (EB ((w0.alloc (.map #[] 0)).setCell ⟨bb, 0, none⟩ (.map (some mb))) w.heap.size E (.slice ra E.ds.length rc) (.slice sa E.sk.length sc) (.slice ma E.mv.length mc)) := (Below.heap_setCell _ _ _ _ (fun q => by have q' : w.heap.size = bb := q; omega)).trans (block_alloc _ kE)
  have KW : Hid (Kept w ((w0.alloc (.map #[] 0)).setCell ⟨bb, 0, none⟩ (.map (some mb))) bb none) := by
    have hB := below_then hA (below_alloc w0 (.map #[] 0))
    exact ⟨g2.os.trans hB.os, g2.tape.trans hB.tape, g2.output.trans hB.output, by omega, fun k hk h1 _ => (g2.block k (Nat.lt_of_lt_of_le hk hB.size) (fun q => h1 (Option.some.inj q))).trans (hB.block k hk)⟩
  have OF2 : Off (· = bb) ((w0.alloc (.map #[] 0)).setCell ⟨bb, 0, none⟩ (.map (some mb))) E (.slice ra E.ds.length rc) (.slice sa E.sk.length sc) (.slice ma E.mv.length mc) := (OFL.grown rfl (grown_below (below_then hA (below_alloc w0 (.map #[] 0))) _)).grown rfl g2
  have hL2 : Ls ((w0.alloc (.map #[] 0)).setCell ⟨bb, 0, none⟩ (.map (some mb))) E (.slice ra E.ds.length rc) (.slice sa E.sk.length sc) (.slice ma E.mv.length mc) := ⟨ints_days OF2.d.ints HD20.out, OF2.s.ints, OF2.m.movs⟩
  have cB := h0.cell
  have cB' : (w0.alloc (.map #[] 0)).cell? ⟨bb, 0, none⟩ = some (.map none) := by simp [World.cell?, hbb0]
  have fB' : (w0.alloc (.map #[] 0)).frozen? ⟨bb, 0, none⟩ = false := blk11_frozen hbb0 0
  have hmm := @run_makeMap Tryz.prog
  have qn : ∀ (W : World), (binOp .eql 127 (.map none) (.map none)).run Tryz.prog W = .ok (.bool true) W := fun W => by kernel_rfl
  clear hA h0 h kE OFL OF2 g2 hbb0
  have KS : Hid (∀ (W : World) (be : Nat), W.heap[bb]? = some (.cells #[.map (some mb)] 129 (0, 0)) → W.heap[be]? = some (.cells #[.string E.id, .string E.ti, .int .i64 E.st, .int .i64 E.lg, .string E.f, .int .i64 E.e, .slice ra E.ds.length rc, .int .i64 E.c, .int .i64 E.u, .slice sa E.sk.length sc, .slice ma E.mv.length mc] 27 (0, 0)) → W.cell? ⟨bb, 0, none⟩ = some (.map (some mb)) ∧ W.cell? ⟨be, 0, none⟩ = some (.string E.id) ∧ W.cell? ⟨be, 1, none⟩ = some (.string E.ti) ∧ W.cell? ⟨be, 2, none⟩ = some (.int .i64 E.st) ∧ W.cell? ⟨be, 3, none⟩ = some (.int .i64 E.lg) ∧ W.cell? ⟨be, 4, none⟩ = some (.string E.f) ∧ W.cell? ⟨be, 5, none⟩ = some (.int .i64 E.e) ∧ W.cell? ⟨be, 6, none⟩ = some (.slice ra E.ds.length rc) ∧ W.cell? ⟨be, 7, none⟩ = some (.int .i64 E.c) ∧ W.cell? ⟨be, 8, none⟩ = some (.int .i64 E.u) ∧ W.cell? ⟨be, 9, none⟩ = some (.slice sa E.sk.length sc) ∧ W.cell? ⟨be, 10, none⟩ = some (.slice ma E.mv.length mc)) := fun W be h1 h2 => by
    obtain ⟨x0, x1, x2, x3, x4, x5, x6, x7, x8, x9, x10⟩ := blk11 h2
    exact ⟨by simp [World.cell?, h1], x0, x1, x2, x3, x4, x5, x6, x7, x8, x9, x10⟩
  have hmb' : w.heap.size < mb := by omega
  have HMB : Hid (mb = w0.heap.size) := hmbe
  have HS2 : Hid (_) := hs2
  clear hmbe hbe hs2
  go_enter Tryz.func85, Tryz.ntmps85
  go_upto_region 3 with (fail)
  rw [← HMB.out]
  generalize hw2 : (w0.alloc (.map #[] 0)).setCell ⟨bb, 0, none⟩ (.map (some mb)) = w2 at HB2 KE2 KW hL2 HS2 ⊢
  have hs2 := HS2.out
  have CP : Hid (∀ W, Below w2.heap.size w2 W → Calls Tryz.prog 38 #[ev E (.slice ra E.ds.length rc) (.slice sa E.sk.length sc) (.slice ma E.mv.length mc)] W fun r w' => ∃ sl' skv' mvv', r = .returned (ev E sl' skv' mvv') ∧ Ow W.heap.size w' sl' E.ds ∧ Ow W.heap.size w' skv' E.sk ∧ OwM W.heap.size w' mvv' E.mv ∧ Below W.heap.size W w') := fun W hW => copy_any E _ _ _ W (hL2.step hW) k20 m20
  unfold ev at CP
  have HNE : Hid (mb ≠ bb) := HB2.out.2.1
  have hl1' : bb < w2.heap.size := by omega
  have hl2' : mb < w2.heap.size := HB2.out.2.2.lt
  have hbe' : w.heap.size < w2.heap.size := by omega
  have cB2 := HB2.out.cell
  obtain ⟨x0, x1, x2, x3, x4, x5, x6, x7, x8, x9, x10⟩ := blk11 (show w2.heap[w.heap.size]? = _ from KE2.out)
  clear cB cB' fB' hw2 hL2 hs2 HS2 hw0 HMB
  have hl1 : bb < w2.heap.size := hl1'
  have hlk : ∀ k, k < w.heap.size → k < w2.heap.size := fun k h => Nat.lt_of_lt_of_le h KW.out.size
  have hl2 : mb < w2.heap.size := hl2'
  have hne2 : w.heap.size ≠ mb := Nat.ne_of_lt hmb'
  go_region_held3 (fun W => W.cell? ⟨bb, 0, none⟩ = some (.map (some mb)) ∧ W.cell? ⟨w.heap.size, 0, none⟩ = some (.string E.id) ∧ W.cell? ⟨w.heap.size, 1, none⟩ = some (.string E.ti) ∧ W.cell? ⟨w.heap.size, 2, none⟩ = some (.int .i64 E.st) ∧ W.cell? ⟨w.heap.size, 3, none⟩ = some (.int .i64 E.lg) ∧ W.cell? ⟨w.heap.size, 4, none⟩ = some (.string E.f) ∧ W.cell? ⟨w.heap.size, 5, none⟩ = some (.int .i64 E.e) ∧ W.cell? ⟨w.heap.size, 6, none⟩ = some (.slice ra E.ds.length rc) ∧ W.cell? ⟨w.heap.size, 7, none⟩ = some (.int .i64 E.c) ∧ W.cell? ⟨w.heap.size, 8, none⟩ = some (.int .i64 E.u) ∧ W.cell? ⟨w.heap.size, 9, none⟩ = some (.slice sa E.sk.length sc) ∧ W.cell? ⟨w.heap.size, 10, none⟩ = some (.slice ma E.mv.length mc)) ((first | exact KS.out _ _ hB6 hE6 | exact KS.out _ _ hB5 hE5 | exact KS.out _ _ HB2.out.1 KE2.out))
    (first
      | (go_at_call 38; refine Calls.mono (CP.out _ ?_) ?_; (with_reducible exact drew_below _); rintro r w5 ⟨sl2, sk2, mv2, rfl, ho1, ho2, ho3, hb5⟩; obtain ⟨r2, rc2, rfl⟩ := ow_form ho1; obtain ⟨s2, sc2, rfl⟩ := ow_form ho2; obtain ⟨m2, mc2, rfl⟩ := gotM_form (owm_movs ho3 m8).2; have hB5 : w5.heap[bb]? = some (.cells #[.map (some mb)] 129 (0, 0)) := (hb5.block _ hl1).trans HB2.out.1; have hE5 : w5.heap[w.heap.size]? = some (.cells #[.string E.id, .string E.ti, .int .i64 E.st, .int .i64 E.lg, .string E.f, .int .i64 E.e, .slice ra E.ds.length rc, .int .i64 E.c, .int .i64 E.u, .slice sa E.sk.length sc, .slice ma E.mv.length mc] 27 (0, 0)) := (hb5.block _ hbe').trans KE2.out; obtain ⟨w6, hrun, hown6, hturn6⟩ := World.ownsMap.store (HB2.out.2.2.kept (grown_below (below_then (drew_below _) hb5) none) (Option.some_ne_none mb)) law Tryz.underlying127 hnm HKY.out (rfl : hld (.agg #[.string E.id, .string E.ti, .int .i64 E.st, .int .i64 E.lg, .string E.f, .int .i64 E.e, .slice r2 E.ds.length rc2, .int .i64 E.c, .int .i64 E.u, .slice s2 E.sk.length sc2, .slice m2 E.mv.length mc2]) = some (.held (.agg #[.string E.id, .string E.ti, .int .i64 E.st, .int .i64 E.lg, .string E.f, .int .i64 E.e, .slice r2 E.ds.length rc2, .int .i64 E.c, .int .i64 E.u, .slice s2 E.sk.length sc2, .slice m2 E.mv.length mc2]), [])); have hB6 := (hturn6.grown.block bb (Array.getElem?_eq_some_iff.1 hB5).1 (fun q => HNE.out (Option.some.inj q).symm)).trans hB5; have hE6 := (hturn6.grown.block w.heap.size (Array.getElem?_eq_some_iff.1 hE5).1 (fun q => hne2 (Option.some.inj q))).trans hE5))
  have BW5 : Below w2.heap.size w2 w5 := below_then (drew_below _) hb5
  have HO6 : Hid (World.ownsMap _ _ _ _ _ _ _) := hown6
  have HT6 : Hid (World.mapTurned _ _ _) := hturn6
  have HB6 : Hid (_) := hB6
  have OF6 : Hid (Off (fun k => k < w.heap.size ∨ k = mb) w6 E (.slice r2 E.ds.length rc2) (.slice s2 E.sk.length sc2) (.slice m2 E.mv.length mc2)) := ⟨(ow_off ho1 (fun k h => by rcases h with h | h; (exact hlk k h); (rw [h]; exact hl2)) (by have := HD20.out; omega)).grown (B := mb) (.inr rfl) hturn6.grown, (ow_off ho2 (fun k h => by rcases h with h | h; (exact hlk k h); (rw [h]; exact hl2)) (by omega)).grown (B := mb) (.inr rfl) hturn6.grown, (owm_off ho3 (fun k h => by rcases h with h | h; (exact hlk k h); (rw [h]; exact hl2)) (by omega)).grown (B := mb) (.inr rfl) hturn6.grown⟩
  have KP : Hid (Kept w w6 bb none) := ⟨hturn6.grown.os.trans (BW5.os.trans KW.out.os), hturn6.grown.tape.trans (BW5.tape.trans KW.out.tape), hturn6.grown.output.trans (BW5.output.trans KW.out.output), Nat.le_trans KW.out.size (Nat.le_trans BW5.size hturn6.grown.size), fun k hk h1 h2 => (hturn6.grown.block k (Nat.lt_of_lt_of_le hk (Nat.le_trans KW.out.size BW5.size)) (fun q => by have := Option.some.inj q; omega)).trans ((BW5.block k (Nat.lt_of_lt_of_le hk KW.out.size)).trans (KW.out.block k hk h1 h2))⟩
  clear hown6 hturn6 hB6 hrun ho1 ho2 ho3 hb5 hB5 hE5 hE6 BW5
  go_wp2
  refine bodyPost_end (v := .tuple #[]) (results_none rfl _ _ _) rfl ⟨⟨_, rfl⟩, mb, hmb', _, _, _, ⟨HB6.out, HNE.out, HO6.out⟩, OF6.out, KP.out⟩
end Go.Proofs.YtjhlbkjcchejjaaGreatDoor

/- Package book's Put. -/
namespace Go.Proofs.YtjhlbkjcchejjaaGreatDoor
open Go Go.RowKit Go.Maps Cal
attribute [local go_sem] Oper.semAt_some

theorem look_eq {bb n : Nat} {mo : Option Nat} {D : DataW Value} {W : World} (h : Bok W bb mo n D) {id : ByteArray} (hid : id.size ≤ 1000) {u : Value} (hat : D.atKey (key id) (.held zV) = .held u) :
    (Instr.lookup 127 (.map mo) (.string id) true).run Tryz.prog W = .ok (.tuple #[u, .bool (Maps.has D (key id))]) W := by
  cases mo with
  | none =>
    have hD : D = .map [] := h.2
    subst hD
    have hu : zV = u := by
      have : (DataW.held zV : DataW Value) = .held u := hat
      cases this; rfl
    rw [← hu]
    exact Maps.look_nil true law Tryz.underlying127 (zeroE W) (key_of hid)
  | some mb =>
    obtain ⟨v, ps, hrun, hv⟩ := h.2.2.look_ok law Tryz.underlying127 (zeroE W) (zd := .held zV) (zp := []) rfl (key_of hid)
    have h1 := hld_inv hv
    rw [hat] at h1
    cases h1
    exact hrun
theorem len_eq {bb n : Nat} {mo : Option Nat} {D : DataW Value} {W : World} (h : Bok W bb mo n D) (ty : TypeId) : (Builtin.len_ #[127] ty #[.map mo]).run Tryz.prog W = .ok (.int .i64 (Maps.size D)) W := by
  cases mo with
  | none =>
    have hD : D = .map [] := h.2
    subst hD
    exact Maps.len_nil Tryz.underlying127 ty
  | some mb => exact h.2.2.len Tryz.underlying127 ty

set_option maxHeartbeats 2000000 in
set_option maxRecDepth 100000 in
/-- Put, up to where the event is kept -/
theorem put_of (bb n : Nat) (mo : Option Nat) (D : DataW Value) (E U : EV) (sl skv mvv : Value) (ua : Option Addr) (un uc : Nat) (va : Option Addr) (vn vc : Nat) (wa : Option Addr) (wn wd : Nat) (k : Int) (s : Nat → Addr) (w : World) (g : GlobK s w) (h : Bok w bb mo n D) (hn : n ≤ 100000) (hi : E.id.size ≤ 60) (ht : E.ti.size ≤ 60) (hL : Ls w E sl skv mvv) (hk : EvK E k)
    (hat : D.atKey (key E.id) (.held zV) = .held (ev U (.slice ua un uc) (.slice va vn vc) (.slice wa wn wd))) (R : World → Prop)
    (hkeep : k = 0 → ∀ W, Below w.heap.size w W → Calls Tryz.prog 85 #[.pointer (some ⟨bb, 0, none⟩), ev E sl skv mvv] W fun r w' => (∃ v, r = .returned v) ∧ R w') :
    Calls Tryz.prog 46 #[.pointer (some ⟨bb, 0, none⟩), ev E sl skv mvv] w fun r w' =>
      (k ≠ 0 ∧ r = .returned (errV s k) ∧ Below w.heap.size w w') ∨ (k = 0 ∧ (Maps.has D (key E.id) = false ∧ 60 ≤ Maps.size D) ∧ r = .returned (.iface 236 (.pointer (some (s 6)))) ∧ Below w.heap.size w w') ∨ (k = 0 ∧ ¬ (Maps.has D (key E.id) = false ∧ 60 ≤ Maps.size D) ∧ r = .returned .nilIface ∧ R w') := by
  have hA := below_alloc w (.cells #[.string E.id, .string E.ti, .int .i64 E.st, .int .i64 E.lg, .string E.f, .int .i64 E.e, sl, .int .i64 E.c, .int .i64 E.u, skv, mvv] 27)
  have kE := EB.new w E sl skv mvv
  have CK := evCheck_k E sl skv mvv k s _ (g.step hA) (hL.step hA).d (hL.step hA).s (hL.step hA).m hi ht hk
  have h0 := h.step hA
  have g0 := g.step hA
  have HKP : Hid (k = 0 → ∀ W, Below w.heap.size w W → Calls Tryz.prog 85 #[.pointer (some ⟨bb, 0, none⟩), ev E sl skv mvv] W fun r w' => (∃ v, r = .returned v) ∧ R w') := hkeep
  obtain ⟨ra, rc, rfl, _⟩ := hL.d
  obtain ⟨sa, sc, rfl, _⟩ := hL.s
  obtain ⟨ma, mc, rfl, _⟩ := hL.m
  unfold ev at CK HKP hat
  have HAT : Hid (D.atKey (key E.id) (.held zV) = .held (.agg #[.string U.id, .string U.ti, .int .i64 U.st, .int .i64 U.lg, .string U.f, .int .i64 U.e, .slice ua un uc, .int .i64 U.c, .int .i64 U.u, .slice va vn vc, .slice wa wn wd])) := hat
  have HCK : Hid (Calls _ _ _ _ _) := CK
  have HA : Hid (_) := hA
  have HB0 : Hid (Bok _ bb mo n D) := h0
  have HG0 : Hid (GlobK s _) := g0
  have KE : Hid (EB _ _ E (.slice ra E.ds.length rc) (.slice sa E.sk.length sc) (.slice ma E.mv.length mc)) := kE
  have hi2 : E.id.size ≤ 1000 := by omega
  have hsz : Maps.size D ≤ 100000 := by
    cases mo with
    | none => have hD : D = .map [] := h.2; subst hD; simp [Maps.size]
    | some mb => have := h.2.2.size_le; omega
  clear CK hA h0 g0 kE hat hkeep hL g h
  unfold ev
  generalize hw0 : w.alloc (.cells #[.string E.id, .string E.ti, .int .i64 E.st, .int .i64 E.lg, .string E.f, .int .i64 E.e, .slice ra E.ds.length rc, .int .i64 E.c, .int .i64 E.u, .slice sa E.sk.length sc, .slice ma E.mv.length mc] 27) = w0 at HCK HA HB0 HG0 KE
  obtain ⟨x0, x1, x2, x3, x4, x5, x6, x7, x8, x9, x10⟩ := blk11 (show w0.heap[w.heap.size]? = _ from KE.out)
  by_cases hk0 : k = 0
  case neg =>
    obtain ⟨p, hp⟩ := errV_ne (s := s) hk0
    rw [hp] at HCK
    have HP : Hid (errV s k = .iface 236 (.pointer (some p))) := hp
    have HK0 : Hid (k ≠ 0) := hk0
    clear hp hk0
    go_enter Tryz.func46, Tryz.ntmps46
    go_wp2_with (go_at_call 9; refine Calls.mono HCK.out ?_; rintro r w1 ⟨rfl, hb1⟩)
    go_ret
    exact .inl ⟨HK0.out, by rw [HP.out]; rfl, below_then HA.out hb1⟩
  case pos =>
    rw [hk0, errV_0] at HCK
    have HK0 : Hid (k = 0) := hk0
    clear hk0 hk
    go_enter Tryz.func46, Tryz.ntmps46
    go_upto_region 6 with (go_at_call 9; refine Calls.mono HCK.out ?_; rintro r w1 ⟨rfl, hb1⟩)
    have BW1 : Hid (Below w.heap.size w w1) := below_then HA.out hb1
    have HB1 : Hid (Bok w1 bb mo n D) := HB0.out.step hb1
    have HG1 : Hid (GlobK s w1) := HG0.out.step hb1
    have KE1 : Hid (EB w1 w.heap.size E (.slice ra E.ds.length rc) (.slice sa E.sk.length sc) (.slice ma E.mv.length mc)) := KE.out.step hb1
    clear hb1 HB0 HG0 KE HA HCK x0 x1 x2 x3 x4 x5 x6 x7 x8 x9 x10 hw0
    obtain ⟨x0, x1, x2, x3, x4, x5, x6, x7, x8, x9, x10⟩ := blk11 (show w1.heap[w.heap.size]? = _ from KE1.out)
    have cB := HB1.out.cell
    have KS : Hid (∀ W, Below w1.heap.size w1 W → Below w1.heap.size w1 W ∧ W.cell? ⟨bb, 0, none⟩ = some (.map mo) ∧ W.cell? ⟨w.heap.size, 0, none⟩ = some (.string E.id) ∧ (Instr.lookup 127 (.map mo) (.string E.id) true).run Tryz.prog W = .ok (.tuple #[.agg #[.string U.id, .string U.ti, .int .i64 U.st, .int .i64 U.lg, .string U.f, .int .i64 U.e, .slice ua un uc, .int .i64 U.c, .int .i64 U.u, .slice va vn vc, .slice wa wn wd], .bool (Maps.has D (key E.id))]) W) := fun W hW => ⟨hW, cell_step cB hW, cell_step x0 hW, look_eq (HB1.out.step hW) hi2 HAT.out⟩
    generalize hbh : Maps.has D (key E.id) = bh at KS
    have HBH : Hid (Maps.has D (key E.id) = bh) := hbh
    clear hbh
    go_cut [6, 7] (fun v6 v7 wx => v7 = .bool bh ∧ (∃ b : Nat, v6 = .pointer (some ⟨b, 0, none⟩)) ∧ Hid (Below w1.heap.size w1 wx))
    case first =>
      go_region_held3 (fun W => Below w1.heap.size w1 W ∧ W.cell? ⟨bb, 0, none⟩ = some (.map mo) ∧ W.cell? ⟨w.heap.size, 0, none⟩ = some (.string E.id) ∧ (Instr.lookup 127 (.map mo) (.string E.id) true).run Tryz.prog W = .ok (.tuple #[.agg #[.string U.id, .string U.ti, .int .i64 U.st, .int .i64 U.lg, .string U.f, .int .i64 U.e, .slice ua un uc, .int .i64 U.c, .int .i64 U.u, .slice va vn vc, .slice wa wn wd], .bool bh]) W) ((refine KS.out _ ?_; (first | with_reducible assumption | with_reducible exact drew_below _ | with_reducible exact below_then (below_alloc _ _) (drew_below _) | with_reducible exact below_then (drew_below _) (below_alloc _ _)))) (fail)
      all_goals
        go_wp2_with fail
        go_meet
        case rel => first | exact ⟨rfl, ⟨_, rfl⟩, below_then (below_alloc _ _) (drew_below _)⟩ | exact ⟨rfl, ⟨_, rfl⟩, below_then (drew_below _) (below_alloc _ _)⟩
    case rest =>
      obtain ⟨rfl, ⟨b6, rfl⟩, HBc⟩ := hcut
      have LN : ∀ ty, (Builtin.len_ #[127] ty #[.map mo]).run Tryz.prog wc = .ok (.int .i64 (Maps.size D)) wc := fun ty => len_eq (HB1.out.step HBc.out) ty
      have BWc : Hid (Below w.heap.size w wc) := below_then BW1.out HBc.out
      have cF := (HG1.out.step HBc.out).c6
      have KEc := KE1.out.step HBc.out
      have cBc := (HB1.out.step HBc.out).cell
      have HKc : Hid (Calls _ _ _ _ _) := HKP.out HK0.out wc BWc.out
      clear KS cB x0 x1 x2 x3 x4 x5 x6 x7 x8 x9 x10 HB1 HG1 KE1 BW1 HBc HAT HKP
      obtain ⟨x0, x1, x2, x3, x4, x5, x6, x7, x8, x9, x10⟩ := blk11 (show wc.heap[w.heap.size]? = _ from KEc)
      clear KEc
      cases bh with
      | true =>
        have HNF : Hid (¬ (Maps.has D (key E.id) = false ∧ 60 ≤ Maps.size D)) := by
          intro q
          have := HBH.out.symm.trans q.1
          cases this
        go_wp2_with (go_at_call 85; refine Calls.mono HKc.out ?_; rintro r w5 ⟨⟨v, rfl⟩, hr⟩)
        go_ret
        exact .inr (.inr ⟨HK0.out, HNF.out, rfl, hr⟩)
      | false =>
        by_cases h60 : 60 ≤ Maps.size D
        · have h60' : (60 : Int) ≤ (Maps.size D : Int) := by omega
          have H60 : Hid (60 ≤ Maps.size D) := h60
          clear h60 HKc
          generalize hgs : Maps.size D = sz at LN h60'
          clear hgs
          go_wp2
          go_ret
          exact .inr (.inl ⟨HK0.out, ⟨HBH.out, H60.out⟩, rfl, BWc.out⟩)
        · have h60' : (Maps.size D : Int) < 60 := by omega
          have HNF : Hid (¬ (Maps.has D (key E.id) = false ∧ 60 ≤ Maps.size D)) := by
            intro q
            exact h60 q.2
          clear h60
          generalize hgs : Maps.size D = sz at LN h60'
          clear hgs
          go_wp2_with (go_at_call 85; refine Calls.mono HKc.out ?_; rintro r w5 ⟨⟨v, rfl⟩, hr⟩)
          go_ret
          exact .inr (.inr ⟨HK0.out, HNF.out, rfl, hr⟩)
end Go.Proofs.YtjhlbkjcchejjaaGreatDoor

/- Package book's Drop, where the event is not there. -/
namespace Go.Proofs.YtjhlbkjcchejjaaGreatDoor
open Go Go.RowKit Go.Maps Cal
attribute [local go_sem] Oper.semAt_some

set_option maxHeartbeats 2000000 in
set_option maxRecDepth 100000 in
theorem drop_no (bb n : Nat) (mo : Option Nat) (D : DataW Value) (id : ByteArray) (p : Addr) (w : World) (h : Bok w bb mo n D) (hid : id.size ≤ 1000) (hh : Maps.has D (key id) = false) (hN : w.cell? ⟨8, 0, none⟩ = some (.iface 236 (.pointer (some p)))) :
    Calls Tryz.prog 135 #[.pointer (some ⟨bb, 0, none⟩), .string id] w fun r w' => r = .returned (.iface 236 (.pointer (some p))) ∧ Below w.heap.size w w' := by
  have AL : Hid (Calls _ _ _ _ _) := all_any bb mo n D _ h
  have hat : D.atKey (key id) (.held zV) = .held (.agg #[.string ⟨#[]⟩, .string ⟨#[]⟩, .int .i64 0, .int .i64 0, .string ⟨#[]⟩, .int .i64 0, .slice none 0 0, .int .i64 0, .int .i64 0, .slice none 0 0, .slice none 0 0]) := Maps.atKey_of_not_has hh (.held zV)
  have LK := look_eq h hid hat
  rw [hh] at LK
  have hN1 := cell_alloc (.cells #[.string ⟨#[]⟩, .string ⟨#[]⟩, .int .i64 0, .int .i64 0, .string ⟨#[]⟩, .int .i64 0, .slice none 0 0, .int .i64 0, .int .i64 0, .slice none 0 0, .slice none 0 0] 27) hN
  clear hat hh h
  go_enter Tryz.func135, Tryz.ntmps135
  go_wp2_with (first
    | (go_at_call 97; refine Calls.mono AL.out ?_; rintro r w' ⟨rfl, hq⟩; have hq := hq.symm; subst hq)
    | go_in)
  go_ret
  exact ⟨rfl, below_alloc _ _⟩
end Go.Proofs.YtjhlbkjcchejjaaGreatDoor
