/- Calendars: a book's map of events; package book's all, Get and Drop. -/
import Derived.Test.YtekminpoiokgfaaGreatDoorYaH
import Derived.Maps.OwnSet
import Derived.Maps.OwnOps
import Derived.Deep.RegionHeld3
import Derived.Carry
namespace Go.Proofs.YtekminpoiokgfaaGreatDoor
open Go Go.RowKit Go.Maps Cal
attribute [local go_sem] Oper.semAt_some

theorem law : Keyed Tryz.prog 9 := string_keyed Tryz.underlying9
/-- an element of the map, as it is -/
def hld (v : Value) : Option (DataW Value × List MemPlace) := some (.held v, [])
theorem hld_inv {v : Value} {d : DataW Value} {ps : List MemPlace} (h : hld v = some (d, ps)) : d = .held v := by
  unfold hld at h
  cases h
  rfl
theorem zeroE (w : World) : (zeroValue 44).run Tryz.prog w = .ok zV w := by unfold zV; kernel_rfl
/-- the key of an ID -/
def key (s : ByteArray) : Lit := .string s.data.toList
theorem key_of {s : ByteArray} (h : s.size ≤ 1000) : keyOf Tryz.prog 9 (.string s) = some (key s) := Go.WideMaps.keyOf_string_mk Tryz.underlying9 (by unfold maxLen; omega)

/-- block bb is a book; mo: its map, D: what it holds -/
def Bok (W : World) (bb : Nat) (mo : Option Nat) (n : Nat) (D : DataW Value) : Prop :=
  W.heap[bb]? = some (.cells #[.map mo] 74 (0, 0)) ∧ match mo with
    | none => D = .map []
    | some mb => mb ≠ bb ∧ W.ownsMap Tryz.prog 9 hld mb n D
theorem Bok.step {W W' : World} {bb : Nat} {mo : Option Nat} {n : Nat} {D : DataW Value} (h : Bok W bb mo n D) (hb : Below W.heap.size W W') : Bok W' bb mo n D := by
  obtain ⟨h1, h2⟩ := h
  refine ⟨(hb.block _ (Array.getElem?_eq_some_iff.1 h1).1).trans h1, ?_⟩
  cases mo with
  | none => exact h2
  | some mb => exact ⟨h2.1, h2.2.kept (grown_below hb none) (by simp)⟩
theorem Bok.cell {W : World} {bb : Nat} {mo : Option Nat} {n : Nat} {D : DataW Value} (h : Bok W bb mo n D) : W.cell? ⟨bb, 0, none⟩ = some (.map mo) := by simp [World.cell?, h.1]

theorem all_any (bb : Nat) (mo : Option Nat) (n : Nat) (D : DataW Value) (w : World) (h : Bok w bb mo n D) :
    Calls Tryz.prog 26 #[.pointer (some ⟨bb, 0, none⟩)] w fun r w' => r = .returned (.map mo) ∧ w' = w := by
  have hc := h.cell
  clear h
  go_enter Tryz.func26, Tryz.ntmps26
  go_wp2
  go_ret
  exact ⟨rfl, rfl⟩

/-- a look-up whose element is known -/
theorem wpList_lookup_held (w : World) {ops : Array Oper} {rest : List Oper} {o : Oper} {a : Act} {Q : Exit → Act → World → Prop} (hg : o.guard = none) (m x : Operand) (hop : o.op = Op.lookup 67 m x true)
    (b n : Nat) (D : DataW Value) (hm : a.eval m = .map (some b)) (hown : w.ownsMap Tryz.prog 9 hld b n D) (k : Value) (kl : Lit) (hx : a.eval x = k) (hkey : keyOf Tryz.prog 9 k = some kl) (u : Value) (hat : D.atKey kl (.held zV) = .held u)
    (hK : wpList Tryz.prog ops Q rest (a.put o.dst (.tuple #[u, .bool (Maps.has D kl)])) w) : wpList Tryz.prog ops Q (o :: rest) a w :=
  wpList_lookup_own_ok w hg m x 67 hop 9 44 law Tryz.underlying67 hld (zeroE w) (.held zV) [] rfl b n D hm hown k kl hx hkey (fun v ps hv => by
    have h := hld_inv hv
    rw [hat] at h
    cases h
    exact hK)

end Go.Proofs.YtekminpoiokgfaaGreatDoor

/- Package book's New and keep. -/
namespace Go.Proofs.YtekminpoiokgfaaGreatDoor
open Go Go.RowKit Go.Maps Cal
attribute [local go_sem] Oper.semAt_some

/-- what a book's writers leave as it was: all but its own block and its map's -/
structure Kept (w w' : World) (bb : Nat) (mo : Option Nat) : Prop where
  os : w'.os = w.os
  tape : w'.tape = w.tape
  output : w'.output = w.output
  size : w.heap.size ≤ w'.heap.size
  block : ∀ k, k < w.heap.size → k ≠ bb → some k ≠ mo → w'.heap[k]? = w.heap[k]?
theorem Kept.below {w w' : World} {bb : Nat} {mo : Option Nat} (h : Kept w w' bb mo) {w0 : World} (hb : Below w0.heap.size w0 w) (h1 : w0.heap.size ≤ bb) (h2 : ∀ m, mo = some m → w0.heap.size ≤ m) : Below w0.heap.size w0 w' :=
  ⟨h.os.trans hb.os, h.tape.trans hb.tape, h.output.trans hb.output, Nat.le_trans hb.size h.size, fun k hk => (h.block k (Nat.lt_of_lt_of_le hk hb.size) (by omega) (fun q => by have := h2 k q.symm; omega)).trans (hb.block k hk)⟩

theorem OffI.mono {N N' : Nat → Prop} {W : World} {v : Value} {xs : List Int} (h : OffI N W v xs) (q : ∀ b, N' b → N b) : OffI N' W v xs := by
  obtain ⟨a, c, h1, h2, h3, h4⟩ := h
  refine ⟨a, c, h1, h2, h3, fun j hj => ?_⟩
  obtain ⟨b, e, hb, hl, hc⟩ := h4 j hj
  exact ⟨b, e, fun k => hb (q b k), hl, hc⟩
theorem OffM.mono {N N' : Nat → Prop} {W : World} {v : Value} {xs : List (Int × Int)} (h : OffM N W v xs) (q : ∀ b, N' b → N b) : OffM N' W v xs := by
  obtain ⟨a, c, h1, h2, h3, h4⟩ := h
  refine ⟨a, c, h1, h2, h3, fun j hj => ?_⟩
  obtain ⟨b, e, hb, hl, hc⟩ := h4 j hj
  exact ⟨b, e, fun k => hb (q b k), hl, hc⟩
theorem Off.mono {N N' : Nat → Prop} {W : World} {E : EV} {sl skv mvv : Value} (h : Off N W E sl skv mvv) (q : ∀ b, N' b → N b) : Off N' W E sl skv mvv := ⟨h.d.mono q, h.s.mono q, h.m.mono q⟩

theorem new_any (w : World) : Calls Tryz.prog 13 #[] w fun r w' => r = .returned (.pointer (some ⟨w.heap.size, 0, none⟩)) ∧ Bok w' w.heap.size none 0 (.map []) ∧ Below w.heap.size w w' := by
  go_enter Tryz.func13, Tryz.ntmps13
  go_wp2
  go_ret
  exact ⟨rfl, ⟨block_at _ rfl, rfl⟩, below_alloc _ _⟩

set_option maxHeartbeats 2000000 in
set_option maxRecDepth 100000 in
/-- keep, where there is a map -/
theorem keep_some (bb mb n : Nat) (D : DataW Value) (E : EV) (sl skv mvv : Value) (w : World) (h : Bok w bb (some mb) n D) (hn : n ≤ 100000) (hi : E.id.size ≤ 1000) (hL : Ls w E sl skv mvv) (k20 : E.sk.length ≤ 20) (m20 : E.mv.length ≤ 20) :
    Calls Tryz.prog 31 #[.pointer (some ⟨bb, 0, none⟩), ev E sl skv mvv] w fun r w' => (∃ v, r = .returned v) ∧ ∃ sl' skv' mvv', Bok w' bb (some mb) (n + 1) (D.put (key E.id) (.held (ev E sl' skv' mvv'))) ∧ Off (fun k => k < w.heap.size ∨ k = mb) w' E sl' skv' mvv' ∧ Kept w w' bb (some mb) := by
  have HD20 : Hid (E.ds.length ≤ 20) := by obtain ⟨_, _, _, q, _⟩ := hL.d; exact q
  have hA := below_alloc w (.cells #[.string E.id, .string E.ti, .int .i64 E.st, .int .i64 E.lg, .string E.f, .int .i64 E.e, sl, .int .i64 E.c, .int .i64 E.u, skv, mvv] 44)
  have kE := EB.new w E sl skv mvv
  have hL0 := hL.step hA
  have h0 := h.step hA
  obtain ⟨hd, hs, hm⟩ := hL
  obtain ⟨ra, rc, rfl, _⟩ := hd
  obtain ⟨sa, sc, rfl, _⟩ := hs
  obtain ⟨ma, mc, rfl, _⟩ := hm
  have hbb : bb < w.heap.size := (Array.getElem?_eq_some_iff.1 h.1).1
  have hmb : mb < w.heap.size := h.2.2.lt
  have HNE : Hid (mb ≠ bb) := h.2.1
  have HA : Hid (_) := hA
  have HKY : Hid (keyOf Tryz.prog 9 (.string E.id) = some (key E.id)) := key_of hi
  have m8 : E.mv.length ≤ 80000 := by omega
  have hnm : n < maxLen := by unfold maxLen; omega
  unfold ev
  generalize hw0 : w.alloc (.cells #[.string E.id, .string E.ti, .int .i64 E.st, .int .i64 E.lg, .string E.f, .int .i64 E.e, .slice ra E.ds.length rc, .int .i64 E.c, .int .i64 E.u, .slice sa E.sk.length sc, .slice ma E.mv.length mc] 44) = w0 at HA kE hL0 h0
  have HB0 : Hid (Bok w0 bb (some mb) n D) := h0
  have KE : Hid (EB w0 w.heap.size E (.slice ra E.ds.length rc) (.slice sa E.sk.length sc) (.slice ma E.mv.length mc)) := kE
  have CP : Hid (∀ W, Below w0.heap.size w0 W → Calls Tryz.prog 27 #[ev E (.slice ra E.ds.length rc) (.slice sa E.sk.length sc) (.slice ma E.mv.length mc)] W fun r w' => ∃ sl' skv' mvv', r = .returned (ev E sl' skv' mvv') ∧ Ow W.heap.size w' sl' E.ds ∧ Ow W.heap.size w' skv' E.sk ∧ OwM W.heap.size w' mvv' E.mv ∧ Below W.heap.size W w') := fun W hW => copy_any E _ _ _ W (hL0.step hW) k20 m20
  unfold ev at CP
  have hbe : w.heap.size < w0.heap.size := by rw [← hw0, World.size_alloc]; exact Nat.lt_succ_self _
  have cB := h0.cell
  obtain ⟨x0, x1, x2, x3, x4, x5, x6, x7, x8, x9, x10⟩ := blk11 (show w0.heap[w.heap.size]? = _ from kE)
  have qn : ∀ (W : World), (binOp .eql 67 (.map (some mb)) (.map none)).run Tryz.prog W = .ok (.bool false) W := fun W => by kernel_rfl
  clear hA hL0 h0 h kE
  have KS : Hid (∀ (W : World) (be : Nat), W.heap[bb]? = some (.cells #[.map (some mb)] 74 (0, 0)) → W.heap[be]? = some (.cells #[.string E.id, .string E.ti, .int .i64 E.st, .int .i64 E.lg, .string E.f, .int .i64 E.e, .slice ra E.ds.length rc, .int .i64 E.c, .int .i64 E.u, .slice sa E.sk.length sc, .slice ma E.mv.length mc] 44 (0, 0)) → W.cell? ⟨bb, 0, none⟩ = some (.map (some mb)) ∧ W.cell? ⟨be, 0, none⟩ = some (.string E.id) ∧ W.cell? ⟨be, 1, none⟩ = some (.string E.ti) ∧ W.cell? ⟨be, 2, none⟩ = some (.int .i64 E.st) ∧ W.cell? ⟨be, 3, none⟩ = some (.int .i64 E.lg) ∧ W.cell? ⟨be, 4, none⟩ = some (.string E.f) ∧ W.cell? ⟨be, 5, none⟩ = some (.int .i64 E.e) ∧ W.cell? ⟨be, 6, none⟩ = some (.slice ra E.ds.length rc) ∧ W.cell? ⟨be, 7, none⟩ = some (.int .i64 E.c) ∧ W.cell? ⟨be, 8, none⟩ = some (.int .i64 E.u) ∧ W.cell? ⟨be, 9, none⟩ = some (.slice sa E.sk.length sc) ∧ W.cell? ⟨be, 10, none⟩ = some (.slice ma E.mv.length mc)) := fun W be h1 h2 => by
    obtain ⟨x0, x1, x2, x3, x4, x5, x6, x7, x8, x9, x10⟩ := blk11 h2
    exact ⟨by simp [World.cell?, h1], x0, x1, x2, x3, x4, x5, x6, x7, x8, x9, x10⟩
  go_enter Tryz.func31, Tryz.ntmps31
  go_upto_region 3 with (fail)
  have hl1 : bb < w0.heap.size := Nat.lt_trans hbb hbe
  have hlk : ∀ k, k < w.heap.size → k < w0.heap.size := fun k h => Nat.lt_trans h hbe
  have hl2 : mb < w0.heap.size := Nat.lt_trans hmb hbe
  have hne2 : w.heap.size ≠ mb := Nat.ne_of_gt hmb
  go_region_held3 (fun W => W.cell? ⟨bb, 0, none⟩ = some (.map (some mb)) ∧ W.cell? ⟨w.heap.size, 0, none⟩ = some (.string E.id) ∧ W.cell? ⟨w.heap.size, 1, none⟩ = some (.string E.ti) ∧ W.cell? ⟨w.heap.size, 2, none⟩ = some (.int .i64 E.st) ∧ W.cell? ⟨w.heap.size, 3, none⟩ = some (.int .i64 E.lg) ∧ W.cell? ⟨w.heap.size, 4, none⟩ = some (.string E.f) ∧ W.cell? ⟨w.heap.size, 5, none⟩ = some (.int .i64 E.e) ∧ W.cell? ⟨w.heap.size, 6, none⟩ = some (.slice ra E.ds.length rc) ∧ W.cell? ⟨w.heap.size, 7, none⟩ = some (.int .i64 E.c) ∧ W.cell? ⟨w.heap.size, 8, none⟩ = some (.int .i64 E.u) ∧ W.cell? ⟨w.heap.size, 9, none⟩ = some (.slice sa E.sk.length sc) ∧ W.cell? ⟨w.heap.size, 10, none⟩ = some (.slice ma E.mv.length mc)) ((first | exact KS.out _ _ hB6 hE6 | exact KS.out _ _ hB5 hE5 | exact KS.out _ _ HB0.out.1 KE.out))
    (first
      | (go_at_call 27; refine Calls.mono (CP.out _ ?_) ?_; (with_reducible exact drew_below _); rintro r w5 ⟨sl2, sk2, mv2, rfl, ho1, ho2, ho3, hb5⟩; obtain ⟨r2, rc2, rfl⟩ := ow_form ho1; obtain ⟨s2, sc2, rfl⟩ := ow_form ho2; obtain ⟨m2, mc2, rfl⟩ := gotM_form (owm_movs ho3 m8).2; have hB5 : w5.heap[bb]? = some (.cells #[.map (some mb)] 74 (0, 0)) := (hb5.block _ hl1).trans HB0.out.1; have hE5 : w5.heap[w.heap.size]? = some (.cells #[.string E.id, .string E.ti, .int .i64 E.st, .int .i64 E.lg, .string E.f, .int .i64 E.e, .slice ra E.ds.length rc, .int .i64 E.c, .int .i64 E.u, .slice sa E.sk.length sc, .slice ma E.mv.length mc] 44 (0, 0)) := (hb5.block _ hbe).trans KE.out; obtain ⟨w6, hrun, hown6, hturn6⟩ := World.ownsMap.store (HB0.out.2.2.kept (grown_below (below_then (drew_below _) hb5) none) (Option.some_ne_none mb)) law Tryz.underlying67 hnm HKY.out (rfl : hld (.agg #[.string E.id, .string E.ti, .int .i64 E.st, .int .i64 E.lg, .string E.f, .int .i64 E.e, .slice r2 E.ds.length rc2, .int .i64 E.c, .int .i64 E.u, .slice s2 E.sk.length sc2, .slice m2 E.mv.length mc2]) = some (.held (.agg #[.string E.id, .string E.ti, .int .i64 E.st, .int .i64 E.lg, .string E.f, .int .i64 E.e, .slice r2 E.ds.length rc2, .int .i64 E.c, .int .i64 E.u, .slice s2 E.sk.length sc2, .slice m2 E.mv.length mc2]), [])); have hB6 := (hturn6.grown.block bb (Array.getElem?_eq_some_iff.1 hB5).1 (fun q => HNE.out (Option.some.inj q).symm)).trans hB5; have hE6 := (hturn6.grown.block w.heap.size (Array.getElem?_eq_some_iff.1 hE5).1 (fun q => hne2 (Option.some.inj q))).trans hE5))
  have BW5 : Below w0.heap.size w0 w5 := below_then (drew_below _) hb5
  have HO6 : Hid (World.ownsMap _ _ _ _ _ _ _) := hown6
  have HT6 : Hid (World.mapTurned _ _ _) := hturn6
  have HB6 : Hid (_) := hB6
  have OF6 : Hid (Off (fun k => k < w.heap.size ∨ k = mb) w6 E (.slice r2 E.ds.length rc2) (.slice s2 E.sk.length sc2) (.slice m2 E.mv.length mc2)) := ⟨(ow_off ho1 (fun k h => by rcases h with h | h; (exact hlk k h); (rw [h]; exact hl2)) (by have := HD20.out; omega)).grown (B := mb) (.inr rfl) hturn6.grown, (ow_off ho2 (fun k h => by rcases h with h | h; (exact hlk k h); (rw [h]; exact hl2)) (by omega)).grown (B := mb) (.inr rfl) hturn6.grown, (owm_off ho3 (fun k h => by rcases h with h | h; (exact hlk k h); (rw [h]; exact hl2)) (by omega)).grown (B := mb) (.inr rfl) hturn6.grown⟩
  have KP : Hid (Kept w w6 bb (some mb)) := ⟨hturn6.grown.os.trans (BW5.os.trans HA.out.os), hturn6.grown.tape.trans (BW5.tape.trans HA.out.tape), hturn6.grown.output.trans (BW5.output.trans HA.out.output), Nat.le_trans HA.out.size (Nat.le_trans BW5.size hturn6.grown.size), fun k hk h1 h2 => (hturn6.grown.block k (Nat.lt_of_lt_of_le hk (Nat.le_trans HA.out.size BW5.size)) h2).trans ((BW5.block k (Nat.lt_of_lt_of_le hk HA.out.size)).trans (HA.out.block k hk))⟩
  clear hown6 hturn6 hB6 hrun ho1 ho2 ho3 hb5 hB5 hE5 hE6 BW5
  go_wp2
  refine bodyPost_end (v := .tuple #[]) (results_none rfl _ _ _) rfl ⟨⟨_, rfl⟩, _, _, _, ⟨HB6.out, HNE.out, HO6.out⟩, OF6.out, KP.out⟩

/-- lists of numbers do not lie in a book's block -/
theorem ints_book {W : World} {v : Value} {xs : List Int} {bb : Nat} {mo : Option Nat} (h : Ints W v xs) (h30 : xs.length ≤ 60) (hb : W.heap[bb]? = some (.cells #[.map mo] 74 (0, 0))) : OffI (· = bb) W v xs := by
  obtain ⟨a, c, h1, h2, h3, h4⟩ := h
  refine ⟨a, c, h1, h30, h3, fun j hj => ?_⟩
  obtain ⟨b, e, hl, hc⟩ := h4 j hj
  refine ⟨b, e, fun q => ?_, hl, hc⟩
  obtain ⟨b', e', _, hc'⟩ := h4 0 (by omega)
  have eb : b' = b := by rw [e] at e'; cases e'; rfl
  have q' : b = bb := q
  rw [eb, q'] at hc'
  simp [World.cell?, hb] at hc'
theorem movs_book {W : World} {v : Value} {xs : List (Int × Int)} {bb : Nat} {mo : Option Nat} (h : Movs W v xs) (h30 : xs.length ≤ 60) (hb : W.heap[bb]? = some (.cells #[.map mo] 74 (0, 0))) : OffM (· = bb) W v xs := by
  obtain ⟨a, c, h1, h2, h3, h4⟩ := h
  refine ⟨a, c, h1, h30, h3, fun j hj => ?_⟩
  obtain ⟨b, e, hl, hc⟩ := h4 j hj
  refine ⟨b, e, fun q => ?_, hl, hc⟩
  obtain ⟨b', e', _, hc', _⟩ := h4 0 (by omega)
  have eb : b' = b := by rw [e] at e'; cases e'; rfl
  have q' : b = bb := q
  rw [eb, q'] at hc'
  simp [World.cell?, hb] at hc'

set_option maxHeartbeats 2000000 in
set_option maxRecDepth 100000 in
/-- keep, where there is no map yet -/
theorem keep_none (bb : Nat) (E : EV) (sl skv mvv : Value) (n0 : Nat) (w : World) (h : Bok w bb none n0 (.map [])) (hi : E.id.size ≤ 1000) (hL : Ls w E sl skv mvv) (k20 : E.sk.length ≤ 20) (m20 : E.mv.length ≤ 20) :
    Calls Tryz.prog 31 #[.pointer (some ⟨bb, 0, none⟩), ev E sl skv mvv] w fun r w' => (∃ v, r = .returned v) ∧ ∃ mb, w.heap.size < mb ∧ ∃ sl' skv' mvv', Bok w' bb (some mb) 1 (DataW.put (.map []) (key E.id) (.held (ev E sl' skv' mvv'))) ∧ Off (fun k => k < w.heap.size ∨ k = mb) w' E sl' skv' mvv' ∧ Kept w w' bb none := by
  have HD20 : Hid (E.ds.length ≤ 20) := by obtain ⟨_, _, _, q, _⟩ := hL.d; exact q
  have hA := below_alloc w (.cells #[.string E.id, .string E.ti, .int .i64 E.st, .int .i64 E.lg, .string E.f, .int .i64 E.e, sl, .int .i64 E.c, .int .i64 E.u, skv, mvv] 44)
  have kE := EB.new w E sl skv mvv
  have OFL : Off (· = bb) w E sl skv mvv := ⟨ints_book (days_ints hL.d) (by have := HD20.out; omega) h.1, ints_book hL.s (by omega) h.1, movs_book hL.m (by omega) h.1⟩
  have h0 := h.step hA
  obtain ⟨hd, hs, hm⟩ := hL
  obtain ⟨ra, rc, rfl, _⟩ := hd
  obtain ⟨sa, sc, rfl, _⟩ := hs
  obtain ⟨ma, mc, rfl, _⟩ := hm
  have hbb : bb < w.heap.size := (Array.getElem?_eq_some_iff.1 h.1).1
  have HKY : Hid (keyOf Tryz.prog 9 (.string E.id) = some (key E.id)) := key_of hi
  have m8 : E.mv.length ≤ 80000 := by omega
  have hnm : 0 < maxLen := by unfold maxLen; omega
  unfold ev
  generalize hw0 : w.alloc (.cells #[.string E.id, .string E.ti, .int .i64 E.st, .int .i64 E.lg, .string E.f, .int .i64 E.e, .slice ra E.ds.length rc, .int .i64 E.c, .int .i64 E.u, .slice sa E.sk.length sc, .slice ma E.mv.length mc] 44) = w0 at hA kE h0
  have hbe : w0.heap.size = w.heap.size + 1 := by rw [← hw0, World.size_alloc]
  obtain ⟨mb, hmbe⟩ : ∃ m, m = w0.heap.size := ⟨_, rfl⟩
  have hbb0 : (w0.alloc (.map #[] 0)).heap[bb]? = some (.cells #[.map none] 74 (0, 0)) := block_alloc _ h0.1
  have g2 : (w0.alloc (.map #[] 0)).grownBy ((w0.alloc (.map #[] 0)).setCell ⟨bb, 0, none⟩ (.map (some mb))) (some bb) := grown_set _ ⟨bb, 0, none⟩ _
  have hs2 : ((w0.alloc (.map #[] 0)).setCell ⟨bb, 0, none⟩ (.map (some mb))).heap.size = w.heap.size + 2 := by rw [set_size, World.size_alloc, hbe]
  have HB2 : Hid (Bok ((w0.alloc (.map #[] 0)).setCell ⟨bb, 0, none⟩ (.map (some mb))) bb (some mb) 0 (.map [])) := ⟨set_block (i := 0) _ hbb0, by omega, by rw [hmbe]; exact World.ownsMap.setCell (World.ownsMap_made w0 Tryz.prog 9 hld) (by show w0.heap.size ≠ bb; omega) _⟩
  have KE2 : Hid (EB ((w0.alloc (.map #[] 0)).setCell ⟨bb, 0, none⟩ (.map (some mb))) w.heap.size E (.slice ra E.ds.length rc) (.slice sa E.sk.length sc) (.slice ma E.mv.length mc)) := (Below.heap_setCell _ _ _ _ (fun q => by have q' : w.heap.size = bb := q; omega)).trans (block_alloc _ kE)
  have KW : Hid (Kept w ((w0.alloc (.map #[] 0)).setCell ⟨bb, 0, none⟩ (.map (some mb))) bb none) := by
    have hB := below_then hA (below_alloc w0 (.map #[] 0))
    exact ⟨g2.os.trans hB.os, g2.tape.trans hB.tape, g2.output.trans hB.output, by omega, fun k hk h1 _ => (g2.block k (Nat.lt_of_lt_of_le hk hB.size) (fun q => h1 (Option.some.inj q))).trans (hB.block k hk)⟩
  have OF2 : Off (· = bb) ((w0.alloc (.map #[] 0)).setCell ⟨bb, 0, none⟩ (.map (some mb))) E (.slice ra E.ds.length rc) (.slice sa E.sk.length sc) (.slice ma E.mv.length mc) := (OFL.grown rfl (grown_below (below_then hA (below_alloc w0 (.map #[] 0))) _)).grown rfl g2
  have hL2 : Ls ((w0.alloc (.map #[] 0)).setCell ⟨bb, 0, none⟩ (.map (some mb))) E (.slice ra E.ds.length rc) (.slice sa E.sk.length sc) (.slice ma E.mv.length mc) := ⟨ints_days OF2.d.ints HD20.out, OF2.s.ints, OF2.m.movs⟩
  have cB := h0.cell
  have cB' : (w0.alloc (.map #[] 0)).cell? ⟨bb, 0, none⟩ = some (.map none) := by simp [World.cell?, hbb0]
  have fB' : (w0.alloc (.map #[] 0)).frozen? ⟨bb, 0, none⟩ = false := blk11_frozen hbb0 0
  have hmm := @run_makeMap Tryz.prog
  have qn : ∀ (W : World), (binOp .eql 67 (.map none) (.map none)).run Tryz.prog W = .ok (.bool true) W := fun W => by kernel_rfl
  clear hA h0 h kE OFL OF2 g2 hbb0
  have KS : Hid (∀ (W : World) (be : Nat), W.heap[bb]? = some (.cells #[.map (some mb)] 74 (0, 0)) → W.heap[be]? = some (.cells #[.string E.id, .string E.ti, .int .i64 E.st, .int .i64 E.lg, .string E.f, .int .i64 E.e, .slice ra E.ds.length rc, .int .i64 E.c, .int .i64 E.u, .slice sa E.sk.length sc, .slice ma E.mv.length mc] 44 (0, 0)) → W.cell? ⟨bb, 0, none⟩ = some (.map (some mb)) ∧ W.cell? ⟨be, 0, none⟩ = some (.string E.id) ∧ W.cell? ⟨be, 1, none⟩ = some (.string E.ti) ∧ W.cell? ⟨be, 2, none⟩ = some (.int .i64 E.st) ∧ W.cell? ⟨be, 3, none⟩ = some (.int .i64 E.lg) ∧ W.cell? ⟨be, 4, none⟩ = some (.string E.f) ∧ W.cell? ⟨be, 5, none⟩ = some (.int .i64 E.e) ∧ W.cell? ⟨be, 6, none⟩ = some (.slice ra E.ds.length rc) ∧ W.cell? ⟨be, 7, none⟩ = some (.int .i64 E.c) ∧ W.cell? ⟨be, 8, none⟩ = some (.int .i64 E.u) ∧ W.cell? ⟨be, 9, none⟩ = some (.slice sa E.sk.length sc) ∧ W.cell? ⟨be, 10, none⟩ = some (.slice ma E.mv.length mc)) := fun W be h1 h2 => by
    obtain ⟨x0, x1, x2, x3, x4, x5, x6, x7, x8, x9, x10⟩ := blk11 h2
    exact ⟨by simp [World.cell?, h1], x0, x1, x2, x3, x4, x5, x6, x7, x8, x9, x10⟩
  have hmb' : w.heap.size < mb := by omega
  have HMB : Hid (mb = w0.heap.size) := hmbe
  have HS2 : Hid (_) := hs2
  clear hmbe hbe hs2
  go_enter Tryz.func31, Tryz.ntmps31
  go_upto_region 3 with (fail)
  rw [← HMB.out]
  generalize hw2 : (w0.alloc (.map #[] 0)).setCell ⟨bb, 0, none⟩ (.map (some mb)) = w2 at HB2 KE2 KW hL2 HS2 ⊢
  have hs2 := HS2.out
  have CP : Hid (∀ W, Below w2.heap.size w2 W → Calls Tryz.prog 27 #[ev E (.slice ra E.ds.length rc) (.slice sa E.sk.length sc) (.slice ma E.mv.length mc)] W fun r w' => ∃ sl' skv' mvv', r = .returned (ev E sl' skv' mvv') ∧ Ow W.heap.size w' sl' E.ds ∧ Ow W.heap.size w' skv' E.sk ∧ OwM W.heap.size w' mvv' E.mv ∧ Below W.heap.size W w') := fun W hW => copy_any E _ _ _ W (hL2.step hW) k20 m20
  unfold ev at CP
  have HNE : Hid (mb ≠ bb) := HB2.out.2.1
  have hl1' : bb < w2.heap.size := by omega
  have hl2' : mb < w2.heap.size := HB2.out.2.2.lt
  have hbe' : w.heap.size < w2.heap.size := by omega
  have cB2 := HB2.out.cell
  obtain ⟨x0, x1, x2, x3, x4, x5, x6, x7, x8, x9, x10⟩ := blk11 (show w2.heap[w.heap.size]? = _ from KE2.out)
  clear cB cB' fB' hw2 hL2 hs2 HS2 hw0 HMB
  have hl1 : bb < w2.heap.size := hl1'
  have hlk : ∀ k, k < w.heap.size → k < w2.heap.size := fun k h => Nat.lt_of_lt_of_le h KW.out.size
  have hl2 : mb < w2.heap.size := hl2'
  have hne2 : w.heap.size ≠ mb := Nat.ne_of_lt hmb'
  go_region_held3 (fun W => W.cell? ⟨bb, 0, none⟩ = some (.map (some mb)) ∧ W.cell? ⟨w.heap.size, 0, none⟩ = some (.string E.id) ∧ W.cell? ⟨w.heap.size, 1, none⟩ = some (.string E.ti) ∧ W.cell? ⟨w.heap.size, 2, none⟩ = some (.int .i64 E.st) ∧ W.cell? ⟨w.heap.size, 3, none⟩ = some (.int .i64 E.lg) ∧ W.cell? ⟨w.heap.size, 4, none⟩ = some (.string E.f) ∧ W.cell? ⟨w.heap.size, 5, none⟩ = some (.int .i64 E.e) ∧ W.cell? ⟨w.heap.size, 6, none⟩ = some (.slice ra E.ds.length rc) ∧ W.cell? ⟨w.heap.size, 7, none⟩ = some (.int .i64 E.c) ∧ W.cell? ⟨w.heap.size, 8, none⟩ = some (.int .i64 E.u) ∧ W.cell? ⟨w.heap.size, 9, none⟩ = some (.slice sa E.sk.length sc) ∧ W.cell? ⟨w.heap.size, 10, none⟩ = some (.slice ma E.mv.length mc)) ((first | exact KS.out _ _ hB6 hE6 | exact KS.out _ _ hB5 hE5 | exact KS.out _ _ HB2.out.1 KE2.out))
    (first
      | (go_at_call 27; refine Calls.mono (CP.out _ ?_) ?_; (with_reducible exact drew_below _); rintro r w5 ⟨sl2, sk2, mv2, rfl, ho1, ho2, ho3, hb5⟩; obtain ⟨r2, rc2, rfl⟩ := ow_form ho1; obtain ⟨s2, sc2, rfl⟩ := ow_form ho2; obtain ⟨m2, mc2, rfl⟩ := gotM_form (owm_movs ho3 m8).2; have hB5 : w5.heap[bb]? = some (.cells #[.map (some mb)] 74 (0, 0)) := (hb5.block _ hl1).trans HB2.out.1; have hE5 : w5.heap[w.heap.size]? = some (.cells #[.string E.id, .string E.ti, .int .i64 E.st, .int .i64 E.lg, .string E.f, .int .i64 E.e, .slice ra E.ds.length rc, .int .i64 E.c, .int .i64 E.u, .slice sa E.sk.length sc, .slice ma E.mv.length mc] 44 (0, 0)) := (hb5.block _ hbe').trans KE2.out; obtain ⟨w6, hrun, hown6, hturn6⟩ := World.ownsMap.store (HB2.out.2.2.kept (grown_below (below_then (drew_below _) hb5) none) (Option.some_ne_none mb)) law Tryz.underlying67 hnm HKY.out (rfl : hld (.agg #[.string E.id, .string E.ti, .int .i64 E.st, .int .i64 E.lg, .string E.f, .int .i64 E.e, .slice r2 E.ds.length rc2, .int .i64 E.c, .int .i64 E.u, .slice s2 E.sk.length sc2, .slice m2 E.mv.length mc2]) = some (.held (.agg #[.string E.id, .string E.ti, .int .i64 E.st, .int .i64 E.lg, .string E.f, .int .i64 E.e, .slice r2 E.ds.length rc2, .int .i64 E.c, .int .i64 E.u, .slice s2 E.sk.length sc2, .slice m2 E.mv.length mc2]), [])); have hB6 := (hturn6.grown.block bb (Array.getElem?_eq_some_iff.1 hB5).1 (fun q => HNE.out (Option.some.inj q).symm)).trans hB5; have hE6 := (hturn6.grown.block w.heap.size (Array.getElem?_eq_some_iff.1 hE5).1 (fun q => hne2 (Option.some.inj q))).trans hE5))
  have BW5 : Below w2.heap.size w2 w5 := below_then (drew_below _) hb5
  have HO6 : Hid (World.ownsMap _ _ _ _ _ _ _) := hown6
  have HT6 : Hid (World.mapTurned _ _ _) := hturn6
  have HB6 : Hid (_) := hB6
  have OF6 : Hid (Off (fun k => k < w.heap.size ∨ k = mb) w6 E (.slice r2 E.ds.length rc2) (.slice s2 E.sk.length sc2) (.slice m2 E.mv.length mc2)) := ⟨(ow_off ho1 (fun k h => by rcases h with h | h; (exact hlk k h); (rw [h]; exact hl2)) (by have := HD20.out; omega)).grown (B := mb) (.inr rfl) hturn6.grown, (ow_off ho2 (fun k h => by rcases h with h | h; (exact hlk k h); (rw [h]; exact hl2)) (by omega)).grown (B := mb) (.inr rfl) hturn6.grown, (owm_off ho3 (fun k h => by rcases h with h | h; (exact hlk k h); (rw [h]; exact hl2)) (by omega)).grown (B := mb) (.inr rfl) hturn6.grown⟩
  have KP : Hid (Kept w w6 bb none) := ⟨hturn6.grown.os.trans (BW5.os.trans KW.out.os), hturn6.grown.tape.trans (BW5.tape.trans KW.out.tape), hturn6.grown.output.trans (BW5.output.trans KW.out.output), Nat.le_trans KW.out.size (Nat.le_trans BW5.size hturn6.grown.size), fun k hk h1 h2 => (hturn6.grown.block k (Nat.lt_of_lt_of_le hk (Nat.le_trans KW.out.size BW5.size)) (fun q => by have := Option.some.inj q; omega)).trans ((BW5.block k (Nat.lt_of_lt_of_le hk KW.out.size)).trans (KW.out.block k hk h1 h2))⟩
  clear hown6 hturn6 hB6 hrun ho1 ho2 ho3 hb5 hB5 hE5 hE6 BW5
  go_wp2
  refine bodyPost_end (v := .tuple #[]) (results_none rfl _ _ _) rfl ⟨⟨_, rfl⟩, mb, hmb', _, _, _, ⟨HB6.out, HNE.out, HO6.out⟩, OF6.out, KP.out⟩
end Go.Proofs.YtekminpoiokgfaaGreatDoor
