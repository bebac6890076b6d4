/- Package pack's texts ahead: newTextsAhead, add. -/
import Derived.Test.YtbocknocmggcpaaGreatDoorPkZK
import Derived.Test.YtbocknocmggcpaaGreatDoorPaM
import Derived.Test.YtbocknocmggcpaaGreatDoorPlA
import Derived.Deep.RegionHeld3
namespace Go.Proofs.YtbocknocmggcpaaGreatDoor
open Go Go.RowKit Go.Shelf Go.Maps Cal Pk
attribute [local go_sem] Oper.semAt_some

/-- what a map from blocks to numbers holds -/
def LLook (D : DataW Value) (f : List UInt8 → Option Nat) : Prop :=
  ∀ s : ByteArray, (∀ i : Nat, f s.data.toList = some i → Maps.has D (plKey s) = true ∧ D.atKey (plKey s) (.lit (.int .i64 0)) = .lit (.int .i64 i)) ∧ (f s.data.toList = none → Maps.has D (plKey s) = false)
theorem LLook.nil : LLook (.map []) (fun _ => none) := fun s => ⟨(fun i h => by cases h), fun _ => rfl⟩
theorem LLook.put {D : DataW Value} {f g : List UInt8 → Option Nat} {n : Nat} (h : LLook D f) (hD : IsMap D) (s : ByteArray) (hg : ∀ k, g k = if k = s.data.toList then some n else f k) : LLook (D.put (plKey s) (.lit (.int .i64 n))) g := by
  intro x
  by_cases hx : x = s
  · subst hx
    rw [hg, if_pos rfl]
    refine ⟨fun i hi => ⟨has_put_same hD (plKey_lit _) _, ?_⟩, (fun q => by cases q)⟩
    rw [atKey_put_same hD (plKey_lit _)]
    cases hi
    rfl
  · rw [has_put_other (plKey_ne hx), atKey_put_other (plKey_ne hx), hg, if_neg (fun e => hx (pl_ext e))]
    exact h x
/-- block ab is texts ahead (its map: mb, its list: tv) -/
structure TA (lo : Nat) (W : World) (ab mb : Nat) (tv : Value) (ts : List ByteArray) : Prop where
  ha : ab < lo
  hm : mb < lo
  ne : mb ≠ ab
  le : lo ≤ W.heap.size
  blk : W.heap[ab]? = some (.cells #[tv, .map (some mb)] 103 (0, 0))
  row : W.ownsRow lo 9 1 tv ts.length (ts.map Value.string)
  map : ∃ (D : DataW Value) (n : Nat), W.ownsMap Tryz.prog 9 (plainElem Tryz.prog 3) mb n D ∧ n ≤ ts.length * 2000 ∧ LLook D (lastF (ts.map fun t => t.data.toList))
theorem TA.far {lo : Nat} {W W' : World} {ab mb : Nat} {tv : Value} {ts : List ByteArray} (h : TA lo W ab mb tv ts) (hs : W.heap.size ≤ W'.heap.size) (hk : ∀ k, k < W.heap.size → (k = ab ∨ k = mb ∨ tv.ownBlock = some k) → W'.heap[k]? = W.heap[k]?) : TA lo W' ab mb tv ts := by
  have hle := h.le
  have hpl := h.ha
  have hml := h.hm
  refine ⟨h.ha, h.hm, h.ne, Nat.le_trans h.le hs, (hk ab (by omega) (.inl rfl)).trans h.blk, ⟨h.row.1, ?_⟩, ?_⟩
  · rcases h.row.2 with h2 | ⟨g, cap, cur, hv, hg, hh, r⟩
    · exact .inl h2
    · refine .inr ⟨g, cap, cur, hv, hg, (hk g (Array.getElem?_eq_some_iff.1 hh).1 (.inr (.inr ?_))).trans hh, r⟩
      rw [hv]; rfl
  · obtain ⟨D, n, ⟨es, clock, hb, F, hs2, rfl⟩, hn, hl⟩ := h.map
    exact ⟨_, n, ⟨es, clock, (hk mb (by omega) (.inr (.inl rfl))).trans hb, F, hs2, rfl⟩, hn, hl⟩
theorem TA.step {lo : Nat} {W W' : World} {ab mb : Nat} {tv : Value} {ts : List ByteArray} (h : TA lo W ab mb tv ts) (hb : Below W.heap.size W W') : TA lo W' ab mb tv ts := h.far hb.size (fun k hk _ => hb.block k hk)
theorem TA.cells {lo : Nat} {W : World} {ab mb : Nat} {tv : Value} {ts : List ByteArray} (h : TA lo W ab mb tv ts) : W.cell? ⟨ab, 0, none⟩ = some tv ∧ W.cell? ⟨ab, 1, none⟩ = some (.map (some mb)) := blk2 h.blk
theorem TA.form {lo : Nat} {W : World} {ab mb : Nat} {tv : Value} {ts : List ByteArray} (h : TA lo W ab mb tv ts) : ∃ a c, tv = .slice a ts.length c ∧ ∀ (j : Nat) (hj : j < ts.length), ∃ b, a = some ⟨b, 0, none⟩ ∧ b < W.heap.size ∧ W.cell? ⟨b, j, none⟩ = some (.string ts[j]) := by
  rcases h.row.2 with ⟨rfl, h0⟩ | ⟨g, cap, cur, rfl, hb, hg, hcap, hmax, hsz, htake⟩
  · exact ⟨none, 0, by rw [h0], fun j hj => by omega⟩
  · have hlt := (Array.getElem?_eq_some_iff.1 hg).1
    refine ⟨_, _, rfl, fun j hj => ⟨g, rfl, hlt, ?_⟩⟩
    have e : (ts.map Value.string)[j]? = some (.string ts[j]) := by rw [List.getElem?_map, List.getElem?_eq_getElem hj]; rfl
    rw [← htake, List.getElem?_take_of_lt (by omega), Array.getElem?_toList] at e
    simp only [World.cell?, hg]
    simpa using e
theorem newAhead_any (w : World) : Calls Tryz.prog 29 #[] w fun r w' => r = .returned (.pointer (some ⟨w.heap.size + 1, 0, none⟩)) ∧ TA (w.heap.size + 2) w' (w.heap.size + 1) w.heap.size (.slice none 0 0) [] ∧ Below w.heap.size w w' := by
  have hmm := @run_makeMap Tryz.prog
  go_enter Tryz.func29, Tryz.ntmps29
  go_wp2
  go_ret
  refine ⟨rfl, ⟨by omega, by omega, by omega, by simp [World.size_alloc], block_at _ (World.size_alloc _ _), World.ownsRow_nil _ _ _ _, ?_⟩, below_then (below_alloc _ _) (below_alloc _ _)⟩
  exact ⟨.map [], 0, World.ownsMap.alloc (World.ownsMap_made w Tryz.prog 9 (plainElem Tryz.prog 3)) _, Nat.le_refl _, LLook.nil⟩

/-- what add's rounds leave -/
structure AJ (w W : World) (rec : Loop) (ab mb : Nat) (s : ByteArray) (N m k : Nat) (f : List UInt8 → Option Nat) : Prop where
  box : W.heap[w.heap.size]? = some (.cells #[.pointer (some ⟨ab, 0, none⟩)] 72 (0, 0))
  str : W.heap[w.heap.size + 1]? = some (.cells #[.string s] 9 (0, 0))
  d : W.heap[w.heap.size + 2]? = some (.deferred (some []))
  l : W.heap[w.heap.size + 3]? = some (.loop rec)
  same : ∀ b, b < w.heap.size → b ≠ mb → W.heap[b]? = w.heap[b]?
  os : W.os = w.os
  tape : W.tape = w.tape
  output : W.output = w.output
  sz : w.heap.size + 4 ≤ W.heap.size
  map : ∃ (D : DataW Value) (n : Nat), W.ownsMap Tryz.prog 9 (plainElem Tryz.prog 3) mb n D ∧ n ≤ N + k ∧ LLook D (updK f s.data.toList m k)
theorem own_far {W W' : World} {mb n : Nat} {D : DataW Value} (h : W.ownsMap Tryz.prog 9 (plainElem Tryz.prog 3) mb n D) (hk : W'.heap[mb]? = W.heap[mb]?) : W'.ownsMap Tryz.prog 9 (plainElem Tryz.prog 3) mb n D := by
  obtain ⟨es, clock, hb, F, hs2, rfl⟩ := h
  exact ⟨es, clock, hk.trans hb, F, hs2, rfl⟩

set_option maxHeartbeats 4000000 in
set_option maxRecDepth 100000 in
theorem addA_any (lo ab mb : Nat) (tv : Value) (ts : List ByteArray) (s : ByteArray) (w : World) (h : TA lo w ab mb tv ts) (hs : s.size ≤ 10000) (hl : ts.length ≤ 1000) :
    Calls Tryz.prog 33 #[.pointer (some ⟨ab, 0, none⟩), .string s] w fun r w' => r = .returned (.tuple #[]) ∧ ∃ tv', TA lo w' ab mb tv' (ts ++ [s]) ∧ PKept w w' ab mb tv ∧ (tv'.ownBlock = tv.ownBlock ∨ ∃ k, w.heap.size ≤ k ∧ tv'.ownBlock = some k) := by
  have EB : Hid (∀ W, _) := fun W => eachBlock_any s W
  have HH : Hid (TA lo w ab mb tv ts) := h
  obtain ⟨ta, tc, rfl, hform⟩ := h.form
  clear hform
  obtain ⟨D0, n0, hD0, hn0, hL0⟩ := h.map
  refine (callsIn_wide (n := 10)).1 ?_
  refine callsIn_of_wp_marks Tryz.func33 rfl trivial ?_ rfl
  simp only [Tryz.ntmps33, List.size_toArray, List.length_cons, List.length_nil, Nat.reduceAdd, Nat.reduceSub, Array.replicate_succ, Array.replicate_zero, List.push_toArray, List.append_toArray, List.nil_append, List.cons_append]
  gi_wp2_with (refine ⟨trivial, ?_⟩; gi_at_call 43; refine (callsIn_wide.2 (EB.out _)).mono ?_; rintro r w' ⟨rfl, rfl⟩)
  have e1 := below_alloc w (.cells #[.pointer (some ⟨ab, 0, none⟩)] 72)
  have e2 := below_alloc (w.alloc (.cells #[.pointer (some ⟨ab, 0, none⟩)] 72)) (.cells #[.string s] 9)
  have z1 : (w.alloc (.cells #[.pointer (some ⟨ab, 0, none⟩)] 72)).heap.size = w.heap.size + 1 := World.size_alloc _ _
  have z2 : ((w.alloc (.cells #[.pointer (some ⟨ab, 0, none⟩)] 72)).alloc (.cells #[.string s] 9)).heap.size = w.heap.size + 2 := by rw [World.size_alloc, z1]
  have k0 : ((w.alloc (.cells #[.pointer (some ⟨ab, 0, none⟩)] 72)).alloc (.cells #[.string s] 9)).heap[w.heap.size]? = some (.cells #[.pointer (some ⟨ab, 0, none⟩)] 72 (0, 0)) := block_alloc _ (block_at _ rfl)
  have k1 : ((w.alloc (.cells #[.pointer (some ⟨ab, 0, none⟩)] 72)).alloc (.cells #[.string s] 9)).heap[w.heap.size + 1]? = some (.cells #[.string s] 9 (0, 0)) := block_at _ z1
  have hbw := below_then e1 e2
  generalize (w.alloc (.cells #[.pointer (some ⟨ab, 0, none⟩)] 72)).alloc (.cells #[.string s] 9) = W2 at z2 k0 k1 hbw
  clear e1 e2 z1 EB
  refine rangeFunc_of rfl (enters_of Tryz.func60 (by kernel_rfl) rfl) (fun r0 hr0 => ?_)
  have hl3 : W2.heap.size + 1 = w.heap.size + 3 := by omega
  rw [hl3]
  have hle := h.le
  have hab := h.ha
  have hmb := h.hm
  have hne := h.ne
  refine (eachBlock_iter 9 (w.heap.size + 3) (w.heap.size + 1) s (fun k W => AJ w W r0 ab mb s n0 ts.length k (lastF (ts.map fun t => t.data.toList))) (by omega) (by omega) ?hB ?hY _ ?h0).mono ?post
  case hB =>
    intro k W q
    exact blk1 q.str
  case h0 =>
    have hb := below_then (below_alloc W2 (.deferred (some []))) (below_alloc _ (.loop r0))
    have y1 : (W2.alloc (.deferred (some []))).heap.size = w.heap.size + 3 := by rw [World.size_alloc, z2]
    have hb0 := below_then hbw hb
    refine ⟨(hb.block _ (by omega)).trans k0, (hb.block _ (by omega)).trans k1, block_alloc _ (block_at _ z2), block_at _ y1, fun b hb1 _ => hb0.block b hb1, hb0.os, hb0.tape, hb0.output, by rw [World.size_alloc, y1]; omega, D0, n0, own_far hD0 (hb0.block _ (by omega)), by omega, by rw [updK_zero]; exact hL0⟩
  case hY =>
    intro k hk W q
    obtain ⟨D, n, hD, hn, hL⟩ := q.map
    have hgb := grownBy_putObj' W (w.heap.size + 3) (.loop { r0 with state := .busy })
    have P : ∀ b, b ≠ w.heap.size + 3 → (W.putObj (w.heap.size + 3) (.loop { r0 with state := .busy })).heap[b]? = W.heap[b]? := fun b hb => World.putObj_heap_other hb
    have lb : (W.putObj (w.heap.size + 3) (.loop { r0 with state := .busy })).heap[w.heap.size + 3]? = some (.loop { r0 with state := .busy }) := World.putObj_heap_same (Array.getElem?_eq_some_iff.1 q.l).1
    have hDb := own_far hD (P mb (by omega))
    have hbz : (bs (bk s.data.toList (8 * k))).size ≤ 8 := by rw [Lib.size_eq, bs_data]; unfold bk; rw [List.length_take]; omega
    have hst0 : Hid (∃ w7, (Instr.mapUpdate 86 (.map (some mb)) (.string (bs (bk s.data.toList (8 * k)))) (.int .i64 ts.length)).run Tryz.prog (W.putObj (w.heap.size + 3) (.loop { r0 with state := .busy })).drew = .ok () w7 ∧ (∀ b, b < (W.putObj (w.heap.size + 3) (.loop { r0 with state := .busy })).heap.size → b ≠ mb → w7.heap[b]? = (W.putObj (w.heap.size + 3) (.loop { r0 with state := .busy })).heap[b]?) ∧ w7.heap[w.heap.size + 3]? = some (.loop { r0 with state := .busy }) ∧ AJ w (w7.putObj (w.heap.size + 3) (.loop { r0 with state := .ready, pending := none })) r0 ab mb s n0 ts.length (k + 1) (lastF (ts.map fun t => t.data.toList))) := by
      obtain ⟨w7, hst, m7, t7⟩ := (own_far (W' := (W.putObj (w.heap.size + 3) (.loop { r0 with state := .busy })).drew) hDb rfl).store plLaw Tryz.underlying86 (by unfold maxLen; omega) (plKey_of (s := bs (bk s.data.toList (8 * k))) (by omega)) (plainElem_int (H := Value) Tryz.underlying3 (Go.WalkArith.wf_i64 (show -9223372036854775808 ≤ (ts.length : Int) ∧ (ts.length : Int) ≤ 9223372036854775807 by omega)))
      have g7 := t7.grown
      have keep : ∀ b, b < (W.putObj (w.heap.size + 3) (.loop { r0 with state := .busy })).heap.size → b ≠ mb → w7.heap[b]? = (W.putObj (w.heap.size + 3) (.loop { r0 with state := .busy })).heap[b]? := fun b hb1 hb2 => g7.block b hb1 (fun z => hb2 (Option.some.inj z))
      have hWs : W.heap.size ≤ (W.putObj (w.heap.size + 3) (.loop { r0 with state := .busy })).heap.size := hgb.size
      have hqs := q.sz
      have l7 : w7.heap[w.heap.size + 3]? = some (.loop { r0 with state := .busy }) := (keep _ (by omega) (by omega)).trans lb
      have gP := grownBy_putObj' w7 (w.heap.size + 3) (.loop { r0 with state := .ready, pending := none })
      have K : ∀ b, b < W.heap.size → b ≠ mb → b ≠ w.heap.size + 3 → (w7.putObj (w.heap.size + 3) (.loop { r0 with state := .ready, pending := none })).heap[b]? = W.heap[b]? := fun b b1 b2 b3 => (World.putObj_heap_other b3).trans ((keep b (by omega) b2).trans (P b b3))
      refine ⟨w7, hst, keep, l7, (K _ (by omega) (by omega) (by omega)).trans q.box, (K _ (by omega) (by omega) (by omega)).trans q.str, (K _ (by omega) (by omega) (by omega)).trans q.d, ?_, fun b b1 b2 => (K b (by omega) b2 (by omega)).trans (q.same b b1 b2), gP.os.trans (g7.os.trans (hgb.os.trans q.os)), gP.tape.trans (g7.tape.trans (hgb.tape.trans q.tape)), gP.output.trans (g7.output.trans (hgb.output.trans q.output)), ?_, _, n + 1, own_far m7 (World.putObj_heap_other (by omega)), by omega, hL.put hD.isMap (bs (bk s.data.toList (8 * k))) (fun key => by rw [bs_data]; exact updK_succ _ _ _ _ _)⟩
      · rw [hr0.again]; exact World.putObj_heap_same (Array.getElem?_eq_some_iff.1 l7).1
      · have := gP.size; have := g7.size; have e : (W.putObj (w.heap.size + 3) (.loop { r0 with state := .busy })).drew.heap.size = (W.putObj (w.heap.size + 3) (.loop { r0 with state := .busy })).heap.size := rfl; omega
    generalize bs (bk s.data.toList (8 * k)) = bb at hst0 ⊢
    have cab := (blk2 (((P ab (by omega)).trans (q.same ab (by omega) (fun z => hne z.symm))).trans h.blk))
    have cbx := blk1 ((P _ (by omega)).trans q.box)
    have hsb : w.heap.size + 4 ≤ (W.putObj (w.heap.size + 3) (.loop { r0 with state := .busy })).heap.size := Nat.le_trans q.sz hgb.size
    refine yieldAt_of hr0 ({ tmps := #[.pointer (some ⟨ab, 0, none⟩), .string s, .pointer (some ⟨w.heap.size, 0, none⟩), undef, undef, .string bb, .string s, .func (.func 60) #[] #[.pointer (some ⟨w.heap.size + 1, 0, none⟩)], .int .i64 ((8 * k : Nat) : Int), .string bb, undef, undef, undef, undef, undef, undef, undef, undef, undef, undef, undef, undef, undef, undef, undef, undef, undef, undef, undef, undef], defers := [] }) q.l rfl ?assign ?body
    case assign =>
      intro K hK
      gi_wp2
      exact hK
    case body =>
      clear q hD hn hL hgb P lb hDb
      generalize W.putObj (w.heap.size + 3) (.loop { r0 with state := .busy }) = Wb at hst0 cab cbx hsb ⊢
      obtain ⟨cab0, cab1⟩ := cab
      obtain ⟨w7, hst, keep, hfin⟩ := hst0.out
      have hmix : Tryz.prog.follows .mixedOrders = true := by kernel_rfl
      have HS0 : Wb.drew.cell? ⟨w.heap.size, 0, none⟩ = some (.pointer (some ⟨ab, 0, none⟩)) ∧ Wb.drew.cell? ⟨ab, 0, none⟩ = some (.slice ta ts.length tc) ∧ Wb.drew.cell? ⟨ab, 1, none⟩ = some (.map (some mb)) := ⟨cbx, cab0, cab1⟩
      have HS7 : w7.cell? ⟨w.heap.size, 0, none⟩ = some (.pointer (some ⟨ab, 0, none⟩)) ∧ w7.cell? ⟨ab, 0, none⟩ = some (.slice ta ts.length tc) ∧ w7.cell? ⟨ab, 1, none⟩ = some (.map (some mb)) := by
        have c1 : w7.heap[w.heap.size]? = Wb.heap[w.heap.size]? := keep _ (by omega) (by omega)
        have c2 : w7.heap[ab]? = Wb.heap[ab]? := keep _ (by omega) (fun z => hne z.symm)
        exact ⟨(World.cell?_of_block (a := ⟨w.heap.size, 0, none⟩) c1).trans cbx, (World.cell?_of_block (a := ⟨ab, 0, none⟩) c2).trans cab0, (World.cell?_of_block (a := ⟨ab, 1, none⟩) c2).trans cab1⟩
      clear keep hst0
      generalize hts : ts.length = tn at *
      gi_wp2
      refine region_round hmix (no_defer (by kernel_rfl)) (by rintro ⟨_, _, hx⟩; exact hx) ?_
      refine wpAny_of_held (S := fun w' => w'.cell? ⟨w.heap.size, 0, none⟩ = some (.pointer (some ⟨ab, 0, none⟩)) ∧ w'.cell? ⟨ab, 0, none⟩ = some (.slice ta tn tc) ∧ w'.cell? ⟨ab, 1, none⟩ = some (.map (some mb))) _ _ _ _ ?_
      refine wpAnyH_take (i := 0) (v := .pointer (some ⟨ab, 0, none⟩)) rfl (by kernel_rfl) (by kernel_rfl) (by kernel_rfl) (fun _ _ _ h => h) (Or.inl ⟨by rfl, ?_⟩) (by assumption) ?_
      · intro w hSw
        try dsimp only at hSw
        obtain ⟨hS0, hS1, hS2⟩ := hSw
        go_simp
      try simp only [Act.put]
      refine wpAnyH_take (i := 1) (v := .pointer (some ⟨ab, 0, none⟩)) rfl (by kernel_rfl) (by kernel_rfl) (by kernel_rfl) (fun _ _ _ h => h) (Or.inl ⟨by rfl, ?_⟩) (by assumption) ?_
      · intro w hSw
        try dsimp only at hSw
        obtain ⟨hS0, hS1, hS2⟩ := hSw
        go_simp
      try simp only [Act.put]
      refine wpAnyH_take (i := 2) (v := .pointer (some ⟨ab, 1, none⟩)) rfl (by kernel_rfl) (by kernel_rfl) (by kernel_rfl) (fun _ _ _ h => h) (Or.inl ⟨by rfl, ?_⟩) (by assumption) ?_
      · intro w hSw
        try dsimp only at hSw
        obtain ⟨hS0, hS1, hS2⟩ := hSw
        go_simp
      try simp only [Act.put]
      refine wpAnyH_take (i := 3) (v := .map (some mb)) rfl (by kernel_rfl) (by kernel_rfl) (by kernel_rfl) (fun _ _ _ h => h) (Or.inl ⟨by rfl, ?_⟩) (by assumption) ?_
      · intro w hSw
        try dsimp only at hSw
        obtain ⟨hS0, hS1, hS2⟩ := hSw
        go_simp
      try simp only [Act.put]
      refine wpAnyH_take (i := 4) (v := .string bb) rfl (by kernel_rfl) (by kernel_rfl) (by kernel_rfl) (fun _ _ _ h => h) (Or.inl ⟨by rfl, ?_⟩) (by assumption) ?_
      · intro w hSw
        try dsimp only at hSw
        obtain ⟨hS0, hS1, hS2⟩ := hSw
        go_simp
      try simp only [Act.put]
      refine wpAnyH_take (i := 5) (v := .pointer (some ⟨ab, 0, none⟩)) rfl (by kernel_rfl) (by kernel_rfl) (by kernel_rfl) (fun _ _ _ h => h) (Or.inl ⟨by rfl, ?_⟩) (by assumption) ?_
      · intro w hSw
        try dsimp only at hSw
        obtain ⟨hS0, hS1, hS2⟩ := hSw
        go_simp
      try simp only [Act.put]
      refine wpAnyH_take (i := 6) (v := .pointer (some ⟨ab, 0, none⟩)) rfl (by kernel_rfl) (by kernel_rfl) (by kernel_rfl) (fun _ _ _ h => h) (Or.inl ⟨by rfl, ?_⟩) (by assumption) ?_
      · intro w hSw
        try dsimp only at hSw
        obtain ⟨hS0, hS1, hS2⟩ := hSw
        go_simp
      try simp only [Act.put]
      refine wpAnyH_take (i := 7) (v := .pointer (some ⟨ab, 0, none⟩)) rfl (by kernel_rfl) (by kernel_rfl) (by kernel_rfl) (fun _ _ _ h => h) (Or.inl ⟨by rfl, ?_⟩) (by assumption) ?_
      · intro w hSw
        try dsimp only at hSw
        obtain ⟨hS0, hS1, hS2⟩ := hSw
        go_simp
      try simp only [Act.put]
      refine wpAnyH_take (i := 8) (v := .slice ta tn tc) rfl (by kernel_rfl) (by kernel_rfl) (by kernel_rfl) (fun _ _ _ h => h) (Or.inl ⟨by rfl, ?_⟩) (by assumption) ?_
      · intro w hSw
        try dsimp only at hSw
        obtain ⟨hS0, hS1, hS2⟩ := hSw
        go_simp
      try simp only [Act.put]
      refine wpAnyH_take (i := 9) (v := .int .i64 tn) rfl (by kernel_rfl) (by kernel_rfl) (by kernel_rfl) (fun _ _ _ h => h) (Or.inl ⟨by rfl, ?_⟩) (by assumption) ?_
      · intro w hSw
        try dsimp only at hSw
        obtain ⟨hS0, hS1, hS2⟩ := hSw
        go_simp
      try simp only [Act.put]
      refine wpAnyH_ready (rs := [10]) (by kernel_rfl) (by simp) (AllReadyH.cons rfl (fun K hK => ?_) AllReadyH.nil)
      go_simp
      refine hK.out _ _ HS7 (fun hHeld => ?_)
      clear hK K
      refine wpAnyH_done (by kernel_rfl) ?_ _
      exact ⟨hfin.1, rfl, hfin.2⟩
  case post =>
    rintro e2 W3 ⟨hv, q⟩
    refine ⟨hv, _, q.l, by rw [hr0.state]; decide, .inl ⟨hr0.pending, ?_⟩⟩
    obtain ⟨D, n, hD, hn, hL⟩ := q.map
    have hls : s.data.toList.length = s.size := (Lib.size_eq s).symm
    have gP := grownBy_putObj' W3 (w.heap.size + 3) (.loop { r0 with state := .exhausted })
    have P3 : ∀ k, k ≠ w.heap.size + 3 → (W3.putObj (w.heap.size + 3) (.loop { r0 with state := .exhausted })).heap[k]? = W3.heap[k]? := fun k hk => World.putObj_heap_other hk
    have yd := (P3 _ (by omega)).trans q.d
    have ybx := (P3 _ (by omega)).trans q.box
    have ysame : ∀ b, b < w.heap.size → b ≠ mb → (W3.putObj (w.heap.size + 3) (.loop { r0 with state := .exhausted })).heap[b]? = w.heap[b]? := fun b b1 b2 => (P3 b (by omega)).trans (q.same b b1 b2)
    have ysz : w.heap.size + 4 ≤ (W3.putObj (w.heap.size + 3) (.loop { r0 with state := .exhausted })).heap.size := Nat.le_trans q.sz gP.size
    have yo := gP.os.trans q.os
    have yt := gP.tape.trans q.tape
    have yu := gP.output.trans q.output
    have yD := own_far hD (P3 mb (by omega))
    have yab := (ysame ab (by omega) (fun z => hne z.symm)).trans h.blk
    have yrow : (W3.putObj (w.heap.size + 3) (.loop { r0 with state := .exhausted })).ownsRow lo 9 1 (.slice ta ts.length tc) ts.length (ts.map Value.string) := by
      refine ⟨h.row.1, ?_⟩
      rcases h.row.2 with h2 | ⟨g, cap, cur, hv, hg, hh, r⟩
      · exact .inl h2
      · exact .inr ⟨g, cap, cur, hv, hg, (ysame g (Array.getElem?_eq_some_iff.1 hh).1 (by omega)).trans hh, r⟩
    rw [z2]
    clear P3 gP
    generalize W3.putObj (w.heap.size + 3) (.loop { r0 with state := .exhausted }) = W4 at yd ybx ysame ysz yo yt yu yD yab yrow
    obtain ⟨i0, hi, hz0, hz1, hz2⟩ := info_parts pl_info
    have hmix : Tryz.prog.follows .mixedOrders = true := by kernel_rfl
    have hA := below_then (below_alloc W4 (.cells #[.string s] 9)) (drew_below _)
    have cbx := blk1 ybx
    have cbx1 : W4.drew.cell? ⟨w.heap.size, 0, none⟩ = some (.pointer (some ⟨ab, 0, none⟩)) := cbx
    have cbx2 : (World.drew (W4.alloc (.cells #[.string s] 9))).cell? ⟨w.heap.size, 0, none⟩ = some (.pointer (some ⟨ab, 0, none⟩)) := cell_step cbx hA
    have ca1 : W4.drew.cell? ⟨ab, 0, none⟩ = some (.slice ta ts.length tc) := (blk2 yab).1
    have ca2 : (World.drew (W4.alloc (.cells #[.string s] 9))).cell? ⟨ab, 0, none⟩ = some (.slice ta ts.length tc) := cell_step (blk2 yab).1 hA
    have OW : Hid ((World.drew (W4.alloc (.cells #[.string s] 9))).ownsRow lo 9 1 (.slice ta ts.length tc) ts.length (ts.map Value.string)) := own_step yrow hA
    have HONE : Hid (∀ u ∈ ([.string s] : List Value), u.oneCell' = true) := fun u hu => by
      simp only [List.mem_cons, List.not_mem_nil, or_false] at hu
      rcases hu with rfl
      rfl
    have HMAX : Hid (ts.length + 1 ≤ maxLen) := by show _ + 1 ≤ maxLen; unfold maxLen; omega
    have HBY : Hid ((ts.length + 1) * 16 ≤ 140737488355328) := by show (_ + 1) * 16 ≤ _; omega
    have hAs := hA.size
    have HLO : Hid (lo ≤ (World.drew (W4.alloc (.cells #[.string s] 9))).heap.size) := by show lo ≤ _; omega
    have hvb : ∀ g, (Value.slice ta ts.length tc).ownBlock = some g → lo ≤ g ∧ g < w.heap.size := fun g hg => World.ownsRow.lt h.row g hg
    have HFN : Hid (∀ (w6 : World) (gb capb : Nat), w6.ownsRow lo 9 1 (.slice (some ⟨gb, 0, none⟩) (ts.length + 1) capb) (ts.length + 1) (ts.map Value.string ++ [.string s]) → (World.drew (W4.alloc (.cells #[.string s] 9))).grownBy w6 (Value.slice ta ts.length tc).ownBlock → ((Value.slice ta ts.length tc).ownBlock = some gb ∨ gb = (World.drew (W4.alloc (.cells #[.string s] 9))).heap.size) →
        w6.cell? ⟨ab, 0, none⟩ = some (.slice ta ts.length tc) ∧ w6.frozen? ⟨ab, 0, none⟩ = false ∧ w6.cell? ⟨w.heap.size, 0, none⟩ = some (.pointer (some ⟨ab, 0, none⟩)) ∧ (w6.setCell ⟨ab, 0, none⟩ (.slice (some ⟨gb, 0, none⟩) (ts.length + 1) capb)).cell? ⟨w.heap.size, 0, none⟩ = some (.pointer (some ⟨ab, 0, none⟩)) ∧
        (w6.setCell ⟨ab, 0, none⟩ (.slice (some ⟨gb, 0, none⟩) (ts.length + 1) capb)).heap[w.heap.size + 2]? = some (.deferred (some [])) ∧ (∃ tv', TA lo ((w6.setCell ⟨ab, 0, none⟩ (.slice (some ⟨gb, 0, none⟩) (ts.length + 1) capb)).putObj (w.heap.size + 2) (.deferred none)) ab mb tv' (ts ++ [s]) ∧ PKept w ((w6.setCell ⟨ab, 0, none⟩ (.slice (some ⟨gb, 0, none⟩) (ts.length + 1) capb)).putObj (w.heap.size + 2) (.deferred none)) ab mb (.slice ta ts.length tc) ∧ (tv'.ownBlock = (Value.slice ta ts.length tc).ownBlock ∨ ∃ k, w.heap.size ≤ k ∧ tv'.ownBlock = some k))) := by
      intro w6 gb capb hown hgrow hat
      have b6 : ∀ b, b < W4.heap.size → (Value.slice ta ts.length tc).ownBlock ≠ some b → w6.heap[b]? = W4.heap[b]? := fun b b1 b2 => (hgrow.block b (Nat.lt_of_lt_of_le b1 hA.size) (fun z => b2 z.symm)).trans (hA.block b b1)
      have nlo : ∀ b, b < lo → (Value.slice ta ts.length tc).ownBlock ≠ some b := fun b b1 z => by have := (hvb b z).1; omega
      have nhi : ∀ b, w.heap.size ≤ b → (Value.slice ta ts.length tc).ownBlock ≠ some b := fun b b1 z => by have := (hvb b z).2; omega
      have a6 := (b6 ab (by omega) (nlo _ hab)).trans yab
      have x6 := (b6 w.heap.size (by omega) (nhi _ (Nat.le_refl _))).trans ybx
      have d6 := (b6 (w.heap.size + 2) (by omega) (nhi _ (by omega))).trans yd
      have gS := grown_set w6 ⟨ab, 0, none⟩ (.slice (some ⟨gb, 0, none⟩) (ts.length + 1) capb)
      have b7 : ∀ b, b ≠ ab → (w6.setCell ⟨ab, 0, none⟩ (.slice (some ⟨gb, 0, none⟩) (ts.length + 1) capb)).heap[b]? = w6.heap[b]? := fun b hb => Below.heap_setCell _ _ _ b (fun z => hb z)
      have gD := grownBy_putObj' (w6.setCell ⟨ab, 0, none⟩ (.slice (some ⟨gb, 0, none⟩) (ts.length + 1) capb)) (w.heap.size + 2) (.deferred none)
      have P8 : ∀ b, b ≠ w.heap.size + 2 → ((w6.setCell ⟨ab, 0, none⟩ (.slice (some ⟨gb, 0, none⟩) (ts.length + 1) capb)).putObj (w.heap.size + 2) (.deferred none)).heap[b]? = (w6.setCell ⟨ab, 0, none⟩ (.slice (some ⟨gb, 0, none⟩) (ts.length + 1) capb)).heap[b]? := fun b hb => World.putObj_heap_other hb
      have z6 := hgrow.size
      have z7 := gS.size
      have z8 := gD.size
      have hgl := World.ownsRow.lt hown gb rfl
      refine ⟨(blk2 a6).1, p3_frozen a6 0, blk1 x6, (World.cell?_of_block (a := ⟨w.heap.size, 0, none⟩) (b7 w.heap.size (by omega))).trans (blk1 x6), (b7 (w.heap.size + 2) (by omega)).trans d6, .slice (some ⟨gb, 0, none⟩) (ts.length + 1) capb, ⟨hab, hmb, hne, by omega, (P8 _ (by omega)).trans (set_block (i := 0) _ a6), ?_, D, n, ?_, ?_, ?_⟩, ⟨?_, ?_, ?_, by omega, fun k k1 k2 k3 k4 => (P8 k (by omega)).trans ((b7 k k2).trans ((b6 k (by omega) k4).trans (ysame k k1 k3)))⟩, ?_⟩
      · rw [List.length_append, List.map_append]
        refine ⟨hown.1, ?_⟩
        rcases hown.2 with ⟨h2, _⟩ | ⟨g, cap, cur, hv, hg, hh, r⟩
        · cases h2
        · have e : gb = g := by cases hv; rfl
          have hdn : g ≠ w.heap.size + 2 := fun z => by rw [z, d6] at hh; cases hh
          exact .inr ⟨g, cap, cur, hv, hg, (P8 g hdn).trans ((b7 g (fun z => by rw [z] at hg; omega)).trans hh), r⟩
      · exact own_far yD ((P8 mb (by omega)).trans ((b7 mb hne).trans (b6 mb (by omega) (nlo _ hmb))))
      · rw [List.length_append, List.length_singleton, Nat.add_mul]
        omega
      · rw [List.map_append, List.map_cons, List.map_nil, lastF_snoc, List.length_map, hls]
        exact hL
      · exact gD.os.trans (gS.os.trans (hgrow.os.trans (hA.os.trans yo)))
      · exact gD.tape.trans (gS.tape.trans (hgrow.tape.trans (hA.tape.trans yt)))
      · exact gD.output.trans (gS.output.trans (hgrow.output.trans (hA.output.trans yu)))
      · rcases hat with z | z
        · exact .inl z.symm
        · exact .inr ⟨gb, by omega, rfl⟩
    clear q hD hn hL yd ysame ysz yo yt yu yD yrow hD0 hn0 hL0 hbw k0 k1 hvb hAs h HH ybx yab hls
    generalize ts.map Value.string = cs at OW HFN
    generalize hts : ts.length = tn at *
    gi_wp2
    refine wpIn_wide.2 (wp_region_noPanic (wp_region_any hmix (wpAny_of_held (S := fun w' => w'.cell? ⟨w.heap.size, 0, none⟩ = some (.pointer (some ⟨ab, 0, none⟩))) _ _ _ _ ?_)))
    refine wpAnyH_take (i := 0) (v := .pointer (some ⟨ab, 0, none⟩)) rfl (by kernel_rfl) (by kernel_rfl) (by kernel_rfl) (fun _ _ _ h => h) (Or.inl ⟨by rfl, ?_⟩) (by assumption) ?_
    · intro w hSw
      try dsimp only at hSw
      go_simp
    try simp only [Act.put]
    refine wpAnyH_take (i := 1) (v := .pointer (some ⟨ab, 0, none⟩)) rfl (by kernel_rfl) (by kernel_rfl) (by kernel_rfl) (fun _ _ _ h => h) (Or.inl ⟨by rfl, ?_⟩) (by assumption) ?_
    · intro w hSw
      try dsimp only at hSw
      go_simp
    try simp only [Act.put]
    refine wpAnyH_take (i := 2) (v := .pointer (some ⟨ab, 0, none⟩)) rfl (by kernel_rfl) (by kernel_rfl) (by kernel_rfl) (fun _ _ _ h => h) (Or.inl ⟨by rfl, ?_⟩) (by assumption) ?_
    · intro w hSw
      try dsimp only at hSw
      go_simp
    try simp only [Act.put]
    refine wpAnyH_take (i := 3) (v := .pointer (some ⟨ab, 0, none⟩)) rfl (by kernel_rfl) (by kernel_rfl) (by kernel_rfl) (fun _ _ _ h => h) (Or.inl ⟨by rfl, ?_⟩) (by assumption) ?_
    · intro w hSw
      try dsimp only at hSw
      go_simp
    try simp only [Act.put]
    refine wpAnyH_take (i := 5) (v := .string s) rfl (by kernel_rfl) (by kernel_rfl) (by kernel_rfl) (fun _ _ _ h => h) (Or.inl ⟨by rfl, ?_⟩) (by assumption) ?_
    · intro w hSw
      try dsimp only at hSw
      go_simp
    try simp only [Act.put]
    refine wpAnyH_ready (rs := [4, 6]) (by kernel_rfl) (by simp) ?_
    refine AllReadyH.cons rfl (fun K hK => ?_) (AllReadyH.cons rfl (fun K hK => ?_) AllReadyH.nil)
    · go_simp
      refine hK.out _ _ cbx1 (fun hHeld => ?_)
      clear hK K
      refine wpAnyH_ready (rs := [6]) (by kernel_rfl) (by simp) (AllReadyH.cons rfl (fun K hK => ?_) AllReadyH.nil)
      go_simp
      refine hK.out _ _ cbx2 (fun hHeld => ?_)
      clear hK K
      refine wpAnyH_ready (rs := [7]) (by kernel_rfl) (by simp) (AllReadyH.cons rfl (fun K hK => ?_) AllReadyH.nil)
      refine step_append_lies _ (by rfl) _ _ 22 (by rfl) lo 9 i0 (.string ⟨#[]⟩) 1 16 Tryz.underlying22 hi hz0 hz1 hz2 rfl (by decide) (.slice ta tn tc) tn cs (by rfl) OW.out ⟨W4.heap.size, 0, none⟩ 1 1 [.string s] (by rfl) rfl (World.news_of_block (cs := #[.string s]) (block_at _ rfl)) HONE.out (by decide) HMAX.out HBY.out HLO.out _ rfl ?_
      intro gb capb w6 hown hgrow hat hlt3
      obtain ⟨y0, z0, hbx6, hbx7, hfin⟩ := HFN.out w6 gb capb hown hgrow hat
      refine hK.out _ _ hbx6 (fun hHeld => ?_)
      clear hK K hown hgrow hat hlt3
      refine wpAnyH_take (i := 8) (v := .pointer (some ⟨ab, 0, none⟩)) rfl (by kernel_rfl) (by kernel_rfl) (by kernel_rfl) (fun _ _ _ h => h) (Or.inl ⟨by rfl, ?_⟩) (by assumption) ?_
      · intro w hSw
        try dsimp only at hSw
        go_simp
      try simp only [Act.put]
      refine wpAnyH_take (i := 9) (v := .pointer (some ⟨ab, 0, none⟩)) rfl (by kernel_rfl) (by kernel_rfl) (by kernel_rfl) (fun _ _ _ h => h) (Or.inl ⟨by rfl, ?_⟩) (by assumption) ?_
      · intro w hSw
        try dsimp only at hSw
        go_simp
      try simp only [Act.put]
      refine wpAnyH_ready (rs := [10]) (by kernel_rfl) (by simp) (AllReadyH.cons rfl (fun K hK => ?_) AllReadyH.nil)
      go_simp
      refine hK.out _ _ hbx7 (fun hHeld => ?_)
      clear hK K
      refine wpAnyH_done (by kernel_rfl) (NoPanic.normal ?_) _
      refine ⟨by simp, .inl ⟨_, _, rfl, run_takeDeferred hfin.1, ?_⟩⟩
      refine ⟨.tuple #[], ?_, rfl, by rw [hts]; exact hfin.2⟩
      simp [results, Tryz.f33, go_sem]
    · go_simp
      refine hK.out _ _ cbx2 (fun hHeld => ?_)
      clear hK K
      refine wpAnyH_ready (rs := [4]) (by kernel_rfl) (by simp) (AllReadyH.cons rfl (fun K hK => ?_) AllReadyH.nil)
      go_simp
      refine hK.out _ _ cbx2 (fun hHeld => ?_)
      clear hK K
      refine wpAnyH_ready (rs := [7]) (by kernel_rfl) (by simp) (AllReadyH.cons rfl (fun K hK => ?_) AllReadyH.nil)
      refine step_append_lies _ (by rfl) _ _ 22 (by rfl) lo 9 i0 (.string ⟨#[]⟩) 1 16 Tryz.underlying22 hi hz0 hz1 hz2 rfl (by decide) (.slice ta tn tc) tn cs (by rfl) OW.out ⟨W4.heap.size, 0, none⟩ 1 1 [.string s] (by rfl) rfl (World.news_of_block (cs := #[.string s]) (block_at _ rfl)) HONE.out (by decide) HMAX.out HBY.out HLO.out _ rfl ?_
      intro gb capb w6 hown hgrow hat hlt3
      obtain ⟨y0, z0, hbx6, hbx7, hfin⟩ := HFN.out w6 gb capb hown hgrow hat
      refine hK.out _ _ hbx6 (fun hHeld => ?_)
      clear hK K hown hgrow hat hlt3
      refine wpAnyH_take (i := 8) (v := .pointer (some ⟨ab, 0, none⟩)) rfl (by kernel_rfl) (by kernel_rfl) (by kernel_rfl) (fun _ _ _ h => h) (Or.inl ⟨by rfl, ?_⟩) (by assumption) ?_
      · intro w hSw
        try dsimp only at hSw
        go_simp
      try simp only [Act.put]
      refine wpAnyH_take (i := 9) (v := .pointer (some ⟨ab, 0, none⟩)) rfl (by kernel_rfl) (by kernel_rfl) (by kernel_rfl) (fun _ _ _ h => h) (Or.inl ⟨by rfl, ?_⟩) (by assumption) ?_
      · intro w hSw
        try dsimp only at hSw
        go_simp
      try simp only [Act.put]
      refine wpAnyH_ready (rs := [10]) (by kernel_rfl) (by simp) (AllReadyH.cons rfl (fun K hK => ?_) AllReadyH.nil)
      go_simp
      refine hK.out _ _ hbx7 (fun hHeld => ?_)
      clear hK K
      refine wpAnyH_done (by kernel_rfl) (NoPanic.normal ?_) _
      refine ⟨by simp, .inl ⟨_, _, rfl, run_takeDeferred hfin.1, ?_⟩⟩
      refine ⟨.tuple #[], ?_, rfl, by rw [hts]; exact hfin.2⟩
      simp [results, Tryz.f33, go_sem]
end Go.Proofs.YtbocknocmggcpaaGreatDoor
