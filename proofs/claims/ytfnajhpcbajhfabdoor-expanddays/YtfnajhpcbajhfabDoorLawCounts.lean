/- The law ExpandCounts, walked: with a count the days are the first so many of those without; with an end they are those up to it. -/
import Derived.Test.YtfnajhpcbajhfabDoorExpX
import Derived.Deep.DeepCutAuto
namespace Go.Proofs.YtfnajhpcbajhfabDoor
open Go.RowKit Cal

/-- a rule's length, as the law has it -/
def lng (f : ByteArray) (n : Nat) : Int := if 20 < f.size ∨ 20 < n then 1 else 0
theorem lng_01 (f : ByteArray) (n : Nat) : 0 ≤ lng f n ∧ lng f n ≤ 1 := by unfold lng; split <;> omega
theorem lng_0 {f : ByteArray} {n : Nat} (h : lng f n = 0) : n ≤ 20 := by
  unfold lng at h
  split at h
  · omega
  · omega

theorem RB.step {W W' : World} {B : Nat} {f : ByteArray} {e : Int} {sl : Value} {c u : Int} (h : RB W B f e sl c u) (hb : Below W.heap.size W W') : RB W' B f e sl c u := (hb.block _ (Array.getElem?_eq_some_iff.1 h).1).trans h
theorem RB.lt {W : World} {B : Nat} {f : ByteArray} {e : Int} {sl : Value} {c u : Int} (h : RB W B f e sl c u) : B < W.heap.size := (Array.getElem?_eq_some_iff.1 h).1

theorem set_rb1 {W : World} {B : Nat} {f : ByteArray} {e : Int} {sl : Value} {c u : Int} (h : RB W B f e sl c u) (e' : Int) : RB (W.setCell ⟨B, 1, none⟩ (.int .i64 e')) B f e' sl c u := set_block _ h
theorem set_rb3 {W : World} {B : Nat} {f : ByteArray} {e : Int} {sl : Value} {c u : Int} (h : RB W B f e sl c u) (c' : Int) : RB (W.setCell ⟨B, 3, none⟩ (.int .i64 c')) B f e sl c' u := set_block _ h
theorem set_rb4 {W : World} {B : Nat} {f : ByteArray} {e : Int} {sl : Value} {c u : Int} (h : RB W B f e sl c u) (u' : Int) : RB (W.setCell ⟨B, 4, none⟩ (.int .i64 u')) B f e sl c u' := set_block _ h
theorem RB.other {W : World} {B B' i : Nat} {f : ByteArray} {e : Int} {sl : Value} {c u : Int} (h : RB W B f e sl c u) (hne : B ≠ B') (v : Value) : RB (W.setCell ⟨B', i, none⟩ v) B f e sl c u := (Below.heap_setCell _ _ _ _ (fun q => hne q)).trans h
theorem well_with {f : ByteArray} {e c u : Int} {ds : List Int} (h : Well (rd f e ds c u)) (hf : f.toList ≠ onceW) (c' u' : Int) (h1 : 0 ≤ c' ∧ c' ≤ 1000) (h2 : -1 ≤ u' ∧ u' ≤ 73048) (h3 : c' = 0 ∨ u' = -1) : Well (rd f e ds c' u') :=
  ⟨h.fr, h.ds, h.ev, h1, h2, fun q => absurd q hf, h.wk, h3, h.ri⟩
theorem nth_get {xs : List Int} {k : Nat} {x : Int} (h : xs[k]? = some x) : nthB xs k = true ∧ nthD xs k = x := by
  obtain ⟨hk, hx⟩ := List.getElem?_eq_some_iff.1 h
  unfold nthB nthD
  refine ⟨by rw [decide_eq_true_iff]; omega, ?_⟩
  rw [if_pos (by omega), show ((k : Int)).toNat = k by omega, List.getD_eq_getElem?_getD, h]; rfl
theorem nth_none {xs : List Int} {k : Nat} (h : xs[k]? = none) : nthB xs k = false ∧ nthD xs k = 0 := nth_no (.inr (by have := List.getElem?_eq_none_iff.1 h; omega))
/-- the k-th one of all, of the first n, of those up to an end -/
theorem counts_case (cs : List Int) (hr : cs.Pairwise (· < ·)) (n un : Int) (k : Nat) (hk : (k : Int) < n) :
    (nthB cs k = false ∧ nthD cs k = 0 ∧ nthB (cs.take n.toNat) k = false ∧ nthD (cs.take n.toNat) k = 0 ∧ nthB (cs.takeWhile (fun d => decide (d ≤ un))) k = false ∧ nthD (cs.takeWhile (fun d => decide (d ≤ un))) k = 0) ∨
    (∃ x, nthB cs k = true ∧ nthD cs k = x ∧ nthB (cs.take n.toNat) k = true ∧ nthD (cs.take n.toNat) k = x ∧
      ((x ≤ un ∧ nthB (cs.takeWhile (fun d => decide (d ≤ un))) k = true ∧ nthD (cs.takeWhile (fun d => decide (d ≤ un))) k = x) ∨ (un < x ∧ nthB (cs.takeWhile (fun d => decide (d ≤ un))) k = false ∧ nthD (cs.takeWhile (fun d => decide (d ≤ un))) k = 0))) := by
  have ht : (cs.take n.toNat)[k]? = cs[k]? := by rw [List.getElem?_take, if_pos (by omega)]
  have hw := takeWhile_at (u := un) hr k
  cases hc : cs[k]? with
  | none =>
    left
    rw [hc] at ht hw
    have hw' : (cs.takeWhile (fun d => decide (d ≤ un)))[k]? = none := by rw [hw]; split <;> rfl
    obtain ⟨a1, a2⟩ := nth_none hc
    obtain ⟨a3, a4⟩ := nth_none ht
    obtain ⟨a5, a6⟩ := nth_none hw'
    exact ⟨a1, a2, a3, a4, a5, a6⟩
  | some x =>
    right
    rw [hc] at ht hw
    obtain ⟨a1, a2⟩ := nth_get hc
    obtain ⟨a3, a4⟩ := nth_get ht
    refine ⟨x, a1, a2, a3, a4, ?_⟩
    by_cases hx : x ≤ un
    · left
      rw [if_pos ⟨x, rfl, hx⟩] at hw
      obtain ⟨a5, a6⟩ := nth_get hw
      exact ⟨hx, a5, a6⟩
    · right
      rw [if_neg (by rintro ⟨y, hy, hy2⟩; cases hy; omega)] at hw
      obtain ⟨a5, a6⟩ := nth_none hw
      exact ⟨by omega, a5, a6⟩

set_option maxHeartbeats 2000000 in
set_option maxRecDepth 100000 in
theorem counts_any (f : ByteArray) (e : Int) (sl : Value) (c u : Int) (ds : List Int) (s n un : Int) (w : World) (g : Glob w) (hd : Got w sl ds) :
    Calls Tryd.prog 5 #[.int .i64 s, rv f e sl c u, .int .i64 n, .int .i64 un] w fun r w' => r = .returned (.bool true) ∧ Below w.heap.size w w' := by
  have D : Hid (Got w sl ds) := hd
  have G : Hid (Glob w) := g
  obtain ⟨a, cap, rfl, _, _⟩ := hd
  obtain ⟨hl0, hl1⟩ := lng_01 f ds.length
  have EX : Hid (_) := expanded_any _ (g.step (below_alloc w (.cells #[.string f, .int .i64 e, .slice a ds.length cap, .int .i64 c, .int .i64 u] 24)))
  have LR : Hid (∀ w, Calls Tryd.prog 7 #[.agg #[.string f, .int .i64 e, .slice a ds.length cap, .int .i64 c, .int .i64 u]] w fun r w' => r = .returned (.int .i64 (lng f ds.length)) ∧ Below w.heap.size w w') := fun w => longRule_any f e a ds.length cap c u w _ rfl
  have H1 : Hid (lng f ds.length = 0 → ds.length ≤ 20) := lng_0
  generalize lng f ds.length = k at hl0 hl1 LR H1
  have hcases : 0 < k ∨ (k = 0 ∧ n < 1) ∨ (k = 0 ∧ 1 ≤ n ∧ 60 < n) ∨ (k = 0 ∧ 1 ≤ n ∧ n ≤ 60 ∧ un < s) ∨ (k = 0 ∧ 1 ≤ n ∧ n ≤ 60 ∧ s ≤ un ∧ 73048 < un) ∨ (k = 0 ∧ 1 ≤ n ∧ n ≤ 60 ∧ s ≤ un ∧ un ≤ 73048 ∧ s < 0) ∨ (k = 0 ∧ 1 ≤ n ∧ n ≤ 60 ∧ s ≤ un ∧ un ≤ 73048 ∧ 0 ≤ s) := by omega
  unfold rv
  clear g
  rcases hcases with h | ⟨rfl, h1⟩ | ⟨rfl, h1, h2⟩ | ⟨rfl, h1, h2, h3⟩ | ⟨rfl, h1, h2, h3, h4⟩ | ⟨rfl, h1, h2, h3, h4, h5⟩ | ⟨rfl, h1, h2, h3, h4, h5⟩
  case inr.inr.inr.inr.inr.inr =>
    have h20 : ds.length ≤ 20 := H1.out rfl
    clear H1 hl0 hl1
    go_enter Tryd.func5, Tryd.ntmps5
    go_upto_region 4 with (first
      | (go_at_call 6; refine Calls.mono EX.out ?_; rintro r w1 ⟨rfl, hb1⟩; have k0 : RB w1 w.heap.size f e (.slice a ds.length cap) c u := (hb1.block _ (by simp)).trans (block_at _ rfl); obtain ⟨x0, x1, x2, x3, x4⟩ := blk5 k0)
      | (go_at_call 7; refine (LR.out _).mono ?_; rintro r w2 ⟨rfl, hb2⟩))
    have BW2 : Hid (Below w.heap.size w w2) := below_then (below_alloc _ _) (below_then hb1 hb2)
    obtain ⟨y0, y1, y2, y3, y4⟩ := blk5 (k0.step hb2)
    have O1 : Hid (_) := ownRule_any f e _ c u ds w2 (D.out.step BW2.out) h20
    clear x0 x1 x2 x3 x4 k0 hb1 hb2 D EX LR
    go_upto_region 5 with (go_at_call 8; refine Calls.mono O1.out ?_; rintro r w3 ⟨sx, rfl, hdx, hgx, hb3⟩; obtain ⟨sa, sc, rfl, hx1, hx2, hx3⟩ := id hdx; clear hx1 hx2 hx3; dsimp only [rv])
    have hR : RB (w3.alloc (.cells #[.string f, .int .i64 e, .slice sa ds.length sc, .int .i64 c, .int .i64 u] 24)) w3.heap.size f e (.slice sa ds.length sc) c u := block_at _ rfl
    have h34 : Below w3.heap.size w3 (w3.alloc (.cells #[.string f, .int .i64 e, .slice sa ds.length sc, .int .i64 c, .int .i64 u] 24)) := below_alloc _ _
    have L3 : Hid (∀ W, Below w3.heap.size w3 W → Days W (.slice sa ds.length sc) ds ∧ Got W (.slice sa ds.length sc) ds) := fun W h => ⟨hdx.step h, hgx.step h⟩
    have BW4 : Hid (Below w.heap.size w (w3.alloc (.cells #[.string f, .int .i64 e, .slice sa ds.length sc, .int .i64 c, .int .i64 u] 24))) := below_then BW2.out (below_then hb3 (below_alloc _ _))
    have hws : w.heap.size ≤ w3.heap.size := Nat.le_trans BW2.out.size hb3.size
    clear hdx hgx hb3 y0 y1 y2 y3 y4 O1 BW2
    generalize w3.alloc (.cells #[.string f, .int .i64 e, .slice sa ds.length sc, .int .i64 c, .int .i64 u] 24) = w4 at hR h34 BW4
    generalize hbx : w3.heap.size = bx at hR h34 L3 hws
    have H34 : Hid (_) := h34
    have HR : Hid (RB w4 bx f e (.slice sa ds.length sc) c u) := hR
    have D4 := (L3.out w4 h34).1
    obtain ⟨y0, y1, y2, y3, y4⟩ := blk5 hR
    clear h34 hR hbx
    by_cases wx : Well (rd f e ds c u)
    · have CX : Hid (Calls Tryd.prog 19 #[.agg #[.string f, .int .i64 e, .slice sa ds.length sc, .int .i64 c, .int .i64 u]] w4 fun r w' => r = .returned .nilIface ∧ Below w4.heap.size w4 w') := check_ok f e _ c u ds w4 D4 wx
      have WX : Hid (Well (rd f e ds c u)) := wx
      clear wx D4
      cases ho : (f.toList == [111, 110, 99, 101]) with
      | true =>
        go_wp2_with (go_at_call 19; refine Calls.mono CX.out ?_; rintro r w5 ⟨rfl, hb5⟩; obtain ⟨z0, z1, z2, z3, z4⟩ := blk5 (HR.out.step hb5))
        go_ret
        exact ⟨rfl, below_then BW4.out hb5⟩
      | false =>
        have HO : Hid (f.toList ≠ onceW) := by show _ ≠ _; rw [beq_eq_false_iff_ne] at ho; exact ho
        go_upto_region 7 with (go_at_call 19; refine Calls.mono CX.out ?_; rintro r w5 ⟨rfl, hb5⟩; obtain ⟨z0, z1, z2, z3, z4⟩ := blk5 (HR.out.step hb5))
        have b5 : Below w.heap.size w w5 := below_then BW4.out hb5
        have r5 := HR.out.step hb5
        have h35 : Below bx w3 w5 := H34.out.trans (hb5.mono (Nat.le_of_lt HR.out.lt))
        have fz3 := blk5_frozen r5 3
        have fz4 := blk5_frozen r5 4
        have R6 : Hid (RB ((w5.setCell ⟨bx, 3, none⟩ (.int .i64 0)).setCell ⟨bx, 4, none⟩ (.int .i64 (-1))) bx f e (.slice sa ds.length sc) 0 (-1)) := set_rb4 (set_rb3 r5 0) (-1)
        have B6 : Hid (Below w.heap.size w ((w5.setCell ⟨bx, 3, none⟩ (.int .i64 0)).setCell ⟨bx, 4, none⟩ (.int .i64 (-1)))) := (b5.setCell (p := ⟨bx, 3, none⟩) hws _).setCell (p := ⟨bx, 4, none⟩) hws _
        have H36 : Hid (Below bx w3 ((w5.setCell ⟨bx, 3, none⟩ (.int .i64 0)).setCell ⟨bx, 4, none⟩ (.int .i64 (-1)))) := (h35.setCell (p := ⟨bx, 3, none⟩) (Nat.le_refl _) _).setCell (p := ⟨bx, 4, none⟩) (Nat.le_refl _) _
        clear b5 r5 h35 hb5 BW4 H34 HR CX y0 y1 y2 y3 y4
        go_upto_region 9 with (fail)
        generalize (w5.setCell ⟨bx, 3, none⟩ (.int .i64 0)).setCell ⟨bx, 4, none⟩ (.int .i64 (-1)) = w6 at R6 B6 H36
        clear z0 z1 z2 z3 z4 fz3 fz4
        obtain ⟨z0, z1, z2, z3, z4⟩ := blk5 R6.out
        have O2 : Hid (_) := ownRule_any f e _ 0 (-1) ds w6 (L3.out w6 H36.out).2 h20
        go_upto_region 10 with (go_at_call 8; refine Calls.mono O2.out ?_; rintro r w7 ⟨sx, rfl, hdx, _, hb7⟩; obtain ⟨ta, tc, rfl, hx1, hx2, hx3⟩ := id hdx; clear hx1 hx2 hx3; dsimp only [rv])
        have q1 : RB (w7.alloc (.cells #[.string f, .int .i64 e, .slice ta ds.length tc, .int .i64 0, .int .i64 (-1)] 24)) w7.heap.size f e (.slice ta ds.length tc) 0 (-1) := block_at _ rfl
        have L7 : Hid (∀ W, Below w7.heap.size w7 W → Days W (.slice ta ds.length tc) ds) := fun W h => hdx.step h
        have b68 := below_then hb7 (below_alloc w7 (.cells #[.string f, .int .i64 e, .slice ta ds.length tc, .int .i64 0, .int .i64 (-1)] 24))
        have b78 := below_alloc w7 (.cells #[.string f, .int .i64 e, .slice ta ds.length tc, .int .i64 0, .int .i64 (-1)] 24)
        have hxy : bx < w7.heap.size := Nat.lt_of_lt_of_le R6.out.lt hb7.size
        clear hdx hb7 O2 z0 z1 z2 z3 z4
        generalize w7.alloc (.cells #[.string f, .int .i64 e, .slice ta ds.length tc, .int .i64 0, .int .i64 (-1)] 24) = w8 at q1 b68 b78
        generalize hby : w7.heap.size = bY at q1 b78 L7 hxy
        clear hby
        have fz3 := blk5_frozen q1 3
        obtain ⟨z0, z1, z2, z3, z4⟩ := blk5 q1
        have b6s : w.heap.size ≤ w6.heap.size := B6.out.size
        have S9 : Hid (RB (w8.setCell ⟨bY, 3, none⟩ (.int .i64 n)) bY f e (.slice ta ds.length tc) n (-1)) := set_rb3 q1 n
        have R9 : Hid (RB (w8.setCell ⟨bY, 3, none⟩ (.int .i64 n)) bx f e (.slice sa ds.length sc) 0 (-1)) := (R6.out.step b68).other (by omega) _
        have B9 : Hid (Below w.heap.size w (w8.setCell ⟨bY, 3, none⟩ (.int .i64 n))) := (B6.out.trans (b68.mono b6s)).setCell (p := ⟨bY, 3, none⟩) (by show w.heap.size ≤ bY; omega) _
        have H39 : Hid (Below bx w3 (w8.setCell ⟨bY, 3, none⟩ (.int .i64 n))) := (H36.out.trans (b68.mono (Nat.le_of_lt R6.out.lt))).setCell (p := ⟨bY, 3, none⟩) (Nat.le_of_lt hxy) _
        have H79 : Hid (Below bY w7 (w8.setCell ⟨bY, 3, none⟩ (.int .i64 n))) := b78.setCell (p := ⟨bY, 3, none⟩) (Nat.le_refl _) _
        clear q1 b68 b78 R6 B6 H36 b6s
        go_upto_region 11 with (fail)
        generalize w8.setCell ⟨bY, 3, none⟩ (.int .i64 n) = w9 at S9 R9 B9 H39 H79
        clear z0 z1 z2 z3 z4 fz3
        obtain ⟨z0, z1, z2, z3, z4⟩ := blk5 R9.out
        have O3 : Hid (_) := ownRule_any f e _ 0 (-1) ds w9 (L3.out w9 H39.out).2 h20
        go_upto_region 12 with (go_at_call 8; refine Calls.mono O3.out ?_; rintro r wa ⟨sx, rfl, hdx, _, hba⟩; obtain ⟨va, vc, rfl, hx1, hx2, hx3⟩ := id hdx; clear hx1 hx2 hx3; dsimp only [rv])
        have q1 : RB (wa.alloc (.cells #[.string f, .int .i64 e, .slice va ds.length vc, .int .i64 0, .int .i64 (-1)] 24)) wa.heap.size f e (.slice va ds.length vc) 0 (-1) := block_at _ rfl
        have b9b := below_then hba (below_alloc wa (.cells #[.string f, .int .i64 e, .slice va ds.length vc, .int .i64 0, .int .i64 (-1)] 24))
        have bab := below_alloc wa (.cells #[.string f, .int .i64 e, .slice va ds.length vc, .int .i64 0, .int .i64 (-1)] 24)
        have La : Hid (∀ W, Below wa.heap.size wa W → Days W (.slice va ds.length vc) ds) := fun W h => hdx.step h
        have hyz : bY < wa.heap.size := Nat.lt_of_lt_of_le S9.out.lt hba.size
        clear hdx hba O3 z0 z1 z2 z3 z4
        generalize wa.alloc (.cells #[.string f, .int .i64 e, .slice va ds.length vc, .int .i64 0, .int .i64 (-1)] 24) = wb at q1 b9b bab
        generalize hbz : wa.heap.size = bz at q1 bab La hyz
        clear hbz
        have fz4 := blk5_frozen q1 4
        obtain ⟨z0, z1, z2, z3, z4⟩ := blk5 q1
        have b9s : w.heap.size ≤ w9.heap.size := B9.out.size
        have Tc : Hid (RB (wb.setCell ⟨bz, 4, none⟩ (.int .i64 un)) bz f e (.slice va ds.length vc) 0 un) := set_rb4 q1 un
        have Sc : Hid (RB (wb.setCell ⟨bz, 4, none⟩ (.int .i64 un)) bY f e (.slice ta ds.length tc) n (-1)) := (S9.out.step b9b).other (by omega) _
        have Rc : Hid (RB (wb.setCell ⟨bz, 4, none⟩ (.int .i64 un)) bx f e (.slice sa ds.length sc) 0 (-1)) := (R9.out.step b9b).other (by omega) _
        have Bc : Hid (Below w.heap.size w (wb.setCell ⟨bz, 4, none⟩ (.int .i64 un))) := (B9.out.trans (b9b.mono b9s)).setCell (p := ⟨bz, 4, none⟩) (by show w.heap.size ≤ bz; omega) _
        have D1 : Hid (Days (wb.setCell ⟨bz, 4, none⟩ (.int .i64 un)) (.slice sa ds.length sc) ds) := (L3.out _ ((H39.out.trans (b9b.mono (Nat.le_of_lt R9.out.lt))).setCell (p := ⟨bz, 4, none⟩) (by show bx ≤ bz; omega) _)).1
        have D2 : Hid (Days (wb.setCell ⟨bz, 4, none⟩ (.int .i64 un)) (.slice ta ds.length tc) ds) := L7.out _ ((H79.out.trans (b9b.mono (Nat.le_of_lt S9.out.lt))).setCell (p := ⟨bz, 4, none⟩) (by show bY ≤ bz; omega) _)
        have D3 : Hid (Days (wb.setCell ⟨bz, 4, none⟩ (.int .i64 un)) (.slice va ds.length vc) ds) := La.out _ (bab.setCell (p := ⟨bz, 4, none⟩) (Nat.le_refl _) _)
        clear q1 b9b bab R9 S9 B9 H39 H79 b9s L3 L7 La
        go_upto_region 13 with (fail)
        generalize wb.setCell ⟨bz, 4, none⟩ (.int .i64 un) = W at Tc Sc Rc Bc D1 D2 D3
        clear z0 z1 z2 z3 z4 fz4 hxy hyz
        have i1 : IsDays f e ds 0 (-1) s (cds f.toList s e ds) := .inl ⟨well_with WX.out HO.out 0 (-1) (by omega) (by omega) (.inl rfl), h5, by omega, (cut_none _).symm⟩
        have i2 : IsDays f e ds n (-1) s ((cds f.toList s e ds).take n.toNat) := .inl ⟨well_with WX.out HO.out n (-1) (by omega) (by omega) (.inr rfl), h5, by omega, (cut_count (by omega) _).symm⟩
        have i3 : IsDays f e ds 0 un s ((cds f.toList s e ds).takeWhile (fun d => decide (d ≤ un))) := .inl ⟨well_with WX.out HO.out 0 un (by omega) (by omega) (.inl rfl), h5, by omega, (cut_until (by omega) _).symm⟩
        have N1 : Hid (∀ W', Below W.heap.size W W' → ∀ k : Nat, Calls Tryd.prog 12 #[.int .i64 s, .agg #[.string f, .int .i64 e, .slice sa ds.length sc, .int .i64 0, .int .i64 (-1)], .int .i64 k] W' fun r w' => r = .returned (.tuple #[.int .i64 (nthD (cds f.toList s e ds) k), .bool (nthB (cds f.toList s e ds) k)]) ∧ Below W'.heap.size W' w') :=
          fun W' h k => nth_any f e _ 0 (-1) ds s k _ W' (G.out.step (below_then Bc.out h)) (D1.out.step h) i1
        have N2 : Hid (∀ W', Below W.heap.size W W' → ∀ k : Int, Calls Tryd.prog 12 #[.int .i64 s, .agg #[.string f, .int .i64 e, .slice ta ds.length tc, .int .i64 n, .int .i64 (-1)], .int .i64 k] W' fun r w' => r = .returned (.tuple #[.int .i64 (nthD ((cds f.toList s e ds).take n.toNat) k), .bool (nthB ((cds f.toList s e ds).take n.toNat) k)]) ∧ Below W'.heap.size W' w') :=
          fun W' h k => nth_any f e _ n (-1) ds s k _ W' (G.out.step (below_then Bc.out h)) (D2.out.step h) i2
        have N3 : Hid (∀ W', Below W.heap.size W W' → ∀ k : Nat, Calls Tryd.prog 12 #[.int .i64 s, .agg #[.string f, .int .i64 e, .slice va ds.length vc, .int .i64 0, .int .i64 un], .int .i64 k] W' fun r w' => r = .returned (.tuple #[.int .i64 (nthD ((cds f.toList s e ds).takeWhile (fun d => decide (d ≤ un))) k), .bool (nthB ((cds f.toList s e ds).takeWhile (fun d => decide (d ≤ un))) k)]) ∧ Below W'.heap.size W' w') :=
          fun W' h k => nth_any f e _ 0 un ds s k _ W' (G.out.step (below_then Bc.out h)) (D3.out.step h) i3
        have CC : Hid (_) := fun k hk => counts_case (cds f.toList s e ds) (From_rise _ _) n un k hk
        have NE : Hid (nthB ((cds f.toList s e ds).take n.toNat) n = false ∧ nthD ((cds f.toList s e ds).take n.toNat) n = 0) := nth_no (.inr (by rw [List.length_take]; omega))
        clear i1 i2 i3 WX HO ho D1 D2 D3
        generalize cds f.toList s e ds = cs at N1 N2 N3 CC NE
        go_wp2
        go_loopw [13] (fun i wr => ∃ k : Nat, i = .int .i64 k ∧ (k : Int) ≤ n ∧ Hid (Below W.heap.size W wr)) (fun i _ => (n - intOf i).toNat)
        case atStart => exact ⟨0, rfl, by omega, Below.refl _ _⟩
        case round =>
          obtain ⟨k, rfl, hk, hb⟩ := hrel
          by_cases hlt : (k : Int) < n
          · rcases CC.out k hlt with ⟨a1, a2, a3, a4, a5, a6⟩ | ⟨x, a1, a2, a3, a4, ⟨hxu, a5, a6⟩ | ⟨hxu, a5, a6⟩⟩
            · have M1 := N1.out wr hb.out k
              rw [a1, a2] at M1
              have HM1 : Hid (_) := M1
              obtain ⟨z0, z1, z2, z3, z4⟩ := blk5 (Rc.out.step hb.out)
              clear M1
              go_upto_region 17 with (go_at_call 12; refine Calls.mono HM1.out ?_; rintro r wr1 ⟨rfl, hb1⟩)
              have hb1' := below_then hb.out hb1
              have M2 := N2.out wr1 hb1' k
              rw [a3, a4] at M2
              have HM2 : Hid (_) := M2
              clear z0 z1 z2 z3 z4 M2 HM1
              obtain ⟨z0, z1, z2, z3, z4⟩ := blk5 (Sc.out.step hb1')
              go_upto_region 18 with (go_at_call 12; refine Calls.mono HM2.out ?_; rintro r wr2 ⟨rfl, hb2⟩)
              have hb2' := below_then hb1' hb2
              have M3 := N3.out wr2 hb2' k
              rw [a5, a6] at M3
              have HM3 : Hid (_) := M3
              clear z0 z1 z2 z3 z4 M3 HM2
              obtain ⟨z0, z1, z2, z3, z4⟩ := blk5 (Tc.out.step hb2')
              go_upto_region 19 with (go_at_call 12; refine Calls.mono HM3.out ?_; rintro r wr3 ⟨rfl, hb3⟩)
              have HB3 : Hid (Below W.heap.size W wr3) := below_then hb2' hb3
              clear z0 z1 z2 z3 z4 HM3 hb1 hb1' hb2 hb2' hb3 a1 a2 a3 a4 a5 a6
              go_wp2
              go_roundw
              case rel => exact ⟨k + 1, by go_num, by omega, HB3.out⟩
              case measure => simp [intOf]; omega
            · have M1 := N1.out wr hb.out k
              rw [a1, a2] at M1
              have HM1 : Hid (_) := M1
              obtain ⟨z0, z1, z2, z3, z4⟩ := blk5 (Rc.out.step hb.out)
              clear M1
              go_upto_region 17 with (go_at_call 12; refine Calls.mono HM1.out ?_; rintro r wr1 ⟨rfl, hb1⟩)
              have hb1' := below_then hb.out hb1
              have M2 := N2.out wr1 hb1' k
              rw [a3, a4] at M2
              have HM2 : Hid (_) := M2
              clear z0 z1 z2 z3 z4 M2 HM1
              obtain ⟨z0, z1, z2, z3, z4⟩ := blk5 (Sc.out.step hb1')
              go_upto_region 18 with (go_at_call 12; refine Calls.mono HM2.out ?_; rintro r wr2 ⟨rfl, hb2⟩)
              have hb2' := below_then hb1' hb2
              have M3 := N3.out wr2 hb2' k
              rw [a5, a6] at M3
              have HM3 : Hid (_) := M3
              clear z0 z1 z2 z3 z4 M3 HM2
              obtain ⟨z0, z1, z2, z3, z4⟩ := blk5 (Tc.out.step hb2')
              go_upto_region 19 with (go_at_call 12; refine Calls.mono HM3.out ?_; rintro r wr3 ⟨rfl, hb3⟩)
              have HB3 : Hid (Below W.heap.size W wr3) := below_then hb2' hb3
              clear z0 z1 z2 z3 z4 HM3 hb1 hb1' hb2 hb2' hb3 a1 a2 a3 a4 a5 a6
              go_wp2
              go_roundw
              case rel => exact ⟨k + 1, by go_num, by omega, HB3.out⟩
              case measure => simp [intOf]; omega
            · have M1 := N1.out wr hb.out k
              rw [a1, a2] at M1
              have HM1 : Hid (_) := M1
              obtain ⟨z0, z1, z2, z3, z4⟩ := blk5 (Rc.out.step hb.out)
              clear M1
              go_upto_region 17 with (go_at_call 12; refine Calls.mono HM1.out ?_; rintro r wr1 ⟨rfl, hb1⟩)
              have hb1' := below_then hb.out hb1
              have M2 := N2.out wr1 hb1' k
              rw [a3, a4] at M2
              have HM2 : Hid (_) := M2
              clear z0 z1 z2 z3 z4 M2 HM1
              obtain ⟨z0, z1, z2, z3, z4⟩ := blk5 (Sc.out.step hb1')
              go_upto_region 18 with (go_at_call 12; refine Calls.mono HM2.out ?_; rintro r wr2 ⟨rfl, hb2⟩)
              have hb2' := below_then hb1' hb2
              have M3 := N3.out wr2 hb2' k
              rw [a5, a6] at M3
              have HM3 : Hid (_) := M3
              clear z0 z1 z2 z3 z4 M3 HM2
              obtain ⟨z0, z1, z2, z3, z4⟩ := blk5 (Tc.out.step hb2')
              go_upto_region 19 with (go_at_call 12; refine Calls.mono HM3.out ?_; rintro r wr3 ⟨rfl, hb3⟩)
              have HB3 : Hid (Below W.heap.size W wr3) := below_then hb2' hb3
              clear z0 z1 z2 z3 z4 HM3 hb1 hb1' hb2 hb2' hb3 a1 a2 a3 a4 a5 a6
              go_wp2
              go_roundw
              case rel => exact ⟨k + 1, by go_num, by omega, HB3.out⟩
              case measure => simp [intOf]; omega
          · have hkn : (k : Int) = n := by omega
            have M2 := N2.out wr hb.out n
            rw [NE.out.1, NE.out.2] at M2
            have HM2 : Hid (_) := M2
            obtain ⟨z0, z1, z2, z3, z4⟩ := blk5 (Sc.out.step hb.out)
            clear M2 NE CC N1 N2 N3 hkn
            go_wp2_with (go_at_call 12; refine Calls.mono HM2.out ?_; rintro r wr1 ⟨rfl, hb1⟩)
            go_ret
            exact ⟨rfl, below_then Bc.out (below_then hb.out hb1)⟩
    · have CX : Hid (Calls Tryd.prog 19 #[.agg #[.string f, .int .i64 e, .slice sa ds.length sc, .int .i64 c, .int .i64 u]] w4 fun r w' => (∃ p, r = .returned (.iface 103 (.pointer (some p)))) ∧ Below w4.heap.size w4 w') := check_no f e _ c u ds w4 (G.out.step BW4.out) D4 wx
      clear wx D4
      go_wp2_with (go_at_call 19; refine Calls.mono CX.out ?_; rintro r w5 ⟨⟨p, rfl⟩, hb5⟩)
      go_ret
      exact ⟨rfl, below_then BW4.out hb5⟩
  all_goals
    go_enter Tryd.func5, Tryd.ntmps5
    go_wp2_with (first
      | (go_at_call 6; refine Calls.mono EX.out ?_; rintro r w1 ⟨rfl, hb1⟩; have k0 : RB w1 w.heap.size f e (.slice a ds.length cap) c u := (hb1.block _ (by simp)).trans (block_at _ rfl); obtain ⟨x0, x1, x2, x3, x4⟩ := blk5 k0)
      | (go_at_call 7; refine (LR.out _).mono ?_; rintro r w2 ⟨rfl, hb2⟩))
    go_ret
    exact ⟨rfl, below_then (below_alloc _ _) (below_then hb1 hb2)⟩
end Go.Proofs.YtfnajhpcbajhfabDoor
