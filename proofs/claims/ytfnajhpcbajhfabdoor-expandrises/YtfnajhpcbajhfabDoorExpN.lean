/- Package expand's Nth. -/
import Derived.Test.YtfnajhpcbajhfabDoorExpD2
namespace Go.Proofs.YtfnajhpcbajhfabDoor
open Go Go.RowKit Go.Shelf Cal
attribute [local go_sem] Oper.semAt_some

/-- the n-th one -/
def nthB (xs : List Int) (n : Int) : Bool := decide (0 ≤ n ∧ n < xs.length)
def nthD (xs : List Int) (n : Int) : Int := if 0 ≤ n then xs.getD n.toNat 0 else 0
theorem nth_no {xs : List Int} {n : Int} (h : n < 0 ∨ (xs.length : Int) ≤ n) : nthB xs n = false ∧ nthD xs n = 0 := by
  unfold nthB nthD
  refine ⟨by rw [decide_eq_false_iff_not]; omega, ?_⟩
  split
  · rw [List.getD_eq_getElem?_getD, List.getElem?_eq_none (by omega)]; rfl
  · rfl
theorem nth_yes {xs r : List Int} {x : Int} {k : Nat} (h : x :: r = xs.drop k) : nthB xs k = true ∧ nthD xs k = x ∧ r = xs.drop (k + 1) ∧ k + 1 ≤ xs.length := by
  have hl := congrArg List.length h
  rw [List.length_cons, List.length_drop] at hl
  have hk : k < xs.length := by omega
  rw [List.drop_eq_getElem_cons hk] at h
  injection h with h1 h2
  unfold nthB nthD
  refine ⟨by rw [decide_eq_true_iff]; omega, ?_, h2, by omega⟩
  rw [if_pos (by omega), show ((k : Int)).toNat = k by omega, List.getD_eq_getElem?_getD, List.getElem?_eq_getElem hk]
  exact h1.symm

/-- where the loop of Nth begins -/
def NW (w : World) (f : ByteArray) (e : Int) (sl : Value) (c u n : Int) : World :=
  ((((w.alloc (.cells #[.string f, .int .i64 e, sl, .int .i64 c, .int .i64 u] 24)).alloc (.cells #[.int .i64 n] 3)).alloc (.cells #[.int .i64 0] 3)).alloc (.cells #[.bool false] 4)).alloc (.cells #[.int .i64 0] 3)

theorem nw_size (w : World) (f : ByteArray) (e : Int) (sl : Value) (c u n : Int) : (NW w f e sl c u n).heap.size = w.heap.size + 5 := by
  unfold NW
  simp
theorem nw_below (w : World) (f : ByteArray) (e : Int) (sl : Value) (c u n : Int) : Below w.heap.size w (NW w f e sl c u n) := by
  unfold NW
  exact below_then (below_alloc _ _) (below_then (below_alloc _ _) (below_then (below_alloc _ _) (below_then (below_alloc _ _) (below_alloc _ _))))
theorem nw_boxes (w : World) (f : ByteArray) (e : Int) (sl : Value) (c u n : Int) :
    Boxed (NW w f e sl c u n) (w.heap.size + 1) 3 (.int .i64 n) ∧ Boxed (NW w f e sl c u n) (w.heap.size + 2) 3 (.int .i64 0) ∧ Boxed (NW w f e sl c u n) (w.heap.size + 3) 4 (.bool false) ∧ Boxed (NW w f e sl c u n) (w.heap.size + 4) 3 (.int .i64 0) := by
  unfold NW
  refine ⟨?_, ?_, ?_, ?_⟩
  · exact block_alloc _ (block_alloc _ (block_alloc _ (block_at _ (by simp))))
  · exact block_alloc _ (block_alloc _ (block_at _ (by simp)))
  · exact block_alloc _ (block_at _ (by simp))
  · exact block_at _ (by simp)

set_option maxHeartbeats 2000000 in
theorem nth_any (f : ByteArray) (e : Int) (sl : Value) (c u : Int) (ds : List Int) (s n : Int) (xs : List Int) (w : World) (g : Glob w) (hd : Days w sl ds) (hx : IsDays f e ds c u s xs) :
    Calls Tryd.prog 12 #[.int .i64 s, rv f e sl c u, .int .i64 n] w fun r w' => r = .returned (.tuple #[.int .i64 (nthD xs n), .bool (nthB xs n)]) ∧ Below w.heap.size w w' := by
  have hlen := hx.len
  have HX : Hid (IsDays f e ds c u s xs) := hx
  have G : Hid (Glob w) := g
  have D : Hid (Days w sl ds) := hd
  obtain ⟨ad, cap, rfl, _, _, _⟩ := id hd
  clear hx g hd
  have hsz := nw_size w f e (.slice ad ds.length cap) c u n
  have hB := nw_below w f e (.slice ad ds.length cap) c u n
  obtain ⟨bn, b0, b1, bat⟩ := nw_boxes w f e (.slice ad ds.length cap) c u n
  have DA : Hid (_) := days_any f e _ ds c u s _ (D.out.step hB)
  have HSZ : Hid (_) := hsz
  have HB0 : Hid (_) := hB
  have BN0 : Hid (_) := bn
  have B00 : Hid (_) := b0
  have B10 : Hid (_) := b1
  have BA0 : Hid (_) := bat
  clear hsz hB bn b0 b1 bat
  unfold NW rv at DA
  unfold rv
  refine (callsIn_wide (n := 40)).1 ?_
  refine callsIn_of_wp_marks Tryd.func12 rfl trivial ?_ rfl
  simp only [Tryd.ntmps12, List.size_toArray, List.length_cons, List.length_nil, Nat.reduceAdd, Nat.reduceSub, Array.replicate_succ, Array.replicate_zero, List.push_toArray, List.append_toArray, List.nil_append, List.cons_append]
  gi_wp2_with (refine ⟨trivial, ?_⟩; gi_at_call 21; refine (callsIn_wide.2 DA.out).mono ?_; rintro r W7 ⟨rfl, hb7, hs7, sl', hmk⟩)
  change Below (NW w f e (.slice ad ds.length cap) c u n).heap.size (NW w f e (.slice ad ds.length cap) c u n) W7 at hb7
  change (NW w f e (.slice ad ds.length cap) c u n).heap.size + 2 ≤ _ at hs7
  change Made f e ds c u s (NW w f e (.slice ad ds.length cap) c u n).heap.size W7 sl' at hmk
  rw [HSZ.out] at hb7 hs7 hmk
  have HR7 : Hid (DaysIn (w.heap.size + 7) W7.heap.size W7 sl' ds) := hmk.row
  have MK : Hid (Made f e ds c u s (w.heap.size + 5) W7 sl') := hmk
  have HB : Hid (Below w.heap.size w W7) := HB0.out.trans (hb7.mono (by omega))
  have BN : Hid (_) := (hb7.block _ (by omega)).trans BN0.out
  have B0 : Hid (_) := (hb7.block _ (by omega)).trans B00.out
  have B1 : Hid (_) := (hb7.block _ (by omega)).trans B10.out
  have BA : Hid (_) := (hb7.block _ (by omega)).trans BA0.out
  clear hmk hb7 DA HSZ HB0 BN0 B00 B10 BA0
  refine range_gives (aa := 30) (bb := 20) (O := fun k => w.heap.size + 5 ≤ k ∧ k < w.heap.size + 7) (Rd := RdC sl' ds) (xs := xs) (by omega) rfl (enters_of Tryd.func33 (by kernel_rfl) rfl) rfl
    (fun W hW => (MK.out.step hW).gives (by omega) HX.out _ ⟨by omega, by omega⟩) (fun k hk => by omega)
    (fun h r W => ∃ k : Nat, Hid (n < 0 ∨ (k : Int) ≤ n) ∧ Hid (r = xs.drop k) ∧ k ≤ 73049 ∧ Hid (Boxed W (w.heap.size + 4) 3 (.int .i64 k)) ∧ Hid (Boxed W (w.heap.size + 1) 3 (.int .i64 n)) ∧ Hid (Boxed W (w.heap.size + 2) 3 (.int .i64 0)) ∧ Hid (Boxed W (w.heap.size + 3) 4 (.bool false)) ∧ Hid (Below w.heap.size w W) ∧ Hid (DaysIn (w.heap.size + 7) W7.heap.size W sl' ds))
    (fun cd h W => cd = .ret ∧ Hid (nthB xs n = true) ∧ Hid (Boxed W (w.heap.size + 2) 3 (.int .i64 (nthD xs n))) ∧ Hid (Boxed W (w.heap.size + 3) 4 (.bool true)) ∧ Hid (Below w.heap.size w W))
    ?i0 ?i ?ix ?r0 ?r
    (fun x => { tmps := #[.int .i64 s, .agg #[.string f, .int .i64 e, .slice ad ds.length cap, .int .i64 c, .int .i64 u], .int .i64 n, undef, .pointer (some ⟨w.heap.size, 0, none⟩), .pointer (some ⟨w.heap.size + 1, 0, none⟩), .pointer (some ⟨w.heap.size + 1 + 1, 0, none⟩), .pointer (some ⟨w.heap.size + 1 + 1 + 1, 0, none⟩), .pointer (some ⟨w.heap.size + 1 + 1 + 1 + 1, 0, none⟩), .int .i64 x, .int .i64 s, .agg #[.string f, .int .i64 e, .slice ad ds.length cap, .int .i64 c, .int .i64 u],
      .func (.func 33) #[] #[.pointer (some ⟨w.heap.size + 1 + 1 + 1 + 1 + 1, 0, none⟩), .pointer (some ⟨w.heap.size + 1 + 1 + 1 + 1 + 1 + 1, 0, none⟩)], .int .i64 x, undef, undef, undef, undef, undef, undef], defers := [] })
    ?assign ?body ?done ?stop
  case i0 =>
    intro W hS hs
    exact ⟨0, by show _ ∨ _; omega, rfl, by omega, hS.box BA.out ⟨fun q => by omega, by omega⟩, hS.box BN.out ⟨fun q => by omega, by omega⟩, hS.box B0.out ⟨fun q => by omega, by omega⟩, hS.box B1.out ⟨fun q => by omega, by omega⟩, HB.out.trans (hS.toBelow (by omega) (fun k hk => ⟨fun q => by omega, by omega⟩)), HR7.out.steps (fun k h1 h2 h3 => hS.block k ⟨fun q => by omega, by omega⟩ h3)⟩
  case i =>
    rintro h r W W' hh ⟨k, q0, q1, q2, q3, q4, q5, q6, q7, q8⟩ hS
    exact ⟨k, q0, q1, q2, hS.box q3.out ⟨fun q => by omega, .inl (by omega)⟩, hS.box q4.out ⟨fun q => by omega, .inl (by omega)⟩, hS.box q5.out ⟨fun q => by omega, .inl (by omega)⟩, hS.box q6.out ⟨fun q => by omega, .inl (by omega)⟩, q7.out.trans (hS.toBelow q7.out.size (fun k hk => ⟨fun q => by omega, .inl (by omega)⟩)), q8.out.steps (fun k h1 h2 h3 => hS.block k ⟨fun q => by omega, .inl h2⟩ h3)⟩
  case ix =>
    rintro cd h W W' hh ⟨rfl, q0, q1, q2, q3⟩ hS
    exact ⟨rfl, q0, hS.box q1.out ⟨fun q => by omega, .inl (by omega)⟩, hS.box q2.out ⟨fun q => by omega, .inl (by omega)⟩, q3.out.trans (hS.toBelow q3.out.size (fun k hk => ⟨fun q => by omega, .inl (by omega)⟩))⟩
  case r0 =>
    intro W hS
    have hb := HB.out.trans (hS.toBelow (n := w.heap.size) (by omega) (fun k hk => ⟨fun q => by omega, by omega⟩))
    exact ⟨G.out.step hb, (HR7.out.steps (fun k h1 h2 h3 => hS.block k ⟨fun q => by omega, by omega⟩ h3)).days⟩
  case r =>
    rintro h r W ⟨k, _, _, _, _, _, _, _, q7, q8⟩
    exact ⟨G.out.step q7.out, q8.out.days⟩
  case assign =>
    intro l' m x W K hK
    gi_wp2
    exact hK
  case body =>
    rintro l' m h x r W hm hh hhW ⟨k, q0, q1, q2, q3, q4, q5, q6, q7, q8⟩
    obtain ⟨y1, y2, y3, y4⟩ := nth_yes q1.out
    have cA := Boxed.cell q3.out
    have fA := Boxed.frozen q3.out
    have cN := Boxed.cell q4.out
    have c0 := Boxed.cell q5.out
    have f0 := Boxed.frozen q5.out
    have c1 := Boxed.cell q6.out
    have f1 := Boxed.frozen q6.out
    have Y1 : Hid (_) := y1
    have Y2 : Hid (_) := y2
    have Y3 : Hid (_) := y3
    have hk3 : k + 1 ≤ 73049 := by omega
    clear y1 y2 y3 q1
    by_cases hkn : (k : Int) = n
    · have hb : ((k : Int) == n) = true := by rw [beq_iff_eq]; exact hkn
      have HK : Hid (_) := hkn
      clear hkn
      have z1 := Boxed.frozen (Boxed.other q6.out (show w.heap.size + 3 ≠ w.heap.size + 2 by omega) (.int .i64 x))
      have z2 := Boxed.cell (Boxed.other q6.out (show w.heap.size + 3 ≠ w.heap.size + 2 by omega) (.int .i64 x))
      gi_wp2
      have hk : nthD xs n = x := by rw [← HK.out]; exact Y2.out
      refine ⟨(Steps.set _ _ _ (fun q => ?_)).trans (Steps.set _ _ _ (fun q => ?_)), rfl, ?_, ?_, ?_, ?_⟩
      · have q' : (w.heap.size + 5 ≤ w.heap.size + 2 ∧ w.heap.size + 2 < w.heap.size + 7) ∨ (W7.heap.size ≤ w.heap.size + 2 ∧ w.heap.size + 2 < h) := q
        omega
      · have q' : (w.heap.size + 5 ≤ w.heap.size + 3 ∧ w.heap.size + 3 < w.heap.size + 7) ∨ (W7.heap.size ≤ w.heap.size + 3 ∧ w.heap.size + 3 < h) := q
        omega
      · show nthB xs n = true
        rw [← HK.out]; exact Y1.out
      · rw [hk]; exact Boxed.other (Boxed.set _ q5.out) (by omega) _
      · exact Boxed.set _ (Boxed.other q6.out (by omega) _)
      · exact (q7.out.setCell (p := ⟨w.heap.size + 2, 0, none⟩) (by show _ ≤ w.heap.size + 2; omega) _).setCell (p := ⟨w.heap.size + 3, 0, none⟩) (by show _ ≤ w.heap.size + 3; omega) _
    · have hb : ((k : Int) == n) = false := by rw [beq_eq_false_iff_ne]; exact hkn
      have HK : Hid (n < 0 ∨ ((k + 1 : Nat) : Int) ≤ n) := by
        show _ ∨ _
        have := q0.out
        omega
      clear hkn
      gi_wp2
      refine ⟨Steps.set _ _ _ (fun q => ?_), k + 1, HK.out, Y3.out, hk3, Boxed.set _ q3.out, Boxed.other q4.out (by omega) _, Boxed.other q5.out (by omega) _, Boxed.other q6.out (by omega) _, q7.out.setCell (p := ⟨w.heap.size + 4, 0, none⟩) (by show _ ≤ w.heap.size + 4; omega) _, q8.out.steps (fun k h1 h2 h3 => Below.heap_setCell _ _ _ _ (fun e => by have e' : k = w.heap.size + 4 := e; omega))⟩
      have q' : (w.heap.size + 5 ≤ w.heap.size + 4 ∧ w.heap.size + 4 < w.heap.size + 7) ∨ (W7.heap.size ≤ w.heap.size + 4 ∧ w.heap.size + 4 < h) := q
      omega
  case done =>
    rintro h W hh hhW ⟨k, q0, q1, q2, q3, q4, q5, q6, q7, q8⟩ hK
    have hl := congrArg List.length q1.out
    rw [List.length_nil, List.length_drop] at hl
    obtain ⟨e1, e2⟩ := nth_no (xs := xs) (n := n) (by have := q0.out; omega)
    have E1 : Hid (_) := e1
    have E2 : Hid (_) := e2
    have c0 := Boxed.cell q5.out
    have f0 := Boxed.frozen q5.out
    have z1 := Boxed.frozen (Boxed.other q6.out (show w.heap.size + 3 ≠ w.heap.size + 2 by omega) (.int .i64 0))
    have z2 := Boxed.cell (Boxed.other q6.out (show w.heap.size + 3 ≠ w.heap.size + 2 by omega) (.int .i64 0))
    have d2 : ((W.setCell ⟨w.heap.size + 2, 0, none⟩ (.int .i64 0)).setCell ⟨w.heap.size + 3, 0, none⟩ (.bool false)).heap[W7.heap.size]? = some (.deferred (some [])) := (Below.heap_setCell _ _ _ _ (fun e => by have e' : W7.heap.size = w.heap.size + 3 := e; omega)).trans ((Below.heap_setCell _ _ _ _ (fun e => by have e' : W7.heap.size = w.heap.size + 2 := e; omega)).trans hK)
    have k0 : Boxed ((W.setCell ⟨w.heap.size + 2, 0, none⟩ (.int .i64 0)).setCell ⟨w.heap.size + 3, 0, none⟩ (.bool false)) (w.heap.size + 2) 3 (.int .i64 0) := Boxed.other (Boxed.set _ q5.out) (by omega) _
    have k1 : Boxed ((W.setCell ⟨w.heap.size + 2, 0, none⟩ (.int .i64 0)).setCell ⟨w.heap.size + 3, 0, none⟩ (.bool false)) (w.heap.size + 3) 4 (.bool false) := Boxed.set _ (Boxed.other q6.out (by omega) _)
    have hb3 := (q7.out.setCell (p := ⟨w.heap.size + 2, 0, none⟩) (by show _ ≤ w.heap.size + 2; omega) (.int .i64 0)).setCell (p := ⟨w.heap.size + 3, 0, none⟩) (by show _ ≤ w.heap.size + 3; omega) (.bool false)
    have D2 : Hid (_) := d2
    have K0 : Hid (_) := k0
    have K1 : Hid (_) := k1
    have HB3 : Hid (_) := hb3
    clear e1 e2 hl d2 k0 k1 hb3 hK
    gi_wp2
    generalize ((W.setCell ⟨w.heap.size + 2, 0, none⟩ (.int .i64 0)).setCell ⟨w.heap.size + 3, 0, none⟩ (.bool false)) = W4 at D2 K0 K1 HB3 ⊢
    refine ⟨by simp, .inl ⟨_, _, rfl, run_takeDeferred D2.out, ?_⟩⟩
    have j0 := Boxed.cell (show Boxed (W4.putObj W7.heap.size (.deferred none)) (w.heap.size + 2) 3 (.int .i64 0) from (World.putObj_heap_other (by omega)).trans K0.out)
    have j1 := Boxed.cell (show Boxed (W4.putObj W7.heap.size (.deferred none)) (w.heap.size + 3) 4 (.bool false) from (World.putObj_heap_other (by omega)).trans K1.out)
    refine ⟨.tuple #[.int .i64 0, .bool false], ?_, by rw [E1.out, E2.out], HB3.out.trans ((Steps.put W4 W7.heap.size _ (by omega : ¬ W7.heap.size < w.heap.size)).toBelow HB3.out.size (fun k hk => hk))⟩
    simp [results, Tryd.f12, go_sem, j0, j1]
  case stop =>
    rintro cd h W hh hhW ⟨rfl, q0, q1, q2, q3⟩ hK
    have HK : Hid (_) := hK
    clear hK
    gi_wp2
    refine ⟨by simp, .inl ⟨_, _, rfl, run_takeDeferred HK.out, ?_⟩⟩
    have j0 := Boxed.cell (show Boxed (W.putObj W7.heap.size (.deferred none)) (w.heap.size + 2) 3 (.int .i64 (nthD xs n)) from (World.putObj_heap_other (by omega)).trans q1.out)
    have j1 := Boxed.cell (show Boxed (W.putObj W7.heap.size (.deferred none)) (w.heap.size + 3) 4 (.bool true) from (World.putObj_heap_other (by omega)).trans q2.out)
    refine ⟨.tuple #[.int .i64 (nthD xs n), .bool true], ?_, by rw [q0.out], q3.out.trans ((Steps.put W W7.heap.size _ (by omega : ¬ W7.heap.size < w.heap.size)).toBelow q3.out.size (fun k hk => hk))⟩
    simp [results, Tryd.f12, go_sem, j0, j1]
end Go.Proofs.YtfnajhpcbajhfabDoor
