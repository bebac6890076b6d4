/- Package expand's Is and Many. -/
import Derived.Test.YtdhggknmefonkabDoorExpN
namespace Go.Proofs.YtdhggknmefonkabDoor
open Go Go.RowKit Go.Shelf Cal
attribute [local go_sem] Oper.semAt_some

/-- is it one? -/
def isB (xs : List Int) (d : Int) : Bool := xs.contains d
theorem isB_nil (d : Int) : isB [] d = false := rfl
theorem isB_low {x d : Int} {r : List Int} (h : x < d) : isB (x :: r) d = isB r d := by
  unfold isB
  rw [List.contains_cons, beq_eq_false_iff_ne.2 (show d ≠ x by omega), Bool.false_or]
theorem isB_up {x d : Int} {r : List Int} (hr : (x :: r).Pairwise (· < ·)) (h : d ≤ x) : isB (x :: r) d = (x == d) := by
  rw [List.pairwise_cons] at hr
  unfold isB
  rw [List.contains_cons]
  have : r.contains d = false := by
    rw [← Bool.not_eq_true, List.contains_iff_mem]
    intro hm
    have := hr.1 d hm
    omega
  rw [this, Bool.or_false]
  exact Bool.beq_comm
theorem isB_iff {xs : List Int} {d : Int} : isB xs d = true ↔ d ∈ xs := by unfold isB; rw [List.contains_iff_mem]

/-- where the loop of Is begins -/
def IW (w : World) (f : ByteArray) (e : Int) (sl : Value) (c u s d : Int) : World :=
  ((((w.alloc (.cells #[.string f, .int .i64 e, sl, .int .i64 c, .int .i64 u] 24)).alloc (.cells #[.int .i64 d] 3)).alloc (.cells #[.bool false] 4)).alloc (.cells #[.int .i64 s] 3)).alloc (.cells #[.string f, .int .i64 e, sl, .int .i64 c, .int .i64 u] 24)
theorem iw_size (w : World) (f : ByteArray) (e : Int) (sl : Value) (c u s d : Int) : (IW w f e sl c u s d).heap.size = w.heap.size + 5 := by
  unfold IW
  simp
theorem iw_below (w : World) (f : ByteArray) (e : Int) (sl : Value) (c u s d : Int) : Below w.heap.size w (IW w f e sl c u s d) := by
  unfold IW
  exact below_then (below_alloc _ _) (below_then (below_alloc _ _) (below_then (below_alloc _ _) (below_then (below_alloc _ _) (below_alloc _ _))))
theorem iw_boxes (w : World) (f : ByteArray) (e : Int) (sl : Value) (c u s d : Int) :
    Boxed (IW w f e sl c u s d) (w.heap.size + 1) 3 (.int .i64 d) ∧ Boxed (IW w f e sl c u s d) (w.heap.size + 2) 4 (.bool false) ∧
      Boxed (IW w f e sl c u s d) (w.heap.size + 3) 3 (.int .i64 s) ∧ RB (IW w f e sl c u s d) (w.heap.size + 4) f e sl c u := by
  unfold IW
  refine ⟨?_, ?_, ?_, ?_⟩
  · exact block_alloc _ (block_alloc _ (block_alloc _ (block_at _ (by simp))))
  · exact block_alloc _ (block_alloc _ (block_at _ (by simp)))
  · exact block_alloc _ (block_at _ (by simp))
  · exact block_at _ (by simp)

set_option maxHeartbeats 2000000 in
theorem is_any (f : ByteArray) (e : Int) (sl : Value) (c u : Int) (ds : List Int) (s d : Int) (xs : List Int) (w : World) (g : Glob w) (hd : Days w sl ds) (hx : IsDays f e ds c u s xs) :
    Calls Tryd.prog 13 #[.int .i64 s, rv f e sl c u, .int .i64 d] w fun r w' => r = .returned (.bool (isB xs d)) ∧ Below w.heap.size w w' := by
  have HRI : Hid (_) := hx.rise
  have HX : Hid (IsDays f e ds c u s xs) := hx
  have G : Hid (Glob w) := g
  have D : Hid (Days w sl ds) := hd
  obtain ⟨ad, cap, rfl, _, _, _⟩ := id hd
  clear hx g hd
  have DA : Hid (∀ w, _) := fun w => days_any f e ad ds.length cap c u s w
  unfold rv at DA ⊢
  refine (callsIn_wide (n := 40)).1 ?_
  refine callsIn_of_wp_marks Tryd.func13 rfl trivial ?_ rfl
  simp only [Tryd.ntmps13, List.size_toArray, List.length_cons, List.length_nil, Nat.reduceAdd, Nat.reduceSub, Array.replicate_succ, Array.replicate_zero, List.push_toArray, List.append_toArray, List.nil_append, List.cons_append]
  gi_wp2_with (refine ⟨trivial, ?_⟩; gi_at_call 21; refine (callsIn_wide.2 (DA.out _)).mono ?_; rintro r w' ⟨rfl, rfl⟩)
  change Code.wpIn _ _ _ _ _ _ (IW w f e (.slice ad ds.length cap) c u s d)
  have hsz := iw_size w f e (.slice ad ds.length cap) c u s d
  have hB := iw_below w f e (.slice ad ds.length cap) c u s d
  obtain ⟨bn, b1, bst, brl⟩ := iw_boxes w f e (.slice ad ds.length cap) c u s d
  generalize IW w f e (.slice ad ds.length cap) c u s d = W7 at hsz hB bn b1 bst brl
  have BN : Hid (_) := bn
  have B1 : Hid (_) := b1
  have HB : Hid (_) := hB
  have BS : Hid (_) := bst
  have BR : Hid (_) := brl
  clear hB bn b1 bst brl DA
  refine range_gives (aa := 30) (bb := 20) (O := fun k => w.heap.size + 3 ≤ k ∧ k < w.heap.size + 5) (Rd := RdC (.slice ad ds.length cap) ds) (xs := xs) (by omega) rfl (enters_of Tryd.func32 (by kernel_rfl) rfl) rfl
    (fun W hW => days_gives (by omega) HX.out _ _ _ ⟨by omega, by omega⟩ W ((hW.block _ (by omega)).trans BS.out) ((hW.block _ (by omega)).trans BR.out)) (fun k hk => by omega)
    (fun h r W => Hid (r.Pairwise (· < ·) ∧ isB r d = isB xs d) ∧ Hid (Boxed W (w.heap.size + 1) 3 (.int .i64 d)) ∧ Hid (Boxed W (w.heap.size + 2) 4 (.bool false)) ∧ Hid (Below w.heap.size w W))
    (fun cd h W => cd = .ret ∧ Hid (Boxed W (w.heap.size + 2) 4 (.bool (isB xs d))) ∧ Hid (Below w.heap.size w W))
    ?i0 ?i ?ix ?r0 ?r
    (fun x => { tmps := #[.int .i64 s, .agg #[.string f, .int .i64 e, .slice ad ds.length cap, .int .i64 c, .int .i64 u], .int .i64 d, undef, .pointer (some ⟨w.heap.size, 0, none⟩), .pointer (some ⟨w.heap.size + 1, 0, none⟩), .pointer (some ⟨w.heap.size + 1 + 1, 0, none⟩), .int .i64 x, .int .i64 s, .agg #[.string f, .int .i64 e, .slice ad ds.length cap, .int .i64 c, .int .i64 u],
      .func (.func 32) #[] #[.pointer (some ⟨w.heap.size + 1 + 1 + 1, 0, none⟩), .pointer (some ⟨w.heap.size + 1 + 1 + 1 + 1, 0, none⟩)], .int .i64 x, undef, undef, undef, undef, undef, undef], defers := [] })
    ?assign ?body ?done ?stop
  case i0 =>
    intro W hS hs
    exact ⟨⟨HRI.out, rfl⟩, hS.box BN.out ⟨fun q => by omega, by omega⟩, hS.box B1.out ⟨fun q => by omega, by omega⟩, HB.out.trans (hS.toBelow (by omega) (fun k hk => ⟨fun q => by omega, by omega⟩))⟩
  case i =>
    rintro h r W W' hh ⟨q0, q4, q6, q7⟩ hS
    exact ⟨q0, hS.box q4.out ⟨fun q => by omega, .inl (by omega)⟩, hS.box q6.out ⟨fun q => by omega, .inl (by omega)⟩, q7.out.trans (hS.toBelow q7.out.size (fun k hk => ⟨fun q => by omega, .inl (by omega)⟩))⟩
  case ix =>
    rintro cd h W W' hh ⟨rfl, q2, q3⟩ hS
    exact ⟨rfl, hS.box q2.out ⟨fun q => by omega, .inl (by omega)⟩, q3.out.trans (hS.toBelow q3.out.size (fun k hk => ⟨fun q => by omega, .inl (by omega)⟩))⟩
  case r0 =>
    intro W hS
    have hb := HB.out.trans (hS.toBelow (n := w.heap.size) (by omega) (fun k hk => ⟨fun q => by omega, by omega⟩))
    exact ⟨G.out.step hb, D.out.step hb⟩
  case r =>
    rintro h r W ⟨_, _, _, q7⟩
    exact ⟨G.out.step q7.out, D.out.step q7.out⟩
  case assign =>
    intro l' m x W K hK
    gi_wp2
    exact hK
  case body =>
    rintro l' m h x r W hm hh hhW ⟨q0, q4, q6, q7⟩
    have cN := Boxed.cell q4.out
    have c1 := Boxed.cell q6.out
    have f1 := Boxed.frozen q6.out
    by_cases hxd : d ≤ x
    · have HE : Hid (isB xs d = (x == d)) := q0.out.2.symm.trans (isB_up q0.out.1 hxd)
      clear q0
      gi_wp2
      refine ⟨Steps.set _ _ _ (fun q => ?_), rfl, ?_, q7.out.setCell (p := ⟨w.heap.size + 2, 0, none⟩) (by show _ ≤ w.heap.size + 2; omega) _⟩
      · have q' : (w.heap.size + 3 ≤ w.heap.size + 2 ∧ w.heap.size + 2 < w.heap.size + 5) ∨ (W7.heap.size ≤ w.heap.size + 2 ∧ w.heap.size + 2 < h) := q
        omega
      · rw [HE.out]; exact Boxed.set _ q6.out
    · have HE : Hid (r.Pairwise (· < ·) ∧ isB r d = isB xs d) := by
        obtain ⟨p1, p2⟩ := q0.out
        exact ⟨(List.pairwise_cons.1 p1).2, (isB_low (by omega)).symm.trans p2⟩
      clear q0
      gi_wp2
      refine ⟨Steps.refl _ _, ?_⟩
      first
        | exact ⟨q4.out, q6.out, q7.out⟩
        | exact ⟨HE.out, q4.out, q6.out, q7.out⟩
  case done =>
    rintro h W hh hhW ⟨q0, q4, q6, q7⟩ hK
    have E1 : Hid (isB xs d = false) := q0.out.2.symm
    have c1 := Boxed.cell q6.out
    have f1 := Boxed.frozen q6.out
    have d2 : (W.setCell ⟨w.heap.size + 2, 0, none⟩ (.bool false)).heap[W7.heap.size]? = some (.deferred (some [])) := (Below.heap_setCell _ _ _ _ (fun e => by have e' : W7.heap.size = w.heap.size + 2 := e; omega)).trans hK
    have k1 : Boxed (W.setCell ⟨w.heap.size + 2, 0, none⟩ (.bool false)) (w.heap.size + 2) 4 (.bool false) := Boxed.set _ q6.out
    have hb3 := q7.out.setCell (p := ⟨w.heap.size + 2, 0, none⟩) (by show _ ≤ w.heap.size + 2; omega) (.bool false)
    have D2 : Hid (_) := d2
    have K1 : Hid (_) := k1
    have HB3 : Hid (_) := hb3
    clear d2 k1 hb3 hK q0
    gi_wp2
    generalize (W.setCell ⟨w.heap.size + 2, 0, none⟩ (.bool false)) = W4 at D2 K1 HB3 ⊢
    refine ⟨by simp, .inl ⟨_, _, rfl, run_takeDeferred D2.out, ?_⟩⟩
    have j1 := Boxed.cell (show Boxed (W4.putObj W7.heap.size (.deferred none)) (w.heap.size + 2) 4 (.bool false) from (World.putObj_heap_other (by omega)).trans K1.out)
    refine ⟨.bool false, ?_, by rw [E1.out], HB3.out.trans ((Steps.put W4 W7.heap.size _ (by omega : ¬ W7.heap.size < w.heap.size)).toBelow HB3.out.size (fun k hk => hk))⟩
    simp [results, Tryd.f13, go_sem, j1]
  case stop =>
    rintro cd h W hh hhW ⟨rfl, q2, q3⟩ hK
    have HK : Hid (_) := hK
    clear hK
    gi_wp2
    refine ⟨by simp, .inl ⟨_, _, rfl, run_takeDeferred HK.out, ?_⟩⟩
    have j1 := Boxed.cell (show Boxed (W.putObj W7.heap.size (.deferred none)) (w.heap.size + 2) 4 (.bool (isB xs d)) from (World.putObj_heap_other (by omega)).trans q2.out)
    refine ⟨.bool (isB xs d), ?_, rfl, q3.out.trans ((Steps.put W W7.heap.size _ (by omega : ¬ W7.heap.size < w.heap.size)).toBelow q3.out.size (fun k hk => hk))⟩
    simp [results, Tryd.f13, go_sem, j1]

/-- where the loop of Many begins -/
def MW (w : World) (f : ByteArray) (e : Int) (sl : Value) (c u s : Int) : World :=
  (((w.alloc (.cells #[.string f, .int .i64 e, sl, .int .i64 c, .int .i64 u] 24)).alloc (.cells #[.int .i64 0] 3)).alloc (.cells #[.int .i64 s] 3)).alloc (.cells #[.string f, .int .i64 e, sl, .int .i64 c, .int .i64 u] 24)
theorem mw_size (w : World) (f : ByteArray) (e : Int) (sl : Value) (c u s : Int) : (MW w f e sl c u s).heap.size = w.heap.size + 4 := by
  unfold MW
  simp
theorem mw_below (w : World) (f : ByteArray) (e : Int) (sl : Value) (c u s : Int) : Below w.heap.size w (MW w f e sl c u s) := by
  unfold MW
  exact below_then (below_alloc _ _) (below_then (below_alloc _ _) (below_then (below_alloc _ _) (below_alloc _ _)))
theorem mw_boxes (w : World) (f : ByteArray) (e : Int) (sl : Value) (c u s : Int) :
    Boxed (MW w f e sl c u s) (w.heap.size + 1) 3 (.int .i64 0) ∧ Boxed (MW w f e sl c u s) (w.heap.size + 2) 3 (.int .i64 s) ∧ RB (MW w f e sl c u s) (w.heap.size + 3) f e sl c u := by
  unfold MW
  refine ⟨?_, ?_, ?_⟩
  · exact block_alloc _ (block_alloc _ (block_at _ (by simp)))
  · exact block_alloc _ (block_at _ (by simp))
  · exact block_at _ (by simp)

set_option maxHeartbeats 2000000 in
theorem many_any (f : ByteArray) (e : Int) (sl : Value) (c u : Int) (ds : List Int) (s : Int) (xs : List Int) (w : World) (g : Glob w) (hd : Days w sl ds) (hx : IsDays f e ds c u s xs) :
    Calls Tryd.prog 15 #[.int .i64 s, rv f e sl c u] w fun r w' => r = .returned (.int .i64 xs.length) ∧ Below w.heap.size w w' := by
  have hlen := hx.len
  have HX : Hid (IsDays f e ds c u s xs) := hx
  have G : Hid (Glob w) := g
  have D : Hid (Days w sl ds) := hd
  obtain ⟨ad, cap, rfl, _, _, _⟩ := id hd
  clear hx g hd
  have DA : Hid (∀ w, _) := fun w => days_any f e ad ds.length cap c u s w
  unfold rv at DA ⊢
  refine (callsIn_wide (n := 40)).1 ?_
  refine callsIn_of_wp_marks Tryd.func15 rfl trivial ?_ rfl
  simp only [Tryd.ntmps15, List.size_toArray, List.length_cons, List.length_nil, Nat.reduceAdd, Nat.reduceSub, Array.replicate_succ, Array.replicate_zero, List.push_toArray, List.append_toArray, List.nil_append, List.cons_append]
  gi_wp2_with (refine ⟨trivial, ?_⟩; gi_at_call 21; refine (callsIn_wide.2 (DA.out _)).mono ?_; rintro r w' ⟨rfl, rfl⟩)
  change Code.wpIn _ _ _ _ _ _ (MW w f e (.slice ad ds.length cap) c u s)
  have hsz := mw_size w f e (.slice ad ds.length cap) c u s
  have hB := mw_below w f e (.slice ad ds.length cap) c u s
  obtain ⟨b1, bst, brl⟩ := mw_boxes w f e (.slice ad ds.length cap) c u s
  generalize MW w f e (.slice ad ds.length cap) c u s = W7 at hsz hB b1 bst brl
  have B1 : Hid (_) := b1
  have HB : Hid (_) := hB
  have BS : Hid (_) := bst
  have BR : Hid (_) := brl
  clear hB b1 bst brl DA
  refine range_gives (aa := 30) (bb := 20) (O := fun k => w.heap.size + 2 ≤ k ∧ k < w.heap.size + 4) (Rd := RdC (.slice ad ds.length cap) ds) (xs := xs) (by omega) rfl (enters_of Tryd.func32 (by kernel_rfl) rfl) rfl
    (fun W hW => days_gives (by omega) HX.out _ _ _ ⟨by omega, by omega⟩ W ((hW.block _ (by omega)).trans BS.out) ((hW.block _ (by omega)).trans BR.out)) (fun k hk => by omega)
    (fun h r W => ∃ k : Nat, Hid (k + r.length = xs.length) ∧ Hid (Boxed W (w.heap.size + 1) 3 (.int .i64 k)) ∧ Hid (Below w.heap.size w W))
    (fun cd h W => False)
    ?i0 ?i ?ix ?r0 ?r
    (fun x => { tmps := #[.int .i64 s, .agg #[.string f, .int .i64 e, .slice ad ds.length cap, .int .i64 c, .int .i64 u], undef, .pointer (some ⟨w.heap.size, 0, none⟩), .int .i64 0, .pointer (some ⟨w.heap.size + 1, 0, none⟩), .int .i64 s, .agg #[.string f, .int .i64 e, .slice ad ds.length cap, .int .i64 c, .int .i64 u],
      .func (.func 32) #[] #[.pointer (some ⟨w.heap.size + 1 + 1, 0, none⟩), .pointer (some ⟨w.heap.size + 1 + 1 + 1, 0, none⟩)], .int .i64 x, undef, undef, undef], defers := [] })
    ?assign ?body ?done ?stop
  case i0 =>
    intro W hS hs
    exact ⟨0, by show _ = _; omega, hS.box B1.out ⟨fun q => by omega, by omega⟩, HB.out.trans (hS.toBelow (by omega) (fun k hk => ⟨fun q => by omega, by omega⟩))⟩
  case i =>
    rintro h r W W' hh ⟨k, q0, q4, q7⟩ hS
    exact ⟨k, q0, hS.box q4.out ⟨fun q => by omega, .inl (by omega)⟩, q7.out.trans (hS.toBelow q7.out.size (fun k hk => ⟨fun q => by omega, .inl (by omega)⟩))⟩
  case ix =>
    intro cd h W W' hh q
    exact q.elim
  case r0 =>
    intro W hS
    have hb := HB.out.trans (hS.toBelow (n := w.heap.size) (by omega) (fun k hk => ⟨fun q => by omega, by omega⟩))
    exact ⟨G.out.step hb, D.out.step hb⟩
  case r =>
    rintro h r W ⟨k, _, _, q7⟩
    exact ⟨G.out.step q7.out, D.out.step q7.out⟩
  case assign =>
    intro l' m x W K hK
    gi_wp2
    simpa using hK
  case body =>
    rintro l' m h x r W hm hh hhW ⟨k, q0, q4, q7⟩
    have cN := Boxed.cell q4.out
    have f1 := Boxed.frozen q4.out
    have HL : Hid (k + 1 + r.length = xs.length) := by
      have := q0.out
      rw [List.length_cons] at this
      show _ = _
      omega
    have hk : k ≤ 73049 := by have := q0.out; omega
    clear q0
    gi_wp2
    refine ⟨Steps.set _ _ _ (fun q => ?_), k + 1, HL.out, Boxed.set _ q4.out, q7.out.setCell (p := ⟨w.heap.size + 1, 0, none⟩) (by show _ ≤ w.heap.size + 1; omega) _⟩
    have q' : (w.heap.size + 2 ≤ w.heap.size + 1 ∧ w.heap.size + 1 < w.heap.size + 4) ∨ (W7.heap.size ≤ w.heap.size + 1 ∧ w.heap.size + 1 < h) := q
    omega
  case done =>
    rintro h W hh hhW ⟨k, q0, q4, q7⟩ hK
    have E1 : Hid (k = xs.length) := by
      have := q0.out
      show k = xs.length
      simpa using this
    have c1 := Boxed.cell q4.out
    have HK : Hid (_) := hK
    clear hK q0
    gi_wp2
    refine ⟨by simp, .inl ⟨_, _, rfl, run_takeDeferred HK.out, ?_⟩⟩
    refine ⟨_, results_tmp rfl _ _ _, by rw [← E1.out]; rfl, q7.out.trans ((Steps.put W W7.heap.size _ (by omega : ¬ W7.heap.size < w.heap.size)).toBelow q7.out.size (fun k hk => hk))⟩
  case stop =>
    intro cd h W hh hhW q hK
    exact q.elim
end Go.Proofs.YtdhggknmefonkabDoor
