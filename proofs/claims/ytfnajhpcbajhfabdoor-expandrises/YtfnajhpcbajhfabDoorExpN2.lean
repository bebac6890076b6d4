/- Package expand's Is and Many. -/
import Derived.Test.YtfnajhpcbajhfabDoorExpN
namespace Go.Proofs.YtfnajhpcbajhfabDoor
open Go Go.RowKit Go.Shelf Cal
attribute [local go_sem] Oper.semAt_some

/-- is it one? -/
def isB (xs : List Int) (d : Int) : Bool := xs.contains d
theorem isB_nil (d : Int) : isB [] d = false := rfl
theorem isB_low {x d : Int} {r : List Int} (h : x < d) : isB (x :: r) d = isB r d := by
  unfold isB
  rw [List.contains_cons, beq_eq_false_iff_ne.2 (show d ≠ x by omega), Bool.false_or]
theorem isB_up {x d : Int} {r : List Int} (hr : (x :: r).Pairwise (· < ·)) (h : d ≤ x) : isB (x :: r) d = (x == d) := by
  rw [List.pairwise_cons] at hr
  unfold isB
  rw [List.contains_cons]
  have : r.contains d = false := by
    rw [← Bool.not_eq_true, List.contains_iff_mem]
    intro hm
    have := hr.1 d hm
    omega
  rw [this, Bool.or_false]
  exact Bool.beq_comm
theorem isB_iff {xs : List Int} {d : Int} : isB xs d = true ↔ d ∈ xs := by unfold isB; rw [List.contains_iff_mem]

/-- where the loop of Is begins -/
def IW (w : World) (f : ByteArray) (e : Int) (sl : Value) (c u d : Int) : World :=
  ((w.alloc (.cells #[.string f, .int .i64 e, sl, .int .i64 c, .int .i64 u] 24)).alloc (.cells #[.int .i64 d] 3)).alloc (.cells #[.bool false] 4)
theorem iw_size (w : World) (f : ByteArray) (e : Int) (sl : Value) (c u d : Int) : (IW w f e sl c u d).heap.size = w.heap.size + 3 := by
  unfold IW
  simp
theorem iw_below (w : World) (f : ByteArray) (e : Int) (sl : Value) (c u d : Int) : Below w.heap.size w (IW w f e sl c u d) := by
  unfold IW
  exact below_then (below_alloc _ _) (below_then (below_alloc _ _) (below_alloc _ _))
theorem iw_boxes (w : World) (f : ByteArray) (e : Int) (sl : Value) (c u d : Int) :
    Boxed (IW w f e sl c u d) (w.heap.size + 1) 3 (.int .i64 d) ∧ Boxed (IW w f e sl c u d) (w.heap.size + 2) 4 (.bool false) := by
  unfold IW
  refine ⟨?_, ?_⟩
  · exact block_alloc _ (block_at _ (by simp))
  · exact block_at _ (by simp)

set_option maxHeartbeats 2000000 in
theorem is_any (f : ByteArray) (e : Int) (sl : Value) (c u : Int) (ds : List Int) (s d : Int) (xs : List Int) (w : World) (g : Glob w) (hd : Days w sl ds) (hx : IsDays f e ds c u s xs) :
    Calls Tryd.prog 13 #[.int .i64 s, rv f e sl c u, .int .i64 d] w fun r w' => r = .returned (.bool (isB xs d)) ∧ Below w.heap.size w w' := by
  have HRI : Hid (_) := hx.rise
  have HX : Hid (IsDays f e ds c u s xs) := hx
  have G : Hid (Glob w) := g
  have D : Hid (Days w sl ds) := hd
  obtain ⟨ad, cap, rfl, _, _, _⟩ := id hd
  clear hx g hd
  have hsz := iw_size w f e (.slice ad ds.length cap) c u d
  have hB := iw_below w f e (.slice ad ds.length cap) c u d
  obtain ⟨bn, b1⟩ := iw_boxes w f e (.slice ad ds.length cap) c u d
  have DA : Hid (_) := days_any f e _ ds c u s _ (D.out.step hB)
  have HSZ : Hid (_) := hsz
  have HB0 : Hid (_) := hB
  have BN0 : Hid (_) := bn
  have B10 : Hid (_) := b1
  clear hsz hB bn b1
  unfold IW rv at DA
  unfold rv
  refine (callsIn_wide (n := 40)).1 ?_
  refine callsIn_of_wp_marks Tryd.func13 rfl trivial ?_ rfl
  simp only [Tryd.ntmps13, List.size_toArray, List.length_cons, List.length_nil, Nat.reduceAdd, Nat.reduceSub, Array.replicate_succ, Array.replicate_zero, List.push_toArray, List.append_toArray, List.nil_append, List.cons_append]
  gi_wp2_with (refine ⟨trivial, ?_⟩; gi_at_call 21; refine (callsIn_wide.2 DA.out).mono ?_; rintro r W7 ⟨rfl, hb7, hs7, sl', hmk⟩)
  change Below (IW w f e (.slice ad ds.length cap) c u d).heap.size (IW w f e (.slice ad ds.length cap) c u d) W7 at hb7
  change (IW w f e (.slice ad ds.length cap) c u d).heap.size + 2 ≤ _ at hs7
  change Made f e ds c u s (IW w f e (.slice ad ds.length cap) c u d).heap.size W7 sl' at hmk
  rw [HSZ.out] at hb7 hs7 hmk
  have HR7 : Hid (DaysIn (w.heap.size + 5) W7.heap.size W7 sl' ds) := hmk.row
  have MK : Hid (Made f e ds c u s (w.heap.size + 3) W7 sl') := hmk
  have HB : Hid (Below w.heap.size w W7) := HB0.out.trans (hb7.mono (by omega))
  have BN : Hid (_) := (hb7.block _ (by omega)).trans BN0.out
  have B1 : Hid (_) := (hb7.block _ (by omega)).trans B10.out
  clear hmk hb7 DA HSZ HB0 BN0 B10
  refine range_gives (aa := 30) (bb := 20) (O := fun k => w.heap.size + 3 ≤ k ∧ k < w.heap.size + 5) (Rd := RdC sl' ds) (xs := xs) (by omega) rfl (enters_of Tryd.func33 (by kernel_rfl) rfl) rfl
    (fun W hW => (MK.out.step hW).gives (by omega) HX.out _ ⟨by omega, by omega⟩) (fun k hk => by omega)
    (fun h r W => Hid (r.Pairwise (· < ·) ∧ isB r d = isB xs d) ∧ Hid (Boxed W (w.heap.size + 1) 3 (.int .i64 d)) ∧ Hid (Boxed W (w.heap.size + 2) 4 (.bool false)) ∧ Hid (Below w.heap.size w W) ∧ Hid (DaysIn (w.heap.size + 5) W7.heap.size W sl' ds))
    (fun cd h W => cd = .ret ∧ Hid (Boxed W (w.heap.size + 2) 4 (.bool (isB xs d))) ∧ Hid (Below w.heap.size w W))
    ?i0 ?i ?ix ?r0 ?r
    (fun x => { tmps := #[.int .i64 s, .agg #[.string f, .int .i64 e, .slice ad ds.length cap, .int .i64 c, .int .i64 u], .int .i64 d, undef, .pointer (some ⟨w.heap.size, 0, none⟩), .pointer (some ⟨w.heap.size + 1, 0, none⟩), .pointer (some ⟨w.heap.size + 1 + 1, 0, none⟩), .int .i64 x, .int .i64 s, .agg #[.string f, .int .i64 e, .slice ad ds.length cap, .int .i64 c, .int .i64 u],
      .func (.func 33) #[] #[.pointer (some ⟨w.heap.size + 1 + 1 + 1, 0, none⟩), .pointer (some ⟨w.heap.size + 1 + 1 + 1 + 1, 0, none⟩)], .int .i64 x, undef, undef, undef, undef, undef, undef], defers := [] })
    ?assign ?body ?done ?stop
  case i0 =>
    intro W hS hs
    exact ⟨⟨HRI.out, rfl⟩, hS.box BN.out ⟨fun q => by omega, by omega⟩, hS.box B1.out ⟨fun q => by omega, by omega⟩, HB.out.trans (hS.toBelow (by omega) (fun k hk => ⟨fun q => by omega, by omega⟩)), HR7.out.steps (fun k h1 h2 h3 => hS.block k ⟨fun q => by omega, by omega⟩ h3)⟩
  case i =>
    rintro h r W W' hh ⟨q0, q4, q6, q7, q8⟩ hS
    exact ⟨q0, hS.box q4.out ⟨fun q => by omega, .inl (by omega)⟩, hS.box q6.out ⟨fun q => by omega, .inl (by omega)⟩, q7.out.trans (hS.toBelow q7.out.size (fun k hk => ⟨fun q => by omega, .inl (by omega)⟩)), q8.out.steps (fun k h1 h2 h3 => hS.block k ⟨fun q => by omega, .inl h2⟩ h3)⟩
  case ix =>
    rintro cd h W W' hh ⟨rfl, q2, q3⟩ hS
    exact ⟨rfl, hS.box q2.out ⟨fun q => by omega, .inl (by omega)⟩, q3.out.trans (hS.toBelow q3.out.size (fun k hk => ⟨fun q => by omega, .inl (by omega)⟩))⟩
  case r0 =>
    intro W hS
    have hb := HB.out.trans (hS.toBelow (n := w.heap.size) (by omega) (fun k hk => ⟨fun q => by omega, by omega⟩))
    exact ⟨G.out.step hb, (HR7.out.steps (fun k h1 h2 h3 => hS.block k ⟨fun q => by omega, by omega⟩ h3)).days⟩
  case r =>
    rintro h r W ⟨_, _, _, q7, q8⟩
    exact ⟨G.out.step q7.out, q8.out.days⟩
  case assign =>
    intro l' m x W K hK
    gi_wp2
    exact hK
  case body =>
    rintro l' m h x r W hm hh hhW ⟨q0, q4, q6, q7, q8⟩
    have cN := Boxed.cell q4.out
    have c1 := Boxed.cell q6.out
    have f1 := Boxed.frozen q6.out
    by_cases hxd : d ≤ x
    · have HE : Hid (isB xs d = (x == d)) := q0.out.2.symm.trans (isB_up q0.out.1 hxd)
      clear q0
      gi_wp2
      refine ⟨Steps.set _ _ _ (fun q => ?_), rfl, ?_, q7.out.setCell (p := ⟨w.heap.size + 2, 0, none⟩) (by show _ ≤ w.heap.size + 2; omega) _⟩
      · have q' : (w.heap.size + 3 ≤ w.heap.size + 2 ∧ w.heap.size + 2 < w.heap.size + 5) ∨ (W7.heap.size ≤ w.heap.size + 2 ∧ w.heap.size + 2 < h) := q
        omega
      · rw [HE.out]; exact Boxed.set _ q6.out
    · have HE : Hid (r.Pairwise (· < ·) ∧ isB r d = isB xs d) := by
        obtain ⟨p1, p2⟩ := q0.out
        exact ⟨(List.pairwise_cons.1 p1).2, (isB_low (by omega)).symm.trans p2⟩
      clear q0
      gi_wp2
      refine ⟨Steps.refl _ _, ?_⟩
      first
        | exact ⟨q4.out, q6.out, q7.out, q8.out⟩
        | exact ⟨HE.out, q4.out, q6.out, q7.out, q8.out⟩
  case done =>
    rintro h W hh hhW ⟨q0, q4, q6, q7, q8⟩ hK
    have E1 : Hid (isB xs d = false) := q0.out.2.symm
    have c1 := Boxed.cell q6.out
    have f1 := Boxed.frozen q6.out
    have d2 : (W.setCell ⟨w.heap.size + 2, 0, none⟩ (.bool false)).heap[W7.heap.size]? = some (.deferred (some [])) := (Below.heap_setCell _ _ _ _ (fun e => by have e' : W7.heap.size = w.heap.size + 2 := e; omega)).trans hK
    have k1 : Boxed (W.setCell ⟨w.heap.size + 2, 0, none⟩ (.bool false)) (w.heap.size + 2) 4 (.bool false) := Boxed.set _ q6.out
    have hb3 := q7.out.setCell (p := ⟨w.heap.size + 2, 0, none⟩) (by show _ ≤ w.heap.size + 2; omega) (.bool false)
    have D2 : Hid (_) := d2
    have K1 : Hid (_) := k1
    have HB3 : Hid (_) := hb3
    clear d2 k1 hb3 hK q0
    gi_wp2
    generalize (W.setCell ⟨w.heap.size + 2, 0, none⟩ (.bool false)) = W4 at D2 K1 HB3 ⊢
    refine ⟨by simp, .inl ⟨_, _, rfl, run_takeDeferred D2.out, ?_⟩⟩
    have j1 := Boxed.cell (show Boxed (W4.putObj W7.heap.size (.deferred none)) (w.heap.size + 2) 4 (.bool false) from (World.putObj_heap_other (by omega)).trans K1.out)
    refine ⟨.bool false, ?_, by rw [E1.out], HB3.out.trans ((Steps.put W4 W7.heap.size _ (by omega : ¬ W7.heap.size < w.heap.size)).toBelow HB3.out.size (fun k hk => hk))⟩
    simp [results, Tryd.f13, go_sem, j1]
  case stop =>
    rintro cd h W hh hhW ⟨rfl, q2, q3⟩ hK
    have HK : Hid (_) := hK
    clear hK
    gi_wp2
    refine ⟨by simp, .inl ⟨_, _, rfl, run_takeDeferred HK.out, ?_⟩⟩
    have j1 := Boxed.cell (show Boxed (W.putObj W7.heap.size (.deferred none)) (w.heap.size + 2) 4 (.bool (isB xs d)) from (World.putObj_heap_other (by omega)).trans q2.out)
    refine ⟨.bool (isB xs d), ?_, rfl, q3.out.trans ((Steps.put W W7.heap.size _ (by omega : ¬ W7.heap.size < w.heap.size)).toBelow q3.out.size (fun k hk => hk))⟩
    simp [results, Tryd.f13, go_sem, j1]

/-- where the loop of Many begins -/
def MW (w : World) (f : ByteArray) (e : Int) (sl : Value) (c u : Int) : World :=
  (w.alloc (.cells #[.string f, .int .i64 e, sl, .int .i64 c, .int .i64 u] 24)).alloc (.cells #[.int .i64 0] 3)
theorem mw_size (w : World) (f : ByteArray) (e : Int) (sl : Value) (c u : Int) : (MW w f e sl c u).heap.size = w.heap.size + 2 := by
  unfold MW
  simp
theorem mw_below (w : World) (f : ByteArray) (e : Int) (sl : Value) (c u : Int) : Below w.heap.size w (MW w f e sl c u) := by
  unfold MW
  exact below_then (below_alloc _ _) (below_alloc _ _)
theorem mw_boxes (w : World) (f : ByteArray) (e : Int) (sl : Value) (c u : Int) :
    Boxed (MW w f e sl c u) (w.heap.size + 1) 3 (.int .i64 0) := by
  unfold MW
  exact block_at _ (by simp)

set_option maxHeartbeats 2000000 in
theorem many_any (f : ByteArray) (e : Int) (sl : Value) (c u : Int) (ds : List Int) (s : Int) (xs : List Int) (w : World) (g : Glob w) (hd : Days w sl ds) (hx : IsDays f e ds c u s xs) :
    Calls Tryd.prog 15 #[.int .i64 s, rv f e sl c u] w fun r w' => r = .returned (.int .i64 xs.length) ∧ Below w.heap.size w w' := by
  have hlen := hx.len
  have HX : Hid (IsDays f e ds c u s xs) := hx
  have G : Hid (Glob w) := g
  have D : Hid (Days w sl ds) := hd
  obtain ⟨ad, cap, rfl, _, _, _⟩ := id hd
  clear hx g hd
  have hsz := mw_size w f e (.slice ad ds.length cap) c u
  have hB := mw_below w f e (.slice ad ds.length cap) c u
  have b1 := mw_boxes w f e (.slice ad ds.length cap) c u
  have DA : Hid (_) := days_any f e _ ds c u s _ (D.out.step hB)
  have HSZ : Hid (_) := hsz
  have HB0 : Hid (_) := hB
  have B10 : Hid (_) := b1
  clear hsz hB b1
  unfold MW rv at DA
  unfold rv
  refine (callsIn_wide (n := 40)).1 ?_
  refine callsIn_of_wp_marks Tryd.func15 rfl trivial ?_ rfl
  simp only [Tryd.ntmps15, List.size_toArray, List.length_cons, List.length_nil, Nat.reduceAdd, Nat.reduceSub, Array.replicate_succ, Array.replicate_zero, List.push_toArray, List.append_toArray, List.nil_append, List.cons_append]
  gi_wp2_with (refine ⟨trivial, ?_⟩; gi_at_call 21; refine (callsIn_wide.2 DA.out).mono ?_; rintro r W7 ⟨rfl, hb7, hs7, sl', hmk⟩)
  change Below (MW w f e (.slice ad ds.length cap) c u).heap.size (MW w f e (.slice ad ds.length cap) c u) W7 at hb7
  change (MW w f e (.slice ad ds.length cap) c u).heap.size + 2 ≤ _ at hs7
  change Made f e ds c u s (MW w f e (.slice ad ds.length cap) c u).heap.size W7 sl' at hmk
  rw [HSZ.out] at hb7 hs7 hmk
  have HR7 : Hid (DaysIn (w.heap.size + 4) W7.heap.size W7 sl' ds) := hmk.row
  have MK : Hid (Made f e ds c u s (w.heap.size + 2) W7 sl') := hmk
  have HB : Hid (Below w.heap.size w W7) := HB0.out.trans (hb7.mono (by omega))
  have B1 : Hid (_) := (hb7.block _ (by omega)).trans B10.out
  clear hmk hb7 DA HSZ HB0 B10
  refine range_gives (aa := 30) (bb := 20) (O := fun k => w.heap.size + 2 ≤ k ∧ k < w.heap.size + 4) (Rd := RdC sl' ds) (xs := xs) (by omega) rfl (enters_of Tryd.func33 (by kernel_rfl) rfl) rfl
    (fun W hW => (MK.out.step hW).gives (by omega) HX.out _ ⟨by omega, by omega⟩) (fun k hk => by omega)
    (fun h r W => ∃ k : Nat, Hid (k + r.length = xs.length) ∧ Hid (Boxed W (w.heap.size + 1) 3 (.int .i64 k)) ∧ Hid (Below w.heap.size w W) ∧ Hid (DaysIn (w.heap.size + 4) W7.heap.size W sl' ds))
    (fun cd h W => False)
    ?i0 ?i ?ix ?r0 ?r
    (fun x => { tmps := #[.int .i64 s, .agg #[.string f, .int .i64 e, .slice ad ds.length cap, .int .i64 c, .int .i64 u], undef, .pointer (some ⟨w.heap.size, 0, none⟩), .int .i64 0, .pointer (some ⟨w.heap.size + 1, 0, none⟩), .int .i64 s, .agg #[.string f, .int .i64 e, .slice ad ds.length cap, .int .i64 c, .int .i64 u],
      .func (.func 33) #[] #[.pointer (some ⟨w.heap.size + 1 + 1, 0, none⟩), .pointer (some ⟨w.heap.size + 1 + 1 + 1, 0, none⟩)], .int .i64 x, undef, undef, undef], defers := [] })
    ?assign ?body ?done ?stop
  case i0 =>
    intro W hS hs
    exact ⟨0, by show _ = _; omega, hS.box B1.out ⟨fun q => by omega, by omega⟩, HB.out.trans (hS.toBelow (by omega) (fun k hk => ⟨fun q => by omega, by omega⟩)), HR7.out.steps (fun k h1 h2 h3 => hS.block k ⟨fun q => by omega, by omega⟩ h3)⟩
  case i =>
    rintro h r W W' hh ⟨k, q0, q4, q7, q8⟩ hS
    exact ⟨k, q0, hS.box q4.out ⟨fun q => by omega, .inl (by omega)⟩, q7.out.trans (hS.toBelow q7.out.size (fun k hk => ⟨fun q => by omega, .inl (by omega)⟩)), q8.out.steps (fun k h1 h2 h3 => hS.block k ⟨fun q => by omega, .inl h2⟩ h3)⟩
  case ix =>
    intro cd h W W' hh q
    exact q.elim
  case r0 =>
    intro W hS
    have hb := HB.out.trans (hS.toBelow (n := w.heap.size) (by omega) (fun k hk => ⟨fun q => by omega, by omega⟩))
    exact ⟨G.out.step hb, (HR7.out.steps (fun k h1 h2 h3 => hS.block k ⟨fun q => by omega, by omega⟩ h3)).days⟩
  case r =>
    rintro h r W ⟨k, _, _, q7, q8⟩
    exact ⟨G.out.step q7.out, q8.out.days⟩
  case assign =>
    intro l' m x W K hK
    gi_wp2
    simpa using hK
  case body =>
    rintro l' m h x r W hm hh hhW ⟨k, q0, q4, q7, q8⟩
    have cN := Boxed.cell q4.out
    have f1 := Boxed.frozen q4.out
    have HL : Hid (k + 1 + r.length = xs.length) := by
      have := q0.out
      rw [List.length_cons] at this
      show _ = _
      omega
    have hk : k ≤ 73049 := by have := q0.out; omega
    clear q0
    gi_wp2
    refine ⟨Steps.set _ _ _ (fun q => ?_), k + 1, HL.out, Boxed.set _ q4.out, q7.out.setCell (p := ⟨w.heap.size + 1, 0, none⟩) (by show _ ≤ w.heap.size + 1; omega) _, q8.out.steps (fun k h1 h2 h3 => Below.heap_setCell _ _ _ _ (fun e => by have e' : k = w.heap.size + 1 := e; omega))⟩
    have q' : (w.heap.size + 2 ≤ w.heap.size + 1 ∧ w.heap.size + 1 < w.heap.size + 4) ∨ (W7.heap.size ≤ w.heap.size + 1 ∧ w.heap.size + 1 < h) := q
    omega
  case done =>
    rintro h W hh hhW ⟨k, q0, q4, q7, q8⟩ hK
    have E1 : Hid (k = xs.length) := by
      have := q0.out
      show k = xs.length
      simpa using this
    have c1 := Boxed.cell q4.out
    have HK : Hid (_) := hK
    clear hK q0
    gi_wp2
    refine ⟨by simp, .inl ⟨_, _, rfl, run_takeDeferred HK.out, ?_⟩⟩
    refine ⟨_, results_tmp rfl _ _ _, by rw [← E1.out]; rfl, q7.out.trans ((Steps.put W W7.heap.size _ (by omega : ¬ W7.heap.size < w.heap.size)).toBelow q7.out.size (fun k hk => hk))⟩
  case stop =>
    intro cd h W hh hhW q hK
    exact q.elim
end Go.Proofs.YtfnajhpcbajhfabDoor
