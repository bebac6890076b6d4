/- Contract of rule.Check: no error just where the rule is well. -/
import Derived.Test.YtfnajhpcbajhfabDoorExpV
namespace Go.Proofs.YtfnajhpcbajhfabDoor
open Go.RowKit Cal

/-- a rule's value, read -/
def rd (f : ByteArray) (e : Int) (ds : List Int) (c u : Int) : RV := ⟨f.toList, e, ds, c, u⟩
def Rise (ds : List Int) : Prop := ∀ (i : Nat) (h : i + 1 < ds.length), ds[i] < ds[i + 1]

theorem isF_iff (f : ByteArray) : isF f = true ↔ (f.toList = onceW ∨ f.toList = dailyW ∨ f.toList = weeklyW ∨ f.toList = monthlyW ∨ f.toList = yearlyW) := by
  unfold isF onceW dailyW weeklyW monthlyW yearlyW
  simp only [Bool.or_eq_true, beq_iff_eq, or_assoc]
theorem bN_iff (e c u : Int) : bN e c u = true ↔ (1 ≤ e ∧ e ≤ 100 ∧ 0 ≤ c ∧ c ≤ 1000 ∧ -1 ≤ u ∧ u ≤ 73048) := by unfold bN; simp
theorem well_of {f : ByteArray} {e c u : Int} {ds : List Int} (h1 : isF f = true) (h2 : bN e c u = true) (h3 : bD ds) (h4 : shp (f.toList == [111, 110, 99, 101]) (f.toList == [119, 101, 101, 107, 108, 121]) e c u ds.length) (h5 : Rise ds) : Well (rd f e ds c u) := by
  rw [isF_iff] at h1
  rw [bN_iff] at h2
  obtain ⟨s1, s2, s3⟩ := h4
  refine ⟨h1, h3, ⟨h2.1, h2.2.1⟩, ⟨h2.2.2.1, h2.2.2.2.1⟩, ⟨h2.2.2.2.2.1, h2.2.2.2.2.2⟩, fun h => s1 ?_, fun h => ?_, s3, h5⟩
  · rw [beq_iff_eq]; exact h
  · have := s2 (by rw [beq_eq_false_iff_ne]; exact h)
    exact List.length_eq_zero_iff.1 this
theorem of_well {f : ByteArray} {e c u : Int} {ds : List Int} (h : Well (rd f e ds c u)) : isF f = true ∧ bN e c u = true ∧ bD ds ∧ shp (f.toList == [111, 110, 99, 101]) (f.toList == [119, 101, 101, 107, 108, 121]) e c u ds.length ∧ Rise ds := by
  obtain ⟨w1, w2, w3, w4, w5, w6, w7, w8, w9⟩ := h
  refine ⟨(isF_iff f).2 w1, (bN_iff e c u).2 ⟨w3.1, w3.2, w4.1, w4.2, w5.1, w5.2⟩, w2, ⟨fun h => w6 ?_, fun h => ?_, w8⟩, w9⟩
  · rw [beq_iff_eq] at h; exact h
  · rw [beq_eq_false_iff_ne] at h
    have : ds = [] := w7 h
    rw [this]; rfl


theorem check_ok (f : ByteArray) (e : Int) (sl : Value) (c u : Int) (ds : List Int) (w : World) (hd : Days w sl ds) (hw : Well (rd f e ds c u)) :
    Calls Tryd.prog 19 #[rv f e sl c u] w fun r w' => r = .returned .nilIface ∧ Below w.heap.size w w' := by
  obtain ⟨h1, h2, h3, h4, h5⟩ := of_well hw
  have hd' := hd
  obtain ⟨a, cap, rfl, h20, hcap, hc⟩ := hd'
  have c1 := fun w => isFreq_any f w
  rw [h1] at c1
  have C1 : Hid (_) := c1
  have C2 : Hid (bN e c u = true ∧ bD ds) := ⟨h2, h3⟩
  have C3 : Hid (shp (f.toList == [111, 110, 99, 101]) (f.toList == [119, 101, 101, 107, 108, 121]) e c u ds.length) := h4
  have C4 : Hid (Rise ds) := h5
  have D : Hid (Days w (.slice a ds.length cap) ds) := hd
  clear c1 h1 h2 h3 h4 h5 hw hc hd
  unfold rv
  go_enter Tryd.func19, Tryd.ntmps19
  go_wp2_with (first
    | (go_at_call 27; refine (C1.out _).mono ?_; rintro r w' ⟨rfl, rfl⟩)
    | (go_at_call 28; refine (inBounds_any f e _ c u ds _ (D.out.step (below_alloc _ _)) true ⟨fun _ => C2.out, fun _ => rfl⟩).mono ?_; rintro r w1 ⟨rfl, hb1⟩; obtain ⟨x0, x1, x2, x3, x4⟩ := box5 hb1)
    | (go_at_call 29; refine (isShaped_any f e a ds.length cap c u _ h20 _ _ rfl rfl true ⟨fun _ => C3.out, fun _ => rfl⟩).mono ?_; rintro r w2 ⟨rfl, hb2⟩; have y2 := cell_step x2 hb2)
    | (go_at_call 30; refine (rises_any ds _ _ (D.out.step (below_then (below_alloc _ _) (below_then hb1 hb2))) true ⟨fun _ => C4.out, fun _ => rfl⟩).mono ?_; rintro r w3 ⟨rfl, hb3⟩))
  go_ret
  exact ⟨rfl, below_then (below_alloc _ _) (below_then hb1 (below_then hb2 hb3))⟩

set_option maxHeartbeats 400000 in
theorem check_no (f : ByteArray) (e : Int) (sl : Value) (c u : Int) (ds : List Int) (w : World) (g : Glob w) (hd : Days w sl ds) (hw : ¬ Well (rd f e ds c u)) :
    Calls Tryd.prog 19 #[rv f e sl c u] w fun r w' => (∃ p, r = .returned (.iface 103 (.pointer (some p)))) ∧ Below w.heap.size w w' := by
  have hd' := hd
  obtain ⟨a, cap, rfl, h20, hcap, hc⟩ := hd'
  have D : Hid (Days w (.slice a ds.length cap) ds) := hd
  have c1 := fun w => isFreq_any f w
  have HW : Hid (¬ Well (rd f e ds c u)) := hw
  obtain ⟨⟨p1, q1⟩, ⟨p2, q2⟩, ⟨p3, q3⟩, ⟨p4, q4⟩⟩ := g
  clear hc hd hw
  unfold rv
  cases h1 : isF f with
  | false =>
    rw [h1] at c1
    have C1 : Hid (_) := c1
    have r1 := cell_alloc (.cells #[.string f, .int .i64 e, .slice a ds.length cap, .int .i64 c, .int .i64 u] 24) q1
    clear c1 q2 q3 q4
    go_enter Tryd.func19, Tryd.ntmps19
    go_wp2_with (go_at_call 27; refine (C1.out _).mono ?_; rintro r w' ⟨rfl, rfl⟩)
    go_ret
    exact ⟨⟨_, rfl⟩, below_alloc _ _⟩
  | true =>
  rw [h1] at c1
  have C1 : Hid (_) := c1
  clear c1
  by_cases h2 : bN e c u = true ∧ bD ds
  · by_cases h4 : shp (f.toList == [111, 110, 99, 101]) (f.toList == [119, 101, 101, 107, 108, 121]) e c u ds.length
    · have h5 : ¬ Rise ds := fun h5 => HW.out (well_of h1 h2.1 h2.2 h4 h5)
      have C2 : Hid (bN e c u = true ∧ bD ds) := h2
      have C3 : Hid (shp (f.toList == [111, 110, 99, 101]) (f.toList == [119, 101, 101, 107, 108, 121]) e c u ds.length) := h4
      have C4 : Hid (¬ Rise ds) := h5
      have r4 := cell_alloc (.cells #[.string f, .int .i64 e, .slice a ds.length cap, .int .i64 c, .int .i64 u] 24) q4
      clear h1 h2 h4 h5 HW q1 q2 q3
      go_enter Tryd.func19, Tryd.ntmps19
      go_wp2_with (first
        | (go_at_call 27; refine (C1.out _).mono ?_; rintro r w' ⟨rfl, rfl⟩)
        | (go_at_call 28; refine (inBounds_any f e _ c u ds _ (D.out.step (below_alloc _ _)) true ⟨fun _ => C2.out, fun _ => rfl⟩).mono ?_; rintro r w1 ⟨rfl, hb1⟩; obtain ⟨x0, x1, x2, x3, x4⟩ := box5 hb1)
        | (go_at_call 29; refine (isShaped_any f e a ds.length cap c u _ h20 _ _ rfl rfl true ⟨fun _ => C3.out, fun _ => rfl⟩).mono ?_; rintro r w2 ⟨rfl, hb2⟩; have y2 := cell_step x2 hb2)
        | (go_at_call 30; refine (rises_any ds _ _ (D.out.step (below_then (below_alloc _ _) (below_then hb1 hb2))) false ⟨fun h => absurd h (by decide), fun h => absurd h C4.out⟩).mono ?_; rintro r w3 ⟨rfl, hb3⟩; have z4 := cell_step (cell_step (cell_step r4 hb1) hb2) hb3))
      go_ret
      exact ⟨⟨_, rfl⟩, below_then (below_alloc _ _) (below_then hb1 (below_then hb2 hb3))⟩
    · have C2 : Hid (bN e c u = true ∧ bD ds) := h2
      have C3 : Hid (¬ shp (f.toList == [111, 110, 99, 101]) (f.toList == [119, 101, 101, 107, 108, 121]) e c u ds.length) := h4
      have r3 := cell_alloc (.cells #[.string f, .int .i64 e, .slice a ds.length cap, .int .i64 c, .int .i64 u] 24) q3
      clear h1 h2 h4 HW q1 q2 q4
      go_enter Tryd.func19, Tryd.ntmps19
      go_wp2_with (first
        | (go_at_call 27; refine (C1.out _).mono ?_; rintro r w' ⟨rfl, rfl⟩)
        | (go_at_call 28; refine (inBounds_any f e _ c u ds _ (D.out.step (below_alloc _ _)) true ⟨fun _ => C2.out, fun _ => rfl⟩).mono ?_; rintro r w1 ⟨rfl, hb1⟩; obtain ⟨x0, x1, x2, x3, x4⟩ := box5 hb1)
        | (go_at_call 29; refine (isShaped_any f e a ds.length cap c u _ h20 _ _ rfl rfl false ⟨fun h => absurd h (by decide), fun h => absurd h C3.out⟩).mono ?_; rintro r w2 ⟨rfl, hb2⟩; have z3 := cell_step (cell_step r3 hb1) hb2))
      go_ret
      exact ⟨⟨_, rfl⟩, below_then (below_alloc _ _) (below_then hb1 hb2)⟩
  · have C2 : Hid (¬ (bN e c u = true ∧ bD ds)) := h2
    have r2 := cell_alloc (.cells #[.string f, .int .i64 e, .slice a ds.length cap, .int .i64 c, .int .i64 u] 24) q2
    clear h1 h2 HW q1 q3 q4
    go_enter Tryd.func19, Tryd.ntmps19
    go_wp2_with (first
      | (go_at_call 27; refine (C1.out _).mono ?_; rintro r w' ⟨rfl, rfl⟩)
      | (go_at_call 28; refine (inBounds_any f e _ c u ds _ (D.out.step (below_alloc _ _)) false ⟨fun h => absurd h (by decide), fun h => absurd h C2.out⟩).mono ?_; rintro r w1 ⟨rfl, hb1⟩; have z2 := cell_step r2 hb1))
    go_ret
    exact ⟨⟨_, rfl⟩, below_then (below_alloc _ _) hb1⟩
end Go.Proofs.YtfnajhpcbajhfabDoor
