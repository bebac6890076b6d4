/- Which error a rule has: the numbers of errors, and package rule's Check. -/
import Derived.Test.YtfnajhpcbajhfabDoorExpJ
namespace Go.Proofs.YtfnajhpcbajhfabDoor
open Go.RowKit Cal

/-- where the errors lie that packages rule and event tell -/
structure GlobK (s : Nat → Addr) (w : World) : Prop where
  c0 : w.cell? ⟨5, 0, none⟩ = some (.iface 103 (.pointer (some (s 0))))
  c1 : w.cell? ⟨2, 0, none⟩ = some (.iface 103 (.pointer (some (s 1))))
  c2 : w.cell? ⟨3, 0, none⟩ = some (.iface 103 (.pointer (some (s 2))))
  c3 : w.cell? ⟨1, 0, none⟩ = some (.iface 103 (.pointer (some (s 3))))
  c5 : w.cell? ⟨7, 0, none⟩ = some (.iface 103 (.pointer (some (s 5))))
  c6 : w.cell? ⟨0, 0, none⟩ = some (.iface 103 (.pointer (some (s 6))))
  c7 : w.cell? ⟨4, 0, none⟩ = some (.iface 103 (.pointer (some (s 7))))
theorem GlobK.step {s : Nat → Addr} {w w' : World} (g : GlobK s w) (hb : Below w.heap.size w w') : GlobK s w' :=
  ⟨cell_step g.c0 hb, cell_step g.c1 hb, cell_step g.c2 hb, cell_step g.c3 hb, cell_step g.c5 hb, cell_step g.c6 hb, cell_step g.c7 hb⟩
theorem GlobK.glob {s : Nat → Addr} {w : World} (g : GlobK s w) : Glob w := ⟨⟨_, g.c3⟩, ⟨_, g.c1⟩, ⟨_, g.c2⟩, ⟨_, g.c7⟩⟩
/-- the number of a rule's error -/
def ErrK (f : ByteArray) (e : Int) (ds : List Int) (c u k : Int) : Prop :=
  (isF f = false ∧ k = 4) ∨ (isF f = true ∧ ¬ (bN e c u = true ∧ bD ds) ∧ k = 2) ∨ (isF f = true ∧ (bN e c u = true ∧ bD ds) ∧ ¬ shp (f.toList == [111, 110, 99, 101]) (f.toList == [119, 101, 101, 107, 108, 121]) e c u ds.length ∧ k = 3) ∨
    (isF f = true ∧ (bN e c u = true ∧ bD ds) ∧ shp (f.toList == [111, 110, 99, 101]) (f.toList == [119, 101, 101, 107, 108, 121]) e c u ds.length ∧ ¬ Rise ds ∧ k = 8) ∨ (Well (rd f e ds c u) ∧ k = 0)
theorem errK_ex (f : ByteArray) (e : Int) (ds : List Int) (c u : Int) : ∃ k, ErrK f e ds c u k := by
  cases h1 : isF f with
  | false => exact ⟨4, .inl ⟨h1, rfl⟩⟩
  | true =>
    by_cases h2 : bN e c u = true ∧ bD ds
    · by_cases h3 : shp (f.toList == [111, 110, 99, 101]) (f.toList == [119, 101, 101, 107, 108, 121]) e c u ds.length
      · by_cases h4 : Rise ds
        · exact ⟨0, .inr (.inr (.inr (.inr ⟨well_of h1 h2.1 h2.2 h3 h4, rfl⟩)))⟩
        · exact ⟨8, .inr (.inr (.inr (.inl ⟨h1, h2, h3, h4, rfl⟩)))⟩
      · exact ⟨3, .inr (.inr (.inl ⟨h1, h2, h3, rfl⟩))⟩
    · exact ⟨2, .inr (.inl ⟨h1, h2, rfl⟩)⟩
theorem errK_1 {f : ByteArray} {e : Int} {ds : List Int} {c u k : Int} (h : ErrK f e ds c u k) (h1 : isF f = false) : k = 4 := by
  rcases h with h | h | h | h | h
  · exact h.2
  · rw [h1] at h; exact absurd h.1 (by decide)
  · rw [h1] at h; exact absurd h.1 (by decide)
  · rw [h1] at h; exact absurd h.1 (by decide)
  · have := (of_well h.1).1; rw [h1] at this; exact absurd this (by decide)
theorem errK_2 {f : ByteArray} {e : Int} {ds : List Int} {c u k : Int} (h : ErrK f e ds c u k) (h1 : isF f = true) (h2 : ¬ (bN e c u = true ∧ bD ds)) : k = 2 := by
  rcases h with h | h | h | h | h
  · rw [h1] at h; exact absurd h.1 (by decide)
  · exact h.2.2
  · exact absurd h.2.1 h2
  · exact absurd h.2.1 h2
  · have := of_well h.1; exact absurd ⟨this.2.1, this.2.2.1⟩ h2
theorem errK_3 {f : ByteArray} {e : Int} {ds : List Int} {c u k : Int} (h : ErrK f e ds c u k) (h1 : isF f = true) (h2 : bN e c u = true ∧ bD ds) (h3 : ¬ shp (f.toList == [111, 110, 99, 101]) (f.toList == [119, 101, 101, 107, 108, 121]) e c u ds.length) : k = 3 := by
  rcases h with h | h | h | h | h
  · rw [h1] at h; exact absurd h.1 (by decide)
  · exact absurd h2 h.2.1
  · exact h.2.2.2
  · exact absurd h.2.2.1 h3
  · have := of_well h.1; exact absurd this.2.2.2.1 h3
theorem errK_4 {f : ByteArray} {e : Int} {ds : List Int} {c u k : Int} (h : ErrK f e ds c u k) (h1 : isF f = true) (h2 : bN e c u = true ∧ bD ds) (h3 : shp (f.toList == [111, 110, 99, 101]) (f.toList == [119, 101, 101, 107, 108, 121]) e c u ds.length) (h4 : ¬ Rise ds) : k = 8 := by
  rcases h with h | h | h | h | h
  · rw [h1] at h; exact absurd h.1 (by decide)
  · exact absurd h2 h.2.1
  · exact absurd h3 h.2.2.1
  · exact h.2.2.2.2
  · have := of_well h.1; exact absurd this.2.2.2.2 h4
theorem errK_0 {f : ByteArray} {e : Int} {ds : List Int} {c u k : Int} (h : ErrK f e ds c u k) : k = 0 ↔ Well (rd f e ds c u) := by
  constructor
  · intro hk
    rcases h with h | h | h | h | h
    · omega
    · omega
    · omega
    · omega
    · exact h.1
  · intro hw
    obtain ⟨w1, w2, w3, w4, w5⟩ := of_well hw
    rcases h with h | h | h | h | h
    · rw [w1] at h; exact absurd h.1 (by decide)
    · exact absurd ⟨w2, w3⟩ h.2.1
    · exact absurd w4 h.2.2.1
    · exact absurd w5 h.2.2.2.1
    · exact h.2
theorem errK_bd {f : ByteArray} {e : Int} {ds : List Int} {c u k : Int} (h : ErrK f e ds c u k) : k = 0 ∨ k = 2 ∨ k = 3 ∨ k = 4 ∨ k = 8 := by
  rcases h with h | h | h | h | h
  · exact .inr (.inr (.inr (.inl h.2)))
  · exact .inr (.inl h.2.2)
  · exact .inr (.inr (.inl h.2.2.2))
  · exact .inr (.inr (.inr (.inr h.2.2.2.2)))
  · exact .inl h.2
/-- the error of a number -/
def errV (s : Nat → Addr) (k : Int) : Value := if k = 0 then .nilIface else .iface 103 (.pointer (some (s (k - 1).toNat)))
theorem errV_of {s : Nat → Addr} {k m : Int} {n : Nat} (h : k = m) (hm : m ≠ 0 ∧ (m - 1).toNat = n) : errV s k = .iface 103 (.pointer (some (s n))) := by
  unfold errV
  rw [h, if_neg hm.1, hm.2]

set_option maxHeartbeats 400000 in
theorem check_k (f : ByteArray) (e : Int) (sl : Value) (c u : Int) (ds : List Int) (k : Int) (s : Nat → Addr) (w : World) (g : GlobK s w) (hd : Days w sl ds) (hk : ErrK f e ds c u k) (hw : ¬ Well (rd f e ds c u)) :
    Calls Tryd.prog 19 #[rv f e sl c u] w fun r w' => r = .returned (errV s k) ∧ Below w.heap.size w w' := by
  have hd' := hd
  obtain ⟨a, cap, rfl, h20, hcap, hc⟩ := hd'
  have D : Hid (Days w (.slice a ds.length cap) ds) := hd
  have c1 := fun w => isFreq_any f w
  have HW : Hid (¬ Well (rd f e ds c u)) := hw
  have q1 := g.c3
  have q2 := g.c1
  have q3 := g.c2
  have q4 := g.c7
  have HK : Hid (ErrK f e ds c u k) := hk
  clear hc hd hw hk g
  unfold rv
  cases h1 : isF f with
  | false =>
    rw [h1] at c1
    have C1 : Hid (_) := c1
    have EV : Hid (errV s k = .iface 103 (.pointer (some (s 3)))) := errV_of (errK_1 HK.out h1) (by decide)
    have r1 := cell_alloc (.cells #[.string f, .int .i64 e, .slice a ds.length cap, .int .i64 c, .int .i64 u] 24) q1
    clear c1 q2 q3 q4 HK
    go_enter Tryd.func19, Tryd.ntmps19
    go_wp2_with (go_at_call 27; refine (C1.out _).mono ?_; rintro r w' ⟨rfl, rfl⟩)
    go_ret
    exact ⟨(by rw [EV.out]; rfl), below_alloc _ _⟩
  | true =>
  rw [h1] at c1
  have C1 : Hid (_) := c1
  clear c1
  by_cases h2 : bN e c u = true ∧ bD ds
  · by_cases h4 : shp (f.toList == [111, 110, 99, 101]) (f.toList == [119, 101, 101, 107, 108, 121]) e c u ds.length
    · have h5 : ¬ Rise ds := fun h5 => HW.out (well_of h1 h2.1 h2.2 h4 h5)
      have C2 : Hid (bN e c u = true ∧ bD ds) := h2
      have C3 : Hid (shp (f.toList == [111, 110, 99, 101]) (f.toList == [119, 101, 101, 107, 108, 121]) e c u ds.length) := h4
      have C4 : Hid (¬ Rise ds) := h5
      have EV : Hid (errV s k = .iface 103 (.pointer (some (s 7)))) := errV_of (errK_4 HK.out h1 h2 h4 h5) (by decide)
      have r4 := cell_alloc (.cells #[.string f, .int .i64 e, .slice a ds.length cap, .int .i64 c, .int .i64 u] 24) q4
      clear h1 h2 h4 h5 HW HK q1 q2 q3
      go_enter Tryd.func19, Tryd.ntmps19
      go_wp2_with (first
        | (go_at_call 27; refine (C1.out _).mono ?_; rintro r w' ⟨rfl, rfl⟩)
        | (go_at_call 28; refine (inBounds_any f e _ c u ds _ (D.out.step (below_alloc _ _)) true ⟨fun _ => C2.out, fun _ => rfl⟩).mono ?_; rintro r w1 ⟨rfl, hb1⟩; obtain ⟨x0, x1, x2, x3, x4⟩ := box5 hb1)
        | (go_at_call 29; refine (isShaped_any f e a ds.length cap c u _ h20 _ _ rfl rfl true ⟨fun _ => C3.out, fun _ => rfl⟩).mono ?_; rintro r w2 ⟨rfl, hb2⟩; have y2 := cell_step x2 hb2)
        | (go_at_call 30; refine (rises_any ds _ _ (D.out.step (below_then (below_alloc _ _) (below_then hb1 hb2))) false ⟨fun h => absurd h (by decide), fun h => absurd h C4.out⟩).mono ?_; rintro r w3 ⟨rfl, hb3⟩; have z4 := cell_step (cell_step (cell_step r4 hb1) hb2) hb3))
      go_ret
      exact ⟨(by rw [EV.out]; rfl), below_then (below_alloc _ _) (below_then hb1 (below_then hb2 hb3))⟩
    · have C2 : Hid (bN e c u = true ∧ bD ds) := h2
      have C3 : Hid (¬ shp (f.toList == [111, 110, 99, 101]) (f.toList == [119, 101, 101, 107, 108, 121]) e c u ds.length) := h4
      have EV : Hid (errV s k = .iface 103 (.pointer (some (s 2)))) := errV_of (errK_3 HK.out h1 h2 h4) (by decide)
      have r3 := cell_alloc (.cells #[.string f, .int .i64 e, .slice a ds.length cap, .int .i64 c, .int .i64 u] 24) q3
      clear h1 h2 h4 HW HK q1 q2 q4
      go_enter Tryd.func19, Tryd.ntmps19
      go_wp2_with (first
        | (go_at_call 27; refine (C1.out _).mono ?_; rintro r w' ⟨rfl, rfl⟩)
        | (go_at_call 28; refine (inBounds_any f e _ c u ds _ (D.out.step (below_alloc _ _)) true ⟨fun _ => C2.out, fun _ => rfl⟩).mono ?_; rintro r w1 ⟨rfl, hb1⟩; obtain ⟨x0, x1, x2, x3, x4⟩ := box5 hb1)
        | (go_at_call 29; refine (isShaped_any f e a ds.length cap c u _ h20 _ _ rfl rfl false ⟨fun h => absurd h (by decide), fun h => absurd h C3.out⟩).mono ?_; rintro r w2 ⟨rfl, hb2⟩; have z3 := cell_step (cell_step r3 hb1) hb2))
      go_ret
      exact ⟨(by rw [EV.out]; rfl), below_then (below_alloc _ _) (below_then hb1 hb2)⟩
  · have C2 : Hid (¬ (bN e c u = true ∧ bD ds)) := h2
    have EV : Hid (errV s k = .iface 103 (.pointer (some (s 1)))) := errV_of (errK_2 HK.out h1 h2) (by decide)
    have r2 := cell_alloc (.cells #[.string f, .int .i64 e, .slice a ds.length cap, .int .i64 c, .int .i64 u] 24) q2
    clear h1 h2 HW HK q1 q3 q4
    go_enter Tryd.func19, Tryd.ntmps19
    go_wp2_with (first
      | (go_at_call 27; refine (C1.out _).mono ?_; rintro r w' ⟨rfl, rfl⟩)
      | (go_at_call 28; refine (inBounds_any f e _ c u ds _ (D.out.step (below_alloc _ _)) false ⟨fun h => absurd h (by decide), fun h => absurd h C2.out⟩).mono ?_; rintro r w1 ⟨rfl, hb1⟩; have z2 := cell_step r2 hb1))
    go_ret
    exact ⟨(by rw [EV.out]; rfl), below_then (below_alloc _ _) hb1⟩

theorem errV_0 (s : Nat → Addr) : errV s 0 = .nilIface := by unfold errV; rw [if_pos rfl]
/-- package rule's Check, whatever it says -/
theorem rcheck_k (f : ByteArray) (e : Int) (sl : Value) (c u : Int) (ds : List Int) (k : Int) (s : Nat → Addr) (w : World) (g : GlobK s w) (hd : Days w sl ds) (hk : ErrK f e ds c u k) :
    Calls Tryd.prog 19 #[rv f e sl c u] w fun r w' => r = .returned (errV s k) ∧ Below w.heap.size w w' := by
  by_cases hw : Well (rd f e ds c u)
  · rw [(errK_0 hk).2 hw, errV_0]
    exact check_ok f e sl c u ds w hd hw
  · exact check_k f e sl c u ds k s w g hd hk hw
end Go.Proofs.YtfnajhpcbajhfabDoor
