/- Package pack's bases: the order of two. -/
import Derived.Test.YtbocknocmggcpaaGreatDoorPaA
import Derived.Test.YtbocknocmggcpaaGreatDoorShelfF
import Derived.Lib.RowBridge
namespace Go.Proofs.YtbocknocmggcpaaGreatDoor
open Go Go.RowKit Go.Sort Go.Maps Cal Pk
attribute [local go_sem] Oper.semAt_some

theorem cisNaN_anyP (x : Int) (w : World) : Calls Tryz.prog 75 #[.int .i64 x] w fun r w' => r = .returned (.bool false) ∧ w' = w := by
  go_enter Tryz.func75, Tryz.ntmps75
  go_wp2
  go_ret
  exact ⟨by simp, rfl⟩
theorem compare_anyP (x y : Int) (w : World) : Calls Tryz.prog 68 #[.int .i64 x, .int .i64 y] w fun r w' => r = .returned (.int .i64 (Pk.cmpI x y)) ∧ w' = w := by
  have N : Hid (∀ z W, _) := fun z W => cisNaN_anyP z W
  unfold Pk.cmpI
  by_cases h1 : x < y
  · rw [if_pos h1]
    go_enter Tryz.func68, Tryz.ntmps68
    go_wp2_with (go_at_call 75; refine Calls.mono (N.out _ _) ?_; rintro r w1 ⟨rfl, rfl⟩)
    go_ret
    exact ⟨rfl, rfl⟩
  · rw [if_neg h1]
    by_cases h2 : y < x
    · rw [if_pos h2]
      go_enter Tryz.func68, Tryz.ntmps68
      go_wp2_with (go_at_call 75; refine Calls.mono (N.out _ _) ?_; rintro r w1 ⟨rfl, rfl⟩)
      go_ret
      exact ⟨rfl, rfl⟩
    · rw [if_neg h2]
      go_enter Tryz.func68, Tryz.ntmps68
      go_wp2_with (go_at_call 75; refine Calls.mono (N.out _ _) ?_; rintro r w1 ⟨rfl, rfl⟩)
      go_ret
      exact ⟨rfl, rfl⟩
theorem cmpOr_any (b : Nat) (x y : Int) (w : World) (h0 : w.cell? ⟨b, 0, none⟩ = some (.int .i64 x)) (h1 : w.cell? ⟨b, 1, none⟩ = some (.int .i64 y)) :
    Calls Tryz.prog 67 #[.slice (some ⟨b, 0, none⟩) 2 2] w fun r w' => r = .returned (.int .i64 (if x ≠ 0 then x else y)) ∧ w' = w := by
  have HR : Hid (∀ R : Int, (if x ≠ 0 then x else y) = R → True) := fun _ _ => trivial
  obtain ⟨R, hR⟩ : ∃ R, (if x ≠ 0 then x else y) = R := ⟨_, rfl⟩
  rw [hR]
  have HX : Hid ((if x ≠ 0 then x else y) = R) := hR
  clear hR HR
  go_enter Tryz.func67, Tryz.ntmps67
  go_wp2
  go_loop [5, 8] (fun _ i => ∃ k : Nat, k ≤ 2 ∧ i = .int .i64 k ∧ Hid ((1 ≤ k → x = 0) ∧ (2 ≤ k → y = 0))) (fun _ i => 2 - (intOf i).toNat)
  case atStart => exact ⟨0, by omega, rfl, by omega, by omega⟩
  case round =>
    obtain ⟨k, hk, rfl, HK⟩ := hrel
    match k, hk with
    | 0, _ =>
      by_cases q : x = 0
      · have q' : (x == 0) = true := by simpa using q
        have HQ : Hid (x = 0) := q
        clear q
        go_wp2
        go_round
        case rel => exact ⟨1, by omega, by go_num, fun _ => HQ.out, by omega⟩
        case measure => simp [intOf]
      · have q' : (x == 0) = false := by simpa using q
        have HQ : Hid (x = R) := by have := HX.out; rw [if_pos q] at this; exact this
        clear q
        go_wp2
        go_ret
        exact ⟨by rw [HQ.out]; rfl, rfl⟩
    | 1, _ =>
      have hx := HK.out.1 (by omega)
      have HY : Hid (y = R) := by have := HX.out; rw [if_neg (by simpa using hx)] at this; exact this
      clear hx
      by_cases q : y = 0
      · have q' : (y == 0) = true := by simpa using q
        have HQ : Hid (y = 0) := q
        have HXX : Hid (x = 0) := HK.out.1 (by omega)
        clear q
        go_wp2
        go_round
        case rel => exact ⟨2, by omega, by go_num, fun _ => HXX.out, fun _ => HQ.out⟩
        case measure => simp [intOf]
      · have q' : (y == 0) = false := by simpa using q
        clear q
        go_wp2
        go_ret
        exact ⟨by rw [HY.out]; rfl, rfl⟩
    | 2, _ =>
      have HY : Hid (R = 0) := by
        have := HX.out
        rw [if_neg (by simpa using HK.out.1 (by omega))] at this
        rw [← this]; exact HK.out.2 (by omega)
      go_wp2
      go_ret
      exact ⟨by rw [HY.out]; rfl, rfl⟩

set_option maxHeartbeats 1000000 in
theorem bases1_any (cb g m cap : Nat) (c : Nat → Nat) (x y : Nat) (hx : x < m) (hy : y < m) (w : World) (h0 : w.cell? ⟨cb, 0, none⟩ = some (.slice (some ⟨g, 0, none⟩) m cap)) (hc : ∀ j, j < m → w.cell? ⟨g, j, none⟩ = some (.int .i64 (c j : Int))) :
    Calls Tryz.prog 66 #[.int .i64 (x : Int), .int .i64 (y : Int), .pointer (some ⟨cb, 0, none⟩)] w fun r w' => r = .returned (.int .i64 (cfN c x y)) ∧ w' = (w.alloc (.cells #[.int .i64 (Pk.cmpI (c y) (c x)), .int .i64 (Pk.cmpI y x)] 3)).drew := by
  have cx := hc x hx
  have cy := hc y hy
  have CM : Hid (∀ p q W, _) := fun p q W => compare_anyP p q W
  have hx0 : (0 : Int) ≤ (x : Int) := by omega
  have hx1 : (x : Int) < (m : Int) := by omega
  have hy0 : (0 : Int) ≤ (y : Int) := by omega
  have hy1 : (y : Int) < (m : Int) := by omega
  have hcf : cfN c x y = if Pk.cmpI (c y) (c x) ≠ 0 then Pk.cmpI (c y) (c x) else Pk.cmpI y x := rfl
  have OR : Hid (Calls Tryz.prog 67 #[.slice (some ⟨w.heap.size, 0, none⟩) 2 2] (w.alloc (.cells #[.int .i64 (Pk.cmpI (c y) (c x)), .int .i64 (Pk.cmpI y x)] 3)).drew fun r w' => r = .returned (.int .i64 (cfN c x y)) ∧ w' = (w.alloc (.cells #[.int .i64 (Pk.cmpI (c y) (c x)), .int .i64 (Pk.cmpI y x)] 3)).drew) := by
    rw [hcf]
    exact cmpOr_any w.heap.size _ _ _ (by simp) (by simp)
  generalize cfN c x y = R at OR ⊢
  clear hc hcf
  go_enter Tryz.func66, Tryz.ntmps66
  go_upto_region 1 with (fail)
  go_region_held3 (fun w' => w'.cell? ⟨cb, 0, none⟩ = some (.slice (some ⟨g, 0, none⟩) m cap) ∧ w'.cell? ⟨g, x, none⟩ = some (.int .i64 (c x : Int)) ∧ w'.cell? ⟨g, y, none⟩ = some (.int .i64 (c y : Int))) (first | exact ⟨h0, cx, cy⟩ | exact ⟨cell_step h0 (below_then (below_alloc _ _) (drew_below _)), cell_step cx (below_then (below_alloc _ _) (drew_below _)), cell_step cy (below_then (below_alloc _ _) (drew_below _))⟩) (first
    | (go_at_call 68; refine Calls.mono (CM.out _ _ _) ?_; rintro r w' ⟨rfl, hq⟩; subst hq)
    | (go_at_call 67; refine Calls.mono OR.out ?_; rintro r w' ⟨rfl, hq⟩; subst hq))
  all_goals
    go_wp2
    go_ret
    exact ⟨rfl, rfl⟩
end Go.Proofs.YtbocknocmggcpaaGreatDoor
