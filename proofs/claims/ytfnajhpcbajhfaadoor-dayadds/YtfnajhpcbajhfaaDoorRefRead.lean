/- Contracts of the document's own answer to a text as a day: ReadDay. -/
import Derived.Test.YtfnajhpcbajhfaaDoorRefW3
import Derived.Test.YtfnajhpcbajhfaaDoorRefReadM
import Derived.BigRegion
namespace Go.Proofs.YtfnajhpcbajhfaaDoor
open Go.RowKit Cal

theorem readDay_len (s : ByteArray) (w : World) (h : s.size ≠ 10) :
    Calls Tryd.prog 26 #[.string s] w fun e w' => e = .returned (.tuple #[.int .i64 0, .int .i64 1]) ∧ w' = w := by
  have h' : ((s.size : Int) == 10) = false := by simp; omega
  go_enter Tryd.func26, Tryd.ntmps26
  go_wp2
  go_ret2
  exact ⟨rfl, rfl⟩

/-- the three numbers in the call's own row -/
structure Three (N : Nat) (a b c : Int) (w : World) : Prop where
  c0 : w.cell? ⟨N, 0, none⟩ = some (.int .i64 a)
  c1 : w.cell? ⟨N, 1, none⟩ = some (.int .i64 b)
  c2 : w.cell? ⟨N, 2, none⟩ = some (.int .i64 c)
  f0 : w.frozen? ⟨N, 0, none⟩ = false
  f1 : w.frozen? ⟨N, 1, none⟩ = false
  f2 : w.frozen? ⟨N, 2, none⟩ = false
theorem Three.set0 {N : Nat} {a b c v : Int} {w : World} (h : Three N a b c w) : Three N v b c (w.setCell ⟨N, 0, none⟩ (.int .i64 v)).drew where
  c0 := World.cell?_setCell_same _ _ _ (u := .int .i64 a) h.c0
  c1 := (World.cell?_setCell_other _ _ _ _ (by simp)).trans h.c1
  c2 := (World.cell?_setCell_other _ _ _ _ (by simp)).trans h.c2
  f0 := (World.frozen?_setCell _ _ _ _).trans h.f0
  f1 := (World.frozen?_setCell _ _ _ _).trans h.f1
  f2 := (World.frozen?_setCell _ _ _ _).trans h.f2
theorem Three.set1 {N : Nat} {a b c v : Int} {w : World} (h : Three N a b c w) : Three N a v c (w.setCell ⟨N, 1, none⟩ (.int .i64 v)).drew where
  c0 := (World.cell?_setCell_other _ _ _ _ (by simp)).trans h.c0
  c1 := World.cell?_setCell_same _ _ _ (u := .int .i64 b) h.c1
  c2 := (World.cell?_setCell_other _ _ _ _ (by simp)).trans h.c2
  f0 := (World.frozen?_setCell _ _ _ _).trans h.f0
  f1 := (World.frozen?_setCell _ _ _ _).trans h.f1
  f2 := (World.frozen?_setCell _ _ _ _).trans h.f2
theorem Three.set2 {N : Nat} {a b c v : Int} {w : World} (h : Three N a b c w) : Three N a b v (w.setCell ⟨N, 2, none⟩ (.int .i64 v)).drew where
  c0 := (World.cell?_setCell_other _ _ _ _ (by simp)).trans h.c0
  c1 := (World.cell?_setCell_other _ _ _ _ (by simp)).trans h.c1
  c2 := World.cell?_setCell_same _ _ _ (u := .int .i64 c) h.c2
  f0 := (World.frozen?_setCell _ _ _ _).trans h.f0
  f1 := (World.frozen?_setCell _ _ _ _).trans h.f1
  f2 := (World.frozen?_setCell _ _ _ _).trans h.f2
/-- the answer: the day's number or an error's -/
def rdRes (y m d x : Int) (c : Int) : Prop := (vld y m d ∧ x = num y m d ∧ c = 0) ∨ (¬ vld y m d ∧ x = 0 ∧ c = 2)
theorem makeDay_res (y m d x c : Int) (w : World) (h : rdRes y m d x c) :
    Calls Tryd.prog 14 #[.int .i64 y, .int .i64 m, .int .i64 d] w fun e w' => e = .returned (.tuple #[.int .i64 x, .int .i64 c]) ∧ w' = w := by
  rcases h with ⟨hv, rfl, rfl⟩ | ⟨hv, rfl, rfl⟩
  · exact makeDay_ok y m d w hv
  · refine makeDay_no y m d w ?_
    rcases Int.lt_or_le d 1 with a | a
    · exact Or.inl a
    · rcases Int.lt_or_le (dim y m) d with b | b
      · exact Or.inr b
      · have := dim_in y m (by omega)
        exact absurd ⟨this.1, this.2.1, this.2.2.1, this.2.2.2, a, b⟩ hv

set_option maxHeartbeats 4000000 in
theorem readDay_ten (s : ByteArray) (w : World) (x c : Int) (h : s.size = 10) (hr : (isDT s ∧ rdRes (yS s) (mS s) (dS s) x c) ∨ (¬ isDT s ∧ x = 0 ∧ c = 1)) :
    Calls Tryd.prog 26 #[.string s] w fun e w' => e = .returned (.tuple #[.int .i64 x, .int .i64 c]) ∧ Below w.heap.size w w' := by
  have H10 : Hid (s.size = 10) := h
  have HR : Hid (_) := hr
  have hlo : (10 : Int) ≤ s.size := by omega
  have hhi : (s.size : Int) ≤ 10 := by omega
  have hne : ((s.size : Int) != 10) = false := by simp; omega
  clear h hr
  go_enter Tryd.func26, Tryd.ntmps26
  go_wp2
  have hT : Three w.heap.size 0 0 0 (w.alloc (.cells #[.int .i64 0, .int .i64 0, .int .i64 0] 3)) := ⟨by simp, by simp, by simp, by simp, by simp, by simp⟩
  have hB : Below w.heap.size w (w.alloc (.cells #[.int .i64 0, .int .i64 0, .int .i64 0] 3)) := (Below.refl _ _).alloc (Nat.le_refl _) _
  generalize w.alloc (.cells #[.int .i64 0, .int .i64 0, .int .i64 0] 3) = W at hT hB ⊢
  go_loopw [5, 6] (fun k i wr => ∃ j : Nat, j ≤ 10 ∧ i = .int .i64 j ∧ k = .int .i64 (if j ≤ 4 then 0 else if j ≤ 7 then 1 else 2) ∧ Hid (okTo s j ∧ Three w.heap.size (rd0 s j) (rd1 s j) (rd2 s j) wr ∧ Below w.heap.size w wr)) (fun _ i _ => 10 - (intOf i).toNat)
  case atStart => exact ⟨0, Nat.zero_le _, rfl, rfl, fun _ _ h => absurd h (Nat.not_lt_zero _), hT, hB⟩
  case round =>
    obtain ⟨j, hj, rfl, rfl, hH⟩ := hrel
    clear hT hB
    obtain ⟨hok, hth, hbe⟩ := hH.out
    clear hH
    have OK : Hid (_) := hok
    clear hok
    by_cases hlt : j < 10
    · have hks : j < s.size := by have := H10.out; omega
      by_cases h47 : j = 4 ∨ j = 7
      · have HL : Hid (sgn j s[j] ↔ (s[j].toNat : Int) = 45) := sgn_line h47
        by_cases hc : (s[j].toNat : Int) = 45
        · have hc' : ((s[j].toNat : Int) == 45) = true := by simpa using hc
          have HO : Hid (okTo s (j + 1)) := okTo_succ OK.out hks (HL.out.2 hc)
          clear HL OK hc
          rcases h47 with e | e
          · have hk : (if j ≤ 4 then (0 : Int) else if j ≤ 7 then 1 else 2) = 0 := by rw [if_pos (by omega)]
            rw [hk]
            have e1 : ((j : Int) == 4) = true := by simp; omega
            have hj4 : 4 ≤ j ∧ j ≤ 4 := by omega
            clear e hk
            obtain ⟨hj4, hj5⟩ := hj4
            go_wp2
            go_roundw
            case rel => exact ⟨j + 1, by omega, by go_num, by rw [if_neg (by omega), if_pos (by omega)], HO.out, by rw [rd0_same s j (by omega), rd1_same s j (by omega), rd2_same s j (by omega)]; exact hth, hbe⟩
            case measure => simp [intOf]; omega
          · have hk : (if j ≤ 4 then (0 : Int) else if j ≤ 7 then 1 else 2) = 1 := by rw [if_neg (by omega), if_pos (by omega)]
            rw [hk]
            have e1 : ((j : Int) == 4) = false := by simp; omega
            have e2 : ((j : Int) == 7) = true := by simp; omega
            have hj4 : 7 ≤ j ∧ j ≤ 7 := by omega
            clear e hk
            obtain ⟨hj4, hj5⟩ := hj4
            go_wp2
            go_roundw
            case rel => exact ⟨j + 1, by omega, by go_num, by rw [if_neg (by omega), if_neg (by omega)], HO.out, by rw [rd0_same s j (by omega), rd1_same s j (by omega), rd2_same s j (by omega)]; exact hth, hbe⟩
            case measure => simp [intOf]; omega
        · have hc' : ((s[j].toNat : Int) == 45) = false := by simpa using hc
          have HX : Hid (x = 0 ∧ c = 1) := by
            rcases HR.out with ⟨hd, _⟩ | ⟨_, hx⟩
            · exact absurd (HL.out.1 (hd.2 j hks)) hc
            · exact hx
          clear HL OK HR hc
          generalize (if j ≤ 4 then (0 : Int) else if j ≤ 7 then 1 else 2) = kk
          rcases h47 with e | e
          · have e1 : ((j : Int) == 4) = true := by simp; omega
            clear e
            go_wp2
            go_ret2
            exact ⟨by rw [HX.out.1, HX.out.2]; rfl, hbe⟩
          · have e1 : ((j : Int) == 4) = false := by simp; omega
            have e2 : ((j : Int) == 7) = true := by simp; omega
            clear e
            go_wp2
            go_ret2
            exact ⟨by rw [HX.out.1, HX.out.2]; rfl, hbe⟩
      · have HL : Hid (sgn j s[j] ↔ (48 ≤ (s[j].toNat : Int) ∧ (s[j].toNat : Int) ≤ 57)) := sgn_digit h47
        have e1 : ((j : Int) == 4) = false := by simp; omega
        have e2 : ((j : Int) == 7) = false := by simp; omega
        by_cases hc : 48 ≤ (s[j].toNat : Int) ∧ (s[j].toNat : Int) ≤ 57
        · have HO : Hid (okTo s (j + 1)) := okTo_succ OK.out hks (HL.out.2 hc)
          obtain ⟨hc1, hc2⟩ := hc
          have b0 := rd0_bd OK.out (by omega : j ≤ s.size)
          have b1 := rd1_bd OK.out (by omega : j ≤ s.size)
          have b2 := rd2_bd OK.out (by omega : j ≤ s.size)
          have r0 := hth.c0
          have r1 := hth.c1
          have r2 := hth.c2
          have z0 := hth.f0
          have z1 := hth.f1
          have z2 := hth.f2
          by_cases hs0 : j < 4
          · have hk : (if j ≤ 4 then (0 : Int) else if j ≤ 7 then 1 else 2) = 0 := by rw [if_pos (by omega)]
            rw [hk]
            have HS : Hid (_) := rd0_step s j hs0 hks
            clear hk HL OK h47
            go_wp2
            go_region
            go_wp2
            go_roundw
            case rel => exact ⟨j + 1, by omega, by go_num, by rw [if_pos (by omega)], HO.out, by rw [HS.out, rd1_same s j (by omega), rd2_same s j (by omega)]; exact hth.set0, (hbe.setCell (Nat.le_refl _) _).drew⟩
            case measure => simp [intOf]; omega
          · by_cases hs1 : j < 7
            · have hk : (if j ≤ 4 then (0 : Int) else if j ≤ 7 then 1 else 2) = 1 := by rw [if_neg (by omega), if_pos (by omega)]
              rw [hk]
              have HS : Hid (_) := rd1_step s j (by omega) hs1 hks
              have h5 : 5 ≤ j := by omega
              clear hk HL OK h47
              go_wp2
              go_region
              go_wp2
              go_roundw
              case rel => exact ⟨j + 1, by omega, by go_num, by rw [if_neg (by omega), if_pos (by omega)], HO.out, by rw [rd0_same s j (by omega), HS.out, rd2_same s j (by omega)]; exact hth.set1, (hbe.setCell (Nat.le_refl _) _).drew⟩
              case measure => simp [intOf]; omega
            · have hk : (if j ≤ 4 then (0 : Int) else if j ≤ 7 then 1 else 2) = 2 := by rw [if_neg (by omega), if_neg (by omega)]
              rw [hk]
              have HS : Hid (_) := rd2_step s j (by omega) hlt hks
              have h8 : 8 ≤ j := by omega
              clear hk HL OK h47
              go_wp2
              go_region
              go_wp2
              go_roundw
              case rel => exact ⟨j + 1, by omega, by go_num, by rw [if_neg (by omega), if_neg (by omega)], HO.out, by rw [rd0_same s j (by omega), rd1_same s j (by omega), HS.out]; exact hth.set2, (hbe.setCell (Nat.le_refl _) _).drew⟩
              case measure => simp [intOf]; omega
        · have HX : Hid (x = 0 ∧ c = 1) := by
            rcases HR.out with ⟨hd, _⟩ | ⟨_, hx⟩
            · exact absurd (HL.out.1 (hd.2 j hks)) hc
            · exact hx
          clear HL OK h47 HR
          generalize (if j ≤ 4 then (0 : Int) else if j ≤ 7 then 1 else 2) = kk
          by_cases hc1 : (s[j].toNat : Int) < 48
          · clear hc
            go_wp2
            go_ret2
            exact ⟨by rw [HX.out.1, HX.out.2]; rfl, hbe⟩
          · have hc2 : 57 < (s[j].toNat : Int) := by omega
            clear hc
            go_wp2
            go_ret2
            exact ⟨by rw [HX.out.1, HX.out.2]; rfl, hbe⟩
    · obtain rfl : j = 10 := by omega
      have hdt : isDT s := ⟨H10.out, fun i hi => OK.out i hi (by have := H10.out; omega)⟩
      have HX : Hid (rdRes (yS s) (mS s) (dS s) x c) := by
        rcases HR.out with ⟨_, hx⟩ | ⟨hx, _⟩
        · exact hx
        · exact absurd hdt hx
      obtain ⟨q0, q1, q2⟩ := rd_end H10.out
      rw [q0, q1, q2] at hth
      have r0 := hth.c0
      have r1 := hth.c1
      have r2 := hth.c2
      clear q0 q1 q2 OK HR hdt hth
      generalize (if 10 ≤ 4 then (0 : Int) else if 10 ≤ 7 then 1 else 2) = kk
      go_wp2
      go_quiet ((go_at_call 14; exact Calls.quiet_of_same (makeDay_res _ _ _ x c _ HX.out)))
      go_wp2
      go_ret2
      exact ⟨rfl, hbe.trans ((drewN_below _ _).mono hbe.size)⟩
end Go.Proofs.YtfnajhpcbajhfaaDoor
