/- The walk of the law DayBack: for every number it returns true, and memory that was there is as it was. -/
import Derived.Test.YtfnajhpcbajhfaaDoorReadW
import Derived.Test.YtfnajhpcbajhfaaDoorDated
namespace Go.Proofs.YtfnajhpcbajhfaaDoor
open Go.RowKit Cal

/-- a year later by months -/
theorem year_later {y m d : Int} (h : vld y m d) : addB y m d 12 = true ↔ d ≤ dim (y + 1) m := by
  have hb := atM_bd h
  have hh := h
  obtain ⟨hy0, hy1, hm0, hm1, hd0, hd1⟩ := hh
  have e1 : yM (atM y m + 12) = y + 1 := by unfold atM yM; omega
  have e2 : mM (atM y m + 12) = m := by unfold atM mM; omega
  rw [addB_iff, e1, e2]
  constructor
  · exact fun x => x.2.2
  · intro x
    have hi := dim_in (y + 1) m (by omega)
    exact ⟨by omega, by unfold atM; omega, x⟩
theorem year_num {y m d : Int} (h : vld y m d) (hb : addB y m d 12 = true) : addI y m d 12 = num (y + 1) m d ∧ vld (y + 1) m d ∧ addB (y + 1) m d (-12) = true ∧ addI (y + 1) m d (-12) = num y m d := by
  have hq := (year_later h).1 hb
  have hh := h
  obtain ⟨hy0, hy1, hm0, hm1, hd0, hd1⟩ := hh
  have hi := dim_in (y + 1) m (by omega)
  have e1 : yM (atM y m + 12) = y + 1 := by unfold atM yM; omega
  have e2 : mM (atM y m + 12) = m := by unfold atM mM; omega
  have e3 : yM (atM (y + 1) m + -12) = y := by unfold atM yM; omega
  have e4 : mM (atM (y + 1) m + -12) = m := by unfold atM mM; omega
  have hz : addB (y + 1) m d (-12) = true := by
    rw [addB_iff, e3, e4]; exact ⟨by unfold atM; omega, by unfold atM; omega, hd1⟩
  refine ⟨by rw [addI_yes hb, e1, e2], ⟨hi.1, hi.2.1, hm0, hm1, hd0, hq⟩, hz, by rw [addI_yes hz, e3, e4]⟩
theorem next_mid {y m d : Int} (h : vld y m d) (hl : d < dim y m) : vld y m (d + 1) ∧ num y m (d + 1) = num y m d + 1 := by
  obtain ⟨hy0, hy1, hm0, hm1, hd0, hd1⟩ := h
  exact ⟨⟨hy0, hy1, hm0, hm1, by omega, by omega⟩, by unfold num; omega⟩
theorem next_month {y m d : Int} (h : vld y m d) (hl : d = dim y m) (hm : m < 12) : vld y (m + 1) 1 ∧ num y (m + 1) 1 = num y m d + 1 := by
  obtain ⟨hy0, hy1, hm0, hm1, hd0, hd1⟩ := h
  have hs := cum_succ y m hy0 hy1 hm0 hm1
  have hlo := dim_lo y (m + 1) hy0 hy1 (by omega) (by omega)
  exact ⟨⟨hy0, hy1, by omega, by omega, by omega, by omega⟩, by unfold num; omega⟩
theorem next_year {y m d : Int} (h : vld y m d) (hl : d = dim y m) (hm : m = 12) (hn : num y m d < 73048) : vld (y + 1) 1 1 ∧ num (y + 1) 1 1 = num y m d + 1 := by
  obtain ⟨hy0, hy1, hm0, hm1, hd0, hd1⟩ := h
  have hs := cum_succ y m hy0 hy1 hm0 hm1
  subst hm
  have he : cum y (12 + 1) = yd y := cum_end y
  have hy := dby_succ y
  have hc := cum_one (y + 1)
  have hx : num (y + 1) 1 1 = num y 12 d + 1 := by unfold num; omega
  have hne : y < 2199 := by
    rcases Int.lt_or_le y 2199 with a | a
    · exact a
    · have : y = 2199 := by omega
      subst this
      have e : dby (2199 + 1) = 73049 := dby_end
      unfold num at hn; omega
  have hlo := dim_lo (y + 1) 1 (by omega) (by omega) (by omega) (by omega)
  exact ⟨⟨by omega, by omega, by omega, by omega, by omega, by omega⟩, hx⟩

set_option maxRecDepth 100000 in
theorem back_noDay (n : Int) (ev : Addr) (w : World) (g : Env ev w) (h : n < 0 ∨ 73048 < n) :
    Calls Tryd.prog 5 #[.int .i64 n] w fun e w' => e = .returned (.bool true) ∧ Below w.heap.size w w' := by
  go_enter Tryd.func5, Tryd.ntmps5
  go_wp2_with (first
    | (go_at_call 12; refine (dated_any ev _ g).mono ?_; rintro e w1 ⟨rfl, k1⟩; have g1 := g.step k1)
    | (go_at_call 19; refine (date_no n ev _ h g1.bound).mono ?_; rintro e w2 ⟨rfl, k2⟩; have g2 := g1.step k2)
    | (go_at_call 17; refine (text_no n ev _ h g2.bound).mono ?_; rintro e w3 ⟨rfl, k3⟩))
  go_ret
  exact ⟨rfl, below_then k1 (below_then k2 k3)⟩

set_option maxHeartbeats 2000000 in
set_option maxRecDepth 100000 in
theorem back_day (n y m d : Int) (ev : Addr) (w : World) (g : Env ev w) (h : vld y m d) (hn : num y m d = n) :
    Calls Tryd.prog 5 #[.int .i64 n] w fun e w' => e = .returned (.bool true) ∧ Below w.heap.size w w' := by
  have hnb := num_bd h
  rw [hn] at hnb
  obtain ⟨hn0, hn1⟩ := hnb
  have hh := h
  obtain ⟨hy0, hy1, hm0, hm1, hd0, hd1⟩ := hh
  have hd31 := (dim_bd y m).2
  have c1 := fun w => date_ok n y m d w h hn
  have c2 := fun w => make_ok y m d w h
  rw [hn] at c2
  have c3 := fun w t => text_ok n y m d w h hn t
  have hx := txt_nums y m d (by omega) (by omega) (by omega) (by omega) (by omega) (by omega)
  have c4 := fun w => read_ok ⟨(txt y m d).toArray⟩ w (txt_isDT y m d (by omega) (by omega) (by omega) (by omega) (by omega) (by omega)) (by rw [hx.1, hx.2.1, hx.2.2]; exact h)
  rw [hx.1, hx.2.1, hx.2.2, hn] at c4
  have c5 := fun w g => add_any n 12 y m d ev w h hn g
  have C1 : Hid (_) := c1
  have C2 : Hid (_) := c2
  have C3 : Hid (_) := c3
  have C4 : Hid (_) := c4
  have hyl := year_later h
  have hyn := fun x => year_num h x
  have YN : Hid (_) := hyn
  have V : Hid (_) := h
  have HN : Hid (_) := hn
  clear c1 c2 c3 c4 hx hyn
  cases hb : addB y m d 12
  · have hq : dim (y + 1) m < d := by
      rcases Int.lt_or_le (dim (y + 1) m) d with a | a
      · exact a
      · rw [hyl.2 a] at hb; exact absurd hb (by decide)
    rw [addI_no hb, hb] at c5
    have C5 : Hid (_) := c5
    clear c5 hyl hb YN hn h
    go_enter Tryd.func5, Tryd.ntmps5
    go_wp2_with (first
      | (go_at_call 12; refine (dated_any ev _ g).mono ?_; rintro e w1 ⟨rfl, k1⟩; have g1 := g.step k1)
      | (go_at_call 19; refine (C1.out _).mono ?_; rintro e w' ⟨rfl, rfl⟩)
      | (go_at_call 13; refine (C2.out _).mono ?_; rintro e w' ⟨rfl, rfl⟩)
      | (go_at_call 17; refine (C3.out _ g1.tab).mono ?_; rintro e w2 ⟨rfl, k2⟩; have g2 := g1.step k2; clear C1)
      | (go_at_call 23; refine (C4.out _).mono ?_; rintro e w3 ⟨rfl, k3⟩; have g3 := g2.step k3)
      | (go_at_call 15; refine (months_any _ _ _).mono ?_; rintro e w' ⟨rfl, rfl⟩)
      | (go_at_call 24; refine (C5.out _ g3).mono ?_; rintro e w4 ⟨rfl, k4⟩; have g4 := g3.step k4))
    have kk := below_then k1 (below_then k2 (below_then k3 k4))
    have gg := g4
    clear g1 g2 g3 g4 k1 k2 k3 k4 C2 C3 C4 C5
    by_cases hmax : n = 73048
    · have hM : (n == 73048) = true := by simpa using hmax
      have hm1 : 73048 < n + 1 := by omega
      clear hmax
      go_at_call 19
      refine (date_no (n + 1) ev _ (Or.inr hm1) gg.bound).mono ?_
      rintro e w9 ⟨rfl, k9⟩
      go_wp2
      go_ret
      exact ⟨rfl, below_then kk k9⟩
    · have hM : (n == 73048) = false := by simpa using hmax
      have hlt : n < 73048 := by omega
      clear hmax
      by_cases hl : d < dim y m
      · have nx := next_mid V.out hl
        have NV : Hid (_) := nx.1
        have NN : Hid (_) := nx.2.trans (by rw [HN.out] : _ = n + 1)
        have hl' : (d == dim y m) = false := by simp; omega
        clear nx
        go_at_call 19
        refine (date_ok (n + 1) y m (d + 1) _ NV.out NN.out).mono ?_
        rintro e w' ⟨rfl, rfl⟩
        go_wp2_with (first
          | (go_at_call 15; refine (months_any _ _ _).mono ?_; rintro e w' ⟨rfl, rfl⟩)
          | (go_at_call 20; refine (week_ok _ _ (by omega) (by omega)).mono ?_; rintro e w' ⟨rfl, rfl⟩))
        go_ret
        exact ⟨ret_bool (by simp; omega), kk⟩
      · have hl' : (d == dim y m) = true := by simp; omega
        have hle : d = dim y m := by omega
        by_cases hm : m < 12
        · have nx := next_month V.out hle hm
          have NV : Hid (_) := nx.1
          have NN : Hid (_) := nx.2.trans (by rw [HN.out] : _ = n + 1)
          have hm' : (m == 12) = false := by simp; omega
          have hmm : (m + 1 == m) = false := by simp; omega
          clear nx hle
          go_at_call 19
          refine (date_ok (n + 1) y (m + 1) 1 _ NV.out NN.out).mono ?_
          rintro e w' ⟨rfl, rfl⟩
          go_wp2_with (first
            | (go_at_call 15; refine (months_any _ _ _).mono ?_; rintro e w' ⟨rfl, rfl⟩)
            | (go_at_call 20; refine (week_ok _ _ (by omega) (by omega)).mono ?_; rintro e w' ⟨rfl, rfl⟩))
          go_ret
          exact ⟨ret_bool (by simp; omega), kk⟩
        · have nx := next_year V.out hle (by omega) (by rw [HN.out]; exact hlt)
          have NV : Hid (_) := nx.1
          have NN : Hid (_) := nx.2.trans (by rw [HN.out] : _ = n + 1)
          have hm' : (m == 12) = true := by simp; omega
          have hyy : (y + 1 == y) = false := by simp; omega
          clear nx hle
          go_at_call 19
          refine (date_ok (n + 1) (y + 1) 1 1 _ NV.out NN.out).mono ?_
          rintro e w' ⟨rfl, rfl⟩
          go_wp2_with (first
            | (go_at_call 15; refine (months_any _ _ _).mono ?_; rintro e w' ⟨rfl, rfl⟩)
            | (go_at_call 20; refine (week_ok _ _ (by omega) (by omega)).mono ?_; rintro e w' ⟨rfl, rfl⟩))
          go_ret
          exact ⟨ret_bool (by simp; omega), kk⟩
  · have hq : d ≤ dim (y + 1) m := hyl.1 hb
    obtain ⟨z1, z2, z3, z4⟩ := YN.out hb
    obtain ⟨a, ha⟩ : ∃ a, num (y + 1) m d = a := ⟨_, rfl⟩
    have hab := num_bd z2
    rw [ha] at hab z1
    obtain ⟨ha0, ha1⟩ := hab
    have c6 := fun w => date_ok a (y + 1) m d w z2 ha
    have c7 := fun w g => add_any a (-12) (y + 1) m d ev w z2 ha g
    rw [z3, z4, hn] at c7
    rw [z1, hb] at c5
    have C5 : Hid (_) := c5
    have C6 : Hid (_) := c6
    have C7 : Hid (_) := c7
    clear c5 c6 c7 hyl hb YN hn h z1 z2 z3 z4 ha
    go_enter Tryd.func5, Tryd.ntmps5
    go_wp2_with (first
      | (go_at_call 12; refine (dated_any ev _ g).mono ?_; rintro e w1 ⟨rfl, k1⟩; have g1 := g.step k1)
      | (go_at_call 19; refine (C1.out _).mono ?_; rintro e w' ⟨rfl, rfl⟩)
      | (go_at_call 13; refine (C2.out _).mono ?_; rintro e w' ⟨rfl, rfl⟩)
      | (go_at_call 17; refine (C3.out _ g1.tab).mono ?_; rintro e w2 ⟨rfl, k2⟩; have g2 := g1.step k2; clear C1)
      | (go_at_call 23; refine (C4.out _).mono ?_; rintro e w3 ⟨rfl, k3⟩; have g3 := g2.step k3)
      | (go_at_call 15; refine (months_any _ _ _).mono ?_; rintro e w' ⟨rfl, rfl⟩)
      | (go_at_call 24; refine (C5.out _ g3).mono ?_; rintro e w4 ⟨rfl, k4⟩; have g4 := g3.step k4; clear C5))
    go_at_call 19
    refine (C6.out _).mono ?_
    rintro e w' ⟨rfl, rfl⟩
    go_wp2_with fail
    go_at_call 24
    refine (C7.out _ g4).mono ?_
    rintro e w5 ⟨rfl, k5⟩
    have kk := below_then k1 (below_then k2 (below_then k3 (below_then k4 k5)))
    have gg := g4.step k5
    clear g1 g2 g3 g4 k1 k2 k3 k4 k5 C2 C3 C4 C6 C7
    go_wp2_with fail
    by_cases hmax : n = 73048
    · have hM : (n == 73048) = true := by simpa using hmax
      have hm1 : 73048 < n + 1 := by omega
      clear hmax
      go_at_call 19
      refine (date_no (n + 1) ev _ (Or.inr hm1) gg.bound).mono ?_
      rintro e w9 ⟨rfl, k9⟩
      go_wp2
      go_ret
      exact ⟨rfl, below_then kk k9⟩
    · have hM : (n == 73048) = false := by simpa using hmax
      have hlt : n < 73048 := by omega
      clear hmax
      by_cases hl : d < dim y m
      · have nx := next_mid V.out hl
        have NV : Hid (_) := nx.1
        have NN : Hid (_) := nx.2.trans (by rw [HN.out] : _ = n + 1)
        have hl' : (d == dim y m) = false := by simp; omega
        clear nx
        go_at_call 19
        refine (date_ok (n + 1) y m (d + 1) _ NV.out NN.out).mono ?_
        rintro e w' ⟨rfl, rfl⟩
        go_wp2_with (first
          | (go_at_call 15; refine (months_any _ _ _).mono ?_; rintro e w' ⟨rfl, rfl⟩)
          | (go_at_call 20; refine (week_ok _ _ (by omega) (by omega)).mono ?_; rintro e w' ⟨rfl, rfl⟩))
        go_ret
        exact ⟨ret_bool (by simp; omega), kk⟩
      · have hl' : (d == dim y m) = true := by simp; omega
        have hle : d = dim y m := by omega
        by_cases hm : m < 12
        · have nx := next_month V.out hle hm
          have NV : Hid (_) := nx.1
          have NN : Hid (_) := nx.2.trans (by rw [HN.out] : _ = n + 1)
          have hm' : (m == 12) = false := by simp; omega
          have hmm : (m + 1 == m) = false := by simp; omega
          clear nx hle
          go_at_call 19
          refine (date_ok (n + 1) y (m + 1) 1 _ NV.out NN.out).mono ?_
          rintro e w' ⟨rfl, rfl⟩
          go_wp2_with (first
            | (go_at_call 15; refine (months_any _ _ _).mono ?_; rintro e w' ⟨rfl, rfl⟩)
            | (go_at_call 20; refine (week_ok _ _ (by omega) (by omega)).mono ?_; rintro e w' ⟨rfl, rfl⟩))
          go_ret
          exact ⟨ret_bool (by simp; omega), kk⟩
        · have nx := next_year V.out hle (by omega) (by rw [HN.out]; exact hlt)
          have NV : Hid (_) := nx.1
          have NN : Hid (_) := nx.2.trans (by rw [HN.out] : _ = n + 1)
          have hm' : (m == 12) = true := by simp; omega
          have hyy : (y + 1 == y) = false := by simp; omega
          clear nx hle
          go_at_call 19
          refine (date_ok (n + 1) (y + 1) 1 1 _ NV.out NN.out).mono ?_
          rintro e w' ⟨rfl, rfl⟩
          go_wp2_with (first
            | (go_at_call 15; refine (months_any _ _ _).mono ?_; rintro e w' ⟨rfl, rfl⟩)
            | (go_at_call 20; refine (week_ok _ _ (by omega) (by omega)).mono ?_; rintro e w' ⟨rfl, rfl⟩))
          go_ret
          exact ⟨ret_bool (by simp; omega), kk⟩
end Go.Proofs.YtfnajhpcbajhfaaDoor
