/- Plain mathematics of what comes again: a candidate by its date. -/
import Derived.Test.YtdhggknmefonkabDoorExpM2
namespace Go.Proofs.YtdhggknmefonkabDoor.Cal

theorem mo_of {y m d : Int} (h : vld y m d) : yA ((y - 2000) * 12 + m - 1) = y ∧ mA ((y - 2000) * 12 + m - 1) = m ∧ 0 ≤ (y - 2000) * 12 + m - 1 ∧ (y - 2000) * 12 + m - 1 < 2400 := by
  obtain ⟨a, b, c, e, _, _⟩ := h
  unfold yA mA
  omega
theorem pM_dates {y m a z n b s d e : Int} (h1 : vld y m a) (hs : num y m a = s) (h2 : vld z n b) (hd : num z n b = d) (hle : s ≤ d) :
    (pM s e d = true ↔ a = b ∧ (12 * (z - y) + n - m) % e = 0) ∧ (a = b → 0 ≤ 12 * (z - y) + n - m) := by
  obtain ⟨e1, e2, j0, j1⟩ := mo_of h1
  obtain ⟨e3, e4, i0, i1⟩ := mo_of h2
  have hj : (y - 2000) * 12 + m - 1 = (y - 2000) * 12 + m - 1 := rfl
  generalize hjj : (y - 2000) * 12 + m - 1 = j at e1 e2 j0 j1
  generalize hii : (z - 2000) * 12 + n - 1 = i at e3 e4 i0 i1
  have hij : 12 * (z - y) + n - m = i - j := by omega
  rw [hij]
  have hs' : s = num (yA j) (mA j) a := by rw [e1, e2]; exact hs.symm
  have hd' : d = num (yA i) (mA i) b := by rw [e3, e4]; exact hd.symm
  have ha : 1 ≤ a := h1.2.2.2.2.1
  have ha2 : a ≤ dim (yA j) (mA j) := by rw [e1, e2]; exact h1.2.2.2.2.2
  have hb : 1 ≤ b := h2.2.2.2.2.1
  have hb2 : b ≤ dim (yA i) (mA i) := by rw [e3, e4]; exact h2.2.2.2.2.2
  have hge : a = b → j ≤ i := fun hab => by
    rcases Int.lt_or_le i j with h | h
    · have f1 := F_succ (s := i) i0 i1
      have f2 := F_le (s := i + 1) (t := j) (by omega) (by omega) (by omega)
      rw [num_F] at hs' hd'
      omega
    · exact h
  refine ⟨?_, fun hab => by have := hge hab; omega⟩
  rw [hs', pM_at j0 j1 ha ha2]
  constructor
  · rintro ⟨k, k0, k1, k2, k3, k4⟩
    rw [hd'] at k4
    obtain ⟨q1, q2, q3⟩ := num_inj (vld_mo i0 i1 hb hb2) (vld_mo (by omega) k1 ha k3) k4
    have := mo_inj q1 q2
    subst this
    exact ⟨q3.symm, k2⟩
  · rintro ⟨hab, hm⟩
    subst hab
    exact ⟨i, hge rfl, i1, hm, hb2, hd'⟩
theorem year_mod {y z m n e : Int} (hm0 : 1 ≤ m) (hm1 : m ≤ 12) (hn0 : 1 ≤ n) (hn1 : n ≤ 12) : (12 * (z - y) + n - m) % (e * 12) = 0 ↔ n = m ∧ (z - y) % e = 0 := by
  constructor
  · intro h
    have h1 : (12 : Int) ∣ 12 * (z - y) + n - m := Int.dvd_trans ⟨e, by omega⟩ (Int.dvd_of_emod_eq_zero h)
    have h2 : n = m := by omega
    subst h2
    refine ⟨rfl, ?_⟩
    have h3 : 12 * (z - y) + n - n = 12 * (z - y) := by omega
    rw [h3, Int.mul_comm e 12, Int.mul_emod_mul_of_pos _ _ (by decide)] at h
    omega
  · rintro ⟨rfl, h⟩
    have h3 : 12 * (z - y) + n - n = 12 * (z - y) := by omega
    rw [h3, Int.mul_comm e 12, Int.mul_emod_mul_of_pos _ _ (by decide), h]
    rfl
end Go.Proofs.YtdhggknmefonkabDoor.Cal
