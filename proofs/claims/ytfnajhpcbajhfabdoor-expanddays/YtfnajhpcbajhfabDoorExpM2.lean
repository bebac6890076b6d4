/- Plain mathematics of what comes again: from month to month, from week to week. -/
import Derived.Test.YtfnajhpcbajhfabDoorExpM
namespace Go.Proofs.YtfnajhpcbajhfabDoor.Cal

theorem mod_between {c c' e : Int} (h : c % e = 0) (h1 : c < c') (h2 : c' < c + e) : c' % e ≠ 0 := by
  intro h4
  have h5 : c' = c + (c' - c) := by omega
  rw [h5, Int.add_emod, h, Int.zero_add, Int.emod_emod_of_dvd _ (Int.dvd_refl e)] at h4
  rw [Int.emod_eq_of_lt (by omega) (by omega)] at h4
  omega
theorem mod_on {c e : Int} (h : c % e = 0) : (c + e) % e = 0 := by rw [Int.add_emod_right]; exact h

/-- no day of the month's stretch but one -/
theorem month_only {j dd e t d : Int} (hj0 : 0 ≤ j) (h1 : 1 ≤ dd) (h2 : dd ≤ dim (yA j) (mA j)) (he : 1 ≤ e) (ht : j ≤ t) (ht1 : t < 2400) (hm : (t - j) % e = 0)
    (hd0 : F t ≤ d) (hd1 : d < F (min (t + e) 2400)) (hp : pM (num (yA j) (mA j) dd) e d = true) : dd ≤ dim (yA t) (mA t) ∧ d = num (yA t) (mA t) dd := by
  obtain ⟨i, hi0, hi1, hi2, hi3, hi4⟩ := (pM_at hj0 (by omega) h1 h2).1 hp
  have hf := F_succ (s := i) (by omega) hi1
  rw [num_F] at hi4
  have a1 : t ≤ i := by
    rcases Int.lt_or_le i t with h | h
    · have := F_le (s := i + 1) (t := t) (by omega) (by omega) (by omega); omega
    · exact h
  have a2 : i < min (t + e) 2400 := by
    rcases Int.lt_or_le i (min (t + e) 2400) with h | h
    · exact h
    · have := F_le (s := min (t + e) 2400) (t := i) (by omega) h (by omega); omega
  have a3 : i = t := by
    rcases Int.lt_or_le t i with h | h
    · exact absurd hi2 (mod_between hm (by omega) (by omega))
    · omega
  subst a3
  exact ⟨hi3, by rw [num_F]; exact hi4⟩
theorem month_hit {j dd e t : Int} (hj0 : 0 ≤ j) (h1 : 1 ≤ dd) (h2 : dd ≤ dim (yA j) (mA j)) (he : 1 ≤ e) (ht : j ≤ t) (ht1 : t < 2400) (hm : (t - j) % e = 0) (hd : dd ≤ dim (yA t) (mA t)) :
    From (pM (num (yA j) (mA j) dd) e) (F t) = num (yA t) (mA t) dd :: From (pM (num (yA j) (mA j) dd) e) (F (min (t + e) 2400)) := by
  have hf := F_succ (s := t) (by omega) ht1
  have hl := F_le (s := t + 1) (t := min (t + e) 2400) (by omega) (by omega) (by omega)
  have hl2 := F_le (s := t + 1) (t := 2400) (by omega) (by omega) (by omega)
  have hn : num (yA t) (mA t) dd = F t + dd - 1 := num_F t dd
  have hlast := F_last
  have only : ∀ x, F t ≤ x → x < F (min (t + e) 2400) → x ≠ num (yA t) (mA t) dd → pM (num (yA j) (mA j) dd) e x = false := fun x q1 q2 q3 => by
    rw [← Bool.not_eq_true]; intro hp
    exact q3 (month_only hj0 h1 h2 he ht ht1 hm q1 q2 hp).2
  rw [From_to (a := F t) (b := num (yA t) (mA t) dd) (by omega) (fun x q1 q2 => only x q1 (by omega) (by omega)), From_hit (by omega) ((pM_at hj0 (by omega) h1 h2).2 ⟨t, ht, ht1, hm, hd, rfl⟩)]
  congr 1
  exact From_to (by omega) (fun x q1 q2 => only x (by omega) q2 (by omega))
theorem month_miss {j dd e t : Int} (hj0 : 0 ≤ j) (h1 : 1 ≤ dd) (h2 : dd ≤ dim (yA j) (mA j)) (he : 1 ≤ e) (ht : j ≤ t) (ht1 : t < 2400) (hm : (t - j) % e = 0) (hd : dim (yA t) (mA t) < dd) :
    From (pM (num (yA j) (mA j) dd) e) (F t) = From (pM (num (yA j) (mA j) dd) e) (F (min (t + e) 2400)) := by
  refine From_to (F_le (by omega) (by omega) (by omega)) (fun x q1 q2 => ?_)
  rw [← Bool.not_eq_true]; intro hp
  have := (month_only hj0 h1 h2 he ht ht1 hm q1 q2 hp).1
  omega
theorem month_start {j dd e : Int} (hj0 : 0 ≤ j) (hj1 : j < 2400) (h1 : 1 ≤ dd) (h2 : dd ≤ dim (yA j) (mA j)) :
    From (pM (num (yA j) (mA j) dd) e) (num (yA j) (mA j) dd) = From (pM (num (yA j) (mA j) dd) e) (F j) := by
  symm
  rw [num_F]
  refine From_to (by omega) (fun x q1 q2 => ?_)
  rw [← Bool.not_eq_true]; intro hp
  rw [← num_F] at hp
  obtain ⟨i, hi0, hi1, hi2, hi3, hi4⟩ := (pM_at hj0 hj1 h1 h2).1 hp
  have := F_le (s := j) (t := i) hj0 hi0 (by omega)
  rw [num_F] at hi4
  omega

/-- of a day of a week that is known -/
theorem pW_at {s e c t : Int} {ds : List Int} (h0 : 0 ≤ t) (h6 : t ≤ 6) : pW s e ds (s - (s + 5) % 7 + 7 * c + t) = true ↔ (s ≤ s - (s + 5) % 7 + 7 * c + t ∧ c % e = 0 ∧ t ∈ ds) := by
  unfold pW
  have e1 : (s - (s + 5) % 7 + 7 * c + t + 5) % 7 = t := by omega
  have e2 : (s - (s + 5) % 7 + 7 * c + t - t - (s - (s + 5) % 7)) / 7 = c := by omega
  rw [decide_eq_true_iff, e1, e2]
theorem rise_lt {ds : List Int} (h : ∀ (i : Nat) (h : i + 1 < ds.length), ds[i] < ds[i + 1]) : ∀ (n i : Nat) (hi : i + n + 1 < ds.length), ds[i] < ds[i + n + 1]
  | 0, i, hi => h i hi
  | n + 1, i, hi => by
    have h1 := rise_lt h n i (by omega)
    have h2 := h (i + n + 1) (by omega)
    have : ds[i + (n + 1) + 1] = ds[i + n + 1 + 1] := rfl
    omega
theorem rise_of {ds : List Int} (h : ∀ (i : Nat) (h : i + 1 < ds.length), ds[i] < ds[i + 1]) {i j : Nat} (hi : i < ds.length) (hj : j < ds.length) (hij : i < j) : ds[i] < ds[j] := by
  have e : j = i + (j - i - 1) + 1 := by omega
  have h1 := rise_lt h (j - i - 1) i (by omega)
  have e2 : ds[j] = ds[i + (j - i - 1) + 1]'(by omega) := by congr 1
  omega
/-- where a week's round stands -/
def wpos (M : Int) (ds : List Int) (q : Nat) : Int := if q = 0 then M else M + ds.getD (q - 1) 0 + 1
theorem getD_at {ds : List Int} {q : Nat} (h : q < ds.length) : ds.getD q 0 = ds[q] := by simp [List.getD, List.getElem?_eq_getElem h]
theorem week_skip {s e c : Int} {ds : List Int} (hD : ∀ d ∈ ds, 0 ≤ d ∧ d ≤ 6) (hR : ∀ (i : Nat) (h : i + 1 < ds.length), ds[i] < ds[i + 1]) (q : Nat) (hq : q < ds.length) :
    From (pW s e ds) (wpos (s - (s + 5) % 7 + 7 * c) ds q) = From (pW s e ds) (s - (s + 5) % 7 + 7 * c + ds[q]) := by
  have hq1 := hD ds[q] (List.getElem_mem hq)
  have hlow : ∀ x, wpos (s - (s + 5) % 7 + 7 * c) ds q ≤ x → x < s - (s + 5) % 7 + 7 * c + ds[q] → s - (s + 5) % 7 + 7 * c ≤ x ∧ ∀ (i : Nat) (h : i < q), ds[i]'(by omega) < x - (s - (s + 5) % 7 + 7 * c) := by
    intro x h1 h2
    unfold wpos at h1
    split at h1
    · exact ⟨by omega, fun i h => by omega⟩
    · have hp := hD (ds[q - 1]'(by omega)) (List.getElem_mem _)
      rw [getD_at (by omega)] at h1
      refine ⟨by omega, fun i h => ?_⟩
      rcases Nat.lt_or_ge i (q - 1) with h3 | h3
      · have := rise_of hR (i := i) (j := q - 1) (by omega) (by omega) h3
        omega
      · have : i = q - 1 := by omega
        subst this
        omega
  have hle : wpos (s - (s + 5) % 7 + 7 * c) ds q ≤ s - (s + 5) % 7 + 7 * c + ds[q] := by
    unfold wpos
    split
    · omega
    · rw [getD_at (by omega)]
      have := rise_of hR (i := q - 1) (j := q) (by omega) hq (by omega)
      omega
  refine From_to hle (fun x h1 h2 => ?_)
  obtain ⟨h3, h4⟩ := hlow x h1 h2
  rw [← Bool.not_eq_true]; intro hp
  have ex : x = s - (s + 5) % 7 + 7 * c + (x - (s - (s + 5) % 7 + 7 * c)) := by omega
  rw [ex, pW_at (by omega) (by omega)] at hp
  obtain ⟨i, hi, hi2⟩ := List.mem_iff_getElem.1 hp.2.2
  rcases Nat.lt_or_ge i q with h5 | h5
  · have := h4 i h5; omega
  · rcases Nat.lt_or_ge q i with h6 | h6
    · have := rise_of hR hq hi h6; omega
    · have : i = q := by omega
      subst this; omega
theorem wpos_succ (M : Int) (ds : List Int) (q : Nat) (hq : q < ds.length) : wpos M ds (q + 1) = M + ds[q] + 1 := by
  unfold wpos
  rw [if_neg (by omega), show q + 1 - 1 = q from rfl, getD_at hq]
theorem week_hit {s e c : Int} {ds : List Int} (hD : ∀ d ∈ ds, 0 ≤ d ∧ d ≤ 6) (hR : ∀ (i : Nat) (h : i + 1 < ds.length), ds[i] < ds[i + 1]) (hc : c % e = 0) (q : Nat) (hq : q < ds.length)
    (h1 : s ≤ s - (s + 5) % 7 + 7 * c + ds[q]) (h2 : s - (s + 5) % 7 + 7 * c + ds[q] ≤ 73048) :
    From (pW s e ds) (wpos (s - (s + 5) % 7 + 7 * c) ds q) = (s - (s + 5) % 7 + 7 * c + ds[q]) :: From (pW s e ds) (wpos (s - (s + 5) % 7 + 7 * c) ds (q + 1)) := by
  have hq1 := hD ds[q] (List.getElem_mem hq)
  rw [week_skip hD hR q hq, From_hit h2 ((pW_at hq1.1 hq1.2).2 ⟨h1, hc, List.getElem_mem hq⟩), wpos_succ _ _ _ hq]
theorem week_low {s e c : Int} {ds : List Int} (hD : ∀ d ∈ ds, 0 ≤ d ∧ d ≤ 6) (hR : ∀ (i : Nat) (h : i + 1 < ds.length), ds[i] < ds[i + 1]) (q : Nat) (hq : q < ds.length)
    (h1 : s - (s + 5) % 7 + 7 * c + ds[q] < s) :
    From (pW s e ds) (wpos (s - (s + 5) % 7 + 7 * c) ds q) = From (pW s e ds) (wpos (s - (s + 5) % 7 + 7 * c) ds (q + 1)) := by
  have hq1 := hD ds[q] (List.getElem_mem hq)
  rw [week_skip hD hR q hq, wpos_succ _ _ _ hq]
  refine From_miss ?_
  rw [← Bool.not_eq_true]; intro hp
  have := (pW_at hq1.1 hq1.2).1 hp
  omega
theorem week_over {s e c : Int} {ds : List Int} (hD : ∀ d ∈ ds, 0 ≤ d ∧ d ≤ 6) (hR : ∀ (i : Nat) (h : i + 1 < ds.length), ds[i] < ds[i + 1]) (q : Nat) (hq : q < ds.length)
    (h1 : 73048 < s - (s + 5) % 7 + 7 * c + ds[q]) : From (pW s e ds) (wpos (s - (s + 5) % 7 + 7 * c) ds q) = [] := by
  rw [week_skip hD hR q hq, From_end h1]
theorem week_next {s e c : Int} {ds : List Int} (hD : ∀ d ∈ ds, 0 ≤ d ∧ d ≤ 6) (hR : ∀ (i : Nat) (h : i + 1 < ds.length), ds[i] < ds[i + 1]) (he : 1 ≤ e) (hc : c % e = 0) :
    From (pW s e ds) (wpos (s - (s + 5) % 7 + 7 * c) ds ds.length) = From (pW s e ds) (s - (s + 5) % 7 + 7 * (c + e)) := by
  have hlow : ∀ x, wpos (s - (s + 5) % 7 + 7 * c) ds ds.length ≤ x → s - (s + 5) % 7 + 7 * c ≤ x ∧ ∀ (i : Nat) (h : i < ds.length), ds[i] < x - (s - (s + 5) % 7 + 7 * c) := by
    intro x h1
    unfold wpos at h1
    split at h1
    · exact ⟨by omega, fun i h => by omega⟩
    · have hp := hD (ds[ds.length - 1]'(by omega)) (List.getElem_mem _)
      rw [getD_at (by omega)] at h1
      refine ⟨by omega, fun i h => ?_⟩
      rcases Nat.lt_or_ge i (ds.length - 1) with h3 | h3
      · have := rise_of hR (i := i) (j := ds.length - 1) (by omega) (by omega) h3
        omega
      · have : i = ds.length - 1 := by omega
        subst this
        omega
  have hle : wpos (s - (s + 5) % 7 + 7 * c) ds ds.length ≤ s - (s + 5) % 7 + 7 * (c + e) := by
    unfold wpos
    split
    · omega
    · rw [getD_at (by omega)]
      have hp := hD (ds[ds.length - 1]'(by omega)) (List.getElem_mem _)
      omega
  refine From_to hle (fun x h1 h2 => ?_)
  obtain ⟨h3, h4⟩ := hlow x h1
  rw [← Bool.not_eq_true]; intro hp
  have ex : x = s - (s + 5) % 7 + 7 * (c + (x - (s - (s + 5) % 7 + 7 * c)) / 7) + (x - (s - (s + 5) % 7 + 7 * c)) % 7 := by omega
  rw [ex, pW_at (by omega) (by omega)] at hp
  obtain ⟨_, p2, p3⟩ := hp
  rcases Int.lt_or_le (x - (s - (s + 5) % 7 + 7 * c)) 7 with h5 | h5
  · obtain ⟨i, hi, hi2⟩ := List.mem_iff_getElem.1 p3
    have := h4 i hi
    omega
  · exact mod_between hc (by omega) (by omega) p2
theorem week_start {s e : Int} {ds : List Int} : From (pW s e ds) s = From (pW s e ds) (wpos (s - (s + 5) % 7 + 7 * 0) ds 0) := by
  symm
  unfold wpos
  rw [if_pos rfl]
  refine From_to (by omega) (fun x h1 h2 => ?_)
  unfold pW
  rw [decide_eq_false_iff_not]
  rintro ⟨h3, _⟩
  omega
end Go.Proofs.YtfnajhpcbajhfabDoor.Cal
