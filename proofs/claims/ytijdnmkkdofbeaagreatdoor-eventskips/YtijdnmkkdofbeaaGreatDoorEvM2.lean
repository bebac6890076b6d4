/- Plain mathematics of events, more: a span cut in two; one day skipped; one day moved. -/
import Derived.Test.YtijdnmkkdofbeaaGreatDoorEvM
namespace Go.Proofs.YtijdnmkkdofbeaaGreatDoor.Cal

theorem evs_split {xs : List Int} {a c b : Int} (h1 : a ≤ c) (h2 : c ≤ b) : evs xs [] [] a c ++ evs xs [] [] (c + 1) b = evs xs [] [] a b := by
  refine rise_ext ?_ (evs_rise ..) (fun x => ?_)
  · refine List.pairwise_append.2 ⟨evs_rise .., evs_rise .., fun x hx y hy => ?_⟩
    have := mem_evs.1 hx
    have := mem_evs.1 hy
    omega
  · rw [List.mem_append, mem_evs, mem_evs, mem_evs]
    constructor
    · rintro (⟨p1, p2, p3, p4, p5⟩ | ⟨p1, p2, p3, p4, p5⟩)
      · exact ⟨p1, p2, p3, by omega, p5⟩
      · exact ⟨p1, p2, by omega, p4, p5⟩
    · rintro ⟨p1, p2, p3, p4, p5⟩
      rcases (show c < x ∨ x ≤ c by omega) with q | q
      · exact .inr ⟨p1, p2, by omega, p4, p5⟩
      · exact .inl ⟨p1, p2, p3, by omega, p5⟩
theorem nodup_le : ∀ {l m : List Int}, l.Nodup → (∀ x ∈ l, x ∈ m) → l.length ≤ m.length
  | [], _, _, _ => Nat.zero_le _
  | a :: l, m, hn, h => by
    rw [List.nodup_cons] at hn
    have ha : a ∈ m := h a (List.mem_cons_self ..)
    have := nodup_le (l := l) (m := m.erase a) hn.2 (fun x hx => (List.mem_erase_of_ne (show x ≠ a from fun q => hn.1 (by rw [← q]; exact hx))).2 (h x (List.mem_cons_of_mem _ hx)))
    have hl := List.length_erase_of_mem ha
    have : 0 < m.length := List.length_pos_of_mem ha
    rw [List.length_cons]
    omega
theorem rise_nodup {l : List Int} (h : l.Pairwise (· < ·)) : l.Nodup := h.imp (fun q => by omega)
theorem evs_skip {xs : List Int} {a b x : Int} (h : x ∈ evs xs [] [] a b) : (evs xs [x] [] a b).length + 1 = (evs xs [] [] a b).length := by
  have hn := rise_nodup (evs_rise xs [] [] a b)
  have e : evs xs [x] [] a b = (evs xs [] [] a b).erase x := by
    refine rise_ext (evs_rise ..) ((evs_rise ..).sublist (List.erase_sublist ..)) (fun y => ?_)
    rw [hn.mem_erase_iff, mem_evs, mem_evs]
    constructor
    · rintro ⟨p1, p2, p3, p4, z, q1, q2, q3⟩
      have q3' : z = y := q3
      subst q3'
      exact ⟨by simpa using q2, p1, p2, p3, p4, z, q1, by simp, rfl⟩
    · rintro ⟨p0, p1, p2, p3, p4, z, q1, q2, q3⟩
      have q3' : z = y := q3
      subst q3'
      exact ⟨p1, p2, p3, p4, z, q1, by simpa using p0, rfl⟩
  have hp := List.length_pos_of_mem h
  rw [e, List.length_erase_of_mem h]
  omega
theorem mvd_one (x c z : Int) : mvd [(x, c)] z = if x = z then c else z := rfl
theorem evs_move {xs : List Int} {a b c x : Int} (h : x ∈ evs xs [] [] a b) (h1 : a ≤ c) (h2 : c ≤ b) (h3 : 0 ≤ c) (h4 : c ≤ 73048) :
    c ∈ evs xs [] [(x, c)] a b ∧ (∀ y ∈ evs xs [] [(x, c)] a b, y = x → x = c) ∧ (evs xs [] [(x, c)] a b).length ≤ (evs xs [] [] a b).length := by
  obtain ⟨_, _, _, _, x', q1, _, q3⟩ := mem_evs.1 h
  have q3' : x' = x := q3
  subst q3'
  refine ⟨mem_evs.2 ⟨h3, h4, h1, h2, x', q1, by simp, by rw [mvd_one, if_pos rfl]⟩, fun y hy e => ?_, ?_⟩
  · subst e
    obtain ⟨_, _, _, _, z, r1, _, r3⟩ := mem_evs.1 hy
    rw [mvd_one] at r3
    split at r3
    · exact r3.symm
    · rename_i q; exact absurd r3.symm q
  · have := nodup_le (m := (evs xs [] [] a b).map (mvd [(x', c)])) (rise_nodup (evs_rise xs [] [(x', c)] a b)) (fun y hy => ?_)
    · rwa [List.length_map] at this
    · obtain ⟨p1, p2, p3, p4, z, r1, _, r3⟩ := mem_evs.1 hy
      rw [mvd_one] at r3
      rw [List.mem_map]
      by_cases q : x' = z
      · exact ⟨x', h, by rw [mvd_one, if_pos rfl]; rw [if_pos q] at r3; exact r3⟩
      · rw [if_neg q] at r3
        subst r3
        exact ⟨z, mem_evs.2 ⟨p1, p2, p3, p4, z, r1, by simp, rfl⟩, by rw [mvd_one, if_neg q]⟩
end Go.Proofs.YtijdnmkkdofbeaaGreatDoor.Cal
