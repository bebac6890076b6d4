/- Contracts of slices.Equal over days, and of rule.Same. -/
import Derived.Test.YtfnajhpcbajhfaaGreatDoorRuleV
import Derived.Test.YtfnajhpcbajhfaaGreatDoorShelf2
namespace Go.Proofs.YtfnajhpcbajhfaaGreatDoor
open Go.RowKit Cal

theorem beq_len {a b : List Int} (h : a.length ≠ b.length) : (a == b) = false := by
  rw [beq_eq_false_iff_ne]; rintro rfl; exact h rfl

theorem equal_any (s1 s2 : Value) (d1 d2 : List Int) (w : World) (h1 : Days w s1 d1) (h2 : Days w s2 d2) :
    Calls Tryz.prog 22 #[s1, s2] w fun r w' => r = .returned (.bool (d1 == d2)) ∧ Below w.heap.size w w' := by
  obtain ⟨a, c, rfl, l1, m1, k1⟩ := h1
  obtain ⟨b, d, rfl, l2, m2, k2⟩ := h2
  by_cases hl : d1.length = d2.length
  · by_cases h0 : d1 = []
    · subst h0
      have : d2 = [] := List.length_eq_zero_iff.1 hl.symm
      subst this
      refine (Tryz.slices_Equal_int_empty a b c 0 d w (by omega)).mono ?_
      rintro r w' ⟨rfl, rfl⟩
      exact ⟨rfl, Below.refl _ _⟩
    · have p1 : 0 < d1.length := List.length_pos_iff.2 h0
      obtain ⟨b1, rfl, hb1, _⟩ := k1 0 p1
      obtain ⟨b2, rfl, hb2, _⟩ := k2 0 (by omega)
      refine (Tryz.slices_Equal_int b1 0 d1.length c b2 0 d2.length d d1 d2 w (Nat.le_refl _) (Nat.le_refl _) (by omega) (by omega) (fun j hj => ?_) (fun j hj => ?_)).mono ?_
      · obtain ⟨b', e', _, hc'⟩ := k1 j hj
        have : b' = b1 := by simpa using e'.symm
        subst this
        rw [Nat.zero_add, List.getD_eq_getElem?_getD, List.getElem?_eq_getElem hj]; exact hc'
      · obtain ⟨b', e', _, hc'⟩ := k2 j hj
        have : b' = b2 := by simpa using e'.symm
        subst this
        rw [Nat.zero_add, List.getD_eq_getElem?_getD, List.getElem?_eq_getElem hj]; exact hc'
      · rintro r w' ⟨rfl, q, rfl⟩
        exact ⟨ret_bool (by rw [List.take_length, List.take_length]), drewN_below _ _⟩
  · refine (Tryz.slices_Equal_int_lens a b d1.length c d2.length d w hl).mono ?_
    rintro r w' ⟨rfl, rfl⟩
    exact ⟨ret_bool (beq_len hl).symm, Below.refl _ _⟩

set_option maxHeartbeats 1000000 in
theorem same_any (f f' : ByteArray) (e e' : Int) (sl sl' : Value) (c c' u u' : Int) (ds ds' : List Int) (w : World) (hd : Days w sl ds) (hd' : Days w sl' ds') (b : Bool) (hb : b = true ↔ rd f e ds c u = rd f' e' ds' c' u') :
    Calls Tryz.prog 10 #[rv f e sl c u, rv f' e' sl' c' u'] w fun r w' => r = .returned (.bool b) ∧ Below w.heap.size w w' := by
  have fin : ∀ x : Bool, (x = true ↔ (f.toList = f'.toList ∧ e = e' ∧ c = c' ∧ u = u' ∧ ds = ds')) → x = b := fun x hx => by
    have h1 : (rd f e ds c u = rd f' e' ds' c' u') ↔ (f.toList = f'.toList ∧ e = e' ∧ c = c' ∧ u = u' ∧ ds = ds') := by
      unfold rd
      constructor
      · intro h; injection h with a1 a2 a3 a4 a5; exact ⟨a1, a2, a4, a5, a3⟩
      · rintro ⟨a1, a2, a3, a4, a5⟩; rw [a1, a2, a3, a4, a5]
    have h2 : x = true ↔ b = true := hx.trans (h1.symm.trans hb.symm)
    cases x <;> cases b <;> simp_all
  have FIN : Hid (_) := fin
  have eq := fun w (h1 : Days w sl ds) (h2 : Days w sl' ds') => equal_any sl sl' ds ds' w h1 h2
  have EQ : Hid (_) := eq
  have D : Hid (Days w sl ds) := hd
  have D' : Hid (Days w sl' ds') := hd'
  obtain ⟨a, cap, rfl, h20, hcap, hc⟩ := hd
  obtain ⟨a', cap', rfl, h20', hcap', hc'⟩ := hd'
  clear hc hc' hb fin eq
  cases h1 : (f.toList == f'.toList) with
  | false =>
    have h1' : ¬ f.toList = f'.toList := by rw [beq_eq_false_iff_ne] at h1; exact h1
    unfold rv
    have H : Hid (_) := h1'
    clear h1'
    go_enter Tryz.func10, Tryz.ntmps10
    go_wp2
    go_ret
    exact ⟨ret_bool (FIN.out _ ⟨fun h => absurd h (by decide), fun h => absurd h.1 H.out⟩), below_box2 _ _ _⟩
  | true =>
    have h1' : f.toList = f'.toList := by rw [beq_iff_eq] at h1; exact h1
    have H : Hid (_) := h1'
    clear h1'
    unfold rv
    go_enter Tryz.func10, Tryz.ntmps10
    go_wp2_with (go_at_call 22; refine (EQ.out _ (D.out.step (below_box2 _ _ _)) (D'.out.step (below_box2 _ _ _))).mono ?_; rintro r w1 ⟨rfl, hb1⟩)
    all_goals
      go_ret
      first
      | (refine ⟨ret_bool (FIN.out _ ⟨fun h => absurd h (by decide), fun h => ?_⟩), below_box2 _ _ _⟩; exfalso; omega)
      | (refine ⟨ret_bool (FIN.out _ ⟨fun h => ?_, fun h => ?_⟩), below_then (below_box2 _ _ _) hb1⟩
         · exact ⟨H.out, by omega, by omega, by omega, by simpa using h⟩
         · simpa using h.2.2.2.2)
end Go.Proofs.YtfnajhpcbajhfaaGreatDoor
