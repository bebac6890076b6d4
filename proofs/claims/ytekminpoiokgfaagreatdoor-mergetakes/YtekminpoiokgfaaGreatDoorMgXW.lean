/- Merges in plain words: what one way alone changed is as it has it. -/
import Derived.Test.YtekminpoiokgfaaGreatDoorYbD
namespace Go.Proofs.YtekminpoiokgfaaGreatDoor
open Go Go.RowKit Cal

theorem jR_fs {o1 o2 o3 : Option EV} {fs : List ByteArray} (h : jR o1 o2 o3 = .inr fs) : fs ≠ [] := by
  by_cases q : eOp o2 = eOp o3 ∨ eOp o3 = eOp o1
  · rw [jR_two q] at h; cases h
  · by_cases q2 : eOp o2 = eOp o1
    · rw [jR_thr q q2] at h; cases h
    · by_cases hn : o1 = none ∨ o2 = none ∨ o3 = none
      · rw [jR_no q q2 hn] at h
        cases h
        simp
      · cases o1 with
        | none => exact absurd (.inl rfl) hn
        | some E1 =>
          cases o2 with
          | none => exact absurd (.inr (.inl rfl)) hn
          | some E2 =>
            cases o3 with
            | none => exact absurd (.inr (.inr rfl)) hn
            | some E3 =>
              rw [jR_all q q2] at h
              split at h
              · split at h
                · cases h
                · cases h; simp
              · rename_i hc
                cases h
                exact hc
theorem jR_id {o1 o2 o3 : Option EV} {id : ByteArray} (h1 : ∀ E, o1 = some E → E.id = id) (h2 : ∀ E, o2 = some E → E.id = id) (h3 : ∀ E, o3 = some E → E.id = id) {E : EV} (h : jR o1 o2 o3 = .inl (some E)) : E.id = id := by
  by_cases q : eOp o2 = eOp o3 ∨ eOp o3 = eOp o1
  · rw [jR_two q] at h; exact h2 E (by injection h)
  · by_cases q2 : eOp o2 = eOp o1
    · rw [jR_thr q q2] at h; exact h3 E (by injection h)
    · by_cases hn : o1 = none ∨ o2 = none ∨ o3 = none
      · rw [jR_no q q2 hn] at h; cases h
      · cases o1 with
        | none => exact absurd (.inl rfl) hn
        | some E1 =>
          cases o2 with
          | none => exact absurd (.inr (.inl rfl)) hn
          | some E2 =>
            cases o3 with
            | none => exact absurd (.inr (.inr rfl)) hn
            | some E3 =>
              rw [jR_all q q2] at h
              split at h
              · split at h
                · injection h with h; injection h with h; rw [← h]; exact h1 E1 rfl
                · cases h
              · cases h
/-- where nothing clashes each ID has what became of it -/
theorem thr_get {X Y Z : List EV} {ids : List ByteArray} (hnd : ids.Nodup) : ∀ m, m ≤ ids.length → (thr X Y Z (ids.take m)).2 = [] →
    Rises (thr X Y Z (ids.take m)).1 ∧ (∀ id ∈ ids.take m, jR (lkC X id) (lkC Y id) (lkC Z id) = .inl (lkC (thr X Y Z (ids.take m)).1 id)) ∧ (∀ id, id ∉ ids.take m → lkC (thr X Y Z (ids.take m)).1 id = none) := by
  intro m
  induction m with
  | zero =>
    intro _ _
    rw [List.take_zero]
    exact ⟨List.Pairwise.nil, (fun id h => absurd h List.not_mem_nil), fun id _ => rfl⟩
  | succ m ih =>
    intro hm h0
    have hlt : m < ids.length := hm
    have hnot : ids[m] ∉ ids.take m := fun q => by
      obtain ⟨i, hi, e⟩ := List.mem_take_iff_getElem.1 q
      have := (List.getElem_inj hnd).1 e
      omega
    have hmem : ∀ x, x ∈ ids.take (m + 1) ↔ x ∈ ids.take m ∨ x = ids[m] := fun x => by rw [List.take_succ_eq_append_getElem hlt, List.mem_append, List.mem_singleton]
    have ih' := ih (by omega)
    rw [thr_succ X Y Z ids m hlt, jSp_ap] at h0 ⊢
    generalize ids[m] = id at hnot hmem h0 ⊢
    generalize ids.take (m + 1) = L' at hmem ⊢
    generalize ids.take m = L at hmem hnot ih' h0 ⊢
    generalize thr X Y Z L = a at ih' h0 ⊢
    obtain ⟨C, cl⟩ := a
    have hid1 : ∀ E, lkC X id = some E → E.id = id := fun E q => (lkC_some q).2
    have hid2 : ∀ E, lkC Y id = some E → E.id = id := fun E q => (lkC_some q).2
    have hid3 : ∀ E, lkC Z id = some E → E.id = id := fun E q => (lkC_some q).2
    cases hj : jR (lkC X id) (lkC Y id) (lkC Z id) with
    | inr fs =>
      rw [hj] at h0
      have h0' : cl ++ fs.map (fun f => (id, f)) = [] := h0
      exact absurd (List.map_eq_nil_iff.1 (List.append_eq_nil_iff.1 h0').2) (jR_fs hj)
    | inl o =>
      rw [hj] at h0
      cases o with
      | none =>
        obtain ⟨r1, r2, r3⟩ := ih' h0
        refine ⟨r1, fun x hx => ?_, fun x hx => r3 x (fun q => hx ((hmem x).2 (.inl q)))⟩
        rcases (hmem x).1 hx with q | rfl
        · exact r2 x q
        · rw [hj]
          exact congrArg Sum.inl (r3 x hnot).symm
      | some E =>
        have hE := jR_id hid1 hid2 hid3 hj
        unfold jAp at h0 ⊢
        dsimp only at h0 ⊢
        by_cases hf : (¬ ∃ F ∈ C, F.id = E.id) ∧ 60 ≤ C.length
        · rw [if_pos hf] at h0
          have h0' : cl ++ [(id, allB)] = [] := h0
          simp at h0'
        · rw [if_neg hf] at h0 ⊢
          obtain ⟨r1, r2, r3⟩ := ih' h0
          have hput : ∀ x, lkC (putC E C) x = if x = E.id then some E else lkC C x := fun x => evOf_put r1 x
          refine ⟨putC_rises r1, fun x hx => ?_, fun x hx => ?_⟩
          · rw [hput]
            by_cases q : x = E.id
            · rw [if_pos q, q, hE, hj]
            · rw [if_neg q]
              rcases (hmem x).1 hx with z | z
              · exact r2 x z
              · exact absurd (z.trans hE.symm) q
          · rw [hput, if_neg (fun q => hx ((hmem x).2 (.inr (q.trans hE))))]
            exact r3 x (fun q => hx ((hmem x).2 (.inl q)))
/-- what a merge takes -/
theorem thr_takes {X Y Z C : List EV} (hX : AllW X) (hZ : AllW Z) (h : thr X Y Z (idsU Y Z) = (C, [])) (id : ByteArray) : (lkC X id = lkC Y id → lkC C id = lkC Z id) ∧ (lkC X id = lkC Z id → lkC C id = lkC Y id) := by
  have hg := thr_get (X := X) (Y := Y) (Z := Z) (idsU_nodup Y Z) (idsU Y Z).length (Nat.le_refl _)
  rw [List.take_length, h] at hg
  obtain ⟨_, r2, r3⟩ := hg rfl
  by_cases hi : id ∈ idsU Y Z
  · have h2 := r2 id hi
    refine ⟨fun q => ?_, fun q => ?_⟩
    · rw [← q, jR_right (hX.lk id) (hZ.lk id)] at h2
      injection h2 with h2
      exact h2.symm
    · rw [← q, jR_left] at h2
      injection h2 with h2
      exact h2.symm
  · have h3 := r3 id hi
    obtain ⟨y0, z0⟩ := ids_all Y Z id hi
    have hy : lkC Y id = none := y0
    have hz : lkC Z id = none := z0
    exact ⟨fun _ => h3.trans hz.symm, fun _ => h3.trans hy.symm⟩
end Go.Proofs.YtekminpoiokgfaaGreatDoor
