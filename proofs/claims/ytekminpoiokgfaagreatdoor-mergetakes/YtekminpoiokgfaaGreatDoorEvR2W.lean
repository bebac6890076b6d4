/- An event's lists, and the number of their error: place by place. -/
import Derived.Test.YtekminpoiokgfaaGreatDoorYaY
namespace Go.Proofs.YtekminpoiokgfaaGreatDoor
open Go Go.RowKit Cal

theorem getD_in {l : List Int} {j : Nat} (h : j < l.length) : l.getD j 0 = l[j] := by rw [List.getD_eq_getElem?_getD, List.getElem?_eq_getElem h]; rfl
/-- the n-th skip, the n-th move -/
def zS (sk : List Int) (j : Nat) : Int := sk.getD j 0
def pM' (mv : List (Int × Int)) (j : Nat) : Int := (mv.getD j (0, 0)).1
def qM' (mv : List (Int × Int)) (j : Nat) : Int := (mv.getD j (0, 0)).2
theorem zS_at {sk : List Int} {j : Nat} (h : j < sk.length) : zS sk j = sk[j] := getD_in h
theorem pM_at {mv : List (Int × Int)} {j : Nat} (h : j < mv.length) : pM' mv j = mv[j].1 := by unfold pM'; rw [List.getD_eq_getElem?_getD, List.getElem?_eq_getElem h]; rfl
theorem qM_at {mv : List (Int × Int)} {j : Nat} (h : j < mv.length) : qM' mv j = mv[j].2 := by unfold qM'; rw [List.getD_eq_getElem?_getD, List.getElem?_eq_getElem h]; rfl
def upS (sk : List Int) : Prop := ∀ m, m + 1 < sk.length → zS sk m < zS sk (m + 1)
def upM (mv : List (Int × Int)) : Prop := ∀ m, m + 1 < mv.length → pM' mv m < pM' mv (m + 1)
theorem upS_iff (sk : List Int) : riseB sk = true ↔ upS sk := by
  rw [riseB_iff]
  constructor
  · intro h m hm; rw [zS_at hm, zS_at (show m < sk.length by omega)]; exact h m hm
  · intro h m hm; have := h m hm; rwa [zS_at hm, zS_at (show m < sk.length by omega)] at this
theorem upM_iff (mv : List (Int × Int)) : riseB (mv.map Prod.fst) = true ↔ upM mv := by
  rw [riseB_iff]
  constructor
  · intro h m hm
    have := h m (by simpa using hm)
    rw [pM_at hm, pM_at (show m < mv.length by omega)]
    simpa using this
  · intro h m hm
    have hm' : m + 1 < mv.length := by simpa using hm
    have := h m hm'
    rw [pM_at hm', pM_at (show m < mv.length by omega)] at this
    simpa using this
def dayP (x : Int) : Prop := 0 ≤ x ∧ x ≤ 73048
theorem noDay_iff (x : Int) : noDay x = true ↔ ¬ dayP x := by
  unfold noDay dayP
  rw [decide_eq_true_iff]
theorem anyS_iff (sk : List Int) : sk.any noDay = true ↔ ∃ j, j < sk.length ∧ ¬ dayP (zS sk j) := by
  rw [List.any_eq_true]
  constructor
  · rintro ⟨x, hx, h⟩
    obtain ⟨j, hj, rfl⟩ := List.mem_iff_getElem.1 hx
    exact ⟨j, hj, by rw [zS_at hj]; exact (noDay_iff _).1 h⟩
  · rintro ⟨j, hj, h⟩
    rw [zS_at hj] at h
    exact ⟨_, List.getElem_mem hj, (noDay_iff _).2 h⟩
theorem anyM_iff (mv : List (Int × Int)) : mv.any (fun m => noDay m.1 || noDay m.2) = true ↔ ∃ j, j < mv.length ∧ (¬ dayP (pM' mv j) ∨ ¬ dayP (qM' mv j)) := by
  rw [List.any_eq_true]
  constructor
  · rintro ⟨x, hx, h⟩
    obtain ⟨j, hj, rfl⟩ := List.mem_iff_getElem.1 hx
    rw [Bool.or_eq_true, noDay_iff, noDay_iff] at h
    exact ⟨j, hj, by rw [pM_at hj, qM_at hj]; exact h⟩
  · rintro ⟨j, hj, h⟩
    rw [pM_at hj, qM_at hj] at h
    exact ⟨_, List.getElem_mem hj, by rw [Bool.or_eq_true, noDay_iff, noDay_iff]; exact h⟩
theorem anyI_iff (sk : List Int) (mv : List (Int × Int)) : mv.any (fun m => decide (m.1 ∈ sk)) = true ↔ ∃ j, j < mv.length ∧ inB sk (pM' mv j) = true := by
  rw [List.any_eq_true]
  constructor
  · rintro ⟨x, hx, h⟩
    obtain ⟨j, hj, rfl⟩ := List.mem_iff_getElem.1 hx
    exact ⟨j, hj, by rw [pM_at hj]; unfold inB; rw [List.contains_iff_mem]; simpa using h⟩
  · rintro ⟨j, hj, h⟩
    rw [pM_at hj] at h
    unfold inB at h
    rw [List.contains_iff_mem] at h
    exact ⟨_, List.getElem_mem hj, by simpa using h⟩
/-- the number, place by place -/
structure LKF (sk : List Int) (mv : List (Int × Int)) (k : Int) : Prop where
  full : 20 < sk.length ∨ 20 < mv.length → k = 7
  f1 : ¬ (20 < sk.length ∨ 20 < mv.length) → ∀ m, m + 1 < sk.length → zS sk (m + 1) ≤ zS sk m → k = 8
  f2 : ¬ (20 < sk.length ∨ 20 < mv.length) → ∀ m, m + 1 < mv.length → pM' mv (m + 1) ≤ pM' mv m → k = 8
  f3 : ¬ (20 < sk.length ∨ 20 < mv.length) → upS sk → upM mv → ∀ j, j < sk.length → ¬ dayP (zS sk j) → k = 2
  f4 : ¬ (20 < sk.length ∨ 20 < mv.length) → upS sk → upM mv → (∀ j, j < sk.length → dayP (zS sk j)) → ∀ j, j < mv.length → (¬ dayP (pM' mv j) ∨ ¬ dayP (qM' mv j)) → k = 2
  f5 : ¬ (20 < sk.length ∨ 20 < mv.length) → upS sk → upM mv → (∀ j, j < sk.length → dayP (zS sk j)) → (∀ j, j < mv.length → dayP (pM' mv j) ∧ dayP (qM' mv j)) → ∀ j, j < mv.length → inB sk (pM' mv j) = true → k = 6
  f6 : ¬ (20 < sk.length ∨ 20 < mv.length) → upS sk → upM mv → (∀ j, j < sk.length → dayP (zS sk j)) → (∀ j, j < mv.length → dayP (pM' mv j) ∧ dayP (qM' mv j)) → (∀ j, j < mv.length → inB sk (pM' mv j) = false) → k = 0
theorem lkf (sk : List Int) (mv : List (Int × Int)) : LKF sk mv (lk sk mv) := by
  have R : upS sk → upM mv → ¬ ((riseB sk && riseB (mv.map Prod.fst)) = false) := fun h1 h2 => by
    rw [(upS_iff sk).2 h1, (upM_iff mv).2 h2]; decide
  have S : (∀ j, j < sk.length → dayP (zS sk j)) → ¬ (sk.any noDay = true) := fun h q => by
    obtain ⟨j, hj, hn⟩ := (anyS_iff sk).1 q; exact hn (h j hj)
  have M : (∀ j, j < mv.length → dayP (pM' mv j) ∧ dayP (qM' mv j)) → ¬ (mv.any (fun m => noDay m.1 || noDay m.2) = true) := fun h q => by
    obtain ⟨j, hj, hn⟩ := (anyM_iff mv).1 q
    rcases hn with hn | hn
    · exact hn (h j hj).1
    · exact hn (h j hj).2
  unfold lk
  refine ⟨fun h => if_pos h, fun h m hm hz => ?_, fun h m hm hz => ?_, fun h u1 u2 j hj hn => ?_, fun h u1 u2 s j hj hn => ?_, fun h u1 u2 s d j hj hn => ?_, fun h u1 u2 s d hn => ?_⟩
  · have : riseB sk = false := by
      cases hr : riseB sk with
      | false => rfl
      | true => have := (upS_iff sk).1 hr m hm; omega
    rw [if_neg h, this, Bool.false_and, if_pos rfl]
  · have : riseB (mv.map Prod.fst) = false := by
      cases hr : riseB (mv.map Prod.fst) with
      | false => rfl
      | true => have := (upM_iff mv).1 hr m hm; omega
    rw [if_neg h, this, Bool.and_false, if_pos rfl]
  · rw [if_neg h, if_neg (R u1 u2), if_pos ((anyS_iff sk).2 ⟨j, hj, hn⟩)]
  · rw [if_neg h, if_neg (R u1 u2), if_neg (S s), if_pos ((anyM_iff mv).2 ⟨j, hj, hn⟩)]
  · rw [if_neg h, if_neg (R u1 u2), if_neg (S s), if_neg (M d), if_pos ((anyI_iff sk mv).2 ⟨j, hj, hn⟩)]
  · rw [if_neg h, if_neg (R u1 u2), if_neg (S s), if_neg (M d), if_neg (fun q => by obtain ⟨j, hj, hq⟩ := (anyI_iff sk mv).1 q; rw [hn j hj] at hq; exact absurd hq (by decide))]
end Go.Proofs.YtekminpoiokgfaaGreatDoor
