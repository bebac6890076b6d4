/- Plain mathematics of events (no program text in it): where a day is now, the days of an event in a span; what sorting and dropping what is twice leaves. -/
import Derived.Test.YtijdnmkkdofbeaaGreatDoorExpM
import Derived.Lib.SlicesCompact
namespace Go.Proofs.YtijdnmkkdofbeaaGreatDoor.Cal

/-- where a day is now: itself, or where the first move from it goes -/
def mvd : List (Int × Int) → Int → Int
  | [], d => d
  | m :: r, d => if m.1 = d then m.2 else mvd r d
/-- is a day one of an event's, whose rule gives xs? -/
def ownB (xs sk : List Int) (ms : List (Int × Int)) (d : Int) : Bool := xs.any fun x => !(sk.contains x) && decide (mvd ms x = d)
/-- the days of an event from a to b -/
def evs (xs sk : List Int) (ms : List (Int × Int)) (a b : Int) : List Int := From (fun d => decide (a ≤ d ∧ d ≤ b) && ownB xs sk ms d) 0
/-- what is given up to a last day: not in order -/
def gvn (xs sk : List Int) (ms : List (Int × Int)) (l : Int) : List Int := ((xs.takeWhile (fun d => decide (d ≤ l))).filter (fun x => !(sk.contains x))).map (mvd ms)
/-- those within a span -/
def spn (a b : Int) (l : List Int) : List Int := l.filter fun d => decide (a ≤ d ∧ d ≤ b)
/-- up to which day one has to go -/
def lastOf (ms : List (Int × Int)) (b : Int) : Int := if h : ms = [] then b else max b (ms.getLast h).1

theorem rise_ext : ∀ {l m : List Int}, l.Pairwise (· < ·) → m.Pairwise (· < ·) → (∀ x, x ∈ l ↔ x ∈ m) → l = m
  | [], [], _, _, _ => rfl
  | [], b :: m, _, _, h => absurd ((h b).2 (List.mem_cons_self ..)) (by simp)
  | a :: l, [], _, _, h => absurd ((h a).1 (List.mem_cons_self ..)) (by simp)
  | a :: l, b :: m, hl, hm, h => by
    rw [List.pairwise_cons] at hl hm
    have hab : a = b := by
      have h1 := (h a).1 (List.mem_cons_self ..)
      have h2 := (h b).2 (List.mem_cons_self ..)
      rw [List.mem_cons] at h1 h2
      rcases h1 with h1 | h1
      · exact h1
      · rcases h2 with h2 | h2
        · exact h2.symm
        · have := hm.1 _ h1; have := hl.1 _ h2; omega
    subst hab
    congr 1
    refine rise_ext hl.2 hm.2 (fun x => ?_)
    have hx := h x
    rw [List.mem_cons, List.mem_cons] at hx
    constructor
    · intro h1
      rcases hx.1 (.inr h1) with h2 | h2
      · subst h2; have := hl.1 _ h1; omega
      · exact h2
    · intro h1
      rcases hx.2 (.inr h1) with h2 | h2
      · subst h2; have := hm.1 _ h1; omega
      · exact h2

open Go.Lib in
theorem compactUpTo_facts (zs : List Int) (hs : zs.Pairwise (· ≤ ·)) : ∀ m, m ≤ zs.length → (compactUpTo zs.toArray m).Pairwise (· < ·) ∧ (∀ x, x ∈ compactUpTo zs.toArray m ↔ ∃ (j : Nat) (h : j < zs.length), j < m ∧ zs[j] = x)
  | 0, _ => ⟨List.Pairwise.nil, fun x => ⟨fun h => absurd h (by simp [compactUpTo]), fun ⟨_, _, h, _⟩ => by omega⟩⟩
  | m + 1, hm => by
    obtain ⟨ih1, ih2⟩ := compactUpTo_facts zs hs m (by omega)
    have hlt : m < zs.length := by omega
    have em : zs.toArray[m]! = zs[m] := by simp [hlt]
    rw [compactUpTo_succ]
    by_cases hk : keeps zs.toArray m = true
    · rw [if_pos hk, em]
      refine ⟨List.pairwise_append.2 ⟨ih1, List.pairwise_singleton _ _, fun x hx y hy => ?_⟩, fun x => ?_⟩
      · rw [List.mem_singleton] at hy
        subst hy
        obtain ⟨j, hj, hjm, rfl⟩ := (ih2 x).1 hx
        unfold keeps at hk
        rw [decide_eq_true_iff] at hk
        have hm0 : m ≠ 0 := by omega
        have e1 : zs.toArray[m - 1]! = zs[m - 1] := by simp [show m - 1 < zs.length by omega]
        have hne : zs[m] ≠ zs[m - 1] := by
          rcases hk with q | q
          · exact absurd q hm0
          · rwa [em, e1] at q
        have p1 : zs[m - 1] ≤ zs[m] := List.pairwise_iff_getElem.1 hs (m - 1) m (by omega) hlt (by omega)
        have p2 : zs[j] ≤ zs[m - 1] := by
          rcases Nat.lt_or_ge j (m - 1) with q | q
          · exact List.pairwise_iff_getElem.1 hs j (m - 1) hj (by omega) q
          · have : j = m - 1 := by omega
            subst this; exact Int.le_refl _
        omega
      · rw [List.mem_append, List.mem_singleton, ih2]
        constructor
        · rintro (⟨j, hj, h1, h2⟩ | rfl)
          · exact ⟨j, hj, by omega, h2⟩
          · exact ⟨m, hlt, by omega, rfl⟩
        · rintro ⟨j, hj, h1, h2⟩
          rcases Nat.lt_or_ge j m with q | q
          · exact .inl ⟨j, hj, q, h2⟩
          · have : j = m := by omega
            subst this; exact .inr h2.symm
    · rw [if_neg hk, List.append_nil]
      refine ⟨ih1, fun x => ?_⟩
      rw [ih2]
      constructor
      · rintro ⟨j, hj, h1, h2⟩; exact ⟨j, hj, by omega, h2⟩
      · rintro ⟨j, hj, h1, h2⟩
        rcases Nat.lt_or_ge j m with q | q
        · exact ⟨j, hj, q, h2⟩
        · have : j = m := by omega
          subst this
          unfold keeps at hk
          rw [decide_eq_true_iff] at hk
          have hm0 : j ≠ 0 := fun q => hk (.inl q)
          have e1 : zs.toArray[j - 1]! = zs[j - 1] := by simp [show j - 1 < zs.length by omega]
          have he : zs[j] = zs[j - 1] := Classical.byContradiction (fun q => hk (.inr (by rw [em, e1]; exact q)))
          exact ⟨j - 1, by omega, by omega, by rw [← he]; exact h2⟩

/-- a list that was sorted, what is twice dropped -/
theorem compact_sort (l m : List Int) (hm : m.Pairwise (· < ·)) (h : ∀ x, x ∈ l ↔ x ∈ m) : Go.Lib.compact (l.mergeSort fun x y => decide (x ≤ y)) = m := by
  have hs : (l.mergeSort fun x y => decide (x ≤ y)).Pairwise (· ≤ ·) := by
    have := List.pairwise_mergeSort (le := fun (x y : Int) => decide (x ≤ y)) (fun a b c h1 h2 => by simp at *; omega) (fun a b => by simp; omega) l
    exact this.imp (fun h => by simpa using h)
  obtain ⟨h1, h2⟩ := compactUpTo_facts _ hs _ (Nat.le_refl _)
  refine rise_ext h1 hm (fun x => ?_)
  have e : x ∈ l ↔ x ∈ l.mergeSort fun x y => decide (x ≤ y) := List.mem_mergeSort.symm
  rw [← h x, e]
  refine (h2 x).trans ?_
  rw [List.mem_iff_getElem]
  constructor
  · rintro ⟨j, hj, _, e⟩; exact ⟨j, hj, e⟩
  · rintro ⟨j, hj, e⟩; exact ⟨j, hj, hj, e⟩

theorem mvd_cases : ∀ (ms : List (Int × Int)) (x : Int), (mvd ms x = x ∧ ∀ m ∈ ms, m.1 ≠ x) ∨ (x, mvd ms x) ∈ ms
  | [], x => .inl ⟨rfl, fun m hm => by cases hm⟩
  | m :: r, x => by
    unfold mvd
    by_cases h : m.1 = x
    · rw [if_pos h]; right; rw [← h]; exact List.mem_cons_self ..
    · rw [if_neg h]
      rcases mvd_cases r x with ⟨h1, h2⟩ | h1
      · refine .inl ⟨h1, fun n hn => ?_⟩
        rcases List.mem_cons.1 hn with rfl | q
        · exact h
        · exact h2 n q
      · exact .inr (List.mem_cons_of_mem _ h1)
theorem mvd_of : ∀ {ms : List (Int × Int)} {x y : Int}, (ms.map Prod.fst).Pairwise (· < ·) → (x, y) ∈ ms → mvd ms x = y
  | [], _, _, _, h => by cases h
  | m :: r, x, y, hp, h => by
    rw [List.map_cons, List.pairwise_cons] at hp
    unfold mvd
    rcases List.mem_cons.1 h with rfl | q
    · rw [if_pos rfl]
    · have : m.1 < x := hp.1 x (List.mem_map.2 ⟨_, q, rfl⟩)
      rw [if_neg (by omega)]
      exact mvd_of hp.2 q
theorem ownB_iff {xs sk : List Int} {ms : List (Int × Int)} {d : Int} : ownB xs sk ms d = true ↔ ∃ x ∈ xs, x ∉ sk ∧ mvd ms x = d := by
  unfold ownB
  rw [List.any_eq_true]
  constructor
  · rintro ⟨x, h1, h2⟩
    simp at h2
    exact ⟨x, h1, h2⟩
  · rintro ⟨x, h1, h2, h3⟩
    exact ⟨x, h1, by simp [h2, h3]⟩
theorem mem_evs {xs sk : List Int} {ms : List (Int × Int)} {a b d : Int} : d ∈ evs xs sk ms a b ↔ 0 ≤ d ∧ d ≤ 73048 ∧ a ≤ d ∧ d ≤ b ∧ ∃ x ∈ xs, x ∉ sk ∧ mvd ms x = d := by
  unfold evs
  rw [mem_From, Bool.and_eq_true, decide_eq_true_iff, ownB_iff]
  constructor
  · rintro ⟨h1, h2, ⟨h3, h4⟩, h5⟩; exact ⟨h1, h2, h3, h4, h5⟩
  · rintro ⟨h1, h2, h3, h4, h5⟩; exact ⟨h1, h2, ⟨h3, h4⟩, h5⟩
theorem evs_rise (xs sk : List Int) (ms : List (Int × Int)) (a b : Int) : (evs xs sk ms a b).Pairwise (· < ·) := From_rise _ _
theorem mem_takeWhile_rise {u : Int} {l : List Int} (h : l.Pairwise (· < ·)) {x : Int} : x ∈ l.takeWhile (fun d => decide (d ≤ u)) ↔ x ∈ l ∧ x ≤ u := by
  rw [take_rise h, List.mem_filter, decide_eq_true_iff]
theorem mem_gvn {xs sk : List Int} {ms : List (Int × Int)} {l d : Int} (h : xs.Pairwise (· < ·)) : d ∈ gvn xs sk ms l ↔ ∃ x ∈ xs, x ≤ l ∧ x ∉ sk ∧ mvd ms x = d := by
  unfold gvn
  rw [List.mem_map]
  constructor
  · rintro ⟨x, h1, h2⟩
    rw [List.mem_filter, mem_takeWhile_rise h] at h1
    exact ⟨x, h1.1.1, h1.1.2, by simpa using h1.2, h2⟩
  · rintro ⟨x, h1, h2, h3, h4⟩
    exact ⟨x, by rw [List.mem_filter, mem_takeWhile_rise h]; exact ⟨⟨h1, h2⟩, by simpa using h3⟩, h4⟩
theorem le_lastOf {ms : List (Int × Int)} (b : Int) (hp : (ms.map Prod.fst).Pairwise (· < ·)) : b ≤ lastOf ms b ∧ ∀ m ∈ ms, m.1 ≤ lastOf ms b := by
  unfold lastOf
  by_cases h : ms = []
  · subst h; simp
  · rw [dif_neg h]
    refine ⟨by omega, fun m hm => ?_⟩
    have : m.1 ≤ (ms.getLast h).1 := by
      obtain ⟨j, hj, rfl⟩ := List.mem_iff_getElem.1 hm
      rw [List.getLast_eq_getElem]
      rcases Nat.lt_or_ge j (ms.length - 1) with q | q
      · have := List.pairwise_iff_getElem.1 hp j (ms.length - 1) (by simpa using hj) (by simp; omega) q
        simp at this
        omega
      · have e : ms.length - 1 = j := by omega
        simp [e]
    omega
/-- the days of an event, as they are collected -/
theorem evs_sorted {xs sk : List Int} {ms : List (Int × Int)} {a b : Int} (hx : xs.Pairwise (· < ·)) (hx0 : ∀ x ∈ xs, 0 ≤ x ∧ x ≤ 73048) (hp : (ms.map Prod.fst).Pairwise (· < ·)) (hm : ∀ m ∈ ms, 0 ≤ m.2 ∧ m.2 ≤ 73048) :
    Go.Lib.compact ((spn a b (gvn xs sk ms (lastOf ms b))).mergeSort fun x y => decide (x ≤ y)) = evs xs sk ms a b := by
  refine compact_sort _ _ (evs_rise ..) (fun d => ?_)
  unfold spn
  rw [List.mem_filter, mem_gvn hx, mem_evs, decide_eq_true_iff]
  obtain ⟨l1, l2⟩ := le_lastOf b hp
  constructor
  · rintro ⟨⟨x, h1, h2, h3, h4⟩, h5, h6⟩
    have : 0 ≤ d ∧ d ≤ 73048 := by
      rcases mvd_cases ms x with ⟨q, _⟩ | q
      · have := hx0 x h1; rw [← h4, q]; exact this
      · have := hm _ q; rw [← h4]; exact this
    exact ⟨this.1, this.2, h5, h6, x, h1, h3, h4⟩
  · rintro ⟨_, _, h5, h6, x, h1, h3, h4⟩
    refine ⟨⟨x, h1, ?_, h3, h4⟩, h5, h6⟩
    rcases mvd_cases ms x with ⟨q, _⟩ | q
    · omega
    · exact l2 _ q
theorem spn_nil (a b : Int) : spn a b [] = [] := rfl
theorem gvn_len {xs sk : List Int} {ms : List (Int × Int)} {l : Int} : (gvn xs sk ms l).length ≤ xs.length := by
  unfold gvn
  rw [List.length_map]
  exact Nat.le_trans (List.length_filter_le _ _) (List.takeWhile_sublist _).length_le
theorem spn_len {a b : Int} {l : List Int} : (spn a b l).length ≤ l.length := List.length_filter_le _ _
end Go.Proofs.YtijdnmkkdofbeaaGreatDoor.Cal
