/- Plain mathematics: two rules that are well have one text only if they are one. -/
import Derived.Test.YtfnajhpcbajhfaaGreatDoorRuleM
namespace Go.Proofs.YtfnajhpcbajhfaaGreatDoor.Cal
open Go

theorem nm_len (d : Int) : (nm d).length = 2 := by
  unfold nm
  repeat' split
  all_goals rfl
theorem nm_inj (a b : Int) (ha : 0 ≤ a ∧ a ≤ 6) (hb : 0 ≤ b ∧ b ≤ 6) (h : nm a = nm b) : a = b := by
  have key : ∀ i j : Fin 7, nm (i.val : Int) = nm (j.val : Int) → i = j := by decide
  have := key ⟨a.toNat, by omega⟩ ⟨b.toNat, by omega⟩ (by
    have e1 : ((a.toNat : Nat) : Int) = a := by omega
    have e2 : ((b.toNat : Nat) : Int) = b := by omega
    simp only [e1, e2]; exact h)
  have h2 : a.toNat = b.toNat := by simpa using this
  omega
theorem map_nm_inj : ∀ (l k : List Int), (∀ d ∈ l, 0 ≤ d ∧ d ≤ 6) → (∀ d ∈ k, 0 ≤ d ∧ d ≤ 6) → l.map nm = k.map nm → l = k
  | [], [], _, _, _ => rfl
  | [], _ :: _, _, _, h => by simp at h
  | _ :: _, [], _, _, h => by simp at h
  | a :: l, b :: k, h1, h2, h => by
    simp only [List.map_cons, List.cons.injEq] at h
    rw [nm_inj a b (h1 a (by simp)) (h2 b (by simp)) h.1, map_nm_inj l k (fun d hd => h1 d (by simp [hd])) (fun d hd => h2 d (by simp [hd])) h.2]
/-- the days' word is cut into their names -/
theorem days_pieces {l : List Int} (h : l ≠ []) : pieces 44 (Lib.join (l.map nm) [44]) = l.map nm :=
  pieces_join 44 _ (by simpa using h) (fun x hx => by
    obtain ⟨d, _, rfl⟩ := List.mem_map.1 hx
    exact nm_no d 44 (by decide))
theorem days_word_ne {l : List Int} (h : l ≠ []) (c : List UInt8) (hc : (44 : UInt8) ∉ c) (h2 : c.length ≠ 2) : Lib.join (l.map nm) [44] ≠ c := by
  intro e
  have h1 := days_pieces h
  rw [e, pieces_no 44 c hc] at h1
  cases l with
  | nil => exact h rfl
  | cons d r =>
    simp only [List.map_cons, List.cons.injEq] at h1
    exact h2 (by rw [h1.1, nm_len])
theorem days_ne_count {l : List Int} (h : l ≠ []) : Lib.join (l.map nm) [44] ≠ countW := days_word_ne h _ (by decide) (by decide)
theorem days_ne_until {l : List Int} (h : l ≠ []) : Lib.join (l.map nm) [44] ≠ untilW := days_word_ne h _ (by decide) (by decide)

theorem days_len : ∀ (l : List Int), (Lib.join (l.map nm) [44]).length ≤ 3 * l.length
  | [] => by simp [Lib.join_nil]
  | [d] => by rw [List.map_cons, List.map_nil, Lib.join_one, nm_len]; simp
  | d :: e :: r => by
    have := days_len (e :: r)
    rw [List.map_cons, List.map_cons, join_cons2, List.length_append, List.length_append, nm_len]
    rw [List.map_cons] at this
    simp only [List.length_cons] at this ⊢
    simp only [List.length_nil]
    omega

theorem txt_inj {y m d y' m' d' : Int} (h : vld y m d) (h' : vld y' m' d') (e : txt y m d = txt y' m' d') : num y m d = num y' m' d' := by
  obtain ⟨h1, h2, h3, h4, h5, h6⟩ := h
  obtain ⟨k1, k2, k3, k4, k5, k6⟩ := h'
  have h7 := (dim_bd y m).2
  have k7 := (dim_bd y' m').2
  have a := txt_nums y m d (by omega) (by omega) (by omega) (by omega) (by omega) (by omega)
  have b := txt_nums y' m' d' (by omega) (by omega) (by omega) (by omega) (by omega) (by omega)
  rw [← e] at b
  have e1 := a.1.symm.trans b.1
  have e2 := a.2.1.symm.trans b.2.1
  have e3 := a.2.2.symm.trans b.2.2
  rw [e1, e2, e3]
theorem ut_inj {a b : RV} {t : List UInt8} (ha : UT a t) (hb : UT b t) (h1 : a.til ≠ -1) (h2 : b.til ≠ -1) : a.til = b.til := by
  rcases ha with ⟨e, _⟩ | ⟨_, y, m, d, hv, hn, ht⟩
  · exact absurd e h1
  rcases hb with ⟨e, _⟩ | ⟨_, y', m', d', hv', hn', ht'⟩
  · exact absurd e h2
  rw [← hn, ← hn']
  exact txt_inj hv hv' (by rw [← ht, ← ht'])
theorem ut_same {r : RV} {t t' : List UInt8} (h : UT r t) (h' : UT r t') : t = t' := by
  rcases h with ⟨e, rfl⟩ | ⟨e, y, m, d, hv, hn, rfl⟩
  · rcases h' with ⟨_, rfl⟩ | ⟨e', _⟩
    · rfl
    · omega
  · rcases h' with ⟨e', rfl⟩ | ⟨e', y', m', d', hv', hn', rfl⟩
    · omega
    · obtain ⟨rfl, rfl, rfl⟩ := num_inj hv hv' (by rw [hn, hn'])
      rfl
theorem ut_exists {r : RV} (h : Well r) : ∃ t, UT r t := by
  by_cases e : r.til = -1
  · exact ⟨[], Or.inl ⟨e, rfl⟩⟩
  · have := h.un
    obtain ⟨y, m, d, hv, hn⟩ := exists_date r.til (by omega) (by omega)
    exact ⟨_, Or.inr ⟨by omega, y, m, d, hv, hn, rfl⟩⟩

theorem until_inj {a b : RV} {t t' : List UInt8} (hta : UT a t) (htb : UT b t') (h : wUntil a t = wUntil b t') : a.til = b.til := by
  unfold wUntil at h
  by_cases h1 : a.til = -1
  · by_cases h2 : b.til = -1
    · rw [h1, h2]
    · rw [if_pos h1, if_neg h2] at h; simp at h
  · by_cases h2 : b.til = -1
    · rw [if_neg h1, if_pos h2] at h; simp at h
    · rw [if_neg h1, if_neg h2] at h
      simp at h
      subst h
      exact ut_inj hta htb h1 h2
theorem tail_inj {a b : RV} {t t' : List UInt8} (ha : Well a) (hb : Well b) (hta : UT a t) (htb : UT b t') (h : wCount a ++ wUntil a t = wCount b ++ wUntil b t') : a.count = b.count ∧ a.til = b.til := by
  have hcu : countW ≠ untilW := by decide
  by_cases h1 : a.count = 0
  · by_cases h2 : b.count = 0
    · have e1 : wCount a = [] := by unfold wCount; rw [if_pos h1]
      have e2 : wCount b = [] := by unfold wCount; rw [if_pos h2]
      rw [e1, e2, List.nil_append, List.nil_append] at h
      exact ⟨by rw [h1, h2], until_inj hta htb h⟩
    · exfalso
      unfold wCount wUntil at h
      rw [if_pos h1, if_neg h2] at h
      by_cases h3 : a.til = -1
      · rw [if_pos h3] at h; simp at h
      · rw [if_neg h3] at h; simp at h; exact hcu h.1.symm
  · by_cases h2 : b.count = 0
    · exfalso
      unfold wCount wUntil at h
      rw [if_neg h1, if_pos h2] at h
      by_cases h3 : b.til = -1
      · rw [if_pos h3] at h; simp at h
      · rw [if_neg h3] at h; simp at h; exact hcu h.1
    · have e1 : wCount a = [countW, Lib.itoa a.count] := by unfold wCount; rw [if_neg h1]
      have e2 : wCount b = [countW, Lib.itoa b.count] := by unfold wCount; rw [if_neg h2]
      rw [e1, e2] at h
      simp only [List.cons_append, List.nil_append, List.cons.injEq, true_and] at h
      exact ⟨itoa_inj _ _ ha.co.1 hb.co.1 h.1, until_inj hta htb h.2⟩
theorem rest_head {r : RV} {t x : List UInt8} {l : List (List UInt8)} (h : wCount r ++ wUntil r t = x :: l) : x = countW ∨ x = untilW := by
  unfold wCount wUntil at h
  by_cases h1 : r.count = 0
  · rw [if_pos h1] at h
    by_cases h3 : r.til = -1
    · rw [if_pos h3] at h; simp at h
    · rw [if_neg h3] at h; simp at h; exact Or.inr h.1.symm
  · rw [if_neg h1] at h; simp at h; exact Or.inl h.1.symm
theorem rest_inj {a b : RV} {t t' : List UInt8} (ha : Well a) (hb : Well b) (hta : UT a t) (htb : UT b t') (h : wDays a ++ (wCount a ++ wUntil a t) = wDays b ++ (wCount b ++ wUntil b t')) :
    a.days = b.days ∧ a.count = b.count ∧ a.til = b.til := by
  by_cases h1 : a.days = []
  · have e1 : wDays a = [] := by unfold wDays; rw [if_pos h1]
    by_cases h2 : b.days = []
    · have e2 : wDays b = [] := by unfold wDays; rw [if_pos h2]
      rw [e1, e2, List.nil_append, List.nil_append] at h
      exact ⟨by rw [h1, h2], tail_inj ha hb hta htb h⟩
    · have e2 : wDays b = [Lib.join (b.days.map nm) [44]] := by unfold wDays; rw [if_neg h2]
      rw [e1, e2, List.nil_append, List.singleton_append] at h
      rcases rest_head h with e | e
      · exact absurd e (days_ne_count h2)
      · exact absurd e (days_ne_until h2)
  · have e1 : wDays a = [Lib.join (a.days.map nm) [44]] := by unfold wDays; rw [if_neg h1]
    by_cases h2 : b.days = []
    · have e2 : wDays b = [] := by unfold wDays; rw [if_pos h2]
      rw [e1, e2, List.nil_append, List.singleton_append] at h
      rcases rest_head h.symm with e | e
      · exact absurd e (days_ne_count h1)
      · exact absurd e (days_ne_until h1)
    · have e2 : wDays b = [Lib.join (b.days.map nm) [44]] := by unfold wDays; rw [if_neg h2]
      rw [e1, e2, List.singleton_append, List.singleton_append, List.cons.injEq] at h
      have hd := days_pieces h1
      rw [h.1, days_pieces h2] at hd
      exact ⟨(map_nm_inj _ _ hb.ds ha.ds hd).symm, tail_inj ha hb hta htb h.2⟩
theorem words_inj {a b : RV} {t t' : List UInt8} (ha : Well a) (hb : Well b) (hta : UT a t) (htb : UT b t') (h : words a t = words b t') : a = b := by
  unfold words at h
  have hne : onceW ≠ weeklyW := by decide
  by_cases h1 : a.freq = onceW
  · rw [if_pos h1] at h
    by_cases h2 : b.freq = onceW
    · obtain ⟨x1, x2, x3⟩ := ha.on h1
      obtain ⟨y1, y2, y3⟩ := hb.on h2
      have x4 := ha.wk (by rw [h1]; exact hne)
      have y4 := hb.wk (by rw [h2]; exact hne)
      cases a; cases b
      simp only at h1 h2 x1 x2 x3 x4 y1 y2 y3 y4
      subst h1 h2 x1 x2 x3 x4 y1 y2 y3 y4
      rfl
    · rw [if_neg h2] at h; simp at h
  · rw [if_neg h1] at h
    by_cases h2 : b.freq = onceW
    · rw [if_pos h2] at h; simp at h
    · rw [if_neg h2] at h
      simp only [List.cons.injEq] at h
      obtain ⟨x1, x2, x3⟩ := h
      have x2' := itoa_inj _ _ (by have := ha.ev; omega) (by have := hb.ev; omega) x2
      obtain ⟨z1, z2, z3⟩ := rest_inj ha hb hta htb x3
      cases a; cases b
      simp only at x1 x2' z1 z2 z3
      subst x1 x2' z1 z2 z3
      rfl
theorem rtext_inj {a b : RV} {t t' : List UInt8} (ha : Well a) (hb : Well b) (hta : UT a t) (htb : UT b t') (h : rtext a t = rtext b t') : a = b := by
  refine words_inj ha hb hta htb ?_
  rw [← rtext_pieces ha hta, ← rtext_pieces hb htb, h]

theorem join_len (c : UInt8) : ∀ (ws : List (List UInt8)), (Lib.join ws [c]).length ≤ (ws.map (fun x => x.length + 1)).sum
  | [] => by simp [Lib.join_nil]
  | [x] => by rw [Lib.join_one]; simp
  | x :: y :: r => by
    have := join_len c (y :: r)
    rw [join_cons2, List.length_append, List.length_append, List.map_cons, List.sum_cons]
    simp only [List.length_singleton]
    omega
theorem ut_len {r : RV} {t : List UInt8} (h : UT r t) : t.length ≤ 10 := by
  rcases h with ⟨_, rfl⟩ | ⟨_, y, m, d, _, _, rfl⟩
  · simp
  · rw [txt_length]; omega
theorem rtext_len {r : RV} {t : List UInt8} (h : Well r) (ht : UT r t) (h20 : r.days.length ≤ 20) : (rtext r t).length ≤ 1000 := by
  have h1 : r.freq.length ≤ 7 := by rcases h.fr with e | e | e | e | e <;> rw [e] <;> decide
  have h2 := itoa_len r.every (by have := h.ev; omega) (by have := h.ev; omega)
  have h3 := itoa_len r.count (by have := h.co; omega) (by have := h.co; omega)
  have h4 := ut_len ht
  have h5 := days_len r.days
  have h6 : countW.length = 5 := rfl
  have h7 : untilW.length = 5 := rfl
  have h8 : onceW.length = 4 := rfl
  refine Nat.le_trans (join_len 32 _) ?_
  unfold words
  split
  · simp [h8]
  · simp only [List.map_cons, List.map_append, List.sum_cons, List.sum_append]
    have a1 : ((wDays r).map (fun x => x.length + 1)).sum ≤ 61 := by
      unfold wDays; split
      · simp
      · simp; omega
    have a2 : ((wCount r).map (fun x => x.length + 1)).sum ≤ 20 := by
      unfold wCount; split
      · simp
      · simp [h6]; omega
    have a3 : ((wUntil r t).map (fun x => x.length + 1)).sum ≤ 20 := by
      unfold wUntil; split
      · simp
      · simp [h7]; omega
    omega
theorem words_len (r : RV) (t : List UInt8) : (words r t).length ≤ 7 := by
  unfold words wDays wCount wUntil
  repeat' split
  all_goals simp
end Go.Proofs.YtfnajhpcbajhfaaGreatDoor.Cal
