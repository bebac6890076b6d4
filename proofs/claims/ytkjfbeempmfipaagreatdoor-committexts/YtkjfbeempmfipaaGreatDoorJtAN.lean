/- Plain mathematics: two rules that are well have one text only if they are one. -/
import Derived.Test.YtkjfbeempmfipaaGreatDoorJtAH
import Derived.Lib.SplitLaws
import Derived.Test.YtkjfbeempmfipaaGreatDoorJtAB
import Derived.Test.YtkjfbeempmfipaaGreatDoorJtAF
import Derived.Shelf.Abstract
import Derived.Shelf.RegionOpen
import Derived.WalkKit
import Derived.OwnWalkIn
import Derived.TacticsInMore
import Derived.LoopNIn
import Derived.LoopIn
import Derived.BigRegion
namespace Go.Proofs.YtkjfbeempmfipaaGreatDoor.Cal
open Go

theorem nm_len (d : Int) : (nm d).length = 2 := by
  unfold nm
  repeat' split
  all_goals rfl
theorem nm_inj (a b : Int) (ha : 0 ≤ a ∧ a ≤ 6) (hb : 0 ≤ b ∧ b ≤ 6) (h : nm a = nm b) : a = b := by
  have key : ∀ i j : Fin 7, nm (i.val : Int) = nm (j.val : Int) → i = j := by decide
  have := key ⟨a.toNat, by omega⟩ ⟨b.toNat, by omega⟩ (by
    have e1 : ((a.toNat : Nat) : Int) = a := by omega
    have e2 : ((b.toNat : Nat) : Int) = b := by omega
    simp only [e1, e2]; exact h)
  have h2 : a.toNat = b.toNat := by simpa using this
  omega
theorem map_nm_inj : ∀ (l k : List Int), (∀ d ∈ l, 0 ≤ d ∧ d ≤ 6) → (∀ d ∈ k, 0 ≤ d ∧ d ≤ 6) → l.map nm = k.map nm → l = k
  | [], [], _, _, _ => rfl
  | [], _ :: _, _, _, h => by simp at h
  | _ :: _, [], _, _, h => by simp at h
  | a :: l, b :: k, h1, h2, h => by
    simp only [List.map_cons, List.cons.injEq] at h
    rw [nm_inj a b (h1 a (by simp)) (h2 b (by simp)) h.1, map_nm_inj l k (fun d hd => h1 d (by simp [hd])) (fun d hd => h2 d (by simp [hd])) h.2]
/-- the days' word is cut into their names -/
theorem days_pieces {l : List Int} (h : l ≠ []) : pieces 44 (Lib.join (l.map nm) [44]) = l.map nm :=
  pieces_join 44 _ (by simpa using h) (fun x hx => by
    obtain ⟨d, _, rfl⟩ := List.mem_map.1 hx
    exact nm_no d 44 (by decide))
theorem days_word_ne {l : List Int} (h : l ≠ []) (c : List UInt8) (hc : (44 : UInt8) ∉ c) (h2 : c.length ≠ 2) : Lib.join (l.map nm) [44] ≠ c := by
  intro e
  have h1 := days_pieces h
  rw [e, pieces_no 44 c hc] at h1
  cases l with
  | nil => exact h rfl
  | cons d r =>
    simp only [List.map_cons, List.cons.injEq] at h1
    exact h2 (by rw [h1.1, nm_len])
theorem days_ne_count {l : List Int} (h : l ≠ []) : Lib.join (l.map nm) [44] ≠ countW := days_word_ne h _ (by decide) (by decide)
theorem days_ne_until {l : List Int} (h : l ≠ []) : Lib.join (l.map nm) [44] ≠ untilW := days_word_ne h _ (by decide) (by decide)

theorem days_len : ∀ (l : List Int), (Lib.join (l.map nm) [44]).length ≤ 3 * l.length
  | [] => by simp [Lib.join_nil]
  | [d] => by rw [List.map_cons, List.map_nil, Lib.join_one, nm_len]; simp
  | d :: e :: r => by
    have := days_len (e :: r)
    rw [List.map_cons, List.map_cons, join_cons2, List.length_append, List.length_append, nm_len]
    rw [List.map_cons] at this
    simp only [List.length_cons] at this ⊢
    simp only [List.length_nil]
    omega

theorem txt_inj {y m d y' m' d' : Int} (h : vld y m d) (h' : vld y' m' d') (e : txt y m d = txt y' m' d') : num y m d = num y' m' d' := by
  obtain ⟨h1, h2, h3, h4, h5, h6⟩ := h
  obtain ⟨k1, k2, k3, k4, k5, k6⟩ := h'
  have h7 := (dim_bd y m).2
  have k7 := (dim_bd y' m').2
  have a := txt_nums y m d (by omega) (by omega) (by omega) (by omega) (by omega) (by omega)
  have b := txt_nums y' m' d' (by omega) (by omega) (by omega) (by omega) (by omega) (by omega)
  rw [← e] at b
  have e1 := a.1.symm.trans b.1
  have e2 := a.2.1.symm.trans b.2.1
  have e3 := a.2.2.symm.trans b.2.2
  rw [e1, e2, e3]
theorem ut_inj {a b : RV} {t : List UInt8} (ha : UT a t) (hb : UT b t) (h1 : a.til ≠ -1) (h2 : b.til ≠ -1) : a.til = b.til := by
  rcases ha with ⟨e, _⟩ | ⟨_, y, m, d, hv, hn, ht⟩
  · exact absurd e h1
  rcases hb with ⟨e, _⟩ | ⟨_, y', m', d', hv', hn', ht'⟩
  · exact absurd e h2
  rw [← hn, ← hn']
  exact txt_inj hv hv' (by rw [← ht, ← ht'])
theorem ut_same {r : RV} {t t' : List UInt8} (h : UT r t) (h' : UT r t') : t = t' := by
  rcases h with ⟨e, rfl⟩ | ⟨e, y, m, d, hv, hn, rfl⟩
  · rcases h' with ⟨_, rfl⟩ | ⟨e', _⟩
    · rfl
    · omega
  · rcases h' with ⟨e', rfl⟩ | ⟨e', y', m', d', hv', hn', rfl⟩
    · omega
    · obtain ⟨rfl, rfl, rfl⟩ := num_inj hv hv' (by rw [hn, hn'])
      rfl
theorem ut_exists {r : RV} (h : Well r) : ∃ t, UT r t := by
  by_cases e : r.til = -1
  · exact ⟨[], Or.inl ⟨e, rfl⟩⟩
  · have := h.un
    obtain ⟨y, m, d, hv, hn⟩ := exists_date r.til (by omega) (by omega)
    exact ⟨_, Or.inr ⟨by omega, y, m, d, hv, hn, rfl⟩⟩

theorem until_inj {a b : RV} {t t' : List UInt8} (hta : UT a t) (htb : UT b t') (h : wUntil a t = wUntil b t') : a.til = b.til := by
  unfold wUntil at h
  by_cases h1 : a.til = -1
  · by_cases h2 : b.til = -1
    · rw [h1, h2]
    · rw [if_pos h1, if_neg h2] at h; simp at h
  · by_cases h2 : b.til = -1
    · rw [if_neg h1, if_pos h2] at h; simp at h
    · rw [if_neg h1, if_neg h2] at h
      simp at h
      subst h
      exact ut_inj hta htb h1 h2
theorem tail_inj {a b : RV} {t t' : List UInt8} (ha : Well a) (hb : Well b) (hta : UT a t) (htb : UT b t') (h : wCount a ++ wUntil a t = wCount b ++ wUntil b t') : a.count = b.count ∧ a.til = b.til := by
  have hcu : countW ≠ untilW := by decide
  by_cases h1 : a.count = 0
  · by_cases h2 : b.count = 0
    · have e1 : wCount a = [] := by unfold wCount; rw [if_pos h1]
      have e2 : wCount b = [] := by unfold wCount; rw [if_pos h2]
      rw [e1, e2, List.nil_append, List.nil_append] at h
      exact ⟨by rw [h1, h2], until_inj hta htb h⟩
    · exfalso
      unfold wCount wUntil at h
      rw [if_pos h1, if_neg h2] at h
      by_cases h3 : a.til = -1
      · rw [if_pos h3] at h; simp at h
      · rw [if_neg h3] at h; simp at h; exact hcu h.1.symm
  · by_cases h2 : b.count = 0
    · exfalso
      unfold wCount wUntil at h
      rw [if_neg h1, if_pos h2] at h
      by_cases h3 : b.til = -1
      · rw [if_pos h3] at h; simp at h
      · rw [if_neg h3] at h; simp at h; exact hcu h.1
    · have e1 : wCount a = [countW, Lib.itoa a.count] := by unfold wCount; rw [if_neg h1]
      have e2 : wCount b = [countW, Lib.itoa b.count] := by unfold wCount; rw [if_neg h2]
      rw [e1, e2] at h
      simp only [List.cons_append, List.nil_append, List.cons.injEq, true_and] at h
      exact ⟨itoa_inj _ _ ha.co.1 hb.co.1 h.1, until_inj hta htb h.2⟩
theorem rest_head {r : RV} {t x : List UInt8} {l : List (List UInt8)} (h : wCount r ++ wUntil r t = x :: l) : x = countW ∨ x = untilW := by
  unfold wCount wUntil at h
  by_cases h1 : r.count = 0
  · rw [if_pos h1] at h
    by_cases h3 : r.til = -1
    · rw [if_pos h3] at h; simp at h
    · rw [if_neg h3] at h; simp at h; exact Or.inr h.1.symm
  · rw [if_neg h1] at h; simp at h; exact Or.inl h.1.symm
theorem rest_inj {a b : RV} {t t' : List UInt8} (ha : Well a) (hb : Well b) (hta : UT a t) (htb : UT b t') (h : wDays a ++ (wCount a ++ wUntil a t) = wDays b ++ (wCount b ++ wUntil b t')) :
    a.days = b.days ∧ a.count = b.count ∧ a.til = b.til := by
  by_cases h1 : a.days = []
  · have e1 : wDays a = [] := by unfold wDays; rw [if_pos h1]
    by_cases h2 : b.days = []
    · have e2 : wDays b = [] := by unfold wDays; rw [if_pos h2]
      rw [e1, e2, List.nil_append, List.nil_append] at h
      exact ⟨by rw [h1, h2], tail_inj ha hb hta htb h⟩
    · have e2 : wDays b = [Lib.join (b.days.map nm) [44]] := by unfold wDays; rw [if_neg h2]
      rw [e1, e2, List.nil_append, List.singleton_append] at h
      rcases rest_head h with e | e
      · exact absurd e (days_ne_count h2)
      · exact absurd e (days_ne_until h2)
  · have e1 : wDays a = [Lib.join (a.days.map nm) [44]] := by unfold wDays; rw [if_neg h1]
    by_cases h2 : b.days = []
    · have e2 : wDays b = [] := by unfold wDays; rw [if_pos h2]
      rw [e1, e2, List.nil_append, List.singleton_append] at h
      rcases rest_head h.symm with e | e
      · exact absurd e (days_ne_count h1)
      · exact absurd e (days_ne_until h1)
    · have e2 : wDays b = [Lib.join (b.days.map nm) [44]] := by unfold wDays; rw [if_neg h2]
      rw [e1, e2, List.singleton_append, List.singleton_append, List.cons.injEq] at h
      have hd := days_pieces h1
      rw [h.1, days_pieces h2] at hd
      exact ⟨(map_nm_inj _ _ hb.ds ha.ds hd).symm, tail_inj ha hb hta htb h.2⟩
theorem words_inj {a b : RV} {t t' : List UInt8} (ha : Well a) (hb : Well b) (hta : UT a t) (htb : UT b t') (h : words a t = words b t') : a = b := by
  unfold words at h
  have hne : onceW ≠ weeklyW := by decide
  by_cases h1 : a.freq = onceW
  · rw [if_pos h1] at h
    by_cases h2 : b.freq = onceW
    · obtain ⟨x1, x2, x3⟩ := ha.on h1
      obtain ⟨y1, y2, y3⟩ := hb.on h2
      have x4 := ha.wk (by rw [h1]; exact hne)
      have y4 := hb.wk (by rw [h2]; exact hne)
      cases a; cases b
      simp only at h1 h2 x1 x2 x3 x4 y1 y2 y3 y4
      subst h1 h2 x1 x2 x3 x4 y1 y2 y3 y4
      rfl
    · rw [if_neg h2] at h; simp at h
  · rw [if_neg h1] at h
    by_cases h2 : b.freq = onceW
    · rw [if_pos h2] at h; simp at h
    · rw [if_neg h2] at h
      simp only [List.cons.injEq] at h
      obtain ⟨x1, x2, x3⟩ := h
      have x2' := itoa_inj _ _ (by have := ha.ev; omega) (by have := hb.ev; omega) x2
      obtain ⟨z1, z2, z3⟩ := rest_inj ha hb hta htb x3
      cases a; cases b
      simp only at x1 x2' z1 z2 z3
      subst x1 x2' z1 z2 z3
      rfl
theorem rtext_inj {a b : RV} {t t' : List UInt8} (ha : Well a) (hb : Well b) (hta : UT a t) (htb : UT b t') (h : rtext a t = rtext b t') : a = b := by
  refine words_inj ha hb hta htb ?_
  rw [← rtext_pieces ha hta, ← rtext_pieces hb htb, h]

theorem join_len (c : UInt8) : ∀ (ws : List (List UInt8)), (Lib.join ws [c]).length ≤ (ws.map (fun x => x.length + 1)).sum
  | [] => by simp [Lib.join_nil]
  | [x] => by rw [Lib.join_one]; simp
  | x :: y :: r => by
    have := join_len c (y :: r)
    rw [join_cons2, List.length_append, List.length_append, List.map_cons, List.sum_cons]
    simp only [List.length_singleton]
    omega
theorem ut_len {r : RV} {t : List UInt8} (h : UT r t) : t.length ≤ 10 := by
  rcases h with ⟨_, rfl⟩ | ⟨_, y, m, d, _, _, rfl⟩
  · simp
  · rw [txt_length]; omega
theorem rtext_len {r : RV} {t : List UInt8} (h : Well r) (ht : UT r t) (h20 : r.days.length ≤ 20) : (rtext r t).length ≤ 1000 := by
  have h1 : r.freq.length ≤ 7 := by rcases h.fr with e | e | e | e | e <;> rw [e] <;> decide
  have h2 := itoa_len r.every (by have := h.ev; omega) (by have := h.ev; omega)
  have h3 := itoa_len r.count (by have := h.co; omega) (by have := h.co; omega)
  have h4 := ut_len ht
  have h5 := days_len r.days
  have h6 : countW.length = 5 := rfl
  have h7 : untilW.length = 5 := rfl
  have h8 : onceW.length = 4 := rfl
  refine Nat.le_trans (join_len 32 _) ?_
  unfold words
  split
  · simp [h8]
  · simp only [List.map_cons, List.map_append, List.sum_cons, List.sum_append]
    have a1 : ((wDays r).map (fun x => x.length + 1)).sum ≤ 61 := by
      unfold wDays; split
      · simp
      · simp; omega
    have a2 : ((wCount r).map (fun x => x.length + 1)).sum ≤ 20 := by
      unfold wCount; split
      · simp
      · simp [h6]; omega
    have a3 : ((wUntil r t).map (fun x => x.length + 1)).sum ≤ 20 := by
      unfold wUntil; split
      · simp
      · simp [h7]; omega
    omega
theorem words_len (r : RV) (t : List UInt8) : (words r t).length ≤ 7 := by
  unfold words wDays wCount wUntil
  repeat' split
  all_goals simp
end Go.Proofs.YtkjfbeempmfipaaGreatDoor.Cal

/- The texts of an event's lists in plain mathematics. -/
namespace Go.Proofs.YtkjfbeempmfipaaGreatDoor
open Go Cal

open Classical in
/-- a day's text -/
noncomputable def dtx (n : Int) : List UInt8 := if h : ∃ t : List UInt8, ∃ y m d : Int, vld y m d ∧ num y m d = n ∧ t = txt y m d then h.choose else []
theorem dtx_ok {n : Int} (h0 : 0 ≤ n) (h1 : n ≤ 73048) : ∃ y m d : Int, vld y m d ∧ num y m d = n ∧ dtx n = txt y m d := by
  obtain ⟨y, m, d, hv, hn⟩ := exists_date n h0 h1
  have h : ∃ t : List UInt8, ∃ y m d : Int, vld y m d ∧ num y m d = n ∧ t = txt y m d := ⟨_, y, m, d, hv, hn, rfl⟩
  have hs := h.choose_spec
  unfold dtx
  rw [dif_pos h]
  exact hs
theorem dtx_cases (n : Int) : dtx n = [] ∨ ∃ y m d : Int, vld y m d ∧ num y m d = n ∧ dtx n = txt y m d := by
  by_cases h : ∃ t : List UInt8, ∃ y m d : Int, vld y m d ∧ num y m d = n ∧ t = txt y m d
  · have hs := h.choose_spec
    right
    unfold dtx
    rw [dif_pos h]
    exact hs
  · left; unfold dtx; rw [dif_neg h]
theorem dtx_len (n : Int) : (dtx n).length ≤ 10 := by
  rcases dtx_cases n with h | ⟨y, m, d, _, _, h⟩
  · rw [h]; simp
  · rw [h, txt_length]; exact Nat.le_refl _
theorem txt_most {y m d : Int} (h : vld y m d) : ∀ c ∈ txt y m d, c.toNat ≤ 57 := by
  obtain ⟨h1, h2, h3, h4, h5, h6⟩ := h
  have := (dim_bd y m).2
  intro c hc
  unfold txt four two at hc
  simp only [List.mem_append, List.mem_cons, List.not_mem_nil, or_false] at hc
  rcases hc with ((((rfl | rfl | rfl | rfl) | rfl) | rfl | rfl) | rfl) | rfl | rfl
  all_goals first
    | (rw [dgt_nat _ (by omega) (by omega)]; omega)
    | decide
    | skip
theorem dtx_signs (n : Int) : ∀ c ∈ dtx n, 45 ≤ c.toNat ∧ c.toNat ≤ 57 := by
  intro c hc
  rcases dtx_cases n with h | ⟨y, m, d, hv, _, h⟩
  · rw [h] at hc; simp at hc
  · rw [h] at hc; exact ⟨txt_signs hv c hc, txt_most hv c hc⟩
theorem dtx_no (n : Int) (c : UInt8) (hc : c.toNat < 45 ∨ 57 < c.toNat) : c ∉ dtx n := fun h => by have := dtx_signs n c h; omega

/-- a move's text -/
noncomputable def mtx (m : Int × Int) : List UInt8 := dtx m.1 ++ 62 :: dtx m.2
theorem mtx_len (m : Int × Int) : (mtx m).length ≤ 21 := by
  have := dtx_len m.1
  have := dtx_len m.2
  unfold mtx
  simp
  omega
theorem mtx_no (m : Int × Int) (c : UInt8) (hc : c.toNat < 45 ∨ 62 < c.toNat) : c ∉ mtx m := by
  unfold mtx
  intro h
  rcases List.mem_append.1 h with h | h
  · exact dtx_no _ c (by omega) h
  · rcases List.mem_cons.1 h with rfl | h
    · simp at hc
    · exact dtx_no _ c (by omega) h
theorem mtx_pieces (m : Int × Int) : pieces 62 (mtx m) = [dtx m.1, dtx m.2] := by
  unfold mtx
  rw [pieces_at 62 _ _ (dtx_no _ _ (by decide)), pieces_no 62 _ (dtx_no _ _ (by decide))]
theorem mtx_count (m : Int × Int) : (mtx m).count 62 = 1 := by
  unfold mtx
  rw [List.count_append, List.count_eq_zero.2 (dtx_no _ _ (by decide)), List.count_cons_self, List.count_eq_zero.2 (dtx_no _ _ (by decide))]
theorem index_at (c : UInt8) (t : List UInt8) : ∀ (a : List UInt8), c ∉ a → Lib.indexByte (a ++ c :: t) c = a.length
  | [], _ => by unfold Lib.indexByte; simp
  | x :: a, h => by
    have hx : (x == c) = false := by rw [beq_eq_false_iff_ne]; exact fun q => h (by simp [q])
    have ih := index_at c t a (fun q => h (List.mem_cons_of_mem _ q))
    rw [List.cons_append, Lib.indexByte, hx, ih]
    have : (((a.length : Nat) : Int) == -1) = false := by rw [beq_eq_false_iff_ne]; omega
    rw [this]
    simp
theorem mtx_index (m : Int × Int) : Lib.indexByte (mtx m) 62 = (dtx m.1).length := index_at 62 _ _ (dtx_no _ _ (by decide))

/-- a list's text is cut into its pieces' texts -/
theorem list_pieces {l : List (List UInt8)} (h : l ≠ []) (hn : ∀ x ∈ l, (44 : UInt8) ∉ x) : pieces 44 (Lib.join l [44]) = l := pieces_join 44 l h hn
theorem join_nil (sep : List UInt8) : Lib.join [] sep = [] := rfl
theorem join_ne {l : List (List UInt8)} (h : l ≠ []) (hn : ∀ x ∈ l, x ≠ []) : Lib.join l [44] ≠ [] := by
  match l, h with
  | [x], _ => 
    have := hn x (by simp)
    simpa [Lib.join] using this
  | x :: y :: r, _ => rw [join_cons2]; have := hn x (by simp); simp

/-- strings.Split's pieces at one sign -/
theorem splitB_one (c : UInt8) : ∀ (k : Nat) (s : ByteArray), Lib.countB s ⟨#[c]⟩ = k → (Lib.splitB ⟨#[c]⟩ 0 k s).map (·.data.toList) = pieces c s.data.toList := by
  intro k
  induction k with
  | zero =>
    intro s h
    have h' : s.data.toList.count c = 0 := by rw [← Lib.count_one]; exact h
    rw [Lib.splitB_zero, pieces_no c _ (List.count_eq_zero.1 h')]; rfl
  | succ k ih =>
    intro s h
    have h' : s.data.toList.count c = k + 1 := by rw [← Lib.count_one]; exact h
    have hm : c ∈ s.data.toList := List.count_pos_iff.1 (by omega)
    have hi : Lib.indexB s ⟨#[c]⟩ = Lib.indexByte s.data.toList c := Lib.index_one _ _
    obtain ⟨i, hi'⟩ : ∃ i : Nat, Lib.indexByte s.data.toList c = i := by
      have := Lib.indexByte_ge s.data.toList c
      by_cases q : Lib.indexByte s.data.toList c = -1
      · obtain ⟨j, hj, he⟩ := List.mem_iff_getElem.1 hm
        exact absurd (by rw [List.getElem?_eq_some_iff]; exact ⟨hj, he⟩) (Lib.indexByte_none q j)
      · exact ⟨(Lib.indexByte s.data.toList c).toNat, by omega⟩
    rw [Lib.splitB_hit _ _ _ _ i (hi.trans hi'), pieces_found hi', List.map_cons, Lib.extract_from_zero]
    have e2 : (s.extract (i + ByteArray.size ⟨#[c]⟩) s.size).data.toList = s.data.toList.drop (i + 1) := Lib.extract_to_end _ _
    refine List.cons_eq_cons.2 ⟨rfl, ?_⟩
    rw [ih _ ?_, e2]
    show Lib.count _ _ = k
    rw [show (ByteArray.data ⟨#[c]⟩).toList = [c] from rfl, Lib.count_one, e2]
    obtain ⟨h1, h2⟩ := Lib.indexByte_some hi'
    obtain ⟨hl, he⟩ := List.getElem?_eq_some_iff.1 h1
    have hz : (s.data.toList.take i).count c = 0 := List.count_eq_zero.2 (fun q => by
      obtain ⟨j, hj, he⟩ := List.mem_iff_getElem.1 q
      rw [List.length_take] at hj
      rw [List.getElem_take] at he
      exact h2 j (by omega) (by rw [List.getElem?_eq_some_iff]; exact ⟨by omega, he⟩))
    have hsum : s.data.toList.count c = (s.data.toList.take i).count c + ((s.data.toList.drop (i + 1)).count c + 1) := by
      conv => lhs; rw [← List.take_append_drop i s.data.toList, List.drop_eq_getElem_cons hl, he]
      rw [List.count_append, List.count_cons_self]
    omega
end Go.Proofs.YtkjfbeempmfipaaGreatDoor

/- The iterator of strings.SplitSeq at a separator of one sign: it gives a text's pieces, one by one; between two rounds it writes its own variable. -/
namespace Go.Proofs.YtkjfbeempmfipaaGreatDoor
open Go Go.RowKit Go.Shelf Cal
attribute [local go_sem] Oper.semAt_some

theorem ba_ext {a b : ByteArray} (h : a.data.toList = b.data.toList) : a = b := by
  obtain ⟨⟨x⟩⟩ := a
  obtain ⟨⟨y⟩⟩ := b
  have : x = y := h
  subst this
  rfl

/-- what is left of the text, read off the world -/
def leftOf (W : World) (B : Nat) : Nat := match W.cell? ⟨B, 0, none⟩ with
  | some (.string s) => s.size + 1
  | _ => 0

/-- the iterator's three variables -/
structure Its (W : World) (Bs Bp Bv : Nat) (s : ByteArray) (c : UInt8) : Prop where
  s : Boxed W Bs 9 (.string s)
  p : Boxed W Bp 9 (.string ⟨#[c]⟩)
  v : Boxed W Bv 3 (.int .i64 0)

theorem leftOf_eq {W : World} {B : Nat} {s : ByteArray} {t : TypeId} (h : Boxed W B t (.string s)) : leftOf W B = s.size + 1 := by
  unfold leftOf; rw [h.cell]

end Go.Proofs.YtkjfbeempmfipaaGreatDoor

/- strings.Split, strings.Cut and package event's itemsOf, at one sign. -/
namespace Go.Proofs.YtkjfbeempmfipaaGreatDoor
open Go Go.RowKit Go.Shelf Cal
attribute [local go_sem] Oper.semAt_some

/-- the row of a text's pieces -/
def pcO (ws : List (List UInt8)) : Obj := .cells (ws.map sv).toArray 9
/-- words in memory -/
def Wds (W : World) (v : Value) (ws : List (List UInt8)) : Prop :=
  ∃ (a : Option Addr) (c : Nat), v = .slice a ws.length c ∧ ws.length ≤ c ∧ ∀ (j : Nat) (h : j < ws.length), ∃ b, a = some ⟨b, 0, none⟩ ∧ b < W.heap.size ∧ W.cell? ⟨b, j, none⟩ = some (sv ws[j])
theorem Wds.step {W W' : World} {v : Value} {ws : List (List UInt8)} (h : Wds W v ws) (hb : Below W.heap.size W W') : Wds W' v ws := by
  obtain ⟨a, c, h1, h2, h3⟩ := h
  refine ⟨a, c, h1, h2, fun j hj => ?_⟩
  obtain ⟨b, e, hl, hc⟩ := h3 j hj
  exact ⟨b, e, Nat.lt_of_lt_of_le hl hb.size, cell_step hc hb⟩
theorem Wds.nil (W : World) (c : Nat) : Wds W (.slice none 0 c) [] := ⟨none, c, rfl, by simp, fun j h => absurd h (by simp)⟩
theorem Wds.new (w : World) (ws : List (List UInt8)) : Wds (w.alloc (pcO ws)) (.slice (some ⟨w.heap.size, 0, none⟩) ws.length ws.length) ws := by
  refine ⟨_, _, rfl, Nat.le_refl _, fun j hj => ⟨w.heap.size, rfl, by rw [World.size_alloc]; exact Nat.lt_succ_self _, ?_⟩⟩
  unfold pcO
  rw [World.cell?_alloc_new]
  simp [List.getElem?_eq_getElem hj]

theorem genSplit_any (s : ByteArray) (c : UInt8) (w : World) (hs : s.size ≤ 1000000) :
    Calls Tryz.prog 53 #[.string s, .string ⟨#[c]⟩, .int .i64 0, .int .i64 (-1)] w fun r w' =>
      r = .returned (.slice (some ⟨w.heap.size, 0, none⟩) (pieces c s.data.toList).length (pieces c s.data.toList).length) ∧ w' = w.alloc (pcO (pieces c s.data.toList)) := by
  have h1 : 1 ≤ ByteArray.size ⟨#[c]⟩ := Nat.le_refl 1
  have hle := Lib.countB_le ⟨#[c]⟩ h1 s.size s (Nat.le_refl _)
  have hlen := Lib.splitB_all ⟨#[c]⟩ h1 0 _ s rfl
  have hp := splitB_one c _ s rfl
  have k := Any.strings_genSplit_core Tryz.lays221 (by kernel_rfl) s ⟨#[c]⟩ 0 (-1) (Lib.countB s ⟨#[c]⟩ + 1) w (by omega) h1 (Nat.zero_le _)
    (fun x cs _ => (Tryz.strings_Index_one x c _).mono (fun e w' h => ⟨by rw [h.1]; exact congrArg (fun n => Ending.returned (.int .i64 n)) (Lib.index_one x.data.toList c).symm, h.2⟩))
    ((Tryz.strings_Count_one s c w).mono (fun e w' h => ⟨by rw [h.1]; exact congrArg (fun n : Nat => Ending.returned (.int .i64 (n : Int))) (Lib.count_one c s.data.toList).symm, h.2⟩))
    (by decide) (by decide) (by rw [if_pos (by decide)]; omega)
  rw [Nat.add_sub_cancel, hlen] at k
  have e1 : (pieces c s.data.toList).length = Lib.countB s ⟨#[c]⟩ + 1 := by rw [← hp, List.length_map, hlen]
  have e2 : Lib.cellsOf (Lib.splitB ⟨#[c]⟩ 0 (Lib.countB s ⟨#[c]⟩) s) (Lib.countB s ⟨#[c]⟩ + 1) = ((pieces c s.data.toList).map sv).toArray := by
    rw [← hlen, Lib.cellsOf_full, ← hp, List.map_map]
    rfl
  rw [e2] at k
  unfold pcO
  rw [e1]
  exact k

theorem split_any (s : ByteArray) (c : UInt8) (w : World) (hs : s.size ≤ 1000000) :
    Calls Tryz.prog 36 #[.string s, .string ⟨#[c]⟩] w fun r w' =>
      r = .returned (.slice (some ⟨w.heap.size, 0, none⟩) (pieces c s.data.toList).length (pieces c s.data.toList).length) ∧ w' = w.alloc (pcO (pieces c s.data.toList)) := by
  have G : Hid (_) := genSplit_any s c w hs
  generalize pieces c s.data.toList = ws at G ⊢
  go_enter Tryz.func36, Tryz.ntmps36
  go_wp2_with (go_at_call 53; refine Calls.mono G.out ?_; rintro r w' ⟨rfl, rfl⟩)
  go_ret
  exact ⟨rfl, rfl⟩

set_option maxHeartbeats 1000000 in
theorem slCut_any (m : Int × Int) (w : World) :
    Calls Tryz.prog 52 #[.string (bs (mtx m)), .string ⟨#[62]⟩] w fun r w' => r = .returned (.tuple #[.string (bs (dtx m.1)), .string (bs (dtx m.2)), .bool true]) ∧ Below w.heap.size w w' := by
  have hi := mtx_index m
  have hlen : (bs (mtx m)).size = (dtx m.1).length + (1 + (dtx m.2).length) := by show (mtx m).toArray.size = _; unfold mtx; simp; omega
  have hl1 := dtx_len m.1
  have e1 : (bs (mtx m)).extract 0 (dtx m.1).length = bs (dtx m.1) := ba_ext (by rw [Lib.extract_from_zero, bs_data, bs_data]; unfold mtx; simp)
  have e2 : (bs (mtx m)).extract ((dtx m.1).length + 1) (bs (mtx m)).size = bs (dtx m.2) := ba_ext (by rw [Lib.extract_to_end, bs_data, bs_data]; unfold mtx; simp)
  have I : Hid (∀ W, Calls Tryz.prog 75 #[.string (bs (mtx m)), .string ⟨#[62]⟩] W fun r w' => r = .returned (.int .i64 (dtx m.1).length) ∧ w' = W) := fun W => by
    have := Tryz.stringslite_Index_one (bs (mtx m)) 62 W
    rw [bs_data, hi] at this
    exact this
  generalize bs (mtx m) = s at hlen e1 e2 I ⊢
  generalize bs (dtx m.1) = s1 at e1 ⊢
  generalize bs (dtx m.2) = s2 at e2 ⊢
  generalize (dtx m.1).length = i at hlen hl1 e1 e2 I
  generalize (dtx m.2).length = j at hlen
  have c1 : (0 : Int) ≤ (i : Int) := by omega
  have c2 : (i : Int) ≤ (s.size : Int) := by omega
  have c3 : (0 : Int) ≤ (i : Int) + 1 := by omega
  have c4 : (i : Int) + 1 ≤ (s.size : Int) := by omega
  have E1 : Hid (_) := e1
  have E2 : Hid (_) := e2
  clear e1 e2 hi hlen
  go_enter Tryz.func52, Tryz.ntmps52
  go_wp2_with (go_at_call 75; refine Calls.mono (I.out _) ?_; rintro r w' ⟨rfl, rfl⟩)
  go_region
  go_wp2
  go_ret3
  refine ⟨?_, drew_below _⟩
  simp
  exact ⟨E1.out, E2.out⟩
theorem cut_any (m : Int × Int) (w : World) :
    Calls Tryz.prog 35 #[.string (bs (mtx m)), .string ⟨#[62]⟩] w fun r w' => r = .returned (.tuple #[.string (bs (dtx m.1)), .string (bs (dtx m.2)), .bool true]) ∧ Below w.heap.size w w' := by
  have C : Hid (_) := slCut_any m w
  generalize bs (mtx m) = s at C ⊢
  generalize bs (dtx m.1) = s1 at C ⊢
  generalize bs (dtx m.2) = s2 at C ⊢
  go_enter Tryz.func35, Tryz.ntmps35
  go_wp2_with (go_at_call 52; refine Calls.mono C.out ?_; rintro r w' ⟨rfl, hb⟩)
  go_ret3
  exact ⟨rfl, hb⟩
end Go.Proofs.YtkjfbeempmfipaaGreatDoor
