/- Plain mathematics of a rule's text: its words, joined by blanks and cut again; two rules that are well have one text only if they are one. -/
import Derived.Test.YtekminpoiokgfaaGreatDoorYaA
import Derived.Test.YtekminpoiokgfaaGreatDoorYaE
import Derived.Test.YtekminpoiokgfaaGreatDoorYaL
import Derived.Lib.Join
import Derived.Lib.IndexLaws
import Derived.Lib.Atoi
import Derived.Test.YtekminpoiokgfaaGreatDoorYaB
import Derived.Test.YtekminpoiokgfaaGreatDoorYaG
import Derived.Lay
import Derived.WideKeyArgs
import Derived.BigQuiet
import Derived.Deep.DeepCutAuto
namespace Go.Proofs.YtekminpoiokgfaaGreatDoor.Cal
open Go

/-- the pieces of a text between the signs c -/
def pieces (c : UInt8) : List UInt8 → List (List UInt8)
  | [] => [[]]
  | b :: t => if b = c then [] :: pieces c t else (match pieces c t with
    | [] => [[b]]
    | h :: r => (b :: h) :: r)

theorem pieces_no (c : UInt8) : ∀ (s : List UInt8), c ∉ s → pieces c s = [s]
  | [], _ => rfl
  | b :: t, h => by
    have hb : b ≠ c := fun e => h (by rw [e]; exact List.mem_cons_self)
    have ht : c ∉ t := fun e => h (List.mem_cons_of_mem _ e)
    rw [pieces, if_neg hb, pieces_no c t ht]
theorem pieces_at (c : UInt8) (t : List UInt8) : ∀ (a : List UInt8), c ∉ a → pieces c (a ++ c :: t) = a :: pieces c t
  | [], _ => by rw [List.nil_append, pieces, if_pos rfl]
  | b :: a, h => by
    have hb : b ≠ c := fun e => h (by rw [e]; exact List.mem_cons_self)
    have ha : c ∉ a := fun e => h (List.mem_cons_of_mem _ e)
    rw [List.cons_append, pieces, if_neg hb, pieces_at c t a ha]
theorem join_cons2 (x y : List UInt8) (r : List (List UInt8)) (sep : List UInt8) : Lib.join (x :: y :: r) sep = x ++ (sep ++ Lib.join (y :: r) sep) := by
  rw [Lib.join_cons, Lib.join_cons]; simp [Lib.joinTail]
theorem pieces_join (c : UInt8) : ∀ (ws : List (List UInt8)), ws ≠ [] → (∀ x ∈ ws, c ∉ x) → pieces c (Lib.join ws [c]) = ws
  | [], h, _ => absurd rfl h
  | [x], _, h => by rw [Lib.join_one]; exact pieces_no c x (h x (by simp))
  | x :: y :: r, _, h => by
    rw [join_cons2, List.singleton_append, pieces_at c _ x (h x (by simp)), pieces_join c (y :: r) (by simp) (fun z hz => h z (List.mem_cons_of_mem _ hz))]

/-- how a text is cut: where the sign is found -/
theorem pieces_found {c : UInt8} {s : List UInt8} {i : Nat} (h : Lib.indexByte s c = i) : pieces c s = s.take i :: pieces c (s.drop (i + 1)) := by
  obtain ⟨h1, h2⟩ := Lib.indexByte_some h
  obtain ⟨hi, h1'⟩ := List.getElem?_eq_some_iff.1 h1
  have e : s = s.take i ++ c :: s.drop (i + 1) := by
    have := (List.take_append_drop i s).symm
    rw [List.drop_eq_getElem_cons hi, h1'] at this
    exact this
  have hn : c ∉ s.take i := fun hm => by
    obtain ⟨k, hk, he⟩ := List.mem_iff_getElem.1 hm
    have hk' : k < i := by rw [List.length_take] at hk; omega
    refine h2 k hk' ?_
    rw [List.getElem?_eq_some_iff]
    refine ⟨by omega, ?_⟩
    rw [← he, List.getElem_take]
  conv => lhs; rw [e]
  exact pieces_at c _ _ hn
theorem pieces_none {c : UInt8} {s : List UInt8} (h : Lib.indexByte s c = -1) : pieces c s = [s] := by
  refine pieces_no c s (fun hm => ?_)
  obtain ⟨k, hk, he⟩ := List.mem_iff_getElem.1 hm
  exact Lib.indexByte_none h k (by rw [List.getElem?_eq_some_iff]; exact ⟨hk, he⟩)

/-! ### numbers -/
theorem decFrom_snoc (b : UInt8) (d : Nat) (hd : Lib.digitVal b = some d) (l : List UInt8) (acc n : Nat) (h : Lib.decFrom acc l = some n) : Lib.decFrom acc (l ++ [b]) = some (n * 10 + d) := by
  have h1 : Lib.decFrom acc ((l ++ [b]).take l.length) = some n := by rw [List.take_left']; exact h; rfl
  have h2 := Lib.decFrom_take (l ++ [b]) l.length acc n b d h1 (by simp) hd
  rwa [List.take_of_length_le (by simp)] at h2
theorem digitVal_of (k : Nat) (h : k < 10) : Lib.digitVal (UInt8.ofNat (48 + k)) = some k := by
  have : ∀ j : Fin 10, Lib.digitVal (UInt8.ofNat (48 + j.val)) = some j.val := by decide
  exact this ⟨k, h⟩
theorem dec_back : ∀ (u : Nat), Lib.decFrom 0 (Lib.decDigits u) = some u := by
  intro u
  induction u using Nat.strongRecOn with
  | _ u ih =>
    by_cases h : u < 10
    · rw [Lib.decDigits_one h]
      have := decFrom_snoc _ u (digitVal_of u h) [] 0 0 rfl
      simpa using this
    · rw [Lib.decDigits, dif_neg h]
      have := decFrom_snoc _ (u % 10) (digitVal_of (u % 10) (by omega)) _ 0 _ (ih (u / 10) (by omega))
      rw [this]; congr 1; omega
theorem dec_ne (u : Nat) : Lib.decDigits u ≠ [] := by
  intro h
  have := Lib.decDigits_length u
  rw [h] at this
  have := Lib.nDigits_pos u
  simp at *; omega
theorem dec_digs (u : Nat) : digs (Lib.decDigits u) := by
  intro c hc
  obtain ⟨k, hk, he⟩ := List.mem_iff_getElem.1 hc
  obtain ⟨d, hd⟩ := Lib.digit_of_decFrom _ _ _ (dec_back u) k c (by rw [List.getElem?_eq_some_iff]; exact ⟨hk, he⟩)
  have := Lib.digitVal_eq hd
  omega
theorem itoa_digs (n : Int) (h : 0 ≤ n) : digs (Lib.itoa n) := by
  obtain ⟨u, rfl⟩ : ∃ u : Nat, n = u := ⟨n.toNat, by omega⟩
  rw [Lib.itoa_nonneg]; exact dec_digs u
theorem itoa_inj (a b : Int) (ha : 0 ≤ a) (hb : 0 ≤ b) (h : Lib.itoa a = Lib.itoa b) : a = b := by
  obtain ⟨u, rfl⟩ : ∃ u : Nat, a = u := ⟨a.toNat, by omega⟩
  obtain ⟨v, rfl⟩ : ∃ u : Nat, b = u := ⟨b.toNat, by omega⟩
  rw [Lib.itoa_nonneg, Lib.itoa_nonneg] at h
  have h1 := dec_back u
  rw [h, dec_back v] at h1
  have := Option.some.inj h1
  omega
theorem itoa_atoi (n : Int) (h : 0 ≤ n) : Lib.atoi (Lib.itoa n) = some n := by
  obtain ⟨u, rfl⟩ : ∃ u : Nat, n = u := ⟨n.toNat, by omega⟩
  rw [Lib.itoa_nonneg]
  cases hd : Lib.decDigits u with
  | nil => exact absurd hd (dec_ne u)
  | cons b r =>
    have hb := dec_digs u b (by rw [hd]; exact List.mem_cons_self)
    have h45 : (b == 45) = false := by
      rw [beq_eq_false_iff_ne]; rintro rfl; revert hb; decide
    have h43 : (b == 43) = false := by
      rw [beq_eq_false_iff_ne]; rintro rfl; revert hb; decide
    have hdec := dec_back u
    rw [hd] at hdec
    have hn : Lib.decNat (b :: r) = some u := by simpa [Lib.decNat] using hdec
    simp [Lib.atoi, h45, h43, hn]
theorem itoa_len (n : Int) (h : 0 ≤ n) (h1 : n ≤ 999999) : (Lib.itoa n).length ≤ 6 := by
  obtain ⟨u, rfl⟩ : ∃ u : Nat, n = u := ⟨n.toNat, by omega⟩
  rw [Lib.itoa_nonneg, Lib.decDigits_length]
  have hu : u < 1000000 := by omega
  by_cases h6 : 6 < Lib.nDigits u
  · exfalso
    have : ∀ (k v : Nat), k < Lib.nDigits v → 10 ^ k ≤ v ∨ k = 0 := by
      intro k
      induction k with
      | zero => intro v _; exact Or.inr rfl
      | succ k ih =>
        intro v hv
        by_cases h10 : v < 10
        · rw [Lib.nDigits_small h10] at hv; omega
        · rw [Lib.nDigits_big h10] at hv
          rcases ih (v / 10) (by omega) with hk | hk
          · refine Or.inl ?_
            rw [Nat.pow_succ]; omega
          · refine Or.inl ?_
            subst hk; simpa using Nat.le_of_not_lt h10
    rcases this 6 u h6 with h | h
    · omega
    · omega
  · omega

/-! ### rules -/
def countW : List UInt8 := [99, 111, 117, 110, 116]
def untilW : List UInt8 := [117, 110, 116, 105, 108]
/-- a weekday's name -/
def nm (d : Int) : List UInt8 :=
  if d = 0 then [109, 111] else if d = 1 then [116, 117] else if d = 2 then [119, 101] else if d = 3 then [116, 104] else if d = 4 then [102, 114] else if d = 5 then [115, 97] else [115, 117]

/-- the text of the last day, if there is one -/
def UT (r : RV) (t : List UInt8) : Prop := (r.til = -1 ∧ t = []) ∨ (0 ≤ r.til ∧ ∃ y m d, vld y m d ∧ num y m d = r.til ∧ t = txt y m d)

def wDays (r : RV) : List (List UInt8) := if r.days = [] then [] else [Lib.join (r.days.map nm) [44]]
def wCount (r : RV) : List (List UInt8) := if r.count = 0 then [] else [countW, Lib.itoa r.count]
def wUntil (r : RV) (t : List UInt8) : List (List UInt8) := if r.til = -1 then [] else [untilW, t]
/-- the words of a rule -/
def words (r : RV) (t : List UInt8) : List (List UInt8) :=
  if r.freq = onceW then [onceW] else r.freq :: Lib.itoa r.every :: (wDays r ++ (wCount r ++ wUntil r t))
/-- the text of a rule -/
def rtext (r : RV) (t : List UInt8) : List UInt8 := Lib.join (words r t) [32]

theorem words_ne (r : RV) (t : List UInt8) : words r t ≠ [] := by unfold words; split <;> simp

theorem digs_no {l : List UInt8} (h : digs l) (c : UInt8) (hc : (c.toNat : Int) < 48) : c ∉ l := fun hm => by have := h c hm; omega
theorem nm_no (d : Int) (c : UInt8) (hc : c.toNat < 97) : c ∉ nm d := by
  intro hm
  have : ∀ x ∈ nm d, 97 ≤ x.toNat := by
    unfold nm
    repeat' split
    all_goals decide
  have := this c hm; omega
theorem join_no (c s : UInt8) (hs : s ≠ c) : ∀ (l : List (List UInt8)), (∀ x ∈ l, c ∉ x) → c ∉ Lib.join l [s]
  | [], _ => by simp [Lib.join_nil]
  | [x], h => by rw [Lib.join_one]; exact h x (by simp)
  | x :: y :: r, h => by
    rw [join_cons2]
    intro hm
    rcases List.mem_append.1 hm with h1 | h1
    · exact h x (by simp) h1
    · rcases List.mem_append.1 h1 with h2 | h2
      · simp at h2; exact hs h2.symm
      · exact join_no c s hs (y :: r) (fun z hz => h z (List.mem_cons_of_mem _ hz)) h2
theorem days_no (l : List Int) (c : UInt8) (h44 : c ≠ 44) (hc : c.toNat < 97) : c ∉ Lib.join (l.map nm) [44] :=
  join_no c 44 (Ne.symm h44) _ (fun x hx => by
    obtain ⟨d, _, rfl⟩ := List.mem_map.1 hx
    exact nm_no d c hc)
theorem txt_signs {y m d : Int} (h : vld y m d) : ∀ c ∈ txt y m d, 45 ≤ c.toNat := by
  obtain ⟨h1, h2, h3, h4, h5, h6⟩ := h
  have h7 := (dim_bd y m).2
  have hd : ∀ k : Int, 0 ≤ k → k ≤ 9 → 45 ≤ (dgt k).toNat := fun k a b => by rw [dgt_nat k a b]; omega
  intro c hc
  simp only [txt, four, two, List.mem_append, List.mem_cons, List.not_mem_nil, or_false] at hc
  rcases hc with ((((h | h | h | h) | h) | (h | h)) | h) | (h | h)
  all_goals subst h
  all_goals first | (exact hd _ (by omega) (by omega)) | decide
theorem ut_signs {r : RV} {t : List UInt8} (h : UT r t) : ∀ c ∈ t, 45 ≤ c.toNat := by
  rcases h with ⟨_, rfl⟩ | ⟨_, y, m, d, hv, _, rfl⟩
  · intro c hc; simp at hc
  · exact txt_signs hv
theorem freq_no {r : RV} (h : Well r) : (32 : UInt8) ∉ r.freq := by
  rcases h.fr with e | e | e | e | e <;> rw [e] <;> decide
theorem words_no {r : RV} {t : List UInt8} (h : Well r) (ht : UT r t) : ∀ x ∈ words r t, (32 : UInt8) ∉ x := by
  intro x hx
  unfold words at hx
  split at hx
  · simp at hx; subst hx; decide
  · rcases List.mem_cons.1 hx with rfl | hx
    · exact freq_no h
    rcases List.mem_cons.1 hx with rfl | hx
    · exact digs_no (itoa_digs _ (by have := h.ev; omega)) 32 (by decide)
    rcases List.mem_append.1 hx with hx | hx
    · unfold wDays at hx
      split at hx
      · simp at hx
      · simp at hx; subst hx; exact days_no _ 32 (by decide) (by decide)
    rcases List.mem_append.1 hx with hx | hx
    · unfold wCount at hx
      split at hx
      · simp at hx
      · simp at hx
        rcases hx with rfl | rfl
        · decide
        · exact digs_no (itoa_digs _ (by have := h.co; omega)) 32 (by decide)
    · unfold wUntil at hx
      split at hx
      · simp at hx
      · simp at hx
        rcases hx with rfl | rfl
        · decide
        · intro hm; have := ut_signs ht _ hm; revert this; decide
theorem rtext_pieces {r : RV} {t : List UInt8} (h : Well r) (ht : UT r t) : pieces 32 (rtext r t) = words r t := pieces_join 32 _ (words_ne r t) (words_no h ht)
end Go.Proofs.YtekminpoiokgfaaGreatDoor.Cal

/- Plain mathematics: two rules that are well have one text only if they are one. -/
namespace Go.Proofs.YtekminpoiokgfaaGreatDoor.Cal
open Go

theorem nm_len (d : Int) : (nm d).length = 2 := by
  unfold nm
  repeat' split
  all_goals rfl
theorem nm_inj (a b : Int) (ha : 0 ≤ a ∧ a ≤ 6) (hb : 0 ≤ b ∧ b ≤ 6) (h : nm a = nm b) : a = b := by
  have key : ∀ i j : Fin 7, nm (i.val : Int) = nm (j.val : Int) → i = j := by decide
  have := key ⟨a.toNat, by omega⟩ ⟨b.toNat, by omega⟩ (by
    have e1 : ((a.toNat : Nat) : Int) = a := by omega
    have e2 : ((b.toNat : Nat) : Int) = b := by omega
    simp only [e1, e2]; exact h)
  have h2 : a.toNat = b.toNat := by simpa using this
  omega
theorem map_nm_inj : ∀ (l k : List Int), (∀ d ∈ l, 0 ≤ d ∧ d ≤ 6) → (∀ d ∈ k, 0 ≤ d ∧ d ≤ 6) → l.map nm = k.map nm → l = k
  | [], [], _, _, _ => rfl
  | [], _ :: _, _, _, h => by simp at h
  | _ :: _, [], _, _, h => by simp at h
  | a :: l, b :: k, h1, h2, h => by
    simp only [List.map_cons, List.cons.injEq] at h
    rw [nm_inj a b (h1 a (by simp)) (h2 b (by simp)) h.1, map_nm_inj l k (fun d hd => h1 d (by simp [hd])) (fun d hd => h2 d (by simp [hd])) h.2]
/-- the days' word is cut into their names -/
theorem days_pieces {l : List Int} (h : l ≠ []) : pieces 44 (Lib.join (l.map nm) [44]) = l.map nm :=
  pieces_join 44 _ (by simpa using h) (fun x hx => by
    obtain ⟨d, _, rfl⟩ := List.mem_map.1 hx
    exact nm_no d 44 (by decide))
theorem days_word_ne {l : List Int} (h : l ≠ []) (c : List UInt8) (hc : (44 : UInt8) ∉ c) (h2 : c.length ≠ 2) : Lib.join (l.map nm) [44] ≠ c := by
  intro e
  have h1 := days_pieces h
  rw [e, pieces_no 44 c hc] at h1
  cases l with
  | nil => exact h rfl
  | cons d r =>
    simp only [List.map_cons, List.cons.injEq] at h1
    exact h2 (by rw [h1.1, nm_len])
theorem days_ne_count {l : List Int} (h : l ≠ []) : Lib.join (l.map nm) [44] ≠ countW := days_word_ne h _ (by decide) (by decide)
theorem days_ne_until {l : List Int} (h : l ≠ []) : Lib.join (l.map nm) [44] ≠ untilW := days_word_ne h _ (by decide) (by decide)

theorem days_len : ∀ (l : List Int), (Lib.join (l.map nm) [44]).length ≤ 3 * l.length
  | [] => by simp [Lib.join_nil]
  | [d] => by rw [List.map_cons, List.map_nil, Lib.join_one, nm_len]; simp
  | d :: e :: r => by
    have := days_len (e :: r)
    rw [List.map_cons, List.map_cons, join_cons2, List.length_append, List.length_append, nm_len]
    rw [List.map_cons] at this
    simp only [List.length_cons] at this ⊢
    simp only [List.length_nil]
    omega

theorem txt_inj {y m d y' m' d' : Int} (h : vld y m d) (h' : vld y' m' d') (e : txt y m d = txt y' m' d') : num y m d = num y' m' d' := by
  obtain ⟨h1, h2, h3, h4, h5, h6⟩ := h
  obtain ⟨k1, k2, k3, k4, k5, k6⟩ := h'
  have h7 := (dim_bd y m).2
  have k7 := (dim_bd y' m').2
  have a := txt_nums y m d (by omega) (by omega) (by omega) (by omega) (by omega) (by omega)
  have b := txt_nums y' m' d' (by omega) (by omega) (by omega) (by omega) (by omega) (by omega)
  rw [← e] at b
  have e1 := a.1.symm.trans b.1
  have e2 := a.2.1.symm.trans b.2.1
  have e3 := a.2.2.symm.trans b.2.2
  rw [e1, e2, e3]
theorem ut_inj {a b : RV} {t : List UInt8} (ha : UT a t) (hb : UT b t) (h1 : a.til ≠ -1) (h2 : b.til ≠ -1) : a.til = b.til := by
  rcases ha with ⟨e, _⟩ | ⟨_, y, m, d, hv, hn, ht⟩
  · exact absurd e h1
  rcases hb with ⟨e, _⟩ | ⟨_, y', m', d', hv', hn', ht'⟩
  · exact absurd e h2
  rw [← hn, ← hn']
  exact txt_inj hv hv' (by rw [← ht, ← ht'])
theorem ut_exists {r : RV} (h : Well r) : ∃ t, UT r t := by
  by_cases e : r.til = -1
  · exact ⟨[], Or.inl ⟨e, rfl⟩⟩
  · have := h.un
    obtain ⟨y, m, d, hv, hn⟩ := exists_date r.til (by omega) (by omega)
    exact ⟨_, Or.inr ⟨by omega, y, m, d, hv, hn, rfl⟩⟩

theorem until_inj {a b : RV} {t t' : List UInt8} (hta : UT a t) (htb : UT b t') (h : wUntil a t = wUntil b t') : a.til = b.til := by
  unfold wUntil at h
  by_cases h1 : a.til = -1
  · by_cases h2 : b.til = -1
    · rw [h1, h2]
    · rw [if_pos h1, if_neg h2] at h; simp at h
  · by_cases h2 : b.til = -1
    · rw [if_neg h1, if_pos h2] at h; simp at h
    · rw [if_neg h1, if_neg h2] at h
      simp at h
      subst h
      exact ut_inj hta htb h1 h2
theorem tail_inj {a b : RV} {t t' : List UInt8} (ha : Well a) (hb : Well b) (hta : UT a t) (htb : UT b t') (h : wCount a ++ wUntil a t = wCount b ++ wUntil b t') : a.count = b.count ∧ a.til = b.til := by
  have hcu : countW ≠ untilW := by decide
  by_cases h1 : a.count = 0
  · by_cases h2 : b.count = 0
    · have e1 : wCount a = [] := by unfold wCount; rw [if_pos h1]
      have e2 : wCount b = [] := by unfold wCount; rw [if_pos h2]
      rw [e1, e2, List.nil_append, List.nil_append] at h
      exact ⟨by rw [h1, h2], until_inj hta htb h⟩
    · exfalso
      unfold wCount wUntil at h
      rw [if_pos h1, if_neg h2] at h
      by_cases h3 : a.til = -1
      · rw [if_pos h3] at h; simp at h
      · rw [if_neg h3] at h; simp at h; exact hcu h.1.symm
  · by_cases h2 : b.count = 0
    · exfalso
      unfold wCount wUntil at h
      rw [if_neg h1, if_pos h2] at h
      by_cases h3 : b.til = -1
      · rw [if_pos h3] at h; simp at h
      · rw [if_neg h3] at h; simp at h; exact hcu h.1
    · have e1 : wCount a = [countW, Lib.itoa a.count] := by unfold wCount; rw [if_neg h1]
      have e2 : wCount b = [countW, Lib.itoa b.count] := by unfold wCount; rw [if_neg h2]
      rw [e1, e2] at h
      simp only [List.cons_append, List.nil_append, List.cons.injEq, true_and] at h
      exact ⟨itoa_inj _ _ ha.co.1 hb.co.1 h.1, until_inj hta htb h.2⟩
theorem rest_head {r : RV} {t x : List UInt8} {l : List (List UInt8)} (h : wCount r ++ wUntil r t = x :: l) : x = countW ∨ x = untilW := by
  unfold wCount wUntil at h
  by_cases h1 : r.count = 0
  · rw [if_pos h1] at h
    by_cases h3 : r.til = -1
    · rw [if_pos h3] at h; simp at h
    · rw [if_neg h3] at h; simp at h; exact Or.inr h.1.symm
  · rw [if_neg h1] at h; simp at h; exact Or.inl h.1.symm
theorem rest_inj {a b : RV} {t t' : List UInt8} (ha : Well a) (hb : Well b) (hta : UT a t) (htb : UT b t') (h : wDays a ++ (wCount a ++ wUntil a t) = wDays b ++ (wCount b ++ wUntil b t')) :
    a.days = b.days ∧ a.count = b.count ∧ a.til = b.til := by
  by_cases h1 : a.days = []
  · have e1 : wDays a = [] := by unfold wDays; rw [if_pos h1]
    by_cases h2 : b.days = []
    · have e2 : wDays b = [] := by unfold wDays; rw [if_pos h2]
      rw [e1, e2, List.nil_append, List.nil_append] at h
      exact ⟨by rw [h1, h2], tail_inj ha hb hta htb h⟩
    · have e2 : wDays b = [Lib.join (b.days.map nm) [44]] := by unfold wDays; rw [if_neg h2]
      rw [e1, e2, List.nil_append, List.singleton_append] at h
      rcases rest_head h with e | e
      · exact absurd e (days_ne_count h2)
      · exact absurd e (days_ne_until h2)
  · have e1 : wDays a = [Lib.join (a.days.map nm) [44]] := by unfold wDays; rw [if_neg h1]
    by_cases h2 : b.days = []
    · have e2 : wDays b = [] := by unfold wDays; rw [if_pos h2]
      rw [e1, e2, List.nil_append, List.singleton_append] at h
      rcases rest_head h.symm with e | e
      · exact absurd e (days_ne_count h1)
      · exact absurd e (days_ne_until h1)
    · have e2 : wDays b = [Lib.join (b.days.map nm) [44]] := by unfold wDays; rw [if_neg h2]
      rw [e1, e2, List.singleton_append, List.singleton_append, List.cons.injEq] at h
      have hd := days_pieces h1
      rw [h.1, days_pieces h2] at hd
      exact ⟨(map_nm_inj _ _ hb.ds ha.ds hd).symm, tail_inj ha hb hta htb h.2⟩
theorem words_inj {a b : RV} {t t' : List UInt8} (ha : Well a) (hb : Well b) (hta : UT a t) (htb : UT b t') (h : words a t = words b t') : a = b := by
  unfold words at h
  have hne : onceW ≠ weeklyW := by decide
  by_cases h1 : a.freq = onceW
  · rw [if_pos h1] at h
    by_cases h2 : b.freq = onceW
    · obtain ⟨x1, x2, x3⟩ := ha.on h1
      obtain ⟨y1, y2, y3⟩ := hb.on h2
      have x4 := ha.wk (by rw [h1]; exact hne)
      have y4 := hb.wk (by rw [h2]; exact hne)
      cases a; cases b
      simp only at h1 h2 x1 x2 x3 x4 y1 y2 y3 y4
      subst h1 h2 x1 x2 x3 x4 y1 y2 y3 y4
      rfl
    · rw [if_neg h2] at h; simp at h
  · rw [if_neg h1] at h
    by_cases h2 : b.freq = onceW
    · rw [if_pos h2] at h; simp at h
    · rw [if_neg h2] at h
      simp only [List.cons.injEq] at h
      obtain ⟨x1, x2, x3⟩ := h
      have x2' := itoa_inj _ _ (by have := ha.ev; omega) (by have := hb.ev; omega) x2
      obtain ⟨z1, z2, z3⟩ := rest_inj ha hb hta htb x3
      cases a; cases b
      simp only at x1 x2' z1 z2 z3
      subst x1 x2' z1 z2 z3
      rfl
theorem rtext_inj {a b : RV} {t t' : List UInt8} (ha : Well a) (hb : Well b) (hta : UT a t) (htb : UT b t') (h : rtext a t = rtext b t') : a = b := by
  refine words_inj ha hb hta htb ?_
  rw [← rtext_pieces ha hta, ← rtext_pieces hb htb, h]

theorem join_len (c : UInt8) : ∀ (ws : List (List UInt8)), (Lib.join ws [c]).length ≤ (ws.map (fun x => x.length + 1)).sum
  | [] => by simp [Lib.join_nil]
  | [x] => by rw [Lib.join_one]; simp
  | x :: y :: r => by
    have := join_len c (y :: r)
    rw [join_cons2, List.length_append, List.length_append, List.map_cons, List.sum_cons]
    simp only [List.length_singleton]
    omega
theorem ut_len {r : RV} {t : List UInt8} (h : UT r t) : t.length ≤ 10 := by
  rcases h with ⟨_, rfl⟩ | ⟨_, y, m, d, _, _, rfl⟩
  · simp
  · rw [txt_length]; omega
theorem rtext_len {r : RV} {t : List UInt8} (h : Well r) (ht : UT r t) (h20 : r.days.length ≤ 20) : (rtext r t).length ≤ 1000 := by
  have h1 : r.freq.length ≤ 7 := by rcases h.fr with e | e | e | e | e <;> rw [e] <;> decide
  have h2 := itoa_len r.every (by have := h.ev; omega) (by have := h.ev; omega)
  have h3 := itoa_len r.count (by have := h.co; omega) (by have := h.co; omega)
  have h4 := ut_len ht
  have h5 := days_len r.days
  have h6 : countW.length = 5 := rfl
  have h7 : untilW.length = 5 := rfl
  have h8 : onceW.length = 4 := rfl
  refine Nat.le_trans (join_len 32 _) ?_
  unfold words
  split
  · simp [h8]
  · simp only [List.map_cons, List.map_append, List.sum_cons, List.sum_append]
    have a1 : ((wDays r).map (fun x => x.length + 1)).sum ≤ 61 := by
      unfold wDays; split
      · simp
      · simp; omega
    have a2 : ((wCount r).map (fun x => x.length + 1)).sum ≤ 20 := by
      unfold wCount; split
      · simp
      · simp [h6]; omega
    have a3 : ((wUntil r t).map (fun x => x.length + 1)).sum ≤ 20 := by
      unfold wUntil; split
      · simp
      · simp [h7]; omega
    omega
theorem words_len (r : RV) (t : List UInt8) : (words r t).length ≤ 7 := by
  unfold words wDays wCount wUntil
  repeat' split
  all_goals simp
end Go.Proofs.YtekminpoiokgfaaGreatDoor.Cal

/- What package rule's text and reader read: errors, the days' names, the library's table. -/
namespace Go.Proofs.YtekminpoiokgfaaGreatDoor
open Go.RowKit Cal

/-- what package rule reads -/
structure GlobR (w : World) : Prop where
  name : ∃ p, w.cell? ⟨2, 0, none⟩ = some (.iface 250 (.pointer (some p)))
  bound : ∃ p, w.cell? ⟨4, 0, none⟩ = some (.iface 250 (.pointer (some p)))
  shape : ∃ p, w.cell? ⟨0, 0, none⟩ = some (.iface 250 (.pointer (some p)))
  order : ∃ p, w.cell? ⟨5, 0, none⟩ = some (.iface 250 (.pointer (some p)))
  text : ∃ p, w.cell? ⟨3, 0, none⟩ = some (.iface 250 (.pointer (some p)))
  days : ∀ d : Nat, d < 7 → w.cell? ⟨7, d, none⟩ = some (.string ⟨(nm d).toArray⟩)
  tab : Tab w
theorem GlobR.step {w w' : World} (g : GlobR w) (hb : Below w.heap.size w w') : GlobR w' := by
  obtain ⟨⟨p1, h1⟩, ⟨p2, h2⟩, ⟨p3, h3⟩, ⟨p4, h4⟩, ⟨p5, h5⟩, h6, h7⟩ := g
  exact ⟨⟨p1, cell_step h1 hb⟩, ⟨p2, cell_step h2 hb⟩, ⟨p3, cell_step h3 hb⟩, ⟨p4, cell_step h4 hb⟩, ⟨p5, cell_step h5 hb⟩, fun d hd => cell_step (h6 d hd) hb, h7.step hb⟩
end Go.Proofs.YtekminpoiokgfaaGreatDoor

/- What the rows' lists of package-level variables give: the names of the days. -/
namespace Go.Proofs.YtekminpoiokgfaaGreatDoor
open Go.ChangeShapes Go.WideShapes Go.ChangeAt Go.RowKit Cal

theorem gNames : Tryz.prog.globalNamed "lammastide/rule.dayNames" = some 7 := by kernel_rfl
theorem tNames : (Tryz.prog.globals[7]?).map (·.type) = some 196 := by kernel_rfl
theorem cNames : Tryz.prog.cellsOf 196 = 7 := by kernel_rfl

/-- an array of texts that reads as the list: its cells -/
theorem cells_of_texts {H : Type} {enc : TypeId × Value → H} {P : Program} {w : World} {base : Nat} {sp : Nat → Bool} {held : Bool} {fuel : Nat} {t e : TypeId} {n : Nat} {cs : List Value} {zs : List (List UInt8)} {p : List MemPlace}
    (ht : P.underlying t = some (.array n e)) (he : P.underlying e = some .string) (hce : P.cellsOf e = 1) (hct : P.cellsOf t = n)
    (h : DataW.trod enc P w base sp held fuel t cs = some (.agg (zs.map fun z => .lit (.string z)), p)) (i : Nat) (z : List UInt8) (hz : zs[i]? = some z) : cs[i]? = some (.string ⟨z.toArray⟩) := by
  cases fuel with
  | zero => simp [DataW.trod] at h
  | succ fuel =>
    simp only [DataW.trod, ht, hce, hct, Nat.mul_one] at h
    split at h
    · rename_i hl
      obtain ⟨xs, hm, hx⟩ := Option.map_eq_some_iff.1 h
      have hxs : xs.map (·.1) = zs.map fun z => (DataW.lit (.string z) : DataW H) := by
        have := congrArg Prod.fst hx
        simpa using this
      have hxl : xs.length = n := by simpa using Lib.mapM_length hm
      have hzl : zs.length = n := by
        have := congrArg List.length hxs
        simp at this
        omega
      have hi : i < n := by
        have := (List.getElem?_eq_some_iff.1 hz).1
        omega
      obtain ⟨b, hb, hf⟩ := Lib.mapM_at hm i i (by simp [hi])
      obtain ⟨s, hc, rfl, _⟩ := DataW.trod_string he hf
      have h1 : cs[i]? = some (.string s) := by
        have := congrArg (·[0]?) hc
        simpa [List.getElem?_take, List.getElem?_drop] using this
      have h2 : (xs.map (·.1))[i]? = some (DataW.lit (.string s.data.toList) : DataW H) := by simp [hb]
      rw [hxs, List.getElem?_map, hz] at h2
      simp only [Option.map_some, Option.some.injEq, DataW.lit.injEq, Lit.string.injEq] at h2
      rw [h1, h2]
    · cases h
theorem names_of {r : List (String × DataW Unit)} {W : World} (h : laidMet Tryz.prog (("lammastide/rule.dayNames", Rows.laid_lammastide_rule_dayNames) :: r) W) (d : Nat) (hd : d < 7) :
    W.cell? ⟨7, d, none⟩ = some (.string ⟨(nm d).toArray⟩) := by
  obtain ⟨ps, ⟨g', t', cs, fuel, p, q, hg', ht', hvar, hd', _, _⟩, _⟩ := h
  obtain rfl := Option.some.inj (gNames.symm.trans hg')
  obtain rfl := Option.some.inj (tNames.symm.trans ht')
  have hc := cells_of_texts (zs := [nm 0, nm 1, nm 2, nm 3, nm 4, nm 5, nm 6]) Tryz.underlying196 Tryz.underlying9 cStr cNames hd' d (nm d) (by
    match d, hd with
    | 0, _ => rfl
    | 1, _ => rfl
    | 2, _ => rfl
    | 3, _ => rfl
    | 4, _ => rfl
    | 5, _ => rfl
    | 6, _ => rfl)
  rw [World.var?_cell gNames hvar d]
  simpa using hc
end Go.Proofs.YtekminpoiokgfaaGreatDoor

/- The document's own SameInts over lists that were built; a list appended to a list. -/
namespace Go.Proofs.YtekminpoiokgfaaGreatDoor
open Go Go.RowKit Cal
attribute [local go_sem] Oper.semAt_some

theorem same_yes (ba bb n ca cb : Nat) (z : Nat → Int) (w : World) (hn : n ≤ 100000) (ha : ∀ i, i < n → w.cell? ⟨ba, i, none⟩ = some (.int .i64 (z i))) (hb : ∀ i, i < n → w.cell? ⟨bb, i, none⟩ = some (.int .i64 (z i))) :
    Calls Tryz.prog 29 #[.slice (some ⟨ba, 0, none⟩) n ca, .slice (some ⟨bb, 0, none⟩) n cb] w fun e w' => e = .returned (.bool true) ∧ Below w.heap.size w w' := by
  have HA : Hid (∀ i, i < n → w.cell? ⟨ba, i, none⟩ = some (.int .i64 (z i))) := ha
  have HB : Hid (∀ i, i < n → w.cell? ⟨bb, i, none⟩ = some (.int .i64 (z i))) := hb
  clear ha hb
  go_enter Tryz.func29, Tryz.ntmps29
  go_wp2
  go_loopw [5] (fun i wr => ∃ k q : Nat, k ≤ n ∧ i = .int .i64 k ∧ wr = w.drewN q) (fun i _ => n - (intOf i).toNat)
  case atStart => exact ⟨0, 0, Nat.zero_le _, rfl, rfl⟩
  case round =>
    obtain ⟨k, q, hk, rfl, rfl⟩ := hrel
    by_cases hlt : k < n
    · have h1 := HA.out k hlt
      have h2 := HB.out k hlt
      go_wp2
      go_quiet (fail)
      go_wp2
      go_roundw
      case rel => exact ⟨k + 1, _, by omega, by go_num, rfl⟩
      case measure => simp [intOf]; omega
    · go_wp2
      go_ret
      exact ⟨rfl, drewN_below _ _⟩
theorem same_zero (a b : Option Addr) (ca cb : Nat) (w : World) :
    Calls Tryz.prog 29 #[.slice a 0 ca, .slice b 0 cb] w fun e w' => e = .returned (.bool true) ∧ Below w.heap.size w w' := by
  go_enter Tryz.func29, Tryz.ntmps29
  go_wp2
  go_loop [5] (fun i => i = .int .i64 0) (fun _ => 0)
  case atStart => rfl
  case round =>
    subst hrel
    go_wp2
    go_ret
    exact ⟨rfl, Below.refl _ _⟩
/-- a list appended to a list of one's own -/
theorem app_ow {ops : Array Oper} {rest : List Oper} {o : Oper} {a : Act} {Q : Exit → Act → World → Prop} {w : World} (hgd : o.guard = none) (s x : Operand)
    (ho : o.op = .call { callee := .builtin .append, args := #[s, x], argTypes := #[39, 39] })
    (base : Nat) (xs ys : List Int) (v u : Value) (hs : a.eval s = v) (hown : Ow base w v xs) (hx : a.eval x = u) (hg : Got w u ys) (hl : xs.length + ys.length ≤ 100000) (hbase : base ≤ w.heap.size)
    (h : ∀ v' w', Ow base w' v' (xs ++ ys) → Below base w w' → wpList Tryz.prog ops Q rest (a.put o.dst v') w') : wpList Tryz.prog ops Q (o :: rest) a w := by
  obtain ⟨i0, hi, hz0, hz1, hz2⟩ := info_parts info_int
  obtain ⟨ad, cap, rfl, hn, hs'⟩ := hg
  cases ad with
  | none =>
    obtain ⟨h0, rfl⟩ := hn rfl
    have hys : ys = [] := List.length_eq_zero_iff.1 h0
    subst hys
    refine wpList_append_own_none hgd s x 39 ho base 3 i0 1 Tryz.underlying39 hi v xs.length (xs.map (Value.int .i64)) hs hown hx ?_
    exact h v w (by rw [List.append_nil]; exact hown) (Below.refl _ _)
  | some ad =>
    refine wpList_append_own w hgd s x 39 ho base 3 i0 (.int .i64 0) 1 8 Tryz.underlying39 hi hz0 hz1 hz2 rfl (by decide) v xs.length (xs.map (Value.int .i64)) hs hown ad ys.length cap (ys.map (Value.int .i64)) hx (by simp) ?_ (fun v hv => by obtain ⟨x, _, rfl⟩ := List.mem_map.1 hv; rfl) (by unfold maxLen; omega) (by omega) hbase ?_
    · intro j v hv
      rw [List.getElem?_map] at hv
      obtain ⟨d, hd, rfl⟩ := Option.map_eq_some_iff.1 hv
      obtain ⟨hj, rfl⟩ := List.getElem?_eq_some_iff.1 hd
      exact (hs' ad rfl j hj).2
    · intro v' w' h1 h2 _
      refine h v' w' ?_ ?_
      · unfold Ow; rw [List.length_append, List.map_append]; exact h1
      · refine (Below.refl base w).grown h2 hbase (fun k e => ?_)
        exact (World.ownsRow.lt hown k e).1
end Go.Proofs.YtekminpoiokgfaaGreatDoor
