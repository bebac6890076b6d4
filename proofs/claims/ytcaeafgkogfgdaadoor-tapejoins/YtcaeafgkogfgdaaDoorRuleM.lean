/- Plain mathematics of a rule's text: its words, joined by blanks and cut again; two rules that are well have one text only if they are one. -/
import Derived.Test.YtcaeafgkogfgdaaDoorExpM
import Derived.Test.YtcaeafgkogfgdaaDoorTxt
import Derived.Test.YtcaeafgkogfgdaaDoorReadM
import Derived.Lib.Join
import Derived.Lib.IndexLaws
import Derived.Lib.Atoi
namespace Go.Proofs.YtcaeafgkogfgdaaDoor.Cal
open Go

/-- the pieces of a text between the signs c -/
def pieces (c : UInt8) : List UInt8 → List (List UInt8)
  | [] => [[]]
  | b :: t => if b = c then [] :: pieces c t else (match pieces c t with
    | [] => [[b]]
    | h :: r => (b :: h) :: r)

theorem pieces_no (c : UInt8) : ∀ (s : List UInt8), c ∉ s → pieces c s = [s]
  | [], _ => rfl
  | b :: t, h => by
    have hb : b ≠ c := fun e => h (by rw [e]; exact List.mem_cons_self)
    have ht : c ∉ t := fun e => h (List.mem_cons_of_mem _ e)
    rw [pieces, if_neg hb, pieces_no c t ht]
theorem pieces_at (c : UInt8) (t : List UInt8) : ∀ (a : List UInt8), c ∉ a → pieces c (a ++ c :: t) = a :: pieces c t
  | [], _ => by rw [List.nil_append, pieces, if_pos rfl]
  | b :: a, h => by
    have hb : b ≠ c := fun e => h (by rw [e]; exact List.mem_cons_self)
    have ha : c ∉ a := fun e => h (List.mem_cons_of_mem _ e)
    rw [List.cons_append, pieces, if_neg hb, pieces_at c t a ha]
theorem join_cons2 (x y : List UInt8) (r : List (List UInt8)) (sep : List UInt8) : Lib.join (x :: y :: r) sep = x ++ (sep ++ Lib.join (y :: r) sep) := by
  rw [Lib.join_cons, Lib.join_cons]; simp [Lib.joinTail]
theorem pieces_join (c : UInt8) : ∀ (ws : List (List UInt8)), ws ≠ [] → (∀ x ∈ ws, c ∉ x) → pieces c (Lib.join ws [c]) = ws
  | [], h, _ => absurd rfl h
  | [x], _, h => by rw [Lib.join_one]; exact pieces_no c x (h x (by simp))
  | x :: y :: r, _, h => by
    rw [join_cons2, List.singleton_append, pieces_at c _ x (h x (by simp)), pieces_join c (y :: r) (by simp) (fun z hz => h z (List.mem_cons_of_mem _ hz))]

/-- how a text is cut: where the sign is found -/
theorem pieces_found {c : UInt8} {s : List UInt8} {i : Nat} (h : Lib.indexByte s c = i) : pieces c s = s.take i :: pieces c (s.drop (i + 1)) := by
  obtain ⟨h1, h2⟩ := Lib.indexByte_some h
  obtain ⟨hi, h1'⟩ := List.getElem?_eq_some_iff.1 h1
  have e : s = s.take i ++ c :: s.drop (i + 1) := by
    have := (List.take_append_drop i s).symm
    rw [List.drop_eq_getElem_cons hi, h1'] at this
    exact this
  have hn : c ∉ s.take i := fun hm => by
    obtain ⟨k, hk, he⟩ := List.mem_iff_getElem.1 hm
    have hk' : k < i := by rw [List.length_take] at hk; omega
    refine h2 k hk' ?_
    rw [List.getElem?_eq_some_iff]
    refine ⟨by omega, ?_⟩
    rw [← he, List.getElem_take]
  conv => lhs; rw [e]
  exact pieces_at c _ _ hn
theorem pieces_none {c : UInt8} {s : List UInt8} (h : Lib.indexByte s c = -1) : pieces c s = [s] := by
  refine pieces_no c s (fun hm => ?_)
  obtain ⟨k, hk, he⟩ := List.mem_iff_getElem.1 hm
  exact Lib.indexByte_none h k (by rw [List.getElem?_eq_some_iff]; exact ⟨hk, he⟩)

/-! ### numbers -/
theorem decFrom_snoc (b : UInt8) (d : Nat) (hd : Lib.digitVal b = some d) (l : List UInt8) (acc n : Nat) (h : Lib.decFrom acc l = some n) : Lib.decFrom acc (l ++ [b]) = some (n * 10 + d) := by
  have h1 : Lib.decFrom acc ((l ++ [b]).take l.length) = some n := by rw [List.take_left']; exact h; rfl
  have h2 := Lib.decFrom_take (l ++ [b]) l.length acc n b d h1 (by simp) hd
  rwa [List.take_of_length_le (by simp)] at h2
theorem digitVal_of (k : Nat) (h : k < 10) : Lib.digitVal (UInt8.ofNat (48 + k)) = some k := by
  have : ∀ j : Fin 10, Lib.digitVal (UInt8.ofNat (48 + j.val)) = some j.val := by decide
  exact this ⟨k, h⟩
theorem dec_back : ∀ (u : Nat), Lib.decFrom 0 (Lib.decDigits u) = some u := by
  intro u
  induction u using Nat.strongRecOn with
  | _ u ih =>
    by_cases h : u < 10
    · rw [Lib.decDigits_one h]
      have := decFrom_snoc _ u (digitVal_of u h) [] 0 0 rfl
      simpa using this
    · rw [Lib.decDigits, dif_neg h]
      have := decFrom_snoc _ (u % 10) (digitVal_of (u % 10) (by omega)) _ 0 _ (ih (u / 10) (by omega))
      rw [this]; congr 1; omega
theorem dec_ne (u : Nat) : Lib.decDigits u ≠ [] := by
  intro h
  have := Lib.decDigits_length u
  rw [h] at this
  have := Lib.nDigits_pos u
  simp at *; omega
theorem dec_digs (u : Nat) : digs (Lib.decDigits u) := by
  intro c hc
  obtain ⟨k, hk, he⟩ := List.mem_iff_getElem.1 hc
  obtain ⟨d, hd⟩ := Lib.digit_of_decFrom _ _ _ (dec_back u) k c (by rw [List.getElem?_eq_some_iff]; exact ⟨hk, he⟩)
  have := Lib.digitVal_eq hd
  omega
theorem itoa_digs (n : Int) (h : 0 ≤ n) : digs (Lib.itoa n) := by
  obtain ⟨u, rfl⟩ : ∃ u : Nat, n = u := ⟨n.toNat, by omega⟩
  rw [Lib.itoa_nonneg]; exact dec_digs u
theorem itoa_inj (a b : Int) (ha : 0 ≤ a) (hb : 0 ≤ b) (h : Lib.itoa a = Lib.itoa b) : a = b := by
  obtain ⟨u, rfl⟩ : ∃ u : Nat, a = u := ⟨a.toNat, by omega⟩
  obtain ⟨v, rfl⟩ : ∃ u : Nat, b = u := ⟨b.toNat, by omega⟩
  rw [Lib.itoa_nonneg, Lib.itoa_nonneg] at h
  have h1 := dec_back u
  rw [h, dec_back v] at h1
  have := Option.some.inj h1
  omega
theorem itoa_ne (n : Int) (h : 0 ≤ n) : Lib.itoa n ≠ [] := by
  obtain ⟨u, rfl⟩ : ∃ u : Nat, n = u := ⟨n.toNat, by omega⟩
  rw [Lib.itoa_nonneg]; exact dec_ne u
theorem itoa_atoi (n : Int) (h : 0 ≤ n) : Lib.atoi (Lib.itoa n) = some n := by
  obtain ⟨u, rfl⟩ : ∃ u : Nat, n = u := ⟨n.toNat, by omega⟩
  rw [Lib.itoa_nonneg]
  cases hd : Lib.decDigits u with
  | nil => exact absurd hd (dec_ne u)
  | cons b r =>
    have hb := dec_digs u b (by rw [hd]; exact List.mem_cons_self)
    have h45 : (b == 45) = false := by
      rw [beq_eq_false_iff_ne]; rintro rfl; revert hb; decide
    have h43 : (b == 43) = false := by
      rw [beq_eq_false_iff_ne]; rintro rfl; revert hb; decide
    have hdec := dec_back u
    rw [hd] at hdec
    have hn : Lib.decNat (b :: r) = some u := by simpa [Lib.decNat] using hdec
    simp [Lib.atoi, h45, h43, hn]
theorem itoa_len (n : Int) (h : 0 ≤ n) (h1 : n ≤ 999999) : (Lib.itoa n).length ≤ 6 := by
  obtain ⟨u, rfl⟩ : ∃ u : Nat, n = u := ⟨n.toNat, by omega⟩
  rw [Lib.itoa_nonneg, Lib.decDigits_length]
  have hu : u < 1000000 := by omega
  by_cases h6 : 6 < Lib.nDigits u
  · exfalso
    have : ∀ (k v : Nat), k < Lib.nDigits v → 10 ^ k ≤ v ∨ k = 0 := by
      intro k
      induction k with
      | zero => intro v _; exact Or.inr rfl
      | succ k ih =>
        intro v hv
        by_cases h10 : v < 10
        · rw [Lib.nDigits_small h10] at hv; omega
        · rw [Lib.nDigits_big h10] at hv
          rcases ih (v / 10) (by omega) with hk | hk
          · refine Or.inl ?_
            rw [Nat.pow_succ]; omega
          · refine Or.inl ?_
            subst hk; simpa using Nat.le_of_not_lt h10
    rcases this 6 u h6 with h | h
    · omega
    · omega
  · omega

/-! ### rules -/
def countW : List UInt8 := [99, 111, 117, 110, 116]
def untilW : List UInt8 := [117, 110, 116, 105, 108]
/-- a weekday's name -/
def nm (d : Int) : List UInt8 :=
  if d = 0 then [109, 111] else if d = 1 then [116, 117] else if d = 2 then [119, 101] else if d = 3 then [116, 104] else if d = 4 then [102, 114] else if d = 5 then [115, 97] else [115, 117]

/-- the text of the last day, if there is one -/
def UT (r : RV) (t : List UInt8) : Prop := (r.til = -1 ∧ t = []) ∨ (0 ≤ r.til ∧ ∃ y m d, vld y m d ∧ num y m d = r.til ∧ t = txt y m d)

def wDays (r : RV) : List (List UInt8) := if r.days = [] then [] else [Lib.join (r.days.map nm) [44]]
def wCount (r : RV) : List (List UInt8) := if r.count = 0 then [] else [countW, Lib.itoa r.count]
def wUntil (r : RV) (t : List UInt8) : List (List UInt8) := if r.til = -1 then [] else [untilW, t]
/-- the words of a rule -/
def words (r : RV) (t : List UInt8) : List (List UInt8) :=
  if r.freq = onceW then [onceW] else r.freq :: Lib.itoa r.every :: (wDays r ++ (wCount r ++ wUntil r t))
/-- the text of a rule -/
def rtext (r : RV) (t : List UInt8) : List UInt8 := Lib.join (words r t) [32]

theorem words_ne (r : RV) (t : List UInt8) : words r t ≠ [] := by unfold words; split <;> simp

theorem digs_no {l : List UInt8} (h : digs l) (c : UInt8) (hc : (c.toNat : Int) < 48) : c ∉ l := fun hm => by have := h c hm; omega
theorem nm_no (d : Int) (c : UInt8) (hc : c.toNat < 97) : c ∉ nm d := by
  intro hm
  have : ∀ x ∈ nm d, 97 ≤ x.toNat := by
    unfold nm
    repeat' split
    all_goals decide
  have := this c hm; omega
theorem join_no (c s : UInt8) (hs : s ≠ c) : ∀ (l : List (List UInt8)), (∀ x ∈ l, c ∉ x) → c ∉ Lib.join l [s]
  | [], _ => by simp [Lib.join_nil]
  | [x], h => by rw [Lib.join_one]; exact h x (by simp)
  | x :: y :: r, h => by
    rw [join_cons2]
    intro hm
    rcases List.mem_append.1 hm with h1 | h1
    · exact h x (by simp) h1
    · rcases List.mem_append.1 h1 with h2 | h2
      · simp at h2; exact hs h2.symm
      · exact join_no c s hs (y :: r) (fun z hz => h z (List.mem_cons_of_mem _ hz)) h2
theorem days_no (l : List Int) (c : UInt8) (h44 : c ≠ 44) (hc : c.toNat < 97) : c ∉ Lib.join (l.map nm) [44] :=
  join_no c 44 (Ne.symm h44) _ (fun x hx => by
    obtain ⟨d, _, rfl⟩ := List.mem_map.1 hx
    exact nm_no d c hc)
theorem txt_signs {y m d : Int} (h : vld y m d) : ∀ c ∈ txt y m d, 45 ≤ c.toNat := by
  obtain ⟨h1, h2, h3, h4, h5, h6⟩ := h
  have h7 := (dim_bd y m).2
  have hd : ∀ k : Int, 0 ≤ k → k ≤ 9 → 45 ≤ (dgt k).toNat := fun k a b => by rw [dgt_nat k a b]; omega
  intro c hc
  simp only [txt, four, two, List.mem_append, List.mem_cons, List.not_mem_nil, or_false] at hc
  rcases hc with ((((h | h | h | h) | h) | (h | h)) | h) | (h | h)
  all_goals subst h
  all_goals first | (exact hd _ (by omega) (by omega)) | decide
theorem ut_signs {r : RV} {t : List UInt8} (h : UT r t) : ∀ c ∈ t, 45 ≤ c.toNat := by
  rcases h with ⟨_, rfl⟩ | ⟨_, y, m, d, hv, _, rfl⟩
  · intro c hc; simp at hc
  · exact txt_signs hv
theorem freq_no {r : RV} (h : Well r) : (32 : UInt8) ∉ r.freq := by
  rcases h.fr with e | e | e | e | e <;> rw [e] <;> decide
theorem words_no {r : RV} {t : List UInt8} (h : Well r) (ht : UT r t) : ∀ x ∈ words r t, (32 : UInt8) ∉ x := by
  intro x hx
  unfold words at hx
  split at hx
  · simp at hx; subst hx; decide
  · rcases List.mem_cons.1 hx with rfl | hx
    · exact freq_no h
    rcases List.mem_cons.1 hx with rfl | hx
    · exact digs_no (itoa_digs _ (by have := h.ev; omega)) 32 (by decide)
    rcases List.mem_append.1 hx with hx | hx
    · unfold wDays at hx
      split at hx
      · simp at hx
      · simp at hx; subst hx; exact days_no _ 32 (by decide) (by decide)
    rcases List.mem_append.1 hx with hx | hx
    · unfold wCount at hx
      split at hx
      · simp at hx
      · simp at hx
        rcases hx with rfl | rfl
        · decide
        · exact digs_no (itoa_digs _ (by have := h.co; omega)) 32 (by decide)
    · unfold wUntil at hx
      split at hx
      · simp at hx
      · simp at hx
        rcases hx with rfl | rfl
        · decide
        · intro hm; have := ut_signs ht _ hm; revert this; decide
theorem rtext_pieces {r : RV} {t : List UInt8} (h : Well r) (ht : UT r t) : pieces 32 (rtext r t) = words r t := pieces_join 32 _ (words_ne r t) (words_no h ht)
end Go.Proofs.YtcaeafgkogfgdaaDoor.Cal
