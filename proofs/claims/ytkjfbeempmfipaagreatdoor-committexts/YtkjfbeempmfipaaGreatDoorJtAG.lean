/- Plain mathematics of what comes again (no program text in it): the days from one on that a test lets through, the tests of the five kinds of rules, what a count and an end leave. -/
import Derived.Test.YtkjfbeempmfipaaGreatDoorMathP
import Derived.Test.YtkjfbeempmfipaaGreatDoorJtAA
import Derived.Lib.Strings
import Derived.Lib.IndexBytes
namespace Go.Proofs.YtkjfbeempmfipaaGreatDoor.Cal

/-- n days from a on: those that p lets through -/
def fr (p : Int → Bool) : Int → Nat → List Int
  | _, 0 => []
  | a, n + 1 => if p a = true then a :: fr p (a + 1) n else fr p (a + 1) n
/-- the days from a on to the last one: those that p lets through -/
def From (p : Int → Bool) (a : Int) : List Int := fr p a (73049 - a).toNat

theorem From_end {p : Int → Bool} {a : Int} (h : 73048 < a) : From p a = [] := by
  unfold From
  have : (73049 - a).toNat = 0 := by omega
  rw [this]; rfl
theorem From_step {p : Int → Bool} {a : Int} (h : a ≤ 73048) : From p a = if p a = true then a :: From p (a + 1) else From p (a + 1) := by
  unfold From
  have : (73049 - a).toNat = (73049 - (a + 1)).toNat + 1 := by omega
  rw [this]; rfl
theorem From_hit {p : Int → Bool} {a : Int} (h : a ≤ 73048) (hp : p a = true) : From p a = a :: From p (a + 1) := by
  rw [From_step h, if_pos hp]
theorem From_miss {p : Int → Bool} {a : Int} (hp : p a = false) : From p a = From p (a + 1) := by
  rcases Int.lt_or_le 73048 a with h | h
  · rw [From_end h, From_end (by omega)]
  · rw [From_step h, if_neg (by rw [hp]; decide)]
theorem From_skip {p : Int → Bool} : ∀ (n : Nat) (a : Int), (∀ x, a ≤ x → x < a + n → p x = false) → From p a = From p (a + n)
  | 0, a, _ => by simp
  | n + 1, a, h => by
    rw [From_miss (h a (by omega) (by omega)), From_skip n (a + 1) (fun x h1 h2 => h x (by omega) (by omega))]
    congr 1; omega
theorem From_to {p : Int → Bool} {a b : Int} (h : a ≤ b) (hp : ∀ x, a ≤ x → x < b → p x = false) : From p a = From p b := by
  have := From_skip (p := p) (b - a).toNat a (fun x h1 h2 => hp x h1 (by omega))
  rw [this]; congr 1; omega
theorem mem_fr {p : Int → Bool} {x : Int} : ∀ (n : Nat) (a : Int), x ∈ fr p a n ↔ a ≤ x ∧ x < a + n ∧ p x = true
  | 0, a => by simp [fr]; omega
  | n + 1, a => by
    unfold fr
    by_cases h : p a = true
    · rw [if_pos h, List.mem_cons, mem_fr n (a + 1)]
      constructor
      · rintro (rfl | h2)
        · exact ⟨by omega, by omega, h⟩
        · exact ⟨by omega, by omega, h2.2.2⟩
      · rintro ⟨h1, h2, h3⟩
        rcases Int.lt_or_le a x with h4 | h4
        · exact .inr ⟨by omega, by omega, h3⟩
        · exact .inl (by omega)
    · rw [if_neg h, mem_fr n (a + 1)]
      constructor
      · rintro ⟨h1, h2, h3⟩
        exact ⟨by omega, by omega, h3⟩
      · rintro ⟨h1, h2, h3⟩
        rcases Int.lt_or_le a x with h4 | h4
        · exact ⟨by omega, by omega, h3⟩
        · have : x = a := by omega
          subst this; exact absurd h3 h
theorem mem_From {p : Int → Bool} {x a : Int} : x ∈ From p a ↔ a ≤ x ∧ x ≤ 73048 ∧ p x = true := by
  unfold From
  rw [mem_fr]
  constructor
  · rintro ⟨h1, h2, h3⟩; exact ⟨h1, by omega, h3⟩
  · rintro ⟨h1, h2, h3⟩; exact ⟨h1, by omega, h3⟩
theorem fr_rise {p : Int → Bool} : ∀ (n : Nat) (a : Int), (fr p a n).Pairwise (· < ·)
  | 0, a => List.Pairwise.nil
  | n + 1, a => by
    unfold fr
    by_cases h : p a = true
    · rw [if_pos h, List.pairwise_cons]
      exact ⟨fun x hx => by have := (mem_fr n (a + 1)).1 hx; omega, fr_rise n (a + 1)⟩
    · rw [if_neg h]; exact fr_rise n (a + 1)
theorem From_rise (p : Int → Bool) (a : Int) : (From p a).Pairwise (· < ·) := fr_rise _ _

/-- each Every-th day -/
def pD (s e d : Int) : Bool := decide (s ≤ d ∧ (d - s) % e = 0)
/-- each Every-th week, these weekdays -/
def pW (s e : Int) (ds : List Int) (d : Int) : Bool := decide (s ≤ d ∧ ((d - (d + 5) % 7 - (s - (s + 5) % 7)) / 7) % e = 0 ∧ (d + 5) % 7 ∈ ds)
/-- the year and the month of a count of months -/
def yA (s : Int) : Int := 2000 + s / 12
def mA (s : Int) : Int := s % 12 + 1
/-- one day of a month, and the same one so many months later -/
def isM (s e d : Int) (j i dd : Nat) : Bool := decide (s = num (yA j) (mA j) dd ∧ 1 ≤ dd ∧ (dd : Int) ≤ dim (yA j) (mA j) ∧ j ≤ i ∧ ((i : Int) - j) % e = 0 ∧ (dd : Int) ≤ dim (yA i) (mA i) ∧ d = num (yA i) (mA i) dd)
/-- the same day of each Every-th month -/
def pM (s e d : Int) : Bool := (List.range 2400).any fun j => (List.range 2400).any fun i => (List.range 32).any fun dd => isM s e d j i dd
theorem pM_iff {s e d : Int} : pM s e d = true ↔ ∃ j i dd : Nat, j < 2400 ∧ i < 2400 ∧ dd < 32 ∧ isM s e d j i dd = true := by
  unfold pM
  simp only [List.any_eq_true, List.mem_range]
  constructor
  · rintro ⟨j, h1, i, h2, dd, h3, h4⟩; exact ⟨j, i, dd, h1, h2, h3, h4⟩
  · rintro ⟨j, i, dd, h1, h2, h3, h4⟩; exact ⟨j, h1, i, h2, dd, h3, h4⟩
theorem isM_iff {s e d : Int} {j i dd : Nat} : isM s e d j i dd = true ↔ (s = num (yA j) (mA j) dd ∧ 1 ≤ dd ∧ (dd : Int) ≤ dim (yA j) (mA j) ∧ j ≤ i ∧ ((i : Int) - j) % e = 0 ∧ (dd : Int) ≤ dim (yA i) (mA i) ∧ d = num (yA i) (mA i) dd) := by
  unfold isM; exact decide_eq_true_iff
theorem yA_in {s : Int} (h0 : 0 ≤ s) (h1 : s < 2400) : 2000 ≤ yA s ∧ yA s ≤ 2199 ∧ 1 ≤ mA s ∧ mA s ≤ 12 := by unfold yA mA; omega
theorem mo_inj {j k : Int} (h1 : yA j = yA k) (h2 : mA j = mA k) : j = k := by unfold yA mA at *; omega
theorem vld_mo {s dd : Int} (h0 : 0 ≤ s) (h1 : s < 2400) (h2 : 1 ≤ dd) (h3 : dd ≤ dim (yA s) (mA s)) : vld (yA s) (mA s) dd := by
  obtain ⟨a, b, c, d⟩ := yA_in h0 h1
  exact ⟨a, b, c, d, h2, h3⟩

/-- the first day of a month -/
def F (s : Int) : Int := dby (yA s) + cum (yA s) (mA s)
theorem num_F (s dd : Int) : num (yA s) (mA s) dd = F s + dd - 1 := rfl
theorem F_succ {s : Int} (h0 : 0 ≤ s) (h1 : s < 2400) : F (s + 1) = F s + dim (yA s) (mA s) := by
  obtain ⟨a, b, c, d⟩ := yA_in h0 h1
  have hc := cum_succ (yA s) (mA s) a b c d
  by_cases h : mA s = 12
  · have e1 : yA (s + 1) = yA s + 1 := by unfold yA mA at *; omega
    have e2 : mA (s + 1) = 1 := by unfold mA at *; omega
    unfold F
    rw [e1, e2, cum_one, dby_succ]
    rw [h] at hc ⊢
    have := cum_end (yA s)
    have e3 : (12 : Int) + 1 = 13 := rfl
    rw [e3] at hc
    omega
  · have e1 : yA (s + 1) = yA s := by unfold yA mA at *; omega
    have e2 : mA (s + 1) = mA s + 1 := by unfold mA at *; omega
    unfold F
    rw [e1, e2, hc]; omega
theorem F_last : F 2400 = 73049 := by decide
theorem F_mono : ∀ (n : Nat) (s : Int), 0 ≤ s → s + n ≤ 2400 → F s ≤ F (s + n)
  | 0, s, _, _ => by simp
  | n + 1, s, h0, h1 => by
    have h2 := F_succ h0 (by omega)
    have h3 := (dim_bd (yA s) (mA s)).1
    have h4 := F_mono n (s + 1) (by omega) (by omega)
    have e : s + 1 + (n : Int) = s + ((n + 1 : Nat) : Int) := by omega
    rw [e] at h4
    omega
theorem F_le {s t : Int} (h0 : 0 ≤ s) (h : s ≤ t) (h1 : t ≤ 2400) : F s ≤ F t := by
  have := F_mono (t - s).toNat s h0 (by omega)
  have e : s + ((t - s).toNat : Int) = t := by omega
  rw [e] at this; exact this

/-- of a day whose date is known: which days the test lets through -/
theorem pM_at {j dd : Int} {e d : Int} (hj0 : 0 ≤ j) (hj1 : j < 2400) (h1 : 1 ≤ dd) (h2 : dd ≤ dim (yA j) (mA j)) :
    pM (num (yA j) (mA j) dd) e d = true ↔ ∃ i : Int, j ≤ i ∧ i < 2400 ∧ (i - j) % e = 0 ∧ dd ≤ dim (yA i) (mA i) ∧ d = num (yA i) (mA i) dd := by
  rw [pM_iff]
  constructor
  · rintro ⟨j', i, dd', hj', hi, _, h⟩
    obtain ⟨e1, e2, e3, e4, e5, e6, e7⟩ := isM_iff.1 h
    have v1 : vld (yA j) (mA j) dd := vld_mo hj0 hj1 h1 h2
    have v2 : vld (yA j') (mA j') dd' := vld_mo (by omega) (by omega) (by omega) e3
    obtain ⟨q1, q2, q3⟩ := num_inj v1 v2 e1
    have q4 := mo_inj q1 q2
    subst q4 q3
    exact ⟨i, by omega, by omega, e5, e6, e7⟩
  · rintro ⟨i, h3, h4, h5, h6, h7⟩
    have h8 := (dim_bd (yA j) (mA j)).2
    have c1 : ((j.toNat : Nat) : Int) = j := by omega
    have c2 : ((i.toNat : Nat) : Int) = i := by omega
    have c3 : ((dd.toNat : Nat) : Int) = dd := by omega
    refine ⟨j.toNat, i.toNat, dd.toNat, by omega, by omega, by omega, isM_iff.2 ?_⟩
    rw [c1, c2, c3]
    exact ⟨rfl, by omega, h2, by omega, h5, h6, h7⟩

/-- the weekdays that a rule's weeks go by -/
def wds (s : Int) (ds : List Int) : List Int := if ds.length = 0 then [(s + 5) % 7] else ds
/-- the words of kinds -/
def onceW : List UInt8 := [111, 110, 99, 101]
def dailyW : List UInt8 := [100, 97, 105, 108, 121]
def weeklyW : List UInt8 := [119, 101, 101, 107, 108, 121]
def monthlyW : List UInt8 := [109, 111, 110, 116, 104, 108, 121]
def yearlyW : List UInt8 := [121, 101, 97, 114, 108, 121]
/-- a rule -/
structure RV where
  freq : List UInt8
  every : Int
  days : List Int
  count : Int
  til : Int

/-- a rule that is well -/
structure Well (r : RV) : Prop where
  fr : r.freq = onceW ∨ r.freq = dailyW ∨ r.freq = weeklyW ∨ r.freq = monthlyW ∨ r.freq = yearlyW
  ds : ∀ d ∈ r.days, 0 ≤ d ∧ d ≤ 6
  ev : 1 ≤ r.every ∧ r.every ≤ 100
  co : 0 ≤ r.count ∧ r.count ≤ 1000
  un : -1 ≤ r.til ∧ r.til ≤ 73048
  on : r.freq = onceW → r.every = 1 ∧ r.count = 0 ∧ r.til = -1
  wk : r.freq ≠ weeklyW → r.days = []
  cu : r.count = 0 ∨ r.til = -1
  ri : ∀ (i : Nat) (h : i + 1 < r.days.length), r.days[i] < r.days[i + 1]
/-- the test of a start and a rule -/
def cnd (f : List UInt8) (s e : Int) (ds : List Int) : Int → Bool :=
  if f = dailyW then pD s e else if f = weeklyW then pW s e (wds s ds) else if f = monthlyW then pM s e else if f = yearlyW then pM s (e * 12) else fun d => decide (d = s)
/-- all candidates -/
def cds (f : List UInt8) (s e : Int) (ds : List Int) : List Int := From (cnd f s e ds) s
/-- what an end leaves, and a count -/
def cutU (u : Int) (l : List Int) : List Int := if 0 ≤ u then l.takeWhile (fun d => decide (d ≤ u)) else l
def cut (c u : Int) (l : List Int) : List Int := if 0 < c then (cutU u l).take c.toNat else cutU u l

theorem cut_none (l : List Int) : cut 0 (-1) l = l := by unfold cut cutU; simp
theorem cut_count {c : Int} (h : 0 < c) (l : List Int) : cut c (-1) l = l.take c.toNat := by unfold cut cutU; rw [if_pos h]; simp
theorem cut_until {u : Int} (h : 0 ≤ u) (l : List Int) : cut 0 u l = l.takeWhile (fun d => decide (d ≤ u)) := by unfold cut cutU; rw [if_pos h]; simp
theorem cutU_rise {u : Int} {l : List Int} (h : l.Pairwise (· < ·)) : (cutU u l).Pairwise (· < ·) := by
  unfold cutU; split
  · exact h.sublist (List.takeWhile_sublist _)
  · exact h
theorem cut_rise {c u : Int} {l : List Int} (h : l.Pairwise (· < ·)) : (cut c u l).Pairwise (· < ·) := by
  unfold cut; split
  · exact (cutU_rise h).sublist (List.take_sublist _ _)
  · exact cutU_rise h
/-- of rising days: which ones an end leaves -/
theorem take_rise {u : Int} : ∀ {l : List Int}, l.Pairwise (· < ·) → l.takeWhile (fun d => decide (d ≤ u)) = l.filter (fun d => decide (d ≤ u))
  | [], _ => rfl
  | a :: l, h => by
    rw [List.pairwise_cons] at h
    by_cases ha : a ≤ u
    · rw [List.takeWhile_cons_of_pos (by simpa using ha), List.filter_cons_of_pos (by simpa using ha), take_rise h.2]
    · rw [List.takeWhile_cons_of_neg (by simpa using ha), List.filter_cons_of_neg (by simpa using ha)]
      symm
      rw [List.filter_eq_nil_iff]
      intro x hx
      have := h.1 x hx
      simp; omega
theorem takeWhile_at {u : Int} {l : List Int} (h : l.Pairwise (· < ·)) (i : Nat) : (l.takeWhile (fun d => decide (d ≤ u)))[i]? = if (∃ x, l[i]? = some x ∧ x ≤ u) then l[i]? else none := by
  induction l generalizing i with
  | nil => simp
  | cons a l ih =>
    rw [List.pairwise_cons] at h
    by_cases ha : a ≤ u
    · rw [List.takeWhile_cons_of_pos (by simpa using ha)]
      cases i with
      | zero => simp [ha]
      | succ i => simp only [List.getElem?_cons_succ]; exact ih h.2 i
    · rw [List.takeWhile_cons_of_neg (by simpa using ha)]
      rw [if_neg]
      · simp
      · rintro ⟨x, hx, hu⟩
        cases i with
        | zero => simp at hx; omega
        | succ i =>
          simp only [List.getElem?_cons_succ] at hx
          have := h.1 x (List.mem_of_getElem? hx)
          omega
end Go.Proofs.YtkjfbeempmfipaaGreatDoor.Cal

/- Plain mathematics of reading a day's text: which signs stand where, and the number that digits are. -/
namespace Go.Proofs.YtkjfbeempmfipaaGreatDoor.Cal
open Go

/-- a line at the fifth and the eighth place, else a digit -/
def sgn (j : Nat) (c : UInt8) : Prop := if j = 4 ∨ j = 7 then (c.toNat : Int) = 45 else 48 ≤ (c.toNat : Int) ∧ (c.toNat : Int) ≤ 57
/-- digits -/
def digs (l : List UInt8) : Prop := ∀ c ∈ l, 48 ≤ (c.toNat : Int) ∧ (c.toNat : Int) ≤ 57
/-- the number that digits are -/
def val (l : List UInt8) : Int := l.foldl (fun a c => a * 10 + ((c.toNat : Int) - 48)) 0
/-- a day's text, by its signs -/
def isDT (s : ByteArray) : Prop := s.size = 10 ∧ ∀ (j : Nat) (h : j < s.size), sgn j s[j]

theorem sgn_line {j : Nat} {c : UInt8} (h : j = 4 ∨ j = 7) : sgn j c ↔ (c.toNat : Int) = 45 := by unfold sgn; rw [if_pos h]
theorem sgn_digit {j : Nat} {c : UInt8} (h : ¬ (j = 4 ∨ j = 7)) : sgn j c ↔ (48 ≤ (c.toNat : Int) ∧ (c.toNat : Int) ≤ 57) := by unfold sgn; rw [if_neg h]
theorem val_snoc (l : List UInt8) (c : UInt8) : val (l ++ [c]) = val l * 10 + ((c.toNat : Int) - 48) := by unfold val; rw [List.foldl_append]; rfl
theorem take_snoc (s : ByteArray) (k : Nat) (h : k < s.size) : s.data.toList.take (k + 1) = s.data.toList.take k ++ [s[k]] := by
  rw [List.take_succ_eq_append_getElem (by simpa using h)]; rfl
theorem digs_take {l : List UInt8} (h : digs l) (k : Nat) : digs (l.take k) := fun c hc => h c (List.mem_of_mem_take hc)
theorem digs_at {s : ByteArray} (h : digs s.data.toList) (k : Nat) (hk : k < s.size) : 48 ≤ (s[k].toNat : Int) ∧ (s[k].toNat : Int) ≤ 57 :=
  h _ (by show s.data[k] ∈ _; exact Array.getElem_mem_toList hk)
theorem val_bd (l : List UInt8) (h : digs l) (hl : l.length ≤ 4) : 0 ≤ val l ∧ val l ≤ 9999 := by
  match l, hl with
  | [], _ => simp [val]
  | [a], _ => have := h a (by simp); simp [val]; omega
  | [a, b], _ => have := h a (by simp); have := h b (by simp); simp [val]; omega
  | [a, b, c], _ => have := h a (by simp); have := h b (by simp); have := h c (by simp); simp [val]; omega
  | [a, b, c, d], _ => have := h a (by simp); have := h b (by simp); have := h c (by simp); have := h d (by simp); simp [val]; omega
  | _ :: _ :: _ :: _ :: _ :: _, h => simp at h

/-- a text of ten signs, sign by sign -/
theorem ten {s : ByteArray} (h : s.size = 10) : ∃ c0 c1 c2 c3 c4 c5 c6 c7 c8 c9 : UInt8, s = ⟨#[c0, c1, c2, c3, c4, c5, c6, c7, c8, c9]⟩ := by
  obtain ⟨⟨l⟩⟩ := s
  have hl : l.length = 10 := h
  match l, hl with
  | [c0, c1, c2, c3, c4, c5, c6, c7, c8, c9], _ => exact ⟨c0, c1, c2, c3, c4, c5, c6, c7, c8, c9, rfl⟩
theorem isDT_parts {s : ByteArray} (h : isDT s) : digs (s.extract 0 4).data.toList ∧ digs (s.extract 5 7).data.toList ∧ digs (s.extract 8 s.size).data.toList ∧ (s.extract 0 4).size = 4 ∧ (s.extract 5 7).size = 2 ∧ (s.extract 8 s.size).size = 2 := by
  obtain ⟨h10, hall⟩ := h
  obtain ⟨c0, c1, c2, c3, c4, c5, c6, c7, c8, c9, rfl⟩ := ten h10
  have a0 := (sgn_digit (by omega)).1 (hall 0 (by rw [h10]; omega))
  have a1 := (sgn_digit (by omega)).1 (hall 1 (by rw [h10]; omega))
  have a2 := (sgn_digit (by omega)).1 (hall 2 (by rw [h10]; omega))
  have a3 := (sgn_digit (by omega)).1 (hall 3 (by rw [h10]; omega))
  have a5 := (sgn_digit (by omega)).1 (hall 5 (by rw [h10]; omega))
  have a6 := (sgn_digit (by omega)).1 (hall 6 (by rw [h10]; omega))
  have a8 := (sgn_digit (by omega)).1 (hall 8 (by rw [h10]; omega))
  have a9 := (sgn_digit (by omega)).1 (hall 9 (by rw [h10]; omega))
  refine ⟨?_, ?_, ?_, rfl, rfl, rfl⟩
  · rw [Lib.extract_data]; intro c hc
    have hc' : c ∈ [c0, c1, c2, c3] := hc
    simp only [List.mem_cons, List.not_mem_nil, or_false] at hc'
    rcases hc' with rfl | rfl | rfl | rfl
    · exact a0
    · exact a1
    · exact a2
    · exact a3
  · rw [Lib.extract_data]; intro c hc
    have hc' : c ∈ [c5, c6] := hc
    simp only [List.mem_cons, List.not_mem_nil, or_false] at hc'
    rcases hc' with rfl | rfl
    · exact a5
    · exact a6
  · rw [Lib.extract_data]; intro c hc
    have hc' : c ∈ [c8, c9] := hc
    simp only [List.mem_cons, List.not_mem_nil, or_false] at hc'
    rcases hc' with rfl | rfl
    · exact a8
    · exact a9
/-- the year, the month and the day of a text -/
def yS (s : ByteArray) : Int := val (s.extract 0 4).data.toList
def mS (s : ByteArray) : Int := val (s.extract 5 7).data.toList
def dS (s : ByteArray) : Int := val (s.extract 8 s.size).data.toList

theorem dgt_bd (k : Int) (h0 : 0 ≤ k) (h1 : k ≤ 9) : ((dgt k).toNat : Int) = 48 + k := by rw [dgt_nat k h0 h1]; omega
theorem txt_isDT (y m d : Int) (hy0 : 0 ≤ y) (hy1 : y ≤ 9999) (hm0 : 0 ≤ m) (hm1 : m ≤ 99) (hd0 : 0 ≤ d) (hd1 : d ≤ 99) : isDT ⟨(txt y m d).toArray⟩ := by
  refine ⟨rfl, ?_⟩
  have a0 := dgt_bd (y / 1000) (by omega) (by omega)
  have a1 := dgt_bd (y / 100 % 10) (by omega) (by omega)
  have a2 := dgt_bd (y / 10 % 10) (by omega) (by omega)
  have a3 := dgt_bd (y % 10) (by omega) (by omega)
  have a5 := dgt_bd (m / 10) (by omega) (by omega)
  have a6 := dgt_bd (m % 10) (by omega) (by omega)
  have a8 := dgt_bd (d / 10) (by omega) (by omega)
  have a9 := dgt_bd (d % 10) (by omega) (by omega)
  intro j hj
  have hj' : j < 10 := hj
  have key : ∀ i : Fin 10, sgn i.1 ((txt y m d)[i.1]'(by rw [txt_length]; exact i.2)) := by
    intro i
    match i with
    | ⟨0, _⟩ => show sgn 0 (dgt (y / 1000)); rw [sgn_digit (by omega)]; omega
    | ⟨1, _⟩ => show sgn 1 (dgt (y / 100 % 10)); rw [sgn_digit (by omega)]; omega
    | ⟨2, _⟩ => show sgn 2 (dgt (y / 10 % 10)); rw [sgn_digit (by omega)]; omega
    | ⟨3, _⟩ => show sgn 3 (dgt (y % 10)); rw [sgn_digit (by omega)]; omega
    | ⟨4, _⟩ => show sgn 4 45; rw [sgn_line (by omega)]; rfl
    | ⟨5, _⟩ => show sgn 5 (dgt (m / 10)); rw [sgn_digit (by omega)]; omega
    | ⟨6, _⟩ => show sgn 6 (dgt (m % 10)); rw [sgn_digit (by omega)]; omega
    | ⟨7, _⟩ => show sgn 7 45; rw [sgn_line (by omega)]; rfl
    | ⟨8, _⟩ => show sgn 8 (dgt (d / 10)); rw [sgn_digit (by omega)]; omega
    | ⟨9, _⟩ => show sgn 9 (dgt (d % 10)); rw [sgn_digit (by omega)]; omega
  exact key ⟨j, hj'⟩
theorem txt_nums (y m d : Int) (hy0 : 0 ≤ y) (hy1 : y ≤ 9999) (hm0 : 0 ≤ m) (hm1 : m ≤ 99) (hd0 : 0 ≤ d) (hd1 : d ≤ 99) :
    yS ⟨(txt y m d).toArray⟩ = y ∧ mS ⟨(txt y m d).toArray⟩ = m ∧ dS ⟨(txt y m d).toArray⟩ = d := by
  have a0 := dgt_bd (y / 1000) (by omega) (by omega)
  have a1 := dgt_bd (y / 100 % 10) (by omega) (by omega)
  have a2 := dgt_bd (y / 10 % 10) (by omega) (by omega)
  have a3 := dgt_bd (y % 10) (by omega) (by omega)
  have a5 := dgt_bd (m / 10) (by omega) (by omega)
  have a6 := dgt_bd (m % 10) (by omega) (by omega)
  have a8 := dgt_bd (d / 10) (by omega) (by omega)
  have a9 := dgt_bd (d % 10) (by omega) (by omega)
  refine ⟨?_, ?_, ?_⟩
  · unfold yS; rw [Lib.extract_data]
    show val [dgt (y / 1000), dgt (y / 100 % 10), dgt (y / 10 % 10), dgt (y % 10)] = y
    simp only [val, List.foldl_cons, List.foldl_nil, a0, a1, a2, a3]; omega
  · unfold mS; rw [Lib.extract_data]
    show val [dgt (m / 10), dgt (m % 10)] = m
    simp only [val, List.foldl_cons, List.foldl_nil, a5, a6]; omega
  · unfold dS; rw [Lib.extract_data]
    show val [dgt (d / 10), dgt (d % 10)] = d
    simp only [val, List.foldl_cons, List.foldl_nil, a8, a9]; omega
end Go.Proofs.YtkjfbeempmfipaaGreatDoor.Cal
