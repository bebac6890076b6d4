/- Plain mathematics of what comes again (no program text in it): the days from one on that a test lets through, the tests of the five kinds of rules, what a count and an end leave. -/
import Derived.Test.YtnpecjccajebiaaGreatDoorMathW
import Derived.Test.YtnpecjccajebiaaGreatDoorYaAA
namespace Go.Proofs.YtnpecjccajebiaaGreatDoor.Cal

/-- n days from a on: those that p lets through -/
def fr (p : Int → Bool) : Int → Nat → List Int
  | _, 0 => []
  | a, n + 1 => if p a = true then a :: fr p (a + 1) n else fr p (a + 1) n
/-- the days from a on to the last one: those that p lets through -/
def From (p : Int → Bool) (a : Int) : List Int := fr p a (73049 - a).toNat

theorem From_end {p : Int → Bool} {a : Int} (h : 73048 < a) : From p a = [] := by
  unfold From
  have : (73049 - a).toNat = 0 := by omega
  rw [this]; rfl
theorem From_step {p : Int → Bool} {a : Int} (h : a ≤ 73048) : From p a = if p a = true then a :: From p (a + 1) else From p (a + 1) := by
  unfold From
  have : (73049 - a).toNat = (73049 - (a + 1)).toNat + 1 := by omega
  rw [this]; rfl
theorem From_hit {p : Int → Bool} {a : Int} (h : a ≤ 73048) (hp : p a = true) : From p a = a :: From p (a + 1) := by
  rw [From_step h, if_pos hp]
theorem From_miss {p : Int → Bool} {a : Int} (hp : p a = false) : From p a = From p (a + 1) := by
  rcases Int.lt_or_le 73048 a with h | h
  · rw [From_end h, From_end (by omega)]
  · rw [From_step h, if_neg (by rw [hp]; decide)]
theorem From_skip {p : Int → Bool} : ∀ (n : Nat) (a : Int), (∀ x, a ≤ x → x < a + n → p x = false) → From p a = From p (a + n)
  | 0, a, _ => by simp
  | n + 1, a, h => by
    rw [From_miss (h a (by omega) (by omega)), From_skip n (a + 1) (fun x h1 h2 => h x (by omega) (by omega))]
    congr 1; omega
theorem From_to {p : Int → Bool} {a b : Int} (h : a ≤ b) (hp : ∀ x, a ≤ x → x < b → p x = false) : From p a = From p b := by
  have := From_skip (p := p) (b - a).toNat a (fun x h1 h2 => hp x h1 (by omega))
  rw [this]; congr 1; omega
theorem mem_fr {p : Int → Bool} {x : Int} : ∀ (n : Nat) (a : Int), x ∈ fr p a n ↔ a ≤ x ∧ x < a + n ∧ p x = true
  | 0, a => by simp [fr]; omega
  | n + 1, a => by
    unfold fr
    by_cases h : p a = true
    · rw [if_pos h, List.mem_cons, mem_fr n (a + 1)]
      constructor
      · rintro (rfl | h2)
        · exact ⟨by omega, by omega, h⟩
        · exact ⟨by omega, by omega, h2.2.2⟩
      · rintro ⟨h1, h2, h3⟩
        rcases Int.lt_or_le a x with h4 | h4
        · exact .inr ⟨by omega, by omega, h3⟩
        · exact .inl (by omega)
    · rw [if_neg h, mem_fr n (a + 1)]
      constructor
      · rintro ⟨h1, h2, h3⟩
        exact ⟨by omega, by omega, h3⟩
      · rintro ⟨h1, h2, h3⟩
        rcases Int.lt_or_le a x with h4 | h4
        · exact ⟨by omega, by omega, h3⟩
        · have : x = a := by omega
          subst this; exact absurd h3 h
theorem mem_From {p : Int → Bool} {x a : Int} : x ∈ From p a ↔ a ≤ x ∧ x ≤ 73048 ∧ p x = true := by
  unfold From
  rw [mem_fr]
  constructor
  · rintro ⟨h1, h2, h3⟩; exact ⟨h1, by omega, h3⟩
  · rintro ⟨h1, h2, h3⟩; exact ⟨h1, by omega, h3⟩
theorem fr_rise {p : Int → Bool} : ∀ (n : Nat) (a : Int), (fr p a n).Pairwise (· < ·)
  | 0, a => List.Pairwise.nil
  | n + 1, a => by
    unfold fr
    by_cases h : p a = true
    · rw [if_pos h, List.pairwise_cons]
      exact ⟨fun x hx => by have := (mem_fr n (a + 1)).1 hx; omega, fr_rise n (a + 1)⟩
    · rw [if_neg h]; exact fr_rise n (a + 1)
theorem From_rise (p : Int → Bool) (a : Int) : (From p a).Pairwise (· < ·) := fr_rise _ _

/-- each Every-th day -/
def pD (s e d : Int) : Bool := decide (s ≤ d ∧ (d - s) % e = 0)
/-- each Every-th week, these weekdays -/
def pW (s e : Int) (ds : List Int) (d : Int) : Bool := decide (s ≤ d ∧ ((d - (d + 5) % 7 - (s - (s + 5) % 7)) / 7) % e = 0 ∧ (d + 5) % 7 ∈ ds)
/-- the year and the month of a count of months -/
def yA (s : Int) : Int := 2000 + s / 12
def mA (s : Int) : Int := s % 12 + 1
/-- one day of a month, and the same one so many months later -/
def isM (s e d : Int) (j i dd : Nat) : Bool := decide (s = num (yA j) (mA j) dd ∧ 1 ≤ dd ∧ (dd : Int) ≤ dim (yA j) (mA j) ∧ j ≤ i ∧ ((i : Int) - j) % e = 0 ∧ (dd : Int) ≤ dim (yA i) (mA i) ∧ d = num (yA i) (mA i) dd)
/-- the same day of each Every-th month -/
def pM (s e d : Int) : Bool := (List.range 2400).any fun j => (List.range 2400).any fun i => (List.range 32).any fun dd => isM s e d j i dd
theorem pM_iff {s e d : Int} : pM s e d = true ↔ ∃ j i dd : Nat, j < 2400 ∧ i < 2400 ∧ dd < 32 ∧ isM s e d j i dd = true := by
  unfold pM
  simp only [List.any_eq_true, List.mem_range]
  constructor
  · rintro ⟨j, h1, i, h2, dd, h3, h4⟩; exact ⟨j, i, dd, h1, h2, h3, h4⟩
  · rintro ⟨j, i, dd, h1, h2, h3, h4⟩; exact ⟨j, h1, i, h2, dd, h3, h4⟩
theorem isM_iff {s e d : Int} {j i dd : Nat} : isM s e d j i dd = true ↔ (s = num (yA j) (mA j) dd ∧ 1 ≤ dd ∧ (dd : Int) ≤ dim (yA j) (mA j) ∧ j ≤ i ∧ ((i : Int) - j) % e = 0 ∧ (dd : Int) ≤ dim (yA i) (mA i) ∧ d = num (yA i) (mA i) dd) := by
  unfold isM; exact decide_eq_true_iff
theorem yA_in {s : Int} (h0 : 0 ≤ s) (h1 : s < 2400) : 2000 ≤ yA s ∧ yA s ≤ 2199 ∧ 1 ≤ mA s ∧ mA s ≤ 12 := by unfold yA mA; omega
theorem mo_inj {j k : Int} (h1 : yA j = yA k) (h2 : mA j = mA k) : j = k := by unfold yA mA at *; omega
theorem vld_mo {s dd : Int} (h0 : 0 ≤ s) (h1 : s < 2400) (h2 : 1 ≤ dd) (h3 : dd ≤ dim (yA s) (mA s)) : vld (yA s) (mA s) dd := by
  obtain ⟨a, b, c, d⟩ := yA_in h0 h1
  exact ⟨a, b, c, d, h2, h3⟩

/-- the first day of a month -/
def F (s : Int) : Int := dby (yA s) + cum (yA s) (mA s)
theorem num_F (s dd : Int) : num (yA s) (mA s) dd = F s + dd - 1 := rfl
theorem F_succ {s : Int} (h0 : 0 ≤ s) (h1 : s < 2400) : F (s + 1) = F s + dim (yA s) (mA s) := by
  obtain ⟨a, b, c, d⟩ := yA_in h0 h1
  have hc := cum_succ (yA s) (mA s) a b c d
  by_cases h : mA s = 12
  · have e1 : yA (s + 1) = yA s + 1 := by unfold yA mA at *; omega
    have e2 : mA (s + 1) = 1 := by unfold mA at *; omega
    unfold F
    rw [e1, e2, cum_one, dby_succ]
    rw [h] at hc ⊢
    have := cum_end (yA s)
    have e3 : (12 : Int) + 1 = 13 := rfl
    rw [e3] at hc
    omega
  · have e1 : yA (s + 1) = yA s := by unfold yA mA at *; omega
    have e2 : mA (s + 1) = mA s + 1 := by unfold mA at *; omega
    unfold F
    rw [e1, e2, hc]; omega
theorem F_last : F 2400 = 73049 := by decide
theorem F_mono : ∀ (n : Nat) (s : Int), 0 ≤ s → s + n ≤ 2400 → F s ≤ F (s + n)
  | 0, s, _, _ => by simp
  | n + 1, s, h0, h1 => by
    have h2 := F_succ h0 (by omega)
    have h3 := (dim_bd (yA s) (mA s)).1
    have h4 := F_mono n (s + 1) (by omega) (by omega)
    have e : s + 1 + (n : Int) = s + ((n + 1 : Nat) : Int) := by omega
    rw [e] at h4
    omega
theorem F_le {s t : Int} (h0 : 0 ≤ s) (h : s ≤ t) (h1 : t ≤ 2400) : F s ≤ F t := by
  have := F_mono (t - s).toNat s h0 (by omega)
  have e : s + ((t - s).toNat : Int) = t := by omega
  rw [e] at this; exact this

/-- of a day whose date is known: which days the test lets through -/
theorem pM_at {j dd : Int} {e d : Int} (hj0 : 0 ≤ j) (hj1 : j < 2400) (h1 : 1 ≤ dd) (h2 : dd ≤ dim (yA j) (mA j)) :
    pM (num (yA j) (mA j) dd) e d = true ↔ ∃ i : Int, j ≤ i ∧ i < 2400 ∧ (i - j) % e = 0 ∧ dd ≤ dim (yA i) (mA i) ∧ d = num (yA i) (mA i) dd := by
  rw [pM_iff]
  constructor
  · rintro ⟨j', i, dd', hj', hi, _, h⟩
    obtain ⟨e1, e2, e3, e4, e5, e6, e7⟩ := isM_iff.1 h
    have v1 : vld (yA j) (mA j) dd := vld_mo hj0 hj1 h1 h2
    have v2 : vld (yA j') (mA j') dd' := vld_mo (by omega) (by omega) (by omega) e3
    obtain ⟨q1, q2, q3⟩ := num_inj v1 v2 e1
    have q4 := mo_inj q1 q2
    subst q4 q3
    exact ⟨i, by omega, by omega, e5, e6, e7⟩
  · rintro ⟨i, h3, h4, h5, h6, h7⟩
    have h8 := (dim_bd (yA j) (mA j)).2
    have c1 : ((j.toNat : Nat) : Int) = j := by omega
    have c2 : ((i.toNat : Nat) : Int) = i := by omega
    have c3 : ((dd.toNat : Nat) : Int) = dd := by omega
    refine ⟨j.toNat, i.toNat, dd.toNat, by omega, by omega, by omega, isM_iff.2 ?_⟩
    rw [c1, c2, c3]
    exact ⟨rfl, by omega, h2, by omega, h5, h6, h7⟩

/-- the weekdays that a rule's weeks go by -/
def wds (s : Int) (ds : List Int) : List Int := if ds.length = 0 then [(s + 5) % 7] else ds
/-- the words of kinds -/
def onceW : List UInt8 := [111, 110, 99, 101]
def dailyW : List UInt8 := [100, 97, 105, 108, 121]
def weeklyW : List UInt8 := [119, 101, 101, 107, 108, 121]
def monthlyW : List UInt8 := [109, 111, 110, 116, 104, 108, 121]
def yearlyW : List UInt8 := [121, 101, 97, 114, 108, 121]
/-- a rule -/
structure RV where
  freq : List UInt8
  every : Int
  days : List Int
  count : Int
  til : Int

/-- a rule that is well -/
structure Well (r : RV) : Prop where
  fr : r.freq = onceW ∨ r.freq = dailyW ∨ r.freq = weeklyW ∨ r.freq = monthlyW ∨ r.freq = yearlyW
  ds : ∀ d ∈ r.days, 0 ≤ d ∧ d ≤ 6
  ev : 1 ≤ r.every ∧ r.every ≤ 100
  co : 0 ≤ r.count ∧ r.count ≤ 1000
  un : -1 ≤ r.til ∧ r.til ≤ 73048
  on : r.freq = onceW → r.every = 1 ∧ r.count = 0 ∧ r.til = -1
  wk : r.freq ≠ weeklyW → r.days = []
  cu : r.count = 0 ∨ r.til = -1
  ri : ∀ (i : Nat) (h : i + 1 < r.days.length), r.days[i] < r.days[i + 1]
/-- the test of a start and a rule -/
def cnd (f : List UInt8) (s e : Int) (ds : List Int) : Int → Bool :=
  if f = dailyW then pD s e else if f = weeklyW then pW s e (wds s ds) else if f = monthlyW then pM s e else if f = yearlyW then pM s (e * 12) else fun d => decide (d = s)
/-- all candidates -/
def cds (f : List UInt8) (s e : Int) (ds : List Int) : List Int := From (cnd f s e ds) s
/-- what an end leaves, and a count -/
def cutU (u : Int) (l : List Int) : List Int := if 0 ≤ u then l.takeWhile (fun d => decide (d ≤ u)) else l
def cut (c u : Int) (l : List Int) : List Int := if 0 < c then (cutU u l).take c.toNat else cutU u l

theorem cut_none (l : List Int) : cut 0 (-1) l = l := by unfold cut cutU; simp
theorem cut_count {c : Int} (h : 0 < c) (l : List Int) : cut c (-1) l = l.take c.toNat := by unfold cut cutU; rw [if_pos h]; simp
theorem cut_until {u : Int} (h : 0 ≤ u) (l : List Int) : cut 0 u l = l.takeWhile (fun d => decide (d ≤ u)) := by unfold cut cutU; rw [if_pos h]; simp
theorem cutU_rise {u : Int} {l : List Int} (h : l.Pairwise (· < ·)) : (cutU u l).Pairwise (· < ·) := by
  unfold cutU; split
  · exact h.sublist (List.takeWhile_sublist _)
  · exact h
theorem cut_rise {c u : Int} {l : List Int} (h : l.Pairwise (· < ·)) : (cut c u l).Pairwise (· < ·) := by
  unfold cut; split
  · exact (cutU_rise h).sublist (List.take_sublist _ _)
  · exact cutU_rise h
/-- of rising days: which ones an end leaves -/
theorem take_rise {u : Int} : ∀ {l : List Int}, l.Pairwise (· < ·) → l.takeWhile (fun d => decide (d ≤ u)) = l.filter (fun d => decide (d ≤ u))
  | [], _ => rfl
  | a :: l, h => by
    rw [List.pairwise_cons] at h
    by_cases ha : a ≤ u
    · rw [List.takeWhile_cons_of_pos (by simpa using ha), List.filter_cons_of_pos (by simpa using ha), take_rise h.2]
    · rw [List.takeWhile_cons_of_neg (by simpa using ha), List.filter_cons_of_neg (by simpa using ha)]
      symm
      rw [List.filter_eq_nil_iff]
      intro x hx
      have := h.1 x hx
      simp; omega
theorem takeWhile_at {u : Int} {l : List Int} (h : l.Pairwise (· < ·)) (i : Nat) : (l.takeWhile (fun d => decide (d ≤ u)))[i]? = if (∃ x, l[i]? = some x ∧ x ≤ u) then l[i]? else none := by
  induction l generalizing i with
  | nil => simp
  | cons a l ih =>
    rw [List.pairwise_cons] at h
    by_cases ha : a ≤ u
    · rw [List.takeWhile_cons_of_pos (by simpa using ha)]
      cases i with
      | zero => simp [ha]
      | succ i => simp only [List.getElem?_cons_succ]; exact ih h.2 i
    · rw [List.takeWhile_cons_of_neg (by simpa using ha)]
      rw [if_neg]
      · simp
      · rintro ⟨x, hx, hu⟩
        cases i with
        | zero => simp at hx; omega
        | succ i =>
          simp only [List.getElem?_cons_succ] at hx
          have := h.1 x (List.mem_of_getElem? hx)
          omega
end Go.Proofs.YtnpecjccajebiaaGreatDoor.Cal

/- A rule as a value, its days in memory, the errors and names that package rule reads; contracts of isFreq, inBounds, isShaped, rises and Check. -/
namespace Go.Proofs.YtnpecjccajebiaaGreatDoor
open Go.RowKit Cal

/-- a rule as a value -/
def rv (f : ByteArray) (e : Int) (sl : Value) (c u : Int) : Value := .agg #[.string f, .int .i64 e, sl, .int .i64 c, .int .i64 u]
/-- a list of days in memory -/
def Days (w : World) (sl : Value) (ds : List Int) : Prop :=
  ∃ (a : Option Addr) (c : Nat), sl = .slice a ds.length c ∧ ds.length ≤ 20 ∧ ds.length ≤ c ∧
    ∀ (j : Nat) (h : j < ds.length), ∃ b : Nat, a = some ⟨b, 0, none⟩ ∧ b < w.heap.size ∧ w.cell? ⟨b, j, none⟩ = some (.int .i64 ds[j])
theorem Days.step {w w' : World} {sl : Value} {ds : List Int} (h : Days w sl ds) (hb : Below w.heap.size w w') : Days w' sl ds := by
  obtain ⟨a, c, h1, h2, h3, h4⟩ := h
  refine ⟨a, c, h1, h2, h3, fun j hj => ?_⟩
  obtain ⟨b, e, hl, hc⟩ := h4 j hj
  exact ⟨b, e, Nat.lt_of_lt_of_le hl hb.size, (hb.cell (p := ⟨b, j, none⟩) hl).trans hc⟩
theorem Days.nil (w : World) (c : Nat) : Days w (.slice none 0 c) [] := ⟨none, c, rfl, by simp, by simp, fun j h => absurd h (by simp)⟩

/-- what package rule reads -/
structure Glob (w : World) : Prop where
  name : ∃ p, w.cell? ⟨6, 0, none⟩ = some (.iface 288 (.pointer (some p)))
  bound : ∃ p, w.cell? ⟨0, 0, none⟩ = some (.iface 288 (.pointer (some p)))
  shape : ∃ p, w.cell? ⟨1, 0, none⟩ = some (.iface 288 (.pointer (some p)))
  order : ∃ p, w.cell? ⟨5, 0, none⟩ = some (.iface 288 (.pointer (some p)))
theorem Glob.step {w w' : World} (g : Glob w) (hb : Below w.heap.size w w') : Glob w' := by
  obtain ⟨⟨p1, h1⟩, ⟨p2, h2⟩, ⟨p3, h3⟩, ⟨p4, h4⟩⟩ := g
  exact ⟨⟨p1, cell_step h1 hb⟩, ⟨p2, cell_step h2 hb⟩, ⟨p3, cell_step h3 hb⟩, ⟨p4, cell_step h4 hb⟩⟩

/-- is it one of the five? -/
def isF (s : ByteArray) : Bool := s.toList == [111, 110, 99, 101] || s.toList == [100, 97, 105, 108, 121] || s.toList == [119, 101, 101, 107, 108, 121] || s.toList == [109, 111, 110, 116, 104, 108, 121] || s.toList == [121, 101, 97, 114, 108, 121]

theorem isFreq_any (s : ByteArray) (w : World) :
    Calls Tryz.prog 105 #[.string s] w fun e w' => e = .returned (.bool (isF s)) ∧ w' = w := by
  cases h1 : (s.toList == [111, 110, 99, 101]) with
  | true =>
    have e : isF s = true := by unfold isF; rw [h1]; rfl
    rw [e]
    go_enter Tryz.func105, Tryz.ntmps105
    go_wp2
    go_ret
    exact ⟨rfl, rfl⟩
  | false =>
  cases h2 : (s.toList == [100, 97, 105, 108, 121]) with
  | true =>
    have e : isF s = true := by unfold isF; rw [h1, h2]; rfl
    rw [e]
    go_enter Tryz.func105, Tryz.ntmps105
    go_wp2
    go_ret
    exact ⟨rfl, rfl⟩
  | false =>
  cases h3 : (s.toList == [119, 101, 101, 107, 108, 121]) with
  | true =>
    have e : isF s = true := by unfold isF; rw [h1, h2, h3]; rfl
    rw [e]
    go_enter Tryz.func105, Tryz.ntmps105
    go_wp2
    go_ret
    exact ⟨rfl, rfl⟩
  | false =>
  cases h4 : (s.toList == [109, 111, 110, 116, 104, 108, 121]) with
  | true =>
    have e : isF s = true := by unfold isF; rw [h1, h2, h3, h4]; rfl
    rw [e]
    go_enter Tryz.func105, Tryz.ntmps105
    go_wp2
    go_ret
    exact ⟨rfl, rfl⟩
  | false =>
  cases h5 : (s.toList == [121, 101, 97, 114, 108, 121]) with
  | true =>
    have e : isF s = true := by unfold isF; rw [h1, h2, h3, h4, h5]; rfl
    rw [e]
    go_enter Tryz.func105, Tryz.ntmps105
    go_wp2
    go_ret
    exact ⟨rfl, rfl⟩
  | false =>
    have e : isF s = false := by unfold isF; rw [h1, h2, h3, h4, h5]; rfl
    rw [e]
    go_enter Tryz.func105, Tryz.ntmps105
    go_wp2
    go_ret
    exact ⟨rfl, rfl⟩

/-- the bounds of a rule's numbers, and of its days -/
def bN (e c u : Int) : Bool := decide (1 ≤ e ∧ e ≤ 100 ∧ 0 ≤ c ∧ c ≤ 1000 ∧ -1 ≤ u ∧ u ≤ 73048)
def bD (ds : List Int) : Prop := ∀ d ∈ ds, 0 ≤ d ∧ d ≤ 6


set_option maxHeartbeats 1000000 in
theorem inBounds_any (f : ByteArray) (e : Int) (sl : Value) (c u : Int) (ds : List Int) (w : World) (hd : Days w sl ds) (b : Bool) (hb : b = true ↔ (bN e c u = true ∧ bD ds)) :
    Calls Tryz.prog 106 #[rv f e sl c u] w fun r w' => r = .returned (.bool b) ∧ Below w.heap.size w w' := by
  obtain ⟨a, cap, rfl, h20, hcap, hc⟩ := hd
  unfold rv
  have HC : Hid (_) := hc
  have HB : Hid (_) := hb
  clear hc hb
  go_enter Tryz.func106, Tryz.ntmps106
  go_wp2
  go_loop [4, 8] (fun d i => ∃ k : Nat, k ≤ ds.length ∧ i = .int .i64 k ∧ Hid (∀ (j : Nat) (h : j < ds.length), j < k → 0 ≤ ds[j] ∧ ds[j] ≤ 6)) (fun _ i => ds.length - (intOf i).toNat)
  case atStart => exact ⟨0, Nat.zero_le _, rfl, fun j _ h => absurd h (Nat.not_lt_zero _)⟩
  case round =>
    obtain ⟨k, hk, rfl, HA⟩ := hrel
    by_cases hlt : k < ds.length
    · obtain ⟨blk, rfl, hblk, hcell⟩ := HC.out k hlt
      have hcell2 := cell_alloc (.cells #[.string f, .int .i64 e, .slice (some ⟨blk, 0, none⟩) ds.length cap, .int .i64 c, .int .i64 u] 41) hcell
      have HN : Hid (0 ≤ ds[k] → ds[k] ≤ 6 → ∀ (j : Nat) (h : j < ds.length), j < k + 1 → 0 ≤ ds[j] ∧ ds[j] ≤ 6) := fun h0 h6 j hj hjk => by
        by_cases ej : j = k
        · subst ej; exact ⟨h0, h6⟩
        · exact HA.out j hj (by omega)
      have HF : Hid (¬ (0 ≤ ds[k] ∧ ds[k] ≤ 6) → b = false) := fun hx => by
        cases b with
        | false => rfl
        | true => exact absurd ((HB.out.1 rfl).2 ds[k] (List.getElem_mem hlt)) hx
      clear HA HB HC
      generalize ds[k] = d at hcell hcell2 HN HF
      by_cases h0 : d < 0
      · have HF' : Hid (b = false) := HF.out (by omega)
        clear HF HN
        go_wp2
        go_ret
        exact ⟨ret_bool HF'.out.symm, below_alloc _ _⟩
      · by_cases h6 : 7 ≤ d
        · have HF' : Hid (b = false) := HF.out (by omega)
          clear HF HN
          go_wp2
          go_ret
          exact ⟨ret_bool HF'.out.symm, below_alloc _ _⟩
        · have HN' : Hid (_) := HN.out (by omega) (by omega)
          clear HF HN
          go_wp2
          go_round
          case rel => exact ⟨k + 1, by omega, by go_num, HN'.out⟩
          case measure => simp [intOf]; omega
    · have HR : Hid (b = bN e c u) := by
        have hD : bD ds := fun d hd => by
          obtain ⟨j, hj, rfl⟩ := List.mem_iff_getElem.1 hd
          exact HA.out j hj (by omega)
        have := HB.out
        cases h1 : bN e c u with
        | true => exact this.2 ⟨h1, hD⟩
        | false =>
          cases b with
          | false => rfl
          | true => rw [h1] at this; exact absurd (this.1 rfl).1 (by decide)
      clear HA HB HC
      go_wp2
      all_goals
        go_ret
        refine ⟨ret_bool ?_, below_alloc _ _⟩
        rw [HR.out]
        unfold bN
        first
        | exact (decide_eq_true (by omega)).symm
        | exact (decide_eq_false (by omega)).symm
        | exact decide_eq_decide.2 (by omega)

theorem rises_any (ds : List Int) (sl : Value) (w : World) (hd : Days w sl ds) (b : Bool) (hb : b = true ↔ ∀ (i : Nat) (h : i + 1 < ds.length), ds[i] < ds[i + 1]) :
    Calls Tryz.prog 108 #[sl] w fun r w' => r = .returned (.bool b) ∧ Below w.heap.size w w' := by
  obtain ⟨a, cap, rfl, h20, hcap, hc⟩ := hd
  have HC : Hid (_) := hc
  have HB : Hid (_) := hb
  clear hc hb
  go_enter Tryz.func108, Tryz.ntmps108
  go_wp2
  go_loopw [3] (fun i wr => ∃ m q : Nat, (m + 1 ≤ ds.length ∨ m = 0) ∧ i = .int .i64 ((m : Int) + 1) ∧ wr = w.drewN q ∧ Hid (∀ (j : Nat) (h : j + 1 < ds.length), j < m → ds[j] < ds[j + 1])) (fun i _ => ds.length - (intOf i).toNat)
  case atStart => exact ⟨0, 0, Or.inr rfl, rfl, rfl, fun j _ h => absurd h (by omega)⟩
  case round =>
    obtain ⟨m, q, hk, rfl, rfl, HA⟩ := hrel
    by_cases hlt : m + 1 < ds.length
    · obtain ⟨blk, rfl, hblk, hcell⟩ := HC.out (m + 1) hlt
      obtain ⟨blk', eb, _, hcell'⟩ := HC.out m (by omega)
      have eb' : blk' = blk := by simpa using eb.symm
      subst eb'
      have HN : Hid (ds[m] < ds[m + 1] → ∀ (j : Nat) (h : j + 1 < ds.length), j < m + 1 → ds[j] < ds[j + 1]) := fun hx j hj hjk => by
        by_cases ej : j = m
        · subst ej; exact hx
        · exact HA.out j hj (by omega)
      have HF : Hid (¬ ds[m] < ds[m + 1] → b = false) := fun hx => by
        cases b with
        | false => rfl
        | true => exact absurd ((HB.out.1 rfl) m hlt) hx
      clear HA HB HC eb
      generalize ds[m + 1] = d at hcell HN HF
      generalize ds[m] = d' at hcell' HN HF
      have hlt' : (m : Int) + 1 < ds.length := by omega
      by_cases hx : d' < d
      · have HN' : Hid (_) := HN.out hx
        clear HF HN
        go_wp2_with (fail)
        go_quiet (fail)
        go_wp2
        go_roundw
        case rel => exact ⟨m + 1, _, by omega, by go_num, rfl, HN'.out⟩
        case measure => simp [intOf]; omega
      · have HF' : Hid (b = false) := HF.out hx
        clear HF HN
        have hx' : d ≤ d' := by omega
        go_wp2_with (fail)
        go_quiet (fail)
        go_wp2
        go_ret
        exact ⟨ret_bool HF'.out.symm, below_then (drewN_below _ _) (drewN_below _ _)⟩
    · have HR : Hid (b = true) := HB.out.2 (fun j hj => HA.out j hj (by omega))
      clear HA HB HC
      have hlt' : ¬ (m : Int) + 1 < ds.length := by omega
      go_wp2
      go_ret
      exact ⟨ret_bool HR.out.symm, drewN_below _ _⟩

/-- a rule's shape -/
def shp (o k : Bool) (e c u : Int) (n : Nat) : Prop := (o = true → e = 1 ∧ c = 0 ∧ u = -1) ∧ (k = false → n = 0) ∧ (c = 0 ∨ u = -1)

set_option maxHeartbeats 2000000 in
theorem isShaped_any (f : ByteArray) (e : Int) (a : Option Addr) (n cap : Nat) (c u : Int) (w : World) (hn : n ≤ 20) (o k : Bool) (ho : (f.toList == [111, 110, 99, 101]) = o) (hk : (f.toList == [119, 101, 101, 107, 108, 121]) = k) (b : Bool) (hb : b = true ↔ shp o k e c u n) :
    Calls Tryz.prog 107 #[rv f e (.slice a n cap) c u] w fun r w' => r = .returned (.bool b) ∧ Below w.heap.size w w' := by
  have HB : Hid (_) := hb
  clear hb
  have fin : ∀ x : Bool, (x = true ↔ shp o k e c u n) → x = b := fun x hx => by
    have := HB.out
    cases x <;> cases b <;> simp_all
  have FIN : Hid (_) := fin
  clear fin HB
  unfold rv
  by_cases hu : u = -1
  · have hu1 : (u != -1) = false := by simp [hu]
    have hu2 : (u == -1) = true := by simp [hu]
    cases o <;> cases k
    all_goals
      go_enter Tryz.func107, Tryz.ntmps107
      go_wp2
      all_goals
        go_ret
        refine ⟨ret_bool (FIN.out _ ?_), below_alloc _ _⟩
        unfold shp
        simp
        try omega
  · have hu1 : (u != -1) = true := by simp [hu]
    have hu2 : (u == -1) = false := by simp [hu]
    cases o <;> cases k
    all_goals
      go_enter Tryz.func107, Tryz.ntmps107
      go_wp2
      all_goals
        go_ret
        refine ⟨ret_bool (FIN.out _ ?_), below_alloc _ _⟩
        unfold shp
        simp
        try omega
end Go.Proofs.YtnpecjccajebiaaGreatDoor

/- Contract of rule.Check: no error just where the rule is well. -/
namespace Go.Proofs.YtnpecjccajebiaaGreatDoor
open Go.RowKit Cal

/-- a rule's value, read -/
def rd (f : ByteArray) (e : Int) (ds : List Int) (c u : Int) : RV := ⟨f.toList, e, ds, c, u⟩
def Rise (ds : List Int) : Prop := ∀ (i : Nat) (h : i + 1 < ds.length), ds[i] < ds[i + 1]

theorem isF_iff (f : ByteArray) : isF f = true ↔ (f.toList = onceW ∨ f.toList = dailyW ∨ f.toList = weeklyW ∨ f.toList = monthlyW ∨ f.toList = yearlyW) := by
  unfold isF onceW dailyW weeklyW monthlyW yearlyW
  simp only [Bool.or_eq_true, beq_iff_eq, or_assoc]
theorem bN_iff (e c u : Int) : bN e c u = true ↔ (1 ≤ e ∧ e ≤ 100 ∧ 0 ≤ c ∧ c ≤ 1000 ∧ -1 ≤ u ∧ u ≤ 73048) := by unfold bN; simp
theorem well_of {f : ByteArray} {e c u : Int} {ds : List Int} (h1 : isF f = true) (h2 : bN e c u = true) (h3 : bD ds) (h4 : shp (f.toList == [111, 110, 99, 101]) (f.toList == [119, 101, 101, 107, 108, 121]) e c u ds.length) (h5 : Rise ds) : Well (rd f e ds c u) := by
  rw [isF_iff] at h1
  rw [bN_iff] at h2
  obtain ⟨s1, s2, s3⟩ := h4
  refine ⟨h1, h3, ⟨h2.1, h2.2.1⟩, ⟨h2.2.2.1, h2.2.2.2.1⟩, ⟨h2.2.2.2.2.1, h2.2.2.2.2.2⟩, fun h => s1 ?_, fun h => ?_, s3, h5⟩
  · rw [beq_iff_eq]; exact h
  · have := s2 (by rw [beq_eq_false_iff_ne]; exact h)
    exact List.length_eq_zero_iff.1 this
theorem of_well {f : ByteArray} {e c u : Int} {ds : List Int} (h : Well (rd f e ds c u)) : isF f = true ∧ bN e c u = true ∧ bD ds ∧ shp (f.toList == [111, 110, 99, 101]) (f.toList == [119, 101, 101, 107, 108, 121]) e c u ds.length ∧ Rise ds := by
  obtain ⟨w1, w2, w3, w4, w5, w6, w7, w8, w9⟩ := h
  refine ⟨(isF_iff f).2 w1, (bN_iff e c u).2 ⟨w3.1, w3.2, w4.1, w4.2, w5.1, w5.2⟩, w2, ⟨fun h => w6 ?_, fun h => ?_, w8⟩, w9⟩
  · rw [beq_iff_eq] at h; exact h
  · rw [beq_eq_false_iff_ne] at h
    have : ds = [] := w7 h
    rw [this]; rfl


theorem check_ok (f : ByteArray) (e : Int) (sl : Value) (c u : Int) (ds : List Int) (w : World) (hd : Days w sl ds) (hw : Well (rd f e ds c u)) :
    Calls Tryz.prog 74 #[rv f e sl c u] w fun r w' => r = .returned .nilIface ∧ Below w.heap.size w w' := by
  obtain ⟨h1, h2, h3, h4, h5⟩ := of_well hw
  have hd' := hd
  obtain ⟨a, cap, rfl, h20, hcap, hc⟩ := hd'
  have c1 := fun w => isFreq_any f w
  rw [h1] at c1
  have C1 : Hid (_) := c1
  have C2 : Hid (bN e c u = true ∧ bD ds) := ⟨h2, h3⟩
  have C3 : Hid (shp (f.toList == [111, 110, 99, 101]) (f.toList == [119, 101, 101, 107, 108, 121]) e c u ds.length) := h4
  have C4 : Hid (Rise ds) := h5
  have D : Hid (Days w (.slice a ds.length cap) ds) := hd
  clear c1 h1 h2 h3 h4 h5 hw hc hd
  unfold rv
  go_enter Tryz.func74, Tryz.ntmps74
  go_wp2_with (first
    | (go_at_call 105; refine (C1.out _).mono ?_; rintro r w' ⟨rfl, rfl⟩)
    | (go_at_call 106; refine (inBounds_any f e _ c u ds _ (D.out.step (below_alloc _ _)) true ⟨fun _ => C2.out, fun _ => rfl⟩).mono ?_; rintro r w1 ⟨rfl, hb1⟩; obtain ⟨x0, x1, x2, x3, x4⟩ := box5 hb1)
    | (go_at_call 107; refine (isShaped_any f e a ds.length cap c u _ h20 _ _ rfl rfl true ⟨fun _ => C3.out, fun _ => rfl⟩).mono ?_; rintro r w2 ⟨rfl, hb2⟩; have y2 := cell_step x2 hb2)
    | (go_at_call 108; refine (rises_any ds _ _ (D.out.step (below_then (below_alloc _ _) (below_then hb1 hb2))) true ⟨fun _ => C4.out, fun _ => rfl⟩).mono ?_; rintro r w3 ⟨rfl, hb3⟩))
  go_ret
  exact ⟨rfl, below_then (below_alloc _ _) (below_then hb1 (below_then hb2 hb3))⟩

set_option maxHeartbeats 400000 in
theorem check_no (f : ByteArray) (e : Int) (sl : Value) (c u : Int) (ds : List Int) (w : World) (g : Glob w) (hd : Days w sl ds) (hw : ¬ Well (rd f e ds c u)) :
    Calls Tryz.prog 74 #[rv f e sl c u] w fun r w' => (∃ p, r = .returned (.iface 288 (.pointer (some p)))) ∧ Below w.heap.size w w' := by
  have hd' := hd
  obtain ⟨a, cap, rfl, h20, hcap, hc⟩ := hd'
  have D : Hid (Days w (.slice a ds.length cap) ds) := hd
  have c1 := fun w => isFreq_any f w
  have HW : Hid (¬ Well (rd f e ds c u)) := hw
  obtain ⟨⟨p1, q1⟩, ⟨p2, q2⟩, ⟨p3, q3⟩, ⟨p4, q4⟩⟩ := g
  clear hc hd hw
  unfold rv
  cases h1 : isF f with
  | false =>
    rw [h1] at c1
    have C1 : Hid (_) := c1
    have r1 := cell_alloc (.cells #[.string f, .int .i64 e, .slice a ds.length cap, .int .i64 c, .int .i64 u] 41) q1
    clear c1 q2 q3 q4
    go_enter Tryz.func74, Tryz.ntmps74
    go_wp2_with (go_at_call 105; refine (C1.out _).mono ?_; rintro r w' ⟨rfl, rfl⟩)
    go_ret
    exact ⟨⟨_, rfl⟩, below_alloc _ _⟩
  | true =>
  rw [h1] at c1
  have C1 : Hid (_) := c1
  clear c1
  by_cases h2 : bN e c u = true ∧ bD ds
  · by_cases h4 : shp (f.toList == [111, 110, 99, 101]) (f.toList == [119, 101, 101, 107, 108, 121]) e c u ds.length
    · have h5 : ¬ Rise ds := fun h5 => HW.out (well_of h1 h2.1 h2.2 h4 h5)
      have C2 : Hid (bN e c u = true ∧ bD ds) := h2
      have C3 : Hid (shp (f.toList == [111, 110, 99, 101]) (f.toList == [119, 101, 101, 107, 108, 121]) e c u ds.length) := h4
      have C4 : Hid (¬ Rise ds) := h5
      have r4 := cell_alloc (.cells #[.string f, .int .i64 e, .slice a ds.length cap, .int .i64 c, .int .i64 u] 41) q4
      clear h1 h2 h4 h5 HW q1 q2 q3
      go_enter Tryz.func74, Tryz.ntmps74
      go_wp2_with (first
        | (go_at_call 105; refine (C1.out _).mono ?_; rintro r w' ⟨rfl, rfl⟩)
        | (go_at_call 106; refine (inBounds_any f e _ c u ds _ (D.out.step (below_alloc _ _)) true ⟨fun _ => C2.out, fun _ => rfl⟩).mono ?_; rintro r w1 ⟨rfl, hb1⟩; obtain ⟨x0, x1, x2, x3, x4⟩ := box5 hb1)
        | (go_at_call 107; refine (isShaped_any f e a ds.length cap c u _ h20 _ _ rfl rfl true ⟨fun _ => C3.out, fun _ => rfl⟩).mono ?_; rintro r w2 ⟨rfl, hb2⟩; have y2 := cell_step x2 hb2)
        | (go_at_call 108; refine (rises_any ds _ _ (D.out.step (below_then (below_alloc _ _) (below_then hb1 hb2))) false ⟨fun h => absurd h (by decide), fun h => absurd h C4.out⟩).mono ?_; rintro r w3 ⟨rfl, hb3⟩; have z4 := cell_step (cell_step (cell_step r4 hb1) hb2) hb3))
      go_ret
      exact ⟨⟨_, rfl⟩, below_then (below_alloc _ _) (below_then hb1 (below_then hb2 hb3))⟩
    · have C2 : Hid (bN e c u = true ∧ bD ds) := h2
      have C3 : Hid (¬ shp (f.toList == [111, 110, 99, 101]) (f.toList == [119, 101, 101, 107, 108, 121]) e c u ds.length) := h4
      have r3 := cell_alloc (.cells #[.string f, .int .i64 e, .slice a ds.length cap, .int .i64 c, .int .i64 u] 41) q3
      clear h1 h2 h4 HW q1 q2 q4
      go_enter Tryz.func74, Tryz.ntmps74
      go_wp2_with (first
        | (go_at_call 105; refine (C1.out _).mono ?_; rintro r w' ⟨rfl, rfl⟩)
        | (go_at_call 106; refine (inBounds_any f e _ c u ds _ (D.out.step (below_alloc _ _)) true ⟨fun _ => C2.out, fun _ => rfl⟩).mono ?_; rintro r w1 ⟨rfl, hb1⟩; obtain ⟨x0, x1, x2, x3, x4⟩ := box5 hb1)
        | (go_at_call 107; refine (isShaped_any f e a ds.length cap c u _ h20 _ _ rfl rfl false ⟨fun h => absurd h (by decide), fun h => absurd h C3.out⟩).mono ?_; rintro r w2 ⟨rfl, hb2⟩; have z3 := cell_step (cell_step r3 hb1) hb2))
      go_ret
      exact ⟨⟨_, rfl⟩, below_then (below_alloc _ _) (below_then hb1 hb2)⟩
  · have C2 : Hid (¬ (bN e c u = true ∧ bD ds)) := h2
    have r2 := cell_alloc (.cells #[.string f, .int .i64 e, .slice a ds.length cap, .int .i64 c, .int .i64 u] 41) q2
    clear h1 h2 HW q1 q3 q4
    go_enter Tryz.func74, Tryz.ntmps74
    go_wp2_with (first
      | (go_at_call 105; refine (C1.out _).mono ?_; rintro r w' ⟨rfl, rfl⟩)
      | (go_at_call 106; refine (inBounds_any f e _ c u ds _ (D.out.step (below_alloc _ _)) false ⟨fun h => absurd h (by decide), fun h => absurd h C2.out⟩).mono ?_; rintro r w1 ⟨rfl, hb1⟩; have z2 := cell_step r2 hb1))
    go_ret
    exact ⟨⟨_, rfl⟩, below_then (below_alloc _ _) hb1⟩
end Go.Proofs.YtnpecjccajebiaaGreatDoor
