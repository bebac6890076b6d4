/- Contracts: the closed fact that every law of chapter 1 asks first (a leap day's number and text), and Add in one form for every count of months. -/
import Derived.Test.YtanjgollffkafaaGreatDoorJrAA
import Derived.Test.YtanjgollffkafaaGreatDoorRows
import Derived.WalkKit
import Derived.ProofKit
import Derived.LaidMore
import Derived.Lib.LaidTab
import Derived.Stop.LaidErr
import Derived.Stop.Joined
import Derived.Test.YtanjgollffkafaaGreatDoorMathJrs
import Derived.Lib.Strings
import Derived.Lib.IndexBytes
import Derived.Lib.Join
import Derived.Lib.IndexLaws
import Derived.Lib.Atoi
import Derived.Lib.SplitLaws
import Derived.Maps.OwnSet
import Derived.Maps.OwnOps
import Derived.Maps.AppendAt
import Derived.Maps.Views
import Derived.Carry
import Derived.Lib.SmallJoins
import Derived.Deep.DeepCutAuto
import Derived.WalkArith
namespace Go.Proofs.YtanjgollffkafaaGreatDoor
open Go.RowKit Cal

end Go.Proofs.YtanjgollffkafaaGreatDoor

/- What the rows' lists of package-level variables give a walk: the library's table of powers of ten, and the cells of the errors. -/
namespace Go.Proofs.YtanjgollffkafaaGreatDoor
open Go.ChangeShapes Go.WideShapes Go.ChangeAt Go.RowKit Cal

theorem own : ownKnob Tryz.prog.godebug = none := by kernel_rfl
theorem tPow : (Tryz.prog.globals[9]?).map (·.type) = some 125 := by kernel_rfl
theorem cPow : Tryz.prog.cellsOf 125 = 20 := by kernel_rfl
theorem cU64 : Tryz.prog.cellsOf 107 = 1 := by kernel_rfl
theorem gBound : Tryz.prog.globalNamed "lammastide/api.ErrBound" = some 1 := by kernel_rfl
theorem tBound : (Tryz.prog.globals[1]?).map (·.type) = some 34 := by kernel_rfl
theorem cErrStr : Tryz.prog.cellsOf 154 = 1 := by kernel_rfl
theorem cStr : Tryz.prog.cellsOf 9 = 1 := by kernel_rfl
theorem star : "*" ++ "errors.errorString" = "*errors.errorString" := by decide
theorem rowErrStr (u : TypeId) (h : Tryz.prog.typeName? 3 u = some "*errors.errorString") : u = 152 :=
  typeName_ptr_named (nm := "errors.errorString") (by rw [star]; kernel_rfl) (by kernel_rfl) (by decide) u (by rw [star]; exact h)

/-- an error of errors.New's make at the head of the list: its cell -/
theorem sentinel {n : String} {g : Nat} {text : List UInt8} {r : List (String × DataW Unit)} {W : World}
    (h : laidMet Tryz.prog ((n, .iface "*errors.errorString" (.ptr (.agg [.lit (.string text)]))) :: r) W) (hg : Tryz.prog.globalNamed n = some g) (ht : (Tryz.prog.globals[g]?).map (·.type) = some 34) :
    ∃ a : Addr, W.cell? ⟨g, 0, none⟩ = some (.iface 152 (.pointer (some a))) := by
  obtain ⟨a, s, hv, _, _, _⟩ := laid_sentinel h hg ht Tryz.underlying34 rowErrStr Tryz.underlying152 Tryz.underlying154 rfl rfl Tryz.underlying9 cErrStr cStr
  exact ⟨a, by simpa using World.var?_cell hg hv 0⟩
/-- the table at the head of the list -/
theorem table {r : List (String × DataW Unit)} {W : World} (h : laidMet Tryz.prog (("internal/strconv.uint64pow10", Rows.laid_internal_strconv_uint64pow10) :: r) W) : Tab W :=
  Lib.tabIs_of_head gPow tPow Tryz.underlying125 Tryz.underlying107 cU64 cPow h
end Go.Proofs.YtanjgollffkafaaGreatDoor

/- Plain mathematics of what comes again (no program text in it): the days from one on that a test lets through, the tests of the five kinds of rules, what a count and an end leave. -/
namespace Go.Proofs.YtanjgollffkafaaGreatDoor.Cal

/-- n days from a on: those that p lets through -/
def fr (p : Int → Bool) : Int → Nat → List Int
  | _, 0 => []
  | a, n + 1 => if p a = true then a :: fr p (a + 1) n else fr p (a + 1) n
/-- the days from a on to the last one: those that p lets through -/
def From (p : Int → Bool) (a : Int) : List Int := fr p a (73049 - a).toNat

theorem mem_fr {p : Int → Bool} {x : Int} : ∀ (n : Nat) (a : Int), x ∈ fr p a n ↔ a ≤ x ∧ x < a + n ∧ p x = true
  | 0, a => by simp [fr]; omega
  | n + 1, a => by
    unfold fr
    by_cases h : p a = true
    · rw [if_pos h, List.mem_cons, mem_fr n (a + 1)]
      constructor
      · rintro (rfl | h2)
        · exact ⟨by omega, by omega, h⟩
        · exact ⟨by omega, by omega, h2.2.2⟩
      · rintro ⟨h1, h2, h3⟩
        rcases Int.lt_or_le a x with h4 | h4
        · exact .inr ⟨by omega, by omega, h3⟩
        · exact .inl (by omega)
    · rw [if_neg h, mem_fr n (a + 1)]
      constructor
      · rintro ⟨h1, h2, h3⟩
        exact ⟨by omega, by omega, h3⟩
      · rintro ⟨h1, h2, h3⟩
        rcases Int.lt_or_le a x with h4 | h4
        · exact ⟨by omega, by omega, h3⟩
        · have : x = a := by omega
          subst this; exact absurd h3 h
theorem fr_rise {p : Int → Bool} : ∀ (n : Nat) (a : Int), (fr p a n).Pairwise (· < ·)
  | 0, a => List.Pairwise.nil
  | n + 1, a => by
    unfold fr
    by_cases h : p a = true
    · rw [if_pos h, List.pairwise_cons]
      exact ⟨fun x hx => by have := (mem_fr n (a + 1)).1 hx; omega, fr_rise n (a + 1)⟩
    · rw [if_neg h]; exact fr_rise n (a + 1)
theorem From_rise (p : Int → Bool) (a : Int) : (From p a).Pairwise (· < ·) := fr_rise _ _

/-- each Every-th day -/
def pD (s e d : Int) : Bool := decide (s ≤ d ∧ (d - s) % e = 0)
/-- each Every-th week, these weekdays -/
def pW (s e : Int) (ds : List Int) (d : Int) : Bool := decide (s ≤ d ∧ ((d - (d + 5) % 7 - (s - (s + 5) % 7)) / 7) % e = 0 ∧ (d + 5) % 7 ∈ ds)
/-- the year and the month of a count of months -/
def yA (s : Int) : Int := 2000 + s / 12
def mA (s : Int) : Int := s % 12 + 1
/-- one day of a month, and the same one so many months later -/
def isM (s e d : Int) (j i dd : Nat) : Bool := decide (s = num (yA j) (mA j) dd ∧ 1 ≤ dd ∧ (dd : Int) ≤ dim (yA j) (mA j) ∧ j ≤ i ∧ ((i : Int) - j) % e = 0 ∧ (dd : Int) ≤ dim (yA i) (mA i) ∧ d = num (yA i) (mA i) dd)
/-- the same day of each Every-th month -/
def pM (s e d : Int) : Bool := (List.range 2400).any fun j => (List.range 2400).any fun i => (List.range 32).any fun dd => isM s e d j i dd
/-- the first day of a month -/
def F (s : Int) : Int := dby (yA s) + cum (yA s) (mA s)
/-- the weekdays that a rule's weeks go by -/
def wds (s : Int) (ds : List Int) : List Int := if ds.length = 0 then [(s + 5) % 7] else ds
/-- the words of kinds -/
def onceW : List UInt8 := [111, 110, 99, 101]
def dailyW : List UInt8 := [100, 97, 105, 108, 121]
def weeklyW : List UInt8 := [119, 101, 101, 107, 108, 121]
def monthlyW : List UInt8 := [109, 111, 110, 116, 104, 108, 121]
def yearlyW : List UInt8 := [121, 101, 97, 114, 108, 121]
/-- a rule -/
structure RV where
  freq : List UInt8
  every : Int
  days : List Int
  count : Int
  til : Int

/-- a rule that is well -/
structure Well (r : RV) : Prop where
  fr : r.freq = onceW ∨ r.freq = dailyW ∨ r.freq = weeklyW ∨ r.freq = monthlyW ∨ r.freq = yearlyW
  ds : ∀ d ∈ r.days, 0 ≤ d ∧ d ≤ 6
  ev : 1 ≤ r.every ∧ r.every ≤ 100
  co : 0 ≤ r.count ∧ r.count ≤ 1000
  un : -1 ≤ r.til ∧ r.til ≤ 73048
  on : r.freq = onceW → r.every = 1 ∧ r.count = 0 ∧ r.til = -1
  wk : r.freq ≠ weeklyW → r.days = []
  cu : r.count = 0 ∨ r.til = -1
  ri : ∀ (i : Nat) (h : i + 1 < r.days.length), r.days[i] < r.days[i + 1]
/-- the test of a start and a rule -/
def cnd (f : List UInt8) (s e : Int) (ds : List Int) : Int → Bool :=
  if f = dailyW then pD s e else if f = weeklyW then pW s e (wds s ds) else if f = monthlyW then pM s e else if f = yearlyW then pM s (e * 12) else fun d => decide (d = s)
/-- all candidates -/
def cds (f : List UInt8) (s e : Int) (ds : List Int) : List Int := From (cnd f s e ds) s
/-- what an end leaves, and a count -/
def cutU (u : Int) (l : List Int) : List Int := if 0 ≤ u then l.takeWhile (fun d => decide (d ≤ u)) else l
def cut (c u : Int) (l : List Int) : List Int := if 0 < c then (cutU u l).take c.toNat else cutU u l

theorem cutU_rise {u : Int} {l : List Int} (h : l.Pairwise (· < ·)) : (cutU u l).Pairwise (· < ·) := by
  unfold cutU; split
  · exact h.sublist (List.takeWhile_sublist _)
  · exact h
theorem cut_rise {c u : Int} {l : List Int} (h : l.Pairwise (· < ·)) : (cut c u l).Pairwise (· < ·) := by
  unfold cut; split
  · exact (cutU_rise h).sublist (List.take_sublist _ _)
  · exact cutU_rise h
end Go.Proofs.YtanjgollffkafaaGreatDoor.Cal

/- Plain mathematics of reading a day's text: which signs stand where, and the number that digits are. -/
namespace Go.Proofs.YtanjgollffkafaaGreatDoor.Cal
open Go

/-- digits -/
def digs (l : List UInt8) : Prop := ∀ c ∈ l, 48 ≤ (c.toNat : Int) ∧ (c.toNat : Int) ≤ 57
/-- the number that digits are -/
def val (l : List UInt8) : Int := l.foldl (fun a c => a * 10 + ((c.toNat : Int) - 48)) 0
/-- a text of ten signs, sign by sign -/
theorem ten {s : ByteArray} (h : s.size = 10) : ∃ c0 c1 c2 c3 c4 c5 c6 c7 c8 c9 : UInt8, s = ⟨#[c0, c1, c2, c3, c4, c5, c6, c7, c8, c9]⟩ := by
  obtain ⟨⟨l⟩⟩ := s
  have hl : l.length = 10 := h
  match l, hl with
  | [c0, c1, c2, c3, c4, c5, c6, c7, c8, c9], _ => exact ⟨c0, c1, c2, c3, c4, c5, c6, c7, c8, c9, rfl⟩
end Go.Proofs.YtanjgollffkafaaGreatDoor.Cal

/- Plain mathematics of a rule's text: its words, joined by blanks and cut again; two rules that are well have one text only if they are one. -/
namespace Go.Proofs.YtanjgollffkafaaGreatDoor.Cal
open Go

/-- the pieces of a text between the signs c -/
def pieces (c : UInt8) : List UInt8 → List (List UInt8)
  | [] => [[]]
  | b :: t => if b = c then [] :: pieces c t else (match pieces c t with
    | [] => [[b]]
    | h :: r => (b :: h) :: r)

theorem pieces_no (c : UInt8) : ∀ (s : List UInt8), c ∉ s → pieces c s = [s]
  | [], _ => rfl
  | b :: t, h => by
    have hb : b ≠ c := fun e => h (by rw [e]; exact List.mem_cons_self)
    have ht : c ∉ t := fun e => h (List.mem_cons_of_mem _ e)
    rw [pieces, if_neg hb, pieces_no c t ht]
theorem pieces_at (c : UInt8) (t : List UInt8) : ∀ (a : List UInt8), c ∉ a → pieces c (a ++ c :: t) = a :: pieces c t
  | [], _ => by rw [List.nil_append, pieces, if_pos rfl]
  | b :: a, h => by
    have hb : b ≠ c := fun e => h (by rw [e]; exact List.mem_cons_self)
    have ha : c ∉ a := fun e => h (List.mem_cons_of_mem _ e)
    rw [List.cons_append, pieces, if_neg hb, pieces_at c t a ha]
theorem join_cons2 (x y : List UInt8) (r : List (List UInt8)) (sep : List UInt8) : Lib.join (x :: y :: r) sep = x ++ (sep ++ Lib.join (y :: r) sep) := by
  rw [Lib.join_cons, Lib.join_cons]; simp [Lib.joinTail]
theorem pieces_join (c : UInt8) : ∀ (ws : List (List UInt8)), ws ≠ [] → (∀ x ∈ ws, c ∉ x) → pieces c (Lib.join ws [c]) = ws
  | [], h, _ => absurd rfl h
  | [x], _, h => by rw [Lib.join_one]; exact pieces_no c x (h x (by simp))
  | x :: y :: r, _, h => by
    rw [join_cons2, List.singleton_append, pieces_at c _ x (h x (by simp)), pieces_join c (y :: r) (by simp) (fun z hz => h z (List.mem_cons_of_mem _ hz))]

/-- how a text is cut: where the sign is found -/
theorem pieces_found {c : UInt8} {s : List UInt8} {i : Nat} (h : Lib.indexByte s c = i) : pieces c s = s.take i :: pieces c (s.drop (i + 1)) := by
  obtain ⟨h1, h2⟩ := Lib.indexByte_some h
  obtain ⟨hi, h1'⟩ := List.getElem?_eq_some_iff.1 h1
  have e : s = s.take i ++ c :: s.drop (i + 1) := by
    have := (List.take_append_drop i s).symm
    rw [List.drop_eq_getElem_cons hi, h1'] at this
    exact this
  have hn : c ∉ s.take i := fun hm => by
    obtain ⟨k, hk, he⟩ := List.mem_iff_getElem.1 hm
    have hk' : k < i := by rw [List.length_take] at hk; omega
    refine h2 k hk' ?_
    rw [List.getElem?_eq_some_iff]
    refine ⟨by omega, ?_⟩
    rw [← he, List.getElem_take]
  conv => lhs; rw [e]
  exact pieces_at c _ _ hn
/-! ### numbers -/
theorem decFrom_snoc (b : UInt8) (d : Nat) (hd : Lib.digitVal b = some d) (l : List UInt8) (acc n : Nat) (h : Lib.decFrom acc l = some n) : Lib.decFrom acc (l ++ [b]) = some (n * 10 + d) := by
  have h1 : Lib.decFrom acc ((l ++ [b]).take l.length) = some n := by rw [List.take_left']; exact h; rfl
  have h2 := Lib.decFrom_take (l ++ [b]) l.length acc n b d h1 (by simp) hd
  rwa [List.take_of_length_le (by simp)] at h2
theorem digitVal_of (k : Nat) (h : k < 10) : Lib.digitVal (UInt8.ofNat (48 + k)) = some k := by
  have : ∀ j : Fin 10, Lib.digitVal (UInt8.ofNat (48 + j.val)) = some j.val := by decide
  exact this ⟨k, h⟩
theorem dec_back : ∀ (u : Nat), Lib.decFrom 0 (Lib.decDigits u) = some u := by
  intro u
  induction u using Nat.strongRecOn with
  | _ u ih =>
    by_cases h : u < 10
    · rw [Lib.decDigits_one h]
      have := decFrom_snoc _ u (digitVal_of u h) [] 0 0 rfl
      simpa using this
    · rw [Lib.decDigits, dif_neg h]
      have := decFrom_snoc _ (u % 10) (digitVal_of (u % 10) (by omega)) _ 0 _ (ih (u / 10) (by omega))
      rw [this]; congr 1; omega
theorem dec_ne (u : Nat) : Lib.decDigits u ≠ [] := by
  intro h
  have := Lib.decDigits_length u
  rw [h] at this
  have := Lib.nDigits_pos u
  simp at *; omega
theorem dec_digs (u : Nat) : digs (Lib.decDigits u) := by
  intro c hc
  obtain ⟨k, hk, he⟩ := List.mem_iff_getElem.1 hc
  obtain ⟨d, hd⟩ := Lib.digit_of_decFrom _ _ _ (dec_back u) k c (by rw [List.getElem?_eq_some_iff]; exact ⟨hk, he⟩)
  have := Lib.digitVal_eq hd
  omega
theorem itoa_digs (n : Int) (h : 0 ≤ n) : digs (Lib.itoa n) := by
  obtain ⟨u, rfl⟩ : ∃ u : Nat, n = u := ⟨n.toNat, by omega⟩
  rw [Lib.itoa_nonneg]; exact dec_digs u
theorem itoa_atoi (n : Int) (h : 0 ≤ n) : Lib.atoi (Lib.itoa n) = some n := by
  obtain ⟨u, rfl⟩ : ∃ u : Nat, n = u := ⟨n.toNat, by omega⟩
  rw [Lib.itoa_nonneg]
  cases hd : Lib.decDigits u with
  | nil => exact absurd hd (dec_ne u)
  | cons b r =>
    have hb := dec_digs u b (by rw [hd]; exact List.mem_cons_self)
    have h45 : (b == 45) = false := by
      rw [beq_eq_false_iff_ne]; rintro rfl; revert hb; decide
    have h43 : (b == 43) = false := by
      rw [beq_eq_false_iff_ne]; rintro rfl; revert hb; decide
    have hdec := dec_back u
    rw [hd] at hdec
    have hn : Lib.decNat (b :: r) = some u := by simpa [Lib.decNat] using hdec
    simp [Lib.atoi, h45, h43, hn]
/-! ### rules -/
def countW : List UInt8 := [99, 111, 117, 110, 116]
def untilW : List UInt8 := [117, 110, 116, 105, 108]
/-- a weekday's name -/
def nm (d : Int) : List UInt8 :=
  if d = 0 then [109, 111] else if d = 1 then [116, 117] else if d = 2 then [119, 101] else if d = 3 then [116, 104] else if d = 4 then [102, 114] else if d = 5 then [115, 97] else [115, 117]

def wDays (r : RV) : List (List UInt8) := if r.days = [] then [] else [Lib.join (r.days.map nm) [44]]
def wCount (r : RV) : List (List UInt8) := if r.count = 0 then [] else [countW, Lib.itoa r.count]
def wUntil (r : RV) (t : List UInt8) : List (List UInt8) := if r.til = -1 then [] else [untilW, t]
/-- the words of a rule -/
def words (r : RV) (t : List UInt8) : List (List UInt8) :=
  if r.freq = onceW then [onceW] else r.freq :: Lib.itoa r.every :: (wDays r ++ (wCount r ++ wUntil r t))
end Go.Proofs.YtanjgollffkafaaGreatDoor.Cal

/- Plain mathematics: two rules that are well have one text only if they are one. -/
namespace Go.Proofs.YtanjgollffkafaaGreatDoor.Cal
open Go

end Go.Proofs.YtanjgollffkafaaGreatDoor.Cal

/- The texts of an event's lists in plain mathematics. -/
namespace Go.Proofs.YtanjgollffkafaaGreatDoor
open Go Cal

theorem index_at (c : UInt8) (t : List UInt8) : ∀ (a : List UInt8), c ∉ a → Lib.indexByte (a ++ c :: t) c = a.length
  | [], _ => by unfold Lib.indexByte; simp
  | x :: a, h => by
    have hx : (x == c) = false := by rw [beq_eq_false_iff_ne]; exact fun q => h (by simp [q])
    have ih := index_at c t a (fun q => h (List.mem_cons_of_mem _ q))
    rw [List.cons_append, Lib.indexByte, hx, ih]
    have : (((a.length : Nat) : Int) == -1) = false := by rw [beq_eq_false_iff_ne]; omega
    rw [this]
    simp
/-- strings.Split's pieces at one sign -/
theorem splitB_one (c : UInt8) : ∀ (k : Nat) (s : ByteArray), Lib.countB s ⟨#[c]⟩ = k → (Lib.splitB ⟨#[c]⟩ 0 k s).map (·.data.toList) = pieces c s.data.toList := by
  intro k
  induction k with
  | zero =>
    intro s h
    have h' : s.data.toList.count c = 0 := by rw [← Lib.count_one]; exact h
    rw [Lib.splitB_zero, pieces_no c _ (List.count_eq_zero.1 h')]; rfl
  | succ k ih =>
    intro s h
    have h' : s.data.toList.count c = k + 1 := by rw [← Lib.count_one]; exact h
    have hm : c ∈ s.data.toList := List.count_pos_iff.1 (by omega)
    have hi : Lib.indexB s ⟨#[c]⟩ = Lib.indexByte s.data.toList c := Lib.index_one _ _
    obtain ⟨i, hi'⟩ : ∃ i : Nat, Lib.indexByte s.data.toList c = i := by
      have := Lib.indexByte_ge s.data.toList c
      by_cases q : Lib.indexByte s.data.toList c = -1
      · obtain ⟨j, hj, he⟩ := List.mem_iff_getElem.1 hm
        exact absurd (by rw [List.getElem?_eq_some_iff]; exact ⟨hj, he⟩) (Lib.indexByte_none q j)
      · exact ⟨(Lib.indexByte s.data.toList c).toNat, by omega⟩
    rw [Lib.splitB_hit _ _ _ _ i (hi.trans hi'), pieces_found hi', List.map_cons, Lib.extract_from_zero]
    have e2 : (s.extract (i + ByteArray.size ⟨#[c]⟩) s.size).data.toList = s.data.toList.drop (i + 1) := Lib.extract_to_end _ _
    refine List.cons_eq_cons.2 ⟨rfl, ?_⟩
    rw [ih _ ?_, e2]
    show Lib.count _ _ = k
    rw [show (ByteArray.data ⟨#[c]⟩).toList = [c] from rfl, Lib.count_one, e2]
    obtain ⟨h1, h2⟩ := Lib.indexByte_some hi'
    obtain ⟨hl, he⟩ := List.getElem?_eq_some_iff.1 h1
    have hz : (s.data.toList.take i).count c = 0 := List.count_eq_zero.2 (fun q => by
      obtain ⟨j, hj, he⟩ := List.mem_iff_getElem.1 q
      rw [List.length_take] at hj
      rw [List.getElem_take] at he
      exact h2 j (by omega) (by rw [List.getElem?_eq_some_iff]; exact ⟨by omega, he⟩))
    have hsum : s.data.toList.count c = (s.data.toList.take i).count c + ((s.data.toList.drop (i + 1)).count c + 1) := by
      conv => lhs; rw [← List.take_append_drop i s.data.toList, List.drop_eq_getElem_cons hl, he]
      rw [List.count_append, List.count_cons_self]
    omega
end Go.Proofs.YtanjgollffkafaaGreatDoor

/- Texts (package pool): a pool in memory; New, Find, Len, Get, Put. -/
namespace Go.Proofs.YtanjgollffkafaaGreatDoor
open Go Go.RowKit Go.Maps Cal
attribute [local go_sem] Oper.semAt_some

/-- the key of a text -/
def plKey (s : ByteArray) : Lit := .string s.data.toList
theorem pl_ext {a b : ByteArray} (h : a.data.toList = b.data.toList) : a = b := by
  cases a; cases b
  congr 1
  exact Array.toList_inj.1 h
theorem plKey_ne {a b : ByteArray} (h : a ≠ b) : plKey a ≠ plKey b := fun q => h (pl_ext (Lit.string.inj q))
theorem plKey_lit (a : ByteArray) : WideAt.IsKeyLit (plKey a) := trivial
/-- the numbers of texts, in a map -/
def PLook (D : DataW Value) (ts : List ByteArray) : Prop :=
  ∀ s : ByteArray, (∀ i : Nat, ts[i]? = some s → Maps.has D (plKey s) = true ∧ D.atKey (plKey s) (.lit (.int .i64 0)) = .lit (.int .i64 i)) ∧ (s ∉ ts → Maps.has D (plKey s) = false)
theorem PLook.nil : PLook (.map []) [] := fun s => ⟨fun i h => by simp at h, fun _ => rfl⟩
theorem PLook.put {D : DataW Value} {ts : List ByteArray} (h : PLook D ts) (hD : IsMap D) {s : ByteArray} (hs : s ∉ ts) : PLook (D.put (plKey s) (.lit (.int .i64 ts.length))) (ts ++ [s]) := by
  intro x
  by_cases hx : x = s
  · subst hx
    refine ⟨fun i hi => ⟨has_put_same hD (plKey_lit _) _, ?_⟩, fun q => absurd (List.mem_append_right _ (List.mem_singleton.2 rfl)) q⟩
    rw [atKey_put_same hD (plKey_lit _)]
    rcases Nat.lt_or_ge i ts.length with hl | hl
    · rw [List.getElem?_append_left hl] at hi
      exact absurd (List.mem_of_getElem? hi) hs
    · rw [List.getElem?_append_right hl] at hi
      have : i - ts.length = 0 := by
        rcases Nat.eq_zero_or_pos (i - ts.length) with q | q
        · exact q
        · rw [List.getElem?_eq_none (by simp; omega)] at hi; cases hi
      have e : i = ts.length := by omega
      rw [e]
  · rw [has_put_other (plKey_ne hx), atKey_put_other (plKey_ne hx)]
    refine ⟨fun i hi => (h x).1 i ?_, fun q => (h x).2 (fun m => q (List.mem_append_left _ m))⟩
    rcases Nat.lt_or_ge i ts.length with hl | hl
    · rwa [List.getElem?_append_left hl] at hi
    · rw [List.getElem?_append_right hl] at hi
      have hm := List.mem_of_getElem? hi
      exact absurd (List.mem_singleton.1 hm) hx

/-- what Put leaves -/
structure PKept (w w' : World) (pb mb : Nat) (tv : Value) : Prop where
  os : w'.os = w.os
  tape : w'.tape = w.tape
  output : w'.output = w.output
  size : w.heap.size ≤ w'.heap.size
  block : ∀ k, k < w.heap.size → k ≠ pb → k ≠ mb → tv.ownBlock ≠ some k → w'.heap[k]? = w.heap[k]?
theorem PKept.same {w w' : World} (hb : Below w.heap.size w w') (pb mb : Nat) (tv : Value) : PKept w w' pb mb tv := ⟨hb.os, hb.tape, hb.output, hb.size, fun k hk _ _ _ => hb.block k hk⟩

end Go.Proofs.YtanjgollffkafaaGreatDoor

/- Texts: Put, putNew. -/
namespace Go.Proofs.YtanjgollffkafaaGreatDoor
open Go Go.RowKit Go.Maps Cal
attribute [local go_sem] Oper.semAt_some

theorem pl_drew (w : World) (n : Nat) : Below w.heap.size w (w.drewN n) := ⟨rfl, rfl, rfl, Nat.le_refl _, fun _ _ => rfl⟩
end Go.Proofs.YtanjgollffkafaaGreatDoor
