/- Plain mathematics of a rule's text: its words, joined by blanks and cut again; two rules that are well have one text only if they are one. -/
import Derived.Test.YtkjfbeempmfipaaGreatDoorJtAG
import Derived.Test.YtkjfbeempmfipaaGreatDoorJtAA
import Derived.Lib.Join
import Derived.Lib.IndexLaws
import Derived.Lib.Atoi
import Derived.Shelf.Strings.Builder1
import Derived.Shelf.Strings.Builder2
import Derived.Shelf.Strings.OnBuilder
import Derived.Shelf.Strings.BuilderF
import Derived.Shelf.Strings.BuilderK
import Derived.Shelf.Strconv.Atoi
import Derived.Shelf.Strconv.Itoa0
import Derived.Shelf.Strconv.Itoa1
import Derived.Shelf.LaysM
import Derived.Shelf.Strconv.Itoa2
import Derived.Shelf.Strconv.Itoa3
import Derived.Shelf.Strconv.AtoiErrFast
import Derived.Shelf.Strconv.ParseIntEmpty
import Derived.Shelf.Strconv.AtoiFail
import Derived.Shelf.Strconv.Clone
import Derived.Shelf.Strconv.SyntaxError
import Derived.Shelf.LaysC
import Derived.Shelf.Strconv.ToError
import Derived.Shelf.Strconv.AtoiErr
import Derived.Shelf.Strings.Search1
import Derived.Shelf.Strings.Search2
import Derived.Shelf.Strings.Search3
import Derived.Shelf.Strings.Cut
import Derived.Shelf.Strings.Count
import Derived.Shelf.Strings.Shaped
import Derived.Shelf.Sort.Plain
import Derived.Shelf.Strings.Split
import Derived.Shelf.Unicode.DecodeSlow
import Derived.Shelf.Slices.Turned
import Derived.Shelf.Slices.In.SortNone
import Derived.Test.YtkjfbeempmfipaaGreatDoorProg
namespace Go.Proofs.YtkjfbeempmfipaaGreatDoor.Cal
open Go

/-- the pieces of a text between the signs c -/
def pieces (c : UInt8) : List UInt8 → List (List UInt8)
  | [] => [[]]
  | b :: t => if b = c then [] :: pieces c t else (match pieces c t with
    | [] => [[b]]
    | h :: r => (b :: h) :: r)

theorem pieces_no (c : UInt8) : ∀ (s : List UInt8), c ∉ s → pieces c s = [s]
  | [], _ => rfl
  | b :: t, h => by
    have hb : b ≠ c := fun e => h (by rw [e]; exact List.mem_cons_self)
    have ht : c ∉ t := fun e => h (List.mem_cons_of_mem _ e)
    rw [pieces, if_neg hb, pieces_no c t ht]
theorem pieces_at (c : UInt8) (t : List UInt8) : ∀ (a : List UInt8), c ∉ a → pieces c (a ++ c :: t) = a :: pieces c t
  | [], _ => by rw [List.nil_append, pieces, if_pos rfl]
  | b :: a, h => by
    have hb : b ≠ c := fun e => h (by rw [e]; exact List.mem_cons_self)
    have ha : c ∉ a := fun e => h (List.mem_cons_of_mem _ e)
    rw [List.cons_append, pieces, if_neg hb, pieces_at c t a ha]
theorem join_cons2 (x y : List UInt8) (r : List (List UInt8)) (sep : List UInt8) : Lib.join (x :: y :: r) sep = x ++ (sep ++ Lib.join (y :: r) sep) := by
  rw [Lib.join_cons, Lib.join_cons]; simp [Lib.joinTail]
theorem pieces_join (c : UInt8) : ∀ (ws : List (List UInt8)), ws ≠ [] → (∀ x ∈ ws, c ∉ x) → pieces c (Lib.join ws [c]) = ws
  | [], h, _ => absurd rfl h
  | [x], _, h => by rw [Lib.join_one]; exact pieces_no c x (h x (by simp))
  | x :: y :: r, _, h => by
    rw [join_cons2, List.singleton_append, pieces_at c _ x (h x (by simp)), pieces_join c (y :: r) (by simp) (fun z hz => h z (List.mem_cons_of_mem _ hz))]

/-- how a text is cut: where the sign is found -/
theorem pieces_found {c : UInt8} {s : List UInt8} {i : Nat} (h : Lib.indexByte s c = i) : pieces c s = s.take i :: pieces c (s.drop (i + 1)) := by
  obtain ⟨h1, h2⟩ := Lib.indexByte_some h
  obtain ⟨hi, h1'⟩ := List.getElem?_eq_some_iff.1 h1
  have e : s = s.take i ++ c :: s.drop (i + 1) := by
    have := (List.take_append_drop i s).symm
    rw [List.drop_eq_getElem_cons hi, h1'] at this
    exact this
  have hn : c ∉ s.take i := fun hm => by
    obtain ⟨k, hk, he⟩ := List.mem_iff_getElem.1 hm
    have hk' : k < i := by rw [List.length_take] at hk; omega
    refine h2 k hk' ?_
    rw [List.getElem?_eq_some_iff]
    refine ⟨by omega, ?_⟩
    rw [← he, List.getElem_take]
  conv => lhs; rw [e]
  exact pieces_at c _ _ hn
theorem pieces_none {c : UInt8} {s : List UInt8} (h : Lib.indexByte s c = -1) : pieces c s = [s] := by
  refine pieces_no c s (fun hm => ?_)
  obtain ⟨k, hk, he⟩ := List.mem_iff_getElem.1 hm
  exact Lib.indexByte_none h k (by rw [List.getElem?_eq_some_iff]; exact ⟨hk, he⟩)

/-! ### numbers -/
theorem decFrom_snoc (b : UInt8) (d : Nat) (hd : Lib.digitVal b = some d) (l : List UInt8) (acc n : Nat) (h : Lib.decFrom acc l = some n) : Lib.decFrom acc (l ++ [b]) = some (n * 10 + d) := by
  have h1 : Lib.decFrom acc ((l ++ [b]).take l.length) = some n := by rw [List.take_left']; exact h; rfl
  have h2 := Lib.decFrom_take (l ++ [b]) l.length acc n b d h1 (by simp) hd
  rwa [List.take_of_length_le (by simp)] at h2
theorem digitVal_of (k : Nat) (h : k < 10) : Lib.digitVal (UInt8.ofNat (48 + k)) = some k := by
  have : ∀ j : Fin 10, Lib.digitVal (UInt8.ofNat (48 + j.val)) = some j.val := by decide
  exact this ⟨k, h⟩
theorem dec_back : ∀ (u : Nat), Lib.decFrom 0 (Lib.decDigits u) = some u := by
  intro u
  induction u using Nat.strongRecOn with
  | _ u ih =>
    by_cases h : u < 10
    · rw [Lib.decDigits_one h]
      have := decFrom_snoc _ u (digitVal_of u h) [] 0 0 rfl
      simpa using this
    · rw [Lib.decDigits, dif_neg h]
      have := decFrom_snoc _ (u % 10) (digitVal_of (u % 10) (by omega)) _ 0 _ (ih (u / 10) (by omega))
      rw [this]; congr 1; omega
theorem dec_ne (u : Nat) : Lib.decDigits u ≠ [] := by
  intro h
  have := Lib.decDigits_length u
  rw [h] at this
  have := Lib.nDigits_pos u
  simp at *; omega
theorem dec_digs (u : Nat) : digs (Lib.decDigits u) := by
  intro c hc
  obtain ⟨k, hk, he⟩ := List.mem_iff_getElem.1 hc
  obtain ⟨d, hd⟩ := Lib.digit_of_decFrom _ _ _ (dec_back u) k c (by rw [List.getElem?_eq_some_iff]; exact ⟨hk, he⟩)
  have := Lib.digitVal_eq hd
  omega
theorem itoa_digs (n : Int) (h : 0 ≤ n) : digs (Lib.itoa n) := by
  obtain ⟨u, rfl⟩ : ∃ u : Nat, n = u := ⟨n.toNat, by omega⟩
  rw [Lib.itoa_nonneg]; exact dec_digs u
theorem itoa_inj (a b : Int) (ha : 0 ≤ a) (hb : 0 ≤ b) (h : Lib.itoa a = Lib.itoa b) : a = b := by
  obtain ⟨u, rfl⟩ : ∃ u : Nat, a = u := ⟨a.toNat, by omega⟩
  obtain ⟨v, rfl⟩ : ∃ u : Nat, b = u := ⟨b.toNat, by omega⟩
  rw [Lib.itoa_nonneg, Lib.itoa_nonneg] at h
  have h1 := dec_back u
  rw [h, dec_back v] at h1
  have := Option.some.inj h1
  omega
theorem itoa_ne (n : Int) (h : 0 ≤ n) : Lib.itoa n ≠ [] := by
  obtain ⟨u, rfl⟩ : ∃ u : Nat, n = u := ⟨n.toNat, by omega⟩
  rw [Lib.itoa_nonneg]; exact dec_ne u
theorem itoa_atoi (n : Int) (h : 0 ≤ n) : Lib.atoi (Lib.itoa n) = some n := by
  obtain ⟨u, rfl⟩ : ∃ u : Nat, n = u := ⟨n.toNat, by omega⟩
  rw [Lib.itoa_nonneg]
  cases hd : Lib.decDigits u with
  | nil => exact absurd hd (dec_ne u)
  | cons b r =>
    have hb := dec_digs u b (by rw [hd]; exact List.mem_cons_self)
    have h45 : (b == 45) = false := by
      rw [beq_eq_false_iff_ne]; rintro rfl; revert hb; decide
    have h43 : (b == 43) = false := by
      rw [beq_eq_false_iff_ne]; rintro rfl; revert hb; decide
    have hdec := dec_back u
    rw [hd] at hdec
    have hn : Lib.decNat (b :: r) = some u := by simpa [Lib.decNat] using hdec
    simp [Lib.atoi, h45, h43, hn]
theorem itoa_len (n : Int) (h : 0 ≤ n) (h1 : n ≤ 999999) : (Lib.itoa n).length ≤ 6 := by
  obtain ⟨u, rfl⟩ : ∃ u : Nat, n = u := ⟨n.toNat, by omega⟩
  rw [Lib.itoa_nonneg, Lib.decDigits_length]
  have hu : u < 1000000 := by omega
  by_cases h6 : 6 < Lib.nDigits u
  · exfalso
    have : ∀ (k v : Nat), k < Lib.nDigits v → 10 ^ k ≤ v ∨ k = 0 := by
      intro k
      induction k with
      | zero => intro v _; exact Or.inr rfl
      | succ k ih =>
        intro v hv
        by_cases h10 : v < 10
        · rw [Lib.nDigits_small h10] at hv; omega
        · rw [Lib.nDigits_big h10] at hv
          rcases ih (v / 10) (by omega) with hk | hk
          · refine Or.inl ?_
            rw [Nat.pow_succ]; omega
          · refine Or.inl ?_
            subst hk; simpa using Nat.le_of_not_lt h10
    rcases this 6 u h6 with h | h
    · omega
    · omega
  · omega

/-! ### rules -/
def countW : List UInt8 := [99, 111, 117, 110, 116]
def untilW : List UInt8 := [117, 110, 116, 105, 108]
/-- a weekday's name -/
def nm (d : Int) : List UInt8 :=
  if d = 0 then [109, 111] else if d = 1 then [116, 117] else if d = 2 then [119, 101] else if d = 3 then [116, 104] else if d = 4 then [102, 114] else if d = 5 then [115, 97] else [115, 117]

/-- the text of the last day, if there is one -/
def UT (r : RV) (t : List UInt8) : Prop := (r.til = -1 ∧ t = []) ∨ (0 ≤ r.til ∧ ∃ y m d, vld y m d ∧ num y m d = r.til ∧ t = txt y m d)

def wDays (r : RV) : List (List UInt8) := if r.days = [] then [] else [Lib.join (r.days.map nm) [44]]
def wCount (r : RV) : List (List UInt8) := if r.count = 0 then [] else [countW, Lib.itoa r.count]
def wUntil (r : RV) (t : List UInt8) : List (List UInt8) := if r.til = -1 then [] else [untilW, t]
/-- the words of a rule -/
def words (r : RV) (t : List UInt8) : List (List UInt8) :=
  if r.freq = onceW then [onceW] else r.freq :: Lib.itoa r.every :: (wDays r ++ (wCount r ++ wUntil r t))
/-- the text of a rule -/
def rtext (r : RV) (t : List UInt8) : List UInt8 := Lib.join (words r t) [32]

theorem words_ne (r : RV) (t : List UInt8) : words r t ≠ [] := by unfold words; split <;> simp

theorem digs_no {l : List UInt8} (h : digs l) (c : UInt8) (hc : (c.toNat : Int) < 48) : c ∉ l := fun hm => by have := h c hm; omega
theorem nm_no (d : Int) (c : UInt8) (hc : c.toNat < 97) : c ∉ nm d := by
  intro hm
  have : ∀ x ∈ nm d, 97 ≤ x.toNat := by
    unfold nm
    repeat' split
    all_goals decide
  have := this c hm; omega
theorem join_no (c s : UInt8) (hs : s ≠ c) : ∀ (l : List (List UInt8)), (∀ x ∈ l, c ∉ x) → c ∉ Lib.join l [s]
  | [], _ => by simp [Lib.join_nil]
  | [x], h => by rw [Lib.join_one]; exact h x (by simp)
  | x :: y :: r, h => by
    rw [join_cons2]
    intro hm
    rcases List.mem_append.1 hm with h1 | h1
    · exact h x (by simp) h1
    · rcases List.mem_append.1 h1 with h2 | h2
      · simp at h2; exact hs h2.symm
      · exact join_no c s hs (y :: r) (fun z hz => h z (List.mem_cons_of_mem _ hz)) h2
theorem days_no (l : List Int) (c : UInt8) (h44 : c ≠ 44) (hc : c.toNat < 97) : c ∉ Lib.join (l.map nm) [44] :=
  join_no c 44 (Ne.symm h44) _ (fun x hx => by
    obtain ⟨d, _, rfl⟩ := List.mem_map.1 hx
    exact nm_no d c hc)
theorem txt_signs {y m d : Int} (h : vld y m d) : ∀ c ∈ txt y m d, 45 ≤ c.toNat := by
  obtain ⟨h1, h2, h3, h4, h5, h6⟩ := h
  have h7 := (dim_bd y m).2
  have hd : ∀ k : Int, 0 ≤ k → k ≤ 9 → 45 ≤ (dgt k).toNat := fun k a b => by rw [dgt_nat k a b]; omega
  intro c hc
  simp only [txt, four, two, List.mem_append, List.mem_cons, List.not_mem_nil, or_false] at hc
  rcases hc with ((((h | h | h | h) | h) | (h | h)) | h) | (h | h)
  all_goals subst h
  all_goals first | (exact hd _ (by omega) (by omega)) | decide
theorem ut_signs {r : RV} {t : List UInt8} (h : UT r t) : ∀ c ∈ t, 45 ≤ c.toNat := by
  rcases h with ⟨_, rfl⟩ | ⟨_, y, m, d, hv, _, rfl⟩
  · intro c hc; simp at hc
  · exact txt_signs hv
theorem freq_no {r : RV} (h : Well r) : (32 : UInt8) ∉ r.freq := by
  rcases h.fr with e | e | e | e | e <;> rw [e] <;> decide
theorem words_no {r : RV} {t : List UInt8} (h : Well r) (ht : UT r t) : ∀ x ∈ words r t, (32 : UInt8) ∉ x := by
  intro x hx
  unfold words at hx
  split at hx
  · simp at hx; subst hx; decide
  · rcases List.mem_cons.1 hx with rfl | hx
    · exact freq_no h
    rcases List.mem_cons.1 hx with rfl | hx
    · exact digs_no (itoa_digs _ (by have := h.ev; omega)) 32 (by decide)
    rcases List.mem_append.1 hx with hx | hx
    · unfold wDays at hx
      split at hx
      · simp at hx
      · simp at hx; subst hx; exact days_no _ 32 (by decide) (by decide)
    rcases List.mem_append.1 hx with hx | hx
    · unfold wCount at hx
      split at hx
      · simp at hx
      · simp at hx
        rcases hx with rfl | rfl
        · decide
        · exact digs_no (itoa_digs _ (by have := h.co; omega)) 32 (by decide)
    · unfold wUntil at hx
      split at hx
      · simp at hx
      · simp at hx
        rcases hx with rfl | rfl
        · decide
        · intro hm; have := ut_signs ht _ hm; revert this; decide
theorem rtext_pieces {r : RV} {t : List UInt8} (h : Well r) (ht : UT r t) : pieces 32 (rtext r t) = words r t := pieces_join 32 _ (words_ne r t) (words_no h ht)
end Go.Proofs.YtkjfbeempmfipaaGreatDoor.Cal

/- The library's own contracts of some functions more, laid at this program. -/
namespace Go.Proofs
open Go.Shelf
def Tryz.laysC172_ren : Go.Shelf.Ren := ⟨fun | 172 => 54 | 244 => 79 | 245 => 80 | 247 => 109 | 279 => 110 | 280 => 111 | 281 => 112 | 282 => 113 | 287 => 137 | 316 => 138 | 171 => 14 | 205 => 139 | 321 => 156 | 322 => 157 | 243 => 30 | 246 => 48 | 283 => 69 | 284 => 70 | 285 => 71 | 286 => 72 | 129 => 98 | 317 => 97 | 318 => 99 | 319 => 100 | 320 => 101 | 337 => 132 | 338 => 133 | n => n, fun | 9 => 9 | 3 => 3 | 75 => 30 | 76 => 40 | 4 => 4 | 5 => 5 | 167 => 174 | 37 => 66 | 0 => 0 | 85 => 175 | 2 => 2 | 168 => 177 | 53 => 127 | 175 => 195 | 46 => 168 | 210 => 199 | 127 => 99 | 145 => 223 | 143 => 221 | 21 => 21 | 171 => 126 | 173 => 130 | 212 => 165 | 51 => 166 | 20 => 20 | 213 => 167 | 232 => 214 | 233 => 215 | 80 => 62 | n => n, fun | 15 => 14 | 16 => 15 | 17 => 12 | 18 => 17 | 19 => 18 | n => n⟩
theorem Tryz.laysC172 : Go.Proofs.LaysC.n172 Tryz.prog Tryz.laysC172_ren := {
  mixed := by kernel_rfl
  f129 := Tryz.func98.trans (congrArg some (by kernel_rfl))
  f171 := Tryz.func14.trans (congrArg some (by kernel_rfl))
  f172 := Tryz.func54.trans (congrArg some (by kernel_rfl))
  f205 := Tryz.func139.trans (congrArg some (by kernel_rfl))
  f243 := Tryz.func30.trans (congrArg some (by kernel_rfl))
  f244 := Tryz.func79.trans (congrArg some (by kernel_rfl))
  f245 := Tryz.func80.trans (congrArg some (by kernel_rfl))
  f246 := Tryz.func48.trans (congrArg some (by kernel_rfl))
  f247 := Tryz.func109.trans (congrArg some (by kernel_rfl))
  f279 := Tryz.func110.trans (congrArg some (by kernel_rfl))
  f280 := Tryz.func111.trans (congrArg some (by kernel_rfl))
  f281 := Tryz.func112.trans (congrArg some (by kernel_rfl))
  f282 := Tryz.func113.trans (congrArg some (by kernel_rfl))
  f283 := Tryz.func69.trans (congrArg some (by kernel_rfl))
  f284 := Tryz.func70.trans (congrArg some (by kernel_rfl))
  f285 := Tryz.func71.trans (congrArg some (by kernel_rfl))
  f286 := Tryz.func72.trans (congrArg some (by kernel_rfl))
  f287 := Tryz.func137.trans (congrArg some (by kernel_rfl))
  f316 := Tryz.func138.trans (congrArg some (by kernel_rfl))
  f317 := Tryz.func97.trans (congrArg some (by kernel_rfl))
  f318 := Tryz.func99.trans (congrArg some (by kernel_rfl))
  f319 := Tryz.func100.trans (congrArg some (by kernel_rfl))
  f320 := Tryz.func101.trans (congrArg some (by kernel_rfl))
  f321 := Tryz.func156.trans (congrArg some (by kernel_rfl))
  f322 := Tryz.func157.trans (congrArg some (by kernel_rfl))
  f337 := Tryz.func132.trans (congrArg some (by kernel_rfl))
  f338 := Tryz.func133.trans (congrArg some (by kernel_rfl))
  t0 := Tryz.underlying0
  a0 := Tryz.isAgg0
  z0 := Tryz.sizeOf0
  v0 := Tryz.zeroValue0
  t2 := Tryz.underlying2
  a2 := Tryz.isAgg2
  z2 := Tryz.sizeOf2
  v2 := Tryz.zeroValue2
  t3 := Tryz.underlying3
  a3 := Tryz.isAgg3
  z3 := Tryz.sizeOf3
  v3 := Tryz.zeroValue3
  t4 := Tryz.underlying4
  a4 := Tryz.isAgg4
  z4 := Tryz.sizeOf4
  v4 := Tryz.zeroValue4
  t5 := Tryz.underlying5
  a5 := Tryz.isAgg5
  z5 := Tryz.sizeOf5
  v5 := Tryz.zeroValue5
  t9 := Tryz.underlying9
  a9 := Tryz.isAgg9
  z9 := Tryz.sizeOf9
  v9 := Tryz.zeroValue9
  t20 := Tryz.underlying20
  a20 := Tryz.isAgg20
  z20 := Tryz.sizeOf20
  v20 := Tryz.zeroValue20
  t21 := Tryz.underlying21
  a21 := Tryz.isAgg21
  z21 := Tryz.sizeOf21
  v21 := Tryz.zeroValue21
  t37 := Tryz.underlying66
  a37 := Tryz.isAgg66
  z37 := Tryz.sizeOf66
  v37 := Tryz.zeroValue66
  t46 := Tryz.underlying168
  a46 := Tryz.isAgg168
  z46 := Tryz.sizeOf168
  v46 := Tryz.zeroValue168
  t51 := Tryz.underlying166
  a51 := Tryz.isAgg166
  z51 := Tryz.sizeOf166
  v51 := Tryz.zeroValue166
  t53 := Tryz.underlying127
  a53 := Tryz.isAgg127
  z53 := Tryz.sizeOf127
  v53 := Tryz.zeroValue127
  t75 := Tryz.underlying30
  a75 := Tryz.isAgg30
  z75 := Tryz.sizeOf30
  v75 := Tryz.zeroValue30
  t76 := Tryz.underlying40
  a76 := Tryz.isAgg40
  z76 := Tryz.sizeOf40
  v76 := Tryz.zeroValue40
  t85 := Tryz.underlying175
  a85 := Tryz.isAgg175
  z85 := Tryz.sizeOf175
  v85 := Tryz.zeroValue175
  t127 := Tryz.underlying99
  a127 := Tryz.isAgg99
  z127 := Tryz.sizeOf99
  v127 := Tryz.zeroValue99
  t143 := Tryz.underlying221
  a143 := Tryz.isAgg221
  z143 := Tryz.sizeOf221
  v143 := Tryz.zeroValue221
  t145 := Tryz.underlying223
  a145 := Tryz.isAgg223
  z145 := Tryz.sizeOf223
  v145 := Tryz.zeroValue223
  t167 := Tryz.underlying174
  a167 := Tryz.isAgg174
  z167 := Tryz.sizeOf174
  v167 := Tryz.zeroValue174
  t168 := Tryz.underlying177
  a168 := Tryz.isAgg177
  z168 := Tryz.sizeOf177
  v168 := Tryz.zeroValue177
  t171 := Tryz.underlying126
  a171 := Tryz.isAgg126
  z171 := Tryz.sizeOf126
  v171 := Tryz.zeroValue126
  t173 := Tryz.underlying130
  a173 := Tryz.isAgg130
  z173 := Tryz.sizeOf130
  v173 := Tryz.zeroValue130
  t175 := Tryz.underlying195
  a175 := Tryz.isAgg195
  z175 := Tryz.sizeOf195
  v175 := Tryz.zeroValue195
  t210 := Tryz.underlying199
  a210 := Tryz.isAgg199
  z210 := Tryz.sizeOf199
  v210 := Tryz.zeroValue199
  t212 := Tryz.underlying165
  a212 := Tryz.isAgg165
  z212 := Tryz.sizeOf165
  v212 := Tryz.zeroValue165
  t213 := Tryz.underlying167
  a213 := Tryz.isAgg167
  z213 := Tryz.sizeOf167
  t232 := Tryz.underlying214
  a232 := Tryz.isAgg214
  z232 := Tryz.sizeOf214
  v232 := Tryz.zeroValue214
  t233 := Tryz.underlying215
  a233 := Tryz.isAgg215
  z233 := Tryz.sizeOf215
  v233 := Tryz.zeroValue215
  g15 := by kernel_rfl
  g16 := by kernel_rfl
  g17 := by kernel_rfl
  g18 := by kernel_rfl
  g19 := by kernel_rfl
  t80 := Tryz.underlying62
  a80 := Tryz.isAgg62
  z80 := Tryz.sizeOf62
  v80 := Tryz.zeroValue62
  i0 := by kernel_rfl
  i2 := by kernel_rfl
  i3 := by kernel_rfl
  i4 := by kernel_rfl
  i5 := by kernel_rfl
  i9 := by kernel_rfl
  i20 := by kernel_rfl
  i21 := by kernel_rfl
  i37 := by kernel_rfl
  i46 := by kernel_rfl
  i51 := by kernel_rfl
  i53 := by kernel_rfl
  i75 := by kernel_rfl
  i76 := by kernel_rfl
  i80 := by kernel_rfl
  i85 := by kernel_rfl
  i127 := by kernel_rfl
  i143 := by kernel_rfl
  i145 := by kernel_rfl
  i167 := by kernel_rfl
  i168 := by kernel_rfl
  i171 := by kernel_rfl
  i173 := by kernel_rfl
  i175 := by kernel_rfl
  i210 := by kernel_rfl
  i212 := by kernel_rfl
  i232 := by kernel_rfl
  i233 := by kernel_rfl
  m15 := by kernel_rfl
  m16 := by kernel_rfl
  m17 := by kernel_rfl
  m18 := by kernel_rfl
  m19 := by kernel_rfl
  c0 := by kernel_rfl
  c2 := by kernel_rfl
  c3 := by kernel_rfl
  c4 := by kernel_rfl
  c5 := by kernel_rfl
  c9 := by kernel_rfl
  c20 := by kernel_rfl
  c21 := by kernel_rfl
  c37 := by kernel_rfl
  c46 := by kernel_rfl
  c51 := by kernel_rfl
  c53 := by kernel_rfl
  c75 := by kernel_rfl
  c76 := by kernel_rfl
  c80 := by kernel_rfl
  c85 := by kernel_rfl
  c127 := by kernel_rfl
  c143 := by kernel_rfl
  c145 := by kernel_rfl
  c167 := by kernel_rfl
  c168 := by kernel_rfl
  c171 := by kernel_rfl
  c173 := by kernel_rfl
  c175 := by kernel_rfl
  c210 := by kernel_rfl
  c212 := by kernel_rfl
  c213 := by kernel_rfl
  c232 := by kernel_rfl
  c233 := by kernel_rfl }
open Go.RowKit in
theorem Tryz.strconv_Atoi_err (s : ByteArray) (hl : s.size ≤ 18) (h : Lib.atoi s.data.toList = none) (ev : Value) (w : World) (hv : w.cell? ⟨14, 0, none⟩ = some ev) (hev : ev = .nilIface ∨ ∃ te pe, ev = .iface te pe) :
    Calls Tryz.prog 54 #[.string s] w fun e w' => ∃ N, e = .returned (.tuple #[.int .i64 0, .iface 177 (.pointer (some ⟨N, 0, none⟩))]) ∧ w.heap.size ≤ N ∧ w'.heap[N]? = some (.cells #[.string ⟨#[65, 116, 111, 105]⟩, .string s, ev] 199 (0, 0)) ∧ Below w.heap.size w w' := Any.strconv_Atoi_err Tryz.laysC172 s hl h ev w hv hev
end Go.Proofs
