/- Tapes in plain mathematics: texts with their sizes ahead, records, what is read of a tape; a record that was cut is none. -/
import Derived.Test.YtcaeafgkogfgdaaDoorPkD
namespace Go.Proofs.YtcaeafgkogfgdaaDoor.Pk
open Go

/-- a text with its size ahead and an end behind it, cut off -/
def cutE (en l : List UInt8) : Option (List UInt8 × List UInt8) :=
  match ct 58 l with
  | none => none
  | some p => match numA p.1 with
    | none => none
    | some n => if (p.2.length : Int) < n then none else if Lib.hasPrefix (p.2.drop n.toNat) en then some (p.2.take n.toNat, (p.2.drop n.toNat).drop en.length) else none
theorem hasP_iff (l e : List UInt8) : Lib.hasPrefix l e = true ↔ ∃ r, l = e ++ r := by
  induction e generalizing l with
  | nil => exact ⟨fun _ => ⟨l, rfl⟩, fun _ => (by cases l <;> rfl)⟩
  | cons x t ih =>
    cases l with
    | nil => exact ⟨fun h => (by cases h), fun ⟨r, h⟩ => (by cases h)⟩
    | cons y s =>
      show (x == y && Lib.hasPrefix s t) = true ↔ _
      rw [Bool.and_eq_true, beq_iff_eq, ih s]
      constructor
      · rintro ⟨rfl, r, rfl⟩; exact ⟨r, rfl⟩
      · rintro ⟨r, h⟩; cases h; exact ⟨rfl, r, rfl⟩
theorem cutE_append {en l x b : List UInt8} (q : cutE en l = some (x, b)) (e : List UInt8) : cutE en (l ++ e) = some (x, b ++ e) := by
  unfold cutE at q ⊢
  cases hc : ct 58 l with
  | none => rw [hc] at q; cases q
  | some p =>
    obtain ⟨h, r⟩ := p
    rw [hc] at q
    rw [ct_append hc e]
    dsimp only at q ⊢
    cases hn : numA h with
    | none => rw [hn] at q; cases q
    | some n =>
      rw [hn] at q
      dsimp only at q ⊢
      split at q
      · cases q
      · rename_i h1
        split at q
        · rename_i h2
          cases q
          obtain ⟨t, ht⟩ := (hasP_iff _ _).1 h2
          rw [if_neg (by rw [List.length_append]; omega), List.take_append_of_le_length (by omega), List.drop_append_of_le_length (by omega), ht, List.append_assoc, if_pos ((hasP_iff _ _).2 ⟨_, rfl⟩), List.drop_left, List.drop_left]
        · cases q
theorem cutE_len {en l x b : List UInt8} (q : cutE en l = some (x, b)) : x.length + b.length < l.length := by
  unfold cutE at q
  cases hc : ct 58 l with
  | none => rw [hc] at q; cases q
  | some p =>
    obtain ⟨h, r⟩ := p
    have hl := congrArg List.length (ct_some hc).1
    rw [hc] at q
    dsimp only at q
    cases hn : numA h with
    | none => rw [hn] at q; cases q
    | some n =>
      rw [hn] at q
      dsimp only at q
      split at q
      · cases q
      · split at q
        · cases q
          simp only [List.length_append, List.length_cons, List.length_take, List.length_drop] at hl ⊢
          omega
        · cases q
/-- a text with its size ahead and an end -/
noncomputable def szE (s en : List UInt8) : List UInt8 := Lib.itoa s.length ++ 58 :: (s ++ en)
theorem cutE_szE (s en r : List UInt8) (hs : s.length ≤ 999999) : cutE en (szE s en ++ r) = some (s, r) := by
  unfold cutE szE
  rw [List.append_assoc, List.cons_append, ct_mk 58 _ _ (no_sign _ (by omega) 58 (by decide))]
  dsimp only
  rw [numA_itoa _ (by omega) (by omega)]
  dsimp only
  rw [if_neg (by simp only [List.length_append]; omega), Int.toNat_natCast, List.append_assoc, List.drop_left, if_pos ((hasP_iff _ _).2 ⟨_, rfl⟩), List.take_left, List.drop_left]

/-- a record, and what stands behind it -/
def stT (l : List UInt8) : Option (List UInt8 × List UInt8) :=
  match cutE [10, 46] l with
  | none => none
  | some p => if p.1.length ≤ 10000 then some p else none
theorem stT_some {l x b : List UInt8} (q : stT l = some (x, b)) : cutE [10, 46] l = some (x, b) ∧ x.length ≤ 10000 := by
  unfold stT at q
  cases hc : cutE [10, 46] l with
  | none => rw [hc] at q; cases q
  | some p =>
    rw [hc] at q
    dsimp only at q
    split at q
    · rename_i h; cases q; exact ⟨rfl, h⟩
    · cases q
theorem stT_append {l x b : List UInt8} (q : stT l = some (x, b)) (e : List UInt8) : stT (l ++ e) = some (x, b ++ e) := by
  obtain ⟨h1, h2⟩ := stT_some q
  unfold stT
  rw [cutE_append h1 e]
  exact if_pos h2
theorem stT_len {l x b : List UInt8} (q : stT l = some (x, b)) : x.length + b.length < l.length := cutE_len (stT_some q).1
/-- a record of a text -/
noncomputable def rcT (s : List UInt8) : List UInt8 := szE s [10, 46]
theorem stT_rcT (s r : List UInt8) (hs : s.length ≤ 10000) : stT (rcT s ++ r) = some (s, r) := by
  unfold stT rcT
  rw [cutE_szE s _ r (by omega)]
  exact if_pos hs
/-- a record that was cut is none -/
theorem stT_torn (s : List UInt8) (k : Nat) (hs : s.length ≤ 10000) (hk : k < (rcT s).length) : stT ((rcT s).take k) = none := by
  cases h : stT ((rcT s).take k) with
  | none => rfl
  | some p =>
    obtain ⟨x, b⟩ := p
    have h1 := stT_append h ((rcT s).drop k)
    rw [List.take_append_drop] at h1
    have h2 := stT_rcT s [] hs
    rw [List.append_nil] at h2
    rw [h2] at h1
    have h3 := congrArg List.length (Prod.mk.inj (Option.some.inj h1)).2
    simp only [List.length_nil, List.length_append, List.length_drop] at h3
    omega

/-- records, and what is left behind them -/
def rdF : Nat → List UInt8 → List (List UInt8) × List UInt8
  | 0, l => ([], l)
  | k + 1, l => match stT l with
    | none => ([], l)
    | some p => (p.1 :: (rdF k p.2).1, (rdF k p.2).2)
def rdT (l : List UInt8) : List (List UInt8) × List UInt8 := rdF l.length l
theorem rdF_any (k j : Nat) (l : List UInt8) (hk : l.length ≤ k) (hj : l.length ≤ j) : rdF k l = rdF j l := by
  induction k generalizing j l with
  | zero =>
    obtain rfl : l = [] := List.eq_nil_of_length_eq_zero (by omega)
    cases j <;> rfl
  | succ k ih =>
    cases j with
    | zero =>
      obtain rfl : l = [] := List.eq_nil_of_length_eq_zero (by omega)
      rfl
    | succ j =>
      unfold rdF
      cases hc : stT l with
      | none => rfl
      | some p =>
        have := stT_len (x := p.1) (b := p.2) hc
        dsimp only
        rw [ih j p.2 (by omega) (by omega)]
theorem rdT_no {l : List UInt8} (h : stT l = none) : rdT l = ([], l) := by
  unfold rdT
  cases l with
  | nil => rfl
  | cons x r =>
    show rdF (r.length + 1) (x :: r) = _
    unfold rdF
    rw [h]
theorem rdT_cons {l x b : List UInt8} (h : stT l = some (x, b)) : rdT l = (x :: (rdT b).1, (rdT b).2) := by
  have hl := stT_len h
  unfold rdT
  rw [rdF_any l.length (l.length - 1 + 1) l (by omega) (by omega)]
  show rdF (l.length - 1 + 1) l = _
  conv => lhs; unfold rdF
  rw [h]
  dsimp only
  rw [rdF_any (l.length - 1) b.length b (by omega) (by omega)]
/-- the bytes of a tape of records -/
noncomputable def tpT (X : List (List UInt8)) : List UInt8 := X.flatMap rcT
theorem tpT_snoc (X : List (List UInt8)) (s : List UInt8) : tpT (X ++ [s]) = tpT X ++ rcT s := by simp [tpT]
theorem rdT_tpT (X : List (List UInt8)) (r : List UInt8) (h : ∀ s ∈ X, s.length ≤ 10000) : rdT (tpT X ++ r) = (X ++ (rdT r).1, (rdT r).2) := by
  induction X with
  | nil => rfl
  | cons s X ih =>
    rw [show tpT (s :: X) = rcT s ++ tpT X from List.flatMap_cons, List.append_assoc, rdT_cons (stT_rcT s _ (h s List.mem_cons_self)), ih (fun t ht => h t (List.mem_cons_of_mem _ ht))]
    rfl
theorem rdT_nil : rdT [] = ([], []) := rfl
theorem rdT_whole (X : List (List UInt8)) (h : ∀ s ∈ X, s.length ≤ 10000) : rdT (tpT X) = (X, []) := by
  have := rdT_tpT X [] h
  rw [List.append_nil, rdT_nil] at this
  simpa using this
theorem rdT_torn (X : List (List UInt8)) (s : List UInt8) (k : Nat) (h : ∀ s ∈ X, s.length ≤ 10000) (hs : s.length ≤ 10000) (hk : k < (rcT s).length) : rdT (tpT X ++ (rcT s).take k) = (X, (rcT s).take k) := by
  rw [rdT_tpT X _ h, rdT_no (stT_torn s k hs hk), List.append_nil]
theorem rdT_len (l : List UInt8) : (rdT l).2.length ≤ l.length := by
  have key : ∀ (n : Nat) (l : List UInt8), l.length ≤ n → (rdT l).2.length ≤ l.length := by
    intro n
    induction n with
    | zero =>
      intro l hl
      obtain rfl : l = [] := List.eq_nil_of_length_eq_zero (by omega)
      exact Nat.le_refl _
    | succ n ih =>
      intro l hl
      cases h : stT l with
      | none => rw [rdT_no h]; exact Nat.le_refl _
      | some p =>
        have h1 := stT_len (x := p.1) (b := p.2) h
        rw [rdT_cons (x := p.1) (b := p.2) h]
        have := ih p.2 (by omega)
        dsimp only
        omega
  exact key l.length l (Nat.le_refl _)
theorem rdT_many (l : List UInt8) : (rdT l).1.length + (rdT l).2.length ≤ l.length ∧ ∀ s ∈ (rdT l).1, s.length ≤ l.length := by
  have key : ∀ (n : Nat) (l : List UInt8), l.length ≤ n → (rdT l).1.length + (rdT l).2.length ≤ l.length ∧ ∀ s ∈ (rdT l).1, s.length ≤ l.length := by
    intro n
    induction n with
    | zero =>
      intro l hl
      obtain rfl : l = [] := List.eq_nil_of_length_eq_zero (by omega)
      exact ⟨Nat.le_refl _, fun s hs => by cases hs⟩
    | succ n ih =>
      intro l hl
      cases h : stT l with
      | none => rw [rdT_no h]; exact ⟨by simp, fun s hs => by cases hs⟩
      | some p =>
        have h1 := stT_len (x := p.1) (b := p.2) h
        rw [rdT_cons (x := p.1) (b := p.2) h]
        have h2 := ih p.2 (by omega)
        dsimp only
        refine ⟨by rw [List.length_cons]; omega, fun s hs => ?_⟩
        rcases List.mem_cons.1 hs with rfl | hs
        · omega
        · have := h2.2 s hs; omega
  exact key l.length l (Nat.le_refl _)
end Go.Proofs.YtcaeafgkogfgdaaDoor.Pk
