/- Deltas in plain mathematics: signs, numbers, ops, what they make; deltas one behind the other. -/
import Derived.Lib.AtoiAll
import Derived.Lib.IndexBytes
import Derived.Lib.ItoaLen
namespace Go.Proofs.YtcaeafgkogfgdaaDoor.Pk
open Go

/-- cut at the first such sign -/
def ct (c : UInt8) : List UInt8 → Option (List UInt8 × List UInt8)
  | [] => none
  | x :: r => if x = c then some ([], r) else (ct c r).map fun p => (x :: p.1, p.2)
theorem ct_some {c : UInt8} {l h r : List UInt8} (q : ct c l = some (h, r)) : l = h ++ c :: r ∧ c ∉ h := by
  induction l generalizing h r with
  | nil => simp [ct] at q
  | cons x t ih =>
    unfold ct at q
    split at q
    · rename_i hx; cases q; subst hx; exact ⟨rfl, by simp⟩
    · rename_i hx
      cases hc : ct c t with
      | none => rw [hc] at q; cases q
      | some p =>
        rw [hc] at q; cases q
        obtain ⟨e1, e2⟩ := ih hc
        exact ⟨by rw [e1]; rfl, by simp only [List.mem_cons, not_or]; exact ⟨fun e => hx e.symm, e2⟩⟩
theorem ct_mk (c : UInt8) (h r : List UInt8) (hc : c ∉ h) : ct c (h ++ c :: r) = some (h, r) := by
  induction h with
  | nil => simp [ct]
  | cons x t ih =>
    simp only [List.mem_cons, not_or] at hc
    rw [List.cons_append]
    unfold ct
    rw [if_neg (fun e => hc.1 e.symm), ih hc.2]
    rfl
theorem ct_none {c : UInt8} {l : List UInt8} (h : c ∉ l) : ct c l = none := by
  induction l with
  | nil => rfl
  | cons x t ih =>
    simp only [List.mem_cons, not_or] at h
    unfold ct
    rw [if_neg (fun e => h.1 e.symm), ih h.2]
    rfl
theorem ct_append {c : UInt8} {l h r : List UInt8} (q : ct c l = some (h, r)) (e : List UInt8) : ct c (l ++ e) = some (h, r ++ e) := by
  obtain ⟨e1, e2⟩ := ct_some q
  rw [e1, List.append_assoc]
  exact ct_mk c h (r ++ e) e2
theorem ct_at {c : UInt8} {l : List UInt8} {i : Nat} (h : l[i]? = some c) (hb : ∀ j, j < i → l[j]? ≠ some c) : ct c l = some (l.take i, l.drop (i + 1)) := by
  induction l generalizing i with
  | nil => simp at h
  | cons x t ih =>
    cases i with
    | zero =>
      simp at h
      subst h
      simp [ct]
    | succ k =>
      have hx : x ≠ c := fun e => hb 0 (by omega) (by simp [e])
      unfold ct
      rw [if_neg hx, ih (i := k) (by simpa using h) (fun j hj => by have := hb (j + 1) (by omega); simpa using this)]
      rfl

theorem ct_idx (c : UInt8) (l : List UInt8) : (Lib.indexByte l c = -1 ∧ ct c l = none) ∨ ∃ i : Nat, Lib.indexByte l c = i ∧ i < l.length ∧ ct c l = some (l.take i, l.drop (i + 1)) := by
  induction l with
  | nil => exact .inl ⟨rfl, rfl⟩
  | cons x t ih =>
    have e : Lib.indexByte (x :: t) c = if x == c then (0 : Int) else if Lib.indexByte t c == -1 then -1 else Lib.indexByte t c + 1 := rfl
    have e2 : ct c (x :: t) = if x = c then some ([], t) else (ct c t).map fun p => (x :: p.1, p.2) := rfl
    by_cases hx : x = c
    · right
      refine ⟨0, ?_, by simp, ?_⟩
      · rw [e, if_pos (by simpa using hx)]; rfl
      · rw [e2, if_pos hx]; rfl
    · rw [e, if_neg (by simpa using hx), e2, if_neg hx]
      rcases ih with ⟨h1, h2⟩ | ⟨i, h1, h2, h3⟩
      · left; rw [h1, h2]; exact ⟨rfl, rfl⟩
      · right
        refine ⟨i + 1, ?_, by rw [List.length_cons]; omega, ?_⟩
        · rw [h1, if_neg (by rw [beq_iff_eq]; omega)]; rfl
        · rw [h3]; rfl

/-- is it a digit? -/
def dg (c : UInt8) : Bool := 48 ≤ c.toNat && c.toNat ≤ 57
/-- the number that a text is, of however many digits, without needless zeros; one that is too great is the greatest -/
def numA (l : List UInt8) : Option Int :=
  if l = [] ∨ (l[0]? = some 48 ∧ l ≠ [48]) then none
  else if l.all dg then (match Lib.atoiAll l with | .ok n => some n | _ => some 9223372036854775807) else none
theorem atoiAll_dig {l : List UInt8} (h : l.all dg = true) (hl : l ≠ []) {n : Int} (q : Lib.atoiAll l = .ok n) : 0 ≤ n ∧ n ≤ 9223372036854775807 := by
  cases l with
  | nil => exact absurd rfl hl
  | cons c r =>
    have hc : dg c = true := by rw [List.all_cons, Bool.and_eq_true] at h; exact h.1
    unfold dg at hc
    rw [Bool.and_eq_true, decide_eq_true_eq, decide_eq_true_eq] at hc
    unfold Lib.atoiAll at q
    dsimp only at q
    split at q
    · cases q
    · cases q
    · rename_i u _
      rw [if_neg (show ¬ (c.toNat = 45 ∧ 9223372036854775808 < u) by omega)] at q
      split at q
      · cases q
      · rename_i hq
        rw [if_neg (show ¬ c.toNat = 45 by omega)] at q
        cases q
        omega
theorem numA_bd {l : List UInt8} {n : Int} (h : numA l = some n) : 0 ≤ n ∧ n ≤ 9223372036854775807 := by
  unfold numA at h
  split at h
  · cases h
  · rename_i h0
    split at h
    · rename_i hd
      split at h
      · rename_i m hm
        cases h
        exact atoiAll_dig hd (fun e => h0 (.inl e)) hm
      · cases h; omega
    · cases h

/-- a text with its size ahead and a sign behind -/
def cutS (en : UInt8) (l : List UInt8) : Option (List UInt8 × List UInt8) :=
  match ct 58 l with
  | none => none
  | some p => match numA p.1 with
    | none => none
    | some n => if (p.2.length : Int) < n then none else if p.2[n.toNat]? = some en then some (p.2.take n.toNat, p.2.drop (n.toNat + 1)) else none
theorem cutS_append {en : UInt8} {l x b : List UInt8} (q : cutS en l = some (x, b)) (e : List UInt8) : cutS en (l ++ e) = some (x, b ++ e) := by
  unfold cutS at q ⊢
  cases hc : ct 58 l with
  | none => rw [hc] at q; cases q
  | some p =>
    obtain ⟨h, r⟩ := p
    rw [hc] at q
    rw [ct_append hc e]
    dsimp only at q ⊢
    cases hn : numA h with
    | none => rw [hn] at q; cases q
    | some n =>
      rw [hn] at q
      dsimp only at q ⊢
      split at q
      · cases q
      · rename_i h1
        split at q
        · rename_i h2
          cases q
          have h3 := (List.getElem?_eq_some_iff.1 h2).1
          rw [if_neg (by rw [List.length_append]; omega), List.getElem?_append_left h3, if_pos h2, List.take_append_of_le_length (by omega), List.drop_append_of_le_length (by omega)]
        · cases q
theorem cutS_len {en : UInt8} {l x b : List UInt8} (q : cutS en l = some (x, b)) : x.length + b.length < l.length := by
  unfold cutS at q
  cases hc : ct 58 l with
  | none => rw [hc] at q; cases q
  | some p =>
    obtain ⟨h, r⟩ := p
    have hl := congrArg List.length (ct_some hc).1
    rw [hc] at q
    dsimp only at q
    cases hn : numA h with
    | none => rw [hn] at q; cases q
    | some n =>
      rw [hn] at q
      dsimp only at q
      split at q
      · cases q
      · split at q
        · rename_i h2
          have h3 := (List.getElem?_eq_some_iff.1 h2).1
          cases q
          simp only [List.length_append, List.length_cons, List.length_take, List.length_drop] at hl ⊢
          omega
        · cases q

/-- an op: its own bytes; none: a place and how many -/
abbrev Opq := List UInt8 × Int × Int
/-- the op of a copy, behind its mark -/
def cutC (l : List UInt8) : Option (Opq × List UInt8) :=
  match ct 44 l with
  | none => none
  | some p => match ct 59 p.2 with
    | none => none
    | some q => match numA p.1, numA q.1 with
      | some a, some n => if 0 < n then some (([], a, n), q.2) else none
      | _, _ => none
/-- the op of own bytes, behind its mark -/
def cutI (l : List UInt8) : Option (Opq × List UInt8) :=
  match cutS 59 l with
  | none => none
  | some p => if p.1 = [] then none else some ((p.1, 0, 0), p.2)
/-- the first op, and what stands behind it -/
def cutO : List UInt8 → Option (Opq × List UInt8)
  | [] => none
  | x :: r =>
    if x = 99 then cutC r
    else if x = 105 then cutI r
    else none
theorem cutO_c (x : UInt8) (r : List UInt8) : cutO (x :: r) = if x = 99 then cutC r else if x = 105 then cutI r else none := rfl
theorem cutC_append {l b : List UInt8} {o : Opq} (q : cutC l = some (o, b)) (e : List UInt8) : cutC (l ++ e) = some (o, b ++ e) := by
  unfold cutC at q ⊢
  cases hc : ct 44 l with
  | none => rw [hc] at q; cases q
  | some p =>
    obtain ⟨h, r⟩ := p
    rw [hc] at q
    rw [ct_append hc e]
    dsimp only at q ⊢
    cases hd : ct 59 r with
    | none => rw [hd] at q; cases q
    | some p2 =>
      obtain ⟨h2, r2⟩ := p2
      rw [hd] at q
      rw [ct_append hd e]
      dsimp only at q ⊢
      cases h3 : numA h with
      | none => rw [h3] at q; cases q
      | some n3 =>
        cases h4 : numA h2 with
        | none => rw [h3, h4] at q; cases q
        | some n4 =>
          rw [h3, h4] at q
          dsimp only at q ⊢
          split at q
          · rename_i h5; cases q; rw [if_pos h5]
          · cases q
theorem cutC_len {l b : List UInt8} {o : Opq} (q : cutC l = some (o, b)) : b.length < l.length := by
  unfold cutC at q
  cases hc : ct 44 l with
  | none => rw [hc] at q; cases q
  | some p =>
    obtain ⟨h, r⟩ := p
    have hl := congrArg List.length (ct_some hc).1
    rw [hc] at q
    dsimp only at q
    cases hd : ct 59 r with
    | none => rw [hd] at q; cases q
    | some p2 =>
      obtain ⟨h2, r2⟩ := p2
      have hl2 := congrArg List.length (ct_some hd).1
      rw [hd] at q
      dsimp only at q
      split at q
      · split at q
        · cases q; simp only [List.length_append, List.length_cons] at hl hl2; omega
        · cases q
      · cases q
theorem cutO_append {l b : List UInt8} {o : Opq} (q : cutO l = some (o, b)) (e : List UInt8) : cutO (l ++ e) = some (o, b ++ e) := by
  cases l with
  | nil => cases q
  | cons x r =>
    rw [List.cons_append]
    rw [cutO_c] at q ⊢
    split at q
    · rename_i h; rw [if_pos h]; exact cutC_append q e
    · rename_i h
      rw [if_neg h]
      split at q
      · rename_i h2
        rw [if_pos h2]
        unfold cutI at q ⊢
        cases hs : cutS 59 r with
        | none => rw [hs] at q; cases q
        | some p =>
          obtain ⟨x1, b1⟩ := p
          rw [hs] at q
          rw [cutS_append hs e]
          dsimp only at q ⊢
          split at q
          · cases q
          · rename_i h3; rw [if_neg h3]; cases q; rfl
      · cases q
theorem cutO_len {l b : List UInt8} {o : Opq} (q : cutO l = some (o, b)) : b.length < l.length := by
  cases l with
  | nil => cases q
  | cons x r =>
    rw [cutO_c] at q
    rw [List.length_cons]
    split at q
    · have := cutC_len q; omega
    · split at q
      · unfold cutI at q
        cases hs : cutS 59 r with
        | none => rw [hs] at q; cases q
        | some p =>
          obtain ⟨x1, b1⟩ := p
          have := cutS_len hs
          rw [hs] at q
          dsimp only at q
          split at q
          · cases q
          · cases q; omega
      · cases q

/-- the ops of a delta -/
def opsF : Nat → List UInt8 → Option (List Opq)
  | 0, d => if d = [] then some [] else none
  | k + 1, d => if d = [] then some [] else match cutO d with
    | none => none
    | some p => (opsF k p.2).map (p.1 :: ·)
def ops (d : List UInt8) : Option (List Opq) := opsF d.length d
theorem opsF_any (k j : Nat) (d : List UInt8) (hk : d.length ≤ k) (hj : d.length ≤ j) : opsF k d = opsF j d := by
  induction k generalizing j d with
  | zero =>
    obtain rfl : d = [] := List.eq_nil_of_length_eq_zero (by omega)
    cases j <;> rfl
  | succ k ih =>
    cases d with
    | nil => cases j <;> rfl
    | cons x r =>
      rw [List.length_cons] at hk hj
      obtain ⟨j, rfl⟩ : ∃ m, j = m + 1 := ⟨j - 1, by omega⟩
      unfold opsF
      rw [if_neg (by simp), if_neg (by simp)]
      cases hc : cutO (x :: r) with
      | none => rfl
      | some p =>
        have := cutO_len (o := p.1) (b := p.2) hc
        rw [List.length_cons] at this
        dsimp only
        rw [ih j p.2 (by omega) (by omega)]
theorem ops_nil : ops [] = some [] := rfl
theorem ops_no {d : List UInt8} (hd : d ≠ []) (h : cutO d = none) : ops d = none := by
  cases d with
  | nil => exact absurd rfl hd
  | cons x r =>
    show opsF (r.length + 1) (x :: r) = none
    unfold opsF
    rw [if_neg (by simp), h]
theorem ops_cons {d r : List UInt8} {o : Opq} (h : cutO d = some (o, r)) : ops d = (ops r).map (o :: ·) := by
  cases d with
  | nil => cases h
  | cons x t =>
    have := cutO_len h
    rw [List.length_cons] at this
    have e : opsF (t.length + 1) (x :: t) = (opsF t.length r).map (o :: ·) := by
      unfold opsF
      rw [if_neg (by simp), h]
      cases t.length <;> rfl
    show opsF (t.length + 1) (x :: t) = (opsF r.length r).map (o :: ·)
    rw [e, opsF_any t.length r.length r (by omega) (by omega)]
theorem ops_append (n : Nat) : ∀ (d : List UInt8), d.length ≤ n → ∀ (e : List UInt8) (L M : List Opq), ops d = some L → ops e = some M → ops (d ++ e) = some (L ++ M) := by
  induction n with
  | zero =>
    intro d hd e L M h1 h2
    obtain rfl : d = [] := List.eq_nil_of_length_eq_zero (by omega)
    cases h1
    exact h2
  | succ n ih =>
    intro d hd e L M h1 h2
    by_cases hn : d = []
    · subst hn; cases h1; exact h2
    · cases hc : cutO d with
      | none => rw [ops_no hn hc] at h1; cases h1
      | some p =>
        obtain ⟨o, r⟩ := p
        have hl := cutO_len hc
        rw [ops_cons hc] at h1
        cases hr : ops r with
        | none => rw [hr] at h1; cases h1
        | some R =>
          rw [hr] at h1
          cases h1
          rw [ops_cons (cutO_append hc e), ih r (by omega) e R M hr h2]
          rfl

/-- the bytes that an op makes -/
def ofO (a : List UInt8) (o : Opq) : Option (List UInt8) :=
  if o.1 ≠ [] then some o.1 else if (a.length : Int) - o.2.1 < o.2.2 then none else some ((a.drop o.2.1.toNat).take o.2.2.toNat)
/-- what ops make, one behind the other, and whether it is in bounds -/
def stp (a : List UInt8) (q : List UInt8 × Bool) (o : Opq) : List UInt8 × Bool :=
  match ofO a o with
  | none => (q.1, false)
  | some p => if q.2 = true ∧ q.1.length + p.length ≤ 10000 then (q.1 ++ p, true) else (q.1, false)
/-- what becomes of a delta, from there on: 0 and a text, or an error -/
def fin (a : List UInt8) (q : List UInt8 × Bool) (d : List UInt8) : Nat × List UInt8 :=
  match ops d with
  | none => (1, [])
  | some L => if (L.foldl (stp a) q).2 then (0, (L.foldl (stp a) q).1) else (2, [])
theorem fin_nil (a : List UInt8) (q : List UInt8 × Bool) : fin a q [] = if q.2 then (0, q.1) else (2, []) := rfl
theorem fin_no (a : List UInt8) (q : List UInt8 × Bool) {d : List UInt8} (hd : d ≠ []) (h : cutO d = none) : fin a q d = (1, []) := by
  unfold fin
  rw [ops_no hd h]
theorem fin_cons (a : List UInt8) (q : List UInt8 × Bool) {d r : List UInt8} {o : Opq} (h : cutO d = some (o, r)) : fin a q d = fin a (stp a q o) r := by
  unfold fin
  rw [ops_cons h]
  cases ops r with
  | none => rfl
  | some L => rfl
/-- all that ops make -/
def prts (a : List UInt8) : List Opq → Option (List UInt8)
  | [] => some []
  | o :: L => match ofO a o, prts a L with
    | some p, some x => some (p ++ x)
    | _, _ => none
theorem fold_false (a : List UInt8) (L : List Opq) (x : List UInt8) : (L.foldl (stp a) (x, false)).2 = false := by
  induction L generalizing x with
  | nil => rfl
  | cons o L ih =>
    rw [List.foldl_cons]
    have : stp a (x, false) o = (x, false) := by
      unfold stp
      cases ofO a o with
      | none => rfl
      | some p => dsimp only; rw [if_neg (by simp)]
    rw [this]
    exact ih x
theorem fold_parts (a : List UInt8) (L : List Opq) (x : List UInt8) (hx : x.length ≤ 10000) : (∃ y, prts a L = some y ∧ x.length + y.length ≤ 10000 ∧ L.foldl (stp a) (x, true) = (x ++ y, true)) ∨ ((∀ y, prts a L = some y → 10000 < x.length + y.length) ∧ (L.foldl (stp a) (x, true)).2 = false) := by
  induction L generalizing x with
  | nil => exact .inl ⟨[], rfl, by simpa using hx, by simp⟩
  | cons o L ih =>
    rw [List.foldl_cons]
    cases ho : ofO a o with
    | none =>
      refine .inr ⟨fun y h => ?_, ?_⟩
      · unfold prts at h; rw [ho] at h; cases h
      · rw [show stp a (x, true) o = (x, false) by unfold stp; rw [ho]]
        exact fold_false a L x
    | some p =>
      by_cases hp : x.length + p.length ≤ 10000
      · rw [show stp a (x, true) o = (x ++ p, true) by unfold stp; rw [ho]; exact if_pos ⟨rfl, hp⟩]
        rcases ih (x ++ p) (by rw [List.length_append]; exact hp) with ⟨y, h1, h2, h3⟩ | ⟨h1, h2⟩
        · refine .inl ⟨p ++ y, ?_, ?_, ?_⟩
          · unfold prts; rw [ho, h1]
          · rw [List.length_append] at h2 ⊢; omega
          · rw [h3, List.append_assoc]
        · refine .inr ⟨fun y h => ?_, h2⟩
          unfold prts at h
          rw [ho] at h
          cases hr : prts a L with
          | none => rw [hr] at h; cases h
          | some z =>
            rw [hr] at h
            cases h
            have := h1 z hr
            rw [List.length_append] at this ⊢
            omega
      · rw [show stp a (x, true) o = (x, false) by unfold stp; rw [ho]; exact if_neg (fun q => hp q.2)]
        refine .inr ⟨fun y h => ?_, fold_false a L x⟩
        unfold prts at h
        rw [ho] at h
        cases hr : prts a L with
        | none => rw [hr] at h; cases h
        | some z => rw [hr] at h; cases h; rw [List.length_append]; omega
theorem prts_append (a : List UInt8) (L M : List Opq) {x y : List UInt8} (h1 : prts a L = some x) (h2 : prts a M = some y) : prts a (L ++ M) = some (x ++ y) := by
  induction L generalizing x with
  | nil => cases h1; exact h2
  | cons o L ih =>
    unfold prts at h1
    cases ho : ofO a o with
    | none => rw [ho] at h1; cases h1
    | some p =>
      rw [ho] at h1
      cases hr : prts a L with
      | none => rw [hr] at h1; cases h1
      | some z =>
        rw [hr] at h1
        cases h1
        show (match ofO a o, prts a (L ++ M) with | some p, some x => some (p ++ x) | _, _ => none) = _
        rw [ho, ih hr]
        dsimp only
        rw [List.append_assoc]
/-- what Apply answers -/
def apK (a d : List UInt8) : Nat × List UInt8 := fin a ([], true) d
theorem apK_ok {a d x : List UInt8} (h : apK a d = (0, x)) : ∃ L, ops d = some L ∧ prts a L = some x ∧ x.length ≤ 10000 := by
  unfold apK fin at h
  cases ho : ops d with
  | none => rw [ho] at h; cases h
  | some L =>
    rw [ho] at h
    dsimp only at h
    rcases fold_parts a L [] (by simp) with ⟨y, h1, h2, h3⟩ | ⟨_, h2⟩
    · rw [h3] at h
      cases h
      exact ⟨L, rfl, h1, by simpa using h2⟩
    · rw [h2] at h; cases h
theorem apK_of {a d x : List UInt8} {L : List Opq} (h : ops d = some L) (hp : prts a L = some x) : (x.length ≤ 10000 → apK a d = (0, x)) ∧ (10000 < x.length → apK a d = (2, [])) := by
  unfold apK fin
  rw [h]
  dsimp only
  rcases fold_parts a L [] (by simp) with ⟨y, h1, h2, h3⟩ | ⟨h1, h2⟩
  · rw [hp] at h1
    cases h1
    rw [h3]
    refine ⟨fun _ => rfl, fun q => ?_⟩
    simp at h2
    omega
  · have := h1 x hp
    rw [h2]
    refine ⟨fun q => ?_, fun _ => rfl⟩
    simp at this
    omega
theorem apK_err {a d x : List UInt8} {k : Nat} (h : apK a d = (k, x)) (hk : k ≠ 0) : x = [] ∧ (k = 1 ∨ k = 2) := by
  unfold apK fin at h
  cases ho : ops d with
  | none => rw [ho] at h; cases h; exact ⟨rfl, .inl rfl⟩
  | some L =>
    rw [ho] at h
    dsimp only at h
    split at h
    · cases h; exact absurd rfl hk
    · cases h; exact ⟨rfl, .inr rfl⟩
/-- deltas one behind the other make what they make, joined -/
theorem apK_join {a d e x y : List UInt8} (h1 : apK a d = (0, x)) (h2 : apK a e = (0, y)) : (x.length + y.length ≤ 10000 → apK a (d ++ e) = (0, x ++ y)) ∧ (10000 < x.length + y.length → apK a (d ++ e) = (2, [])) := by
  obtain ⟨L, q1, q2, q3⟩ := apK_ok h1
  obtain ⟨M, r1, r2, r3⟩ := apK_ok h2
  have := apK_of (ops_append d.length d (Nat.le_refl _) e L M q1 r1) (prts_append a L M q2 r2)
  rw [List.length_append] at this
  exact this
end Go.Proofs.YtcaeafgkogfgdaaDoor.Pk
