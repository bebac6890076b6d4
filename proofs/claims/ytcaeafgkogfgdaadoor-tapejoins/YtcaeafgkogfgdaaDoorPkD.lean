/- What Delta makes, in plain mathematics: pieces that are alike, ops, their texts; applied they make the other text. -/
import Derived.Test.YtcaeafgkogfgdaaDoorPkM
import Derived.Test.YtcaeafgkogfgdaaDoorRuleM
import Derived.Lib.AtoiTie
namespace Go.Proofs.YtcaeafgkogfgdaaDoor.Pk
open Go Cal

theorem dec_headP : ∀ (n u : Nat), u ≤ n → (Lib.decDigits u)[0]? = some 48 → u = 0
  | n, u, hn, h => by
    by_cases hu : u < 10
    · rw [Lib.decDigits_one hu] at h
      have h2 : UInt8.ofNat (48 + u) = 48 := by simpa using h
      have h3 := congrArg UInt8.toNat h2
      simp at h3
      omega
    · cases n with
      | zero => omega
      | succ n =>
        rw [Lib.decDigits, dif_neg hu] at h
        have hp : 0 < (Lib.decDigits (u / 10)).length := by rw [Lib.decDigits_length]; exact Lib.nDigits_pos _
        rw [List.getElem?_append_left hp] at h
        have := dec_headP n (u / 10) (by omega) h
        omega
theorem itoa_zero (n : Int) (h : 0 ≤ n) (hz : (Lib.itoa n)[0]? = some 48) : Lib.itoa n = [48] := by
  obtain ⟨u, rfl⟩ : ∃ u : Nat, n = u := ⟨n.toNat, by omega⟩
  rw [Lib.itoa_nonneg] at hz ⊢
  have := dec_headP u u (Nat.le_refl _) hz
  subst this
  rw [Lib.decDigits_one (by omega)]
  rfl
theorem numA_itoa (n : Int) (h0 : 0 ≤ n) (h1 : n ≤ 999999) : numA (Lib.itoa n) = some n := by
  have hl := itoa_len n h0 h1
  have hne := itoa_ne n h0
  have ha : Lib.atoiAll (Lib.itoa n) = .ok n := by
    rw [Lib.atoiAll_short _ (by omega), itoa_atoi n h0]
    rfl
  unfold numA
  rw [if_neg, if_pos, ha]
  · rw [List.all_eq_true]
    intro c hc
    have := itoa_digs n h0 c hc
    unfold dg
    rw [Bool.and_eq_true, decide_eq_true_eq, decide_eq_true_eq]
    omega
  · rintro (q | ⟨q1, q2⟩)
    · exact hne q
    · exact q2 (itoa_zero n h0 q1)

/-- bytes of its own as an op -/
noncomputable def ownT (s : List UInt8) : List UInt8 := 105 :: (Lib.itoa s.length ++ 58 :: (s ++ [59]))
/-- an op as text -/
noncomputable def opT (o : Opq) : List UInt8 := if o.1 ≠ [] then ownT o.1 else 99 :: (Lib.itoa o.2.1 ++ 44 :: (Lib.itoa o.2.2 ++ [59]))
/-- an op that can be written -/
def OpOk (o : Opq) : Prop := (o.1 ≠ [] ∧ o.1.length ≤ 999999 ∧ o.2 = (0, 0)) ∨ (o.1 = [] ∧ 0 ≤ o.2.1 ∧ o.2.1 ≤ 999999 ∧ 0 < o.2.2 ∧ o.2.2 ≤ 999999)
theorem no_sign (n : Int) (h : 0 ≤ n) (c : UInt8) (hc : ¬ (48 ≤ c.toNat ∧ c.toNat ≤ 57)) : c ∉ Lib.itoa n := fun q => by
  have := itoa_digs n h c q
  omega
theorem cutS_text (en : UInt8) (s r : List UInt8) (hs : s.length ≤ 999999) : cutS en (Lib.itoa s.length ++ 58 :: (s ++ en :: r)) = some (s, r) := by
  unfold cutS
  rw [ct_mk 58 _ _ (no_sign _ (by omega) 58 (by decide))]
  dsimp only
  rw [numA_itoa _ (by omega) (by omega)]
  dsimp only
  rw [if_neg (by rw [List.length_append]; omega), Int.toNat_natCast, if_pos (by rw [List.getElem?_append_right (Nat.le_refl _), Nat.sub_self]; rfl), List.take_left, ← List.drop_drop, List.drop_left]
  rfl
theorem cutO_text (o : Opq) (r : List UInt8) (h : OpOk o) : cutO (opT o ++ r) = some (o, r) := by
  unfold opT
  rcases h with ⟨h1, h2, h3⟩ | ⟨h1, h2, h3, h4, h5⟩
  · rw [if_pos h1]
    unfold ownT
    rw [List.cons_append, List.append_assoc, List.cons_append, List.append_assoc, cutO_c, if_neg (by decide), if_pos rfl, show [59] ++ r = 59 :: r from rfl]
    unfold cutI
    rw [cutS_text 59 _ _ h2]
    dsimp only
    rw [if_neg h1]
    obtain ⟨a, b, c⟩ := o
    cases h3
    rfl
  · rw [if_neg (fun q => q h1)]
    rw [List.cons_append, List.append_assoc, List.cons_append, List.append_assoc, cutO_c, if_pos rfl]
    unfold cutC
    rw [ct_mk 44 _ _ (no_sign _ h2 44 (by decide))]
    dsimp only
    rw [show [59] ++ r = 59 :: r from rfl, ct_mk 59 _ _ (no_sign _ (by omega) 59 (by decide))]
    dsimp only
    rw [numA_itoa _ h2 h3, numA_itoa _ (by omega) h5]
    dsimp only
    rw [if_pos h4]
    obtain ⟨a, b, c⟩ := o
    dsimp only at h1
    rw [h1]
theorem ops_text (L : List Opq) (h : ∀ o ∈ L, OpOk o) : ops (L.flatMap opT) = some L := by
  induction L with
  | nil => rfl
  | cons o L ih =>
    rw [List.flatMap_cons, ops_cons (cutO_text o _ (h o List.mem_cons_self)), ih (fun x hx => h x (List.mem_cons_of_mem _ hx))]
    rfl

/-- how many bytes at the start are the same -/
def sst : List UInt8 → List UInt8 → Nat
  | x :: a, y :: b => if x = y then sst a b + 1 else 0
  | _, _ => 0
theorem sst_len (a b : List UInt8) : sst a b ≤ a.length ∧ sst a b ≤ b.length := by
  induction a generalizing b with
  | nil => simp [sst]
  | cons x a ih =>
    cases b with
    | nil => simp [sst]
    | cons y b =>
      unfold sst
      split
      · have := ih b; simp only [List.length_cons]; omega
      · simp
theorem sst_take (a b : List UInt8) : a.take (sst a b) = b.take (sst a b) := by
  induction a generalizing b with
  | nil => simp [sst]
  | cons x a ih =>
    cases b with
    | nil => simp [sst]
    | cons y b =>
      unfold sst
      split
      · rename_i h; rw [List.take_succ_cons, List.take_succ_cons, ih b, h]
      · rfl
theorem sst_is {a b : List UInt8} {n : Nat} (h : ∀ j, j < n → a[j]? = b[j]? ∧ j < a.length) (hs : a.length ≤ n ∨ b.length ≤ n ∨ a[n]? ≠ b[n]?) (hn : n ≤ a.length ∧ n ≤ b.length) : sst a b = n := by
  induction a generalizing b n with
  | nil =>
    have : n = 0 := by have := hn.1; simpa using this
    subst this
    simp [sst]
  | cons x a ih =>
    cases b with
    | nil =>
      have : n = 0 := by have := hn.2; simpa using this
      subst this
      simp [sst]
    | cons y b =>
      cases n with
      | zero =>
        unfold sst
        rw [if_neg]
        intro e
        rcases hs with q | q | q
        · simp at q
        · simp at q
        · exact q (by simp [e])
      | succ n =>
        have h0 := (h 0 (by omega)).1
        simp at h0
        unfold sst
        rw [if_pos h0, ih (b := b) (n := n) (fun j hj => by have := h (j + 1) (by omega); simpa using this) (by simpa using hs) (by simpa using hn)]
/-- how many bytes at the end are the same -/
def sen (a b : List UInt8) : Nat := sst a.reverse b.reverse
theorem sen_len (a b : List UInt8) : sen a b ≤ a.length ∧ sen a b ≤ b.length := by
  have := sst_len a.reverse b.reverse
  rw [List.length_reverse, List.length_reverse] at this
  exact this
theorem sen_drop (a b : List UInt8) : a.drop (a.length - sen a b) = b.drop (b.length - sen a b) := by
  have h := congrArg List.reverse (sst_take a.reverse b.reverse)
  rw [List.reverse_take, List.reverse_take, List.reverse_reverse, List.reverse_reverse, List.length_reverse, List.length_reverse] at h
  exact h

/-- eight bytes from there on -/
def bk (a : List UInt8) (i : Nat) : List UInt8 := (a.drop i).take 8
/-- where a block stands, of those at every eighth byte: the first eight -/
def plc (a k : List UInt8) : List Nat := (((List.range (a.length / 8)).filter fun j => bk a (8 * j) == k).map (8 * ·)).take 8
theorem plc_at {a k : List UInt8} {i : Nat} (h : i ∈ plc a k) : i + 8 ≤ a.length ∧ bk a i = k := by
  unfold plc at h
  obtain ⟨j, hj, rfl⟩ := List.mem_map.1 (List.mem_of_mem_take h)
  obtain ⟨h1, h2⟩ := List.mem_filter.1 hj
  have := List.mem_range.1 h1
  exact ⟨by omega, by simpa using h2⟩
/-- a piece: where it begins in the other text, in this one, how many bytes -/
abbrev Pc := Nat × Nat × Nat
def lstep (a b : List UInt8) (made i : Nat) (m : Pc) (at_ : Nat) : Pc :=
  if m.2.2 < sen ((b.take i).drop made) (a.take at_) + sst (b.drop i) (a.drop at_) then
    (i - sen ((b.take i).drop made) (a.take at_), at_ - sen ((b.take i).drop made) (a.take at_), sen ((b.take i).drop made) (a.take at_) + sst (b.drop i) (a.drop at_))
  else m
/-- the longest piece -/
def lng (a b : List UInt8) (made i : Nat) : Pc := (plc a (bk b i)).foldl (lstep a b made i) (0, 0, 0)
/-- a piece that is one -/
def PcOk (a b : List UInt8) (made i : Nat) (p : Pc) : Prop :=
  p = (0, 0, 0) ∨ (made ≤ p.1 ∧ p.1 ≤ i ∧ i + 8 ≤ p.1 + p.2.2 ∧ p.1 + p.2.2 ≤ b.length ∧ p.2.1 + p.2.2 ≤ a.length ∧ (b.drop p.1).take p.2.2 = (a.drop p.2.1).take p.2.2)
theorem take8_sst {a b : List UInt8} {i j : Nat} (hi : i + 8 ≤ b.length) (hj : j + 8 ≤ a.length) (h : bk a j = bk b i) : 8 ≤ sst (b.drop i) (a.drop j) := by
  apply Classical.byContradiction
  intro hc
  have hlt : sst (b.drop i) (a.drop j) < 8 := by omega
  have key : sst (b.drop i) (a.drop j) = 8 ∨ 8 < sst (b.drop i) (a.drop j) ∨ True := .inr (.inr trivial)
  clear key
  have h2 : ∀ x y : List UInt8, 8 ≤ x.length → 8 ≤ y.length → x.take 8 = y.take 8 → 8 ≤ sst x y := by
    have gen : ∀ (n : Nat) (x y : List UInt8), n ≤ x.length → n ≤ y.length → x.take n = y.take n → n ≤ sst x y := by
      intro n
      induction n with
      | zero => intros; omega
      | succ n ih =>
        intro x y hx hy he
        cases x with
        | nil => simp at hx
        | cons p x =>
          cases y with
          | nil => simp at hy
          | cons q y =>
            rw [List.take_succ_cons, List.take_succ_cons] at he
            have e1 := (List.cons.inj he).1
            have e2 := (List.cons.inj he).2
            unfold sst
            rw [if_pos e1]
            have := ih x y (by simpa using hx) (by simpa using hy) e2
            omega
    exact gen 8
  have := h2 (b.drop i) (a.drop j) (by rw [List.length_drop]; omega) (by rw [List.length_drop]; omega) h.symm
  omega
theorem lstep_ok {a b : List UInt8} {made i : Nat} {m : Pc} {at_ : Nat} (hm : made ≤ i) (hi : i + 8 ≤ b.length) (ha : at_ + 8 ≤ a.length) (hk : bk a at_ = bk b i) (h : PcOk a b made i m) : PcOk a b made i (lstep a b made i m at_) := by
  unfold lstep
  split
  · right
    have s1 := sen_len ((b.take i).drop made) (a.take at_)
    have s2 := sst_len (b.drop i) (a.drop at_)
    have s3 := take8_sst hi ha hk
    have t1 := sen_drop ((b.take i).drop made) (a.take at_)
    have t2 := sst_take (b.drop i) (a.drop at_)
    generalize sen ((b.take i).drop made) (a.take at_) = x at s1 t1 ⊢
    generalize sst (b.drop i) (a.drop at_) = y at s2 s3 t2 ⊢
    simp only [List.length_drop, List.length_take] at s1 s2 t1
    dsimp only
    refine ⟨by omega, by omega, by omega, by omega, by omega, ?_⟩
    have hx1 : x ≤ i - made := by omega
    have hx2 : x ≤ at_ := by omega
    have r1 : (b.drop (i - x)).take (x + y) = (b.take i).drop (i - x) ++ (b.drop i).take y := by
      rw [List.take_add, List.drop_drop, show i - x + x = i by omega, List.drop_take, show i - (i - x) = x by omega]
    have r2 : (a.drop (at_ - x)).take (x + y) = (a.take at_).drop (at_ - x) ++ (a.drop at_).take y := by
      rw [List.take_add, List.drop_drop, show at_ - x + x = at_ by omega, List.drop_take, show at_ - (at_ - x) = x by omega]
    rw [r1, r2, t2]
    congr 1
    rw [List.drop_drop] at t1
    rw [show made + (min i b.length - made - x) = i - x by omega, show min at_ a.length - x = at_ - x by omega] at t1
    exact t1
  · exact h
theorem fold_ok {a b : List UInt8} {made i : Nat} (hm : made ≤ i) (hi : i + 8 ≤ b.length) (l : List Nat) (hl : ∀ x ∈ l, x + 8 ≤ a.length ∧ bk a x = bk b i) (m : Pc) (h : PcOk a b made i m) : PcOk a b made i (l.foldl (lstep a b made i) m) := by
  induction l generalizing m with
  | nil => exact h
  | cons x l ih =>
    rw [List.foldl_cons]
    exact ih (fun y hy => hl y (List.mem_cons_of_mem _ hy)) _ (lstep_ok hm hi (hl x List.mem_cons_self).1 (hl x List.mem_cons_self).2 h)
theorem lng_ok (a b : List UInt8) (made i : Nat) (hm : made ≤ i) (hi : i + 8 ≤ b.length) : PcOk a b made i (lng a b made i) := fold_ok hm hi _ (fun _ hx => plc_at hx) _ (.inl rfl)

/-- is it worth to be copied? -/
noncomputable def wth (made : Nat) (p : Pc) : Bool := p.2.2 != 0 && decide ((opT ([], (p.2.1 : Int), (p.2.2 : Int))).length + (if made < p.1 then 5 else 0) < p.2.2)
/-- the ops that make the other text, from there on -/
noncomputable def opL (a b : List UInt8) : Nat → Nat → Nat → List Opq
  | 0, made, _ => if made < b.length then [(b.drop made, 0, 0)] else []
  | f + 1, made, i =>
    if i + 8 ≤ b.length then
      if wth made (lng a b made i) then
        (if made < (lng a b made i).1 then [((b.take (lng a b made i).1).drop made, 0, 0)] else []) ++ ([], ((lng a b made i).2.1 : Int), ((lng a b made i).2.2 : Int)) :: opL a b f ((lng a b made i).1 + (lng a b made i).2.2) ((lng a b made i).1 + (lng a b made i).2.2)
      else opL a b f made (i + 1)
    else if made < b.length then [(b.drop made, 0, 0)] else []
theorem opL_ok (a b : List UInt8) (ha : a.length ≤ 999999) (hb : b.length ≤ 999999) (f made i : Nat) (hm : made ≤ i) (hi : made ≤ b.length) : (∀ o ∈ opL a b f made i, OpOk o) ∧ prts a (opL a b f made i) = some (b.drop made) := by
  have last : ∀ made, made ≤ b.length → (∀ o ∈ (if made < b.length then [((b.drop made, 0, 0) : Opq)] else []), OpOk o) ∧ prts a (if made < b.length then [((b.drop made, 0, 0) : Opq)] else []) = some (b.drop made) := by
    intro made hi
    by_cases h : made < b.length
    · rw [if_pos h]
      have hne : b.drop made ≠ [] := fun q => by have := congrArg List.length q; rw [List.length_drop] at this; simp at this; omega
      refine ⟨fun o ho => ?_, ?_⟩
      · rw [List.mem_singleton] at ho
        subst ho
        exact .inl ⟨hne, by rw [List.length_drop]; omega, rfl⟩
      · simp only [prts, ofO]
        rw [if_pos hne]
        simp
    · rw [if_neg h]
      refine ⟨fun o ho => (by cases ho), ?_⟩
      rw [List.drop_eq_nil_of_le (by omega)]
      rfl
  induction f generalizing made i with
  | zero => exact last made hi
  | succ f ih =>
    unfold opL
    by_cases h1 : i + 8 ≤ b.length
    · rw [if_pos h1]
      by_cases h2 : wth made (lng a b made i) = true
      · rw [if_pos h2]
        have hp := lng_ok a b made i hm h1
        generalize lng a b made i = p at h2 hp
        rcases hp with rfl | ⟨q1, q2, q3, q4, q5, q6⟩
        · exact absurd h2 (by simp [wth])
        · obtain ⟨k1, k2⟩ := ih (p.1 + p.2.2) (p.1 + p.2.2) (Nat.le_refl _) q4
          have own : ofO a ([], (p.2.1 : Int), (p.2.2 : Int)) = some ((b.drop p.1).take p.2.2) := by
            unfold ofO
            rw [if_neg (fun q => q rfl), if_neg (by dsimp only; omega)]
            dsimp only
            rw [Int.toNat_natCast, Int.toNat_natCast, q6]
          have tail : prts a (([], (p.2.1 : Int), (p.2.2 : Int)) :: opL a b f (p.1 + p.2.2) (p.1 + p.2.2)) = some (b.drop p.1) := by
            unfold prts
            rw [own, k2]
            dsimp only
            rw [← List.drop_drop, List.take_append_drop]
          have okc : OpOk ([], (p.2.1 : Int), (p.2.2 : Int)) := .inr ⟨rfl, by dsimp only; omega, by dsimp only; omega, by dsimp only; omega, by dsimp only; omega⟩
          by_cases h3 : made < p.1
          · rw [if_pos h3]
            have hne : (b.take p.1).drop made ≠ [] := fun q => by have := congrArg List.length q; rw [List.length_drop, List.length_take] at this; simp at this; omega
            refine ⟨fun o ho => ?_, ?_⟩
            · rcases List.mem_append.1 ho with q | q
              · rw [List.mem_singleton] at q
                subst q
                exact .inl ⟨hne, by rw [List.length_drop, List.length_take]; omega, rfl⟩
              · rcases List.mem_cons.1 q with rfl | q
                · exact okc
                · exact k1 o q
            · have := prts_append a [((b.take p.1).drop made, 0, 0)] _ (x := (b.take p.1).drop made) (by simp only [prts, ofO]; rw [if_pos hne]; simp) tail
              rw [this]
              congr 1
              conv => rhs; rw [← List.take_append_drop p.1 b]
              rw [List.drop_append_of_le_length (by rw [List.length_take]; omega)]
          · rw [if_neg h3, List.nil_append]
            have e : p.1 = made := by omega
            refine ⟨fun o ho => ?_, by rw [tail, e]⟩
            rcases List.mem_cons.1 ho with rfl | q
            · exact okc
            · exact k1 o q
      · rw [if_neg h2]
        exact ih made (i + 1) (by omega) hi
    · rw [if_neg h1]
      exact last made hi
/-- what Delta makes -/
noncomputable def dlT (a b : List UInt8) : List UInt8 := (opL a b (b.length + 1) 0 0).flatMap opT
noncomputable def dl (a b : List UInt8) : List UInt8 := if (ownT b).length < (dlT a b).length then ownT b else dlT a b
theorem dl_apply (a b : List UInt8) (ha : a.length ≤ 10000) (hb : b.length ≤ 10000) : apK a (dl a b) = (0, b) ∧ (dl a b).length ≤ (if b = [] then 0 else (ownT b).length) := by
  obtain ⟨h1, h2⟩ := opL_ok a b (by omega) (by omega) (b.length + 1) 0 0 (Nat.le_refl _) (Nat.zero_le _)
  rw [List.drop_zero] at h2
  have h3 := ops_text _ h1
  unfold dl
  by_cases hn : b = []
  · subst hn
    have : dlT a [] = [] := rfl
    rw [this, if_neg (by simp)]
    exact ⟨rfl, by simp⟩
  · rw [if_neg hn]
    split
    · rename_i hl
      refine ⟨?_, Nat.le_refl _⟩
      have e : ownT b = [((b, 0, 0) : Opq)].flatMap opT := by
        simp only [List.flatMap_cons, List.flatMap_nil, List.append_nil]
        unfold opT
        rw [if_pos hn]
      rw [e]
      refine (apK_of (x := b) (ops_text [(b, 0, 0)] (fun o ho => ?_)) ?_).1 hb
      · rw [List.mem_singleton] at ho
        subst ho
        exact .inl ⟨hn, by dsimp only; omega, rfl⟩
      · simp only [prts, ofO]; rw [if_pos hn]; simp
    · exact ⟨(apK_of h3 h2).1 hb, by unfold dlT at *; omega⟩
end Go.Proofs.YtcaeafgkogfgdaaDoor.Pk
