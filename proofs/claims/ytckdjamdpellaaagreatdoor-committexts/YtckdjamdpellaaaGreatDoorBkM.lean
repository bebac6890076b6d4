/- The texts of an event's lists in plain mathematics. -/
import Derived.Test.YtckdjamdpellaaaGreatDoorRuleM2
import Derived.Lib.SplitLaws
namespace Go.Proofs.YtckdjamdpellaaaGreatDoor
open Go Cal

open Classical in
/-- a day's text -/
noncomputable def dtx (n : Int) : List UInt8 := if h : ∃ t : List UInt8, ∃ y m d : Int, vld y m d ∧ num y m d = n ∧ t = txt y m d then h.choose else []
theorem dtx_ok {n : Int} (h0 : 0 ≤ n) (h1 : n ≤ 73048) : ∃ y m d : Int, vld y m d ∧ num y m d = n ∧ dtx n = txt y m d := by
  obtain ⟨y, m, d, hv, hn⟩ := exists_date n h0 h1
  have h : ∃ t : List UInt8, ∃ y m d : Int, vld y m d ∧ num y m d = n ∧ t = txt y m d := ⟨_, y, m, d, hv, hn, rfl⟩
  have hs := h.choose_spec
  unfold dtx
  rw [dif_pos h]
  exact hs
theorem dtx_cases (n : Int) : dtx n = [] ∨ ∃ y m d : Int, vld y m d ∧ num y m d = n ∧ dtx n = txt y m d := by
  by_cases h : ∃ t : List UInt8, ∃ y m d : Int, vld y m d ∧ num y m d = n ∧ t = txt y m d
  · have hs := h.choose_spec
    right
    unfold dtx
    rw [dif_pos h]
    exact hs
  · left; unfold dtx; rw [dif_neg h]
theorem dtx_len (n : Int) : (dtx n).length ≤ 10 := by
  rcases dtx_cases n with h | ⟨y, m, d, _, _, h⟩
  · rw [h]; simp
  · rw [h, txt_length]; exact Nat.le_refl _
theorem txt_most {y m d : Int} (h : vld y m d) : ∀ c ∈ txt y m d, c.toNat ≤ 57 := by
  obtain ⟨h1, h2, h3, h4, h5, h6⟩ := h
  have := (dim_bd y m).2
  intro c hc
  unfold txt four two at hc
  simp only [List.mem_append, List.mem_cons, List.not_mem_nil, or_false] at hc
  rcases hc with ((((rfl | rfl | rfl | rfl) | rfl) | rfl | rfl) | rfl) | rfl | rfl
  all_goals first
    | (rw [dgt_nat _ (by omega) (by omega)]; omega)
    | decide
    | skip
theorem dtx_signs (n : Int) : ∀ c ∈ dtx n, 45 ≤ c.toNat ∧ c.toNat ≤ 57 := by
  intro c hc
  rcases dtx_cases n with h | ⟨y, m, d, hv, _, h⟩
  · rw [h] at hc; simp at hc
  · rw [h] at hc; exact ⟨txt_signs hv c hc, txt_most hv c hc⟩
theorem dtx_no (n : Int) (c : UInt8) (hc : c.toNat < 45 ∨ 57 < c.toNat) : c ∉ dtx n := fun h => by have := dtx_signs n c h; omega

/-- a move's text -/
noncomputable def mtx (m : Int × Int) : List UInt8 := dtx m.1 ++ 62 :: dtx m.2
theorem mtx_len (m : Int × Int) : (mtx m).length ≤ 21 := by
  have := dtx_len m.1
  have := dtx_len m.2
  unfold mtx
  simp
  omega
theorem mtx_no (m : Int × Int) (c : UInt8) (hc : c.toNat < 45 ∨ 62 < c.toNat) : c ∉ mtx m := by
  unfold mtx
  intro h
  rcases List.mem_append.1 h with h | h
  · exact dtx_no _ c (by omega) h
  · rcases List.mem_cons.1 h with rfl | h
    · simp at hc
    · exact dtx_no _ c (by omega) h
theorem mtx_pieces (m : Int × Int) : pieces 62 (mtx m) = [dtx m.1, dtx m.2] := by
  unfold mtx
  rw [pieces_at 62 _ _ (dtx_no _ _ (by decide)), pieces_no 62 _ (dtx_no _ _ (by decide))]
theorem mtx_count (m : Int × Int) : (mtx m).count 62 = 1 := by
  unfold mtx
  rw [List.count_append, List.count_eq_zero.2 (dtx_no _ _ (by decide)), List.count_cons_self, List.count_eq_zero.2 (dtx_no _ _ (by decide))]
theorem index_at (c : UInt8) (t : List UInt8) : ∀ (a : List UInt8), c ∉ a → Lib.indexByte (a ++ c :: t) c = a.length
  | [], _ => by unfold Lib.indexByte; simp
  | x :: a, h => by
    have hx : (x == c) = false := by rw [beq_eq_false_iff_ne]; exact fun q => h (by simp [q])
    have ih := index_at c t a (fun q => h (List.mem_cons_of_mem _ q))
    rw [List.cons_append, Lib.indexByte, hx, ih]
    have : (((a.length : Nat) : Int) == -1) = false := by rw [beq_eq_false_iff_ne]; omega
    rw [this]
    simp
theorem mtx_index (m : Int × Int) : Lib.indexByte (mtx m) 62 = (dtx m.1).length := index_at 62 _ _ (dtx_no _ _ (by decide))

/-- a list's text is cut into its pieces' texts -/
theorem list_pieces {l : List (List UInt8)} (h : l ≠ []) (hn : ∀ x ∈ l, (44 : UInt8) ∉ x) : pieces 44 (Lib.join l [44]) = l := pieces_join 44 l h hn
theorem join_nil (sep : List UInt8) : Lib.join [] sep = [] := rfl
theorem join_ne {l : List (List UInt8)} (h : l ≠ []) (hn : ∀ x ∈ l, x ≠ []) : Lib.join l [44] ≠ [] := by
  match l, h with
  | [x], _ => 
    have := hn x (by simp)
    simpa [Lib.join] using this
  | x :: y :: r, _ => rw [join_cons2]; have := hn x (by simp); simp

/-- strings.Split's pieces at one sign -/
theorem splitB_one (c : UInt8) : ∀ (k : Nat) (s : ByteArray), Lib.countB s ⟨#[c]⟩ = k → (Lib.splitB ⟨#[c]⟩ 0 k s).map (·.data.toList) = pieces c s.data.toList := by
  intro k
  induction k with
  | zero =>
    intro s h
    have h' : s.data.toList.count c = 0 := by rw [← Lib.count_one]; exact h
    rw [Lib.splitB_zero, pieces_no c _ (List.count_eq_zero.1 h')]; rfl
  | succ k ih =>
    intro s h
    have h' : s.data.toList.count c = k + 1 := by rw [← Lib.count_one]; exact h
    have hm : c ∈ s.data.toList := List.count_pos_iff.1 (by omega)
    have hi : Lib.indexB s ⟨#[c]⟩ = Lib.indexByte s.data.toList c := Lib.index_one _ _
    obtain ⟨i, hi'⟩ : ∃ i : Nat, Lib.indexByte s.data.toList c = i := by
      have := Lib.indexByte_ge s.data.toList c
      by_cases q : Lib.indexByte s.data.toList c = -1
      · obtain ⟨j, hj, he⟩ := List.mem_iff_getElem.1 hm
        exact absurd (by rw [List.getElem?_eq_some_iff]; exact ⟨hj, he⟩) (Lib.indexByte_none q j)
      · exact ⟨(Lib.indexByte s.data.toList c).toNat, by omega⟩
    rw [Lib.splitB_hit _ _ _ _ i (hi.trans hi'), pieces_found hi', List.map_cons, Lib.extract_from_zero]
    have e2 : (s.extract (i + ByteArray.size ⟨#[c]⟩) s.size).data.toList = s.data.toList.drop (i + 1) := Lib.extract_to_end _ _
    refine List.cons_eq_cons.2 ⟨rfl, ?_⟩
    rw [ih _ ?_, e2]
    show Lib.count _ _ = k
    rw [show (ByteArray.data ⟨#[c]⟩).toList = [c] from rfl, Lib.count_one, e2]
    obtain ⟨h1, h2⟩ := Lib.indexByte_some hi'
    obtain ⟨hl, he⟩ := List.getElem?_eq_some_iff.1 h1
    have hz : (s.data.toList.take i).count c = 0 := List.count_eq_zero.2 (fun q => by
      obtain ⟨j, hj, he⟩ := List.mem_iff_getElem.1 q
      rw [List.length_take] at hj
      rw [List.getElem_take] at he
      exact h2 j (by omega) (by rw [List.getElem?_eq_some_iff]; exact ⟨by omega, he⟩))
    have hsum : s.data.toList.count c = (s.data.toList.take i).count c + ((s.data.toList.drop (i + 1)).count c + 1) := by
      conv => lhs; rw [← List.take_append_drop i s.data.toList, List.drop_eq_getElem_cons hl, he]
      rw [List.count_append, List.count_cons_self]
    omega
end Go.Proofs.YtckdjamdpellaaaGreatDoor
