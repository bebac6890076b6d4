/- The texts of an event's lists in plain mathematics. -/
import Derived.Test.YthhjhfibpfonnaaGreatDoorRuleM2
import Derived.Lib.SplitLaws
import Derived.Test.YthhjhfibpfonnaaGreatDoorJoinW
import Derived.Test.YthhjhfibpfonnaaGreatDoorSplit
import Derived.BigRegion
namespace Go.Proofs.YthhjhfibpfonnaaGreatDoor
open Go Cal

open Classical in
/-- a day's text -/
noncomputable def dtx (n : Int) : List UInt8 := if h : ∃ t : List UInt8, ∃ y m d : Int, vld y m d ∧ num y m d = n ∧ t = txt y m d then h.choose else []
theorem dtx_ok {n : Int} (h0 : 0 ≤ n) (h1 : n ≤ 73048) : ∃ y m d : Int, vld y m d ∧ num y m d = n ∧ dtx n = txt y m d := by
  obtain ⟨y, m, d, hv, hn⟩ := exists_date n h0 h1
  have h : ∃ t : List UInt8, ∃ y m d : Int, vld y m d ∧ num y m d = n ∧ t = txt y m d := ⟨_, y, m, d, hv, hn, rfl⟩
  have hs := h.choose_spec
  unfold dtx
  rw [dif_pos h]
  exact hs
theorem dtx_cases (n : Int) : dtx n = [] ∨ ∃ y m d : Int, vld y m d ∧ num y m d = n ∧ dtx n = txt y m d := by
  by_cases h : ∃ t : List UInt8, ∃ y m d : Int, vld y m d ∧ num y m d = n ∧ t = txt y m d
  · have hs := h.choose_spec
    right
    unfold dtx
    rw [dif_pos h]
    exact hs
  · left; unfold dtx; rw [dif_neg h]
theorem dtx_len (n : Int) : (dtx n).length ≤ 10 := by
  rcases dtx_cases n with h | ⟨y, m, d, _, _, h⟩
  · rw [h]; simp
  · rw [h, txt_length]; exact Nat.le_refl _
theorem txt_most {y m d : Int} (h : vld y m d) : ∀ c ∈ txt y m d, c.toNat ≤ 57 := by
  obtain ⟨h1, h2, h3, h4, h5, h6⟩ := h
  have := (dim_bd y m).2
  intro c hc
  unfold txt four two at hc
  simp only [List.mem_append, List.mem_cons, List.not_mem_nil, or_false] at hc
  rcases hc with ((((rfl | rfl | rfl | rfl) | rfl) | rfl | rfl) | rfl) | rfl | rfl
  all_goals first
    | (rw [dgt_nat _ (by omega) (by omega)]; omega)
    | decide
    | skip
theorem dtx_signs (n : Int) : ∀ c ∈ dtx n, 45 ≤ c.toNat ∧ c.toNat ≤ 57 := by
  intro c hc
  rcases dtx_cases n with h | ⟨y, m, d, hv, _, h⟩
  · rw [h] at hc; simp at hc
  · rw [h] at hc; exact ⟨txt_signs hv c hc, txt_most hv c hc⟩
theorem dtx_no (n : Int) (c : UInt8) (hc : c.toNat < 45 ∨ 57 < c.toNat) : c ∉ dtx n := fun h => by have := dtx_signs n c h; omega

/-- a move's text -/
noncomputable def mtx (m : Int × Int) : List UInt8 := dtx m.1 ++ 62 :: dtx m.2
theorem mtx_len (m : Int × Int) : (mtx m).length ≤ 21 := by
  have := dtx_len m.1
  have := dtx_len m.2
  unfold mtx
  simp
  omega
theorem mtx_no (m : Int × Int) (c : UInt8) (hc : c.toNat < 45 ∨ 62 < c.toNat) : c ∉ mtx m := by
  unfold mtx
  intro h
  rcases List.mem_append.1 h with h | h
  · exact dtx_no _ c (by omega) h
  · rcases List.mem_cons.1 h with rfl | h
    · simp at hc
    · exact dtx_no _ c (by omega) h
theorem mtx_pieces (m : Int × Int) : pieces 62 (mtx m) = [dtx m.1, dtx m.2] := by
  unfold mtx
  rw [pieces_at 62 _ _ (dtx_no _ _ (by decide)), pieces_no 62 _ (dtx_no _ _ (by decide))]
theorem mtx_count (m : Int × Int) : (mtx m).count 62 = 1 := by
  unfold mtx
  rw [List.count_append, List.count_eq_zero.2 (dtx_no _ _ (by decide)), List.count_cons_self, List.count_eq_zero.2 (dtx_no _ _ (by decide))]
theorem index_at (c : UInt8) (t : List UInt8) : ∀ (a : List UInt8), c ∉ a → Lib.indexByte (a ++ c :: t) c = a.length
  | [], _ => by unfold Lib.indexByte; simp
  | x :: a, h => by
    have hx : (x == c) = false := by rw [beq_eq_false_iff_ne]; exact fun q => h (by simp [q])
    have ih := index_at c t a (fun q => h (List.mem_cons_of_mem _ q))
    rw [List.cons_append, Lib.indexByte, hx, ih]
    have : (((a.length : Nat) : Int) == -1) = false := by rw [beq_eq_false_iff_ne]; omega
    rw [this]
    simp
theorem mtx_index (m : Int × Int) : Lib.indexByte (mtx m) 62 = (dtx m.1).length := index_at 62 _ _ (dtx_no _ _ (by decide))

/-- a list's text is cut into its pieces' texts -/
theorem list_pieces {l : List (List UInt8)} (h : l ≠ []) (hn : ∀ x ∈ l, (44 : UInt8) ∉ x) : pieces 44 (Lib.join l [44]) = l := pieces_join 44 l h hn
theorem join_nil (sep : List UInt8) : Lib.join [] sep = [] := rfl
theorem join_ne {l : List (List UInt8)} (h : l ≠ []) (hn : ∀ x ∈ l, x ≠ []) : Lib.join l [44] ≠ [] := by
  match l, h with
  | [x], _ => 
    have := hn x (by simp)
    simpa [Lib.join] using this
  | x :: y :: r, _ => rw [join_cons2]; have := hn x (by simp); simp

/-- strings.Split's pieces at one sign -/
theorem splitB_one (c : UInt8) : ∀ (k : Nat) (s : ByteArray), Lib.countB s ⟨#[c]⟩ = k → (Lib.splitB ⟨#[c]⟩ 0 k s).map (·.data.toList) = pieces c s.data.toList := by
  intro k
  induction k with
  | zero =>
    intro s h
    have h' : s.data.toList.count c = 0 := by rw [← Lib.count_one]; exact h
    rw [Lib.splitB_zero, pieces_no c _ (List.count_eq_zero.1 h')]; rfl
  | succ k ih =>
    intro s h
    have h' : s.data.toList.count c = k + 1 := by rw [← Lib.count_one]; exact h
    have hm : c ∈ s.data.toList := List.count_pos_iff.1 (by omega)
    have hi : Lib.indexB s ⟨#[c]⟩ = Lib.indexByte s.data.toList c := Lib.index_one _ _
    obtain ⟨i, hi'⟩ : ∃ i : Nat, Lib.indexByte s.data.toList c = i := by
      have := Lib.indexByte_ge s.data.toList c
      by_cases q : Lib.indexByte s.data.toList c = -1
      · obtain ⟨j, hj, he⟩ := List.mem_iff_getElem.1 hm
        exact absurd (by rw [List.getElem?_eq_some_iff]; exact ⟨hj, he⟩) (Lib.indexByte_none q j)
      · exact ⟨(Lib.indexByte s.data.toList c).toNat, by omega⟩
    rw [Lib.splitB_hit _ _ _ _ i (hi.trans hi'), pieces_found hi', List.map_cons, Lib.extract_from_zero]
    have e2 : (s.extract (i + ByteArray.size ⟨#[c]⟩) s.size).data.toList = s.data.toList.drop (i + 1) := Lib.extract_to_end _ _
    refine List.cons_eq_cons.2 ⟨rfl, ?_⟩
    rw [ih _ ?_, e2]
    show Lib.count _ _ = k
    rw [show (ByteArray.data ⟨#[c]⟩).toList = [c] from rfl, Lib.count_one, e2]
    obtain ⟨h1, h2⟩ := Lib.indexByte_some hi'
    obtain ⟨hl, he⟩ := List.getElem?_eq_some_iff.1 h1
    have hz : (s.data.toList.take i).count c = 0 := List.count_eq_zero.2 (fun q => by
      obtain ⟨j, hj, he⟩ := List.mem_iff_getElem.1 q
      rw [List.length_take] at hj
      rw [List.getElem_take] at he
      exact h2 j (by omega) (by rw [List.getElem?_eq_some_iff]; exact ⟨by omega, he⟩))
    have hsum : s.data.toList.count c = (s.data.toList.take i).count c + ((s.data.toList.drop (i + 1)).count c + 1) := by
      conv => lhs; rw [← List.take_append_drop i s.data.toList, List.drop_eq_getElem_cons hl, he]
      rw [List.count_append, List.count_cons_self]
    omega
end Go.Proofs.YthhjhfibpfonnaaGreatDoor

/- strings.Split, strings.Cut and package event's itemsOf, at one sign. -/
namespace Go.Proofs.YthhjhfibpfonnaaGreatDoor
open Go Go.RowKit Go.Shelf Cal
attribute [local go_sem] Oper.semAt_some

/-- the row of a text's pieces -/
def pcO (ws : List (List UInt8)) : Obj := .cells (ws.map sv).toArray 9
/-- words in memory -/
def Wds (W : World) (v : Value) (ws : List (List UInt8)) : Prop :=
  ∃ (a : Option Addr) (c : Nat), v = .slice a ws.length c ∧ ws.length ≤ c ∧ ∀ (j : Nat) (h : j < ws.length), ∃ b, a = some ⟨b, 0, none⟩ ∧ b < W.heap.size ∧ W.cell? ⟨b, j, none⟩ = some (sv ws[j])
theorem Wds.step {W W' : World} {v : Value} {ws : List (List UInt8)} (h : Wds W v ws) (hb : Below W.heap.size W W') : Wds W' v ws := by
  obtain ⟨a, c, h1, h2, h3⟩ := h
  refine ⟨a, c, h1, h2, fun j hj => ?_⟩
  obtain ⟨b, e, hl, hc⟩ := h3 j hj
  exact ⟨b, e, Nat.lt_of_lt_of_le hl hb.size, cell_step hc hb⟩
theorem Wds.nil (W : World) (c : Nat) : Wds W (.slice none 0 c) [] := ⟨none, c, rfl, by simp, fun j h => absurd h (by simp)⟩
theorem Wds.new (w : World) (ws : List (List UInt8)) : Wds (w.alloc (pcO ws)) (.slice (some ⟨w.heap.size, 0, none⟩) ws.length ws.length) ws := by
  refine ⟨_, _, rfl, Nat.le_refl _, fun j hj => ⟨w.heap.size, rfl, by rw [World.size_alloc]; exact Nat.lt_succ_self _, ?_⟩⟩
  unfold pcO
  rw [World.cell?_alloc_new]
  simp [List.getElem?_eq_getElem hj]

theorem genSplit_any (s : ByteArray) (c : UInt8) (w : World) (hs : s.size ≤ 1000000) :
    Calls Tryz.prog 47 #[.string s, .string ⟨#[c]⟩, .int .i64 0, .int .i64 (-1)] w fun r w' =>
      r = .returned (.slice (some ⟨w.heap.size, 0, none⟩) (pieces c s.data.toList).length (pieces c s.data.toList).length) ∧ w' = w.alloc (pcO (pieces c s.data.toList)) := by
  have h1 : 1 ≤ ByteArray.size ⟨#[c]⟩ := Nat.le_refl 1
  have hle := Lib.countB_le ⟨#[c]⟩ h1 s.size s (Nat.le_refl _)
  have hlen := Lib.splitB_all ⟨#[c]⟩ h1 0 _ s rfl
  have hp := splitB_one c _ s rfl
  have k := Any.strings_genSplit_core Tryz.lays221 (by kernel_rfl) s ⟨#[c]⟩ 0 (-1) (Lib.countB s ⟨#[c]⟩ + 1) w (by omega) h1 (Nat.zero_le _)
    (fun x cs _ => (Tryz.strings_Index_one x c _).mono (fun e w' h => ⟨by rw [h.1]; exact congrArg (fun n => Ending.returned (.int .i64 n)) (Lib.index_one x.data.toList c).symm, h.2⟩))
    ((Tryz.strings_Count_one s c w).mono (fun e w' h => ⟨by rw [h.1]; exact congrArg (fun n : Nat => Ending.returned (.int .i64 (n : Int))) (Lib.count_one c s.data.toList).symm, h.2⟩))
    (by decide) (by decide) (by rw [if_pos (by decide)]; omega)
  rw [Nat.add_sub_cancel, hlen] at k
  have e1 : (pieces c s.data.toList).length = Lib.countB s ⟨#[c]⟩ + 1 := by rw [← hp, List.length_map, hlen]
  have e2 : Lib.cellsOf (Lib.splitB ⟨#[c]⟩ 0 (Lib.countB s ⟨#[c]⟩) s) (Lib.countB s ⟨#[c]⟩ + 1) = ((pieces c s.data.toList).map sv).toArray := by
    rw [← hlen, Lib.cellsOf_full, ← hp, List.map_map]
    rfl
  rw [e2] at k
  unfold pcO
  rw [e1]
  exact k

theorem split_any (s : ByteArray) (c : UInt8) (w : World) (hs : s.size ≤ 1000000) :
    Calls Tryz.prog 21 #[.string s, .string ⟨#[c]⟩] w fun r w' =>
      r = .returned (.slice (some ⟨w.heap.size, 0, none⟩) (pieces c s.data.toList).length (pieces c s.data.toList).length) ∧ w' = w.alloc (pcO (pieces c s.data.toList)) := by
  have G : Hid (_) := genSplit_any s c w hs
  generalize pieces c s.data.toList = ws at G ⊢
  go_enter Tryz.func21, Tryz.ntmps21
  go_wp2_with (go_at_call 47; refine Calls.mono G.out ?_; rintro r w' ⟨rfl, rfl⟩)
  go_ret
  exact ⟨rfl, rfl⟩

/-- itemsOf of a list's text: its pieces -/
theorem itemsOf_any (ws : List (List UInt8)) (w : World) (hn : ∀ x ∈ ws, (44 : UInt8) ∉ x) (hx : ∀ x ∈ ws, x ≠ []) (hl : (Lib.join ws [44]).length ≤ 100000) :
    Calls Tryz.prog 72 #[.string (bs (Lib.join ws [44]))] w fun r w' => ∃ v, r = .returned v ∧ Wds w' v ws ∧ Below w.heap.size w w' := by
  by_cases h0 : ws = []
  · subst h0
    rw [join_nil]
    unfold bs
    go_enter Tryz.func72, Tryz.ntmps72
    go_wp2
    go_ret
    exact ⟨_, rfl, Wds.nil w 0, Below.refl _ _⟩
  · have hp := list_pieces h0 hn
    have hj := join_ne h0 hx
    have S := split_any (bs (Lib.join ws [44])) 44 w (by show (Lib.join ws [44]).toArray.size ≤ _; simp; omega)
    rw [show (bs (Lib.join ws [44])).data.toList = Lib.join ws [44] from rfl, hp] at S
    have hb : (bs (Lib.join ws [44])).toList.isEmpty = false := by
      rw [ByteArray.toList_eq, bs_data]
      cases h : Lib.join ws [44] with
      | nil => exact absurd h hj
      | cons _ _ => rfl
    generalize bs (Lib.join ws [44]) = sb at S hb
    have HS : Hid (_) := S
    clear S hp hj
    go_enter Tryz.func72, Tryz.ntmps72
    go_wp2_with (go_at_call 21; refine Calls.mono HS.out ?_; rintro r w' ⟨rfl, rfl⟩)
    go_ret
    exact ⟨_, rfl, Wds.new w ws, below_alloc _ _⟩

set_option maxHeartbeats 1000000 in
theorem slCut_any (m : Int × Int) (w : World) :
    Calls Tryz.prog 97 #[.string (bs (mtx m)), .string ⟨#[62]⟩] w fun r w' => r = .returned (.tuple #[.string (bs (dtx m.1)), .string (bs (dtx m.2)), .bool true]) ∧ Below w.heap.size w w' := by
  have hi := mtx_index m
  have hlen : (bs (mtx m)).size = (dtx m.1).length + (1 + (dtx m.2).length) := by show (mtx m).toArray.size = _; unfold mtx; simp; omega
  have hl1 := dtx_len m.1
  have e1 : (bs (mtx m)).extract 0 (dtx m.1).length = bs (dtx m.1) := ba_ext (by rw [Lib.extract_from_zero, bs_data, bs_data]; unfold mtx; simp)
  have e2 : (bs (mtx m)).extract ((dtx m.1).length + 1) (bs (mtx m)).size = bs (dtx m.2) := ba_ext (by rw [Lib.extract_to_end, bs_data, bs_data]; unfold mtx; simp)
  have I : Hid (∀ W, Calls Tryz.prog 89 #[.string (bs (mtx m)), .string ⟨#[62]⟩] W fun r w' => r = .returned (.int .i64 (dtx m.1).length) ∧ w' = W) := fun W => by
    have := Tryz.stringslite_Index_one (bs (mtx m)) 62 W
    rw [bs_data, hi] at this
    exact this
  generalize bs (mtx m) = s at hlen e1 e2 I ⊢
  generalize bs (dtx m.1) = s1 at e1 ⊢
  generalize bs (dtx m.2) = s2 at e2 ⊢
  generalize (dtx m.1).length = i at hlen hl1 e1 e2 I
  generalize (dtx m.2).length = j at hlen
  have c1 : (0 : Int) ≤ (i : Int) := by omega
  have c2 : (i : Int) ≤ (s.size : Int) := by omega
  have c3 : (0 : Int) ≤ (i : Int) + 1 := by omega
  have c4 : (i : Int) + 1 ≤ (s.size : Int) := by omega
  have E1 : Hid (_) := e1
  have E2 : Hid (_) := e2
  clear e1 e2 hi hlen
  go_enter Tryz.func97, Tryz.ntmps97
  go_wp2_with (go_at_call 89; refine Calls.mono (I.out _) ?_; rintro r w' ⟨rfl, rfl⟩)
  go_region
  go_wp2
  go_ret3
  refine ⟨?_, drew_below _⟩
  simp
  exact ⟨E1.out, E2.out⟩
theorem cut_any (m : Int × Int) (w : World) :
    Calls Tryz.prog 79 #[.string (bs (mtx m)), .string ⟨#[62]⟩] w fun r w' => r = .returned (.tuple #[.string (bs (dtx m.1)), .string (bs (dtx m.2)), .bool true]) ∧ Below w.heap.size w w' := by
  have C : Hid (_) := slCut_any m w
  generalize bs (mtx m) = s at C ⊢
  generalize bs (dtx m.1) = s1 at C ⊢
  generalize bs (dtx m.2) = s2 at C ⊢
  go_enter Tryz.func79, Tryz.ntmps79
  go_wp2_with (go_at_call 97; refine Calls.mono C.out ?_; rintro r w' ⟨rfl, hb⟩)
  go_ret3
  exact ⟨rfl, hb⟩
end Go.Proofs.YthhjhfibpfonnaaGreatDoor
