/- The texts of an event's lists in plain mathematics. -/
import Derived.Test.YtpdcjnkgkpbdgaaGreatDoorQaN
import Derived.Lib.SplitLaws
import Derived.Test.YtpdcjnkgkpbdgaaGreatDoorQaB
import Derived.Test.YtpdcjnkgkpbdgaaGreatDoorQaO
import Derived.Lib.QuietBelow
namespace Go.Proofs.YtpdcjnkgkpbdgaaGreatDoor
open Go Cal

open Classical in
/-- a day's text -/
noncomputable def dtx (n : Int) : List UInt8 := if h : ∃ t : List UInt8, ∃ y m d : Int, vld y m d ∧ num y m d = n ∧ t = txt y m d then h.choose else []
theorem dtx_ok {n : Int} (h0 : 0 ≤ n) (h1 : n ≤ 73048) : ∃ y m d : Int, vld y m d ∧ num y m d = n ∧ dtx n = txt y m d := by
  obtain ⟨y, m, d, hv, hn⟩ := exists_date n h0 h1
  have h : ∃ t : List UInt8, ∃ y m d : Int, vld y m d ∧ num y m d = n ∧ t = txt y m d := ⟨_, y, m, d, hv, hn, rfl⟩
  have hs := h.choose_spec
  unfold dtx
  rw [dif_pos h]
  exact hs
theorem dtx_cases (n : Int) : dtx n = [] ∨ ∃ y m d : Int, vld y m d ∧ num y m d = n ∧ dtx n = txt y m d := by
  by_cases h : ∃ t : List UInt8, ∃ y m d : Int, vld y m d ∧ num y m d = n ∧ t = txt y m d
  · have hs := h.choose_spec
    right
    unfold dtx
    rw [dif_pos h]
    exact hs
  · left; unfold dtx; rw [dif_neg h]
theorem dtx_len (n : Int) : (dtx n).length ≤ 10 := by
  rcases dtx_cases n with h | ⟨y, m, d, _, _, h⟩
  · rw [h]; simp
  · rw [h, txt_length]; exact Nat.le_refl _
theorem txt_most {y m d : Int} (h : vld y m d) : ∀ c ∈ txt y m d, c.toNat ≤ 57 := by
  obtain ⟨h1, h2, h3, h4, h5, h6⟩ := h
  have := (dim_bd y m).2
  intro c hc
  unfold txt four two at hc
  simp only [List.mem_append, List.mem_cons, List.not_mem_nil, or_false] at hc
  rcases hc with ((((rfl | rfl | rfl | rfl) | rfl) | rfl | rfl) | rfl) | rfl | rfl
  all_goals first
    | (rw [dgt_nat _ (by omega) (by omega)]; omega)
    | decide
    | skip
theorem dtx_signs (n : Int) : ∀ c ∈ dtx n, 45 ≤ c.toNat ∧ c.toNat ≤ 57 := by
  intro c hc
  rcases dtx_cases n with h | ⟨y, m, d, hv, _, h⟩
  · rw [h] at hc; simp at hc
  · rw [h] at hc; exact ⟨txt_signs hv c hc, txt_most hv c hc⟩
theorem dtx_no (n : Int) (c : UInt8) (hc : c.toNat < 45 ∨ 57 < c.toNat) : c ∉ dtx n := fun h => by have := dtx_signs n c h; omega

/-- a move's text -/
noncomputable def mtx (m : Int × Int) : List UInt8 := dtx m.1 ++ 62 :: dtx m.2
theorem mtx_len (m : Int × Int) : (mtx m).length ≤ 21 := by
  have := dtx_len m.1
  have := dtx_len m.2
  unfold mtx
  simp
  omega
theorem mtx_no (m : Int × Int) (c : UInt8) (hc : c.toNat < 45 ∨ 62 < c.toNat) : c ∉ mtx m := by
  unfold mtx
  intro h
  rcases List.mem_append.1 h with h | h
  · exact dtx_no _ c (by omega) h
  · rcases List.mem_cons.1 h with rfl | h
    · simp at hc
    · exact dtx_no _ c (by omega) h
theorem mtx_count (m : Int × Int) : (mtx m).count 62 = 1 := by
  unfold mtx
  rw [List.count_append, List.count_eq_zero.2 (dtx_no _ _ (by decide)), List.count_cons_self, List.count_eq_zero.2 (dtx_no _ _ (by decide))]
theorem index_at (c : UInt8) (t : List UInt8) : ∀ (a : List UInt8), c ∉ a → Lib.indexByte (a ++ c :: t) c = a.length
  | [], _ => by unfold Lib.indexByte; simp
  | x :: a, h => by
    have hx : (x == c) = false := by rw [beq_eq_false_iff_ne]; exact fun q => h (by simp [q])
    have ih := index_at c t a (fun q => h (List.mem_cons_of_mem _ q))
    rw [List.cons_append, Lib.indexByte, hx, ih]
    have : (((a.length : Nat) : Int) == -1) = false := by rw [beq_eq_false_iff_ne]; omega
    rw [this]
    simp
theorem mtx_index (m : Int × Int) : Lib.indexByte (mtx m) 62 = (dtx m.1).length := index_at 62 _ _ (dtx_no _ _ (by decide))

/-- a list's text is cut into its pieces' texts -/
theorem list_pieces {l : List (List UInt8)} (h : l ≠ []) (hn : ∀ x ∈ l, (44 : UInt8) ∉ x) : pieces 44 (Lib.join l [44]) = l := pieces_join 44 l h hn
theorem join_nil (sep : List UInt8) : Lib.join [] sep = [] := rfl
theorem join_ne {l : List (List UInt8)} (h : l ≠ []) (hn : ∀ x ∈ l, x ≠ []) : Lib.join l [44] ≠ [] := by
  match l, h with
  | [x], _ => 
    have := hn x (by simp)
    simpa [Lib.join] using this
  | x :: y :: r, _ => rw [join_cons2]; have := hn x (by simp); simp

/-- strings.Split's pieces at one sign -/
theorem splitB_one (c : UInt8) : ∀ (k : Nat) (s : ByteArray), Lib.countB s ⟨#[c]⟩ = k → (Lib.splitB ⟨#[c]⟩ 0 k s).map (·.data.toList) = pieces c s.data.toList := by
  intro k
  induction k with
  | zero =>
    intro s h
    have h' : s.data.toList.count c = 0 := by rw [← Lib.count_one]; exact h
    rw [Lib.splitB_zero, pieces_no c _ (List.count_eq_zero.1 h')]; rfl
  | succ k ih =>
    intro s h
    have h' : s.data.toList.count c = k + 1 := by rw [← Lib.count_one]; exact h
    have hm : c ∈ s.data.toList := List.count_pos_iff.1 (by omega)
    have hi : Lib.indexB s ⟨#[c]⟩ = Lib.indexByte s.data.toList c := Lib.index_one _ _
    obtain ⟨i, hi'⟩ : ∃ i : Nat, Lib.indexByte s.data.toList c = i := by
      have := Lib.indexByte_ge s.data.toList c
      by_cases q : Lib.indexByte s.data.toList c = -1
      · obtain ⟨j, hj, he⟩ := List.mem_iff_getElem.1 hm
        exact absurd (by rw [List.getElem?_eq_some_iff]; exact ⟨hj, he⟩) (Lib.indexByte_none q j)
      · exact ⟨(Lib.indexByte s.data.toList c).toNat, by omega⟩
    rw [Lib.splitB_hit _ _ _ _ i (hi.trans hi'), pieces_found hi', List.map_cons, Lib.extract_from_zero]
    have e2 : (s.extract (i + ByteArray.size ⟨#[c]⟩) s.size).data.toList = s.data.toList.drop (i + 1) := Lib.extract_to_end _ _
    refine List.cons_eq_cons.2 ⟨rfl, ?_⟩
    rw [ih _ ?_, e2]
    show Lib.count _ _ = k
    rw [show (ByteArray.data ⟨#[c]⟩).toList = [c] from rfl, Lib.count_one, e2]
    obtain ⟨h1, h2⟩ := Lib.indexByte_some hi'
    obtain ⟨hl, he⟩ := List.getElem?_eq_some_iff.1 h1
    have hz : (s.data.toList.take i).count c = 0 := List.count_eq_zero.2 (fun q => by
      obtain ⟨j, hj, he⟩ := List.mem_iff_getElem.1 q
      rw [List.length_take] at hj
      rw [List.getElem_take] at he
      exact h2 j (by omega) (by rw [List.getElem?_eq_some_iff]; exact ⟨by omega, he⟩))
    have hsum : s.data.toList.count c = (s.data.toList.take i).count c + ((s.data.toList.drop (i + 1)).count c + 1) := by
      conv => lhs; rw [← List.take_append_drop i s.data.toList, List.drop_eq_getElem_cons hl, he]
      rw [List.count_append, List.count_cons_self]
    omega
end Go.Proofs.YtpdcjnkgkpbdgaaGreatDoor

/- Package event's Get and Text of any event that is well: the texts of its fields. -/
namespace Go.Proofs.YtpdcjnkgkpbdgaaGreatDoor
open Go Go.RowKit Go.Sort Cal
attribute [local go_sem] Oper.semAt_some

open Classical in
/-- a rule's text -/
noncomputable def ruT (r : RV) : List UInt8 := if h : ∃ t, UT r t then rtext r h.choose else []
theorem ruT_ok {r : RV} (h : Well r) : ∃ t, UT r t ∧ ruT r = rtext r t := by
  have h' := ut_exists h
  exact ⟨h'.choose, h'.choose_spec, by unfold ruT; rw [dif_pos h']⟩
/-- the text of an event's field -/
noncomputable def fT (E : EV) : Nat → List UInt8
  | 0 => E.ti.data.toList
  | 1 => dtx E.st
  | 2 => Lib.itoa E.lg
  | 3 => ruT (rd E.f E.e E.ds E.c E.u)
  | 4 => Lib.join (E.sk.map dtx) [44]
  | _ => Lib.join (E.mv.map mtx) [44]

theorem words_bar {r : RV} {t : List UInt8} (h : Well r) (ht : ∀ c ∈ t, c.toNat ≤ 57) : ∀ x ∈ words r t, (124 : UInt8) ∉ x := by
  intro x hx
  unfold words at hx
  split at hx
  · simp at hx; subst hx; decide
  · rcases List.mem_cons.1 hx with rfl | hx
    · rcases h.fr with e | e | e | e | e <;> rw [e] <;> decide
    rcases List.mem_cons.1 hx with rfl | hx
    · intro hm; have := itoa_digs _ (show 0 ≤ r.every by have := h.ev; omega) _ hm; revert this; decide
    rcases List.mem_append.1 hx with hx | hx
    · unfold wDays at hx
      split at hx
      · simp at hx
      · simp at hx; subst hx
        refine join_no 124 44 (by decide) _ (fun y hy => ?_)
        obtain ⟨d, _, rfl⟩ := List.mem_map.1 hy
        unfold nm
        repeat' split
        all_goals decide
    rcases List.mem_append.1 hx with hx | hx
    · unfold wCount at hx
      split at hx
      · simp at hx
      · simp at hx
        rcases hx with rfl | rfl
        · decide
        · intro hm; have := itoa_digs _ (show 0 ≤ r.count by have := h.co; omega) _ hm; revert this; decide
    · unfold wUntil at hx
      split at hx
      · simp at hx
      · simp at hx
        rcases hx with rfl | rfl
        · decide
        · intro hm; have := ht _ hm; revert this; decide
theorem ut_most {r : RV} {t : List UInt8} (h : UT r t) : ∀ c ∈ t, c.toNat ≤ 57 := by
  rcases h with ⟨_, rfl⟩ | ⟨_, y, m, d, hv, _, rfl⟩
  · intro c hc; simp at hc
  · exact txt_most hv
theorem ruT_bar {r : RV} (h : Well r) : (124 : UInt8) ∉ ruT r := by
  obtain ⟨t, ht, e⟩ := ruT_ok h
  rw [e]
  exact join_no 124 32 (by decide) _ (words_bar h (ut_most ht))
theorem fT_bar {E : EV} (h : EW E) (k : Nat) : (124 : UInt8) ∉ fT E k := by
  match k with
  | 0 =>
    intro hm
    change (124 : UInt8) ∈ E.ti.data.toList at hm
    obtain ⟨j, hj, he⟩ := List.mem_iff_getElem.1 hm
    have := h.ti.1 j (by simpa using hj)
    unfold okt at this
    have e2 : E.ti[j]'(by simpa using hj) = 124 := by
      show E.ti.data[j] = 124
      simpa using he
    rw [e2] at this
    simp at this
  | 1 => exact dtx_no _ _ (by decide)
  | 2 => intro hm; have := itoa_digs _ (show 0 ≤ E.lg by have := h.bd.2.1; omega) _ hm; revert this; decide
  | 3 => exact ruT_bar h.rl
  | 4 => exact join_no 124 44 (by decide) _ (fun y hy => by obtain ⟨d, _, rfl⟩ := List.mem_map.1 hy; exact dtx_no _ _ (by decide))
  | k + 5 => exact join_no 124 44 (by decide) _ (fun y hy => by obtain ⟨d, _, rfl⟩ := List.mem_map.1 hy; exact mtx_no _ _ (by decide))
theorem id_bar {E : EV} (h : EW E) : (124 : UInt8) ∉ E.id.data.toList := by
  intro hm
  obtain ⟨j, hj, he⟩ := List.mem_iff_getElem.1 hm
  have := h.id.1 j (by simpa using hj)
  unfold okc at this
  have e2 : E.id[j]'(by simpa using hj) = 124 := by
    show E.id.data[j] = 124
    simpa using he
  rw [e2] at this
  simp at this
theorem fT_len {E : EV} (h : EW E) (h20 : E.ds.length ≤ 20) (k : Nat) : (fT E k).length ≤ 1000 := by
  obtain ⟨k20, m20, _⟩ := lk_of h.ls
  match k with
  | 0 => have := h.ti.2; show E.ti.data.toList.length ≤ _; rw [Array.length_toList]; have e : E.ti.data.size = E.ti.size := rfl; omega
  | 1 => have := dtx_len E.st; show (dtx _).length ≤ _; omega
  | 2 => have := itoa_len E.lg (by have := h.bd.2.1; omega) (by have := h.bd.2.2; omega); show (Lib.itoa _).length ≤ _; omega
  | 3 => obtain ⟨t, ht, e⟩ := ruT_ok h.rl; show (ruT _).length ≤ _; rw [e]; exact rtext_len h.rl ht h20
  | 4 =>
    have := joinLen (E.sk.map dtx) [44] 10 (fun y hy => by obtain ⟨x, _, rfl⟩ := List.mem_map.1 hy; exact dtx_len x)
    rw [List.length_map] at this
    have h31 : E.sk.length * (10 + [(44 : UInt8)].length) ≤ 20 * 11 := Nat.mul_le_mul k20 (by simp)
    show (Lib.join _ _).length ≤ _
    omega
  | k + 5 =>
    have := joinLen (E.mv.map mtx) [44] 21 (fun y hy => by obtain ⟨x, _, rfl⟩ := List.mem_map.1 hy; exact mtx_len x)
    rw [List.length_map] at this
    have h31 : E.mv.length * (21 + [(44 : UInt8)].length) ≤ 20 * 22 := Nat.mul_le_mul m20 (by simp)
    show (Lib.join _ _).length ≤ _
    omega

theorem textD_any (n : Int) (w : World) (h0 : 0 ≤ n) (h1 : n ≤ 73048) (ht : Tab w) :
    Calls Tryz.prog 50 #[.int .i64 n] w fun e w' => e = .returned (.string (bs (dtx n))) ∧ Below w.heap.size w w' := by
  obtain ⟨y, m, d, hv, hn, e⟩ := dtx_ok h0 h1
  rw [e]
  exact text_ok n y m d w hv hn ht

set_option maxHeartbeats 1000000 in
theorem moveText_any (a b : Int) (w : World) (ha0 : 0 ≤ a) (ha1 : a ≤ 73048) (hb0 : 0 ≤ b) (hb1 : b ≤ 73048) (ht : Tab w) :
    Calls Tryz.prog 66 #[.agg #[.int .i64 a, .int .i64 b]] w fun e w' => e = .returned (.string (bs (mtx (a, b)))) ∧ Below w.heap.size w w' := by
  have hA := below_alloc w (.cells #[.int .i64 a, .int .i64 b] 92)
  have x0 : (w.alloc (.cells #[.int .i64 a, .int .i64 b] 92)).cell? ⟨w.heap.size, 0, none⟩ = some (.int .i64 a) := by rw [World.cell?_alloc_new]; rfl
  have x1 : (w.alloc (.cells #[.int .i64 a, .int .i64 b] 92)).cell? ⟨w.heap.size, 1, none⟩ = some (.int .i64 b) := by rw [World.cell?_alloc_new]; rfl
  have T := ht.step hA
  have HM : Hid (bs (mtx (a, b)) = bs (dtx a) ++ ⟨#[62]⟩ ++ bs (dtx b)) := by
    show _ = _
    unfold mtx bs
    simp [ByteArray.mk_append_mk]
  have HA : Hid (_) := hA
  generalize hw0 : w.alloc (.cells #[.int .i64 a, .int .i64 b] 92) = w0 at x0 x1 T HA
  have X0 := cell_regrown x0
  have X1 := cell_regrown x1
  have T1 : Hid (∀ d os, Calls Tryz.prog 50 #[.int .i64 a] (grow (redrawn w0 d) os) fun r w'' => r = .returned (.string (bs (dtx a))) ∧ ∃ p : Regrown, w'' = grow (redrawn w0 p.d) p.os) := fun d os => Calls.regrown_of (textD_any a _ ha0 ha1 (T.step (below_regrown _ _ _)))
  have T2 : Hid (∀ d os, Calls Tryz.prog 50 #[.int .i64 b] (grow (redrawn w0 d) os) fun r w'' => r = .returned (.string (bs (dtx b))) ∧ ∃ p : Regrown, w'' = grow (redrawn w0 p.d) p.os) := fun d os => Calls.regrown_of (textD_any b _ hb0 hb1 (T.step (below_regrown _ _ _)))
  have hs1 : (bs (dtx a)).size ≤ 10 := by show (dtx a).toArray.size ≤ 10; simpa using dtx_len a
  have hs2 : (bs (dtx b)).size ≤ 10 := by show (dtx b).toArray.size ≤ 10; simpa using dtx_len b
  generalize bs (dtx a) = sa at T1 HM hs1
  generalize bs (dtx b) = sb at T2 HM hs2
  generalize bs (mtx (a, b)) = sm at HM ⊢
  have q1 : ¬ 9223372036854775807 < sa.size + 1 := by omega
  have q2 : ¬ 9223372036854775807 < sa.size + 1 + sb.size := by omega
  clear T hA ha0 ha1 hb0 hb1
  go_enter Tryz.func66, Tryz.ntmps66
  go_upto_region 1 with (fail)
  refine wp_region_quiet_below (by kernel_rfl) (by kernel_rfl) ?_
  repeat (quiet_step (first | (go_at_call_of 50 (Value.int .i64 a); exact T1.out _ _) | (go_at_call_of 50 (Value.int .i64 b); exact T2.out _ _)))
  refine wpQuiet_nil ?_
  intro w2 hw'
  have hb2 : Below w0.heap.size w0 w2 := by
    obtain ⟨⟨dq, osq⟩, hw''⟩ := hw'
    subst hw''
    exact below_regrown _ _ _
  clear hw' X0 X1 x0 x1
  go_wp2
  go_ret
  exact ⟨by rw [HM.out]; rfl, below_then HA.out hb2⟩

set_option maxHeartbeats 1600000 in
set_option maxRecDepth 100000 in
theorem listTextM_any (ms : List (Int × Int)) (sl : Value) (w : World) (hd : Movs w sl ms) (h20 : ms.length ≤ 60) (hv : ∀ m ∈ ms, (0 ≤ m.1 ∧ m.1 ≤ 73048) ∧ 0 ≤ m.2 ∧ m.2 ≤ 73048) (ht : Tab w) :
    Calls Tryz.prog 65 #[sl, .func (.func 66) #[] #[]] w fun r w' => r = .returned (.string (bs (Lib.join (ms.map mtx) [44]))) ∧ Below w.heap.size w w' := by
  obtain ⟨a, cap, rfl, _, hcap, hcell⟩ := hd
  obtain ⟨i0, hi, hz0, hz1, hz2⟩ := info_parts info_str
  have HC : Hid (_) := hcell
  have HV : Hid (_) := hv
  have HT : Hid (Tab w) := ht
  clear hcell hv ht
  go_enter Tryz.func65, Tryz.ntmps65
  go_wp2
  go_loopw [5, 7, 10] (fun v _ i wr => ∃ m : Nat, m ≤ ms.length ∧ i = .int .i64 m ∧ Hid (TR w wr v ((ms.map mtx).take m))) (fun _ _ i _ => ms.length - (intOf i).toNat)
  case atStart => exact ⟨0, Nat.zero_le _, rfl, TR.nil w⟩
  case round =>
    obtain ⟨m, hm, rfl, HO⟩ := hrel
    by_cases hlt : m < ms.length
    · obtain ⟨blk, rfl, hblk, hcl, hcl'⟩ := HC.out m hlt
      have hc1 := cell_step hcl HO.out.below
      have hc2 := cell_step hcl' HO.out.below
      have HN : Hid ((ms.map mtx).take (m + 1) = (ms.map mtx).take m ++ [mtx ms[m]]) := by
        show _ = _
        rw [List.take_succ_eq_append_getElem (by simpa using hlt)]; simp
      obtain ⟨⟨v1, v2⟩, v3, v4⟩ := HV.out ms[m] (List.getElem_mem hlt)
      have hlen : ((ms.map mtx).take m).length = m := by simp; omega
      clear HC HV hcl hcl'
      generalize ms[m] = x at hc1 hc2 HN v1 v2 v3 v4
      obtain ⟨xa, xb⟩ := x
      dsimp only at hc1 hc2 v1 v2 v3 v4
      have hA := below_alloc wr (.cells #[.int .i64 xa, .int .i64 xb] 92)
      have hcall := moveText_any xa xb _ v1 v2 v3 v4 (HT.out.step (below_then HO.out.below hA))
      have hn0 : (wr.alloc (.cells #[.int .i64 xa, .int .i64 xb] 92)).cell? ⟨wr.heap.size, 0, none⟩ = some (.int .i64 xa) := by rw [World.cell?_alloc_new]; rfl
      have hn1 : (wr.alloc (.cells #[.int .i64 xa, .int .i64 xb] 92)).cell? ⟨wr.heap.size, 1, none⟩ = some (.int .i64 xb) := by rw [World.cell?_alloc_new]; rfl
      generalize (ms.map mtx).take m = L at HO HN hlen
      obtain ⟨oa, oc, rfl⟩ := HO.out.form
      rw [hlen] at HO
      have HLN : Hid (L.length = m) := hlen
      have HCL : Hid (Calls _ _ _ _ _) := hcall
      have HA : Hid (Below wr.heap.size wr (wr.alloc (.cells #[.int .i64 xa, .int .i64 xb] 92))) := hA
      generalize hbt : bs (mtx (xa, xb)) = bt at HCL
      have HBT : Hid (bs (mtx (xa, xb)) = bt) := hbt
      clear hlen hcall hbt hA v1 v2 v3 v4
      rw [HLN.out]
      go_upto_region 5 with (fail)
      generalize wr.alloc (.cells #[.int .i64 xa, .int .i64 xb] 92) = wq at HCL HA hn0 hn1
      clear hc1 hc2
      go_wp2_with (first
        | (go_at_call 66; refine Calls.mono HCL.out ?_; rintro r w2 ⟨rfl, hb2⟩; have T2 : Hid (TR w w2 (.slice oa m oc) L) := HO.out.step (below_then HA.out hb2); have NC : Hid (_) := word_cell w2 bt; have hz2' : w.heap.size ≤ w2.heap.size := T2.out.below.size)
        | (at_builtin; refine wpList_append_own _ rfl _ _ 45 rfl w.heap.size 9 i0 (.string ⟨#[]⟩) 1 16 Tryz.underlying45 hi hz0 hz1 hz2 rfl (by decide) _ _ _ rfl (show World.ownsRow _ _ _ _ _ m (L.map sv) by have := T2.out.own.alloc (.cells #[.string bt] 9); rwa [HLN.out] at this) ⟨w2.heap.size, 0, none⟩ 1 1 [.string bt] rfl rfl NC.out (fun v hv => by rw [List.mem_singleton.1 hv]; rfl) (by unfold maxLen; omega) (by omega) (by simp; omega) ?_; intro v' w3 hown' hgrow _; have T3 : Hid (TR w w3 v' (L ++ [mtx (xa, xb)])) := TR.app [mtx (xa, xb)] T2.out (by rw [List.length_append, HLN.out]; rfl) (by rw [List.map_append, ← HBT.out]; rfl) hown' hgrow; obtain ⟨g', cap', rfl⟩ := ownsRow_succ hown'; clear hown' hgrow)
        | go_in)
      go_roundw
      case rel => exact ⟨m + 1, by omega, by go_num, by rw [HN.out]; exact T3.out⟩
      case measure => simp [intOf]; omega
    · have HE : Hid ((ms.map mtx).take m = ms.map mtx) := List.take_of_length_le (by simp; omega)
      rw [HE.out] at HO
      have hle : (Lib.join (ms.map mtx) [44]).length ≤ 100000 := by
        have := joinLen (ms.map mtx) [44] 21 (fun y hy => by obtain ⟨x, hx, rfl⟩ := List.mem_map.1 hy; exact mtx_len x)
        rw [List.length_map] at this
        have h31 : ms.length * (21 + [(44 : UInt8)].length) ≤ 60 * 22 := Nat.mul_le_mul h20 (by simp)
        omega
      have J : Hid (_) := joins_any w _ (ms.map mtx) [44] wr HO.out (by simp; omega) hle
      obtain ⟨oa, oc, rfl⟩ := HO.out.form
      rw [List.length_map] at HO J ⊢
      clear HC HT HV hle
      unfold bs at J
      go_wp2_with (go_at_call 51; refine Calls.mono J.out ?_; rintro r w2 ⟨rfl, hb2⟩)
      go_ret
      exact ⟨rfl, below_then HO.out.below hb2⟩

theorem get_any (E : EV) (sl skv mvv : Value) (k : Nat) (hk : k < 6) (w : World) (g : GlobR w) (hd : Days w sl E.ds) (hs : Ints w skv E.sk) (hm : Movs w mvv E.mv) (hw : EW E) :
    Calls Tryz.prog 24 #[ev E sl skv mvv, .string (fldB k)] w fun r w' => r = .returned (.string (bs (fT E k))) ∧ Below w.heap.size w w' := by
  obtain ⟨k20, m20, _, _, kd, md, _⟩ := lk_of hw.ls
  obtain ⟨ra, rc, e1, h20, _⟩ := id hd
  obtain ⟨sa, sc, e2, _⟩ := id hs
  obtain ⟨ma, mc, e3, _⟩ := id hm
  match k, hk with
  | 0, _ =>
    subst e1 e2 e3
    exact get_title E ra _ rc sa _ sc ma _ mc w
  | 1, _ =>
    subst e1 e2 e3
    exact get_start E ra _ rc sa _ sc ma _ mc _ w (fun W hW => textD_any E.st W hw.bd.1.1 hw.bd.1.2 (g.tab.step hW))
  | 2, _ =>
    subst e1 e2 e3
    exact get_long E ra _ rc sa _ sc ma _ mc _ w (fun W hW => itoa_any E.lg W (by have := hw.bd.2.1; omega) (by have := hw.bd.2.2; omega) (g.tab.step hW))
  | 3, _ =>
    obtain ⟨t, ht, e⟩ := ruT_ok hw.rl
    show Calls _ _ _ _ fun r w' => r = .returned (.string (bs (ruT _))) ∧ _
    rw [e]
    subst e1 e2 e3
    exact get_rule E ra _ rc sa _ sc ma _ mc _ w (fun W hW => rtext_any E.f E.e _ E.c E.u E.ds t W (g.step hW) (hd.step hW) hw.rl ht)
  | 4, _ =>
    subst e1 e2 e3
    exact get_skips E ra _ rc sa _ sc ma _ mc _ w (fun W hW => listTextI_any E.sk _ dtx W (hs.step hW) (by omega) (fun x _ => by have := dtx_len x; omega) (fun x hx W' hW' => textD_any x W' (kd x hx).1 (kd x hx).2 ((g.tab.step hW).step hW')))
  | 5, _ =>
    subst e1 e2 e3
    exact get_moves E ra _ rc sa _ sc ma _ mc _ w (fun W hW => listTextM_any E.mv _ W (hm.step hW) (by omega) md (g.tab.step hW))

/-- the parts of an event's text -/
noncomputable def pT (E : EV) : List (List UInt8) := [fT E 0, fT E 1, fT E 2, fT E 3, fT E 4, fT E 5]
theorem pT_at (E : EV) (k : Nat) (hk : k < 6) : (pT E).getD k [] = fT E k := by
  match k, hk with
  | 0, _ => rfl
  | 1, _ => rfl
  | 2, _ => rfl
  | 3, _ => rfl
  | 4, _ => rfl
  | 5, _ => rfl
/-- an event's text -/
noncomputable def eT (E : EV) : List UInt8 := Lib.join (E.id.data.toList :: pT E) [124]
theorem pT_mem {E : EV} {x : List UInt8} (h : x ∈ pT E) : ∃ k, k < 6 ∧ x = fT E k := by
  unfold pT at h
  simp only [List.mem_cons, List.not_mem_nil, or_false] at h
  rcases h with h | h | h | h | h | h
  · exact ⟨0, by omega, h⟩
  · exact ⟨1, by omega, h⟩
  · exact ⟨2, by omega, h⟩
  · exact ⟨3, by omega, h⟩
  · exact ⟨4, by omega, h⟩
  · exact ⟨5, by omega, h⟩
theorem eT_pieces {E : EV} (h : EW E) : pieces 124 (eT E) = E.id.data.toList :: pT E := by
  refine pieces_join 124 _ (by simp) (fun x hx => ?_)
  rcases List.mem_cons.1 hx with rfl | hx
  · exact id_bar h
  · obtain ⟨k, _, rfl⟩ := pT_mem hx
    exact fT_bar h k
theorem eT_len {E : EV} (h : EW E) (h20 : E.ds.length ≤ 20) : (eT E).length ≤ 10000 := by
  have := joinLen (E.id.data.toList :: pT E) [124] 1000 (fun y hy => by
    rcases List.mem_cons.1 hy with rfl | hy
    · have := h.id.2.2; rw [Array.length_toList]; have e : E.id.data.size = E.id.size := rfl; omega
    · obtain ⟨k, _, rfl⟩ := pT_mem hy; exact fT_len h h20 k)
  exact Nat.le_trans this (by simp [pT])
theorem etext_any (E : EV) (sl skv mvv : Value) (s : Nat → Addr) (w : World) (gk : GlobK s w) (g : GlobR w) (hd : Days w sl E.ds) (hs : Ints w skv E.sk) (hm : Movs w mvv E.mv) (hw : EW E) :
    Calls Tryz.prog 20 #[ev E sl skv mvv] w fun r w' => r = .returned (.string (bs (eT E))) ∧ Below w.heap.size w w' := by
  have h20 : E.ds.length ≤ 20 := by obtain ⟨_, _, _, h, _⟩ := hd; exact h
  refine etext_of E sl skv mvv (pT E) s w gk hd hs hm (by have := hw.id.2.2; omega) (by have := hw.ti.2; omega) hw rfl (fun p hp => ?_) (fun i hi W hW => ?_)
  · obtain ⟨k, _, rfl⟩ := pT_mem hp; have := fT_len hw h20 k; omega
  · rw [pT_at E i hi]; exact get_any E sl skv mvv i hi W (g.step hW) (hd.step hW) (hs.step hW) (hm.step hW) hw
end Go.Proofs.YtpdcjnkgkpbdgaaGreatDoor
