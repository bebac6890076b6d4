/- The document's pool (lammastideref2): Find, Put, Fresh; Decimal; NumberOf; Head. -/
import Derived.Test.YtbocknocmggcpaaGreatDoorPlR
import Derived.Test.YtbocknocmggcpaaGreatDoorJkT
namespace Go.Proofs.YtbocknocmggcpaaGreatDoor
open Go Go.RowKit Go.Maps Cal
attribute [local go_sem] Oper.semAt_some

/-- the number that a text is, or -1 -/
def numD (l : List UInt8) : Int := match numOf l with | some n => n | none => -1
/-- at most nine digits, without needless zeros -/
def can (l : List UInt8) : Prop := 1 ≤ l.length ∧ l.length ≤ 9 ∧ (1 < l.length → l[0]? ≠ some 48) ∧ digs l
theorem dec_head : ∀ (n u : Nat), u ≤ n → (Lib.decDigits u)[0]? = some 48 → u = 0
  | n, u, hn, h => by
    by_cases hu : u < 10
    · rw [Lib.decDigits_one hu] at h
      have h2 : UInt8.ofNat (48 + u) = 48 := by simpa using h
      have h3 := congrArg UInt8.toNat h2
      simp at h3
      omega
    · cases n with
      | zero => omega
      | succ n =>
        rw [Lib.decDigits, dif_neg hu] at h
        have hp : 0 < (Lib.decDigits (u / 10)).length := by rw [Lib.decDigits_length]; exact Lib.nDigits_pos _
        rw [List.getElem?_append_left hp] at h
        have := dec_head n (u / 10) (by omega) h
        omega
theorem snoc_ind {P : List UInt8 → Prop} (h0 : P []) (h1 : ∀ l c, P l → P (l ++ [c])) (l : List UInt8) : P l := by
  rw [← List.reverse_reverse l]
  induction l.reverse with
  | nil => exact h0
  | cons a r ih => rw [List.reverse_cons]; exact h1 _ _ ih
theorem val_nonneg (l : List UInt8) : digs l → 0 ≤ val l := by
  induction l using snoc_ind with
  | h0 => intro _; simp [val]
  | h1 l c ih =>
    intro h
    rw [val_snoc]
    have h1 := ih (fun x hx => h x (List.mem_append_left _ hx))
    have h2 := h c (List.mem_append_right _ (List.mem_singleton.2 rfl))
    omega
theorem can_dec : ∀ (n : Nat) (l : List UInt8), l.length = n + 1 → digs l → (1 < l.length → l[0]? ≠ some 48) → Lib.decDigits (val l).toNat = l
  | 0, l, hl, hd, _ => by
    match l, hl with
    | [c], _ =>
      have hc := hd c List.mem_cons_self
      have e : (val [c]).toNat = c.toNat - 48 := by simp [val]; omega
      rw [e, Lib.decDigits_one (by omega)]
      congr 1
      apply UInt8.toNat_inj.1
      simp
      omega
  | n + 1, l, hl, hd, hz => by
    obtain ⟨l', c, rfl⟩ : ∃ l' c, l = l' ++ [c] := by
      have hne : l ≠ [] := by intro q; rw [q] at hl; simp at hl
      exact ⟨l.dropLast, l.getLast hne, (List.dropLast_concat_getLast hne).symm⟩
    have hl' : l'.length = n + 1 := by simp at hl; exact hl
    have hd' : digs l' := fun x hx => hd x (List.mem_append_left _ hx)
    have hc := hd c (List.mem_append_right _ (List.mem_singleton.2 rfl))
    have h0 : (l' ++ [c])[0]? = l'[0]? := List.getElem?_append_left (by omega)
    have hz' : l'[0]? ≠ some 48 := by rw [← h0]; exact hz (by simp; omega)
    have ih := can_dec n l' hl' hd' (fun _ => hz')
    have hn := val_nonneg l' hd'
    have hpos : val l' ≠ 0 := fun q => by
      rw [q] at ih
      rw [← ih] at hz'
      exact hz' (by rw [show (Int.toNat 0) = 0 from rfl, Lib.decDigits_one (by omega)]; rfl)
    have e : (val (l' ++ [c])).toNat = (val l').toNat * 10 + (c.toNat - 48) := by rw [val_snoc]; omega
    rw [e, Lib.decDigits, dif_neg (by omega), show ((val l').toNat * 10 + (c.toNat - 48)) / 10 = (val l').toNat by omega, show ((val l').toNat * 10 + (c.toNat - 48)) % 10 = c.toNat - 48 by omega, ih]
    congr 2
    apply UInt8.toNat_inj.1
    simp
    omega
theorem can_itoa {l : List UInt8} (h : can l) : Lib.itoa (val l) = l := by
  obtain ⟨h1, h2, h3, h4⟩ := h
  have hn := val_nonneg l h4
  obtain ⟨u, hu⟩ : ∃ u : Nat, val l = u := ⟨(val l).toNat, by omega⟩
  have := can_dec (l.length - 1) l (by omega) h4 h3
  rw [hu, Int.toNat_natCast] at this
  rw [hu, Lib.itoa_nonneg]
  exact this
theorem numOf_can {l : List UInt8} (h : can l) : numOf l = some (val l) := by
  have e := can_itoa h
  have hn := val_nonneg l h.2.2.2
  have ha := itoa_atoi (val l) hn
  rw [e] at ha
  unfold numOf
  rw [if_pos h.2.1, ha]
  dsimp only
  rw [if_pos ⟨hn, e⟩]
theorem can_of {l : List UInt8} {n : Int} (h : numOf l = some n) : can l := by
  obtain ⟨h1, _, h3, h4⟩ := numOf_some h
  obtain ⟨u, rfl⟩ : ∃ u : Nat, n = u := ⟨n.toNat, by omega⟩
  have e := h4
  rw [Lib.itoa_nonneg] at e
  refine ⟨?_, h1, fun hl q => ?_, ?_⟩
  · rw [← e, Lib.decDigits_length]; exact Lib.nDigits_pos _
  · rw [← e] at q
    have := dec_head u u (Nat.le_refl _) q
    subst this
    rw [← e, Lib.decDigits_one (by omega)] at hl
    simp at hl
  · rw [← h4]; exact itoa_digs _ h3
theorem numD_can {l : List UInt8} (h : can l) : numD l = val l := by unfold numD; rw [numOf_can h]
theorem numD_no {l : List UInt8} (h : ¬ can l) : numD l = -1 := by
  unfold numD
  cases hq : numOf l with
  | none => rfl
  | some n => exact absurd (can_of hq) h
theorem val_bd9 (l : List UInt8) (h : digs l) (hl : l.length ≤ 9) : 0 ≤ val l ∧ val l ≤ 999999999 := by
  have key : ∀ (l : List UInt8), digs l → 0 ≤ val l ∧ val l < 10 ^ l.length := fun l => by
    induction l using snoc_ind with
    | h0 => intro _; simp [val]
    | h1 l c ih =>
      intro h
      have h1 := ih (fun x hx => h x (List.mem_append_left _ hx))
      have h2 := h c (List.mem_append_right _ (List.mem_singleton.2 rfl))
      rw [val_snoc, List.length_append, List.length_singleton, Int.pow_succ]
      omega
  have h1 := key l h
  have h2 : (10 : Nat) ^ l.length ≤ 10 ^ 9 := Nat.pow_le_pow_right (by decide) hl
  have h3 : ((10 : Int) ^ l.length) = ((10 ^ l.length : Nat) : Int) := by simp
  have h4 : (10 : Nat) ^ 9 = 1000000000 := by decide
  rw [h3] at h1
  omega

theorem decimal_int0 (n : Nat) (w : World) (h : n ≤ 9999) :
    Calls Tryz.prog 9 #[.int .i64 (n : Int)] w fun e w' => e = .returned (.string (bs (Lib.itoa n))) ∧ Below w.heap.size w w' := by
  rw [Lib.itoa_nonneg]
  exact decimal_any n w h

set_option maxRecDepth 100000 in
set_option maxHeartbeats 1000000 in
theorem numberOf_any (s : ByteArray) (w : World) :
    Calls Tryz.prog 54 #[.string s, .int .i64 9] w fun e w' => e = .returned (.int .i64 (numD s.data.toList)) ∧ w' = w := by
  have hsz : s.data.toList.length = s.size := (Lib.size_eq s).symm
  by_cases h1 : s.size < 1
  · have hc : ¬ can s.data.toList := fun q => by have := q.1; omega
    rw [numD_no hc]
    have h1' : (s.size : Int) < 1 := by omega
    clear hsz hc
    go_enter Tryz.func54, Tryz.ntmps54
    go_wp2
    go_ret
    exact ⟨rfl, rfl⟩
  · have h1' : (1 : Int) ≤ (s.size : Int) := by omega
    by_cases h9 : 9 < s.size
    · have hc : ¬ can s.data.toList := fun q => by have := q.2.1; omega
      rw [numD_no hc]
      have h9' : (9 : Int) < (s.size : Int) := by omega
      clear hsz hc
      go_enter Tryz.func54, Tryz.ntmps54
      go_wp2
      go_ret
      exact ⟨rfl, rfl⟩
    · have h9' : (s.size : Int) ≤ 9 := by omega
      have hs0 : 0 < s.size := by omega
      have e0 : s.data.toList[0]? = some s[0] := Lib.data_getElem? s 0 hs0
      by_cases hz : 1 < s.size ∧ s[0] = 48
      · obtain ⟨hz1, hz2⟩ := hz
        have hc : ¬ can s.data.toList := fun q => q.2.2.1 (by omega) (by rw [e0, hz2])
        rw [numD_no hc]
        have hz1' : (1 : Int) < (s.size : Int) := by omega
        clear hsz hc e0
        go_enter Tryz.func54, Tryz.ntmps54
        go_wp2
        go_ret
        exact ⟨rfl, rfl⟩
      · have HSZ : Hid (s.data.toList.length = s.size) := hsz
        have HZ : Hid (1 < s.data.toList.length → s.data.toList[0]? ≠ some 48) := fun q1 q2 => hz ⟨by omega, by rw [e0] at q2; exact Option.some.inj q2⟩
        have hzz : ((s.size : Int) ≤ 1 ∧ True) ∨ ((1 : Int) < (s.size : Int) ∧ ((s[0].toNat : Int) == 48) = false) := by
          rcases Nat.lt_or_ge 1 s.size with q | q
          · right
            refine ⟨by omega, beq_eq_false_iff_ne.2 (fun q2 => ?_)⟩
            exact hz ⟨q, UInt8.toNat_inj.1 (by show s[0].toNat = 48; omega)⟩
          · left; exact ⟨by omega, trivial⟩
        clear hsz e0 hz
        rcases hzz with ⟨hq, hq2⟩ | ⟨hq, hq2⟩
        all_goals
          go_enter Tryz.func54, Tryz.ntmps54
          go_wp2
          go_loop [5, 6] (fun n i => ∃ k : Nat, k ≤ s.size ∧ i = .int .i64 k ∧ n = .int .i64 (val (s.data.toList.take k)) ∧ Hid (digs (s.data.toList.take k))) (fun _ i => s.size - (intOf i).toNat)
          case atStart => exact ⟨0, Nat.zero_le _, rfl, rfl, fun c hc => by simp at hc⟩
          case round =>
            obtain ⟨k, hk, rfl, rfl, HD⟩ := hrel
            have hb := val_bd9 _ HD.out (by rw [List.length_take, HSZ.out]; omega)
            by_cases hlt : k < s.size
            · have hmem : s[k] ∈ s.data.toList := List.mem_of_getElem? (Lib.data_getElem? s k hlt)
              by_cases hlo : (s[k].toNat : Int) < 48
              · have hc : ¬ can s.data.toList := fun q => by have := q.2.2.2 _ hmem; omega
                have HCN : Hid (numD s.data.toList = -1) := numD_no hc
                clear hc hmem
                go_wp2
                go_ret
                exact ⟨by rw [HCN.out]; rfl, rfl⟩
              · by_cases hhi : (57 : Int) < (s[k].toNat : Int)
                · have hc : ¬ can s.data.toList := fun q => by have := q.2.2.2 _ hmem; omega
                  have HCN : Hid (numD s.data.toList = -1) := numD_no hc
                  clear hc hmem
                  go_wp2
                  go_ret
                  exact ⟨by rw [HCN.out]; rfl, rfl⟩
                · have hc : 48 ≤ (s[k].toNat : Int) ∧ (s[k].toNat : Int) ≤ 57 := ⟨by omega, by omega⟩
                  have HS : Hid (val (s.data.toList.take (k + 1)) = 10 * val (s.data.toList.take k) + ((s[k].toNat : Int) - 48)) := by show _ = _; rw [take_snoc s k hlt, val_snoc]; omega
                  have HD2 : Hid (digs (s.data.toList.take (k + 1))) := by
                    show digs _
                    rw [take_snoc s k hlt]
                    intro x hx
                    rcases List.mem_append.1 hx with q | q
                    · exact HD.out x q
                    · rw [List.mem_singleton.1 q]; exact hc
                  clear hmem
                  go_wp2
                  go_round
                  case rel => exact ⟨k + 1, by omega, by go_num, by rw [HS.out], HD2.out⟩
                  case measure => simp [intOf]; omega
            · have hcn : numD s.data.toList = val (s.data.toList.take k) := by
                have e : s.data.toList.take k = s.data.toList := List.take_of_length_le (by rw [HSZ.out]; omega)
                have hd := HD.out
                rw [e] at hd ⊢
                exact numD_can ⟨by rw [HSZ.out]; omega, by rw [HSZ.out]; omega, HZ.out, hd⟩
              have HCN : Hid (numD s.data.toList = val (s.data.toList.take k)) := hcn
              clear hcn
              go_wp2
              go_ret
              exact ⟨by rw [HCN.out]; rfl, rfl⟩

set_option maxRecDepth 100000 in
theorem head_any (s : ByteArray) (w : World) (hl : s.size ≤ 2000000) :
    Calls Tryz.prog 35 #[.string s, .int .u8 58] w fun r w' => w' = w ∧ ((Lib.indexByte s.data.toList 58 < 0 ∧ r = .returned (.tuple #[.int .i64 (-1), .int .i64 0])) ∨ ∃ i : Nat, Lib.indexByte s.data.toList 58 = i ∧ i < s.size ∧ r = .returned (.tuple #[.int .i64 (numD (s.data.toList.take i)), .int .i64 ((i : Int) + 1)])) := by
  have hsz : s.data.toList.length = s.size := (Lib.size_eq s).symm
  have HSZ : Hid (s.data.toList.length = s.size) := hsz
  clear hsz
  go_enter Tryz.func35, Tryz.ntmps35
  go_wp2
  go_loop [6] (fun i => ∃ k : Nat, k ≤ s.size ∧ i = .int .i64 k ∧ Hid ((58 : UInt8) ∉ s.data.toList.take k)) (fun i => s.size - (intOf i).toNat)
  case atStart => exact ⟨0, Nat.zero_le _, rfl, by show _ ∉ _; simp⟩
  case round =>
    obtain ⟨k, hk, rfl, HN⟩ := hrel
    by_cases hlt : k < s.size
    · by_cases hc : s[k] = 58
      · have hi : Lib.indexByte s.data.toList 58 = k := by
          have e : s.data.toList = s.data.toList.take k ++ 58 :: s.data.toList.drop (k + 1) := by
            conv => lhs; rw [← List.take_append_drop k s.data.toList]
            congr 1
            have hkl : k < s.data.toList.length := by rw [HSZ.out]; exact hlt
            have := Lib.data_getElem? s k hlt
            rw [List.getElem?_eq_getElem hkl] at this
            rw [List.drop_eq_getElem_cons hkl, Option.some.inj this, hc]
          have := index_after (r := s.data.toList.drop (k + 1)) HN.out
          rw [← e, List.length_take, HSZ.out] at this
          rw [this, Nat.min_eq_left hk]
        have hcv : (s[k].toNat : Int) = 58 := by rw [hc]; rfl
        have hkn : ¬ ((k : Int) = (s.size : Int)) := by omega
        have e1 : s.extract 0 k = bs (s.data.toList.take k) := pl_ext (by rw [Lib.extract_from_zero, bs_data])
        have NO : Hid (Calls Tryz.prog 54 #[.string (s.extract 0 k), .int .i64 9] w fun e w' => e = .returned (.int .i64 (numD (s.data.toList.take k))) ∧ w' = w) := by
          rw [e1]
          have := numberOf_any (bs (s.data.toList.take k)) w
          rw [bs_data] at this
          exact this
        clear e1 hc
        go_wp2_with (go_at_call 54; refine Calls.mono NO.out ?_; rintro r w' ⟨rfl, hq⟩; have hq := hq.symm; subst hq)
        go_ret2
        exact ⟨rfl, .inr ⟨k, hi, hlt, rfl⟩⟩
      · have hcv : ¬ ((s[k].toNat : Int) = 58) := fun q => hc (UInt8.toNat_inj.1 (by show s[k].toNat = 58; omega))
        have HN2 : Hid ((58 : UInt8) ∉ s.data.toList.take (k + 1)) := by
          show _ ∉ _
          rw [take_snoc s k hlt]
          intro q
          rcases List.mem_append.1 q with q | q
          · exact HN.out q
          · exact hc (List.mem_singleton.1 q).symm
        clear hc
        go_wp2
        go_round
        case rel => exact ⟨k + 1, by omega, by go_num, HN2.out⟩
        case measure => simp [intOf]; omega
    · have hke : k = s.size := by omega
      have hi : Lib.indexByte s.data.toList 58 < 0 := by
        rcases Int.lt_or_le (Lib.indexByte s.data.toList 58) 0 with q | q
        · exact q
        · obtain ⟨i, hi⟩ : ∃ i : Nat, Lib.indexByte s.data.toList 58 = i := ⟨(Lib.indexByte s.data.toList 58).toNat, by omega⟩
          have h1 := List.mem_of_getElem? (Lib.indexByte_some hi).1
          have e : s.data.toList.take k = s.data.toList := List.take_of_length_le (by rw [HSZ.out]; omega)
          have := HN.out
          rw [e] at this
          exact absurd h1 this
      subst hke
      have HI : Hid (_) := hi
      clear hlt hi
      go_wp2
      go_ret2
      exact ⟨rfl, .inl ⟨HI.out, rfl⟩⟩
end Go.Proofs.YtbocknocmggcpaaGreatDoor
