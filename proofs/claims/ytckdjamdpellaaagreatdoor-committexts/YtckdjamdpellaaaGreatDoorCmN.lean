/- Package number's Read, and the document's NumberOf, at thirteen digits; the document's Decimal of any number from 0 on (written by wip/gen/mkCmN.py). -/
import Derived.Test.YtckdjamdpellaaaGreatDoorPlN
import Derived.Test.YtckdjamdpellaaaGreatDoorRefText
namespace Go.Proofs.YtckdjamdpellaaaGreatDoor
open Go Go.RowKit Go.Maps Cal
attribute [local go_sem] Oper.semAt_some

/-- the number that a text is: at most thirteen digits, without needless zeros -/
def numOfC (l : List UInt8) : Option Int := if l.length ≤ 13 then (match Lib.atoi l with | some n => if 0 ≤ n ∧ Lib.itoa n = l then some n else none | none => none) else none
theorem numOf_someC {l : List UInt8} {n : Int} (h : numOfC l = some n) : l.length ≤ 13 ∧ Lib.atoi l = some n ∧ 0 ≤ n ∧ Lib.itoa n = l := by
  unfold numOfC at h
  split at h
  · rename_i h9
    cases ha : Lib.atoi l with
    | none => rw [ha] at h; cases h
    | some m =>
      rw [ha] at h
      dsimp only at h
      split at h
      · rename_i hq
        cases h
        exact ⟨h9, rfl, hq⟩
      · cases h
  · cases h
theorem atoi_bdC {l : List UInt8} {n : Int} (h : Lib.atoi l = some n) (hl : l.length ≤ 13) : n < 1000000000000000000 := by
  obtain ⟨b0, r, e, q⟩ := Lib.atoi_cases h
  subst e
  rcases q with ⟨_, m, _, h1, rfl⟩ | ⟨_, m, _, h1, rfl⟩ | ⟨_, _, m, h1, rfl⟩
  · omega
  · have := Lib.decFrom_lt18 h1 (by simp at hl; omega); omega
  · have := Lib.decFrom_lt18 h1 (by omega); omega

theorem numR_longC (s : ByteArray) (w : World) (h : 13 < s.size) :
    Calls Tryz.prog 37 #[.string s, .int .i64 13] w fun r w' => r = .returned (.tuple #[.int .i64 0, .bool false]) ∧ Below w.heap.size w w' := by
  have h' : (13 : Int) < (s.size : Int) := by omega
  go_enter Tryz.func37, Tryz.ntmps37
  go_wp2
  go_ret2
  exact ⟨rfl, Below.refl _ _⟩
theorem numR_badC (s : ByteArray) (w : World) (g : GlobN w) (h : s.size ≤ 13) (ha : Lib.atoi s.data.toList = none) :
    Calls Tryz.prog 37 #[.string s, .int .i64 13] w fun r w' => r = .returned (.tuple #[.int .i64 0, .bool false]) ∧ Below w.heap.size w w' := by
  have h' : (s.size : Int) ≤ 13 := by omega
  obtain ⟨q, hq⟩ := g.syn
  have A : Hid (Calls _ _ _ _ _) := Tryz.strconv_Atoi_err s (by omega) ha _ w hq (.inr ⟨_, _, rfl⟩)
  clear g ha hq
  go_enter Tryz.func37, Tryz.ntmps37
  go_wp2_with (go_at_call 54; refine Calls.mono A.out ?_; rintro r w1 ⟨N, rfl, _, _, hb1⟩)
  go_ret2
  exact ⟨rfl, hb1⟩
theorem numR_anyC (s : ByteArray) (n : Int) (w : World) (g : GlobN w) (h : s.size ≤ 13) (ha : Lib.atoi s.data.toList = some n) :
    Calls Tryz.prog 37 #[.string s, .int .i64 13] w fun r w' => ((¬ (0 ≤ n ∧ Lib.itoa n = s.data.toList) ∧ r = .returned (.tuple #[.int .i64 0, .bool false])) ∨ ((0 ≤ n ∧ Lib.itoa n = s.data.toList) ∧ r = .returned (.tuple #[.int .i64 n, .bool true]))) ∧ Below w.heap.size w w' := by
  have h' : (s.size : Int) ≤ 13 := by omega
  have hbd := atoi_bdC ha (by rw [← Lib.size_eq]; exact h)
  have A : Hid (Calls Tryz.prog 54 #[.string s] w fun e w' => e = .returned (.tuple #[.int .i64 n, .nilIface]) ∧ Below w.heap.size w w') := by
    refine (Tryz.strconv_Atoi s n (by omega) ha w).mono ?_
    rintro e w' ⟨rfl, t, rfl⟩
    exact ⟨rfl, pl_bytes _ _ _⟩
  by_cases hn : n < 0
  · clear g ha
    go_enter Tryz.func37, Tryz.ntmps37
    go_wp2_with (go_at_call 54; refine Calls.mono A.out ?_; rintro r w1 ⟨rfl, hb1⟩)
    go_ret2
    exact ⟨.inl ⟨fun q => by omega, rfl⟩, hb1⟩
  · have hn0 : 0 ≤ n := by omega
    have I : Hid (∀ W, Below w.heap.size w W → Calls Tryz.prog 14 #[.int .i64 n] W fun e w' => e = .returned (.string (bs (Lib.itoa n))) ∧ Below W.heap.size W w') := fun W hW => itoa_all n W hn0 (by omega) (g.tab.step hW)
    clear ha
    by_cases he : bs (Lib.itoa n) = s
    · have hq : Lib.itoa n = s.data.toList := by rw [← he, bs_data]
      rw [he] at I
      clear he
      go_enter Tryz.func37, Tryz.ntmps37
      go_wp2_with (first
        | (go_at_call 54; refine Calls.mono A.out ?_; rintro r w1 ⟨rfl, hb1⟩)
        | (go_at_call 14; refine (I.out _ hb1).mono ?_; rintro r w2 ⟨rfl, hb2⟩))
      go_ret2
      exact ⟨.inr ⟨⟨hn0, hq⟩, rfl⟩, below_then hb1 hb2⟩
    · have hq : Lib.itoa n ≠ s.data.toList := fun q => he (pl_ext (by rw [bs_data]; exact q))
      have hne := pl_ne he
      generalize bs (Lib.itoa n) = t at I hne
      clear he
      go_enter Tryz.func37, Tryz.ntmps37
      go_wp2_with (first
        | (go_at_call 54; refine Calls.mono A.out ?_; rintro r w1 ⟨rfl, hb1⟩)
        | (go_at_call 14; refine (I.out _ hb1).mono ?_; rintro r w2 ⟨rfl, hb2⟩))
      go_ret2
      exact ⟨.inl ⟨fun q => hq q.2, rfl⟩, below_then hb1 hb2⟩
theorem numR_allC (s : ByteArray) (w : World) (g : GlobN w) :
    Calls Tryz.prog 37 #[.string s, .int .i64 13] w fun r w' => ((numOfC s.data.toList = none ∧ r = .returned (.tuple #[.int .i64 0, .bool false])) ∨ ∃ n, numOfC s.data.toList = some n ∧ r = .returned (.tuple #[.int .i64 n, .bool true])) ∧ Below w.heap.size w w' := by
  have hsz : s.data.toList.length = s.size := (Lib.size_eq s).symm
  rcases Nat.lt_or_ge 13 s.size with h9 | h9
  · refine Calls.mono (numR_longC s w h9) ?_
    rintro r w' ⟨q1, q2⟩
    exact ⟨.inl ⟨by unfold numOfC; rw [if_neg (by omega)], q1⟩, q2⟩
  · cases ha : Lib.atoi s.data.toList with
    | none =>
      refine Calls.mono (numR_badC s w g h9 ha) ?_
      rintro r w' ⟨q1, q2⟩
      exact ⟨.inl ⟨by unfold numOfC; rw [if_pos (by omega), ha], q1⟩, q2⟩
    | some n =>
      refine Calls.mono (numR_anyC s n w g h9 ha) ?_
      rintro r w' ⟨q1, q2⟩
      refine ⟨?_, q2⟩
      rcases q1 with ⟨k, rfl⟩ | ⟨k, rfl⟩
      · exact .inl ⟨by unfold numOfC; rw [if_pos (by omega), ha]; dsimp only; rw [if_neg k], rfl⟩
      · exact .inr ⟨n, by unfold numOfC; rw [if_pos (by omega), ha]; dsimp only; rw [if_pos k], rfl⟩

/-- the number that a text is, or -1 -/
def numDC (l : List UInt8) : Int := match numOfC l with | some n => n | none => -1
/-- at most thirteen digits, without needless zeros -/
def canC (l : List UInt8) : Prop := 1 ≤ l.length ∧ l.length ≤ 13 ∧ (1 < l.length → l[0]? ≠ some 48) ∧ digs l
theorem dec_headC : ∀ (n u : Nat), u ≤ n → (Lib.decDigits u)[0]? = some 48 → u = 0
  | n, u, hn, h => by
    by_cases hu : u < 10
    · rw [Lib.decDigits_one hu] at h
      have h2 : UInt8.ofNat (48 + u) = 48 := by simpa using h
      have h3 := congrArg UInt8.toNat h2
      simp at h3
      omega
    · cases n with
      | zero => omega
      | succ n =>
        rw [Lib.decDigits, dif_neg hu] at h
        have hp : 0 < (Lib.decDigits (u / 10)).length := by rw [Lib.decDigits_length]; exact Lib.nDigits_pos _
        rw [List.getElem?_append_left hp] at h
        have := dec_headC n (u / 10) (by omega) h
        omega
theorem snoc_indC {P : List UInt8 → Prop} (h0 : P []) (h1 : ∀ l c, P l → P (l ++ [c])) (l : List UInt8) : P l := by
  rw [← List.reverse_reverse l]
  induction l.reverse with
  | nil => exact h0
  | cons a r ih => rw [List.reverse_cons]; exact h1 _ _ ih
theorem val_nonnegC (l : List UInt8) : digs l → 0 ≤ val l := by
  induction l using snoc_indC with
  | h0 => intro _; simp [val]
  | h1 l c ih =>
    intro h
    rw [val_snoc]
    have h1 := ih (fun x hx => h x (List.mem_append_left _ hx))
    have h2 := h c (List.mem_append_right _ (List.mem_singleton.2 rfl))
    omega
theorem can_decC : ∀ (n : Nat) (l : List UInt8), l.length = n + 1 → digs l → (1 < l.length → l[0]? ≠ some 48) → Lib.decDigits (val l).toNat = l
  | 0, l, hl, hd, _ => by
    match l, hl with
    | [c], _ =>
      have hc := hd c List.mem_cons_self
      have e : (val [c]).toNat = c.toNat - 48 := by simp [val]; omega
      rw [e, Lib.decDigits_one (by omega)]
      congr 1
      apply UInt8.toNat_inj.1
      simp
      omega
  | n + 1, l, hl, hd, hz => by
    obtain ⟨l', c, rfl⟩ : ∃ l' c, l = l' ++ [c] := by
      have hne : l ≠ [] := by intro q; rw [q] at hl; simp at hl
      exact ⟨l.dropLast, l.getLast hne, (List.dropLast_concat_getLast hne).symm⟩
    have hl' : l'.length = n + 1 := by simp at hl; exact hl
    have hd' : digs l' := fun x hx => hd x (List.mem_append_left _ hx)
    have hc := hd c (List.mem_append_right _ (List.mem_singleton.2 rfl))
    have h0 : (l' ++ [c])[0]? = l'[0]? := List.getElem?_append_left (by omega)
    have hz' : l'[0]? ≠ some 48 := by rw [← h0]; exact hz (by simp; omega)
    have ih := can_decC n l' hl' hd' (fun _ => hz')
    have hn := val_nonnegC l' hd'
    have hpos : val l' ≠ 0 := fun q => by
      rw [q] at ih
      rw [← ih] at hz'
      exact hz' (by rw [show (Int.toNat 0) = 0 from rfl, Lib.decDigits_one (by omega)]; rfl)
    have e : (val (l' ++ [c])).toNat = (val l').toNat * 10 + (c.toNat - 48) := by rw [val_snoc]; omega
    rw [e, Lib.decDigits, dif_neg (by omega), show ((val l').toNat * 10 + (c.toNat - 48)) / 10 = (val l').toNat by omega, show ((val l').toNat * 10 + (c.toNat - 48)) % 10 = c.toNat - 48 by omega, ih]
    congr 2
    apply UInt8.toNat_inj.1
    simp
    omega
theorem can_itoaC {l : List UInt8} (h : canC l) : Lib.itoa (val l) = l := by
  obtain ⟨h1, h2, h3, h4⟩ := h
  have hn := val_nonnegC l h4
  obtain ⟨u, hu⟩ : ∃ u : Nat, val l = u := ⟨(val l).toNat, by omega⟩
  have := can_decC (l.length - 1) l (by omega) h4 h3
  rw [hu, Int.toNat_natCast] at this
  rw [hu, Lib.itoa_nonneg]
  exact this
theorem numOf_canC {l : List UInt8} (h : canC l) : numOfC l = some (val l) := by
  have e := can_itoaC h
  have hn := val_nonnegC l h.2.2.2
  have ha := itoa_atoi (val l) hn
  rw [e] at ha
  unfold numOfC
  rw [if_pos h.2.1, ha]
  dsimp only
  rw [if_pos ⟨hn, e⟩]
theorem can_ofC {l : List UInt8} {n : Int} (h : numOfC l = some n) : canC l := by
  obtain ⟨h1, _, h3, h4⟩ := numOf_someC h
  obtain ⟨u, rfl⟩ : ∃ u : Nat, n = u := ⟨n.toNat, by omega⟩
  have e := h4
  rw [Lib.itoa_nonneg] at e
  refine ⟨?_, h1, fun hl q => ?_, ?_⟩
  · rw [← e, Lib.decDigits_length]; exact Lib.nDigits_pos _
  · rw [← e] at q
    have := dec_headC u u (Nat.le_refl _) q
    subst this
    rw [← e, Lib.decDigits_one (by omega)] at hl
    simp at hl
  · rw [← h4]; exact itoa_digs _ h3
theorem numD_canC {l : List UInt8} (h : canC l) : numDC l = val l := by unfold numDC; rw [numOf_canC h]
theorem numD_noC {l : List UInt8} (h : ¬ canC l) : numDC l = -1 := by
  unfold numDC
  cases hq : numOfC l with
  | none => rfl
  | some n => exact absurd (can_ofC hq) h
theorem val_bd9C (l : List UInt8) (h : digs l) (hl : l.length ≤ 13) : 0 ≤ val l ∧ val l ≤ 9999999999999 := by
  have key : ∀ (l : List UInt8), digs l → 0 ≤ val l ∧ val l < 10 ^ l.length := fun l => by
    induction l using snoc_indC with
    | h0 => intro _; simp [val]
    | h1 l c ih =>
      intro h
      have h1 := ih (fun x hx => h x (List.mem_append_left _ hx))
      have h2 := h c (List.mem_append_right _ (List.mem_singleton.2 rfl))
      rw [val_snoc, List.length_append, List.length_singleton, Int.pow_succ]
      omega
  have h1 := key l h
  have h2 : (10 : Nat) ^ l.length ≤ 10 ^ 13 := Nat.pow_le_pow_right (by decide) hl
  have h3 : ((10 : Int) ^ l.length) = ((10 ^ l.length : Nat) : Int) := by simp
  have h4 : (10 : Nat) ^ 13 = 10000000000000 := by decide
  rw [h3] at h1
  omega

set_option maxRecDepth 100000 in
set_option maxHeartbeats 1000000 in
theorem numberOf_anyC (s : ByteArray) (w : World) :
    Calls Tryz.prog 21 #[.string s, .int .i64 13] w fun e w' => e = .returned (.int .i64 (numDC s.data.toList)) ∧ w' = w := by
  have hsz : s.data.toList.length = s.size := (Lib.size_eq s).symm
  by_cases h1 : s.size < 1
  · have hc : ¬ canC s.data.toList := fun q => by have := q.1; omega
    rw [numD_noC hc]
    have h1' : (s.size : Int) < 1 := by omega
    clear hsz hc
    go_enter Tryz.func21, Tryz.ntmps21
    go_wp2
    go_ret
    exact ⟨rfl, rfl⟩
  · have h1' : (1 : Int) ≤ (s.size : Int) := by omega
    by_cases h9 : 13 < s.size
    · have hc : ¬ canC s.data.toList := fun q => by have := q.2.1; omega
      rw [numD_noC hc]
      have h9' : (13 : Int) < (s.size : Int) := by omega
      clear hsz hc
      go_enter Tryz.func21, Tryz.ntmps21
      go_wp2
      go_ret
      exact ⟨rfl, rfl⟩
    · have h9' : (s.size : Int) ≤ 13 := by omega
      have hs0 : 0 < s.size := by omega
      have e0 : s.data.toList[0]? = some s[0] := Lib.data_getElem? s 0 hs0
      by_cases hz : 1 < s.size ∧ s[0] = 48
      · obtain ⟨hz1, hz2⟩ := hz
        have hc : ¬ canC s.data.toList := fun q => q.2.2.1 (by omega) (by rw [e0, hz2])
        rw [numD_noC hc]
        have hz1' : (1 : Int) < (s.size : Int) := by omega
        clear hsz hc e0
        go_enter Tryz.func21, Tryz.ntmps21
        go_wp2
        go_ret
        exact ⟨rfl, rfl⟩
      · have HSZ : Hid (s.data.toList.length = s.size) := hsz
        have HZ : Hid (1 < s.data.toList.length → s.data.toList[0]? ≠ some 48) := fun q1 q2 => hz ⟨by omega, by rw [e0] at q2; exact Option.some.inj q2⟩
        have hzz : ((s.size : Int) ≤ 1 ∧ True) ∨ ((1 : Int) < (s.size : Int) ∧ ((s[0].toNat : Int) == 48) = false) := by
          rcases Nat.lt_or_ge 1 s.size with q | q
          · right
            refine ⟨by omega, beq_eq_false_iff_ne.2 (fun q2 => ?_)⟩
            exact hz ⟨q, UInt8.toNat_inj.1 (by show s[0].toNat = 48; omega)⟩
          · left; exact ⟨by omega, trivial⟩
        clear hsz e0 hz
        rcases hzz with ⟨hq, hq2⟩ | ⟨hq, hq2⟩
        all_goals
          go_enter Tryz.func21, Tryz.ntmps21
          go_wp2
          go_loop [5, 6] (fun n i => ∃ k : Nat, k ≤ s.size ∧ i = .int .i64 k ∧ n = .int .i64 (val (s.data.toList.take k)) ∧ Hid (digs (s.data.toList.take k))) (fun _ i => s.size - (intOf i).toNat)
          case atStart => exact ⟨0, Nat.zero_le _, rfl, rfl, fun c hc => by simp at hc⟩
          case round =>
            obtain ⟨k, hk, rfl, rfl, HD⟩ := hrel
            have hb := val_bd9C _ HD.out (by rw [List.length_take, HSZ.out]; omega)
            by_cases hlt : k < s.size
            · have hmem : s[k] ∈ s.data.toList := List.mem_of_getElem? (Lib.data_getElem? s k hlt)
              by_cases hlo : (s[k].toNat : Int) < 48
              · have hc : ¬ canC s.data.toList := fun q => by have := q.2.2.2 _ hmem; omega
                have HCN : Hid (numDC s.data.toList = -1) := numD_noC hc
                clear hc hmem
                go_wp2
                go_ret
                exact ⟨by rw [HCN.out]; rfl, rfl⟩
              · by_cases hhi : (57 : Int) < (s[k].toNat : Int)
                · have hc : ¬ canC s.data.toList := fun q => by have := q.2.2.2 _ hmem; omega
                  have HCN : Hid (numDC s.data.toList = -1) := numD_noC hc
                  clear hc hmem
                  go_wp2
                  go_ret
                  exact ⟨by rw [HCN.out]; rfl, rfl⟩
                · have hc : 48 ≤ (s[k].toNat : Int) ∧ (s[k].toNat : Int) ≤ 57 := ⟨by omega, by omega⟩
                  have HS : Hid (val (s.data.toList.take (k + 1)) = 10 * val (s.data.toList.take k) + ((s[k].toNat : Int) - 48)) := by show _ = _; rw [take_snoc s k hlt, val_snoc]; omega
                  have HD2 : Hid (digs (s.data.toList.take (k + 1))) := by
                    show digs _
                    rw [take_snoc s k hlt]
                    intro x hx
                    rcases List.mem_append.1 hx with q | q
                    · exact HD.out x q
                    · rw [List.mem_singleton.1 q]; exact hc
                  clear hmem
                  go_wp2
                  go_round
                  case rel => exact ⟨k + 1, by omega, by go_num, by rw [HS.out], HD2.out⟩
                  case measure => simp [intOf]; omega
            · have hcn : numDC s.data.toList = val (s.data.toList.take k) := by
                have e : s.data.toList.take k = s.data.toList := List.take_of_length_le (by rw [HSZ.out]; omega)
                have hd := HD.out
                rw [e] at hd ⊢
                exact numD_canC ⟨by rw [HSZ.out]; omega, by rw [HSZ.out]; omega, HZ.out, hd⟩
              have HCN : Hid (numDC s.data.toList = val (s.data.toList.take k)) := hcn
              clear hcn
              go_wp2
              go_ret
              exact ⟨by rw [HCN.out]; rfl, rfl⟩

theorem belowC_any (u : Nat) : ∀ (w : World), u ≤ 9223372036854775807 →
    Calls Tryz.prog 34 #[.int .i64 (-(u : Int))] w fun e w' => e = .returned (.string ⟨(Lib.decDigits u).toArray⟩) ∧ Below w.heap.size w w' := by
  induction u using Nat.strongRecOn with
  | ind u ih =>
    intro w hu
    by_cases h10 : u < 10
    · have HD : Hid (Lib.decDigits u = [dgt (48 + (u : Int) - 48)]) := by
        show _ = _
        rw [Lib.decDigits_one h10]; unfold dgt
        have e : ((48 : Int) + (u : Int) - 48).toNat = u := by omega
        rw [e]
      clear ih
      go_enter Tryz.func34, Tryz.ntmps34
      go_wp2_with fail
      go_at_call 51
      refine (byte_any _ _ (by omega) (by omega)).mono ?_
      rintro e w' ⟨rfl, hb⟩
      go_wp2
      go_ret
      exact ⟨ret_str (by rw [HD.out]), hb⟩
    · have hc := fun w => ih (u / 10) (by omega) w (by omega)
      have e : ((u / 10 : Nat) : Int) = (u : Int) / 10 := by omega
      rw [e] at hc
      have HC : Hid (_) := hc
      have HD : Hid (Lib.decDigits u = Lib.decDigits (u / 10) ++ [dgt (48 + (u : Int) % 10 - 48)]) := by
        show _ = _
        rw [Lib.decDigits, dif_neg h10]; unfold dgt
        have e : ((48 : Int) + (u : Int) % 10 - 48).toNat = u % 10 := by omega
        rw [e]
      have hl : (Lib.decDigits (u / 10)).length ≤ 21 := by
        have := Lib.itoa_length_le ((u / 10 : Nat) : Int) (by omega) (by omega)
        rw [Lib.itoa_nonneg] at this
        exact this
      clear hc e ih
      go_enter Tryz.func34, Tryz.ntmps34
      go_wp2_with fail
      go_at_call 34
      refine (HC.out _).mono ?_
      rintro e w1 ⟨rfl, k1⟩
      go_wp2_with fail
      go_at_call 51
      refine (byte_any _ _ (by omega) (by omega)).mono ?_
      rintro e w2 ⟨rfl, k2⟩
      go_wp2
      go_ret
      exact ⟨ret_str (by rw [HD.out]; exact ByteArray.mk_append_mk _ [_]), below_then k1 k2⟩

theorem decimalC_any (u : Nat) (w : World) (hu : u ≤ 9223372036854775807) :
    Calls Tryz.prog 16 #[.int .i64 (u : Int)] w fun e w' => e = .returned (.string ⟨(Lib.decDigits u).toArray⟩) ∧ Below w.heap.size w w' := by
  go_enter Tryz.func16, Tryz.ntmps16
  go_wp2_with fail
  go_at_call 34
  refine (belowC_any u _ hu).mono ?_
  rintro e w1 ⟨rfl, k1⟩
  go_wp2
  go_ret
  exact ⟨rfl, k1⟩


theorem decimalC_int (n : Int) (w : World) (h0 : 0 ≤ n) (h1 : n ≤ 9223372036854775807) :
    Calls Tryz.prog 16 #[.int .i64 n] w fun e w' => e = .returned (.string (bs (Lib.itoa n))) ∧ Below w.heap.size w w' := by
  obtain ⟨u, rfl⟩ : ∃ u : Nat, n = u := ⟨n.toNat, by omega⟩
  rw [Lib.itoa_nonneg]
  exact decimalC_any u w (by omega)
end Go.Proofs.YtckdjamdpellaaaGreatDoor
