/- Contracts of the document's own answer to days: AddMonths. -/
import Derived.Test.YtkjfbeempmfipaaGreatDoorJtAI
import Derived.Test.YtkjfbeempmfipaaGreatDoorJtAG
import Derived.Test.YtkjfbeempmfipaaGreatDoorJtAB
import Derived.Lib.ItoaLen
namespace Go.Proofs.YtkjfbeempmfipaaGreatDoor
open Go.RowKit Cal

theorem ret_ib {x : Value} {b c : Bool} (h : b = c) : Ending.returned (.tuple #[x, .bool b]) = .returned (.tuple #[x, .bool c]) := by rw [h]
end Go.Proofs.YtkjfbeempmfipaaGreatDoor

/- Contracts of the document's own answer to a day's text: Byte, below, Decimal, pad, DayText. -/
namespace Go.Proofs.YtkjfbeempmfipaaGreatDoor
open Go.RowKit Cal

set_option maxRecDepth 100000 in
theorem byte_any (n : Int) (w : World) (h0 : 48 ≤ n) (h1 : n ≤ 57) :
    Calls Tryz.prog 51 #[.int .i64 n] w fun e w' => e = .returned (.string ⟨#[dgt (n - 48)]⟩) ∧ Below w.heap.size w w' := by
  have hcv := run_convert_bytes_arg (P := Tryz.prog) (w.alloc (.cells #[.int .u8 n] 5)) 66 5 Tryz.underlying66 Tryz.underlying5 w.heap.size 0 1 1 [n] rfl (fun i hi => by
    obtain rfl : i = 0 := by omega
    simp) 9 Tryz.underlying9
  have hs : strOfNums [n] = ⟨#[dgt (n - 48)]⟩ := by
    unfold strOfNums dgt
    have e : n.toNat = 48 + (n - 48).toNat := by omega
    simp [e]
  rw [hs] at hcv
  clear hs
  go_enter Tryz.func51, Tryz.ntmps51
  go_wp2
  go_ret
  exact ⟨rfl, (Below.refl _ _).alloc (Nat.le_refl _) _⟩

theorem below_any (u : Nat) : ∀ (w : World), u ≤ 9999 →
    Calls Tryz.prog 34 #[.int .i64 (-(u : Int))] w fun e w' => e = .returned (.string ⟨(Lib.decDigits u).toArray⟩) ∧ Below w.heap.size w w' := by
  induction u using Nat.strongRecOn with
  | ind u ih =>
    intro w hu
    by_cases h10 : u < 10
    · have HD : Hid (Lib.decDigits u = [dgt (48 + (u : Int) - 48)]) := by
        show _ = _
        rw [Lib.decDigits_one h10]; unfold dgt
        have e : ((48 : Int) + (u : Int) - 48).toNat = u := by omega
        rw [e]
      clear ih
      go_enter Tryz.func34, Tryz.ntmps34
      go_wp2_with fail
      go_at_call 51
      refine (byte_any _ _ (by omega) (by omega)).mono ?_
      rintro e w' ⟨rfl, hb⟩
      go_wp2
      go_ret
      exact ⟨ret_str (by rw [HD.out]), hb⟩
    · have hc := fun w => ih (u / 10) (by omega) w (by omega)
      have e : ((u / 10 : Nat) : Int) = (u : Int) / 10 := by omega
      rw [e] at hc
      have HC : Hid (_) := hc
      have HD : Hid (Lib.decDigits u = Lib.decDigits (u / 10) ++ [dgt (48 + (u : Int) % 10 - 48)]) := by
        show _ = _
        rw [Lib.decDigits, dif_neg h10]; unfold dgt
        have e : ((48 : Int) + (u : Int) % 10 - 48).toNat = u % 10 := by omega
        rw [e]
      have hl : (Lib.decDigits (u / 10)).length ≤ 21 := by
        have := Lib.itoa_length_le ((u / 10 : Nat) : Int) (by omega) (by omega)
        rw [Lib.itoa_nonneg] at this
        exact this
      clear hc e ih
      go_enter Tryz.func34, Tryz.ntmps34
      go_wp2_with fail
      go_at_call 34
      refine (HC.out _).mono ?_
      rintro e w1 ⟨rfl, k1⟩
      go_wp2_with fail
      go_at_call 51
      refine (byte_any _ _ (by omega) (by omega)).mono ?_
      rintro e w2 ⟨rfl, k2⟩
      go_wp2
      go_ret
      exact ⟨ret_str (by rw [HD.out]; exact ByteArray.mk_append_mk _ [_]), below_then k1 k2⟩

theorem decimal_any (u : Nat) (w : World) (hu : u ≤ 9999) :
    Calls Tryz.prog 16 #[.int .i64 (u : Int)] w fun e w' => e = .returned (.string ⟨(Lib.decDigits u).toArray⟩) ∧ Below w.heap.size w w' := by
  go_enter Tryz.func16, Tryz.ntmps16
  go_wp2_with fail
  go_at_call 34
  refine (below_any u _ hu).mono ?_
  rintro e w1 ⟨rfl, k1⟩
  go_wp2
  go_ret
  exact ⟨rfl, k1⟩

end Go.Proofs.YtkjfbeempmfipaaGreatDoor

/- The document's NumberOf, at thirteen digits; the document's Decimal of any number from 0 on (written by wip/gen/mkCmN.py). -/
namespace Go.Proofs.YtkjfbeempmfipaaGreatDoor
open Go Go.RowKit Go.Maps Cal
attribute [local go_sem] Oper.semAt_some

/-- the number that a text is, or -1 -/
def numDC (l : List UInt8) : Int := match numOfC l with | some n => n | none => -1
/-- at most thirteen digits, without needless zeros -/
def canC (l : List UInt8) : Prop := 1 ≤ l.length ∧ l.length ≤ 13 ∧ (1 < l.length → l[0]? ≠ some 48) ∧ digs l
theorem dec_headC : ∀ (n u : Nat), u ≤ n → (Lib.decDigits u)[0]? = some 48 → u = 0
  | n, u, hn, h => by
    by_cases hu : u < 10
    · rw [Lib.decDigits_one hu] at h
      have h2 : UInt8.ofNat (48 + u) = 48 := by simpa using h
      have h3 := congrArg UInt8.toNat h2
      simp at h3
      omega
    · cases n with
      | zero => omega
      | succ n =>
        rw [Lib.decDigits, dif_neg hu] at h
        have hp : 0 < (Lib.decDigits (u / 10)).length := by rw [Lib.decDigits_length]; exact Lib.nDigits_pos _
        rw [List.getElem?_append_left hp] at h
        have := dec_headC n (u / 10) (by omega) h
        omega
theorem snoc_indC {P : List UInt8 → Prop} (h0 : P []) (h1 : ∀ l c, P l → P (l ++ [c])) (l : List UInt8) : P l := by
  rw [← List.reverse_reverse l]
  induction l.reverse with
  | nil => exact h0
  | cons a r ih => rw [List.reverse_cons]; exact h1 _ _ ih
theorem val_nonnegC (l : List UInt8) : digs l → 0 ≤ val l := by
  induction l using snoc_indC with
  | h0 => intro _; simp [val]
  | h1 l c ih =>
    intro h
    rw [val_snoc]
    have h1 := ih (fun x hx => h x (List.mem_append_left _ hx))
    have h2 := h c (List.mem_append_right _ (List.mem_singleton.2 rfl))
    omega
theorem can_decC : ∀ (n : Nat) (l : List UInt8), l.length = n + 1 → digs l → (1 < l.length → l[0]? ≠ some 48) → Lib.decDigits (val l).toNat = l
  | 0, l, hl, hd, _ => by
    match l, hl with
    | [c], _ =>
      have hc := hd c List.mem_cons_self
      have e : (val [c]).toNat = c.toNat - 48 := by simp [val]; omega
      rw [e, Lib.decDigits_one (by omega)]
      congr 1
      apply UInt8.toNat_inj.1
      simp
      omega
  | n + 1, l, hl, hd, hz => by
    obtain ⟨l', c, rfl⟩ : ∃ l' c, l = l' ++ [c] := by
      have hne : l ≠ [] := by intro q; rw [q] at hl; simp at hl
      exact ⟨l.dropLast, l.getLast hne, (List.dropLast_concat_getLast hne).symm⟩
    have hl' : l'.length = n + 1 := by simp at hl; exact hl
    have hd' : digs l' := fun x hx => hd x (List.mem_append_left _ hx)
    have hc := hd c (List.mem_append_right _ (List.mem_singleton.2 rfl))
    have h0 : (l' ++ [c])[0]? = l'[0]? := List.getElem?_append_left (by omega)
    have hz' : l'[0]? ≠ some 48 := by rw [← h0]; exact hz (by simp; omega)
    have ih := can_decC n l' hl' hd' (fun _ => hz')
    have hn := val_nonnegC l' hd'
    have hpos : val l' ≠ 0 := fun q => by
      rw [q] at ih
      rw [← ih] at hz'
      exact hz' (by rw [show (Int.toNat 0) = 0 from rfl, Lib.decDigits_one (by omega)]; rfl)
    have e : (val (l' ++ [c])).toNat = (val l').toNat * 10 + (c.toNat - 48) := by rw [val_snoc]; omega
    rw [e, Lib.decDigits, dif_neg (by omega), show ((val l').toNat * 10 + (c.toNat - 48)) / 10 = (val l').toNat by omega, show ((val l').toNat * 10 + (c.toNat - 48)) % 10 = c.toNat - 48 by omega, ih]
    congr 2
    apply UInt8.toNat_inj.1
    simp
    omega
theorem can_itoaC {l : List UInt8} (h : canC l) : Lib.itoa (val l) = l := by
  obtain ⟨h1, h2, h3, h4⟩ := h
  have hn := val_nonnegC l h4
  obtain ⟨u, hu⟩ : ∃ u : Nat, val l = u := ⟨(val l).toNat, by omega⟩
  have := can_decC (l.length - 1) l (by omega) h4 h3
  rw [hu, Int.toNat_natCast] at this
  rw [hu, Lib.itoa_nonneg]
  exact this
theorem numOf_canC {l : List UInt8} (h : canC l) : numOfC l = some (val l) := by
  have e := can_itoaC h
  have hn := val_nonnegC l h.2.2.2
  have ha := itoa_atoi (val l) hn
  rw [e] at ha
  unfold numOfC
  rw [if_pos h.2.1, ha]
  dsimp only
  rw [if_pos ⟨hn, e⟩]
theorem can_ofC {l : List UInt8} {n : Int} (h : numOfC l = some n) : canC l := by
  obtain ⟨h1, _, h3, h4⟩ := numOf_someC h
  obtain ⟨u, rfl⟩ : ∃ u : Nat, n = u := ⟨n.toNat, by omega⟩
  have e := h4
  rw [Lib.itoa_nonneg] at e
  refine ⟨?_, h1, fun hl q => ?_, ?_⟩
  · rw [← e, Lib.decDigits_length]; exact Lib.nDigits_pos _
  · rw [← e] at q
    have := dec_headC u u (Nat.le_refl _) q
    subst this
    rw [← e, Lib.decDigits_one (by omega)] at hl
    simp at hl
  · rw [← h4]; exact itoa_digs _ h3
theorem numD_canC {l : List UInt8} (h : canC l) : numDC l = val l := by unfold numDC; rw [numOf_canC h]
theorem numD_noC {l : List UInt8} (h : ¬ canC l) : numDC l = -1 := by
  unfold numDC
  cases hq : numOfC l with
  | none => rfl
  | some n => exact absurd (can_ofC hq) h
theorem val_bd9C (l : List UInt8) (h : digs l) (hl : l.length ≤ 13) : 0 ≤ val l ∧ val l ≤ 9999999999999 := by
  have key : ∀ (l : List UInt8), digs l → 0 ≤ val l ∧ val l < 10 ^ l.length := fun l => by
    induction l using snoc_indC with
    | h0 => intro _; simp [val]
    | h1 l c ih =>
      intro h
      have h1 := ih (fun x hx => h x (List.mem_append_left _ hx))
      have h2 := h c (List.mem_append_right _ (List.mem_singleton.2 rfl))
      rw [val_snoc, List.length_append, List.length_singleton, Int.pow_succ]
      omega
  have h1 := key l h
  have h2 : (10 : Nat) ^ l.length ≤ 10 ^ 13 := Nat.pow_le_pow_right (by decide) hl
  have h3 : ((10 : Int) ^ l.length) = ((10 ^ l.length : Nat) : Int) := by simp
  have h4 : (10 : Nat) ^ 13 = 10000000000000 := by decide
  rw [h3] at h1
  omega

set_option maxRecDepth 100000 in
set_option maxHeartbeats 1000000 in
theorem numberOf_anyC (s : ByteArray) (w : World) :
    Calls Tryz.prog 21 #[.string s, .int .i64 13] w fun e w' => e = .returned (.int .i64 (numDC s.data.toList)) ∧ w' = w := by
  have hsz : s.data.toList.length = s.size := (Lib.size_eq s).symm
  by_cases h1 : s.size < 1
  · have hc : ¬ canC s.data.toList := fun q => by have := q.1; omega
    rw [numD_noC hc]
    have h1' : (s.size : Int) < 1 := by omega
    clear hsz hc
    go_enter Tryz.func21, Tryz.ntmps21
    go_wp2
    go_ret
    exact ⟨rfl, rfl⟩
  · have h1' : (1 : Int) ≤ (s.size : Int) := by omega
    by_cases h9 : 13 < s.size
    · have hc : ¬ canC s.data.toList := fun q => by have := q.2.1; omega
      rw [numD_noC hc]
      have h9' : (13 : Int) < (s.size : Int) := by omega
      clear hsz hc
      go_enter Tryz.func21, Tryz.ntmps21
      go_wp2
      go_ret
      exact ⟨rfl, rfl⟩
    · have h9' : (s.size : Int) ≤ 13 := by omega
      have hs0 : 0 < s.size := by omega
      have e0 : s.data.toList[0]? = some s[0] := Lib.data_getElem? s 0 hs0
      by_cases hz : 1 < s.size ∧ s[0] = 48
      · obtain ⟨hz1, hz2⟩ := hz
        have hc : ¬ canC s.data.toList := fun q => q.2.2.1 (by omega) (by rw [e0, hz2])
        rw [numD_noC hc]
        have hz1' : (1 : Int) < (s.size : Int) := by omega
        clear hsz hc e0
        go_enter Tryz.func21, Tryz.ntmps21
        go_wp2
        go_ret
        exact ⟨rfl, rfl⟩
      · have HSZ : Hid (s.data.toList.length = s.size) := hsz
        have HZ : Hid (1 < s.data.toList.length → s.data.toList[0]? ≠ some 48) := fun q1 q2 => hz ⟨by omega, by rw [e0] at q2; exact Option.some.inj q2⟩
        have hzz : ((s.size : Int) ≤ 1 ∧ True) ∨ ((1 : Int) < (s.size : Int) ∧ ((s[0].toNat : Int) == 48) = false) := by
          rcases Nat.lt_or_ge 1 s.size with q | q
          · right
            refine ⟨by omega, beq_eq_false_iff_ne.2 (fun q2 => ?_)⟩
            exact hz ⟨q, UInt8.toNat_inj.1 (by show s[0].toNat = 48; omega)⟩
          · left; exact ⟨by omega, trivial⟩
        clear hsz e0 hz
        rcases hzz with ⟨hq, hq2⟩ | ⟨hq, hq2⟩
        all_goals
          go_enter Tryz.func21, Tryz.ntmps21
          go_wp2
          go_loop [5, 6] (fun n i => ∃ k : Nat, k ≤ s.size ∧ i = .int .i64 k ∧ n = .int .i64 (val (s.data.toList.take k)) ∧ Hid (digs (s.data.toList.take k))) (fun _ i => s.size - (intOf i).toNat)
          case atStart => exact ⟨0, Nat.zero_le _, rfl, rfl, fun c hc => by simp at hc⟩
          case round =>
            obtain ⟨k, hk, rfl, rfl, HD⟩ := hrel
            have hb := val_bd9C _ HD.out (by rw [List.length_take, HSZ.out]; omega)
            by_cases hlt : k < s.size
            · have hmem : s[k] ∈ s.data.toList := List.mem_of_getElem? (Lib.data_getElem? s k hlt)
              by_cases hlo : (s[k].toNat : Int) < 48
              · have hc : ¬ canC s.data.toList := fun q => by have := q.2.2.2 _ hmem; omega
                have HCN : Hid (numDC s.data.toList = -1) := numD_noC hc
                clear hc hmem
                go_wp2
                go_ret
                exact ⟨by rw [HCN.out]; rfl, rfl⟩
              · by_cases hhi : (57 : Int) < (s[k].toNat : Int)
                · have hc : ¬ canC s.data.toList := fun q => by have := q.2.2.2 _ hmem; omega
                  have HCN : Hid (numDC s.data.toList = -1) := numD_noC hc
                  clear hc hmem
                  go_wp2
                  go_ret
                  exact ⟨by rw [HCN.out]; rfl, rfl⟩
                · have hc : 48 ≤ (s[k].toNat : Int) ∧ (s[k].toNat : Int) ≤ 57 := ⟨by omega, by omega⟩
                  have HS : Hid (val (s.data.toList.take (k + 1)) = 10 * val (s.data.toList.take k) + ((s[k].toNat : Int) - 48)) := by show _ = _; rw [take_snoc s k hlt, val_snoc]; omega
                  have HD2 : Hid (digs (s.data.toList.take (k + 1))) := by
                    show digs _
                    rw [take_snoc s k hlt]
                    intro x hx
                    rcases List.mem_append.1 hx with q | q
                    · exact HD.out x q
                    · rw [List.mem_singleton.1 q]; exact hc
                  clear hmem
                  go_wp2
                  go_round
                  case rel => exact ⟨k + 1, by omega, by go_num, by rw [HS.out], HD2.out⟩
                  case measure => simp [intOf]; omega
            · have hcn : numDC s.data.toList = val (s.data.toList.take k) := by
                have e : s.data.toList.take k = s.data.toList := List.take_of_length_le (by rw [HSZ.out]; omega)
                have hd := HD.out
                rw [e] at hd ⊢
                exact numD_canC ⟨by rw [HSZ.out]; omega, by rw [HSZ.out]; omega, HZ.out, hd⟩
              have HCN : Hid (numDC s.data.toList = val (s.data.toList.take k)) := hcn
              clear hcn
              go_wp2
              go_ret
              exact ⟨by rw [HCN.out]; rfl, rfl⟩

theorem belowC_any (u : Nat) : ∀ (w : World), u ≤ 9223372036854775807 →
    Calls Tryz.prog 34 #[.int .i64 (-(u : Int))] w fun e w' => e = .returned (.string ⟨(Lib.decDigits u).toArray⟩) ∧ Below w.heap.size w w' := by
  induction u using Nat.strongRecOn with
  | ind u ih =>
    intro w hu
    by_cases h10 : u < 10
    · have HD : Hid (Lib.decDigits u = [dgt (48 + (u : Int) - 48)]) := by
        show _ = _
        rw [Lib.decDigits_one h10]; unfold dgt
        have e : ((48 : Int) + (u : Int) - 48).toNat = u := by omega
        rw [e]
      clear ih
      go_enter Tryz.func34, Tryz.ntmps34
      go_wp2_with fail
      go_at_call 51
      refine (byte_any _ _ (by omega) (by omega)).mono ?_
      rintro e w' ⟨rfl, hb⟩
      go_wp2
      go_ret
      exact ⟨ret_str (by rw [HD.out]), hb⟩
    · have hc := fun w => ih (u / 10) (by omega) w (by omega)
      have e : ((u / 10 : Nat) : Int) = (u : Int) / 10 := by omega
      rw [e] at hc
      have HC : Hid (_) := hc
      have HD : Hid (Lib.decDigits u = Lib.decDigits (u / 10) ++ [dgt (48 + (u : Int) % 10 - 48)]) := by
        show _ = _
        rw [Lib.decDigits, dif_neg h10]; unfold dgt
        have e : ((48 : Int) + (u : Int) % 10 - 48).toNat = u % 10 := by omega
        rw [e]
      have hl : (Lib.decDigits (u / 10)).length ≤ 21 := by
        have := Lib.itoa_length_le ((u / 10 : Nat) : Int) (by omega) (by omega)
        rw [Lib.itoa_nonneg] at this
        exact this
      clear hc e ih
      go_enter Tryz.func34, Tryz.ntmps34
      go_wp2_with fail
      go_at_call 34
      refine (HC.out _).mono ?_
      rintro e w1 ⟨rfl, k1⟩
      go_wp2_with fail
      go_at_call 51
      refine (byte_any _ _ (by omega) (by omega)).mono ?_
      rintro e w2 ⟨rfl, k2⟩
      go_wp2
      go_ret
      exact ⟨ret_str (by rw [HD.out]; exact ByteArray.mk_append_mk _ [_]), below_then k1 k2⟩

theorem decimalC_any (u : Nat) (w : World) (hu : u ≤ 9223372036854775807) :
    Calls Tryz.prog 16 #[.int .i64 (u : Int)] w fun e w' => e = .returned (.string ⟨(Lib.decDigits u).toArray⟩) ∧ Below w.heap.size w w' := by
  go_enter Tryz.func16, Tryz.ntmps16
  go_wp2_with fail
  go_at_call 34
  refine (belowC_any u _ hu).mono ?_
  rintro e w1 ⟨rfl, k1⟩
  go_wp2
  go_ret
  exact ⟨rfl, k1⟩


theorem decimalC_int (n : Int) (w : World) (h0 : 0 ≤ n) (h1 : n ≤ 9223372036854775807) :
    Calls Tryz.prog 16 #[.int .i64 n] w fun e w' => e = .returned (.string (bs (Lib.itoa n))) ∧ Below w.heap.size w w' := by
  obtain ⟨u, rfl⟩ : ∃ u : Nat, n = u := ⟨n.toNat, by omega⟩
  rw [Lib.itoa_nonneg]
  exact decimalC_any u w (by omega)
end Go.Proofs.YtkjfbeempmfipaaGreatDoor

/- A rule as a value, its days in memory, the errors and names that package rule reads; contracts of isFreq, inBounds, isShaped, rises and Check. -/
namespace Go.Proofs.YtkjfbeempmfipaaGreatDoor
open Go.RowKit Cal

/-- a rule as a value -/
def rv (f : ByteArray) (e : Int) (sl : Value) (c u : Int) : Value := .agg #[.string f, .int .i64 e, sl, .int .i64 c, .int .i64 u]
/-- a list of days in memory -/
def Days (w : World) (sl : Value) (ds : List Int) : Prop :=
  ∃ (a : Option Addr) (c : Nat), sl = .slice a ds.length c ∧ ds.length ≤ 20 ∧ ds.length ≤ c ∧
    ∀ (j : Nat) (h : j < ds.length), ∃ b : Nat, a = some ⟨b, 0, none⟩ ∧ b < w.heap.size ∧ w.cell? ⟨b, j, none⟩ = some (.int .i64 ds[j])
theorem Days.step {w w' : World} {sl : Value} {ds : List Int} (h : Days w sl ds) (hb : Below w.heap.size w w') : Days w' sl ds := by
  obtain ⟨a, c, h1, h2, h3, h4⟩ := h
  refine ⟨a, c, h1, h2, h3, fun j hj => ?_⟩
  obtain ⟨b, e, hl, hc⟩ := h4 j hj
  exact ⟨b, e, Nat.lt_of_lt_of_le hl hb.size, (hb.cell (p := ⟨b, j, none⟩) hl).trans hc⟩
theorem Days.nil (w : World) (c : Nat) : Days w (.slice none 0 c) [] := ⟨none, c, rfl, by simp, by simp, fun j h => absurd h (by simp)⟩

/-- what package rule reads -/
structure Glob (w : World) : Prop where
  name : ∃ p, w.cell? ⟨3, 0, none⟩ = some (.iface 221 (.pointer (some p)))
  bound : ∃ p, w.cell? ⟨1, 0, none⟩ = some (.iface 221 (.pointer (some p)))
  shape : ∃ p, w.cell? ⟨2, 0, none⟩ = some (.iface 221 (.pointer (some p)))
  order : ∃ p, w.cell? ⟨7, 0, none⟩ = some (.iface 221 (.pointer (some p)))
theorem Glob.step {w w' : World} (g : Glob w) (hb : Below w.heap.size w w') : Glob w' := by
  obtain ⟨⟨p1, h1⟩, ⟨p2, h2⟩, ⟨p3, h3⟩, ⟨p4, h4⟩⟩ := g
  exact ⟨⟨p1, cell_step h1 hb⟩, ⟨p2, cell_step h2 hb⟩, ⟨p3, cell_step h3 hb⟩, ⟨p4, cell_step h4 hb⟩⟩

/-- is it one of the five? -/
def isF (s : ByteArray) : Bool := s.toList == [111, 110, 99, 101] || s.toList == [100, 97, 105, 108, 121] || s.toList == [119, 101, 101, 107, 108, 121] || s.toList == [109, 111, 110, 116, 104, 108, 121] || s.toList == [121, 101, 97, 114, 108, 121]

theorem isFreq_any (s : ByteArray) (w : World) :
    Calls Tryz.prog 117 #[.string s] w fun e w' => e = .returned (.bool (isF s)) ∧ w' = w := by
  cases h1 : (s.toList == [111, 110, 99, 101]) with
  | true =>
    have e : isF s = true := by unfold isF; rw [h1]; rfl
    rw [e]
    go_enter Tryz.func117, Tryz.ntmps117
    go_wp2
    go_ret
    exact ⟨rfl, rfl⟩
  | false =>
  cases h2 : (s.toList == [100, 97, 105, 108, 121]) with
  | true =>
    have e : isF s = true := by unfold isF; rw [h1, h2]; rfl
    rw [e]
    go_enter Tryz.func117, Tryz.ntmps117
    go_wp2
    go_ret
    exact ⟨rfl, rfl⟩
  | false =>
  cases h3 : (s.toList == [119, 101, 101, 107, 108, 121]) with
  | true =>
    have e : isF s = true := by unfold isF; rw [h1, h2, h3]; rfl
    rw [e]
    go_enter Tryz.func117, Tryz.ntmps117
    go_wp2
    go_ret
    exact ⟨rfl, rfl⟩
  | false =>
  cases h4 : (s.toList == [109, 111, 110, 116, 104, 108, 121]) with
  | true =>
    have e : isF s = true := by unfold isF; rw [h1, h2, h3, h4]; rfl
    rw [e]
    go_enter Tryz.func117, Tryz.ntmps117
    go_wp2
    go_ret
    exact ⟨rfl, rfl⟩
  | false =>
  cases h5 : (s.toList == [121, 101, 97, 114, 108, 121]) with
  | true =>
    have e : isF s = true := by unfold isF; rw [h1, h2, h3, h4, h5]; rfl
    rw [e]
    go_enter Tryz.func117, Tryz.ntmps117
    go_wp2
    go_ret
    exact ⟨rfl, rfl⟩
  | false =>
    have e : isF s = false := by unfold isF; rw [h1, h2, h3, h4, h5]; rfl
    rw [e]
    go_enter Tryz.func117, Tryz.ntmps117
    go_wp2
    go_ret
    exact ⟨rfl, rfl⟩

/-- the bounds of a rule's numbers, and of its days -/
def bN (e c u : Int) : Bool := decide (1 ≤ e ∧ e ≤ 100 ∧ 0 ≤ c ∧ c ≤ 1000 ∧ -1 ≤ u ∧ u ≤ 73048)
def bD (ds : List Int) : Prop := ∀ d ∈ ds, 0 ≤ d ∧ d ≤ 6


set_option maxHeartbeats 1000000 in
theorem inBounds_any (f : ByteArray) (e : Int) (sl : Value) (c u : Int) (ds : List Int) (w : World) (hd : Days w sl ds) (b : Bool) (hb : b = true ↔ (bN e c u = true ∧ bD ds)) :
    Calls Tryz.prog 118 #[rv f e sl c u] w fun r w' => r = .returned (.bool b) ∧ Below w.heap.size w w' := by
  obtain ⟨a, cap, rfl, h20, hcap, hc⟩ := hd
  unfold rv
  have HC : Hid (_) := hc
  have HB : Hid (_) := hb
  clear hc hb
  go_enter Tryz.func118, Tryz.ntmps118
  go_wp2
  go_loop [4, 8] (fun d i => ∃ k : Nat, k ≤ ds.length ∧ i = .int .i64 k ∧ Hid (∀ (j : Nat) (h : j < ds.length), j < k → 0 ≤ ds[j] ∧ ds[j] ≤ 6)) (fun _ i => ds.length - (intOf i).toNat)
  case atStart => exact ⟨0, Nat.zero_le _, rfl, fun j _ h => absurd h (Nat.not_lt_zero _)⟩
  case round =>
    obtain ⟨k, hk, rfl, HA⟩ := hrel
    by_cases hlt : k < ds.length
    · obtain ⟨blk, rfl, hblk, hcell⟩ := HC.out k hlt
      have hcell2 := cell_alloc (.cells #[.string f, .int .i64 e, .slice (some ⟨blk, 0, none⟩) ds.length cap, .int .i64 c, .int .i64 u] 93) hcell
      have HN : Hid (0 ≤ ds[k] → ds[k] ≤ 6 → ∀ (j : Nat) (h : j < ds.length), j < k + 1 → 0 ≤ ds[j] ∧ ds[j] ≤ 6) := fun h0 h6 j hj hjk => by
        by_cases ej : j = k
        · subst ej; exact ⟨h0, h6⟩
        · exact HA.out j hj (by omega)
      have HF : Hid (¬ (0 ≤ ds[k] ∧ ds[k] ≤ 6) → b = false) := fun hx => by
        cases b with
        | false => rfl
        | true => exact absurd ((HB.out.1 rfl).2 ds[k] (List.getElem_mem hlt)) hx
      clear HA HB HC
      generalize ds[k] = d at hcell hcell2 HN HF
      by_cases h0 : d < 0
      · have HF' : Hid (b = false) := HF.out (by omega)
        clear HF HN
        go_wp2
        go_ret
        exact ⟨ret_bool HF'.out.symm, below_alloc _ _⟩
      · by_cases h6 : 7 ≤ d
        · have HF' : Hid (b = false) := HF.out (by omega)
          clear HF HN
          go_wp2
          go_ret
          exact ⟨ret_bool HF'.out.symm, below_alloc _ _⟩
        · have HN' : Hid (_) := HN.out (by omega) (by omega)
          clear HF HN
          go_wp2
          go_round
          case rel => exact ⟨k + 1, by omega, by go_num, HN'.out⟩
          case measure => simp [intOf]; omega
    · have HR : Hid (b = bN e c u) := by
        have hD : bD ds := fun d hd => by
          obtain ⟨j, hj, rfl⟩ := List.mem_iff_getElem.1 hd
          exact HA.out j hj (by omega)
        have := HB.out
        cases h1 : bN e c u with
        | true => exact this.2 ⟨h1, hD⟩
        | false =>
          cases b with
          | false => rfl
          | true => rw [h1] at this; exact absurd (this.1 rfl).1 (by decide)
      clear HA HB HC
      go_wp2
      all_goals
        go_ret
        refine ⟨ret_bool ?_, below_alloc _ _⟩
        rw [HR.out]
        unfold bN
        first
        | exact (decide_eq_true (by omega)).symm
        | exact (decide_eq_false (by omega)).symm
        | exact decide_eq_decide.2 (by omega)

theorem rises_any (ds : List Int) (sl : Value) (w : World) (hd : Days w sl ds) (b : Bool) (hb : b = true ↔ ∀ (i : Nat) (h : i + 1 < ds.length), ds[i] < ds[i + 1]) :
    Calls Tryz.prog 120 #[sl] w fun r w' => r = .returned (.bool b) ∧ Below w.heap.size w w' := by
  obtain ⟨a, cap, rfl, h20, hcap, hc⟩ := hd
  have HC : Hid (_) := hc
  have HB : Hid (_) := hb
  clear hc hb
  go_enter Tryz.func120, Tryz.ntmps120
  go_wp2
  go_loopw [3] (fun i wr => ∃ m q : Nat, (m + 1 ≤ ds.length ∨ m = 0) ∧ i = .int .i64 ((m : Int) + 1) ∧ wr = w.drewN q ∧ Hid (∀ (j : Nat) (h : j + 1 < ds.length), j < m → ds[j] < ds[j + 1])) (fun i _ => ds.length - (intOf i).toNat)
  case atStart => exact ⟨0, 0, Or.inr rfl, rfl, rfl, fun j _ h => absurd h (by omega)⟩
  case round =>
    obtain ⟨m, q, hk, rfl, rfl, HA⟩ := hrel
    by_cases hlt : m + 1 < ds.length
    · obtain ⟨blk, rfl, hblk, hcell⟩ := HC.out (m + 1) hlt
      obtain ⟨blk', eb, _, hcell'⟩ := HC.out m (by omega)
      have eb' : blk' = blk := by simpa using eb.symm
      subst eb'
      have HN : Hid (ds[m] < ds[m + 1] → ∀ (j : Nat) (h : j + 1 < ds.length), j < m + 1 → ds[j] < ds[j + 1]) := fun hx j hj hjk => by
        by_cases ej : j = m
        · subst ej; exact hx
        · exact HA.out j hj (by omega)
      have HF : Hid (¬ ds[m] < ds[m + 1] → b = false) := fun hx => by
        cases b with
        | false => rfl
        | true => exact absurd ((HB.out.1 rfl) m hlt) hx
      clear HA HB HC eb
      generalize ds[m + 1] = d at hcell HN HF
      generalize ds[m] = d' at hcell' HN HF
      have hlt' : (m : Int) + 1 < ds.length := by omega
      by_cases hx : d' < d
      · have HN' : Hid (_) := HN.out hx
        clear HF HN
        go_wp2_with (fail)
        go_quiet (fail)
        go_wp2
        go_roundw
        case rel => exact ⟨m + 1, _, by omega, by go_num, rfl, HN'.out⟩
        case measure => simp [intOf]; omega
      · have HF' : Hid (b = false) := HF.out hx
        clear HF HN
        have hx' : d ≤ d' := by omega
        go_wp2_with (fail)
        go_quiet (fail)
        go_wp2
        go_ret
        exact ⟨ret_bool HF'.out.symm, below_then (drewN_below _ _) (drewN_below _ _)⟩
    · have HR : Hid (b = true) := HB.out.2 (fun j hj => HA.out j hj (by omega))
      clear HA HB HC
      have hlt' : ¬ (m : Int) + 1 < ds.length := by omega
      go_wp2
      go_ret
      exact ⟨ret_bool HR.out.symm, drewN_below _ _⟩

/-- a rule's shape -/
def shp (o k : Bool) (e c u : Int) (n : Nat) : Prop := (o = true → e = 1 ∧ c = 0 ∧ u = -1) ∧ (k = false → n = 0) ∧ (c = 0 ∨ u = -1)

set_option maxHeartbeats 2000000 in
theorem isShaped_any (f : ByteArray) (e : Int) (a : Option Addr) (n cap : Nat) (c u : Int) (w : World) (hn : n ≤ 20) (o k : Bool) (ho : (f.toList == [111, 110, 99, 101]) = o) (hk : (f.toList == [119, 101, 101, 107, 108, 121]) = k) (b : Bool) (hb : b = true ↔ shp o k e c u n) :
    Calls Tryz.prog 119 #[rv f e (.slice a n cap) c u] w fun r w' => r = .returned (.bool b) ∧ Below w.heap.size w w' := by
  have HB : Hid (_) := hb
  clear hb
  have fin : ∀ x : Bool, (x = true ↔ shp o k e c u n) → x = b := fun x hx => by
    have := HB.out
    cases x <;> cases b <;> simp_all
  have FIN : Hid (_) := fin
  clear fin HB
  unfold rv
  by_cases hu : u = -1
  · have hu1 : (u != -1) = false := by simp [hu]
    have hu2 : (u == -1) = true := by simp [hu]
    cases o <;> cases k
    all_goals
      go_enter Tryz.func119, Tryz.ntmps119
      go_wp2
      all_goals
        go_ret
        refine ⟨ret_bool (FIN.out _ ?_), below_alloc _ _⟩
        unfold shp
        simp
        try omega
  · have hu1 : (u != -1) = true := by simp [hu]
    have hu2 : (u == -1) = false := by simp [hu]
    cases o <;> cases k
    all_goals
      go_enter Tryz.func119, Tryz.ntmps119
      go_wp2
      all_goals
        go_ret
        refine ⟨ret_bool (FIN.out _ ?_), below_alloc _ _⟩
        unfold shp
        simp
        try omega
end Go.Proofs.YtkjfbeempmfipaaGreatDoor
