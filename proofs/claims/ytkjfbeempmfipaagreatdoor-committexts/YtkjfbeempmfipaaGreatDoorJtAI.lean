/- Package number's Read; strings.Cut at one sign; package pool's cutText: of any text. -/
import Derived.Test.YtkjfbeempmfipaaGreatDoorJtAE
import Derived.Test.YtkjfbeempmfipaaGreatDoorJtAF
import Derived.Test.YtkjfbeempmfipaaGreatDoorJtAH
import Derived.BigRegion
import Derived.Lib.Split
import Derived.Test.YtkjfbeempmfipaaGreatDoorJtAC
namespace Go.Proofs.YtkjfbeempmfipaaGreatDoor
open Go Go.RowKit Go.Maps Cal
attribute [local go_sem] Oper.semAt_some

theorem pl_ne {x y : ByteArray} (h : y ≠ x) : (y.toList == x.toList) = false := by
  rw [beq_eq_false_iff_ne, ByteArray.toList_eq, ByteArray.toList_eq]
  exact fun e => h (pl_ext e)
theorem pl_bytes (w : World) (b : TypeId) (t : ByteArray) : Below w.heap.size w (Lib.bytesWorld w b t) := by
  refine ⟨rfl, rfl, rfl, ?_, fun k hk => ?_⟩
  · show w.heap.size ≤ ((w.heap.push _).modify _ _).size
    simp
  · show ((w.heap.push _).modify w.heap.size _)[k]? = w.heap[k]?
    rw [Array.getElem?_modify, if_neg (by omega), Array.getElem?_push_lt hk, Array.getElem?_eq_getElem hk]
theorem itoa_all (n : Int) (w : World) (h0 : 0 ≤ n) (h1 : n ≤ 9223372036854775807) (ht : Tab w) :
    Calls Tryz.prog 14 #[.int .i64 n] w fun e w' => e = .returned (.string (bs (Lib.itoa n))) ∧ Below w.heap.size w w' := by
  refine (Tryz.strconv_Itoa n (by omega) (by omega) w ht).mono ?_
  rintro e w' ⟨rfl, k, os, rfl⟩
  exact ⟨rfl, grow_below _ _ _⟩
/-- what package number leans on -/
structure GlobN (w : World) : Prop where
  tab : Tab w
  syn : ∃ q, w.cell? ⟨14, 0, none⟩ = some (.iface 221 (.pointer (some q)))
theorem GlobN.step {w w' : World} (h : GlobN w) (hb : Below w.heap.size w w') : GlobN w' := by
  obtain ⟨q, hq⟩ := h.syn
  exact ⟨h.tab.step hb, q, cell_step hq hb⟩

/-- the number that a text is: at most nine digits, without needless zeros -/
def numOf (l : List UInt8) : Option Int := if l.length ≤ 9 then (match Lib.atoi l with | some n => if 0 ≤ n ∧ Lib.itoa n = l then some n else none | none => none) else none
theorem numOf_some {l : List UInt8} {n : Int} (h : numOf l = some n) : l.length ≤ 9 ∧ Lib.atoi l = some n ∧ 0 ≤ n ∧ Lib.itoa n = l := by
  unfold numOf at h
  split at h
  · rename_i h9
    cases ha : Lib.atoi l with
    | none => rw [ha] at h; cases h
    | some m =>
      rw [ha] at h
      dsimp only at h
      split at h
      · rename_i hq
        cases h
        exact ⟨h9, rfl, hq⟩
      · cases h
  · cases h
theorem numOf_itoa (n : Int) (h0 : 0 ≤ n) (h1 : n ≤ 999999) : numOf (Lib.itoa n) = some n := by
  unfold numOf
  have := itoa_len n h0 h1
  rw [if_pos (by omega), itoa_atoi n h0]
  dsimp only
  rw [if_pos ⟨h0, rfl⟩]
theorem atoi_bd {l : List UInt8} {n : Int} (h : Lib.atoi l = some n) (hl : l.length ≤ 9) : n < 1000000000000000000 := by
  obtain ⟨b0, r, e, q⟩ := Lib.atoi_cases h
  subst e
  rcases q with ⟨_, m, _, h1, rfl⟩ | ⟨_, m, _, h1, rfl⟩ | ⟨_, _, m, h1, rfl⟩
  · omega
  · have := Lib.decFrom_lt18 h1 (by simp at hl; omega); omega
  · have := Lib.decFrom_lt18 h1 (by omega); omega

theorem numR_long (s : ByteArray) (w : World) (h : 9 < s.size) :
    Calls Tryz.prog 37 #[.string s, .int .i64 9] w fun r w' => r = .returned (.tuple #[.int .i64 0, .bool false]) ∧ Below w.heap.size w w' := by
  have h' : (9 : Int) < (s.size : Int) := by omega
  go_enter Tryz.func37, Tryz.ntmps37
  go_wp2
  go_ret2
  exact ⟨rfl, Below.refl _ _⟩
theorem numR_bad (s : ByteArray) (w : World) (g : GlobN w) (h : s.size ≤ 9) (ha : Lib.atoi s.data.toList = none) :
    Calls Tryz.prog 37 #[.string s, .int .i64 9] w fun r w' => r = .returned (.tuple #[.int .i64 0, .bool false]) ∧ Below w.heap.size w w' := by
  have h' : (s.size : Int) ≤ 9 := by omega
  obtain ⟨q, hq⟩ := g.syn
  have A : Hid (Calls _ _ _ _ _) := Tryz.strconv_Atoi_err s (by omega) ha _ w hq (.inr ⟨_, _, rfl⟩)
  clear g ha hq
  go_enter Tryz.func37, Tryz.ntmps37
  go_wp2_with (go_at_call 54; refine Calls.mono A.out ?_; rintro r w1 ⟨N, rfl, _, _, hb1⟩)
  go_ret2
  exact ⟨rfl, hb1⟩
theorem numR_any (s : ByteArray) (n : Int) (w : World) (g : GlobN w) (h : s.size ≤ 9) (ha : Lib.atoi s.data.toList = some n) :
    Calls Tryz.prog 37 #[.string s, .int .i64 9] w fun r w' => ((¬ (0 ≤ n ∧ Lib.itoa n = s.data.toList) ∧ r = .returned (.tuple #[.int .i64 0, .bool false])) ∨ ((0 ≤ n ∧ Lib.itoa n = s.data.toList) ∧ r = .returned (.tuple #[.int .i64 n, .bool true]))) ∧ Below w.heap.size w w' := by
  have h' : (s.size : Int) ≤ 9 := by omega
  have hbd := atoi_bd ha (by rw [← Lib.size_eq]; exact h)
  have A : Hid (Calls Tryz.prog 54 #[.string s] w fun e w' => e = .returned (.tuple #[.int .i64 n, .nilIface]) ∧ Below w.heap.size w w') := by
    refine (Tryz.strconv_Atoi s n (by omega) ha w).mono ?_
    rintro e w' ⟨rfl, t, rfl⟩
    exact ⟨rfl, pl_bytes _ _ _⟩
  by_cases hn : n < 0
  · clear g ha
    go_enter Tryz.func37, Tryz.ntmps37
    go_wp2_with (go_at_call 54; refine Calls.mono A.out ?_; rintro r w1 ⟨rfl, hb1⟩)
    go_ret2
    exact ⟨.inl ⟨fun q => by omega, rfl⟩, hb1⟩
  · have hn0 : 0 ≤ n := by omega
    have I : Hid (∀ W, Below w.heap.size w W → Calls Tryz.prog 14 #[.int .i64 n] W fun e w' => e = .returned (.string (bs (Lib.itoa n))) ∧ Below W.heap.size W w') := fun W hW => itoa_all n W hn0 (by omega) (g.tab.step hW)
    clear ha
    by_cases he : bs (Lib.itoa n) = s
    · have hq : Lib.itoa n = s.data.toList := by rw [← he, bs_data]
      rw [he] at I
      clear he
      go_enter Tryz.func37, Tryz.ntmps37
      go_wp2_with (first
        | (go_at_call 54; refine Calls.mono A.out ?_; rintro r w1 ⟨rfl, hb1⟩)
        | (go_at_call 14; refine (I.out _ hb1).mono ?_; rintro r w2 ⟨rfl, hb2⟩))
      go_ret2
      exact ⟨.inr ⟨⟨hn0, hq⟩, rfl⟩, below_then hb1 hb2⟩
    · have hq : Lib.itoa n ≠ s.data.toList := fun q => he (pl_ext (by rw [bs_data]; exact q))
      have hne := pl_ne he
      generalize bs (Lib.itoa n) = t at I hne
      clear he
      go_enter Tryz.func37, Tryz.ntmps37
      go_wp2_with (first
        | (go_at_call 54; refine Calls.mono A.out ?_; rintro r w1 ⟨rfl, hb1⟩)
        | (go_at_call 14; refine (I.out _ hb1).mono ?_; rintro r w2 ⟨rfl, hb2⟩))
      go_ret2
      exact ⟨.inl ⟨fun q => hq q.2, rfl⟩, below_then hb1 hb2⟩
theorem numR_all (s : ByteArray) (w : World) (g : GlobN w) :
    Calls Tryz.prog 37 #[.string s, .int .i64 9] w fun r w' => ((numOf s.data.toList = none ∧ r = .returned (.tuple #[.int .i64 0, .bool false])) ∨ ∃ n, numOf s.data.toList = some n ∧ r = .returned (.tuple #[.int .i64 n, .bool true])) ∧ Below w.heap.size w w' := by
  have hsz : s.data.toList.length = s.size := (Lib.size_eq s).symm
  rcases Nat.lt_or_ge 9 s.size with h9 | h9
  · refine Calls.mono (numR_long s w h9) ?_
    rintro r w' ⟨q1, q2⟩
    exact ⟨.inl ⟨by unfold numOf; rw [if_neg (by omega)], q1⟩, q2⟩
  · cases ha : Lib.atoi s.data.toList with
    | none =>
      refine Calls.mono (numR_bad s w g h9 ha) ?_
      rintro r w' ⟨q1, q2⟩
      exact ⟨.inl ⟨by unfold numOf; rw [if_pos (by omega), ha], q1⟩, q2⟩
    | some n =>
      refine Calls.mono (numR_any s n w g h9 ha) ?_
      rintro r w' ⟨q1, q2⟩
      refine ⟨?_, q2⟩
      rcases q1 with ⟨k, rfl⟩ | ⟨k, rfl⟩
      · exact .inl ⟨by unfold numOf; rw [if_pos (by omega), ha]; dsimp only; rw [if_neg k], rfl⟩
      · exact .inr ⟨n, by unfold numOf; rw [if_pos (by omega), ha]; dsimp only; rw [if_pos k], rfl⟩

theorem slCut_no (s : ByteArray) (c : UInt8) (w : World) (hi : Lib.indexByte s.data.toList c < 0) :
    Calls Tryz.prog 52 #[.string s, .string ⟨#[c]⟩] w fun r w' => r = .returned (.tuple #[.string s, .string ⟨#[]⟩, .bool false]) ∧ Below w.heap.size w w' := by
  have I : Hid (Calls _ _ _ _ _) := Tryz.stringslite_Index_one s c w
  generalize Lib.indexByte s.data.toList c = i at hi I
  go_enter Tryz.func52, Tryz.ntmps52
  go_wp2_with (go_at_call 75; refine Calls.mono I.out ?_; rintro r w' ⟨rfl, rfl⟩)
  go_ret3
  exact ⟨rfl, Below.refl _ _⟩
theorem slCut_yes (s : ByteArray) (c : UInt8) (i : Nat) (w : World) (hi : Lib.indexByte s.data.toList c = i) (hl : s.size ≤ 10000000) :
    Calls Tryz.prog 52 #[.string s, .string ⟨#[c]⟩] w fun r w' => r = .returned (.tuple #[.string (bs (s.data.toList.take i)), .string (bs (s.data.toList.drop (i + 1))), .bool true]) ∧ Below w.heap.size w w' := by
  have hlt : i < s.size := by
    have := (Lib.indexByte_some hi).1
    have h2 := (List.getElem?_eq_some_iff.1 this).1
    rw [Lib.size_eq]; exact h2
  have e1 : s.extract 0 i = bs (s.data.toList.take i) := pl_ext (by rw [Lib.extract_from_zero, bs_data])
  have e2 : s.extract (i + 1) s.size = bs (s.data.toList.drop (i + 1)) := pl_ext (by rw [Lib.extract_to_end, bs_data])
  have I : Hid (Calls Tryz.prog 75 #[.string s, .string ⟨#[c]⟩] w fun r w' => r = .returned (.int .i64 i) ∧ w' = w) := by
    have := Tryz.stringslite_Index_one s c w
    rw [hi] at this
    exact this
  generalize bs (s.data.toList.take i) = s1 at e1 ⊢
  generalize bs (s.data.toList.drop (i + 1)) = s2 at e2 ⊢
  have c1 : (0 : Int) ≤ (i : Int) := by omega
  have c2 : (i : Int) ≤ (s.size : Int) := by omega
  have c3 : (0 : Int) ≤ (i : Int) + 1 := by omega
  have c4 : (i : Int) + 1 ≤ (s.size : Int) := by omega
  have E1 : Hid (_) := e1
  have E2 : Hid (_) := e2
  clear e1 e2 hi hlt
  go_enter Tryz.func52, Tryz.ntmps52
  go_wp2_with (go_at_call 75; refine Calls.mono I.out ?_; rintro r w' ⟨rfl, rfl⟩)
  go_region
  go_wp2
  go_ret3
  refine ⟨?_, pl_drew _ 1⟩
  simp
  exact ⟨E1.out, E2.out⟩
theorem pcut_no (s : ByteArray) (c : UInt8) (w : World) (hi : Lib.indexByte s.data.toList c < 0) :
    Calls Tryz.prog 35 #[.string s, .string ⟨#[c]⟩] w fun r w' => r = .returned (.tuple #[.string s, .string ⟨#[]⟩, .bool false]) ∧ Below w.heap.size w w' := by
  have C : Hid (Calls _ _ _ _ _) := slCut_no s c w hi
  clear hi
  go_enter Tryz.func35, Tryz.ntmps35
  go_wp2_with (go_at_call 52; refine Calls.mono C.out ?_; rintro r w' ⟨rfl, hb⟩)
  go_ret3
  exact ⟨rfl, hb⟩
theorem pcut_yes (s : ByteArray) (c : UInt8) (i : Nat) (w : World) (hi : Lib.indexByte s.data.toList c = i) (hl : s.size ≤ 10000000) :
    Calls Tryz.prog 35 #[.string s, .string ⟨#[c]⟩] w fun r w' => r = .returned (.tuple #[.string (bs (s.data.toList.take i)), .string (bs (s.data.toList.drop (i + 1))), .bool true]) ∧ Below w.heap.size w w' := by
  have C : Hid (Calls _ _ _ _ _) := slCut_yes s c i w hi hl
  clear hi
  generalize bs (s.data.toList.take i) = s1 at C ⊢
  generalize bs (s.data.toList.drop (i + 1)) = s2 at C ⊢
  go_enter Tryz.func35, Tryz.ntmps35
  go_wp2_with (go_at_call 52; refine Calls.mono C.out ?_; rintro r w' ⟨rfl, hb⟩)
  go_ret3
  exact ⟨rfl, hb⟩
end Go.Proofs.YtkjfbeempmfipaaGreatDoor

/- Package number's Read at thirteen digits (cut out of CmN, which wip/gen/mkCmN.py wrote). -/
namespace Go.Proofs.YtkjfbeempmfipaaGreatDoor
open Go Go.RowKit Go.Maps Cal
attribute [local go_sem] Oper.semAt_some

/-- the number that a text is: at most thirteen digits, without needless zeros -/
def numOfC (l : List UInt8) : Option Int := if l.length ≤ 13 then (match Lib.atoi l with | some n => if 0 ≤ n ∧ Lib.itoa n = l then some n else none | none => none) else none
theorem numOf_someC {l : List UInt8} {n : Int} (h : numOfC l = some n) : l.length ≤ 13 ∧ Lib.atoi l = some n ∧ 0 ≤ n ∧ Lib.itoa n = l := by
  unfold numOfC at h
  split at h
  · rename_i h9
    cases ha : Lib.atoi l with
    | none => rw [ha] at h; cases h
    | some m =>
      rw [ha] at h
      dsimp only at h
      split at h
      · rename_i hq
        cases h
        exact ⟨h9, rfl, hq⟩
      · cases h
  · cases h
theorem atoi_bdC {l : List UInt8} {n : Int} (h : Lib.atoi l = some n) (hl : l.length ≤ 13) : n < 1000000000000000000 := by
  obtain ⟨b0, r, e, q⟩ := Lib.atoi_cases h
  subst e
  rcases q with ⟨_, m, _, h1, rfl⟩ | ⟨_, m, _, h1, rfl⟩ | ⟨_, _, m, h1, rfl⟩
  · omega
  · have := Lib.decFrom_lt18 h1 (by simp at hl; omega); omega
  · have := Lib.decFrom_lt18 h1 (by omega); omega

theorem numR_longC (s : ByteArray) (w : World) (h : 13 < s.size) :
    Calls Tryz.prog 37 #[.string s, .int .i64 13] w fun r w' => r = .returned (.tuple #[.int .i64 0, .bool false]) ∧ Below w.heap.size w w' := by
  have h' : (13 : Int) < (s.size : Int) := by omega
  go_enter Tryz.func37, Tryz.ntmps37
  go_wp2
  go_ret2
  exact ⟨rfl, Below.refl _ _⟩
theorem numR_badC (s : ByteArray) (w : World) (g : GlobN w) (h : s.size ≤ 13) (ha : Lib.atoi s.data.toList = none) :
    Calls Tryz.prog 37 #[.string s, .int .i64 13] w fun r w' => r = .returned (.tuple #[.int .i64 0, .bool false]) ∧ Below w.heap.size w w' := by
  have h' : (s.size : Int) ≤ 13 := by omega
  obtain ⟨q, hq⟩ := g.syn
  have A : Hid (Calls _ _ _ _ _) := Tryz.strconv_Atoi_err s (by omega) ha _ w hq (.inr ⟨_, _, rfl⟩)
  clear g ha hq
  go_enter Tryz.func37, Tryz.ntmps37
  go_wp2_with (go_at_call 54; refine Calls.mono A.out ?_; rintro r w1 ⟨N, rfl, _, _, hb1⟩)
  go_ret2
  exact ⟨rfl, hb1⟩
theorem numR_anyC (s : ByteArray) (n : Int) (w : World) (g : GlobN w) (h : s.size ≤ 13) (ha : Lib.atoi s.data.toList = some n) :
    Calls Tryz.prog 37 #[.string s, .int .i64 13] w fun r w' => ((¬ (0 ≤ n ∧ Lib.itoa n = s.data.toList) ∧ r = .returned (.tuple #[.int .i64 0, .bool false])) ∨ ((0 ≤ n ∧ Lib.itoa n = s.data.toList) ∧ r = .returned (.tuple #[.int .i64 n, .bool true]))) ∧ Below w.heap.size w w' := by
  have h' : (s.size : Int) ≤ 13 := by omega
  have hbd := atoi_bdC ha (by rw [← Lib.size_eq]; exact h)
  have A : Hid (Calls Tryz.prog 54 #[.string s] w fun e w' => e = .returned (.tuple #[.int .i64 n, .nilIface]) ∧ Below w.heap.size w w') := by
    refine (Tryz.strconv_Atoi s n (by omega) ha w).mono ?_
    rintro e w' ⟨rfl, t, rfl⟩
    exact ⟨rfl, pl_bytes _ _ _⟩
  by_cases hn : n < 0
  · clear g ha
    go_enter Tryz.func37, Tryz.ntmps37
    go_wp2_with (go_at_call 54; refine Calls.mono A.out ?_; rintro r w1 ⟨rfl, hb1⟩)
    go_ret2
    exact ⟨.inl ⟨fun q => by omega, rfl⟩, hb1⟩
  · have hn0 : 0 ≤ n := by omega
    have I : Hid (∀ W, Below w.heap.size w W → Calls Tryz.prog 14 #[.int .i64 n] W fun e w' => e = .returned (.string (bs (Lib.itoa n))) ∧ Below W.heap.size W w') := fun W hW => itoa_all n W hn0 (by omega) (g.tab.step hW)
    clear ha
    by_cases he : bs (Lib.itoa n) = s
    · have hq : Lib.itoa n = s.data.toList := by rw [← he, bs_data]
      rw [he] at I
      clear he
      go_enter Tryz.func37, Tryz.ntmps37
      go_wp2_with (first
        | (go_at_call 54; refine Calls.mono A.out ?_; rintro r w1 ⟨rfl, hb1⟩)
        | (go_at_call 14; refine (I.out _ hb1).mono ?_; rintro r w2 ⟨rfl, hb2⟩))
      go_ret2
      exact ⟨.inr ⟨⟨hn0, hq⟩, rfl⟩, below_then hb1 hb2⟩
    · have hq : Lib.itoa n ≠ s.data.toList := fun q => he (pl_ext (by rw [bs_data]; exact q))
      have hne := pl_ne he
      generalize bs (Lib.itoa n) = t at I hne
      clear he
      go_enter Tryz.func37, Tryz.ntmps37
      go_wp2_with (first
        | (go_at_call 54; refine Calls.mono A.out ?_; rintro r w1 ⟨rfl, hb1⟩)
        | (go_at_call 14; refine (I.out _ hb1).mono ?_; rintro r w2 ⟨rfl, hb2⟩))
      go_ret2
      exact ⟨.inl ⟨fun q => hq q.2, rfl⟩, below_then hb1 hb2⟩
theorem numR_allC (s : ByteArray) (w : World) (g : GlobN w) :
    Calls Tryz.prog 37 #[.string s, .int .i64 13] w fun r w' => ((numOfC s.data.toList = none ∧ r = .returned (.tuple #[.int .i64 0, .bool false])) ∨ ∃ n, numOfC s.data.toList = some n ∧ r = .returned (.tuple #[.int .i64 n, .bool true])) ∧ Below w.heap.size w w' := by
  have hsz : s.data.toList.length = s.size := (Lib.size_eq s).symm
  rcases Nat.lt_or_ge 13 s.size with h9 | h9
  · refine Calls.mono (numR_longC s w h9) ?_
    rintro r w' ⟨q1, q2⟩
    exact ⟨.inl ⟨by unfold numOfC; rw [if_neg (by omega)], q1⟩, q2⟩
  · cases ha : Lib.atoi s.data.toList with
    | none =>
      refine Calls.mono (numR_badC s w g h9 ha) ?_
      rintro r w' ⟨q1, q2⟩
      exact ⟨.inl ⟨by unfold numOfC; rw [if_pos (by omega), ha], q1⟩, q2⟩
    | some n =>
      refine Calls.mono (numR_anyC s n w g h9 ha) ?_
      rintro r w' ⟨q1, q2⟩
      refine ⟨?_, q2⟩
      rcases q1 with ⟨k, rfl⟩ | ⟨k, rfl⟩
      · exact .inl ⟨by unfold numOfC; rw [if_pos (by omega), ha]; dsimp only; rw [if_neg k], rfl⟩
      · exact .inr ⟨n, by unfold numOfC; rw [if_pos (by omega), ha]; dsimp only; rw [if_pos k], rfl⟩

end Go.Proofs.YtkjfbeempmfipaaGreatDoor

/- Contracts of the document's own answer to days: MonthOf, MakeDay, DateOf, AddMonths: each returns what the plain mathematics (Cal) says. -/
namespace Go.Proofs.YtkjfbeempmfipaaGreatDoor
open Go.RowKit Cal

end Go.Proofs.YtkjfbeempmfipaaGreatDoor

/- Contracts of the document's own answer to days: MakeDay, DateOf, AddMonths. -/
namespace Go.Proofs.YtkjfbeempmfipaaGreatDoor
open Go.RowKit Cal

theorem dim2 (k : Int) (h0 : 2000 ≤ k) (h1 : k ≤ 2199) : ((dim k 2 == 29) = true ∧ yd k = 366) ∨ ((dim k 2 == 29) = false ∧ yd k = 365) := by
  have h := dim_feb k h0 h1
  rcases lp_eq k with ⟨_, hl⟩ | ⟨_, hl⟩
  · exact Or.inl ⟨by simp; omega, by unfold yd; omega⟩
  · exact Or.inr ⟨by simp; omega, by unfold yd; omega⟩

end Go.Proofs.YtkjfbeempmfipaaGreatDoor
