/- Package number's Read; strings.Cut at one sign; package pool's cutText: of any text. -/
import Derived.Test.YtcaeafgkogfgdaaDoorPlS
import Derived.Test.YtcaeafgkogfgdaaDoorJoinW
import Derived.Test.YtcaeafgkogfgdaaDoorRuleM
import Derived.Test.YtcaeafgkogfgdaaDoorShelf4
import Derived.BigRegion
import Derived.Lib.Split
namespace Go.Proofs.YtcaeafgkogfgdaaDoor
open Go Go.RowKit Go.Maps Cal
attribute [local go_sem] Oper.semAt_some

theorem pl_ne {x y : ByteArray} (h : y ≠ x) : (y.toList == x.toList) = false := by
  rw [beq_eq_false_iff_ne, ByteArray.toList_eq, ByteArray.toList_eq]
  exact fun e => h (pl_ext e)
theorem pl_bytes (w : World) (b : TypeId) (t : ByteArray) : Below w.heap.size w (Lib.bytesWorld w b t) := by
  refine ⟨rfl, rfl, rfl, ?_, fun k hk => ?_⟩
  · show w.heap.size ≤ ((w.heap.push _).modify _ _).size
    simp
  · show ((w.heap.push _).modify w.heap.size _)[k]? = w.heap[k]?
    rw [Array.getElem?_modify, if_neg (by omega), Array.getElem?_push_lt hk, Array.getElem?_eq_getElem hk]
theorem itoa_all (n : Int) (w : World) (h0 : 0 ≤ n) (h1 : n ≤ 9223372036854775807) (ht : Tab w) :
    Calls Tryd.prog 20 #[.int .i64 n] w fun e w' => e = .returned (.string (bs (Lib.itoa n))) ∧ Below w.heap.size w w' := by
  refine (Tryd.strconv_Itoa n (by omega) (by omega) w ht).mono ?_
  rintro e w' ⟨rfl, k, os, rfl⟩
  exact ⟨rfl, grow_below _ _ _⟩
/-- what package number leans on -/
structure GlobN (w : World) : Prop where
  tab : Tab w
  syn : ∃ q, w.cell? ⟨6, 0, none⟩ = some (.iface 90 (.pointer (some q)))
theorem GlobN.step {w w' : World} (h : GlobN w) (hb : Below w.heap.size w w') : GlobN w' := by
  obtain ⟨q, hq⟩ := h.syn
  exact ⟨h.tab.step hb, q, cell_step hq hb⟩

/-- the number that a text is: at most nine digits, without needless zeros -/
def numOf (l : List UInt8) : Option Int := if l.length ≤ 9 then (match Lib.atoi l with | some n => if 0 ≤ n ∧ Lib.itoa n = l then some n else none | none => none) else none
theorem numOf_some {l : List UInt8} {n : Int} (h : numOf l = some n) : l.length ≤ 9 ∧ Lib.atoi l = some n ∧ 0 ≤ n ∧ Lib.itoa n = l := by
  unfold numOf at h
  split at h
  · rename_i h9
    cases ha : Lib.atoi l with
    | none => rw [ha] at h; cases h
    | some m =>
      rw [ha] at h
      dsimp only at h
      split at h
      · rename_i hq
        cases h
        exact ⟨h9, rfl, hq⟩
      · cases h
  · cases h
theorem numOf_itoa (n : Int) (h0 : 0 ≤ n) (h1 : n ≤ 999999) : numOf (Lib.itoa n) = some n := by
  unfold numOf
  have := itoa_len n h0 h1
  rw [if_pos (by omega), itoa_atoi n h0]
  dsimp only
  rw [if_pos ⟨h0, rfl⟩]
theorem atoi_bd {l : List UInt8} {n : Int} (h : Lib.atoi l = some n) (hl : l.length ≤ 9) : n < 1000000000000000000 := by
  obtain ⟨b0, r, e, q⟩ := Lib.atoi_cases h
  subst e
  rcases q with ⟨_, m, _, h1, rfl⟩ | ⟨_, m, _, h1, rfl⟩ | ⟨_, _, m, h1, rfl⟩
  · omega
  · have := Lib.decFrom_lt18 h1 (by simp at hl; omega); omega
  · have := Lib.decFrom_lt18 h1 (by omega); omega

theorem slCut_no (s : ByteArray) (c : UInt8) (w : World) (hi : Lib.indexByte s.data.toList c < 0) :
    Calls Tryd.prog 25 #[.string s, .string ⟨#[c]⟩] w fun r w' => r = .returned (.tuple #[.string s, .string ⟨#[]⟩, .bool false]) ∧ Below w.heap.size w w' := by
  have I : Hid (Calls _ _ _ _ _) := Tryd.stringslite_Index_one s c w
  generalize Lib.indexByte s.data.toList c = i at hi I
  go_enter Tryd.func25, Tryd.ntmps25
  go_wp2_with (go_at_call 29; refine Calls.mono I.out ?_; rintro r w' ⟨rfl, rfl⟩)
  go_ret3
  exact ⟨rfl, Below.refl _ _⟩
theorem slCut_yes (s : ByteArray) (c : UInt8) (i : Nat) (w : World) (hi : Lib.indexByte s.data.toList c = i) (hl : s.size ≤ 10000000) :
    Calls Tryd.prog 25 #[.string s, .string ⟨#[c]⟩] w fun r w' => r = .returned (.tuple #[.string (bs (s.data.toList.take i)), .string (bs (s.data.toList.drop (i + 1))), .bool true]) ∧ Below w.heap.size w w' := by
  have hlt : i < s.size := by
    have := (Lib.indexByte_some hi).1
    have h2 := (List.getElem?_eq_some_iff.1 this).1
    rw [Lib.size_eq]; exact h2
  have e1 : s.extract 0 i = bs (s.data.toList.take i) := pl_ext (by rw [Lib.extract_from_zero, bs_data])
  have e2 : s.extract (i + 1) s.size = bs (s.data.toList.drop (i + 1)) := pl_ext (by rw [Lib.extract_to_end, bs_data])
  have I : Hid (Calls Tryd.prog 29 #[.string s, .string ⟨#[c]⟩] w fun r w' => r = .returned (.int .i64 i) ∧ w' = w) := by
    have := Tryd.stringslite_Index_one s c w
    rw [hi] at this
    exact this
  generalize bs (s.data.toList.take i) = s1 at e1 ⊢
  generalize bs (s.data.toList.drop (i + 1)) = s2 at e2 ⊢
  have c1 : (0 : Int) ≤ (i : Int) := by omega
  have c2 : (i : Int) ≤ (s.size : Int) := by omega
  have c3 : (0 : Int) ≤ (i : Int) + 1 := by omega
  have c4 : (i : Int) + 1 ≤ (s.size : Int) := by omega
  have E1 : Hid (_) := e1
  have E2 : Hid (_) := e2
  clear e1 e2 hi hlt
  go_enter Tryd.func25, Tryd.ntmps25
  go_wp2_with (go_at_call 29; refine Calls.mono I.out ?_; rintro r w' ⟨rfl, rfl⟩)
  go_region
  go_wp2
  go_ret3
  refine ⟨?_, pl_drew _ 1⟩
  simp
  exact ⟨E1.out, E2.out⟩
theorem pcut_no (s : ByteArray) (c : UInt8) (w : World) (hi : Lib.indexByte s.data.toList c < 0) :
    Calls Tryd.prog 21 #[.string s, .string ⟨#[c]⟩] w fun r w' => r = .returned (.tuple #[.string s, .string ⟨#[]⟩, .bool false]) ∧ Below w.heap.size w w' := by
  have C : Hid (Calls _ _ _ _ _) := slCut_no s c w hi
  clear hi
  go_enter Tryd.func21, Tryd.ntmps21
  go_wp2_with (go_at_call 25; refine Calls.mono C.out ?_; rintro r w' ⟨rfl, hb⟩)
  go_ret3
  exact ⟨rfl, hb⟩
theorem pcut_yes (s : ByteArray) (c : UInt8) (i : Nat) (w : World) (hi : Lib.indexByte s.data.toList c = i) (hl : s.size ≤ 10000000) :
    Calls Tryd.prog 21 #[.string s, .string ⟨#[c]⟩] w fun r w' => r = .returned (.tuple #[.string (bs (s.data.toList.take i)), .string (bs (s.data.toList.drop (i + 1))), .bool true]) ∧ Below w.heap.size w w' := by
  have C : Hid (Calls _ _ _ _ _) := slCut_yes s c i w hi hl
  clear hi
  generalize bs (s.data.toList.take i) = s1 at C ⊢
  generalize bs (s.data.toList.drop (i + 1)) = s2 at C ⊢
  go_enter Tryd.func21, Tryd.ntmps21
  go_wp2_with (go_at_call 25; refine Calls.mono C.out ?_; rintro r w' ⟨rfl, hb⟩)
  go_ret3
  exact ⟨rfl, hb⟩
end Go.Proofs.YtcaeafgkogfgdaaDoor
