/- Plain mathematics of reading a day's text: which signs stand where, and the number that digits are. -/
import Derived.Test.YtfnajhpcbajhfaaDoorTxt
import Derived.Lib.Strings
import Derived.Lib.IndexBytes
namespace Go.Proofs.YtfnajhpcbajhfaaDoor.Cal
open Go

/-- a line at the fifth and the eighth place, else a digit -/
def sgn (j : Nat) (c : UInt8) : Prop := if j = 4 ∨ j = 7 then (c.toNat : Int) = 45 else 48 ≤ (c.toNat : Int) ∧ (c.toNat : Int) ≤ 57
/-- digits -/
def digs (l : List UInt8) : Prop := ∀ c ∈ l, 48 ≤ (c.toNat : Int) ∧ (c.toNat : Int) ≤ 57
/-- the number that digits are -/
def val (l : List UInt8) : Int := l.foldl (fun a c => a * 10 + ((c.toNat : Int) - 48)) 0
/-- a day's text, by its signs -/
def isDT (s : ByteArray) : Prop := s.size = 10 ∧ ∀ (j : Nat) (h : j < s.size), sgn j s[j]

theorem sgn_line {j : Nat} {c : UInt8} (h : j = 4 ∨ j = 7) : sgn j c ↔ (c.toNat : Int) = 45 := by unfold sgn; rw [if_pos h]
theorem sgn_digit {j : Nat} {c : UInt8} (h : ¬ (j = 4 ∨ j = 7)) : sgn j c ↔ (48 ≤ (c.toNat : Int) ∧ (c.toNat : Int) ≤ 57) := by unfold sgn; rw [if_neg h]
theorem val_snoc (l : List UInt8) (c : UInt8) : val (l ++ [c]) = val l * 10 + ((c.toNat : Int) - 48) := by unfold val; rw [List.foldl_append]; rfl
theorem take_snoc (s : ByteArray) (k : Nat) (h : k < s.size) : s.data.toList.take (k + 1) = s.data.toList.take k ++ [s[k]] := by
  rw [List.take_succ_eq_append_getElem (by simpa using h)]; rfl
theorem digs_take {l : List UInt8} (h : digs l) (k : Nat) : digs (l.take k) := fun c hc => h c (List.mem_of_mem_take hc)
theorem digs_at {s : ByteArray} (h : digs s.data.toList) (k : Nat) (hk : k < s.size) : 48 ≤ (s[k].toNat : Int) ∧ (s[k].toNat : Int) ≤ 57 :=
  h _ (by show s.data[k] ∈ _; exact Array.getElem_mem_toList hk)
theorem val_bd (l : List UInt8) (h : digs l) (hl : l.length ≤ 4) : 0 ≤ val l ∧ val l ≤ 9999 := by
  match l, hl with
  | [], _ => simp [val]
  | [a], _ => have := h a (by simp); simp [val]; omega
  | [a, b], _ => have := h a (by simp); have := h b (by simp); simp [val]; omega
  | [a, b, c], _ => have := h a (by simp); have := h b (by simp); have := h c (by simp); simp [val]; omega
  | [a, b, c, d], _ => have := h a (by simp); have := h b (by simp); have := h c (by simp); have := h d (by simp); simp [val]; omega
  | _ :: _ :: _ :: _ :: _ :: _, h => simp at h

/-- a text of ten signs, sign by sign -/
theorem ten {s : ByteArray} (h : s.size = 10) : ∃ c0 c1 c2 c3 c4 c5 c6 c7 c8 c9 : UInt8, s = ⟨#[c0, c1, c2, c3, c4, c5, c6, c7, c8, c9]⟩ := by
  obtain ⟨⟨l⟩⟩ := s
  have hl : l.length = 10 := h
  match l, hl with
  | [c0, c1, c2, c3, c4, c5, c6, c7, c8, c9], _ => exact ⟨c0, c1, c2, c3, c4, c5, c6, c7, c8, c9, rfl⟩
theorem isDT_parts {s : ByteArray} (h : isDT s) : digs (s.extract 0 4).data.toList ∧ digs (s.extract 5 7).data.toList ∧ digs (s.extract 8 s.size).data.toList ∧ (s.extract 0 4).size = 4 ∧ (s.extract 5 7).size = 2 ∧ (s.extract 8 s.size).size = 2 := by
  obtain ⟨h10, hall⟩ := h
  obtain ⟨c0, c1, c2, c3, c4, c5, c6, c7, c8, c9, rfl⟩ := ten h10
  have a0 := (sgn_digit (by omega)).1 (hall 0 (by rw [h10]; omega))
  have a1 := (sgn_digit (by omega)).1 (hall 1 (by rw [h10]; omega))
  have a2 := (sgn_digit (by omega)).1 (hall 2 (by rw [h10]; omega))
  have a3 := (sgn_digit (by omega)).1 (hall 3 (by rw [h10]; omega))
  have a5 := (sgn_digit (by omega)).1 (hall 5 (by rw [h10]; omega))
  have a6 := (sgn_digit (by omega)).1 (hall 6 (by rw [h10]; omega))
  have a8 := (sgn_digit (by omega)).1 (hall 8 (by rw [h10]; omega))
  have a9 := (sgn_digit (by omega)).1 (hall 9 (by rw [h10]; omega))
  refine ⟨?_, ?_, ?_, rfl, rfl, rfl⟩
  · rw [Lib.extract_data]; intro c hc
    have hc' : c ∈ [c0, c1, c2, c3] := hc
    simp only [List.mem_cons, List.not_mem_nil, or_false] at hc'
    rcases hc' with rfl | rfl | rfl | rfl
    · exact a0
    · exact a1
    · exact a2
    · exact a3
  · rw [Lib.extract_data]; intro c hc
    have hc' : c ∈ [c5, c6] := hc
    simp only [List.mem_cons, List.not_mem_nil, or_false] at hc'
    rcases hc' with rfl | rfl
    · exact a5
    · exact a6
  · rw [Lib.extract_data]; intro c hc
    have hc' : c ∈ [c8, c9] := hc
    simp only [List.mem_cons, List.not_mem_nil, or_false] at hc'
    rcases hc' with rfl | rfl
    · exact a8
    · exact a9
/-- the year, the month and the day of a text -/
def yS (s : ByteArray) : Int := val (s.extract 0 4).data.toList
def mS (s : ByteArray) : Int := val (s.extract 5 7).data.toList
def dS (s : ByteArray) : Int := val (s.extract 8 s.size).data.toList

theorem dgt_bd (k : Int) (h0 : 0 ≤ k) (h1 : k ≤ 9) : ((dgt k).toNat : Int) = 48 + k := by rw [dgt_nat k h0 h1]; omega
theorem txt_isDT (y m d : Int) (hy0 : 0 ≤ y) (hy1 : y ≤ 9999) (hm0 : 0 ≤ m) (hm1 : m ≤ 99) (hd0 : 0 ≤ d) (hd1 : d ≤ 99) : isDT ⟨(txt y m d).toArray⟩ := by
  refine ⟨rfl, ?_⟩
  have a0 := dgt_bd (y / 1000) (by omega) (by omega)
  have a1 := dgt_bd (y / 100 % 10) (by omega) (by omega)
  have a2 := dgt_bd (y / 10 % 10) (by omega) (by omega)
  have a3 := dgt_bd (y % 10) (by omega) (by omega)
  have a5 := dgt_bd (m / 10) (by omega) (by omega)
  have a6 := dgt_bd (m % 10) (by omega) (by omega)
  have a8 := dgt_bd (d / 10) (by omega) (by omega)
  have a9 := dgt_bd (d % 10) (by omega) (by omega)
  intro j hj
  have hj' : j < 10 := hj
  have key : ∀ i : Fin 10, sgn i.1 ((txt y m d)[i.1]'(by rw [txt_length]; exact i.2)) := by
    intro i
    match i with
    | ⟨0, _⟩ => show sgn 0 (dgt (y / 1000)); rw [sgn_digit (by omega)]; omega
    | ⟨1, _⟩ => show sgn 1 (dgt (y / 100 % 10)); rw [sgn_digit (by omega)]; omega
    | ⟨2, _⟩ => show sgn 2 (dgt (y / 10 % 10)); rw [sgn_digit (by omega)]; omega
    | ⟨3, _⟩ => show sgn 3 (dgt (y % 10)); rw [sgn_digit (by omega)]; omega
    | ⟨4, _⟩ => show sgn 4 45; rw [sgn_line (by omega)]; rfl
    | ⟨5, _⟩ => show sgn 5 (dgt (m / 10)); rw [sgn_digit (by omega)]; omega
    | ⟨6, _⟩ => show sgn 6 (dgt (m % 10)); rw [sgn_digit (by omega)]; omega
    | ⟨7, _⟩ => show sgn 7 45; rw [sgn_line (by omega)]; rfl
    | ⟨8, _⟩ => show sgn 8 (dgt (d / 10)); rw [sgn_digit (by omega)]; omega
    | ⟨9, _⟩ => show sgn 9 (dgt (d % 10)); rw [sgn_digit (by omega)]; omega
  exact key ⟨j, hj'⟩
theorem txt_nums (y m d : Int) (hy0 : 0 ≤ y) (hy1 : y ≤ 9999) (hm0 : 0 ≤ m) (hm1 : m ≤ 99) (hd0 : 0 ≤ d) (hd1 : d ≤ 99) :
    yS ⟨(txt y m d).toArray⟩ = y ∧ mS ⟨(txt y m d).toArray⟩ = m ∧ dS ⟨(txt y m d).toArray⟩ = d := by
  have a0 := dgt_bd (y / 1000) (by omega) (by omega)
  have a1 := dgt_bd (y / 100 % 10) (by omega) (by omega)
  have a2 := dgt_bd (y / 10 % 10) (by omega) (by omega)
  have a3 := dgt_bd (y % 10) (by omega) (by omega)
  have a5 := dgt_bd (m / 10) (by omega) (by omega)
  have a6 := dgt_bd (m % 10) (by omega) (by omega)
  have a8 := dgt_bd (d / 10) (by omega) (by omega)
  have a9 := dgt_bd (d % 10) (by omega) (by omega)
  refine ⟨?_, ?_, ?_⟩
  · unfold yS; rw [Lib.extract_data]
    show val [dgt (y / 1000), dgt (y / 100 % 10), dgt (y / 10 % 10), dgt (y % 10)] = y
    simp only [val, List.foldl_cons, List.foldl_nil, a0, a1, a2, a3]; omega
  · unfold mS; rw [Lib.extract_data]
    show val [dgt (m / 10), dgt (m % 10)] = m
    simp only [val, List.foldl_cons, List.foldl_nil, a5, a6]; omega
  · unfold dS; rw [Lib.extract_data]
    show val [dgt (d / 10), dgt (d % 10)] = d
    simp only [val, List.foldl_cons, List.foldl_nil, a8, a9]; omega
end Go.Proofs.YtfnajhpcbajhfaaDoor.Cal
