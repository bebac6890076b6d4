/- Plain mathematics of reading a day's text sign by sign: what has been read of the year, the month and the day. -/
import Derived.Test.YtfnajhpcbajhfaaDoorReadM
namespace Go.Proofs.YtfnajhpcbajhfaaDoor.Cal
open Go

/-- what has been read behind so many signs: of the year, the month, the day -/
def rd0 (s : ByteArray) (i : Nat) : Int := val (s.data.toList.take (min i 4))
def rd1 (s : ByteArray) (i : Nat) : Int := val ((s.data.toList.drop 5).take (min (i - 5) 2))
def rd2 (s : ByteArray) (i : Nat) : Int := val ((s.data.toList.drop 8).take (min (i - 8) 2))
/-- the signs so far are right -/
def okTo (s : ByteArray) (i : Nat) : Prop := ∀ (j : Nat) (h : j < s.size), j < i → sgn j s[j]

theorem okTo_succ {s : ByteArray} {i : Nat} (h : okTo s i) (hi : i < s.size) (hc : sgn i s[i]) : okTo s (i + 1) := by
  intro j hj hji
  by_cases e : j = i
  · subst e; exact hc
  · exact h j hj (by omega)
theorem take_at (s : ByteArray) (a k : Nat) (h : a + k < s.size) : (s.data.toList.drop a).take (k + 1) = (s.data.toList.drop a).take k ++ [s[a + k]] := by
  have hl : s.data.toList.length = s.size := by simp
  rw [List.take_succ_eq_append_getElem (by rw [List.length_drop, hl]; omega)]
  rw [List.getElem_drop]; rfl
theorem val_step (s : ByteArray) (a k : Nat) (h : a + k < s.size) : val ((s.data.toList.drop a).take (k + 1)) = 10 * val ((s.data.toList.drop a).take k) + ((s[a + k].toNat : Int) - 48) := by
  rw [take_at s a k h, val_snoc]; omega
theorem digs_seg {s : ByteArray} {i a k : Nat} (h : okTo s i) (hk : a + k ≤ i) (hd : ∀ j, a ≤ j → j < a + k → ¬ (j = 4 ∨ j = 7)) (hs : i ≤ s.size) : digs ((s.data.toList.drop a).take k) := by
  intro c hc
  obtain ⟨j, hj, e⟩ := List.getElem_of_mem hc
  rw [List.length_take] at hj
  rw [List.getElem_take, List.getElem_drop] at e
  have hsz : a + j < s.size := by omega
  have := h (a + j) hsz (by omega)
  rw [sgn_digit (hd (a + j) (by omega) (by omega))] at this
  have e2 : s[a + j] = c := by rw [← e]; rfl
  rw [e2] at this
  exact this
theorem seg_len (s : ByteArray) (a k : Nat) (hk : k ≤ 4) : ((s.data.toList.drop a).take k).length ≤ 4 := by rw [List.length_take]; omega
theorem rd0_bd {s : ByteArray} {i : Nat} (h : okTo s i) (hs : i ≤ s.size) : 0 ≤ rd0 s i ∧ rd0 s i ≤ 9999 := by
  have := val_bd _ (digs_seg (a := 0) (k := min i 4) h (by omega) (by omega) hs) (seg_len s 0 _ (by omega))
  rw [List.drop_zero] at this; exact this
theorem rd1_bd {s : ByteArray} {i : Nat} (h : okTo s i) (hs : i ≤ s.size) : 0 ≤ rd1 s i ∧ rd1 s i ≤ 9999 := by
  by_cases h5 : i ≤ 5
  · have e : min (i - 5) 2 = 0 := by omega
    unfold rd1; rw [e]; simp [val]
  · exact val_bd _ (digs_seg (a := 5) (k := min (i - 5) 2) h (by omega) (by omega) hs) (seg_len s 5 _ (by omega))
theorem rd2_bd {s : ByteArray} {i : Nat} (h : okTo s i) (hs : i ≤ s.size) : 0 ≤ rd2 s i ∧ rd2 s i ≤ 9999 := by
  by_cases h8 : i ≤ 8
  · have e : min (i - 8) 2 = 0 := by omega
    unfold rd2; rw [e]; simp [val]
  · exact val_bd _ (digs_seg (a := 8) (k := min (i - 8) 2) h (by omega) (by omega) hs) (seg_len s 8 _ (by omega))
theorem rd0_step (s : ByteArray) (i : Nat) (h : i < 4) (hs : i < s.size) : rd0 s (i + 1) = 10 * rd0 s i + ((s[i].toNat : Int) - 48) := by
  have := val_step s 0 i (by omega)
  rw [List.drop_zero] at this
  unfold rd0
  have e1 : min (i + 1) 4 = i + 1 := by omega
  have e2 : min i 4 = i := by omega
  rw [e1, e2, this]
  simp
theorem rd1_step (s : ByteArray) (i : Nat) (h0 : 5 ≤ i) (h1 : i < 7) (hs : i < s.size) : rd1 s (i + 1) = 10 * rd1 s i + ((s[i].toNat : Int) - 48) := by
  obtain ⟨k, rfl⟩ : ∃ k, i = 5 + k := ⟨i - 5, by omega⟩
  have := val_step s 5 k (by omega)
  unfold rd1
  have e1 : min (5 + k + 1 - 5) 2 = k + 1 := by omega
  have e2 : min (5 + k - 5) 2 = k := by omega
  rw [e1, e2, this]
theorem rd2_step (s : ByteArray) (i : Nat) (h0 : 8 ≤ i) (h1 : i < 10) (hs : i < s.size) : rd2 s (i + 1) = 10 * rd2 s i + ((s[i].toNat : Int) - 48) := by
  obtain ⟨k, rfl⟩ : ∃ k, i = 8 + k := ⟨i - 8, by omega⟩
  have := val_step s 8 k (by omega)
  unfold rd2
  have e1 : min (8 + k + 1 - 8) 2 = k + 1 := by omega
  have e2 : min (8 + k - 8) 2 = k := by omega
  rw [e1, e2, this]
theorem rd0_same (s : ByteArray) (i : Nat) (h : 4 ≤ i) : rd0 s (i + 1) = rd0 s i := by
  unfold rd0
  have e1 : min (i + 1) 4 = 4 := by omega
  have e2 : min i 4 = 4 := by omega
  rw [e1, e2]
theorem rd1_same (s : ByteArray) (i : Nat) (h : i < 5 ∨ 7 ≤ i) : rd1 s (i + 1) = rd1 s i := by
  unfold rd1
  have e : min (i + 1 - 5) 2 = min (i - 5) 2 := by omega
  rw [e]
theorem rd2_same (s : ByteArray) (i : Nat) (h : i < 8) : rd2 s (i + 1) = rd2 s i := by
  unfold rd2
  have e : min (i + 1 - 8) 2 = min (i - 8) 2 := by omega
  rw [e]
theorem rd_end {s : ByteArray} (h : s.size = 10) : rd0 s 10 = yS s ∧ rd1 s 10 = mS s ∧ rd2 s 10 = dS s := by
  unfold rd0 rd1 rd2 yS mS dS
  rw [Lib.extract_data, Lib.extract_data, Lib.extract_data, h]
  exact ⟨rfl, rfl, rfl⟩
theorem rd_zero (s : ByteArray) : rd0 s 0 = 0 ∧ rd1 s 0 = 0 ∧ rd2 s 0 = 0 := ⟨rfl, rfl, rfl⟩
end Go.Proofs.YtfnajhpcbajhfaaDoor.Cal
