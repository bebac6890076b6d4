/- An event as a value, its lists in memory; contracts of package event's isID, isTitle, isDay, rises. -/
import Derived.Test.YtkjfbeempmfipaaGreatDoorJtAK
import Derived.BigQuiet
import Derived.Test.YtkjfbeempmfipaaGreatDoorJtAJ
namespace Go.Proofs.YtkjfbeempmfipaaGreatDoor
open Go.RowKit Cal

/-- a list of numbers in memory -/
def Ints (w : World) (sl : Value) (xs : List Int) : Prop :=
  ∃ (a : Option Addr) (c : Nat), sl = .slice a xs.length c ∧ xs.length ≤ 80000 ∧ xs.length ≤ c ∧
    ∀ (j : Nat) (h : j < xs.length), ∃ b : Nat, a = some ⟨b, 0, none⟩ ∧ b < w.heap.size ∧ w.cell? ⟨b, j, none⟩ = some (.int .i64 xs[j])
theorem Ints.step {w w' : World} {sl : Value} {xs : List Int} (h : Ints w sl xs) (hb : Below w.heap.size w w') : Ints w' sl xs := by
  obtain ⟨a, c, h1, h2, h3, h4⟩ := h
  refine ⟨a, c, h1, h2, h3, fun j hj => ?_⟩
  obtain ⟨b, e, hl, hc⟩ := h4 j hj
  exact ⟨b, e, Nat.lt_of_lt_of_le hl hb.size, (hb.cell (p := ⟨b, j, none⟩) hl).trans hc⟩
theorem Ints.nil (w : World) (c : Nat) : Ints w (.slice none 0 c) [] := ⟨none, c, rfl, by simp, by simp, fun j h => absurd h (by simp)⟩
/-- a list of moves in memory -/
def Movs (w : World) (sl : Value) (ms : List (Int × Int)) : Prop :=
  ∃ (a : Option Addr) (c : Nat), sl = .slice a ms.length c ∧ ms.length ≤ 80000 ∧ ms.length ≤ c ∧
    ∀ (j : Nat) (h : j < ms.length), ∃ b : Nat, a = some ⟨b, 0, none⟩ ∧ b < w.heap.size ∧ w.cell? ⟨b, j * 2, none⟩ = some (.int .i64 ms[j].1) ∧ w.cell? ⟨b, j * 2 + 1, none⟩ = some (.int .i64 ms[j].2)
theorem Movs.step {w w' : World} {sl : Value} {ms : List (Int × Int)} (h : Movs w sl ms) (hb : Below w.heap.size w w') : Movs w' sl ms := by
  obtain ⟨a, c, h1, h2, h3, h4⟩ := h
  refine ⟨a, c, h1, h2, h3, fun j hj => ?_⟩
  obtain ⟨b, e, hl, hc, hd⟩ := h4 j hj
  exact ⟨b, e, Nat.lt_of_lt_of_le hl hb.size, (hb.cell (p := ⟨b, j * 2, none⟩) hl).trans hc, (hb.cell (p := ⟨b, j * 2 + 1, none⟩) hl).trans hd⟩
theorem Movs.nil (w : World) (c : Nat) : Movs w (.slice none 0 c) [] := ⟨none, c, rfl, by simp, by simp, fun j h => absurd h (by simp)⟩

/-- a sign of an ID -/
def okc (c : UInt8) : Prop := (97 ≤ (c.toNat : Int) ∧ (c.toNat : Int) ≤ 122) ∨ (48 ≤ (c.toNat : Int) ∧ (c.toNat : Int) ≤ 57)
/-- an ID that is well -/
def okID (s : ByteArray) : Prop := (∀ (j : Nat) (h : j < s.size), okc s[j]) ∧ 1 ≤ s.size ∧ s.size ≤ 12
/-- a sign of a title -/
def okt (c : UInt8) : Prop := 32 ≤ (c.toNat : Int) ∧ (c.toNat : Int) ≤ 126 ∧ (c.toNat : Int) ≠ 124
def okTi (s : ByteArray) : Prop := (∀ (j : Nat) (h : j < s.size), okt s[j]) ∧ s.size ≤ 40

set_option maxHeartbeats 1000000 in
theorem isID_any (s : ByteArray) (w : World) (hs : s.size ≤ 60) (b : Bool) (hb : b = true ↔ okID s) :
    Calls Tryz.prog 87 #[.string s] w fun r w' => r = .returned (.bool b) ∧ w' = w := by
  have HB : Hid (b = true ↔ okID s) := hb
  clear hb
  go_enter Tryz.func87, Tryz.ntmps87
  go_wp2
  go_loop [3, 4, 5, 8] (fun _ _ _ i => ∃ k : Nat, k ≤ s.size ∧ i = .int .i64 k ∧ Hid (∀ (j : Nat) (h : j < s.size), j < k → okc s[j])) (fun _ _ _ i => s.size - (intOf i).toNat)
  case atStart => exact ⟨0, Nat.zero_le _, rfl, fun j _ h => absurd h (Nat.not_lt_zero _)⟩
  case round =>
    obtain ⟨k, hk, rfl, HA⟩ := hrel
    by_cases hlt : k < s.size
    · have HN : Hid (okc s[k] → ∀ (j : Nat) (h : j < s.size), j < k + 1 → okc s[j]) := fun hx j hj hjk => by
        by_cases ej : j = k
        · subst ej; exact hx
        · exact HA.out j hj (by omega)
      have HF : Hid (¬ okc s[k] → b = false) := fun hx => by
        cases b with
        | false => rfl
        | true => exact absurd ((HB.out.1 rfl).1 k hlt) hx
      clear HA HB
      have hok : Hid (okc s[k] ↔ (97 ≤ (s[k].toNat : Int) ∧ (s[k].toNat : Int) ≤ 122) ∨ (48 ≤ (s[k].toNat : Int) ∧ (s[k].toNat : Int) ≤ 57)) := Iff.rfl
      by_cases h1 : 97 ≤ (s[k].toNat : Int) ∧ (s[k].toNat : Int) ≤ 122
      · have HN' : Hid (_) := HN.out (hok.out.2 (.inl h1))
        clear HF HN hok
        obtain ⟨h1, h2⟩ := h1
        go_wp2
        go_round
        case rel => exact ⟨k + 1, by omega, by go_num, HN'.out⟩
        case measure => simp [intOf]; omega
      · by_cases h2 : 48 ≤ (s[k].toNat : Int) ∧ (s[k].toNat : Int) ≤ 57
        · have HN' : Hid (_) := HN.out (hok.out.2 (.inr h2))
          clear HF HN hok h1
          obtain ⟨h1, h2⟩ := h2
          go_wp2
          go_round
          case rel => exact ⟨k + 1, by omega, by go_num, HN'.out⟩
          case measure => simp [intOf]; omega
        · have HF' : Hid (b = false) := HF.out (fun q => by rcases hok.out.1 q with q | q; exact h1 q; exact h2 q)
          clear HF HN hok
          have h3 : (s[k].toNat : Int) < 48 ∨ (57 < (s[k].toNat : Int) ∧ (s[k].toNat : Int) < 97) ∨ 122 < (s[k].toNat : Int) := by omega
          clear h1 h2
          rcases h3 with h3 | ⟨h3, h4⟩ | h3
          · go_wp2
            go_ret
            exact ⟨ret_bool HF'.out.symm, rfl⟩
          · have e1 : decide ((s[k].toNat : Int) ≤ 57) = false := decide_eq_false (by omega)
            go_wp2
            go_ret
            exact ⟨ret_bool HF'.out.symm, rfl⟩
          · have e1 : decide ((s[k].toNat : Int) ≤ 57) = false := decide_eq_false (by omega)
            have e2 : decide ((s[k].toNat : Int) ≤ 122) = false := decide_eq_false (by omega)
            go_wp2
            go_ret
            exact ⟨ret_bool HF'.out.symm, rfl⟩
    · have HR : Hid (b = true ↔ 1 ≤ s.size ∧ s.size ≤ 12) := by
        show _ ↔ _
        rw [HB.out]
        exact ⟨fun q => q.2, fun q => ⟨fun j hj => HA.out j hj (by omega), q⟩⟩
      clear HA HB
      go_wp2
      all_goals
        go_ret
        refine ⟨ret_bool ?_, rfl⟩
        rw [Bool.eq_iff_iff, HR.out]
        simp
        try omega

set_option maxHeartbeats 1000000 in
theorem isTitle_any (s : ByteArray) (w : World) (hs : s.size ≤ 60) (b : Bool) (hb : b = true ↔ okTi s) :
    Calls Tryz.prog 88 #[.string s] w fun r w' => r = .returned (.bool b) ∧ Below w.heap.size w w' := by
  have HB : Hid (b = true ↔ okTi s) := hb
  clear hb
  go_enter Tryz.func88, Tryz.ntmps88
  go_wp2
  go_loopw [3, 6] (fun _ i wr => ∃ k q : Nat, k ≤ s.size ∧ i = .int .i64 k ∧ wr = w.drewN q ∧ Hid (∀ (j : Nat) (h : j < s.size), j < k → okt s[j])) (fun _ i _ => s.size - (intOf i).toNat)
  case atStart => exact ⟨0, 0, Nat.zero_le _, rfl, rfl, fun j _ h => absurd h (Nat.not_lt_zero _)⟩
  case round =>
    obtain ⟨k, q, hk, rfl, rfl, HA⟩ := hrel
    by_cases hlt : k < s.size
    · have HN : Hid (okt s[k] → ∀ (j : Nat) (h : j < s.size), j < k + 1 → okt s[j]) := fun hx j hj hjk => by
        by_cases ej : j = k
        · subst ej; exact hx
        · exact HA.out j hj (by omega)
      have HF : Hid (¬ okt s[k] → b = false) := fun hx => by
        cases b with
        | false => rfl
        | true => exact absurd ((HB.out.1 rfl).1 k hlt) hx
      have hok : Hid (okt s[k] ↔ 32 ≤ (s[k].toNat : Int) ∧ (s[k].toNat : Int) ≤ 126 ∧ (s[k].toNat : Int) ≠ 124) := Iff.rfl
      clear HA HB
      by_cases h1 : (s[k].toNat : Int) < 32
      · have HF' : Hid (b = false) := HF.out (fun x => by have := hok.out.1 x; omega)
        have e1 : decide ((s[k].toNat : Int) < 32) = true := decide_eq_true h1
        clear HF HN hok
        go_wp2_with (fail)
        go_quiet (fail)
        go_wp2
        go_ret
        exact ⟨ret_bool HF'.out.symm, below_then (drewN_below _ _) (drewN_below _ _)⟩
      · have e1 : decide ((s[k].toNat : Int) < 32) = false := decide_eq_false h1
        by_cases h2 : 126 < (s[k].toNat : Int)
        · have HF' : Hid (b = false) := HF.out (fun x => by have := hok.out.1 x; omega)
          have e2 : decide (126 < (s[k].toNat : Int)) = true := decide_eq_true h2
          clear HF HN hok
          go_wp2_with (fail)
          go_quiet (fail)
          go_wp2
          go_ret
          exact ⟨ret_bool HF'.out.symm, below_then (drewN_below _ _) (drewN_below _ _)⟩
        · have e2 : decide (126 < (s[k].toNat : Int)) = false := decide_eq_false h2
          by_cases h3 : (s[k].toNat : Int) = 124
          · have HF' : Hid (b = false) := HF.out (fun x => by have := hok.out.1 x; omega)
            have e3 : ((s[k].toNat : Int) == (((⟨#[124]⟩ : ByteArray)[0]'(by decide)).toNat : Int)) = true := by show ((s[k].toNat : Int) == 124) = true; rw [beq_iff_eq]; exact h3
            clear HF HN hok h3
            go_wp2_with (fail)
            go_quiet (fail)
            go_wp2
            go_ret
            exact ⟨ret_bool HF'.out.symm, below_then (drewN_below _ _) (drewN_below _ _)⟩
          · have HN' : Hid (_) := HN.out (hok.out.2 ⟨by omega, by omega, h3⟩)
            have e3 : ((s[k].toNat : Int) == (((⟨#[124]⟩ : ByteArray)[0]'(by decide)).toNat : Int)) = false := by show ((s[k].toNat : Int) == 124) = false; rw [beq_eq_false_iff_ne]; exact h3
            clear HF HN hok h3
            go_wp2_with (fail)
            go_quiet (fail)
            go_wp2
            go_roundw
            case rel => exact ⟨k + 1, _, by omega, by go_num, rfl, HN'.out⟩
            case measure => simp [intOf]; omega
    · have HR : Hid (b = true ↔ s.size ≤ 40) := by
        show _ ↔ _
        rw [HB.out]
        exact ⟨fun q => q.2, fun q => ⟨fun j hj => HA.out j hj (by omega), q⟩⟩
      clear HA HB
      go_wp2
      all_goals
        go_ret
        refine ⟨ret_bool ?_, drewN_below _ _⟩
        rw [Bool.eq_iff_iff, HR.out]
        simp
        try omega
theorem eisDay_any (n : Int) (w : World) (b : Bool) (hb : b = true ↔ (0 ≤ n ∧ n ≤ 73048)) : Calls Tryz.prog 89 #[.int .i64 n] w fun r w' => r = .returned (.bool b) ∧ w' = w := by
  have HB : Hid (_) := hb
  clear hb
  go_enter Tryz.func89, Tryz.ntmps89
  go_wp2
  all_goals
    go_ret
    refine ⟨ret_bool ?_, rfl⟩
    rw [Bool.eq_iff_iff, HB.out]
    simp
    try omega

theorem erises_any (ds : List Int) (sl : Value) (w : World) (hd : Ints w sl ds) (b : Bool) (hb : b = true ↔ Rise ds) :
    Calls Tryz.prog 121 #[sl] w fun r w' => r = .returned (.bool b) ∧ Below w.heap.size w w' := by
  obtain ⟨a, cap, rfl, h20, hcap, hc⟩ := hd
  have HC : Hid (_) := hc
  have HB : Hid (_) := hb
  clear hc hb
  go_enter Tryz.func121, Tryz.ntmps121
  go_wp2
  go_loopw [3] (fun i wr => ∃ m q : Nat, (m + 1 ≤ ds.length ∨ m = 0) ∧ i = .int .i64 ((m : Int) + 1) ∧ wr = w.drewN q ∧ Hid (∀ (j : Nat) (h : j + 1 < ds.length), j < m → ds[j] < ds[j + 1])) (fun i _ => ds.length - (intOf i).toNat)
  case atStart => exact ⟨0, 0, Or.inr rfl, rfl, rfl, fun j _ h => absurd h (by omega)⟩
  case round =>
    obtain ⟨m, q, hk, rfl, rfl, HA⟩ := hrel
    by_cases hlt : m + 1 < ds.length
    · obtain ⟨blk, rfl, hblk, hcell⟩ := HC.out (m + 1) hlt
      obtain ⟨blk', eb, _, hcell'⟩ := HC.out m (by omega)
      have eb' : blk' = blk := by simpa using eb.symm
      subst eb'
      have HN : Hid (ds[m] < ds[m + 1] → ∀ (j : Nat) (h : j + 1 < ds.length), j < m + 1 → ds[j] < ds[j + 1]) := fun hx j hj hjk => by
        by_cases ej : j = m
        · subst ej; exact hx
        · exact HA.out j hj (by omega)
      have HF : Hid (¬ ds[m] < ds[m + 1] → b = false) := fun hx => by
        cases b with
        | false => rfl
        | true => exact absurd ((HB.out.1 rfl) m hlt) hx
      clear HA HB HC eb
      generalize ds[m + 1] = d at hcell HN HF
      generalize ds[m] = d' at hcell' HN HF
      have hlt' : (m : Int) + 1 < ds.length := by omega
      by_cases hx : d' < d
      · have HN' : Hid (_) := HN.out hx
        clear HF HN
        go_wp2_with (fail)
        go_quiet (fail)
        go_wp2
        go_roundw
        case rel => exact ⟨m + 1, _, by omega, by go_num, rfl, HN'.out⟩
        case measure => simp [intOf]; omega
      · have HF' : Hid (b = false) := HF.out hx
        clear HF HN
        have hx' : d ≤ d' := by omega
        go_wp2_with (fail)
        go_quiet (fail)
        go_wp2
        go_ret
        exact ⟨ret_bool HF'.out.symm, below_then (drewN_below _ _) (drewN_below _ _)⟩
    · have HR : Hid (b = true) := HB.out.2 (fun j hj => HA.out j hj (by omega))
      clear HA HB HC
      have hlt' : ¬ (m : Int) + 1 < ds.length := by omega
      go_wp2
      go_ret
      exact ⟨ret_bool HR.out.symm, drewN_below _ _⟩
end Go.Proofs.YtkjfbeempmfipaaGreatDoor

/- Package commit's isNote, inBounds; the document's IsNote. -/
namespace Go.Proofs.YtkjfbeempmfipaaGreatDoor
open Go Go.RowKit Cal
attribute [local go_sem] Oper.semAt_some

theorem blkC {W : World} {b T : Nat} {a0 a1 a2 a3 : Value} (h : W.heap[b]? = some (.cells #[a0, a1, a2, a3] T (0, 0))) : W.cell? ⟨b, 0, none⟩ = some a0 ∧ W.cell? ⟨b, 1, none⟩ = some a1 ∧ W.cell? ⟨b, 2, none⟩ = some a2 ∧ W.cell? ⟨b, 3, none⟩ = some a3 := by simp [World.cell?, h]
/-- a byte of a note -/
def okN (c : UInt8) : Prop := 32 ≤ (c.toNat : Int) ∧ (c.toNat : Int) ≤ 126
/-- a note -/
def noteOk (s : ByteArray) : Prop := s.size ≤ 40 ∧ ∀ (j : Nat) (h : j < s.size), okN s[j]

set_option maxHeartbeats 1000000 in
theorem cmNote_any (s : ByteArray) (w : World) (hs : s.size ≤ 1000) (b : Bool) (hb : b = true ↔ noteOk s) :
    Calls Tryz.prog 19 #[.string s] w fun r w' => r = .returned (.bool b) ∧ Below w.heap.size w w' := by
  have HB : Hid (b = true ↔ noteOk s) := hb
  clear hb
  go_enter Tryz.func19, Tryz.ntmps19
  go_wp2
  go_loopw [3, 6] (fun _ i wr => ∃ k : Nat, k ≤ s.size ∧ i = .int .i64 k ∧ Hid (Below w.heap.size w wr) ∧ Hid (∀ (j : Nat) (h : j < s.size), j < k → okN s[j])) (fun _ i _ => s.size - (intOf i).toNat)
  case atStart => exact ⟨0, Nat.zero_le _, rfl, Below.refl _ _, fun j _ h => absurd h (Nat.not_lt_zero _)⟩
  case round =>
    obtain ⟨k, hk, rfl, hBw, HA⟩ := hrel
    by_cases hlt : k < s.size
    · have HN : Hid (okN s[k] → ∀ (j : Nat) (h : j < s.size), j < k + 1 → okN s[j]) := fun hx j hj hjk => by
        by_cases ej : j = k
        · subst ej; exact hx
        · exact HA.out j hj (by omega)
      have HF : Hid (¬ okN s[k] → b = false) := fun hx => by
        cases b with
        | false => rfl
        | true => exact absurd ((HB.out.1 rfl).2 k hlt) hx
      have hok : Hid (okN s[k] ↔ 32 ≤ (s[k].toNat : Int) ∧ (s[k].toNat : Int) ≤ 126) := Iff.rfl
      clear HA HB
      by_cases h1 : (s[k].toNat : Int) < 32
      · have HF' : Hid (b = false) := HF.out (fun x => by have := hok.out.1 x; omega)
        have e1 : decide ((s[k].toNat : Int) < 32) = true := decide_eq_true h1
        clear HF HN hok
        go_wp2_with (fail)
        try go_quiet (fail)
        go_wp2
        go_ret
        exact ⟨ret_bool HF'.out.symm, below_then hBw.out (by first | exact Below.refl _ _ | exact drewN_below _ _)⟩
      · have e1 : decide ((s[k].toNat : Int) < 32) = false := decide_eq_false h1
        by_cases h2 : 126 < (s[k].toNat : Int)
        · have HF' : Hid (b = false) := HF.out (fun x => by have := hok.out.1 x; omega)
          have e2 : decide (126 < (s[k].toNat : Int)) = true := decide_eq_true h2
          clear HF HN hok
          go_wp2_with (fail)
          try go_quiet (fail)
          go_wp2
          go_ret
          exact ⟨ret_bool HF'.out.symm, below_then hBw.out (by first | exact Below.refl _ _ | exact drewN_below _ _)⟩
        · have e2 : decide (126 < (s[k].toNat : Int)) = false := decide_eq_false h2
          have HN' : Hid (∀ (j : Nat) (h : j < s.size), j < k + 1 → okN s[j]) := HN.out (hok.out.2 ⟨by omega, by omega⟩)
          clear HF HN hok
          go_wp2_with (fail)
          try go_quiet (fail)
          go_wp2
          go_roundw
          case rel => exact ⟨k + 1, by omega, by go_num, below_then hBw.out (by first | exact Below.refl _ _ | exact drewN_below _ _), HN'.out⟩
          case measure => simp [intOf]; omega
    · have HE : Hid (b = true ↔ s.size ≤ 40) := HB.out.trans ⟨fun q => q.1, fun q => ⟨q, fun j hj => HA.out j hj (by omega)⟩⟩
      clear HA HB
      by_cases h40 : (s.size : Int) ≤ 40
      · have HT : Hid (b = true) := HE.out.2 (by omega)
        clear HE
        go_wp2
        go_ret
        exact ⟨ret_bool HT.out.symm, hBw.out⟩
      · have HT : Hid (b = false) := by
          show b = false
          cases b with
          | false => rfl
          | true => have := HE.out.1 rfl; omega
        clear HE
        go_wp2
        go_ret
        exact ⟨ret_bool HT.out.symm, hBw.out⟩

set_option maxHeartbeats 1000000 in
theorem isPlainC_any (s : ByteArray) (w : World) (hs : s.size ≤ 1000) (b : Bool) (hb : b = true ↔ ∀ (j : Nat) (h : j < s.size), okN s[j]) :
    Calls Tryz.prog 39 #[.string s] w fun r w' => r = .returned (.bool b) ∧ Below w.heap.size w w' := by
  have HB : Hid (b = true ↔ ∀ (j : Nat) (h : j < s.size), okN s[j]) := hb
  clear hb
  go_enter Tryz.func39, Tryz.ntmps39
  go_wp2
  go_loopw [3] (fun i wr => ∃ k : Nat, k ≤ s.size ∧ i = .int .i64 k ∧ Hid (Below w.heap.size w wr) ∧ Hid (∀ (j : Nat) (h : j < s.size), j < k → okN s[j])) (fun i _ => s.size - (intOf i).toNat)
  case atStart => exact ⟨0, Nat.zero_le _, rfl, Below.refl _ _, fun j _ h => absurd h (Nat.not_lt_zero _)⟩
  case round =>
    obtain ⟨k, hk, rfl, hBw, HA⟩ := hrel
    by_cases hlt : k < s.size
    · have HN : Hid (okN s[k] → ∀ (j : Nat) (h : j < s.size), j < k + 1 → okN s[j]) := fun hx j hj hjk => by
        by_cases ej : j = k
        · subst ej; exact hx
        · exact HA.out j hj (by omega)
      have HF : Hid (¬ okN s[k] → b = false) := fun hx => by
        cases b with
        | false => rfl
        | true => exact absurd (HB.out.1 rfl k hlt) hx
      have hok : Hid (okN s[k] ↔ 32 ≤ (s[k].toNat : Int) ∧ (s[k].toNat : Int) ≤ 126) := Iff.rfl
      clear HA HB
      by_cases h1 : (s[k].toNat : Int) < 32
      · have HF' : Hid (b = false) := HF.out (fun x => by have := hok.out.1 x; omega)
        have e1 : decide ((s[k].toNat : Int) < 32) = true := decide_eq_true h1
        clear HF HN hok
        go_wp2_with (fail)
        try go_quiet (fail)
        go_wp2
        go_ret
        exact ⟨ret_bool HF'.out.symm, below_then hBw.out (by first | exact Below.refl _ _ | exact drewN_below _ _)⟩
      · have e1 : decide ((s[k].toNat : Int) < 32) = false := decide_eq_false h1
        by_cases h2 : 126 < (s[k].toNat : Int)
        · have HF' : Hid (b = false) := HF.out (fun x => by have := hok.out.1 x; omega)
          have e2 : decide (126 < (s[k].toNat : Int)) = true := decide_eq_true h2
          clear HF HN hok
          go_wp2_with (fail)
          try go_quiet (fail)
          go_wp2
          go_ret
          exact ⟨ret_bool HF'.out.symm, below_then hBw.out (by first | exact Below.refl _ _ | exact drewN_below _ _)⟩
        · have e2 : decide (126 < (s[k].toNat : Int)) = false := decide_eq_false h2
          have HN' : Hid (_) := HN.out (hok.out.2 ⟨by omega, by omega⟩)
          clear HF HN hok
          go_wp2_with (fail)
          try go_quiet (fail)
          go_wp2
          go_roundw
          case rel => exact ⟨k + 1, by omega, by go_num, below_then hBw.out (by first | exact Below.refl _ _ | exact drewN_below _ _), HN'.out⟩
          case measure => simp [intOf]; omega
    · have HR : Hid (b = true) := HB.out.2 (fun j hj => HA.out j hj (by omega))
      clear HA HB
      go_wp2
      go_ret
      exact ⟨ret_bool HR.out.symm, hBw.out⟩

theorem risNote_any (s : ByteArray) (w : World) (hs : s.size ≤ 1000) (b : Bool) (hb : b = true ↔ noteOk s) :
    Calls Tryz.prog 22 #[.string s] w fun r w' => r = .returned (.bool b) ∧ Below w.heap.size w w' := by
  by_cases h40 : s.size ≤ 40
  · have IP : Hid (Calls _ _ _ _ _) := isPlainC_any s w hs b (hb.trans ⟨fun q => q.2, fun q => ⟨h40, q⟩⟩)
    have h40' : (s.size : Int) ≤ 40 := by omega
    clear hb
    go_enter Tryz.func22, Tryz.ntmps22
    go_wp2_with (go_at_call 39; refine Calls.mono IP.out ?_; rintro r w1 ⟨rfl, hb1⟩)
    go_ret
    exact ⟨rfl, hb1⟩
  · have h40' : ¬ ((s.size : Int) ≤ 40) := by omega
    have HF : Hid (b = false) := by
      show b = false
      cases b with
      | false => rfl
      | true => exact absurd (hb.1 rfl).1 h40
    clear hb h40
    go_enter Tryz.func22, Tryz.ntmps22
    go_wp2
    go_ret
    exact ⟨ret_bool HF.out.symm, Below.refl _ _⟩

/-- the bounds of a commit's numbers -/
def bdC (t : Int) (ps : List Int) (at_ : Int) : Prop := t ≤ 1099511627776 ∧ at_ ≤ 1099511627776 ∧ ps.length ≤ 2 ∧ ∀ p ∈ ps, p ≤ 1099511627776
set_option maxHeartbeats 1000000 in
theorem cmInB_any (t at_ : Int) (sl : Value) (ps : List Int) (note : ByteArray) (w : World) (hl : Ints w sl ps) (b : Bool) (hb : b = true ↔ bdC t ps at_) :
    Calls Tryz.prog 18 #[.agg #[.int .i64 t, sl, .int .i64 at_, .string note]] w fun r w' => r = .returned (.bool b) ∧ Below w.heap.size w w' := by
  obtain ⟨a, c, rfl, h8, hc, hcells⟩ := hl
  have hA := below_alloc w (.cells #[.int .i64 t, .slice a ps.length c, .int .i64 at_, .string note] 26)
  have kB : (w.alloc (.cells #[.int .i64 t, .slice a ps.length c, .int .i64 at_, .string note] 26)).heap[w.heap.size]? = some (.cells #[.int .i64 t, .slice a ps.length c, .int .i64 at_, .string note] 26 (0, 0)) := block_at _ rfl
  have HC : Hid (∀ (j : Nat) (h : j < ps.length), ∃ b : Nat, a = some ⟨b, 0, none⟩ ∧ (w.alloc (.cells #[.int .i64 t, .slice a ps.length c, .int .i64 at_, .string note] 26)).cell? ⟨b, j, none⟩ = some (.int .i64 ps[j])) := fun j hj => by
    obtain ⟨b, e, hl, hq⟩ := hcells j hj
    exact ⟨b, e, cell_step hq hA⟩
  have HB : Hid (b = true ↔ bdC t ps at_) := hb
  have HA : Hid (_) := hA
  clear hcells hb hA
  generalize hw0 : w.alloc (.cells #[.int .i64 t, .slice a ps.length c, .int .i64 at_, .string note] 26) = w0 at HC HA kB
  obtain ⟨x0, x1, x2, x3⟩ := blkC kB
  clear kB
  obtain ⟨L, hL⟩ : ∃ L, ps.length = L := ⟨_, rfl⟩
  rw [hL] at x1 h8 hc hw0 ⊢
  have HL : Hid (ps.length = L) := hL
  clear hL
  go_enter Tryz.func18, Tryz.ntmps18
  go_wp2
  go_loopw [4, 8] (fun _ i wr => ∃ k : Nat, k ≤ L ∧ i = .int .i64 k ∧ wr = w0 ∧ Hid (∀ (j : Nat) (h : j < ps.length), j < k → ps[j] ≤ 1099511627776)) (fun _ i _ => L - (intOf i).toNat)
  case atStart => exact ⟨0, Nat.zero_le _, rfl, rfl, fun j _ h => absurd h (Nat.not_lt_zero _)⟩
  case round =>
    obtain ⟨k, hk, rfl, rfl, HQ⟩ := hrel
    by_cases hlt : k < L
    · have hkp : k < ps.length := by rw [HL.out]; exact hlt
      obtain ⟨bb, rfl, hcell⟩ := HC.out k hkp
      have hlt' : (k : Int) < (L : Int) := by omega
      by_cases hp : ps[k] ≤ 1099511627776
      · have HQ2 : Hid (∀ (j : Nat) (h : j < ps.length), j < k + 1 → ps[j] ≤ 1099511627776) := fun j hj hjk => by
          by_cases ej : j = k
          · subst ej; exact hp
          · exact HQ.out j hj (by omega)
        generalize ps[k] = p at hcell hp
        clear HQ HC HB
        go_wp2
        go_roundw
        case rel => exact ⟨k + 1, by omega, by go_num, by first | rfl | trivial, HQ2.out⟩
        case measure => simp [intOf]; omega
      · have HF : Hid (b = false) := by
          show b = false
          cases b with
          | false => rfl
          | true => exact absurd ((HB.out.1 rfl).2.2.2 _ (List.getElem_mem hkp)) hp
        generalize ps[k] = p at hcell hp
        have hp' : 1099511627776 < p := by omega
        clear HQ HC HB hp
        go_wp2
        go_ret
        exact ⟨ret_bool HF.out.symm, HA.out⟩
    · have HE : Hid (b = true ↔ t ≤ 1099511627776 ∧ at_ ≤ 1099511627776 ∧ (L : Int) ≤ 2) := by
        refine HB.out.trans ⟨fun q => ⟨q.1, q.2.1, by have := q.2.2.1; rw [HL.out] at this; omega⟩, fun q => ⟨q.1, q.2.1, by rw [HL.out]; omega, fun p hp => ?_⟩⟩
        obtain ⟨j, hj, rfl⟩ := List.getElem_of_mem hp
        exact HQ.out j hj (by have := HL.out; omega)
      clear HQ HC HB
      by_cases h1 : t ≤ 1099511627776
      · by_cases h2 : at_ ≤ 1099511627776
        · by_cases h3 : (L : Int) ≤ 2
          · have HT : Hid (b = true) := HE.out.2 ⟨h1, h2, h3⟩
            clear HE
            go_wp2
            go_ret
            exact ⟨ret_bool HT.out.symm, HA.out⟩
          · have HT : Hid (b = false) := by
              show b = false
              cases b with
              | false => rfl
              | true => exact absurd (HE.out.1 rfl).2.2 h3
            clear HE
            go_wp2
            go_ret
            exact ⟨ret_bool HT.out.symm, HA.out⟩
        · have HT : Hid (b = false) := by
            show b = false
            cases b with
            | false => rfl
            | true => exact absurd (HE.out.1 rfl).2.1 h2
          clear HE
          go_wp2
          go_ret
          exact ⟨ret_bool HT.out.symm, HA.out⟩
      · have HT : Hid (b = false) := by
          show b = false
          cases b with
          | false => rfl
          | true => exact absurd (HE.out.1 rfl).1 h1
        clear HE
        go_wp2
        go_ret
        exact ⟨ret_bool HT.out.symm, HA.out⟩
end Go.Proofs.YtkjfbeempmfipaaGreatDoor
