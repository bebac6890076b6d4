/- Package commit's isNote, inBounds; the document's IsNote. -/
import Derived.Test.YtckdjamdpellaaaGreatDoorCmN
import Derived.Test.YtckdjamdpellaaaGreatDoorEvV
namespace Go.Proofs.YtckdjamdpellaaaGreatDoor
open Go Go.RowKit Cal
attribute [local go_sem] Oper.semAt_some

theorem blkC {W : World} {b T : Nat} {a0 a1 a2 a3 : Value} (h : W.heap[b]? = some (.cells #[a0, a1, a2, a3] T (0, 0))) : W.cell? ⟨b, 0, none⟩ = some a0 ∧ W.cell? ⟨b, 1, none⟩ = some a1 ∧ W.cell? ⟨b, 2, none⟩ = some a2 ∧ W.cell? ⟨b, 3, none⟩ = some a3 := by simp [World.cell?, h]
/-- a byte of a note -/
def okN (c : UInt8) : Prop := 32 ≤ (c.toNat : Int) ∧ (c.toNat : Int) ≤ 126
/-- a note -/
def noteOk (s : ByteArray) : Prop := s.size ≤ 40 ∧ ∀ (j : Nat) (h : j < s.size), okN s[j]

set_option maxHeartbeats 1000000 in
theorem cmNote_any (s : ByteArray) (w : World) (hs : s.size ≤ 1000) (b : Bool) (hb : b = true ↔ noteOk s) :
    Calls Tryz.prog 19 #[.string s] w fun r w' => r = .returned (.bool b) ∧ Below w.heap.size w w' := by
  have HB : Hid (b = true ↔ noteOk s) := hb
  clear hb
  go_enter Tryz.func19, Tryz.ntmps19
  go_wp2
  go_loopw [3, 6] (fun _ i wr => ∃ k : Nat, k ≤ s.size ∧ i = .int .i64 k ∧ Hid (Below w.heap.size w wr) ∧ Hid (∀ (j : Nat) (h : j < s.size), j < k → okN s[j])) (fun _ i _ => s.size - (intOf i).toNat)
  case atStart => exact ⟨0, Nat.zero_le _, rfl, Below.refl _ _, fun j _ h => absurd h (Nat.not_lt_zero _)⟩
  case round =>
    obtain ⟨k, hk, rfl, hBw, HA⟩ := hrel
    by_cases hlt : k < s.size
    · have HN : Hid (okN s[k] → ∀ (j : Nat) (h : j < s.size), j < k + 1 → okN s[j]) := fun hx j hj hjk => by
        by_cases ej : j = k
        · subst ej; exact hx
        · exact HA.out j hj (by omega)
      have HF : Hid (¬ okN s[k] → b = false) := fun hx => by
        cases b with
        | false => rfl
        | true => exact absurd ((HB.out.1 rfl).2 k hlt) hx
      have hok : Hid (okN s[k] ↔ 32 ≤ (s[k].toNat : Int) ∧ (s[k].toNat : Int) ≤ 126) := Iff.rfl
      clear HA HB
      by_cases h1 : (s[k].toNat : Int) < 32
      · have HF' : Hid (b = false) := HF.out (fun x => by have := hok.out.1 x; omega)
        have e1 : decide ((s[k].toNat : Int) < 32) = true := decide_eq_true h1
        clear HF HN hok
        go_wp2_with (fail)
        try go_quiet (fail)
        go_wp2
        go_ret
        exact ⟨ret_bool HF'.out.symm, below_then hBw.out (by first | exact Below.refl _ _ | exact drewN_below _ _)⟩
      · have e1 : decide ((s[k].toNat : Int) < 32) = false := decide_eq_false h1
        by_cases h2 : 126 < (s[k].toNat : Int)
        · have HF' : Hid (b = false) := HF.out (fun x => by have := hok.out.1 x; omega)
          have e2 : decide (126 < (s[k].toNat : Int)) = true := decide_eq_true h2
          clear HF HN hok
          go_wp2_with (fail)
          try go_quiet (fail)
          go_wp2
          go_ret
          exact ⟨ret_bool HF'.out.symm, below_then hBw.out (by first | exact Below.refl _ _ | exact drewN_below _ _)⟩
        · have e2 : decide (126 < (s[k].toNat : Int)) = false := decide_eq_false h2
          have HN' : Hid (∀ (j : Nat) (h : j < s.size), j < k + 1 → okN s[j]) := HN.out (hok.out.2 ⟨by omega, by omega⟩)
          clear HF HN hok
          go_wp2_with (fail)
          try go_quiet (fail)
          go_wp2
          go_roundw
          case rel => exact ⟨k + 1, by omega, by go_num, below_then hBw.out (by first | exact Below.refl _ _ | exact drewN_below _ _), HN'.out⟩
          case measure => simp [intOf]; omega
    · have HE : Hid (b = true ↔ s.size ≤ 40) := HB.out.trans ⟨fun q => q.1, fun q => ⟨q, fun j hj => HA.out j hj (by omega)⟩⟩
      clear HA HB
      by_cases h40 : (s.size : Int) ≤ 40
      · have HT : Hid (b = true) := HE.out.2 (by omega)
        clear HE
        go_wp2
        go_ret
        exact ⟨ret_bool HT.out.symm, hBw.out⟩
      · have HT : Hid (b = false) := by
          show b = false
          cases b with
          | false => rfl
          | true => have := HE.out.1 rfl; omega
        clear HE
        go_wp2
        go_ret
        exact ⟨ret_bool HT.out.symm, hBw.out⟩

set_option maxHeartbeats 1000000 in
theorem isPlainC_any (s : ByteArray) (w : World) (hs : s.size ≤ 1000) (b : Bool) (hb : b = true ↔ ∀ (j : Nat) (h : j < s.size), okN s[j]) :
    Calls Tryz.prog 39 #[.string s] w fun r w' => r = .returned (.bool b) ∧ Below w.heap.size w w' := by
  have HB : Hid (b = true ↔ ∀ (j : Nat) (h : j < s.size), okN s[j]) := hb
  clear hb
  go_enter Tryz.func39, Tryz.ntmps39
  go_wp2
  go_loopw [3] (fun i wr => ∃ k : Nat, k ≤ s.size ∧ i = .int .i64 k ∧ Hid (Below w.heap.size w wr) ∧ Hid (∀ (j : Nat) (h : j < s.size), j < k → okN s[j])) (fun i _ => s.size - (intOf i).toNat)
  case atStart => exact ⟨0, Nat.zero_le _, rfl, Below.refl _ _, fun j _ h => absurd h (Nat.not_lt_zero _)⟩
  case round =>
    obtain ⟨k, hk, rfl, hBw, HA⟩ := hrel
    by_cases hlt : k < s.size
    · have HN : Hid (okN s[k] → ∀ (j : Nat) (h : j < s.size), j < k + 1 → okN s[j]) := fun hx j hj hjk => by
        by_cases ej : j = k
        · subst ej; exact hx
        · exact HA.out j hj (by omega)
      have HF : Hid (¬ okN s[k] → b = false) := fun hx => by
        cases b with
        | false => rfl
        | true => exact absurd (HB.out.1 rfl k hlt) hx
      have hok : Hid (okN s[k] ↔ 32 ≤ (s[k].toNat : Int) ∧ (s[k].toNat : Int) ≤ 126) := Iff.rfl
      clear HA HB
      by_cases h1 : (s[k].toNat : Int) < 32
      · have HF' : Hid (b = false) := HF.out (fun x => by have := hok.out.1 x; omega)
        have e1 : decide ((s[k].toNat : Int) < 32) = true := decide_eq_true h1
        clear HF HN hok
        go_wp2_with (fail)
        try go_quiet (fail)
        go_wp2
        go_ret
        exact ⟨ret_bool HF'.out.symm, below_then hBw.out (by first | exact Below.refl _ _ | exact drewN_below _ _)⟩
      · have e1 : decide ((s[k].toNat : Int) < 32) = false := decide_eq_false h1
        by_cases h2 : 126 < (s[k].toNat : Int)
        · have HF' : Hid (b = false) := HF.out (fun x => by have := hok.out.1 x; omega)
          have e2 : decide (126 < (s[k].toNat : Int)) = true := decide_eq_true h2
          clear HF HN hok
          go_wp2_with (fail)
          try go_quiet (fail)
          go_wp2
          go_ret
          exact ⟨ret_bool HF'.out.symm, below_then hBw.out (by first | exact Below.refl _ _ | exact drewN_below _ _)⟩
        · have e2 : decide (126 < (s[k].toNat : Int)) = false := decide_eq_false h2
          have HN' : Hid (_) := HN.out (hok.out.2 ⟨by omega, by omega⟩)
          clear HF HN hok
          go_wp2_with (fail)
          try go_quiet (fail)
          go_wp2
          go_roundw
          case rel => exact ⟨k + 1, by omega, by go_num, below_then hBw.out (by first | exact Below.refl _ _ | exact drewN_below _ _), HN'.out⟩
          case measure => simp [intOf]; omega
    · have HR : Hid (b = true) := HB.out.2 (fun j hj => HA.out j hj (by omega))
      clear HA HB
      go_wp2
      go_ret
      exact ⟨ret_bool HR.out.symm, hBw.out⟩

theorem risNote_any (s : ByteArray) (w : World) (hs : s.size ≤ 1000) (b : Bool) (hb : b = true ↔ noteOk s) :
    Calls Tryz.prog 22 #[.string s] w fun r w' => r = .returned (.bool b) ∧ Below w.heap.size w w' := by
  by_cases h40 : s.size ≤ 40
  · have IP : Hid (Calls _ _ _ _ _) := isPlainC_any s w hs b (hb.trans ⟨fun q => q.2, fun q => ⟨h40, q⟩⟩)
    have h40' : (s.size : Int) ≤ 40 := by omega
    clear hb
    go_enter Tryz.func22, Tryz.ntmps22
    go_wp2_with (go_at_call 39; refine Calls.mono IP.out ?_; rintro r w1 ⟨rfl, hb1⟩)
    go_ret
    exact ⟨rfl, hb1⟩
  · have h40' : ¬ ((s.size : Int) ≤ 40) := by omega
    have HF : Hid (b = false) := by
      show b = false
      cases b with
      | false => rfl
      | true => exact absurd (hb.1 rfl).1 h40
    clear hb h40
    go_enter Tryz.func22, Tryz.ntmps22
    go_wp2
    go_ret
    exact ⟨ret_bool HF.out.symm, Below.refl _ _⟩

/-- the bounds of a commit's numbers -/
def bdC (t : Int) (ps : List Int) (at_ : Int) : Prop := t ≤ 1099511627776 ∧ at_ ≤ 1099511627776 ∧ ps.length ≤ 2 ∧ ∀ p ∈ ps, p ≤ 1099511627776
set_option maxHeartbeats 1000000 in
theorem cmInB_any (t at_ : Int) (sl : Value) (ps : List Int) (note : ByteArray) (w : World) (hl : Ints w sl ps) (b : Bool) (hb : b = true ↔ bdC t ps at_) :
    Calls Tryz.prog 18 #[.agg #[.int .i64 t, sl, .int .i64 at_, .string note]] w fun r w' => r = .returned (.bool b) ∧ Below w.heap.size w w' := by
  obtain ⟨a, c, rfl, h8, hc, hcells⟩ := hl
  have hA := below_alloc w (.cells #[.int .i64 t, .slice a ps.length c, .int .i64 at_, .string note] 26)
  have kB : (w.alloc (.cells #[.int .i64 t, .slice a ps.length c, .int .i64 at_, .string note] 26)).heap[w.heap.size]? = some (.cells #[.int .i64 t, .slice a ps.length c, .int .i64 at_, .string note] 26 (0, 0)) := block_at _ rfl
  have HC : Hid (∀ (j : Nat) (h : j < ps.length), ∃ b : Nat, a = some ⟨b, 0, none⟩ ∧ (w.alloc (.cells #[.int .i64 t, .slice a ps.length c, .int .i64 at_, .string note] 26)).cell? ⟨b, j, none⟩ = some (.int .i64 ps[j])) := fun j hj => by
    obtain ⟨b, e, hl, hq⟩ := hcells j hj
    exact ⟨b, e, cell_step hq hA⟩
  have HB : Hid (b = true ↔ bdC t ps at_) := hb
  have HA : Hid (_) := hA
  clear hcells hb hA
  generalize hw0 : w.alloc (.cells #[.int .i64 t, .slice a ps.length c, .int .i64 at_, .string note] 26) = w0 at HC HA kB
  obtain ⟨x0, x1, x2, x3⟩ := blkC kB
  clear kB
  obtain ⟨L, hL⟩ : ∃ L, ps.length = L := ⟨_, rfl⟩
  rw [hL] at x1 h8 hc hw0 ⊢
  have HL : Hid (ps.length = L) := hL
  clear hL
  go_enter Tryz.func18, Tryz.ntmps18
  go_wp2
  go_loopw [4, 8] (fun _ i wr => ∃ k : Nat, k ≤ L ∧ i = .int .i64 k ∧ wr = w0 ∧ Hid (∀ (j : Nat) (h : j < ps.length), j < k → ps[j] ≤ 1099511627776)) (fun _ i _ => L - (intOf i).toNat)
  case atStart => exact ⟨0, Nat.zero_le _, rfl, rfl, fun j _ h => absurd h (Nat.not_lt_zero _)⟩
  case round =>
    obtain ⟨k, hk, rfl, rfl, HQ⟩ := hrel
    by_cases hlt : k < L
    · have hkp : k < ps.length := by rw [HL.out]; exact hlt
      obtain ⟨bb, rfl, hcell⟩ := HC.out k hkp
      have hlt' : (k : Int) < (L : Int) := by omega
      by_cases hp : ps[k] ≤ 1099511627776
      · have HQ2 : Hid (∀ (j : Nat) (h : j < ps.length), j < k + 1 → ps[j] ≤ 1099511627776) := fun j hj hjk => by
          by_cases ej : j = k
          · subst ej; exact hp
          · exact HQ.out j hj (by omega)
        generalize ps[k] = p at hcell hp
        clear HQ HC HB
        go_wp2
        go_roundw
        case rel => exact ⟨k + 1, by omega, by go_num, by first | rfl | trivial, HQ2.out⟩
        case measure => simp [intOf]; omega
      · have HF : Hid (b = false) := by
          show b = false
          cases b with
          | false => rfl
          | true => exact absurd ((HB.out.1 rfl).2.2.2 _ (List.getElem_mem hkp)) hp
        generalize ps[k] = p at hcell hp
        have hp' : 1099511627776 < p := by omega
        clear HQ HC HB hp
        go_wp2
        go_ret
        exact ⟨ret_bool HF.out.symm, HA.out⟩
    · have HE : Hid (b = true ↔ t ≤ 1099511627776 ∧ at_ ≤ 1099511627776 ∧ (L : Int) ≤ 2) := by
        refine HB.out.trans ⟨fun q => ⟨q.1, q.2.1, by have := q.2.2.1; rw [HL.out] at this; omega⟩, fun q => ⟨q.1, q.2.1, by rw [HL.out]; omega, fun p hp => ?_⟩⟩
        obtain ⟨j, hj, rfl⟩ := List.getElem_of_mem hp
        exact HQ.out j hj (by have := HL.out; omega)
      clear HQ HC HB
      by_cases h1 : t ≤ 1099511627776
      · by_cases h2 : at_ ≤ 1099511627776
        · by_cases h3 : (L : Int) ≤ 2
          · have HT : Hid (b = true) := HE.out.2 ⟨h1, h2, h3⟩
            clear HE
            go_wp2
            go_ret
            exact ⟨ret_bool HT.out.symm, HA.out⟩
          · have HT : Hid (b = false) := by
              show b = false
              cases b with
              | false => rfl
              | true => exact absurd (HE.out.1 rfl).2.2 h3
            clear HE
            go_wp2
            go_ret
            exact ⟨ret_bool HT.out.symm, HA.out⟩
        · have HT : Hid (b = false) := by
            show b = false
            cases b with
            | false => rfl
            | true => exact absurd (HE.out.1 rfl).2.1 h2
          clear HE
          go_wp2
          go_ret
          exact ⟨ret_bool HT.out.symm, HA.out⟩
      · have HT : Hid (b = false) := by
          show b = false
          cases b with
          | false => rfl
          | true => exact absurd (HE.out.1 rfl).1 h1
        clear HE
        go_wp2
        go_ret
        exact ⟨ret_bool HT.out.symm, HA.out⟩
end Go.Proofs.YtckdjamdpellaaaGreatDoor
