/- A rule as a value, its days in memory, the errors and names that package rule reads; contracts of isFreq, inBounds, isShaped, rises and Check. -/
import Derived.Test.YtfnajhpcbajhfabDoorExpL
import Derived.Test.YtfnajhpcbajhfabDoorExpM
namespace Go.Proofs.YtfnajhpcbajhfabDoor
open Go.RowKit Cal

/-- a rule as a value -/
def rv (f : ByteArray) (e : Int) (sl : Value) (c u : Int) : Value := .agg #[.string f, .int .i64 e, sl, .int .i64 c, .int .i64 u]
/-- a list of days in memory -/
def Days (w : World) (sl : Value) (ds : List Int) : Prop :=
  ∃ (a : Option Addr) (c : Nat), sl = .slice a ds.length c ∧ ds.length ≤ 20 ∧ ds.length ≤ c ∧
    ∀ (j : Nat) (h : j < ds.length), ∃ b : Nat, a = some ⟨b, 0, none⟩ ∧ b < w.heap.size ∧ w.cell? ⟨b, j, none⟩ = some (.int .i64 ds[j])
theorem Days.step {w w' : World} {sl : Value} {ds : List Int} (h : Days w sl ds) (hb : Below w.heap.size w w') : Days w' sl ds := by
  obtain ⟨a, c, h1, h2, h3, h4⟩ := h
  refine ⟨a, c, h1, h2, h3, fun j hj => ?_⟩
  obtain ⟨b, e, hl, hc⟩ := h4 j hj
  exact ⟨b, e, Nat.lt_of_lt_of_le hl hb.size, (hb.cell (p := ⟨b, j, none⟩) hl).trans hc⟩
theorem Days.nil (w : World) (c : Nat) : Days w (.slice none 0 c) [] := ⟨none, c, rfl, by simp, by simp, fun j h => absurd h (by simp)⟩

/-- what package rule reads -/
structure Glob (w : World) : Prop where
  name : ∃ p, w.cell? ⟨1, 0, none⟩ = some (.iface 103 (.pointer (some p)))
  bound : ∃ p, w.cell? ⟨2, 0, none⟩ = some (.iface 103 (.pointer (some p)))
  shape : ∃ p, w.cell? ⟨3, 0, none⟩ = some (.iface 103 (.pointer (some p)))
  order : ∃ p, w.cell? ⟨4, 0, none⟩ = some (.iface 103 (.pointer (some p)))
theorem Glob.step {w w' : World} (g : Glob w) (hb : Below w.heap.size w w') : Glob w' := by
  obtain ⟨⟨p1, h1⟩, ⟨p2, h2⟩, ⟨p3, h3⟩, ⟨p4, h4⟩⟩ := g
  exact ⟨⟨p1, cell_step h1 hb⟩, ⟨p2, cell_step h2 hb⟩, ⟨p3, cell_step h3 hb⟩, ⟨p4, cell_step h4 hb⟩⟩

/-- is it one of the five? -/
def isF (s : ByteArray) : Bool := s.toList == [111, 110, 99, 101] || s.toList == [100, 97, 105, 108, 121] || s.toList == [119, 101, 101, 107, 108, 121] || s.toList == [109, 111, 110, 116, 104, 108, 121] || s.toList == [121, 101, 97, 114, 108, 121]

theorem isFreq_any (s : ByteArray) (w : World) :
    Calls Tryd.prog 27 #[.string s] w fun e w' => e = .returned (.bool (isF s)) ∧ w' = w := by
  cases h1 : (s.toList == [111, 110, 99, 101]) with
  | true =>
    have e : isF s = true := by unfold isF; rw [h1]; rfl
    rw [e]
    go_enter Tryd.func27, Tryd.ntmps27
    go_wp2
    go_ret
    exact ⟨rfl, rfl⟩
  | false =>
  cases h2 : (s.toList == [100, 97, 105, 108, 121]) with
  | true =>
    have e : isF s = true := by unfold isF; rw [h1, h2]; rfl
    rw [e]
    go_enter Tryd.func27, Tryd.ntmps27
    go_wp2
    go_ret
    exact ⟨rfl, rfl⟩
  | false =>
  cases h3 : (s.toList == [119, 101, 101, 107, 108, 121]) with
  | true =>
    have e : isF s = true := by unfold isF; rw [h1, h2, h3]; rfl
    rw [e]
    go_enter Tryd.func27, Tryd.ntmps27
    go_wp2
    go_ret
    exact ⟨rfl, rfl⟩
  | false =>
  cases h4 : (s.toList == [109, 111, 110, 116, 104, 108, 121]) with
  | true =>
    have e : isF s = true := by unfold isF; rw [h1, h2, h3, h4]; rfl
    rw [e]
    go_enter Tryd.func27, Tryd.ntmps27
    go_wp2
    go_ret
    exact ⟨rfl, rfl⟩
  | false =>
  cases h5 : (s.toList == [121, 101, 97, 114, 108, 121]) with
  | true =>
    have e : isF s = true := by unfold isF; rw [h1, h2, h3, h4, h5]; rfl
    rw [e]
    go_enter Tryd.func27, Tryd.ntmps27
    go_wp2
    go_ret
    exact ⟨rfl, rfl⟩
  | false =>
    have e : isF s = false := by unfold isF; rw [h1, h2, h3, h4, h5]; rfl
    rw [e]
    go_enter Tryd.func27, Tryd.ntmps27
    go_wp2
    go_ret
    exact ⟨rfl, rfl⟩

/-- the bounds of a rule's numbers, and of its days -/
def bN (e c u : Int) : Bool := decide (1 ≤ e ∧ e ≤ 100 ∧ 0 ≤ c ∧ c ≤ 1000 ∧ -1 ≤ u ∧ u ≤ 73048)
def bD (ds : List Int) : Prop := ∀ d ∈ ds, 0 ≤ d ∧ d ≤ 6


set_option maxHeartbeats 1000000 in
theorem inBounds_any (f : ByteArray) (e : Int) (sl : Value) (c u : Int) (ds : List Int) (w : World) (hd : Days w sl ds) (b : Bool) (hb : b = true ↔ (bN e c u = true ∧ bD ds)) :
    Calls Tryd.prog 28 #[rv f e sl c u] w fun r w' => r = .returned (.bool b) ∧ Below w.heap.size w w' := by
  obtain ⟨a, cap, rfl, h20, hcap, hc⟩ := hd
  unfold rv
  have HC : Hid (_) := hc
  have HB : Hid (_) := hb
  clear hc hb
  go_enter Tryd.func28, Tryd.ntmps28
  go_wp2
  go_loop [4, 8] (fun d i => ∃ k : Nat, k ≤ ds.length ∧ i = .int .i64 k ∧ Hid (∀ (j : Nat) (h : j < ds.length), j < k → 0 ≤ ds[j] ∧ ds[j] ≤ 6)) (fun _ i => ds.length - (intOf i).toNat)
  case atStart => exact ⟨0, Nat.zero_le _, rfl, fun j _ h => absurd h (Nat.not_lt_zero _)⟩
  case round =>
    obtain ⟨k, hk, rfl, HA⟩ := hrel
    by_cases hlt : k < ds.length
    · obtain ⟨blk, rfl, hblk, hcell⟩ := HC.out k hlt
      have hcell2 := cell_alloc (.cells #[.string f, .int .i64 e, .slice (some ⟨blk, 0, none⟩) ds.length cap, .int .i64 c, .int .i64 u] 24) hcell
      have HN : Hid (0 ≤ ds[k] → ds[k] ≤ 6 → ∀ (j : Nat) (h : j < ds.length), j < k + 1 → 0 ≤ ds[j] ∧ ds[j] ≤ 6) := fun h0 h6 j hj hjk => by
        by_cases ej : j = k
        · subst ej; exact ⟨h0, h6⟩
        · exact HA.out j hj (by omega)
      have HF : Hid (¬ (0 ≤ ds[k] ∧ ds[k] ≤ 6) → b = false) := fun hx => by
        cases b with
        | false => rfl
        | true => exact absurd ((HB.out.1 rfl).2 ds[k] (List.getElem_mem hlt)) hx
      clear HA HB HC
      generalize ds[k] = d at hcell hcell2 HN HF
      by_cases h0 : d < 0
      · have HF' : Hid (b = false) := HF.out (by omega)
        clear HF HN
        go_wp2
        go_ret
        exact ⟨ret_bool HF'.out.symm, below_alloc _ _⟩
      · by_cases h6 : 7 ≤ d
        · have HF' : Hid (b = false) := HF.out (by omega)
          clear HF HN
          go_wp2
          go_ret
          exact ⟨ret_bool HF'.out.symm, below_alloc _ _⟩
        · have HN' : Hid (_) := HN.out (by omega) (by omega)
          clear HF HN
          go_wp2
          go_round
          case rel => exact ⟨k + 1, by omega, by go_num, HN'.out⟩
          case measure => simp [intOf]; omega
    · have HR : Hid (b = bN e c u) := by
        have hD : bD ds := fun d hd => by
          obtain ⟨j, hj, rfl⟩ := List.mem_iff_getElem.1 hd
          exact HA.out j hj (by omega)
        have := HB.out
        cases h1 : bN e c u with
        | true => exact this.2 ⟨h1, hD⟩
        | false =>
          cases b with
          | false => rfl
          | true => rw [h1] at this; exact absurd (this.1 rfl).1 (by decide)
      clear HA HB HC
      go_wp2
      all_goals
        go_ret
        refine ⟨ret_bool ?_, below_alloc _ _⟩
        rw [HR.out]
        unfold bN
        first
        | exact (decide_eq_true (by omega)).symm
        | exact (decide_eq_false (by omega)).symm
        | exact decide_eq_decide.2 (by omega)

theorem rises_any (ds : List Int) (sl : Value) (w : World) (hd : Days w sl ds) (b : Bool) (hb : b = true ↔ ∀ (i : Nat) (h : i + 1 < ds.length), ds[i] < ds[i + 1]) :
    Calls Tryd.prog 30 #[sl] w fun r w' => r = .returned (.bool b) ∧ Below w.heap.size w w' := by
  obtain ⟨a, cap, rfl, h20, hcap, hc⟩ := hd
  have HC : Hid (_) := hc
  have HB : Hid (_) := hb
  clear hc hb
  go_enter Tryd.func30, Tryd.ntmps30
  go_wp2
  go_loopw [3] (fun i wr => ∃ m q : Nat, (m + 1 ≤ ds.length ∨ m = 0) ∧ i = .int .i64 ((m : Int) + 1) ∧ wr = w.drewN q ∧ Hid (∀ (j : Nat) (h : j + 1 < ds.length), j < m → ds[j] < ds[j + 1])) (fun i _ => ds.length - (intOf i).toNat)
  case atStart => exact ⟨0, 0, Or.inr rfl, rfl, rfl, fun j _ h => absurd h (by omega)⟩
  case round =>
    obtain ⟨m, q, hk, rfl, rfl, HA⟩ := hrel
    by_cases hlt : m + 1 < ds.length
    · obtain ⟨blk, rfl, hblk, hcell⟩ := HC.out (m + 1) hlt
      obtain ⟨blk', eb, _, hcell'⟩ := HC.out m (by omega)
      have eb' : blk' = blk := by simpa using eb.symm
      subst eb'
      have HN : Hid (ds[m] < ds[m + 1] → ∀ (j : Nat) (h : j + 1 < ds.length), j < m + 1 → ds[j] < ds[j + 1]) := fun hx j hj hjk => by
        by_cases ej : j = m
        · subst ej; exact hx
        · exact HA.out j hj (by omega)
      have HF : Hid (¬ ds[m] < ds[m + 1] → b = false) := fun hx => by
        cases b with
        | false => rfl
        | true => exact absurd ((HB.out.1 rfl) m hlt) hx
      clear HA HB HC eb
      generalize ds[m + 1] = d at hcell HN HF
      generalize ds[m] = d' at hcell' HN HF
      have hlt' : (m : Int) + 1 < ds.length := by omega
      by_cases hx : d' < d
      · have HN' : Hid (_) := HN.out hx
        clear HF HN
        go_wp2_with (fail)
        go_quiet (fail)
        go_wp2
        go_roundw
        case rel => exact ⟨m + 1, _, by omega, by go_num, rfl, HN'.out⟩
        case measure => simp [intOf]; omega
      · have HF' : Hid (b = false) := HF.out hx
        clear HF HN
        have hx' : d ≤ d' := by omega
        go_wp2_with (fail)
        go_quiet (fail)
        go_wp2
        go_ret
        exact ⟨ret_bool HF'.out.symm, below_then (drewN_below _ _) (drewN_below _ _)⟩
    · have HR : Hid (b = true) := HB.out.2 (fun j hj => HA.out j hj (by omega))
      clear HA HB HC
      have hlt' : ¬ (m : Int) + 1 < ds.length := by omega
      go_wp2
      go_ret
      exact ⟨ret_bool HR.out.symm, drewN_below _ _⟩

/-- a rule's shape -/
def shp (o k : Bool) (e c u : Int) (n : Nat) : Prop := (o = true → e = 1 ∧ c = 0 ∧ u = -1) ∧ (k = false → n = 0) ∧ (c = 0 ∨ u = -1)

set_option maxHeartbeats 2000000 in
theorem isShaped_any (f : ByteArray) (e : Int) (a : Option Addr) (n cap : Nat) (c u : Int) (w : World) (hn : n ≤ 20) (o k : Bool) (ho : (f.toList == [111, 110, 99, 101]) = o) (hk : (f.toList == [119, 101, 101, 107, 108, 121]) = k) (b : Bool) (hb : b = true ↔ shp o k e c u n) :
    Calls Tryd.prog 29 #[rv f e (.slice a n cap) c u] w fun r w' => r = .returned (.bool b) ∧ Below w.heap.size w w' := by
  have HB : Hid (_) := hb
  clear hb
  have fin : ∀ x : Bool, (x = true ↔ shp o k e c u n) → x = b := fun x hx => by
    have := HB.out
    cases x <;> cases b <;> simp_all
  have FIN : Hid (_) := fin
  clear fin HB
  unfold rv
  by_cases hu : u = -1
  · have hu1 : (u != -1) = false := by simp [hu]
    have hu2 : (u == -1) = true := by simp [hu]
    cases o <;> cases k
    all_goals
      go_enter Tryd.func29, Tryd.ntmps29
      go_wp2
      all_goals
        go_ret
        refine ⟨ret_bool (FIN.out _ ?_), below_alloc _ _⟩
        unfold shp
        simp
        try omega
  · have hu1 : (u != -1) = true := by simp [hu]
    have hu2 : (u == -1) = false := by simp [hu]
    cases o <;> cases k
    all_goals
      go_enter Tryd.func29, Tryd.ntmps29
      go_wp2
      all_goals
        go_ret
        refine ⟨ret_bool (FIN.out _ ?_), below_alloc _ _⟩
        unfold shp
        simp
        try omega
end Go.Proofs.YtfnajhpcbajhfabDoor
