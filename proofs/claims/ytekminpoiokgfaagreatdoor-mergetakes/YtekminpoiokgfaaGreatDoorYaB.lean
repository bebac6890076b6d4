/- A rule as a value, its days in memory, the errors and names that package rule reads; contracts of isFreq, inBounds, isShaped, rises and Check. -/
import Derived.Test.YtekminpoiokgfaaGreatDoorYaA
import Derived.Laws.AppendOwnNone
import Derived.Test.YtekminpoiokgfaaGreatDoorRows
import Derived.WalkKit
import Derived.ProofKit
import Derived.LaidMore
import Derived.ChangeSlices
import Derived.Stop.LaidErr
import Derived.Stop.Joined
import Derived.Lib.SlicesCompact
namespace Go.Proofs.YtekminpoiokgfaaGreatDoor
open Go.RowKit Cal

/-- a rule as a value -/
def rv (f : ByteArray) (e : Int) (sl : Value) (c u : Int) : Value := .agg #[.string f, .int .i64 e, sl, .int .i64 c, .int .i64 u]
/-- a list of days in memory -/
def Days (w : World) (sl : Value) (ds : List Int) : Prop :=
  ∃ (a : Option Addr) (c : Nat), sl = .slice a ds.length c ∧ ds.length ≤ 20 ∧ ds.length ≤ c ∧
    ∀ (j : Nat) (h : j < ds.length), ∃ b : Nat, a = some ⟨b, 0, none⟩ ∧ b < w.heap.size ∧ w.cell? ⟨b, j, none⟩ = some (.int .i64 ds[j])
theorem Days.step {w w' : World} {sl : Value} {ds : List Int} (h : Days w sl ds) (hb : Below w.heap.size w w') : Days w' sl ds := by
  obtain ⟨a, c, h1, h2, h3, h4⟩ := h
  refine ⟨a, c, h1, h2, h3, fun j hj => ?_⟩
  obtain ⟨b, e, hl, hc⟩ := h4 j hj
  exact ⟨b, e, Nat.lt_of_lt_of_le hl hb.size, (hb.cell (p := ⟨b, j, none⟩) hl).trans hc⟩
theorem Days.nil (w : World) (c : Nat) : Days w (.slice none 0 c) [] := ⟨none, c, rfl, by simp, by simp, fun j h => absurd h (by simp)⟩

/-- what package rule reads -/
structure Glob (w : World) : Prop where
  name : ∃ p, w.cell? ⟨2, 0, none⟩ = some (.iface 250 (.pointer (some p)))
  bound : ∃ p, w.cell? ⟨4, 0, none⟩ = some (.iface 250 (.pointer (some p)))
  shape : ∃ p, w.cell? ⟨0, 0, none⟩ = some (.iface 250 (.pointer (some p)))
  order : ∃ p, w.cell? ⟨5, 0, none⟩ = some (.iface 250 (.pointer (some p)))
theorem Glob.step {w w' : World} (g : Glob w) (hb : Below w.heap.size w w') : Glob w' := by
  obtain ⟨⟨p1, h1⟩, ⟨p2, h2⟩, ⟨p3, h3⟩, ⟨p4, h4⟩⟩ := g
  exact ⟨⟨p1, cell_step h1 hb⟩, ⟨p2, cell_step h2 hb⟩, ⟨p3, cell_step h3 hb⟩, ⟨p4, cell_step h4 hb⟩⟩

/-- is it one of the five? -/
def isF (s : ByteArray) : Bool := s.toList == [111, 110, 99, 101] || s.toList == [100, 97, 105, 108, 121] || s.toList == [119, 101, 101, 107, 108, 121] || s.toList == [109, 111, 110, 116, 104, 108, 121] || s.toList == [121, 101, 97, 114, 108, 121]

theorem isFreq_any (s : ByteArray) (w : World) :
    Calls Tryz.prog 74 #[.string s] w fun e w' => e = .returned (.bool (isF s)) ∧ w' = w := by
  cases h1 : (s.toList == [111, 110, 99, 101]) with
  | true =>
    have e : isF s = true := by unfold isF; rw [h1]; rfl
    rw [e]
    go_enter Tryz.func74, Tryz.ntmps74
    go_wp2
    go_ret
    exact ⟨rfl, rfl⟩
  | false =>
  cases h2 : (s.toList == [100, 97, 105, 108, 121]) with
  | true =>
    have e : isF s = true := by unfold isF; rw [h1, h2]; rfl
    rw [e]
    go_enter Tryz.func74, Tryz.ntmps74
    go_wp2
    go_ret
    exact ⟨rfl, rfl⟩
  | false =>
  cases h3 : (s.toList == [119, 101, 101, 107, 108, 121]) with
  | true =>
    have e : isF s = true := by unfold isF; rw [h1, h2, h3]; rfl
    rw [e]
    go_enter Tryz.func74, Tryz.ntmps74
    go_wp2
    go_ret
    exact ⟨rfl, rfl⟩
  | false =>
  cases h4 : (s.toList == [109, 111, 110, 116, 104, 108, 121]) with
  | true =>
    have e : isF s = true := by unfold isF; rw [h1, h2, h3, h4]; rfl
    rw [e]
    go_enter Tryz.func74, Tryz.ntmps74
    go_wp2
    go_ret
    exact ⟨rfl, rfl⟩
  | false =>
  cases h5 : (s.toList == [121, 101, 97, 114, 108, 121]) with
  | true =>
    have e : isF s = true := by unfold isF; rw [h1, h2, h3, h4, h5]; rfl
    rw [e]
    go_enter Tryz.func74, Tryz.ntmps74
    go_wp2
    go_ret
    exact ⟨rfl, rfl⟩
  | false =>
    have e : isF s = false := by unfold isF; rw [h1, h2, h3, h4, h5]; rfl
    rw [e]
    go_enter Tryz.func74, Tryz.ntmps74
    go_wp2
    go_ret
    exact ⟨rfl, rfl⟩

/-- the bounds of a rule's numbers, and of its days -/
def bN (e c u : Int) : Bool := decide (1 ≤ e ∧ e ≤ 100 ∧ 0 ≤ c ∧ c ≤ 1000 ∧ -1 ≤ u ∧ u ≤ 73048)
def bD (ds : List Int) : Prop := ∀ d ∈ ds, 0 ≤ d ∧ d ≤ 6


set_option maxHeartbeats 1000000 in
theorem inBounds_any (f : ByteArray) (e : Int) (sl : Value) (c u : Int) (ds : List Int) (w : World) (hd : Days w sl ds) (b : Bool) (hb : b = true ↔ (bN e c u = true ∧ bD ds)) :
    Calls Tryz.prog 75 #[rv f e sl c u] w fun r w' => r = .returned (.bool b) ∧ Below w.heap.size w w' := by
  obtain ⟨a, cap, rfl, h20, hcap, hc⟩ := hd
  unfold rv
  have HC : Hid (_) := hc
  have HB : Hid (_) := hb
  clear hc hb
  go_enter Tryz.func75, Tryz.ntmps75
  go_wp2
  go_loop [4, 8] (fun d i => ∃ k : Nat, k ≤ ds.length ∧ i = .int .i64 k ∧ Hid (∀ (j : Nat) (h : j < ds.length), j < k → 0 ≤ ds[j] ∧ ds[j] ≤ 6)) (fun _ i => ds.length - (intOf i).toNat)
  case atStart => exact ⟨0, Nat.zero_le _, rfl, fun j _ h => absurd h (Nat.not_lt_zero _)⟩
  case round =>
    obtain ⟨k, hk, rfl, HA⟩ := hrel
    by_cases hlt : k < ds.length
    · obtain ⟨blk, rfl, hblk, hcell⟩ := HC.out k hlt
      have hcell2 := cell_alloc (.cells #[.string f, .int .i64 e, .slice (some ⟨blk, 0, none⟩) ds.length cap, .int .i64 c, .int .i64 u] 41) hcell
      have HN : Hid (0 ≤ ds[k] → ds[k] ≤ 6 → ∀ (j : Nat) (h : j < ds.length), j < k + 1 → 0 ≤ ds[j] ∧ ds[j] ≤ 6) := fun h0 h6 j hj hjk => by
        by_cases ej : j = k
        · subst ej; exact ⟨h0, h6⟩
        · exact HA.out j hj (by omega)
      have HF : Hid (¬ (0 ≤ ds[k] ∧ ds[k] ≤ 6) → b = false) := fun hx => by
        cases b with
        | false => rfl
        | true => exact absurd ((HB.out.1 rfl).2 ds[k] (List.getElem_mem hlt)) hx
      clear HA HB HC
      generalize ds[k] = d at hcell hcell2 HN HF
      by_cases h0 : d < 0
      · have HF' : Hid (b = false) := HF.out (by omega)
        clear HF HN
        go_wp2
        go_ret
        exact ⟨ret_bool HF'.out.symm, below_alloc _ _⟩
      · by_cases h6 : 7 ≤ d
        · have HF' : Hid (b = false) := HF.out (by omega)
          clear HF HN
          go_wp2
          go_ret
          exact ⟨ret_bool HF'.out.symm, below_alloc _ _⟩
        · have HN' : Hid (_) := HN.out (by omega) (by omega)
          clear HF HN
          go_wp2
          go_round
          case rel => exact ⟨k + 1, by omega, by go_num, HN'.out⟩
          case measure => simp [intOf]; omega
    · have HR : Hid (b = bN e c u) := by
        have hD : bD ds := fun d hd => by
          obtain ⟨j, hj, rfl⟩ := List.mem_iff_getElem.1 hd
          exact HA.out j hj (by omega)
        have := HB.out
        cases h1 : bN e c u with
        | true => exact this.2 ⟨h1, hD⟩
        | false =>
          cases b with
          | false => rfl
          | true => rw [h1] at this; exact absurd (this.1 rfl).1 (by decide)
      clear HA HB HC
      go_wp2
      all_goals
        go_ret
        refine ⟨ret_bool ?_, below_alloc _ _⟩
        rw [HR.out]
        unfold bN
        first
        | exact (decide_eq_true (by omega)).symm
        | exact (decide_eq_false (by omega)).symm
        | exact decide_eq_decide.2 (by omega)

theorem rises_any (ds : List Int) (sl : Value) (w : World) (hd : Days w sl ds) (b : Bool) (hb : b = true ↔ ∀ (i : Nat) (h : i + 1 < ds.length), ds[i] < ds[i + 1]) :
    Calls Tryz.prog 77 #[sl] w fun r w' => r = .returned (.bool b) ∧ Below w.heap.size w w' := by
  obtain ⟨a, cap, rfl, h20, hcap, hc⟩ := hd
  have HC : Hid (_) := hc
  have HB : Hid (_) := hb
  clear hc hb
  go_enter Tryz.func77, Tryz.ntmps77
  go_wp2
  go_loopw [3] (fun i wr => ∃ m q : Nat, (m + 1 ≤ ds.length ∨ m = 0) ∧ i = .int .i64 ((m : Int) + 1) ∧ wr = w.drewN q ∧ Hid (∀ (j : Nat) (h : j + 1 < ds.length), j < m → ds[j] < ds[j + 1])) (fun i _ => ds.length - (intOf i).toNat)
  case atStart => exact ⟨0, 0, Or.inr rfl, rfl, rfl, fun j _ h => absurd h (by omega)⟩
  case round =>
    obtain ⟨m, q, hk, rfl, rfl, HA⟩ := hrel
    by_cases hlt : m + 1 < ds.length
    · obtain ⟨blk, rfl, hblk, hcell⟩ := HC.out (m + 1) hlt
      obtain ⟨blk', eb, _, hcell'⟩ := HC.out m (by omega)
      have eb' : blk' = blk := by simpa using eb.symm
      subst eb'
      have HN : Hid (ds[m] < ds[m + 1] → ∀ (j : Nat) (h : j + 1 < ds.length), j < m + 1 → ds[j] < ds[j + 1]) := fun hx j hj hjk => by
        by_cases ej : j = m
        · subst ej; exact hx
        · exact HA.out j hj (by omega)
      have HF : Hid (¬ ds[m] < ds[m + 1] → b = false) := fun hx => by
        cases b with
        | false => rfl
        | true => exact absurd ((HB.out.1 rfl) m hlt) hx
      clear HA HB HC eb
      generalize ds[m + 1] = d at hcell HN HF
      generalize ds[m] = d' at hcell' HN HF
      have hlt' : (m : Int) + 1 < ds.length := by omega
      by_cases hx : d' < d
      · have HN' : Hid (_) := HN.out hx
        clear HF HN
        go_wp2_with (fail)
        go_quiet (fail)
        go_wp2
        go_roundw
        case rel => exact ⟨m + 1, _, by omega, by go_num, rfl, HN'.out⟩
        case measure => simp [intOf]; omega
      · have HF' : Hid (b = false) := HF.out hx
        clear HF HN
        have hx' : d ≤ d' := by omega
        go_wp2_with (fail)
        go_quiet (fail)
        go_wp2
        go_ret
        exact ⟨ret_bool HF'.out.symm, below_then (drewN_below _ _) (drewN_below _ _)⟩
    · have HR : Hid (b = true) := HB.out.2 (fun j hj => HA.out j hj (by omega))
      clear HA HB HC
      have hlt' : ¬ (m : Int) + 1 < ds.length := by omega
      go_wp2
      go_ret
      exact ⟨ret_bool HR.out.symm, drewN_below _ _⟩

/-- a rule's shape -/
def shp (o k : Bool) (e c u : Int) (n : Nat) : Prop := (o = true → e = 1 ∧ c = 0 ∧ u = -1) ∧ (k = false → n = 0) ∧ (c = 0 ∨ u = -1)

set_option maxHeartbeats 2000000 in
theorem isShaped_any (f : ByteArray) (e : Int) (a : Option Addr) (n cap : Nat) (c u : Int) (w : World) (hn : n ≤ 20) (o k : Bool) (ho : (f.toList == [111, 110, 99, 101]) = o) (hk : (f.toList == [119, 101, 101, 107, 108, 121]) = k) (b : Bool) (hb : b = true ↔ shp o k e c u n) :
    Calls Tryz.prog 76 #[rv f e (.slice a n cap) c u] w fun r w' => r = .returned (.bool b) ∧ Below w.heap.size w w' := by
  have HB : Hid (_) := hb
  clear hb
  have fin : ∀ x : Bool, (x = true ↔ shp o k e c u n) → x = b := fun x hx => by
    have := HB.out
    cases x <;> cases b <;> simp_all
  have FIN : Hid (_) := fin
  clear fin HB
  unfold rv
  by_cases hu : u = -1
  · have hu1 : (u != -1) = false := by simp [hu]
    have hu2 : (u == -1) = true := by simp [hu]
    cases o <;> cases k
    all_goals
      go_enter Tryz.func76, Tryz.ntmps76
      go_wp2
      all_goals
        go_ret
        refine ⟨ret_bool (FIN.out _ ?_), below_alloc _ _⟩
        unfold shp
        simp
        try omega
  · have hu1 : (u != -1) = true := by simp [hu]
    have hu2 : (u == -1) = false := by simp [hu]
    cases o <;> cases k
    all_goals
      go_enter Tryz.func76, Tryz.ntmps76
      go_wp2
      all_goals
        go_ret
        refine ⟨ret_bool (FIN.out _ ?_), below_alloc _ _⟩
        unfold shp
        simp
        try omega
end Go.Proofs.YtekminpoiokgfaaGreatDoor

/- Contract of rule.Check: no error just where the rule is well. -/
namespace Go.Proofs.YtekminpoiokgfaaGreatDoor
open Go.RowKit Cal

/-- a rule's value, read -/
def rd (f : ByteArray) (e : Int) (ds : List Int) (c u : Int) : RV := ⟨f.toList, e, ds, c, u⟩
def Rise (ds : List Int) : Prop := ∀ (i : Nat) (h : i + 1 < ds.length), ds[i] < ds[i + 1]

theorem isF_iff (f : ByteArray) : isF f = true ↔ (f.toList = onceW ∨ f.toList = dailyW ∨ f.toList = weeklyW ∨ f.toList = monthlyW ∨ f.toList = yearlyW) := by
  unfold isF onceW dailyW weeklyW monthlyW yearlyW
  simp only [Bool.or_eq_true, beq_iff_eq, or_assoc]
theorem bN_iff (e c u : Int) : bN e c u = true ↔ (1 ≤ e ∧ e ≤ 100 ∧ 0 ≤ c ∧ c ≤ 1000 ∧ -1 ≤ u ∧ u ≤ 73048) := by unfold bN; simp
theorem well_of {f : ByteArray} {e c u : Int} {ds : List Int} (h1 : isF f = true) (h2 : bN e c u = true) (h3 : bD ds) (h4 : shp (f.toList == [111, 110, 99, 101]) (f.toList == [119, 101, 101, 107, 108, 121]) e c u ds.length) (h5 : Rise ds) : Well (rd f e ds c u) := by
  rw [isF_iff] at h1
  rw [bN_iff] at h2
  obtain ⟨s1, s2, s3⟩ := h4
  refine ⟨h1, h3, ⟨h2.1, h2.2.1⟩, ⟨h2.2.2.1, h2.2.2.2.1⟩, ⟨h2.2.2.2.2.1, h2.2.2.2.2.2⟩, fun h => s1 ?_, fun h => ?_, s3, h5⟩
  · rw [beq_iff_eq]; exact h
  · have := s2 (by rw [beq_eq_false_iff_ne]; exact h)
    exact List.length_eq_zero_iff.1 this
theorem of_well {f : ByteArray} {e c u : Int} {ds : List Int} (h : Well (rd f e ds c u)) : isF f = true ∧ bN e c u = true ∧ bD ds ∧ shp (f.toList == [111, 110, 99, 101]) (f.toList == [119, 101, 101, 107, 108, 121]) e c u ds.length ∧ Rise ds := by
  obtain ⟨w1, w2, w3, w4, w5, w6, w7, w8, w9⟩ := h
  refine ⟨(isF_iff f).2 w1, (bN_iff e c u).2 ⟨w3.1, w3.2, w4.1, w4.2, w5.1, w5.2⟩, w2, ⟨fun h => w6 ?_, fun h => ?_, w8⟩, w9⟩
  · rw [beq_iff_eq] at h; exact h
  · rw [beq_eq_false_iff_ne] at h
    have : ds = [] := w7 h
    rw [this]; rfl


theorem check_ok (f : ByteArray) (e : Int) (sl : Value) (c u : Int) (ds : List Int) (w : World) (hd : Days w sl ds) (hw : Well (rd f e ds c u)) :
    Calls Tryz.prog 53 #[rv f e sl c u] w fun r w' => r = .returned .nilIface ∧ Below w.heap.size w w' := by
  obtain ⟨h1, h2, h3, h4, h5⟩ := of_well hw
  have hd' := hd
  obtain ⟨a, cap, rfl, h20, hcap, hc⟩ := hd'
  have c1 := fun w => isFreq_any f w
  rw [h1] at c1
  have C1 : Hid (_) := c1
  have C2 : Hid (bN e c u = true ∧ bD ds) := ⟨h2, h3⟩
  have C3 : Hid (shp (f.toList == [111, 110, 99, 101]) (f.toList == [119, 101, 101, 107, 108, 121]) e c u ds.length) := h4
  have C4 : Hid (Rise ds) := h5
  have D : Hid (Days w (.slice a ds.length cap) ds) := hd
  clear c1 h1 h2 h3 h4 h5 hw hc hd
  unfold rv
  go_enter Tryz.func53, Tryz.ntmps53
  go_wp2_with (first
    | (go_at_call 74; refine (C1.out _).mono ?_; rintro r w' ⟨rfl, rfl⟩)
    | (go_at_call 75; refine (inBounds_any f e _ c u ds _ (D.out.step (below_alloc _ _)) true ⟨fun _ => C2.out, fun _ => rfl⟩).mono ?_; rintro r w1 ⟨rfl, hb1⟩; obtain ⟨x0, x1, x2, x3, x4⟩ := box5 hb1)
    | (go_at_call 76; refine (isShaped_any f e a ds.length cap c u _ h20 _ _ rfl rfl true ⟨fun _ => C3.out, fun _ => rfl⟩).mono ?_; rintro r w2 ⟨rfl, hb2⟩; have y2 := cell_step x2 hb2)
    | (go_at_call 77; refine (rises_any ds _ _ (D.out.step (below_then (below_alloc _ _) (below_then hb1 hb2))) true ⟨fun _ => C4.out, fun _ => rfl⟩).mono ?_; rintro r w3 ⟨rfl, hb3⟩))
  go_ret
  exact ⟨rfl, below_then (below_alloc _ _) (below_then hb1 (below_then hb2 hb3))⟩

end Go.Proofs.YtekminpoiokgfaaGreatDoor

/- Contracts of the law's own LongRule and OwnRule. -/
namespace Go.Proofs.YtekminpoiokgfaaGreatDoor
open Go.RowKit Cal

theorem ow_days {base : Nat} {W : World} {sl : Value} {ds : List Int} (h : Ow base W sl ds) (h20 : ds.length ≤ 20) : Days W sl ds := by
  rcases h.2 with ⟨rfl, h0⟩ | ⟨g, cap, cur, rfl, hb, hg, hcap, hmax, hsz, htake⟩
  · rw [List.length_eq_zero_iff.1 h0]; exact Days.nil W 0
  · refine ⟨_, cap, rfl, h20, hcap, fun j hj => ⟨g, rfl, (Array.getElem?_eq_some_iff.1 hg).1, ?_⟩⟩
    have := World.ownsRow.cellAt h j (by omega)
    rw [this, List.getElem?_map, List.getElem?_eq_getElem hj]; rfl
theorem Ow.step {base : Nat} {W W' : World} {v : Value} {o : List Int} (h : Ow base W v o) (hb : Below W.heap.size W W') : Ow base W' v o :=
  World.ownsRow.kept h (grown_below hb (some W.heap.size)) (.inr (fun he => by have := (World.ownsRow.lt h _ he).2; omega))
theorem ow_form {base : Nat} {W : World} {v : Value} {o : List Int} (h : Ow base W v o) : ∃ a cap, v = .slice a o.length cap := by
  rcases h.2 with ⟨rfl, h0⟩ | ⟨g, cap, cur, rfl, _⟩
  · rw [h0]; exact ⟨none, 0, rfl⟩
  · exact ⟨_, cap, rfl⟩
theorem Ow.steps {base : Nat} {W W' : World} {v : Value} {o : List Int} (h : Ow base W v o) (hk : ∀ k, base ≤ k → k < W.heap.size → W'.heap[k]? = W.heap[k]?) : Ow base W' v o := by
  refine ⟨h.1, ?_⟩
  rcases h.2 with h2 | ⟨g, cap, cur, hv, hb, hg, r⟩
  · exact .inl h2
  · exact .inr ⟨g, cap, cur, hv, hb, (hk g hb (Array.getElem?_eq_some_iff.1 hg).1).trans hg, r⟩
/-- a rule's list of days as it was handed over -/
def Got (w : World) (sl : Value) (ds : List Int) : Prop :=
  ∃ (a : Option Addr) (cap : Nat), sl = .slice a ds.length cap ∧ (a = none → ds.length = 0 ∧ cap = 0) ∧ ∀ ad, a = some ad → ∀ (j : Nat) (h : j < ds.length), ad.block < w.heap.size ∧ w.cell? (ad.add j) = some (.int .i64 ds[j])
theorem addr_add_block (ad : Addr) (j : Nat) : (ad.add j).block = ad.block := by
  unfold Addr.add
  split <;> rfl
theorem Got.step {w w' : World} {sl : Value} {ds : List Int} (h : Got w sl ds) (hb : Below w.heap.size w w') : Got w' sl ds := by
  obtain ⟨a, cap, h1, h2, h3⟩ := h
  refine ⟨a, cap, h1, h2, fun ad e j hj => ?_⟩
  obtain ⟨h4, h5⟩ := h3 ad e j hj
  exact ⟨Nat.lt_of_lt_of_le h4 hb.size, (World.cell?_of_block (a := ad.add j) (hb.block _ (by rw [addr_add_block]; exact h4))).trans h5⟩

theorem ow_got {base : Nat} {W : World} {sl : Value} {ds : List Int} (h : Ow base W sl ds) : Got W sl ds := by
  rcases h.2 with ⟨rfl, h0⟩ | ⟨g, cap, cur, rfl, hb, hg, hcap, hmax, hsz, htake⟩
  · rw [List.length_eq_zero_iff.1 h0]; exact ⟨none, 0, rfl, fun _ => ⟨rfl, rfl⟩, fun ad q => by cases q⟩
  · refine ⟨_, cap, rfl, (fun q => by cases q), fun ad q j hj => ?_⟩
    cases q
    refine ⟨(Array.getElem?_eq_some_iff.1 hg).1, ?_⟩
    have := World.ownsRow.cellAt h j (by omega)
    have e : (⟨g, 0, none⟩ : Addr).add j = ⟨g, j, none⟩ := by
      simp [Addr.add]
      intro hq
      exact hq.symm
    rw [e, this, List.getElem?_map, List.getElem?_eq_getElem hj]; rfl

theorem longRule_any (f : ByteArray) (e : Int) (a : Option Addr) (n cap : Nat) (c u : Int) (w : World) (k : Int) (hk : k = if 20 < f.size ∨ 20 < n then 1 else 0) :
    Calls Tryz.prog 32 #[rv f e (.slice a n cap) c u] w fun r w' => r = .returned (.int .i64 k) ∧ Below w.heap.size w w' := by
  unfold rv
  by_cases h1 : 20 < f.size
  · have HK : Hid (k = 1) := by rw [hk, if_pos (Or.inl h1)]; trivial
    clear hk
    go_enter Tryz.func32, Tryz.ntmps32
    go_wp2
    go_ret
    exact ⟨ret_int HK.out.symm, below_alloc _ _⟩
  · by_cases h2 : 20 < n
    · have HK : Hid (k = 1) := by rw [hk, if_pos (Or.inr h2)]; trivial
      clear hk
      go_enter Tryz.func32, Tryz.ntmps32
      go_wp2
      go_ret
      exact ⟨ret_int HK.out.symm, below_alloc _ _⟩
    · have HK : Hid (k = 0) := by rw [hk, if_neg (by omega)]; trivial
      clear hk
      go_enter Tryz.func32, Tryz.ntmps32
      go_wp2
      go_ret
      exact ⟨ret_int HK.out.symm, below_alloc _ _⟩

end Go.Proofs.YtekminpoiokgfaaGreatDoor

/- What the rows' lists of package-level variables give the walks over package expand: the errors' cells; a rule as an argument, opened. -/
namespace Go.Proofs.YtekminpoiokgfaaGreatDoor
open Go.ChangeShapes Go.WideShapes Go.ChangeAt Go.RowKit Cal

theorem own : ownKnob Tryz.prog.godebug = none := by kernel_rfl
theorem gBound : Tryz.prog.globalNamed "lammastide/api.ErrBound" = some 4 := by kernel_rfl
theorem tBound : (Tryz.prog.globals[4]?).map (·.type) = some 50 := by kernel_rfl
theorem gShape : Tryz.prog.globalNamed "lammastide/api.ErrShape" = some 0 := by kernel_rfl
theorem tShape : (Tryz.prog.globals[0]?).map (·.type) = some 50 := by kernel_rfl
theorem gName : Tryz.prog.globalNamed "lammastide/api.ErrName" = some 2 := by kernel_rfl
theorem tName : (Tryz.prog.globals[2]?).map (·.type) = some 50 := by kernel_rfl
theorem gOrder : Tryz.prog.globalNamed "lammastide/api.ErrOrder" = some 5 := by kernel_rfl
theorem tOrder : (Tryz.prog.globals[5]?).map (·.type) = some 50 := by kernel_rfl
theorem cErrStr : Tryz.prog.cellsOf 252 = 1 := by kernel_rfl
theorem cStr : Tryz.prog.cellsOf 9 = 1 := by kernel_rfl
theorem star : "*" ++ "errors.errorString" = "*errors.errorString" := by decide
theorem rowErrStr (u : TypeId) (h : Tryz.prog.typeName? 3 u = some "*errors.errorString") : u = 250 :=
  typeName_ptr_named (nm := "errors.errorString") (by rw [star]; kernel_rfl) (by kernel_rfl) (by decide) u (by rw [star]; exact h)

/-- an error of errors.New's make at the head of the list: its cell -/
theorem sentinel {n : String} {g : Nat} {text : List UInt8} {r : List (String × DataW Unit)} {W : World}
    (h : laidMet Tryz.prog ((n, .iface "*errors.errorString" (.ptr (.agg [.lit (.string text)]))) :: r) W) (hg : Tryz.prog.globalNamed n = some g) (ht : (Tryz.prog.globals[g]?).map (·.type) = some 50) :
    ∃ a : Addr, W.cell? ⟨g, 0, none⟩ = some (.iface 250 (.pointer (some a))) := by
  obtain ⟨a, s, hv, _, _, _⟩ := laid_sentinel h hg ht Tryz.underlying50 rowErrStr Tryz.underlying250 Tryz.underlying252 rfl rfl Tryz.underlying9 cErrStr cStr
  exact ⟨a, by simpa using World.var?_cell hg hv 0⟩
theorem cRule : Tryz.prog.cellsOf 41 = 5 := by kernel_rfl
theorem cInt : Tryz.prog.cellsOf 3 = 1 := by kernel_rfl
theorem cInts : Tryz.prog.cellsOf 39 = 1 := by kernel_rfl

end Go.Proofs.YtekminpoiokgfaaGreatDoor

/- Plain mathematics of events (no program text in it): where a day is now, the days of an event in a span; what sorting and dropping what is twice leaves. -/
namespace Go.Proofs.YtekminpoiokgfaaGreatDoor.Cal

end Go.Proofs.YtekminpoiokgfaaGreatDoor.Cal
