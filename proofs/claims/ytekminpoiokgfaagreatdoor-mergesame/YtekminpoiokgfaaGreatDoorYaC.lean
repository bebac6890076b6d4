/- An event as a value, its lists in memory; contracts of package event's isID, isTitle, isDay, rises. -/
import Derived.Test.YtekminpoiokgfaaGreatDoorYaB
import Derived.BigQuiet
import Derived.Shelf.Abstract
import Derived.Test.YtekminpoiokgfaaGreatDoorYaA
import Derived.Shelf.RegionOpen
import Derived.WalkKit
import Derived.OwnWalkIn
import Derived.TacticsInMore
import Derived.LoopNIn
import Derived.LoopIn
namespace Go.Proofs.YtekminpoiokgfaaGreatDoor
open Go.RowKit Cal

/-- a list of numbers in memory -/
def Ints (w : World) (sl : Value) (xs : List Int) : Prop :=
  ∃ (a : Option Addr) (c : Nat), sl = .slice a xs.length c ∧ xs.length ≤ 80000 ∧ xs.length ≤ c ∧
    ∀ (j : Nat) (h : j < xs.length), ∃ b : Nat, a = some ⟨b, 0, none⟩ ∧ b < w.heap.size ∧ w.cell? ⟨b, j, none⟩ = some (.int .i64 xs[j])
theorem Ints.step {w w' : World} {sl : Value} {xs : List Int} (h : Ints w sl xs) (hb : Below w.heap.size w w') : Ints w' sl xs := by
  obtain ⟨a, c, h1, h2, h3, h4⟩ := h
  refine ⟨a, c, h1, h2, h3, fun j hj => ?_⟩
  obtain ⟨b, e, hl, hc⟩ := h4 j hj
  exact ⟨b, e, Nat.lt_of_lt_of_le hl hb.size, (hb.cell (p := ⟨b, j, none⟩) hl).trans hc⟩
theorem Ints.nil (w : World) (c : Nat) : Ints w (.slice none 0 c) [] := ⟨none, c, rfl, by simp, by simp, fun j h => absurd h (by simp)⟩
/-- a list of moves in memory -/
def Movs (w : World) (sl : Value) (ms : List (Int × Int)) : Prop :=
  ∃ (a : Option Addr) (c : Nat), sl = .slice a ms.length c ∧ ms.length ≤ 80000 ∧ ms.length ≤ c ∧
    ∀ (j : Nat) (h : j < ms.length), ∃ b : Nat, a = some ⟨b, 0, none⟩ ∧ b < w.heap.size ∧ w.cell? ⟨b, j * 2, none⟩ = some (.int .i64 ms[j].1) ∧ w.cell? ⟨b, j * 2 + 1, none⟩ = some (.int .i64 ms[j].2)
theorem Movs.step {w w' : World} {sl : Value} {ms : List (Int × Int)} (h : Movs w sl ms) (hb : Below w.heap.size w w') : Movs w' sl ms := by
  obtain ⟨a, c, h1, h2, h3, h4⟩ := h
  refine ⟨a, c, h1, h2, h3, fun j hj => ?_⟩
  obtain ⟨b, e, hl, hc, hd⟩ := h4 j hj
  exact ⟨b, e, Nat.lt_of_lt_of_le hl hb.size, (hb.cell (p := ⟨b, j * 2, none⟩) hl).trans hc, (hb.cell (p := ⟨b, j * 2 + 1, none⟩) hl).trans hd⟩
theorem Movs.nil (w : World) (c : Nat) : Movs w (.slice none 0 c) [] := ⟨none, c, rfl, by simp, by simp, fun j h => absurd h (by simp)⟩

/-- a sign of an ID -/
def okc (c : UInt8) : Prop := (97 ≤ (c.toNat : Int) ∧ (c.toNat : Int) ≤ 122) ∨ (48 ≤ (c.toNat : Int) ∧ (c.toNat : Int) ≤ 57)
/-- an ID that is well -/
def okID (s : ByteArray) : Prop := (∀ (j : Nat) (h : j < s.size), okc s[j]) ∧ 1 ≤ s.size ∧ s.size ≤ 12
/-- a sign of a title -/
def okt (c : UInt8) : Prop := 32 ≤ (c.toNat : Int) ∧ (c.toNat : Int) ≤ 126 ∧ (c.toNat : Int) ≠ 124
def okTi (s : ByteArray) : Prop := (∀ (j : Nat) (h : j < s.size), okt s[j]) ∧ s.size ≤ 40

set_option maxHeartbeats 1000000 in
theorem isID_any (s : ByteArray) (w : World) (hs : s.size ≤ 60) (b : Bool) (hb : b = true ↔ okID s) :
    Calls Tryz.prog 50 #[.string s] w fun r w' => r = .returned (.bool b) ∧ w' = w := by
  have HB : Hid (b = true ↔ okID s) := hb
  clear hb
  go_enter Tryz.func50, Tryz.ntmps50
  go_wp2
  go_loop [3, 4, 5, 8] (fun _ _ _ i => ∃ k : Nat, k ≤ s.size ∧ i = .int .i64 k ∧ Hid (∀ (j : Nat) (h : j < s.size), j < k → okc s[j])) (fun _ _ _ i => s.size - (intOf i).toNat)
  case atStart => exact ⟨0, Nat.zero_le _, rfl, fun j _ h => absurd h (Nat.not_lt_zero _)⟩
  case round =>
    obtain ⟨k, hk, rfl, HA⟩ := hrel
    by_cases hlt : k < s.size
    · have HN : Hid (okc s[k] → ∀ (j : Nat) (h : j < s.size), j < k + 1 → okc s[j]) := fun hx j hj hjk => by
        by_cases ej : j = k
        · subst ej; exact hx
        · exact HA.out j hj (by omega)
      have HF : Hid (¬ okc s[k] → b = false) := fun hx => by
        cases b with
        | false => rfl
        | true => exact absurd ((HB.out.1 rfl).1 k hlt) hx
      clear HA HB
      have hok : Hid (okc s[k] ↔ (97 ≤ (s[k].toNat : Int) ∧ (s[k].toNat : Int) ≤ 122) ∨ (48 ≤ (s[k].toNat : Int) ∧ (s[k].toNat : Int) ≤ 57)) := Iff.rfl
      by_cases h1 : 97 ≤ (s[k].toNat : Int) ∧ (s[k].toNat : Int) ≤ 122
      · have HN' : Hid (_) := HN.out (hok.out.2 (.inl h1))
        clear HF HN hok
        obtain ⟨h1, h2⟩ := h1
        go_wp2
        go_round
        case rel => exact ⟨k + 1, by omega, by go_num, HN'.out⟩
        case measure => simp [intOf]; omega
      · by_cases h2 : 48 ≤ (s[k].toNat : Int) ∧ (s[k].toNat : Int) ≤ 57
        · have HN' : Hid (_) := HN.out (hok.out.2 (.inr h2))
          clear HF HN hok h1
          obtain ⟨h1, h2⟩ := h2
          go_wp2
          go_round
          case rel => exact ⟨k + 1, by omega, by go_num, HN'.out⟩
          case measure => simp [intOf]; omega
        · have HF' : Hid (b = false) := HF.out (fun q => by rcases hok.out.1 q with q | q; exact h1 q; exact h2 q)
          clear HF HN hok
          have h3 : (s[k].toNat : Int) < 48 ∨ (57 < (s[k].toNat : Int) ∧ (s[k].toNat : Int) < 97) ∨ 122 < (s[k].toNat : Int) := by omega
          clear h1 h2
          rcases h3 with h3 | ⟨h3, h4⟩ | h3
          · go_wp2
            go_ret
            exact ⟨ret_bool HF'.out.symm, rfl⟩
          · have e1 : decide ((s[k].toNat : Int) ≤ 57) = false := decide_eq_false (by omega)
            go_wp2
            go_ret
            exact ⟨ret_bool HF'.out.symm, rfl⟩
          · have e1 : decide ((s[k].toNat : Int) ≤ 57) = false := decide_eq_false (by omega)
            have e2 : decide ((s[k].toNat : Int) ≤ 122) = false := decide_eq_false (by omega)
            go_wp2
            go_ret
            exact ⟨ret_bool HF'.out.symm, rfl⟩
    · have HR : Hid (b = true ↔ 1 ≤ s.size ∧ s.size ≤ 12) := by
        show _ ↔ _
        rw [HB.out]
        exact ⟨fun q => q.2, fun q => ⟨fun j hj => HA.out j hj (by omega), q⟩⟩
      clear HA HB
      go_wp2
      all_goals
        go_ret
        refine ⟨ret_bool ?_, rfl⟩
        rw [Bool.eq_iff_iff, HR.out]
        simp
        try omega

set_option maxHeartbeats 1000000 in
theorem isTitle_any (s : ByteArray) (w : World) (hs : s.size ≤ 60) (b : Bool) (hb : b = true ↔ okTi s) :
    Calls Tryz.prog 51 #[.string s] w fun r w' => r = .returned (.bool b) ∧ Below w.heap.size w w' := by
  have HB : Hid (b = true ↔ okTi s) := hb
  clear hb
  go_enter Tryz.func51, Tryz.ntmps51
  go_wp2
  go_loopw [3, 6] (fun _ i wr => ∃ k q : Nat, k ≤ s.size ∧ i = .int .i64 k ∧ wr = w.drewN q ∧ Hid (∀ (j : Nat) (h : j < s.size), j < k → okt s[j])) (fun _ i _ => s.size - (intOf i).toNat)
  case atStart => exact ⟨0, 0, Nat.zero_le _, rfl, rfl, fun j _ h => absurd h (Nat.not_lt_zero _)⟩
  case round =>
    obtain ⟨k, q, hk, rfl, rfl, HA⟩ := hrel
    by_cases hlt : k < s.size
    · have HN : Hid (okt s[k] → ∀ (j : Nat) (h : j < s.size), j < k + 1 → okt s[j]) := fun hx j hj hjk => by
        by_cases ej : j = k
        · subst ej; exact hx
        · exact HA.out j hj (by omega)
      have HF : Hid (¬ okt s[k] → b = false) := fun hx => by
        cases b with
        | false => rfl
        | true => exact absurd ((HB.out.1 rfl).1 k hlt) hx
      have hok : Hid (okt s[k] ↔ 32 ≤ (s[k].toNat : Int) ∧ (s[k].toNat : Int) ≤ 126 ∧ (s[k].toNat : Int) ≠ 124) := Iff.rfl
      clear HA HB
      by_cases h1 : (s[k].toNat : Int) < 32
      · have HF' : Hid (b = false) := HF.out (fun x => by have := hok.out.1 x; omega)
        have e1 : decide ((s[k].toNat : Int) < 32) = true := decide_eq_true h1
        clear HF HN hok
        go_wp2_with (fail)
        go_quiet (fail)
        go_wp2
        go_ret
        exact ⟨ret_bool HF'.out.symm, below_then (drewN_below _ _) (drewN_below _ _)⟩
      · have e1 : decide ((s[k].toNat : Int) < 32) = false := decide_eq_false h1
        by_cases h2 : 126 < (s[k].toNat : Int)
        · have HF' : Hid (b = false) := HF.out (fun x => by have := hok.out.1 x; omega)
          have e2 : decide (126 < (s[k].toNat : Int)) = true := decide_eq_true h2
          clear HF HN hok
          go_wp2_with (fail)
          go_quiet (fail)
          go_wp2
          go_ret
          exact ⟨ret_bool HF'.out.symm, below_then (drewN_below _ _) (drewN_below _ _)⟩
        · have e2 : decide (126 < (s[k].toNat : Int)) = false := decide_eq_false h2
          by_cases h3 : (s[k].toNat : Int) = 124
          · have HF' : Hid (b = false) := HF.out (fun x => by have := hok.out.1 x; omega)
            have e3 : ((s[k].toNat : Int) == (((⟨#[124]⟩ : ByteArray)[0]'(by decide)).toNat : Int)) = true := by show ((s[k].toNat : Int) == 124) = true; rw [beq_iff_eq]; exact h3
            clear HF HN hok h3
            go_wp2_with (fail)
            go_quiet (fail)
            go_wp2
            go_ret
            exact ⟨ret_bool HF'.out.symm, below_then (drewN_below _ _) (drewN_below _ _)⟩
          · have HN' : Hid (_) := HN.out (hok.out.2 ⟨by omega, by omega, h3⟩)
            have e3 : ((s[k].toNat : Int) == (((⟨#[124]⟩ : ByteArray)[0]'(by decide)).toNat : Int)) = false := by show ((s[k].toNat : Int) == 124) = false; rw [beq_eq_false_iff_ne]; exact h3
            clear HF HN hok h3
            go_wp2_with (fail)
            go_quiet (fail)
            go_wp2
            go_roundw
            case rel => exact ⟨k + 1, _, by omega, by go_num, rfl, HN'.out⟩
            case measure => simp [intOf]; omega
    · have HR : Hid (b = true ↔ s.size ≤ 40) := by
        show _ ↔ _
        rw [HB.out]
        exact ⟨fun q => q.2, fun q => ⟨fun j hj => HA.out j hj (by omega), q⟩⟩
      clear HA HB
      go_wp2
      all_goals
        go_ret
        refine ⟨ret_bool ?_, drewN_below _ _⟩
        rw [Bool.eq_iff_iff, HR.out]
        simp
        try omega
theorem eisDay_any (n : Int) (w : World) (b : Bool) (hb : b = true ↔ (0 ≤ n ∧ n ≤ 73048)) : Calls Tryz.prog 52 #[.int .i64 n] w fun r w' => r = .returned (.bool b) ∧ w' = w := by
  have HB : Hid (_) := hb
  clear hb
  go_enter Tryz.func52, Tryz.ntmps52
  go_wp2
  all_goals
    go_ret
    refine ⟨ret_bool ?_, rfl⟩
    rw [Bool.eq_iff_iff, HB.out]
    simp
    try omega

theorem erises_any (ds : List Int) (sl : Value) (w : World) (hd : Ints w sl ds) (b : Bool) (hb : b = true ↔ Rise ds) :
    Calls Tryz.prog 78 #[sl] w fun r w' => r = .returned (.bool b) ∧ Below w.heap.size w w' := by
  obtain ⟨a, cap, rfl, h20, hcap, hc⟩ := hd
  have HC : Hid (_) := hc
  have HB : Hid (_) := hb
  clear hc hb
  go_enter Tryz.func78, Tryz.ntmps78
  go_wp2
  go_loopw [3] (fun i wr => ∃ m q : Nat, (m + 1 ≤ ds.length ∨ m = 0) ∧ i = .int .i64 ((m : Int) + 1) ∧ wr = w.drewN q ∧ Hid (∀ (j : Nat) (h : j + 1 < ds.length), j < m → ds[j] < ds[j + 1])) (fun i _ => ds.length - (intOf i).toNat)
  case atStart => exact ⟨0, 0, Or.inr rfl, rfl, rfl, fun j _ h => absurd h (by omega)⟩
  case round =>
    obtain ⟨m, q, hk, rfl, rfl, HA⟩ := hrel
    by_cases hlt : m + 1 < ds.length
    · obtain ⟨blk, rfl, hblk, hcell⟩ := HC.out (m + 1) hlt
      obtain ⟨blk', eb, _, hcell'⟩ := HC.out m (by omega)
      have eb' : blk' = blk := by simpa using eb.symm
      subst eb'
      have HN : Hid (ds[m] < ds[m + 1] → ∀ (j : Nat) (h : j + 1 < ds.length), j < m + 1 → ds[j] < ds[j + 1]) := fun hx j hj hjk => by
        by_cases ej : j = m
        · subst ej; exact hx
        · exact HA.out j hj (by omega)
      have HF : Hid (¬ ds[m] < ds[m + 1] → b = false) := fun hx => by
        cases b with
        | false => rfl
        | true => exact absurd ((HB.out.1 rfl) m hlt) hx
      clear HA HB HC eb
      generalize ds[m + 1] = d at hcell HN HF
      generalize ds[m] = d' at hcell' HN HF
      have hlt' : (m : Int) + 1 < ds.length := by omega
      by_cases hx : d' < d
      · have HN' : Hid (_) := HN.out hx
        clear HF HN
        go_wp2_with (fail)
        go_quiet (fail)
        go_wp2
        go_roundw
        case rel => exact ⟨m + 1, _, by omega, by go_num, rfl, HN'.out⟩
        case measure => simp [intOf]; omega
      · have HF' : Hid (b = false) := HF.out hx
        clear HF HN
        have hx' : d ≤ d' := by omega
        go_wp2_with (fail)
        go_quiet (fail)
        go_wp2
        go_ret
        exact ⟨ret_bool HF'.out.symm, below_then (drewN_below _ _) (drewN_below _ _)⟩
    · have HR : Hid (b = true) := HB.out.2 (fun j hj => HA.out j hj (by omega))
      clear HA HB HC
      have hlt' : ¬ (m : Int) + 1 < ds.length := by omega
      go_wp2
      go_ret
      exact ⟨ret_bool HR.out.symm, drewN_below _ _⟩
end Go.Proofs.YtekminpoiokgfaaGreatDoor

/- Contracts of slices.ContainsFunc and Contains over an event's lists, of package event's fromsOf and checkLists' own functions. -/
namespace Go.Proofs.YtekminpoiokgfaaGreatDoor
open Go Go.RowKit Cal
attribute [local go_sem] Oper.semAt_some

set_option maxHeartbeats 1000000 in
theorem indexFuncI_any (g : Nat) (lb : Array Value) (p : Int → Bool) (xs : List Int) (sl : Value) (w : World) (hd : Ints w sl xs) (eg : ∀ args W, (callFunc g args).run Tryz.prog W = .ok (.enter g args) W)
    (hp : ∀ (x : Int) (W : World), Below w.heap.size w W → Calls Tryz.prog g (#[.int .i64 x] ++ lb) W fun r w' => r = .returned (.bool (p x)) ∧ Below W.heap.size W w') :
    Calls Tryz.prog 116 #[sl, .func (.func g) #[] lb] w fun r w' => ∃ k : Int, r = .returned (.int .i64 k) ∧ (0 ≤ k ↔ ∃ x ∈ xs, p x = true) ∧ Below w.heap.size w w' := by
  obtain ⟨a, cap, rfl, h20, hcap, hc⟩ := hd
  have HC : Hid (_) := hc
  have HP : Hid (_) := hp
  clear hc hp
  go_enter Tryz.func116, Tryz.ntmps116
  go_wp2
  go_loopw [5, 8] (fun _ i wr => ∃ m : Nat, m ≤ xs.length ∧ i = .int .i64 m ∧ Hid (Below w.heap.size w wr) ∧ Hid (∀ (j : Nat) (h : j < xs.length), j < m → p xs[j] = false)) (fun _ i _ => xs.length - (intOf i).toNat)
  case atStart => exact ⟨0, Nat.zero_le _, rfl, Below.refl _ _, fun j _ h => absurd h (Nat.not_lt_zero _)⟩
  case round =>
    obtain ⟨m, hm, rfl, hB, HA⟩ := hrel
    by_cases hlt : m < xs.length
    · obtain ⟨blk, rfl, hblk, hcell⟩ := HC.out m hlt
      have hcell2 := cell_step hcell hB.out
      have hx := HP.out xs[m] wr hB.out
      have HN : Hid (p xs[m] = false → ∀ (j : Nat) (h : j < xs.length), j < m + 1 → p xs[j] = false) := fun q j hj hjk => by
        by_cases ej : j = m
        · subst ej; exact q
        · exact HA.out j hj (by omega)
      have HT : Hid (p xs[m] = true → ∃ x ∈ xs, p x = true) := fun q => ⟨_, List.getElem_mem hlt, q⟩
      clear HA HC HP hcell
      generalize xs[m] = x at hcell2 hx HN HT
      have HX : Hid (_) := hx
      clear hx
      cases hpx : p x with
      | true =>
        have HT' : Hid (_) := HT.out hpx
        have HX' := HX.out
        rw [hpx] at HX'
        have HX2 : Hid (_) := HX'
        clear HT HN HX HX'
        go_wp2_with (go_at_fn g; refine Calls.mono HX2.out ?_; rintro r w1 ⟨rfl, hb1⟩)
        go_ret
        exact ⟨_, rfl, ⟨fun _ => HT'.out, fun _ => by omega⟩, below_then hB.out hb1⟩
      | false =>
        have HN' : Hid (_) := HN.out hpx
        have HX' := HX.out
        rw [hpx] at HX'
        have HX2 : Hid (_) := HX'
        clear HT HN HX HX'
        go_wp2_with (go_at_fn g; refine Calls.mono HX2.out ?_; rintro r w1 ⟨rfl, hb1⟩)
        go_roundw
        case rel => exact ⟨m + 1, by omega, by go_num, below_then hB.out hb1, HN'.out⟩
        case measure => simp [intOf]; omega
    · have HR : Hid (¬ ∃ x ∈ xs, p x = true) := fun ⟨x, hx, q⟩ => by
        obtain ⟨j, hj, rfl⟩ := List.mem_iff_getElem.1 hx
        have := HA.out j hj (by omega)
        rw [this] at q; exact absurd q (by decide)
      clear HA HC HP
      go_wp2
      go_ret
      exact ⟨_, rfl, ⟨fun q => by omega, fun q => absurd q HR.out⟩, hB.out⟩

/-- a move as a value -/
def mo (x : Int × Int) : Value := .agg #[.int .i64 x.1, .int .i64 x.2]

set_option maxHeartbeats 1000000 in
theorem indexFuncM_any (g : Nat) (lb : Array Value) (p : Int × Int → Bool) (xs : List (Int × Int)) (sl : Value) (w : World) (hd : Movs w sl xs) (eg : ∀ args W, (callFunc g args).run Tryz.prog W = .ok (.enter g args) W)
    (hp : ∀ (x : Int × Int) (W : World), Below w.heap.size w W → Calls Tryz.prog g (#[mo x] ++ lb) W fun r w' => r = .returned (.bool (p x)) ∧ Below W.heap.size W w') :
    Calls Tryz.prog 117 #[sl, .func (.func g) #[] lb] w fun r w' => ∃ k : Int, r = .returned (.int .i64 k) ∧ (0 ≤ k ↔ ∃ x ∈ xs, p x = true) ∧ Below w.heap.size w w' := by
  obtain ⟨a, cap, rfl, h20, hcap, hc⟩ := hd
  have HC : Hid (_) := hc
  have HP : Hid (_) := hp
  clear hc hp
  go_enter Tryz.func117, Tryz.ntmps117
  go_wp2
  go_loopw [5, 8] (fun _ i wr => ∃ m : Nat, m ≤ xs.length ∧ i = .int .i64 m ∧ Hid (Below w.heap.size w wr) ∧ Hid (∀ (j : Nat) (h : j < xs.length), j < m → p xs[j] = false)) (fun _ i _ => xs.length - (intOf i).toNat)
  case atStart => exact ⟨0, Nat.zero_le _, rfl, Below.refl _ _, fun j _ h => absurd h (Nat.not_lt_zero _)⟩
  case round =>
    obtain ⟨m, hm, rfl, hB, HA⟩ := hrel
    by_cases hlt : m < xs.length
    · obtain ⟨blk, rfl, hblk, hcell, hcell'⟩ := HC.out m hlt
      have hc1 := cell_step hcell hB.out
      have hc2 := cell_step hcell' hB.out
      have hx := HP.out xs[m] wr hB.out
      have HN : Hid (p xs[m] = false → ∀ (j : Nat) (h : j < xs.length), j < m + 1 → p xs[j] = false) := fun q j hj hjk => by
        by_cases ej : j = m
        · subst ej; exact q
        · exact HA.out j hj (by omega)
      have HT : Hid (p xs[m] = true → ∃ x ∈ xs, p x = true) := fun q => ⟨_, List.getElem_mem hlt, q⟩
      clear HA HC HP hcell hcell'
      generalize xs[m] = x at hc1 hc2 hx HN HT
      obtain ⟨x1, x2⟩ := x
      unfold mo at hx
      dsimp only at hc1 hc2 hx
      have HX : Hid (_) := hx
      clear hx
      cases hpx : p (x1, x2) with
      | true =>
        have HT' : Hid (_) := HT.out hpx
        have HX' := HX.out
        rw [hpx] at HX'
        have HX2 : Hid (_) := HX'
        clear HT HN HX HX'
        go_wp2_with (go_at_fn g; refine Calls.mono HX2.out ?_; rintro r w1 ⟨rfl, hb1⟩)
        go_ret
        exact ⟨_, rfl, ⟨fun _ => HT'.out, fun _ => by omega⟩, below_then hB.out hb1⟩
      | false =>
        have HN' : Hid (_) := HN.out hpx
        have HX' := HX.out
        rw [hpx] at HX'
        have HX2 : Hid (_) := HX'
        clear HT HN HX HX'
        go_wp2_with (go_at_fn g; refine Calls.mono HX2.out ?_; rintro r w1 ⟨rfl, hb1⟩)
        go_roundw
        case rel => exact ⟨m + 1, by omega, by go_num, below_then hB.out hb1, HN'.out⟩
        case measure => simp [intOf]; omega
    · have HR : Hid (¬ ∃ x ∈ xs, p x = true) := fun ⟨x, hx, q⟩ => by
        obtain ⟨j, hj, rfl⟩ := List.mem_iff_getElem.1 hx
        have := HA.out j hj (by omega)
        rw [this] at q; exact absurd q (by decide)
      clear HA HC HP
      go_wp2
      go_ret
      exact ⟨_, rfl, ⟨fun q => by omega, fun q => absurd q HR.out⟩, hB.out⟩

theorem containsFuncI_any (g : Nat) (lb : Array Value) (p : Int → Bool) (xs : List Int) (sl : Value) (w : World) (hd : Ints w sl xs) (eg : ∀ args W, (callFunc g args).run Tryz.prog W = .ok (.enter g args) W)
    (hp : ∀ (x : Int) (W : World), Below w.heap.size w W → Calls Tryz.prog g (#[.int .i64 x] ++ lb) W fun r w' => r = .returned (.bool (p x)) ∧ Below W.heap.size W w') (b : Bool) (hb : b = true ↔ ∃ x ∈ xs, p x = true) :
    Calls Tryz.prog 80 #[sl, .func (.func g) #[] lb] w fun r w' => r = .returned (.bool b) ∧ Below w.heap.size w w' := by
  have C : Hid (_) := indexFuncI_any g lb p xs sl w hd eg hp
  have HB : Hid (_) := hb
  obtain ⟨a, cap, rfl, _⟩ := hd
  clear hp eg hb
  go_enter Tryz.func80, Tryz.ntmps80
  go_wp2_with (go_at_call 116; refine Calls.mono C.out ?_; rintro r w1 ⟨k, rfl, hk, hb1⟩; have HK : Hid (_) := hk; clear hk)
  all_goals
    go_ret
    refine ⟨ret_bool ?_, hb1⟩
    rw [Bool.eq_iff_iff, HB.out, ← HK.out]
    simp
    try omega
theorem containsFuncM_any (g : Nat) (lb : Array Value) (p : Int × Int → Bool) (xs : List (Int × Int)) (sl : Value) (w : World) (hd : Movs w sl xs) (eg : ∀ args W, (callFunc g args).run Tryz.prog W = .ok (.enter g args) W)
    (hp : ∀ (x : Int × Int) (W : World), Below w.heap.size w W → Calls Tryz.prog g (#[mo x] ++ lb) W fun r w' => r = .returned (.bool (p x)) ∧ Below W.heap.size W w') (b : Bool) (hb : b = true ↔ ∃ x ∈ xs, p x = true) :
    Calls Tryz.prog 82 #[sl, .func (.func g) #[] lb] w fun r w' => r = .returned (.bool b) ∧ Below w.heap.size w w' := by
  have C : Hid (_) := indexFuncM_any g lb p xs sl w hd eg hp
  have HB : Hid (_) := hb
  obtain ⟨a, cap, rfl, _⟩ := hd
  clear hp eg hb
  go_enter Tryz.func82, Tryz.ntmps82
  go_wp2_with (go_at_call 117; refine Calls.mono C.out ?_; rintro r w1 ⟨k, rfl, hk, hb1⟩; have HK : Hid (_) := hk; clear hk)
  all_goals
    go_ret
    refine ⟨ret_bool ?_, hb1⟩
    rw [Bool.eq_iff_iff, HB.out, ← HK.out]
    simp
    try omega

set_option maxHeartbeats 1000000 in
theorem indexI_any (x : Int) (xs : List Int) (sl : Value) (w : World) (hd : Ints w sl xs) :
    Calls Tryz.prog 118 #[sl, .int .i64 x] w fun r w' => ∃ k : Int, r = .returned (.int .i64 k) ∧ (0 ≤ k ↔ x ∈ xs) ∧ Below w.heap.size w w' := by
  obtain ⟨a, cap, rfl, h20, hcap, hc⟩ := hd
  have HC : Hid (_) := hc
  clear hc
  go_enter Tryz.func118, Tryz.ntmps118
  go_wp2
  go_loop [5, 8] (fun _ i => ∃ m : Nat, m ≤ xs.length ∧ i = .int .i64 m ∧ Hid (∀ (j : Nat) (h : j < xs.length), j < m → xs[j] ≠ x)) (fun _ i => xs.length - (intOf i).toNat)
  case atStart => exact ⟨0, Nat.zero_le _, rfl, fun j _ h => absurd h (Nat.not_lt_zero _)⟩
  case round =>
    obtain ⟨m, hm, rfl, HA⟩ := hrel
    by_cases hlt : m < xs.length
    · obtain ⟨blk, rfl, hblk, hcell⟩ := HC.out m hlt
      have HN : Hid (xs[m] ≠ x → ∀ (j : Nat) (h : j < xs.length), j < m + 1 → xs[j] ≠ x) := fun q j hj hjk => by
        by_cases ej : j = m
        · subst ej; exact q
        · exact HA.out j hj (by omega)
      have HT : Hid (xs[m] = x → x ∈ xs) := fun q => by rw [← q]; exact List.getElem_mem hlt
      clear HA HC
      generalize xs[m] = y at hcell HN HT
      by_cases hpx : y = x
      · have HT' : Hid (_) := HT.out hpx
        have e1 : (x == y) = true := by rw [beq_iff_eq]; exact hpx.symm
        clear HT HN hpx
        go_wp2
        go_ret
        exact ⟨_, rfl, ⟨fun _ => HT'.out, fun _ => by omega⟩, Below.refl _ _⟩
      · have HN' : Hid (_) := HN.out hpx
        have e1 : (x == y) = false := by rw [beq_eq_false_iff_ne]; exact fun q => hpx q.symm
        clear HT HN hpx
        go_wp2
        go_round
        case rel => exact ⟨m + 1, by omega, by go_num, HN'.out⟩
        case measure => simp [intOf]; omega
    · have HR : Hid (x ∉ xs) := fun hx => by
        obtain ⟨j, hj, e⟩ := List.mem_iff_getElem.1 hx
        exact HA.out j hj (by omega) e
      clear HA HC
      go_wp2
      go_ret
      exact ⟨_, rfl, ⟨fun q => by omega, fun q => absurd q HR.out⟩, Below.refl _ _⟩
theorem containsI_any (x : Int) (xs : List Int) (sl : Value) (w : World) (hd : Ints w sl xs) (b : Bool) (hb : b = true ↔ x ∈ xs) :
    Calls Tryz.prog 85 #[sl, .int .i64 x] w fun r w' => r = .returned (.bool b) ∧ Below w.heap.size w w' := by
  have C : Hid (_) := indexI_any x xs sl w hd
  have HB : Hid (_) := hb
  obtain ⟨a, cap, rfl, _⟩ := hd
  clear hb
  go_enter Tryz.func85, Tryz.ntmps85
  go_wp2_with (go_at_call 118; refine Calls.mono C.out ?_; rintro r w1 ⟨k, rfl, hk, hb1⟩; have HK : Hid (_) := hk; clear hk)
  all_goals
    go_ret
    refine ⟨ret_bool ?_, hb1⟩
    rw [Bool.eq_iff_iff, HB.out, ← HK.out]
    simp
    try omega

/-- no day -/
def noDay (x : Int) : Bool := decide (¬ (0 ≤ x ∧ x ≤ 73048))
theorem cl1_any (x : Int) (w : World) : Calls Tryz.prog 81 #[.int .i64 x] w fun r w' => r = .returned (.bool (noDay x)) ∧ Below w.heap.size w w' := by
  have D : Hid (∀ W, _) := fun W => eisDay_any x W (!(noDay x)) (by unfold noDay; simp)
  cases h : noDay x
  all_goals
    rw [h] at D
    go_enter Tryz.func81, Tryz.ntmps81
    go_wp2_with (go_at_call 52; refine (D.out _).mono ?_; rintro r w1 ⟨rfl, rfl⟩)
    go_ret
    exact ⟨rfl, Below.refl _ _⟩
theorem cl2_any (x : Int × Int) (w : World) : Calls Tryz.prog 83 #[mo x] w fun r w' => r = .returned (.bool (noDay x.1 || noDay x.2)) ∧ Below w.heap.size w w' := by
  obtain ⟨x1, x2⟩ := x
  unfold mo
  dsimp only
  have D : Hid (∀ n W, Calls Tryz.prog 52 #[.int .i64 n] W fun r w' => r = .returned (.bool (!(noDay n))) ∧ w' = W) := fun n W => eisDay_any n W (!(noDay n)) (by unfold noDay; simp)
  cases h : noDay x1
  case true =>
    go_enter Tryz.func83, Tryz.ntmps83
    go_wp2_with (go_at_call 52; refine (D.out _ _).mono ?_; rintro r w1 ⟨rfl, rfl⟩)
    go_ret
    exact ⟨rfl, below_alloc _ _⟩
  case false =>
    cases h2 : noDay x2
    all_goals
      go_enter Tryz.func83, Tryz.ntmps83
      go_wp2_with (go_at_call 52; refine (D.out _ _).mono ?_; rintro r w1 ⟨rfl, rfl⟩)
      go_ret
      exact ⟨rfl, below_alloc _ _⟩
theorem cl3_any (x : Int × Int) (B : Nat) (sk : List Int) (sl : Value) (w : World) (hB : Boxed w B 39 sl) (hd : Ints w sl sk) : Calls Tryz.prog 84 #[mo x, .pointer (some ⟨B, 0, none⟩)] w fun r w' => r = .returned (.bool (decide (x.1 ∈ sk))) ∧ Below w.heap.size w w' := by
  obtain ⟨x1, x2⟩ := x
  unfold mo
  dsimp only
  have hA := below_alloc w (.cells #[.int .i64 x1, .int .i64 x2] 72)
  have C : Hid (_) := containsI_any x1 sk sl _ (hd.step hA) (decide (x1 ∈ sk)) (by simp)
  obtain ⟨a, cap, rfl, _⟩ := hd
  have c1 := (Boxed.alloc hB (.cells #[.int .i64 x1, .int .i64 x2] 72)).cell
  have HA : Hid (_) := hA
  clear hA hB
  generalize decide (x1 ∈ sk) = b at C ⊢
  go_enter Tryz.func84, Tryz.ntmps84
  go_wp2_with (go_at_call 85; refine Calls.mono C.out ?_; rintro r w1 ⟨rfl, hb1⟩)
  go_ret
  exact ⟨rfl, below_then HA.out hb1⟩
end Go.Proofs.YtekminpoiokgfaaGreatDoor

/- What an iterator over days owes and is owed: it gives a list's days one by one as long as the round says yes; it writes blocks of its own alone; a round leaves these. The iterator of package expand that goes by days. -/
namespace Go.Proofs.YtekminpoiokgfaaGreatDoor
open Go Go.RowKit Go.Shelf Cal
attribute [local go_sem] Oper.semAt_some

/-- the blocks of a kind lie as they lay; streams are as they were; no block has gone -/
structure Steps (keep : Nat → Prop) (W W' : World) : Prop where
  os : W'.os = W.os
  tape : W'.tape = W.tape
  output : W'.output = W.output
  size : W.heap.size ≤ W'.heap.size
  block : ∀ k, keep k → k < W.heap.size → W'.heap[k]? = W.heap[k]?
theorem Steps.refl (p : Nat → Prop) (W : World) : Steps p W W := ⟨rfl, rfl, rfl, Nat.le_refl _, fun _ _ _ => rfl⟩
theorem Steps.trans {p : Nat → Prop} {A B C : World} (h : Steps p A B) (k : Steps p B C) : Steps p A C :=
  ⟨k.os.trans h.os, k.tape.trans h.tape, k.output.trans h.output, Nat.le_trans h.size k.size, fun i hp hi => (k.block i hp (Nat.lt_of_lt_of_le hi h.size)).trans (h.block i hp hi)⟩
theorem Steps.mono {p q : Nat → Prop} {A B : World} (h : Steps p A B) (hq : ∀ k, q k → p k) : Steps q A B := ⟨h.os, h.tape, h.output, h.size, fun k hk hl => h.block k (hq k hk) hl⟩
theorem Steps.below {n : Nat} {A B : World} (h : Below n A B) : Steps (fun k => k < n) A B := ⟨h.os, h.tape, h.output, h.size, fun k hk _ => h.block k hk⟩
theorem Steps.of_below {p : Nat → Prop} {A B : World} (h : Below A.heap.size A B) : Steps p A B := ⟨h.os, h.tape, h.output, h.size, fun k _ hl => h.block k hl⟩
theorem Steps.alloc (p : Nat → Prop) (W : World) (o : Obj) : Steps p W (W.alloc o) := Steps.of_below (below_alloc W o)
theorem Steps.set {p : Nat → Prop} (W : World) (a : Addr) (v : Value) (h : ¬ p a.block) : Steps p W (W.setCell a v) :=
  ⟨rfl, rfl, rfl, by rw [set_size]; exact Nat.le_refl _, fun k hk _ => Below.heap_setCell _ _ _ k (fun e => h (e ▸ hk))⟩
theorem Steps.put {p : Nat → Prop} (W : World) (l : Nat) (o : Obj) (h : ¬ p l) : Steps p W (W.putObj l o) :=
  ⟨rfl, rfl, rfl, by rw [World.putObj_size]; exact Nat.le_refl _, fun k hk _ => World.putObj_heap_other (fun e => h (e ▸ hk))⟩
theorem Steps.box {p : Nat → Prop} {A B : World} (h : Steps p A B) {b : Nat} {t : TypeId} {v : Value} (hb : Boxed A b t v) (hp : p b) : Boxed B b t v :=
  (h.block b hp (Array.getElem?_eq_some_iff.1 hb).1).trans hb
end Go.Proofs.YtekminpoiokgfaaGreatDoor

/- Plain mathematics of what comes again: from month to month, from week to week. -/
namespace Go.Proofs.YtekminpoiokgfaaGreatDoor.Cal

theorem getD_at {ds : List Int} {q : Nat} (h : q < ds.length) : ds.getD q 0 = ds[q] := by simp [List.getD, List.getElem?_eq_getElem h]
end Go.Proofs.YtekminpoiokgfaaGreatDoor.Cal

/- The iterators of package expand that go by months, and the one of a single day. -/
namespace Go.Proofs.YtekminpoiokgfaaGreatDoor
open Go Go.RowKit Go.Shelf Cal
attribute [local go_sem] Oper.semAt_some

end Go.Proofs.YtekminpoiokgfaaGreatDoor

/- The iterator of package expand that goes by weeks. -/
namespace Go.Proofs.YtekminpoiokgfaaGreatDoor
open Go Go.RowKit Go.Shelf Cal
attribute [local go_sem] Oper.semAt_some

/-- the cells of a list of days -/
def Cls (w : World) (a : Option Addr) (ds : List Int) : Prop := ∀ (j : Nat) (h : j < ds.length), ∃ b : Nat, a = some ⟨b, 0, none⟩ ∧ b < w.heap.size ∧ w.cell? ⟨b, j, none⟩ = some (.int .i64 ds[j])
theorem Cls.step {w w' : World} {a : Option Addr} {ds : List Int} (h : Cls w a ds) (hb : Below w.heap.size w w') : Cls w' a ds := fun j hj => by
  obtain ⟨b, e, hl, hc⟩ := h j hj
  exact ⟨b, e, Nat.lt_of_lt_of_le hl hb.size, cell_step hc hb⟩

end Go.Proofs.YtekminpoiokgfaaGreatDoor

/- A loop over an iterator of days: one law for those who range over it. The round's body is walked once; the loop's record and the block for deferred calls are kept here. Conditions: a round ends normally, returns or breaks; it leaves the iterator's blocks. -/
namespace Go.Proofs.YtekminpoiokgfaaGreatDoor
open Go Go.RowKit Cal

end Go.Proofs.YtekminpoiokgfaaGreatDoor

/- Contracts of package expand's makers of iterators, of its check, and of the candidates: an iterator that gives the candidates of a start and a rule that are well. -/
namespace Go.Proofs.YtekminpoiokgfaaGreatDoor
open Go Go.RowKit Go.Shelf Cal

end Go.Proofs.YtekminpoiokgfaaGreatDoor
