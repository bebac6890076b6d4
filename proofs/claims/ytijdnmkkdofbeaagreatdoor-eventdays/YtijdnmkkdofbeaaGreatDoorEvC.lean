/- Contracts of slices.ContainsFunc and Contains over an event's lists, of package event's fromsOf and checkLists' own functions. -/
import Derived.Test.YtijdnmkkdofbeaaGreatDoorEvV
import Derived.Shelf.Abstract
namespace Go.Proofs.YtijdnmkkdofbeaaGreatDoor
open Go Go.RowKit Cal
attribute [local go_sem] Oper.semAt_some

set_option maxHeartbeats 1000000 in
theorem indexFuncI_any (g : Nat) (lb : Array Value) (p : Int → Bool) (xs : List Int) (sl : Value) (w : World) (hd : Ints w sl xs) (eg : ∀ args W, (callFunc g args).run Tryz.prog W = .ok (.enter g args) W)
    (hp : ∀ (x : Int) (W : World), Below w.heap.size w W → Calls Tryz.prog g (#[.int .i64 x] ++ lb) W fun r w' => r = .returned (.bool (p x)) ∧ Below W.heap.size W w') :
    Calls Tryz.prog 99 #[sl, .func (.func g) #[] lb] w fun r w' => ∃ k : Int, r = .returned (.int .i64 k) ∧ (0 ≤ k ↔ ∃ x ∈ xs, p x = true) ∧ Below w.heap.size w w' := by
  obtain ⟨a, cap, rfl, h20, hcap, hc⟩ := hd
  have HC : Hid (_) := hc
  have HP : Hid (_) := hp
  clear hc hp
  go_enter Tryz.func99, Tryz.ntmps99
  go_wp2
  go_loopw [5, 8] (fun _ i wr => ∃ m : Nat, m ≤ xs.length ∧ i = .int .i64 m ∧ Hid (Below w.heap.size w wr) ∧ Hid (∀ (j : Nat) (h : j < xs.length), j < m → p xs[j] = false)) (fun _ i _ => xs.length - (intOf i).toNat)
  case atStart => exact ⟨0, Nat.zero_le _, rfl, Below.refl _ _, fun j _ h => absurd h (Nat.not_lt_zero _)⟩
  case round =>
    obtain ⟨m, hm, rfl, hB, HA⟩ := hrel
    by_cases hlt : m < xs.length
    · obtain ⟨blk, rfl, hblk, hcell⟩ := HC.out m hlt
      have hcell2 := cell_step hcell hB.out
      have hx := HP.out xs[m] wr hB.out
      have HN : Hid (p xs[m] = false → ∀ (j : Nat) (h : j < xs.length), j < m + 1 → p xs[j] = false) := fun q j hj hjk => by
        by_cases ej : j = m
        · subst ej; exact q
        · exact HA.out j hj (by omega)
      have HT : Hid (p xs[m] = true → ∃ x ∈ xs, p x = true) := fun q => ⟨_, List.getElem_mem hlt, q⟩
      clear HA HC HP hcell
      generalize xs[m] = x at hcell2 hx HN HT
      have HX : Hid (_) := hx
      clear hx
      cases hpx : p x with
      | true =>
        have HT' : Hid (_) := HT.out hpx
        have HX' := HX.out
        rw [hpx] at HX'
        have HX2 : Hid (_) := HX'
        clear HT HN HX HX'
        go_wp2_with (go_at_fn g; refine Calls.mono HX2.out ?_; rintro r w1 ⟨rfl, hb1⟩)
        go_ret
        exact ⟨_, rfl, ⟨fun _ => HT'.out, fun _ => by omega⟩, below_then hB.out hb1⟩
      | false =>
        have HN' : Hid (_) := HN.out hpx
        have HX' := HX.out
        rw [hpx] at HX'
        have HX2 : Hid (_) := HX'
        clear HT HN HX HX'
        go_wp2_with (go_at_fn g; refine Calls.mono HX2.out ?_; rintro r w1 ⟨rfl, hb1⟩)
        go_roundw
        case rel => exact ⟨m + 1, by omega, by go_num, below_then hB.out hb1, HN'.out⟩
        case measure => simp [intOf]; omega
    · have HR : Hid (¬ ∃ x ∈ xs, p x = true) := fun ⟨x, hx, q⟩ => by
        obtain ⟨j, hj, rfl⟩ := List.mem_iff_getElem.1 hx
        have := HA.out j hj (by omega)
        rw [this] at q; exact absurd q (by decide)
      clear HA HC HP
      go_wp2
      go_ret
      exact ⟨_, rfl, ⟨fun q => by omega, fun q => absurd q HR.out⟩, hB.out⟩

/-- a move as a value -/
def mo (x : Int × Int) : Value := .agg #[.int .i64 x.1, .int .i64 x.2]

set_option maxHeartbeats 1000000 in
theorem indexFuncM_any (g : Nat) (lb : Array Value) (p : Int × Int → Bool) (xs : List (Int × Int)) (sl : Value) (w : World) (hd : Movs w sl xs) (eg : ∀ args W, (callFunc g args).run Tryz.prog W = .ok (.enter g args) W)
    (hp : ∀ (x : Int × Int) (W : World), Below w.heap.size w W → Calls Tryz.prog g (#[mo x] ++ lb) W fun r w' => r = .returned (.bool (p x)) ∧ Below W.heap.size W w') :
    Calls Tryz.prog 100 #[sl, .func (.func g) #[] lb] w fun r w' => ∃ k : Int, r = .returned (.int .i64 k) ∧ (0 ≤ k ↔ ∃ x ∈ xs, p x = true) ∧ Below w.heap.size w w' := by
  obtain ⟨a, cap, rfl, h20, hcap, hc⟩ := hd
  have HC : Hid (_) := hc
  have HP : Hid (_) := hp
  clear hc hp
  go_enter Tryz.func100, Tryz.ntmps100
  go_wp2
  go_loopw [5, 8] (fun _ i wr => ∃ m : Nat, m ≤ xs.length ∧ i = .int .i64 m ∧ Hid (Below w.heap.size w wr) ∧ Hid (∀ (j : Nat) (h : j < xs.length), j < m → p xs[j] = false)) (fun _ i _ => xs.length - (intOf i).toNat)
  case atStart => exact ⟨0, Nat.zero_le _, rfl, Below.refl _ _, fun j _ h => absurd h (Nat.not_lt_zero _)⟩
  case round =>
    obtain ⟨m, hm, rfl, hB, HA⟩ := hrel
    by_cases hlt : m < xs.length
    · obtain ⟨blk, rfl, hblk, hcell, hcell'⟩ := HC.out m hlt
      have hc1 := cell_step hcell hB.out
      have hc2 := cell_step hcell' hB.out
      have hx := HP.out xs[m] wr hB.out
      have HN : Hid (p xs[m] = false → ∀ (j : Nat) (h : j < xs.length), j < m + 1 → p xs[j] = false) := fun q j hj hjk => by
        by_cases ej : j = m
        · subst ej; exact q
        · exact HA.out j hj (by omega)
      have HT : Hid (p xs[m] = true → ∃ x ∈ xs, p x = true) := fun q => ⟨_, List.getElem_mem hlt, q⟩
      clear HA HC HP hcell hcell'
      generalize xs[m] = x at hc1 hc2 hx HN HT
      obtain ⟨x1, x2⟩ := x
      unfold mo at hx
      dsimp only at hc1 hc2 hx
      have HX : Hid (_) := hx
      clear hx
      cases hpx : p (x1, x2) with
      | true =>
        have HT' : Hid (_) := HT.out hpx
        have HX' := HX.out
        rw [hpx] at HX'
        have HX2 : Hid (_) := HX'
        clear HT HN HX HX'
        go_wp2_with (go_at_fn g; refine Calls.mono HX2.out ?_; rintro r w1 ⟨rfl, hb1⟩)
        go_ret
        exact ⟨_, rfl, ⟨fun _ => HT'.out, fun _ => by omega⟩, below_then hB.out hb1⟩
      | false =>
        have HN' : Hid (_) := HN.out hpx
        have HX' := HX.out
        rw [hpx] at HX'
        have HX2 : Hid (_) := HX'
        clear HT HN HX HX'
        go_wp2_with (go_at_fn g; refine Calls.mono HX2.out ?_; rintro r w1 ⟨rfl, hb1⟩)
        go_roundw
        case rel => exact ⟨m + 1, by omega, by go_num, below_then hB.out hb1, HN'.out⟩
        case measure => simp [intOf]; omega
    · have HR : Hid (¬ ∃ x ∈ xs, p x = true) := fun ⟨x, hx, q⟩ => by
        obtain ⟨j, hj, rfl⟩ := List.mem_iff_getElem.1 hx
        have := HA.out j hj (by omega)
        rw [this] at q; exact absurd q (by decide)
      clear HA HC HP
      go_wp2
      go_ret
      exact ⟨_, rfl, ⟨fun q => by omega, fun q => absurd q HR.out⟩, hB.out⟩

theorem containsFuncI_any (g : Nat) (lb : Array Value) (p : Int → Bool) (xs : List Int) (sl : Value) (w : World) (hd : Ints w sl xs) (eg : ∀ args W, (callFunc g args).run Tryz.prog W = .ok (.enter g args) W)
    (hp : ∀ (x : Int) (W : World), Below w.heap.size w W → Calls Tryz.prog g (#[.int .i64 x] ++ lb) W fun r w' => r = .returned (.bool (p x)) ∧ Below W.heap.size W w') (b : Bool) (hb : b = true ↔ ∃ x ∈ xs, p x = true) :
    Calls Tryz.prog 58 #[sl, .func (.func g) #[] lb] w fun r w' => r = .returned (.bool b) ∧ Below w.heap.size w w' := by
  have C : Hid (_) := indexFuncI_any g lb p xs sl w hd eg hp
  have HB : Hid (_) := hb
  obtain ⟨a, cap, rfl, _⟩ := hd
  clear hp eg hb
  go_enter Tryz.func58, Tryz.ntmps58
  go_wp2_with (go_at_call 99; refine Calls.mono C.out ?_; rintro r w1 ⟨k, rfl, hk, hb1⟩; have HK : Hid (_) := hk; clear hk)
  all_goals
    go_ret
    refine ⟨ret_bool ?_, hb1⟩
    rw [Bool.eq_iff_iff, HB.out, ← HK.out]
    simp
    try omega
theorem containsFuncM_any (g : Nat) (lb : Array Value) (p : Int × Int → Bool) (xs : List (Int × Int)) (sl : Value) (w : World) (hd : Movs w sl xs) (eg : ∀ args W, (callFunc g args).run Tryz.prog W = .ok (.enter g args) W)
    (hp : ∀ (x : Int × Int) (W : World), Below w.heap.size w W → Calls Tryz.prog g (#[mo x] ++ lb) W fun r w' => r = .returned (.bool (p x)) ∧ Below W.heap.size W w') (b : Bool) (hb : b = true ↔ ∃ x ∈ xs, p x = true) :
    Calls Tryz.prog 60 #[sl, .func (.func g) #[] lb] w fun r w' => r = .returned (.bool b) ∧ Below w.heap.size w w' := by
  have C : Hid (_) := indexFuncM_any g lb p xs sl w hd eg hp
  have HB : Hid (_) := hb
  obtain ⟨a, cap, rfl, _⟩ := hd
  clear hp eg hb
  go_enter Tryz.func60, Tryz.ntmps60
  go_wp2_with (go_at_call 100; refine Calls.mono C.out ?_; rintro r w1 ⟨k, rfl, hk, hb1⟩; have HK : Hid (_) := hk; clear hk)
  all_goals
    go_ret
    refine ⟨ret_bool ?_, hb1⟩
    rw [Bool.eq_iff_iff, HB.out, ← HK.out]
    simp
    try omega

set_option maxHeartbeats 1000000 in
theorem indexI_any (x : Int) (xs : List Int) (sl : Value) (w : World) (hd : Ints w sl xs) :
    Calls Tryz.prog 101 #[sl, .int .i64 x] w fun r w' => ∃ k : Int, r = .returned (.int .i64 k) ∧ (0 ≤ k ↔ x ∈ xs) ∧ Below w.heap.size w w' := by
  obtain ⟨a, cap, rfl, h20, hcap, hc⟩ := hd
  have HC : Hid (_) := hc
  clear hc
  go_enter Tryz.func101, Tryz.ntmps101
  go_wp2
  go_loop [5, 8] (fun _ i => ∃ m : Nat, m ≤ xs.length ∧ i = .int .i64 m ∧ Hid (∀ (j : Nat) (h : j < xs.length), j < m → xs[j] ≠ x)) (fun _ i => xs.length - (intOf i).toNat)
  case atStart => exact ⟨0, Nat.zero_le _, rfl, fun j _ h => absurd h (Nat.not_lt_zero _)⟩
  case round =>
    obtain ⟨m, hm, rfl, HA⟩ := hrel
    by_cases hlt : m < xs.length
    · obtain ⟨blk, rfl, hblk, hcell⟩ := HC.out m hlt
      have HN : Hid (xs[m] ≠ x → ∀ (j : Nat) (h : j < xs.length), j < m + 1 → xs[j] ≠ x) := fun q j hj hjk => by
        by_cases ej : j = m
        · subst ej; exact q
        · exact HA.out j hj (by omega)
      have HT : Hid (xs[m] = x → x ∈ xs) := fun q => by rw [← q]; exact List.getElem_mem hlt
      clear HA HC
      generalize xs[m] = y at hcell HN HT
      by_cases hpx : y = x
      · have HT' : Hid (_) := HT.out hpx
        have e1 : (x == y) = true := by rw [beq_iff_eq]; exact hpx.symm
        clear HT HN hpx
        go_wp2
        go_ret
        exact ⟨_, rfl, ⟨fun _ => HT'.out, fun _ => by omega⟩, Below.refl _ _⟩
      · have HN' : Hid (_) := HN.out hpx
        have e1 : (x == y) = false := by rw [beq_eq_false_iff_ne]; exact fun q => hpx q.symm
        clear HT HN hpx
        go_wp2
        go_round
        case rel => exact ⟨m + 1, by omega, by go_num, HN'.out⟩
        case measure => simp [intOf]; omega
    · have HR : Hid (x ∉ xs) := fun hx => by
        obtain ⟨j, hj, e⟩ := List.mem_iff_getElem.1 hx
        exact HA.out j hj (by omega) e
      clear HA HC
      go_wp2
      go_ret
      exact ⟨_, rfl, ⟨fun q => by omega, fun q => absurd q HR.out⟩, Below.refl _ _⟩
theorem containsI_any (x : Int) (xs : List Int) (sl : Value) (w : World) (hd : Ints w sl xs) (b : Bool) (hb : b = true ↔ x ∈ xs) :
    Calls Tryz.prog 63 #[sl, .int .i64 x] w fun r w' => r = .returned (.bool b) ∧ Below w.heap.size w w' := by
  have C : Hid (_) := indexI_any x xs sl w hd
  have HB : Hid (_) := hb
  obtain ⟨a, cap, rfl, _⟩ := hd
  clear hb
  go_enter Tryz.func63, Tryz.ntmps63
  go_wp2_with (go_at_call 101; refine Calls.mono C.out ?_; rintro r w1 ⟨k, rfl, hk, hb1⟩; have HK : Hid (_) := hk; clear hk)
  all_goals
    go_ret
    refine ⟨ret_bool ?_, hb1⟩
    rw [Bool.eq_iff_iff, HB.out, ← HK.out]
    simp
    try omega

/-- no day -/
def noDay (x : Int) : Bool := decide (¬ (0 ≤ x ∧ x ≤ 73048))
theorem cl1_any (x : Int) (w : World) : Calls Tryz.prog 59 #[.int .i64 x] w fun r w' => r = .returned (.bool (noDay x)) ∧ Below w.heap.size w w' := by
  have D : Hid (∀ W, _) := fun W => eisDay_any x W (!(noDay x)) (by unfold noDay; simp)
  cases h : noDay x
  all_goals
    rw [h] at D
    go_enter Tryz.func59, Tryz.ntmps59
    go_wp2_with (go_at_call 24; refine (D.out _).mono ?_; rintro r w1 ⟨rfl, rfl⟩)
    go_ret
    exact ⟨rfl, Below.refl _ _⟩
theorem cl2_any (x : Int × Int) (w : World) : Calls Tryz.prog 61 #[mo x] w fun r w' => r = .returned (.bool (noDay x.1 || noDay x.2)) ∧ Below w.heap.size w w' := by
  obtain ⟨x1, x2⟩ := x
  unfold mo
  dsimp only
  have D : Hid (∀ n W, Calls Tryz.prog 24 #[.int .i64 n] W fun r w' => r = .returned (.bool (!(noDay n))) ∧ w' = W) := fun n W => eisDay_any n W (!(noDay n)) (by unfold noDay; simp)
  cases h : noDay x1
  case true =>
    go_enter Tryz.func61, Tryz.ntmps61
    go_wp2_with (go_at_call 24; refine (D.out _ _).mono ?_; rintro r w1 ⟨rfl, rfl⟩)
    go_ret
    exact ⟨rfl, below_alloc _ _⟩
  case false =>
    cases h2 : noDay x2
    all_goals
      go_enter Tryz.func61, Tryz.ntmps61
      go_wp2_with (go_at_call 24; refine (D.out _ _).mono ?_; rintro r w1 ⟨rfl, rfl⟩)
      go_ret
      exact ⟨rfl, below_alloc _ _⟩
theorem cl3_any (x : Int × Int) (B : Nat) (sk : List Int) (sl : Value) (w : World) (hB : Boxed w B 22 sl) (hd : Ints w sl sk) : Calls Tryz.prog 62 #[mo x, .pointer (some ⟨B, 0, none⟩)] w fun r w' => r = .returned (.bool (decide (x.1 ∈ sk))) ∧ Below w.heap.size w w' := by
  obtain ⟨x1, x2⟩ := x
  unfold mo
  dsimp only
  have hA := below_alloc w (.cells #[.int .i64 x1, .int .i64 x2] 44)
  have C : Hid (_) := containsI_any x1 sk sl _ (hd.step hA) (decide (x1 ∈ sk)) (by simp)
  obtain ⟨a, cap, rfl, _⟩ := hd
  have c1 := (Boxed.alloc hB (.cells #[.int .i64 x1, .int .i64 x2] 44)).cell
  have HA : Hid (_) := hA
  clear hA hB
  generalize decide (x1 ∈ sk) = b at C ⊢
  go_enter Tryz.func62, Tryz.ntmps62
  go_wp2_with (go_at_call 63; refine Calls.mono C.out ?_; rintro r w1 ⟨rfl, hb1⟩)
  go_ret
  exact ⟨rfl, below_then HA.out hb1⟩
end Go.Proofs.YtijdnmkkdofbeaaGreatDoor
