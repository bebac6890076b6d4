/- Lists that are searched: slices.BinarySearch over rising numbers, BinarySearchFunc over moves, and package event's movedTo. -/
import Derived.Test.YtnpecjccajebiaaGreatDoorYaAH
import Derived.Deep.LoopGhost
namespace Go.Proofs.YtnpecjccajebiaaGreatDoor
open Go Go.RowKit Cal
attribute [local go_sem] Oper.semAt_some

theorem cisNaN_any (x : Int) (w : World) : Calls Tryz.prog 212 #[.int .i64 x] w fun r w' => r = .returned (.bool false) ∧ w' = w := by
  go_enter Tryz.func212, Tryz.ntmps212
  go_wp2
  go_ret
  exact ⟨ret_bool (by simp), rfl⟩
theorem sisNaN_any (x : Int) (w : World) : Calls Tryz.prog 165 #[.int .i64 x] w fun r w' => r = .returned (.bool false) ∧ w' = w := by
  go_enter Tryz.func165, Tryz.ntmps165
  go_wp2
  go_ret
  exact ⟨ret_bool (by simp), rfl⟩
theorem less_any (x y : Int) (w : World) : Calls Tryz.prog 164 #[.int .i64 x, .int .i64 y] w fun r w' => r = .returned (.bool (decide (x < y))) ∧ w' = w := by
  have C : Hid (∀ x W, _) := fun x W => cisNaN_any x W
  go_enter Tryz.func164, Tryz.ntmps164
  go_wp2_with (go_at_call 212; refine (C.out _ _).mono ?_; rintro r w1 ⟨rfl, rfl⟩)
  go_ret
  exact ⟨rfl, rfl⟩
/-- as cmp.Compare tells it -/
def cmpI (x y : Int) : Int := if x < y then -1 else if y < x then 1 else 0
theorem compare_any (x y : Int) (w : World) : Calls Tryz.prog 168 #[.int .i64 x, .int .i64 y] w fun r w' => r = .returned (.int .i64 (cmpI x y)) ∧ w' = w := by
  have C : Hid (∀ x W, _) := fun x W => cisNaN_any x W
  have K : Hid (cmpI x y = if x < y then -1 else if y < x then 1 else 0) := rfl
  by_cases h1 : x < y
  · rw [if_pos h1] at K
    go_enter Tryz.func168, Tryz.ntmps168
    go_wp2_with (go_at_call 212; refine (C.out _ _).mono ?_; rintro r w1 ⟨rfl, rfl⟩)
    go_ret
    exact ⟨ret_int K.out.symm, rfl⟩
  · rw [if_neg h1] at K
    by_cases h2 : y < x
    · rw [if_pos h2] at K
      go_enter Tryz.func168, Tryz.ntmps168
      go_wp2_with (go_at_call 212; refine (C.out _ _).mono ?_; rintro r w1 ⟨rfl, rfl⟩)
      go_ret
      exact ⟨ret_int K.out.symm, rfl⟩
    · rw [if_neg h2] at K
      go_enter Tryz.func168, Tryz.ntmps168
      go_wp2_with (go_at_call 212; refine (C.out _ _).mono ?_; rintro r w1 ⟨rfl, rfl⟩)
      go_ret
      exact ⟨ret_int K.out.symm, rfl⟩
theorem movedTo1_any (m : Int × Int) (d : Int) (w : World) : Calls Tryz.prog 167 #[mo m, .int .i64 d] w fun r w' => r = .returned (.int .i64 (cmpI m.1 d)) ∧ Below w.heap.size w w' := by
  obtain ⟨x1, x2⟩ := m
  unfold mo
  dsimp only
  have C : Hid (∀ W, _) := fun W => compare_any x1 d W
  generalize cmpI x1 d = k at C ⊢
  go_enter Tryz.func167, Tryz.ntmps167
  go_wp2_with (go_at_call 168; refine (C.out _).mono ?_; rintro r w1 ⟨rfl, rfl⟩)
  go_ret
  exact ⟨rfl, below_alloc _ _⟩

/-- in a rising list: all ahead of a place are less, all from it on are not -/
theorem search_at {xs : List Int} {x : Int} {i : Nat} (hi : i ≤ xs.length) (h1 : ∀ (t : Nat) (h : t < xs.length), t < i → xs[t] < x) (h2 : ∀ (t : Nat) (h : t < xs.length), i ≤ t → x ≤ xs[t]) (hr : xs.Pairwise (· < ·)) :
    x ∈ xs ↔ ∃ h : i < xs.length, xs[i] = x := by
  constructor
  · intro hx
    obtain ⟨j, hj, e⟩ := List.mem_iff_getElem.1 hx
    have hij : i ≤ j := by
      rcases Nat.lt_or_ge j i with q | q
      · have := h1 j hj q; omega
      · exact q
    have hil : i < xs.length := by omega
    refine ⟨hil, ?_⟩
    rcases Nat.lt_or_ge i j with q | q
    · have a1 := List.pairwise_iff_getElem.1 hr i j hil hj q
      have a2 := h2 i hil (Nat.le_refl _)
      omega
    · have : i = j := by omega
      subst this; exact e
  · rintro ⟨h, e⟩
    rw [← e]; exact List.getElem_mem h

set_option maxHeartbeats 1000000 in
theorem binSearch_any (xs : List Int) (sl : Value) (x : Int) (w : World) (hd : Ints w sl xs) (hr : xs.Pairwise (· < ·)) :
    Calls Tryz.prog 119 #[sl, .int .i64 x] w fun r w' => ∃ k : Int, r = .returned (.tuple #[.int .i64 k, .bool (decide (x ∈ xs))]) ∧ Below w.heap.size w w' := by
  obtain ⟨a, cap, rfl, h20, hcap, hc⟩ := hd
  have HC : Hid (_) := hc
  have HR : Hid (_) := hr
  have LE : Hid (∀ x y W, _) := fun x y W => less_any x y W
  have NN : Hid (∀ x W, _) := fun x W => sisNaN_any x W
  clear hc hr
  go_enter Tryz.func119, Tryz.ntmps119
  go_wp2
  go_loopg [7, 8] xs.length (fun g s7 s8 wr => ∃ lo hi : Nat, s7 = .int .i64 lo ∧ s8 = .int .i64 hi ∧ lo ≤ hi ∧ hi ≤ xs.length ∧ hi - lo ≤ g ∧ wr = w ∧ Hid (∀ (t : Nat) (h : t < xs.length), t < lo → xs[t] < x) ∧ Hid (∀ (t : Nat) (h : t < xs.length), hi ≤ t → x ≤ xs[t]))
  case atStart => exact ⟨0, xs.length, rfl, rfl, Nat.zero_le _, Nat.le_refl _, by omega, rfl, fun t _ ht => absurd ht (Nat.not_lt_zero _), fun t h1 h2 => by omega⟩
  case round =>
    obtain ⟨lo, hi, rfl, rfl, hlh, hin, hg, rfl, I1, I2⟩ := hrel
    by_cases hlt : lo < hi
    · have hm : (lo + hi) / 2 < xs.length := by omega
      obtain ⟨blk, rfl, hblk, hcell⟩ := HC.out _ hm
      have Y : Hid (∀ (t : Nat) (h : t < xs.length), (t ≤ (lo + hi) / 2 → xs[t] ≤ xs[(lo + hi) / 2]) ∧ ((lo + hi) / 2 ≤ t → xs[(lo + hi) / 2] ≤ xs[t])) := fun t ht => by
        refine ⟨fun q => ?_, fun q => ?_⟩
        · rcases Nat.lt_or_ge t ((lo + hi) / 2) with p | p
          · have := List.pairwise_iff_getElem.1 HR.out t _ ht hm p; omega
          · have : t = (lo + hi) / 2 := by omega
            subst this; exact Int.le_refl _
        · rcases Nat.lt_or_ge ((lo + hi) / 2) t with p | p
          · have := List.pairwise_iff_getElem.1 HR.out _ t hm ht p; omega
          · have : t = (lo + hi) / 2 := by omega
            subst this; exact Int.le_refl _
      clear HC HR
      generalize xs[(lo + hi) / 2] = y at hcell Y
      by_cases hyx : y < x
      · go_wp2_with (first | (go_at_call 164; refine (LE.out _ _ _).mono ?_; rintro r w1 ⟨rfl, rfl⟩) | (go_at_call 165; refine (NN.out _ _).mono ?_; rintro r w1 ⟨rfl, rfl⟩))
        go_roundg (hi - ((lo + hi) / 2 + 1))
        case measure => omega
        case rel =>
          refine ⟨(lo + hi) / 2 + 1, hi, by rw [show ((lo : Int) + (hi : Int)) / 2 + 1 = (((lo + hi) / 2 + 1 : Nat) : Int) by omega], rfl, by omega, hin, Nat.le_refl _, rfl, fun t ht q => ?_, I2⟩
          have := (Y.out t ht).1 (by omega)
          omega
      · go_wp2_with (first | (go_at_call 164; refine (LE.out _ _ _).mono ?_; rintro r w1 ⟨rfl, rfl⟩) | (go_at_call 165; refine (NN.out _ _).mono ?_; rintro r w1 ⟨rfl, rfl⟩))
        go_roundg ((lo + hi) / 2 - lo)
        case measure => omega
        case rel =>
          refine ⟨lo, (lo + hi) / 2, rfl, by rw [show ((lo : Int) + (hi : Int)) / 2 = (((lo + hi) / 2 : Nat) : Int) by omega], by omega, by omega, Nat.le_refl _, rfl, I1, fun t ht q => ?_⟩
          have := (Y.out t ht).2 (by omega)
          omega
    · have : hi = lo := by omega
      subst this
      have E : Hid (x ∈ xs ↔ ∃ h : hi < xs.length, xs[hi] = x) := search_at hin I1.out I2.out HR.out
      clear I1 I2 HR
      by_cases hn : hi < xs.length
      · obtain ⟨blk, rfl, hblk, hcell⟩ := HC.out _ hn
        have E2 : Hid (x ∈ xs ↔ xs[hi] = x) := E.out.trans ⟨fun ⟨_, q⟩ => q, fun q => ⟨hn, q⟩⟩
        clear HC E
        generalize xs[hi] = y at hcell E2
        by_cases hyx : y = x
        · have hb : (y == x) = true := by rw [beq_iff_eq]; exact hyx
          have E3 : Hid (decide (x ∈ xs) = true) := decide_eq_true (E2.out.2 hyx)
          clear hyx E2
          go_wp2_with (first | (go_at_call 164; refine (LE.out _ _ _).mono ?_; rintro r w1 ⟨rfl, rfl⟩) | (go_at_call 165; refine (NN.out _ _).mono ?_; rintro r w1 ⟨rfl, rfl⟩))
          go_ret2
          exact ⟨hi, by rw [E3.out]; rfl, Below.refl _ _⟩
        · have hb : (y == x) = false := by rw [beq_eq_false_iff_ne]; exact hyx
          have E3 : Hid (decide (x ∈ xs) = false) := decide_eq_false (fun q => hyx (E2.out.1 q))
          clear hyx E2
          go_wp2_with (first | (go_at_call 164; refine (LE.out _ _ _).mono ?_; rintro r w1 ⟨rfl, rfl⟩) | (go_at_call 165; refine (NN.out _ _).mono ?_; rintro r w1 ⟨rfl, rfl⟩))
          go_ret2
          exact ⟨hi, by rw [E3.out]; rfl, Below.refl _ _⟩
      · have E3 : Hid (decide (x ∈ xs) = false) := decide_eq_false (fun q => by obtain ⟨q1, _⟩ := E.out.1 q; exact hn q1)
        clear HC E
        go_wp2_with (first | (go_at_call 164; refine (LE.out _ _ _).mono ?_; rintro r w1 ⟨rfl, rfl⟩) | (go_at_call 165; refine (NN.out _ _).mono ?_; rintro r w1 ⟨rfl, rfl⟩))
        go_ret2
        exact ⟨hi, by rw [E3.out]; rfl, Below.refl _ _⟩

set_option maxHeartbeats 1000000 in
theorem binSearchM_any (ms : List (Int × Int)) (sl : Value) (x : Int) (w : World) (hd : Movs w sl ms) (hr : (ms.map Prod.fst).Pairwise (· < ·)) :
    Calls Tryz.prog 166 #[sl, .int .i64 x, .func (.func 167) #[] #[]] w fun r w' => ∃ (k : Nat) (b : Bool), r = .returned (.tuple #[.int .i64 k, .bool b]) ∧ k ≤ ms.length ∧ (b = true → ∃ h : k < ms.length, ms[k].1 = x) ∧ (b = false → ∀ m ∈ ms, m.1 ≠ x) ∧ Below w.heap.size w w' := by
  obtain ⟨a, cap, rfl, h20, hcap, hc⟩ := hd
  have HC : Hid (_) := hc
  have HR : Hid (_) := hr
  have CM : Hid (∀ m d W, Calls Tryz.prog 167 #[mo m, .int .i64 d] W fun r w' => r = .returned (.int .i64 (cmpI m.1 d)) ∧ Below W.heap.size W w') := fun m d W => movedTo1_any m d W
  unfold mo at CM
  clear hc hr
  go_enter Tryz.func166, Tryz.ntmps166
  go_wp2
  go_loopg [9, 10] ms.length (fun g s9 s10 wr => ∃ lo hi : Nat, s9 = .int .i64 lo ∧ s10 = .int .i64 hi ∧ lo ≤ hi ∧ hi ≤ ms.length ∧ hi - lo ≤ g ∧ Hid (Below w.heap.size w wr) ∧ Hid (∀ (t : Nat) (h : t < ms.length), t < lo → ms[t].1 < x) ∧ Hid (∀ (t : Nat) (h : t < ms.length), hi ≤ t → x ≤ ms[t].1))
  case atStart => exact ⟨0, ms.length, rfl, rfl, Nat.zero_le _, Nat.le_refl _, by omega, Below.refl _ _, fun t _ ht => absurd ht (Nat.not_lt_zero _), fun t h1 h2 => by omega⟩
  case round =>
    obtain ⟨lo, hi, rfl, rfl, hlh, hin, hg, hB, I1, I2⟩ := hrel
    by_cases hlt : lo < hi
    · have hm : (lo + hi) / 2 < ms.length := by omega
      obtain ⟨blk, rfl, hblk, hcell, hcell'⟩ := HC.out _ hm
      have hc1 := cell_step hcell hB.out
      have hc2 := cell_step hcell' hB.out
      have Y : Hid (∀ (t : Nat) (h : t < ms.length), (t ≤ (lo + hi) / 2 → ms[t].1 ≤ ms[(lo + hi) / 2].1) ∧ ((lo + hi) / 2 ≤ t → ms[(lo + hi) / 2].1 ≤ ms[t].1)) := fun t ht => by
        refine ⟨fun q => ?_, fun q => ?_⟩
        · rcases Nat.lt_or_ge t ((lo + hi) / 2) with p | p
          · have := List.pairwise_iff_getElem.1 HR.out t _ (by simpa using ht) (by simpa using hm) p
            simp at this; omega
          · have : t = (lo + hi) / 2 := by omega
            subst this; exact Int.le_refl _
        · rcases Nat.lt_or_ge ((lo + hi) / 2) t with p | p
          · have := List.pairwise_iff_getElem.1 HR.out _ t (by simpa using hm) (by simpa using ht) p
            simp at this; omega
          · have : t = (lo + hi) / 2 := by omega
            subst this; exact Int.le_refl _
      clear HC HR hcell hcell'
      generalize ms[(lo + hi) / 2] = y at hc1 hc2 Y
      obtain ⟨y1, y2⟩ := y
      dsimp only at hc1 hc2 Y
      have CY : Hid (∀ W, Calls Tryz.prog 167 #[.agg #[.int .i64 y1, .int .i64 y2], .int .i64 x] W fun r w' => r = .returned (.int .i64 (cmpI y1 x)) ∧ Below W.heap.size W w') := fun W => CM.out (y1, y2) x W
      have HK : Hid (cmpI y1 x = if y1 < x then -1 else if x < y1 then 1 else 0) := rfl
      clear CM
      generalize cmpI y1 x = k at CY HK
      by_cases hyx : y1 < x
      · rw [if_pos hyx] at HK
        have hk : k < 0 := by rw [HK.out]; decide
        clear HK
        go_wp2_with (go_at_call 167; refine (CY.out _).mono ?_; rintro r w1 ⟨rfl, hb1⟩)
        go_roundg (hi - ((lo + hi) / 2 + 1))
        case measure => omega
        case rel =>
          refine ⟨(lo + hi) / 2 + 1, hi, by rw [show ((lo : Int) + (hi : Int)) / 2 + 1 = (((lo + hi) / 2 + 1 : Nat) : Int) by omega], rfl, by omega, hin, Nat.le_refl _, below_then hB.out hb1, fun t ht q => ?_, I2⟩
          have := (Y.out t ht).1 (by omega)
          omega
      · rw [if_neg hyx] at HK
        have hk : 0 ≤ k := by rw [HK.out]; split <;> decide
        clear HK
        go_wp2_with (go_at_call 167; refine (CY.out _).mono ?_; rintro r w1 ⟨rfl, hb1⟩)
        go_roundg ((lo + hi) / 2 - lo)
        case measure => omega
        case rel =>
          refine ⟨lo, (lo + hi) / 2, rfl, by rw [show ((lo : Int) + (hi : Int)) / 2 = (((lo + hi) / 2 : Nat) : Int) by omega], by omega, by omega, Nat.le_refl _, below_then hB.out hb1, I1, fun t ht q => ?_⟩
          have := (Y.out t ht).2 (by omega)
          omega
    · have : hi = lo := by omega
      subst this
      have E : Hid (x ∈ ms.map Prod.fst ↔ ∃ h : hi < (ms.map Prod.fst).length, (ms.map Prod.fst)[hi] = x) := search_at (by simpa using hin) (fun t h q => by simpa using I1.out t (by simpa using h) q) (fun t h q => by simpa using I2.out t (by simpa using h) q) HR.out
      have NO : Hid (x ∉ ms.map Prod.fst → ∀ m ∈ ms, m.1 ≠ x) := fun q m hm e => q (List.mem_map.2 ⟨m, hm, e⟩)
      clear I1 I2 HR
      by_cases hn : hi < ms.length
      · obtain ⟨blk, rfl, hblk, hcell, hcell'⟩ := HC.out _ hn
        have hc1 := cell_step hcell hB.out
        have hc2 := cell_step hcell' hB.out
        have YES : Hid (ms[hi].1 = x → ∃ h : hi < ms.length, ms[hi].1 = x) := fun q => ⟨hn, q⟩
        have E2 : Hid (x ∈ ms.map Prod.fst ↔ ms[hi].1 = x) := E.out.trans ⟨fun ⟨_, q⟩ => by simpa using q, fun q => ⟨by simpa using hn, by simpa using q⟩⟩
        clear HC E hcell hcell'
        generalize hy : ms[hi] = y at hc1 hc2 E2 YES
        have HY : Hid (_) := hy
        clear hy
        obtain ⟨y1, y2⟩ := y
        dsimp only at hc1 hc2 E2 YES
        have CY : Hid (∀ W, Calls Tryz.prog 167 #[.agg #[.int .i64 y1, .int .i64 y2], .int .i64 x] W fun r w' => r = .returned (.int .i64 (cmpI y1 x)) ∧ Below W.heap.size W w') := fun W => CM.out (y1, y2) x W
        have HK : Hid (cmpI y1 x = if y1 < x then -1 else if x < y1 then 1 else 0) := rfl
        clear CM
        generalize cmpI y1 x = k at CY HK
        by_cases hyx : y1 = x
        · have hk : (k == 0) = true := by rw [HK.out, if_neg (by omega), if_neg (by omega)]; rfl
          have Y3 : Hid (_) := hyx
          clear hyx E2 HK
          go_wp2_with (go_at_call 167; refine (CY.out _).mono ?_; rintro r w1 ⟨rfl, hb1⟩)
          go_ret2
          exact ⟨hi, true, rfl, hin, fun _ => ⟨hn, by rw [HY.out]; exact Y3.out⟩, fun q => absurd q (by decide), below_then hB.out hb1⟩
        · have hk : (k == 0) = false := by
            rw [HK.out]
            rcases Int.lt_or_le y1 x with q | q
            · rw [if_pos q]; rfl
            · rw [if_neg (by omega), if_pos (by omega)]; rfl
          have Y3 : Hid (x ∉ ms.map Prod.fst) := fun q => hyx (E2.out.1 q)
          clear hyx E2 HK
          go_wp2_with (go_at_call 167; refine (CY.out _).mono ?_; rintro r w1 ⟨rfl, hb1⟩)
          go_ret2
          exact ⟨hi, false, rfl, hin, fun q => absurd q (by decide), fun _ => NO.out Y3.out, below_then hB.out hb1⟩
      · have Y3 : Hid (x ∉ ms.map Prod.fst) := fun q => by obtain ⟨q1, _⟩ := E.out.1 q; exact hn (by simpa using q1)
        clear HC E CM
        go_wp2
        go_ret2
        exact ⟨hi, false, rfl, hin, fun q => absurd q (by decide), fun _ => NO.out Y3.out, hB.out⟩

theorem movedTo_any (ms : List (Int × Int)) (sl : Value) (x : Int) (w : World) (hd : Movs w sl ms) (hr : (ms.map Prod.fst).Pairwise (· < ·)) :
    Calls Tryz.prog 120 #[sl, .int .i64 x] w fun r w' => r = .returned (.int .i64 (mvd ms x)) ∧ Below w.heap.size w w' := by
  have C : Hid (_) := binSearchM_any ms sl x w hd hr
  have HD : Hid (Movs w sl ms) := hd
  have HR : Hid (_) := hr
  obtain ⟨a, cap, rfl, h20, hcap, hc⟩ := hd
  have HC : Hid (_) := hc
  clear hc hr
  go_enter Tryz.func120, Tryz.ntmps120
  go_upto_region 2 with (go_at_call 166; refine Calls.mono C.out ?_; rintro r w1 ⟨k, b, rfl, hk, h1, h2, hb1⟩; have H1 : Hid (_) := h1; have H2 : Hid (_) := h2; clear h1 h2)
  cases b with
  | true =>
    obtain ⟨hlt, e⟩ := H1.out rfl
    obtain ⟨blk, rfl, hblk, hcell, hcell'⟩ := HC.out k hlt
    have E : Hid (mvd ms x = ms[k].2) := mvd_of HR.out (by rw [← e]; exact List.getElem_mem hlt)
    have hc1 := cell_step hcell' hb1
    clear H1 H2 HC HD hcell hcell' e
    generalize ms[k] = y at hc1 E
    obtain ⟨y1, y2⟩ := y
    dsimp only at hc1 E
    go_wp2
    go_ret
    exact ⟨ret_int E.out.symm, hb1⟩
  | false =>
    have E : Hid (mvd ms x = x) := by
      rcases mvd_cases ms x with q | q
      · exact q.1
      · exact absurd rfl (H2.out rfl _ q)
    clear H1 H2 HC HD
    go_wp2
    go_ret
    exact ⟨ret_int E.out.symm, hb1⟩
end Go.Proofs.YtnpecjccajebiaaGreatDoor
