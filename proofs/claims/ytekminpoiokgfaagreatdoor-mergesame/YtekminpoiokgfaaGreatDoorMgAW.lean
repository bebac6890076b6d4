/- Package merge: one of three, what one of two lists has. -/
import Derived.Test.YtekminpoiokgfaaGreatDoorYaC
import Derived.Test.YtekminpoiokgfaaGreatDoorYaD
import Derived.Test.YtekminpoiokgfaaGreatDoorYaK
import Derived.Test.YtekminpoiokgfaaGreatDoorYaM
import Derived.Test.YtekminpoiokgfaaGreatDoorYaF
import Derived.Lib.AppendZerosOnto
namespace Go.Proofs.YtekminpoiokgfaaGreatDoor
open Go Go.RowKit Go.Sort Cal
attribute [local go_sem] Oper.semAt_some

/-- what both ways have, or what one of them made of the base -/
def one3 {α : Type} [DecidableEq α] (b x y : α) : Option α := if x = y ∨ y = b then some x else if x = b then some y else none
theorem one3_left {α : Type} [DecidableEq α] (b x : α) : one3 b x b = some x := by unfold one3; rw [if_pos (.inr rfl)]
theorem one3_right {α : Type} [DecidableEq α] (b y : α) : one3 b b y = some y := by
  unfold one3
  by_cases h : b = y ∨ y = b
  · rw [if_pos h]; rcases h with h | h <;> rw [h]
  · rw [if_neg h, if_pos rfl]
theorem one3_swap {α : Type} [DecidableEq α] (b x y : α) : one3 b x y = one3 b y x := by
  by_cases h1 : x = y
  · rw [h1]
  · by_cases h2 : y = b
    · subst h2; rw [one3_left, one3_right]
    · by_cases h3 : x = b
      · subst h3; rw [one3_left, one3_right]
      · unfold one3
        rw [if_neg (by rintro (q | q); exact h1 q; exact h2 q), if_neg h3, if_neg (by rintro (q | q); exact h1 q.symm; exact h3 q), if_neg h2]

theorem tl_true {x y : ByteArray} (h : x = y) : (x.toList == y.toList) = true := by rw [h]; exact beq_self_eq_true _
theorem tl_false {y x : ByteArray} (h : y ≠ x) : (y.toList == x.toList) = false := by
  rw [beq_eq_false_iff_ne, ByteArray.toList_eq, ByteArray.toList_eq]
  intro e
  apply h
  cases x; cases y
  simpa [Array.toList_inj] using e
theorem oneOfS_any (b x y : ByteArray) (w : World) : Calls Tryz.prog 40 #[.string b, .string x, .string y] w fun r w' => r = .returned (.tuple #[.string ((one3 b x y).getD ⟨#[]⟩), .bool (one3 b x y).isSome]) ∧ w' = w := by
  have H : Hid (∀ (s : ByteArray) (k : Bool), ((one3 b x y).getD ⟨#[]⟩ = s ∧ (one3 b x y).isSome = k) → Ending.returned (.tuple #[.string s, .bool k]) = Ending.returned (.tuple #[.string ((one3 b x y).getD ⟨#[]⟩), .bool (one3 b x y).isSome])) := fun s k h => by rw [h.1, h.2]
  generalize hz : one3 b x y = z at H
  have HZ : Hid (one3 b x y = z) := hz
  clear hz
  by_cases h1 : x = y
  · have e1 : (x.toList == y.toList) = true := tl_true h1
    have R : Hid (z = some x) := by show z = some x; rw [← HZ.out]; unfold one3; rw [if_pos (.inl h1)]
    clear h1 HZ
    go_enter Tryz.func40, Tryz.ntmps40
    go_wp2
    go_ret2
    exact ⟨H.out _ _ (by rw [R.out]; exact ⟨rfl, rfl⟩), rfl⟩
  · have e1 : (x.toList == y.toList) = false := tl_false h1
    by_cases h2 : y = b
    · have e2 : (y.toList == b.toList) = true := tl_true h2
      have R : Hid (z = some x) := by show z = some x; rw [← HZ.out]; unfold one3; rw [if_pos (.inr h2)]
      clear h1 h2 HZ
      go_enter Tryz.func40, Tryz.ntmps40
      go_wp2
      go_ret2
      exact ⟨H.out _ _ (by rw [R.out]; exact ⟨rfl, rfl⟩), rfl⟩
    · have e2 : (y.toList == b.toList) = false := tl_false h2
      have n1 : ¬ (x = y ∨ y = b) := by rintro (q | q); exact h1 q; exact h2 q
      by_cases h3 : x = b
      · have e3 : (x.toList == b.toList) = true := tl_true h3
        have R : Hid (z = some y) := by show z = some y; rw [← HZ.out]; unfold one3; rw [if_neg n1, if_pos h3]
        clear h1 h2 h3 n1 HZ
        go_enter Tryz.func40, Tryz.ntmps40
        go_wp2
        go_ret2
        exact ⟨H.out _ _ (by rw [R.out]; exact ⟨rfl, rfl⟩), rfl⟩
      · have e3 : (x.toList == b.toList) = false := tl_false h3
        have R : Hid (z = none) := by show z = none; rw [← HZ.out]; unfold one3; rw [if_neg n1, if_neg h3]
        clear h1 h2 h3 n1 HZ
        go_enter Tryz.func40, Tryz.ntmps40
        go_wp2
        go_ret2
        exact ⟨H.out _ _ (by rw [R.out]; exact ⟨rfl, rfl⟩), rfl⟩

theorem oneOfB_any (b x y : Bool) (w : World) : Calls Tryz.prog 133 #[.bool b, .bool x, .bool y] w fun r w' => r = .returned (.tuple #[.bool ((one3 b x y).getD false), .bool (one3 b x y).isSome]) ∧ w' = w := by
  cases b <;> cases x <;> cases y
  all_goals
    go_enter Tryz.func133, Tryz.ntmps133
    go_wp2
    go_ret2
    exact ⟨rfl, rfl⟩

/-! ### slices.Grow and slices.Concat of rows of numbers -/
theorem growI_zero (w : World) : Calls Tryz.prog 175 #[.slice none 0 0, .int .i64 0] w fun r w' => r = .returned (.slice none 0 0) ∧ w' = w := by
  go_enter Tryz.func175, Tryz.ntmps175
  go_wp2
  go_ret
  exact ⟨rfl, rfl⟩

set_option maxHeartbeats 1000000 in
theorem growI_pos (n : Nat) (w : World) (h1 : 1 ≤ n) (h2 : n ≤ 100000) : Calls Tryz.prog 175 #[.slice none 0 0, .int .i64 n] w fun r w' => ∃ g cap, r = .returned (.slice (some ⟨g, 0, none⟩) 0 cap) ∧ Ow w.heap.size w' (.slice (some ⟨g, 0, none⟩) 0 cap) [] ∧ Below w.heap.size w w' := by
  obtain ⟨i0, hi, hz0, hz1, hz2⟩ := info_parts info_int
  have hold : (Builtin.firstCells i0.size 0 (.slice none 0 0)).run Tryz.prog w.drew = .ok ([] : List Value).toArray w.drew := run_firstCells_none w.drew i0.size 0 0 0
  have hrz : ∀ ty, (Builtin.append_ #[39, 3] ty #[.slice none 0 0, .int .i64 (n : Int)]).run Tryz.prog w =
      .ok (.slice (some ⟨w.heap.size, 0, none⟩) n (grownCap w n 0 3)) (w.drew.alloc (.cells (([] : List Value).toArray ++ Builtin.zeroCells (Value.int .i64 0).cells n ++ Builtin.zeroCells (Value.int .i64 0).cells (grownCap w n 0 3 - n)) 3)) := fun ty => by
    have h := Lib.run_append_grow_zeros w 39 3 ty 3 i0 (.int .i64 0) .i64 .i64 Tryz.underlying39 Tryz.underlying3 hi hz0 none 0 0 [] hold n (by omega) (by rw [hz1]; decide) (by omega) (by omega) (by rw [hz2]; omega) (by rw [Nat.zero_add]; exact growslice_fits (by omega) (by rw [hz2]; omega))
    rw [Nat.zero_add] at h
    exact h
  have hG := grownCap_ge w n 0 3
  have hGm := grownCap_le_maxLen w n 0 3 (by unfold maxLen; omega)
  have hGi : (grownCap w n 0 3 : Int) ≤ 9223372036854775807 := by unfold maxLen at hGm; omega
  generalize grownCap w n 0 3 = G at hrz hG hGm hGi
  have HW : Hid (Ow w.heap.size (w.drew.alloc (.cells (([] : List Value).toArray ++ Builtin.zeroCells (Value.int .i64 0).cells n ++ Builtin.zeroCells (Value.int .i64 0).cells (G - n)) 3)) (.slice (some ⟨w.heap.size, 0, none⟩) 0 G) [] ∧ Below w.heap.size w (w.drew.alloc (.cells (([] : List Value).toArray ++ Builtin.zeroCells (Value.int .i64 0).cells n ++ Builtin.zeroCells (Value.int .i64 0).cells (G - n)) 3))) := by
    refine ⟨⟨rfl, .inr ⟨w.heap.size, G, _, rfl, Nat.le_refl _, block_at (W := w.drew) _ rfl, by simp, hGm, ?_, by simp⟩⟩, below_then (drew_below _) (below_alloc _ _)⟩
    simp [size_zeroCells, Value.cells]
    omega
  clear hold hi hz0 hz1 hz2 hGm
  generalize w.drew.alloc (.cells (([] : List Value).toArray ++ Builtin.zeroCells (Value.int .i64 0).cells n ++ Builtin.zeroCells (Value.int .i64 0).cells (G - n)) 3) = W' at hrz HW
  go_enter Tryz.func175, Tryz.ntmps175
  go_wp2_with (at_builtin; refine Lib.wpList_append_run _ rfl _ _ _ _ rfl _ _ rfl rfl _ _ (hrz _) ?_)
  all_goals
    go_ret
    exact ⟨_, _, rfl, HW.out.1, HW.out.2⟩

theorem gotA_form {w : World} {v : Value} {l : List Int} (h : Got w v l) : ∃ a c, v = .slice a l.length c := by
  obtain ⟨a, c, rfl, _⟩ := h
  exact ⟨_, _, rfl⟩

set_option maxHeartbeats 2000000 in
set_option maxRecDepth 100000 in
theorem concatI_any (B : Nat) (v1 v2 : Value) (l1 l2 : List Int) (w : World) (h1 : Got w v1 l1) (h2 : Got w v2 l2) (hc : w.heap[B]? = some (.cells #[v1, v2] 39 (0, 0))) (hl1 : l1.length ≤ 1000) (hl2 : l2.length ≤ 1000) :
    Calls Tryz.prog 155 #[.slice (some ⟨B, 0, none⟩) 2 2] w fun r w' => ∃ v', r = .returned v' ∧ Ow w.heap.size w' v' (l1 ++ l2) ∧ Below w.heap.size w w' := by
  have H1 : Hid (Got w v1 l1) := h1
  have H2 : Hid (Got w v2 l2) := h2
  obtain ⟨a1, k1, rfl⟩ := gotA_form h1
  obtain ⟨a2, k2, rfl⟩ := gotA_form h2
  have x0 : w.cell? ⟨B, 0, none⟩ = some (.slice a1 l1.length k1) := by simp [World.cell?, hc]
  have x1 : w.cell? ⟨B, 1, none⟩ = some (.slice a2 l2.length k2) := by simp [World.cell?, hc]
  have HL1 : Hid (_) := hl1
  have HL2 : Hid (_) := hl2
  generalize hn1 : l1.length = n1 at hl1 x0 H1 hc
  generalize hn2 : l2.length = n2 at hl2 x1 H2 hc
  have HN1 : Hid (l1.length = n1) := hn1
  have HN2 : Hid (l2.length = n2) := hn2
  have X0 : Hid (∀ W, Below w.heap.size w W → W.cell? ⟨B, 0, none⟩ = some (.slice a1 n1 k1)) := fun W hW => cell_step x0 hW
  have X1 : Hid (∀ W, Below w.heap.size w W → W.cell? ⟨B, 1, none⟩ = some (.slice a2 n2 k2)) := fun W hW => cell_step x1 hW
  have GR : Hid (Calls Tryz.prog 175 #[.slice none 0 0, .int .i64 ((n1 + n2 : Nat) : Int)] w fun r w' => ∃ a c, r = .returned (.slice a 0 c) ∧ Ow w.heap.size w' (.slice a 0 c) [] ∧ Below w.heap.size w w') := by
    by_cases hz : n1 + n2 = 0
    · rw [hz]
      refine Calls.mono (growI_zero w) ?_
      rintro r w' ⟨rfl, rfl⟩
      exact ⟨none, 0, rfl, Ow.nil _ _, Below.refl _ _⟩
    · refine Calls.mono (growI_pos (n1 + n2) w (by omega) (by omega)) ?_
      rintro r w' ⟨g, cap, rfl, ho, hb⟩
      exact ⟨_, _, rfl, ho, hb⟩
  clear h1 h2 hn1 hn2 hc
  go_enter Tryz.func155, Tryz.ntmps155
  go_wp2
  go_loop [3, 5, 11] (fun n _ i => ((i = .int .i64 0 ∧ n = .int .i64 0) ∨ (i = .int .i64 1 ∧ n = .int .i64 n1)) ∨ (i = .int .i64 2 ∧ n = .int .i64 ((n1 + n2 : Nat) : Int))) (fun _ _ i => 2 - (intOf i).toNat)
  case atStart => exact .inl (.inl ⟨rfl, rfl⟩)
  case round =>
    rcases hrel with (⟨rfl, rfl⟩ | ⟨rfl, rfl⟩) | ⟨rfl, rfl⟩
    · go_wp2
      go_round
      case rel => exact .inl (.inr ⟨rfl, by go_num⟩)
      case measure => simp [intOf]
    · go_wp2
      go_round
      case rel => exact .inr ⟨rfl, by go_num⟩
      case measure => simp [intOf]
    · clear x0 x1
      go_wp2_with (go_at_call 175; refine Calls.mono GR.out ?_; rintro r w1 ⟨ga, gc, rfl, ho1, hb1⟩)
      have HO1 : Hid (Ow w.heap.size w1 (.slice ga 0 gc) []) := ho1
      have HB1 : Hid (Below w.heap.size w w1) := hb1
      clear ho1 hb1 GR
      go_loopw [6, 8, 27] (fun v _ i wr => Hid (Below w.heap.size w wr) ∧ (((i = .int .i64 0 ∧ Hid (Ow w.heap.size wr v [])) ∨ (i = .int .i64 1 ∧ Hid (Ow w.heap.size wr v l1))) ∨ (i = .int .i64 2 ∧ Hid (Ow w.heap.size wr v (l1 ++ l2))))) (fun _ _ i _ => 2 - (intOf i).toNat)
      case atStart => exact ⟨HB1.out, .inl (.inl ⟨rfl, HO1.out⟩)⟩
      case round =>
        obtain ⟨HB, hr⟩ := hrel
        have hzw : w.heap.size ≤ wr.heap.size := HB.out.size
        rcases hr with (⟨rfl, HO⟩ | ⟨rfl, HO⟩) | ⟨rfl, HO⟩
        · have x0 := X0.out wr HB.out
          obtain ⟨oa, oc, rfl⟩ := ow_form HO.out
          have HR1 : Hid (Got wr (.slice a1 n1 k1) l1) := Got.step H1.out HB.out
          have hl : ([] : List Int).length + l1.length ≤ 100000 := by have := HL1.out; simp; omega
          have HLL : Hid (_) := hl
          clear hl
          go_wp2_with (first
            | (at_builtin; refine app_ow rfl _ _ rfl w.heap.size [] l1 _ _ rfl HO.out rfl HR1.out HLL.out hzw ?_; intro v' w3 ho3 hb3; have HO3 : Hid (Ow w.heap.size w3 v' l1) := ho3; have HB3 : Hid (Below w.heap.size w w3) := ⟨hb3.os.trans HB.out.os, hb3.tape.trans HB.out.tape, hb3.output.trans HB.out.output, Nat.le_trans HB.out.size hb3.size, fun k hk => (hb3.block k hk).trans (HB.out.block k hk)⟩; obtain ⟨na, nc, rfl⟩ := ow_form HO3.out; clear ho3 hb3)
            | go_in)
          go_roundw
          case rel => exact ⟨HB3.out, .inl (.inr ⟨rfl, HO3.out⟩)⟩
          case measure => simp [intOf]
        · have x1 := X1.out wr HB.out
          obtain ⟨oa, oc, rfl⟩ := ow_form HO.out
          have HR2 : Hid (Got wr (.slice a2 n2 k2) l2) := Got.step H2.out HB.out
          have hl : l1.length + l2.length ≤ 100000 := by have := HL1.out; have := HL2.out; omega
          have HLL : Hid (_) := hl
          clear hl
          generalize l1.length = ll at HO ⊢
          go_wp2_with (first
            | (at_builtin; refine app_ow rfl _ _ rfl w.heap.size l1 l2 _ _ rfl HO.out rfl HR2.out HLL.out hzw ?_; intro v' w3 ho3 hb3; have HO3 : Hid (Ow w.heap.size w3 v' (l1 ++ l2)) := ho3; have HB3 : Hid (Below w.heap.size w w3) := ⟨hb3.os.trans HB.out.os, hb3.tape.trans HB.out.tape, hb3.output.trans HB.out.output, Nat.le_trans HB.out.size hb3.size, fun k hk => (hb3.block k hk).trans (HB.out.block k hk)⟩; obtain ⟨na, nc, rfl⟩ := ow_form HO3.out; clear ho3 hb3)
            | go_in)
          go_roundw
          case rel => exact ⟨HB3.out, .inr ⟨rfl, by have := HO3.out; rw [List.length_append] at this; exact this⟩⟩
          case measure => simp [intOf]
        · go_wp2
          go_ret
          exact ⟨_, rfl, HO.out, HB.out⟩
theorem ow_lower {a b : Nat} {W : World} {v : Value} {o : List Int} (h : Ow b W v o) (hab : a ≤ b) : Ow a W v o := by
  refine ⟨h.1, ?_⟩
  rcases h.2 with q | ⟨g, cap, cur, hv, hb, r⟩
  · exact .inl q
  · exact .inr ⟨g, cap, cur, hv, Nat.le_trans hab hb, r⟩

/-- what one of two lists has, rising, each once -/
def ris (a b : List Int) : List Int := Go.Lib.compact ((a ++ b).mergeSort fun x y => decide (x ≤ y))
theorem ris_len (a b : List Int) : (ris a b).length ≤ a.length + b.length := by
  unfold ris
  refine Nat.le_trans (compact_len _) ?_
  rw [List.length_mergeSort, List.length_append]
  exact Nat.le_refl _

set_option maxHeartbeats 1000000 in
theorem risingI_any (v1 v2 : Value) (l1 l2 : List Int) (w : World) (h1 : Got w v1 l1) (h2 : Got w v2 l2) (hl1 : l1.length ≤ 1000) (hl2 : l2.length ≤ 1000) :
    Calls Tryz.prog 131 #[v1, v2] w fun r w' => ∃ v', r = .returned v' ∧ Ow w.heap.size w' v' (ris l1 l2) ∧ Below w.heap.size w w' := by
  have CC : Hid (Calls _ _ _ _ _) := concatI_any w.heap.size v1 v2 l1 l2 (w.alloc (.cells #[v1, v2] 39)) (h1.step (below_alloc _ _)) (h2.step (below_alloc _ _)) (block_at _ rfl) hl1 hl2
  have HA : Hid (Below w.heap.size w (w.alloc (.cells #[v1, v2] 39))) := below_alloc _ _
  have HL : Hid ((l1 ++ l2).length ≤ 80000) := by show _ ≤ _; rw [List.length_append]; omega
  have HR : Hid (ris l1 l2 = Go.Lib.compact ((l1 ++ l2).mergeSort fun x y => decide (x ≤ y))) := rfl
  obtain ⟨a1, k1, rfl⟩ := gotA_form h1
  obtain ⟨a2, k2, rfl⟩ := gotA_form h2
  generalize ris l1 l2 = R at HR ⊢
  generalize l1 ++ l2 = L at CC HL HR
  clear h1 h2
  go_enter Tryz.func131, Tryz.ntmps131
  go_wp2_with fail
  go_at_call 155
  refine Calls.mono CC.out ?_
  rintro r w3 ⟨v3, rfl, ho3, hb3⟩
  have HB3 : Hid (Below w.heap.size w w3) := below_then HA.out hb3
  have hz2 : w.heap.size ≤ (w.alloc (.cells #[.slice a1 l1.length k1, .slice a2 l2.length k2] 39)).heap.size := HA.out.size
  have SO : Hid (Calls _ _ _ _ _) := sort_ow _ v3 _ w3 ho3 HL.out
  have HOW : Hid (∀ g, v3.ownBlock = some g → w.heap.size ≤ g) := fun g hg => Nat.le_trans hz2 (World.ownsRow.lt ho3 g hg).1
  have HSL : Hid ((L.mergeSort fun x y => decide (x ≤ y)).length ≤ 80000) := by show _ ≤ _; rw [List.length_mergeSort]; exact HL.out
  obtain ⟨a3, k3, rfl⟩ := ow_form ho3
  clear ho3 hb3 CC
  generalize L.length = n3 at SO HOW ⊢
  go_wp2_with fail
  go_at_call 156
  refine Calls.mono SO.out ?_
  rintro r w4 ⟨rfl, ho4, hg4⟩
  have HB4 : Hid (Below w.heap.size w w4) := HB3.out.grown hg4 HB3.out.size (fun k q => HOW.out k q)
  have CO : Hid (Calls _ _ _ _ _) := compact_ow _ _ _ w4 ho4 HSL.out
  clear SO ho4 hg4
  go_wp2_with (go_at_call 157; refine Calls.mono CO.out ?_; rintro r w5 ⟨v5, rfl, ho5, hg5⟩)
  have HB5 : Hid (Below w.heap.size w w5) := HB4.out.grown hg5 HB4.out.size (fun k q => HOW.out k q)
  have HT : Hid (Ow w.heap.size w5 v5 R) := by
    rw [HR.out]
    exact ow_lower ho5 hz2
  clear ho5 hg5
  go_ret
  exact ⟨v5, rfl, HT.out, HB5.out⟩

set_option maxHeartbeats 1000000 in
set_option maxRecDepth 100000 in
theorem mgFroms_any (ms : List (Int × Int)) (sl : Value) (w : World) (hd : Movs w sl ms) :
    Calls Tryz.prog 135 #[sl] w fun r w' => ∃ v, r = .returned v ∧ Ow w.heap.size w' v (ms.map Prod.fst) ∧ Below w.heap.size w w' := by
  obtain ⟨a, cap, rfl, h20, hcap, hc⟩ := hd
  obtain ⟨i0, hi, hz0, hz1, hz2⟩ := info_parts info_int
  have HC : Hid (_) := hc
  clear hc
  go_enter Tryz.func135, Tryz.ntmps135
  go_wp2
  go_loopw [3, 5, 8] (fun ov _ i wr => ∃ m : Nat, m ≤ ms.length ∧ i = .int .i64 m ∧ Hid (Below w.heap.size w wr) ∧ Hid (Ow w.heap.size wr ov ((ms.map Prod.fst).take m))) (fun _ _ i _ => ms.length - (intOf i).toNat)
  case atStart => exact ⟨0, Nat.zero_le _, rfl, Below.refl _ _, Ow.nil _ _⟩
  case round =>
    obtain ⟨m, hm, rfl, hB, HO⟩ := hrel
    by_cases hlt : m < ms.length
    · obtain ⟨blk, rfl, hblk, hcell, hcell'⟩ := HC.out m hlt
      have hc1 := cell_step hcell hB.out
      have hc2 := cell_step hcell' hB.out
      have HT : Hid ((ms.map Prod.fst).take (m + 1) = (ms.map Prod.fst).take m ++ [ms[m].1]) := by
        show _ = _
        rw [List.take_succ_eq_append_getElem (by simpa using hlt)]; simp
      have hlen : ((ms.map Prod.fst).take m).length = m := by simp; omega
      clear HC hcell hcell'
      generalize ms[m] = x at hc1 hc2 HT
      obtain ⟨x1, x2⟩ := x
      dsimp only at hc1 hc2 HT
      generalize (ms.map Prod.fst).take m = o at HO HT hlen
      obtain ⟨oa, oc, rfl⟩ := ow_form HO.out
      have hA := below_alloc wr (.cells #[.int .i64 x1, .int .i64 x2] 72)
      have hc0 : (wr.alloc (.cells #[.int .i64 x1, .int .i64 x2] 72)).cell? ⟨wr.heap.size, 0, none⟩ = some (.int .i64 x1) := by rw [World.cell?_alloc_new]; rfl
      have hsz : (wr.alloc (.cells #[.int .i64 x1, .int .i64 x2] 72)).heap.size = wr.heap.size + 1 := World.size_alloc _ _
      have hzr : w.heap.size ≤ wr.heap.size := hB.out.size
      go_upto_region 5 with (fail)
      generalize wr.alloc (.cells #[.int .i64 x1, .int .i64 x2] 72) = wq at hA hc0 hsz
      have HA : Hid (Below wr.heap.size wr wq) := hA
      have OW1 : Hid (Ow w.heap.size (wq.alloc (.cells #[.int .i64 x1] 3)) (.slice oa o.length oc) o) := Ow.step HO.out (below_then hA (below_alloc _ _))
      have NC : Hid (_) := one_cell wq x1
      have hzq : w.heap.size ≤ wq.heap.size := by omega
      clear hA hc1 hc2 hsz
      go_upto_region 6 with (first
        | (at_builtin; refine wpList_append_own _ rfl _ _ 39 rfl w.heap.size 3 i0 (.int .i64 0) 1 8 Tryz.underlying39 hi hz0 hz1 hz2 rfl (by decide) _ _ _ rfl OW1.out ⟨wq.heap.size, 0, none⟩ 1 1 [.int .i64 x1] rfl rfl NC.out (fun v hv => by rw [List.mem_singleton.1 hv]; rfl) (by unfold maxLen; omega) (by omega) (by simp; omega) ?_; intro v' w1 hown' hgrow _; obtain ⟨g', cap', rfl⟩ := ownsRow_succ hown')
        | go_in)
      have OW2 : Hid (Ow w.heap.size w1 (.slice (some ⟨g', 0, none⟩) (o.length + 1) cap') (o ++ [x1])) := by
        show World.ownsRow _ _ _ _ _ _ _
        rw [List.length_append, List.map_append]
        exact hown'
      have HB1 : Hid (Below w.heap.size w w1) := (below_then hB.out (below_then HA.out (below_alloc wq (.cells #[.int .i64 x1] 3)))).grown (show (wq.alloc (.cells #[.int .i64 x1] 3)).grownBy w1 (Value.slice oa o.length oc).ownBlock from hgrow) (by rw [World.size_alloc]; omega) (fun k q => (World.ownsRow.lt OW1.out k q).1)
      clear hown' hgrow OW1 NC HO hB HA
      go_wp2
      go_roundw
      case rel => exact ⟨m + 1, by omega, by go_num, HB1.out, by rw [HT.out, ← hlen]; exact OW2.out⟩
      case measure => simp [intOf]; omega
    · have HE : Hid ((ms.map Prod.fst).take m = ms.map Prod.fst) := List.take_of_length_le (by simp; omega)
      rw [HE.out] at HO
      obtain ⟨oa, oc, rfl⟩ := ow_form HO.out
      clear HC
      go_wp2
      go_ret
      exact ⟨_, rfl, HO.out, hB.out⟩
end Go.Proofs.YtekminpoiokgfaaGreatDoor
