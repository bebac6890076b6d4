/- Names of commits: the reading of one line that a name made. -/
import Derived.Test.YtcaeafgkogfgdaaGreatDoorRaAM
import Derived.Laws.OwnMore
import Derived.Test.YtcaeafgkogfgdaaGreatDoorRaAA
import Derived.Test.YtcaeafgkogfgdaaGreatDoorRaAE
import Derived.Test.YtcaeafgkogfgdaaGreatDoorRaAC
import Derived.Test.YtcaeafgkogfgdaaGreatDoorRaAD
import Derived.Shelf.Abstract
import Derived.Shelf.RegionOpen
import Derived.WalkKit
import Derived.OwnWalkIn
import Derived.TacticsInMore
import Derived.LoopNIn
import Derived.LoopIn
namespace Go.Proofs.YtcaeafgkogfgdaaGreatDoor
open Go Go.RowKit Go.Maps Go.Sort Go.Shelf Cal
attribute [local go_sem] Oper.semAt_some

set_option maxHeartbeats 1000000 in
set_option maxRecDepth 100000 in
theorem rnum_ok (n : Int) (w : World) (g : GlobN w) (h0 : 0 ≤ n) (h1 : n ≤ 1099511627776) :
    Calls Tryz.prog 55 #[.string (bs (Lib.itoa n))] w fun r w' => r = .returned (.tuple #[.int .i64 n, .bool true]) ∧ Below w.heap.size w w' := by
  have NR : Hid (Calls Tryz.prog 73 #[.string (bs (Lib.itoa n)), .int .i64 13] w fun r w' => r = .returned (.tuple #[.int .i64 n, .bool true]) ∧ Below w.heap.size w w') := by
    refine Calls.mono (numR_allC _ w g) ?_
    rintro r w' ⟨q, hb⟩
    rw [bs_data, numOf_itoaR n h0 h1] at q
    rcases q with ⟨q, _⟩ | ⟨m, q, rfl⟩
    · cases q
    · cases q; exact ⟨rfl, hb⟩
  have IB : Hid (∀ W, Calls Tryz.prog 22 #[.int .i64 n] W fun r w' => r = .returned (.bool true) ∧ w' = W) := fun W => by
    have := rInB_any n W
    rwa [decide_eq_true ⟨h0, h1⟩] at this
  generalize bs (Lib.itoa n) = s at NR
  clear g
  go_enter Tryz.func55, Tryz.ntmps55
  go_wp2_with (first
    | (go_at_call 73; refine Calls.mono NR.out ?_; rintro r w1 ⟨rfl, hb1⟩)
    | (go_at_call 22; refine Calls.mono (IB.out _) ?_; rintro r w2 ⟨rfl, rfl⟩))
  go_ret2
  exact ⟨rfl, hb1⟩
set_option maxHeartbeats 1000000 in
set_option maxRecDepth 100000 in
theorem rnum_any (s : ByteArray) (w : World) (g : GlobN w) :
    Calls Tryz.prog 55 #[.string s] w fun r w' => ∃ (n : Int) (b : Bool), r = .returned (.tuple #[.int .i64 n, .bool b]) ∧ Below w.heap.size w w' := by
  have NR : Hid (Calls Tryz.prog 73 #[.string s, .int .i64 13] w fun r w' => ∃ (n : Int) (b : Bool), r = .returned (.tuple #[.int .i64 n, .bool b]) ∧ Below w.heap.size w w') := by
    refine Calls.mono (numR_allC _ w g) ?_
    rintro r w' ⟨q, hb⟩
    rcases q with ⟨_, rfl⟩ | ⟨m, _, rfl⟩
    · exact ⟨_, _, rfl, hb⟩
    · exact ⟨_, _, rfl, hb⟩
  have IB : Hid (∀ x W, Calls Tryz.prog 22 #[.int .i64 x] W fun r w' => r = .returned (.bool (decide (0 ≤ x ∧ x ≤ 1099511627776))) ∧ w' = W) := fun x W => rInB_any x W
  clear g
  go_enter Tryz.func55, Tryz.ntmps55
  go_upto_region 2 with (go_at_call 73; refine Calls.mono NR.out ?_; rintro r w1 ⟨n, b, rfl, hb1⟩)
  cases b with
  | true =>
    have IBn := IB.out n w1
    generalize decide (0 ≤ n ∧ n ≤ 1099511627776) = bb at IBn
    have IBN : Hid (Calls _ _ _ _ _) := IBn
    clear IBn IB
    go_wp2_with (go_at_call 22; refine Calls.mono IBN.out ?_; rintro r w2 ⟨rfl, hq⟩; have hq := hq.symm; subst hq)
    go_ret2
    exact ⟨_, _, rfl, hb1⟩
  | false =>
    go_wp2
    go_ret2
    exact ⟨_, _, rfl, hb1⟩

theorem put2_ent {W : World} {B : Nat} {a b : Value} {T : TypeId} (x y : Value) (h : W.heap[B]? = some (.cells #[a, b] T (0, 0))) : ((W.setCell ⟨B, 0, none⟩ x).setCell ⟨B, 1, none⟩ y).heap[B]? = some (.cells #[x, y] T (0, 0)) := by
  have h1 := set_block (i := 0) x h
  exact set_block (i := 1) y h1
theorem put2_below {w W : World} {B : Nat} (x y : Value) (h : Below w.heap.size w W) (hB : w.heap.size ≤ B) : Below w.heap.size w ((W.setCell ⟨B, 0, none⟩ x).setCell ⟨B, 1, none⟩ y) :=
  grown_to (grown_to h (grown_set W ⟨B, 0, none⟩ x) hB) (grown_set _ ⟨B, 1, none⟩ y) hB
set_option maxHeartbeats 2000000 in
set_option maxRecDepth 100000 in
theorem rentry_ok (x y : Int) (w : World) (g : GlobN w) (h : EnB (x, y)) :
    Calls Tryz.prog 45 #[.string (bs (entT (x, y)))] w fun r w' => r = .returned (.tuple #[.agg #[.int .i64 x, .int .i64 y], .bool true]) ∧ Below w.heap.size w w' := by
  obtain ⟨h1, h2, h3, h4⟩ := h
  dsimp only at h1 h2 h3 h4
  have hA := below_alloc w (.cells #[.int .i64 0, .int .i64 0] 48)
  have hK : (w.alloc (.cells #[.int .i64 0, .int .i64 0] 48)).heap[w.heap.size]? = some (.cells #[.int .i64 0, .int .i64 0] 48 (0, 0)) := block_at _ rfl
  have hx58 : (58 : UInt8) ∉ Lib.itoa x := fun q => by have := itoa_digs x h1 58 q; revert this; decide
  have hcat : entT (x, y) = Lib.itoa x ++ 58 :: (if y = -1 then [45] else Lib.itoa y) := by unfold entT; simp
  have hix : Lib.indexByte (bs (entT (x, y))).data.toList 58 = ((Lib.itoa x).length : Nat) := by rw [bs_data, hcat]; exact index_at 58 _ _ hx58
  have hlen : (bs (entT (x, y))).size ≤ 10000000 := by rw [Lib.size_eq, bs_data]; have := entT_len (e := (x, y)) ⟨h1, h2, h3, h4⟩; omega
  have CU := pcut_yes (bs (entT (x, y))) 58 (Lib.itoa x).length (w.alloc (.cells #[.int .i64 0, .int .i64 0] 48)) hix hlen
  have e1 : (bs (entT (x, y))).data.toList.take (Lib.itoa x).length = Lib.itoa x := by rw [bs_data, hcat, List.take_left]
  have e2 : (bs (entT (x, y))).data.toList.drop ((Lib.itoa x).length + 1) = (if y = -1 then [45] else Lib.itoa y) := by
    rw [bs_data, hcat, List.drop_append, List.drop_of_length_le (by omega)]
    simp
  rw [e1, e2] at CU
  have NX : Hid (∀ W, Below w.heap.size w W → Calls Tryz.prog 55 #[.string (bs (Lib.itoa x))] W fun r w' => r = .returned (.tuple #[.int .i64 x, .bool true]) ∧ Below W.heap.size W w') := fun W hW => rnum_ok x W (g.step hW) h1 h2
  have CUT : Hid (Calls _ _ _ _ _) := CU
  have HK : Hid (_) := hK
  have HG : Hid (GlobN w) := g
  have HNE : Hid (Lib.itoa x ≠ []) := fun q => by
    have := numOf_itoaR x h1 h2
    rw [q] at this
    cases this
  by_cases q : y = -1
  · subst q
    rw [if_pos rfl] at CUT
    have NY : Hid (∀ W, Below w.heap.size w W → Calls Tryz.prog 55 #[.string ⟨#[45]⟩] W fun r w' => ∃ (n : Int) (b : Bool), r = .returned (.tuple #[.int .i64 n, .bool b]) ∧ Below W.heap.size W w') := fun W hW => rnum_any ⟨#[45]⟩ W (HG.out.step hW)
    change Hid (Calls Tryz.prog 54 #[.string (bs (entT (x, -1))), .string ⟨#[58]⟩] (w.alloc (.cells #[.int .i64 0, .int .i64 0] 48)) fun r w' => r = .returned (.tuple #[.string (bs (Lib.itoa x)), .string ⟨#[45]⟩, .bool true]) ∧ Below (w.alloc (.cells #[.int .i64 0, .int .i64 0] 48)).heap.size (w.alloc (.cells #[.int .i64 0, .int .i64 0] 48)) w') at CUT
    have hsx : (bs (Lib.itoa x) == (⟨#[45]⟩ : ByteArray)) = (bs (Lib.itoa x) == (⟨#[45]⟩ : ByteArray)) := rfl
    clear hsx g CU e1 e2 hix hlen hcat hK HNE hx58
    generalize bs (entT (x, -1)) = wd at CUT
    generalize bs (Lib.itoa x) = sx at CUT NX
    go_enter Tryz.func45, Tryz.ntmps45
    generalize hw0 : w.alloc (.cells #[.int .i64 0, .int .i64 0] 48) = w0 at *
    go_upto_region 2 with (go_at_call 54; refine Calls.mono CUT.out ?_; rintro r w1 ⟨rfl, hb1⟩)
    have hb01 := below_then hA hb1
    go_upto_region 3 with (go_at_call 55; refine Calls.mono (NX.out _ hb01) ?_; rintro r w2 ⟨rfl, hb2⟩)
    go_upto_region 6 with (go_at_call 55; refine Calls.mono (NY.out _ (below_then hb01 hb2)) ?_; rintro r w3 ⟨n3, b3, rfl, hb3⟩)
    have hk3 := ((below_then hb1 (below_then hb2 hb3)).block w.heap.size (by rw [← hw0, World.size_alloc]; omega)).trans HK.out
    obtain ⟨d0, d1⟩ := ent_cells hk3
    have f0 := blk11_frozen hk3 0
    have f1 := blk11_frozen hk3 1
    go_wp2
    obtain ⟨c0, c1⟩ := ent_cells (put2_ent (.int .i64 x) (.int .i64 (-1)) hk3)
    refine bodyPost_ret (v := .tuple #[.agg #[.int .i64 x, .int .i64 (-1)], .bool true]) (by simp [results, Tryz.f45, go_sem, c0, c1]) rfl ⟨rfl, put2_below _ _ (below_then hb01 (below_then hb2 hb3)) (Nat.le_refl _)⟩
  · rw [if_neg q] at CUT
    have NY : Hid (∀ W, Below w.heap.size w W → Calls Tryz.prog 55 #[.string (bs (Lib.itoa y))] W fun r w' => r = .returned (.tuple #[.int .i64 y, .bool true]) ∧ Below W.heap.size W w') := fun W hW => rnum_ok y W (HG.out.step hW) (by omega) h4
    have hyb : ((bs (Lib.itoa y)).toList == [45]) = false := by
      rw [ByteArray.toList_eq, bs_data, beq_eq_false_iff_ne]
      intro z
      have := itoa_digs y (by omega) 45 (by rw [z]; simp)
      revert this; decide
    clear g CU e1 e2 hix hlen hcat hK HNE hx58
    generalize bs (entT (x, y)) = wd at CUT
    generalize bs (Lib.itoa x) = sx at CUT NX
    generalize bs (Lib.itoa y) = sy at CUT NY hyb
    go_enter Tryz.func45, Tryz.ntmps45
    generalize hw0 : w.alloc (.cells #[.int .i64 0, .int .i64 0] 48) = w0 at *
    go_upto_region 2 with (go_at_call 54; refine Calls.mono CUT.out ?_; rintro r w1 ⟨rfl, hb1⟩)
    have hb01 := below_then hA hb1
    go_upto_region 3 with (go_at_call 55; refine Calls.mono (NX.out _ hb01) ?_; rintro r w2 ⟨rfl, hb2⟩)
    go_upto_region 6 with (go_at_call 55; refine Calls.mono (NY.out _ (below_then hb01 hb2)) ?_; rintro r w3 ⟨rfl, hb3⟩)
    have hk3 := ((below_then hb1 (below_then hb2 hb3)).block w.heap.size (by rw [← hw0, World.size_alloc]; omega)).trans HK.out
    obtain ⟨d0, d1⟩ := ent_cells hk3
    have f0 := blk11_frozen hk3 0
    have f1 := blk11_frozen hk3 1
    go_wp2
    obtain ⟨c0, c1⟩ := ent_cells (put2_ent (.int .i64 x) (.int .i64 y) hk3)
    refine bodyPost_ret (v := .tuple #[.agg #[.int .i64 x, .int .i64 y], .bool true]) (by simp [results, Tryz.f45, go_sem, c0, c1]) rfl ⟨rfl, put2_below _ _ (below_then hb01 (below_then hb2 hb3)) (Nat.le_refl _)⟩

set_option maxHeartbeats 1000000 in
set_option maxRecDepth 100000 in
theorem rfall_no (l : List (Int × Int)) (v : Value) (w : World) (h : Movs w v l) (hup : l.Pairwise (fun a b => a.1 ≤ b.1)) :
    Calls Tryz.prog 35 #[v] w fun r w' => r = .returned (.bool false) ∧ Below w.heap.size w w' := by
  obtain ⟨a, c, rfl, h8, hc, hcell⟩ := h
  have HC : Hid (_) := hcell
  have HU : Hid (l.Pairwise (fun a b => a.1 ≤ b.1)) := hup
  clear hcell hup
  go_enter Tryz.func35, Tryz.ntmps35
  go_wp2
  go_loopw [3] (fun i wr => ∃ m : Nat, 1 ≤ m ∧ i = .int .i64 m ∧ Hid (Below w.heap.size w wr) ∧ m ≤ l.length + 1) (fun i _ => l.length + 1 - (intOf i).toNat)
  case atStart => exact ⟨1, Nat.le_refl _, rfl, Below.refl _ _, by omega⟩
  case round =>
    obtain ⟨m, hm, rfl, HB, hml⟩ := hrel
    by_cases hlt : m < l.length
    · obtain ⟨b, rfl, hb, c10, c2⟩ := HC.out m hlt
      obtain ⟨b', eb, hb', d10, d2⟩ := HC.out (m - 1) (by omega)
      have : b' = b := by injection eb with e; injection e with e1; exact e1.symm
      subst this
      have c1 := cell_step c10 HB.out
      have d1 := cell_step d10 HB.out
      have hle := List.pairwise_iff_getElem.1 HU.out (m - 1) m (by omega) hlt (by omega)
      clear HC HU c2 d2 eb c10 d10
      generalize l[m] = e at c1 hle
      generalize l[m - 1] = f at d1 hle
      have hm1 : ((m : Int) - 1).toNat = m - 1 := by omega
      go_wp2
      go_quiet (fail)
      go_wp2
      go_roundw
      case rel => exact ⟨m + 1, by omega, by go_num, below_then HB.out (drewN_below _ _), by omega⟩
      case measure => simp [intOf]; omega
    · clear HC HU
      go_wp2
      go_ret
      exact ⟨rfl, HB.out⟩
set_option maxHeartbeats 1000000 in
set_option maxRecDepth 100000 in
theorem rdrops_no (l : List (Int × Int)) (v : Value) (w : World) (h : Movs w v l) (hd : ∀ (i : Nat) (h : i < l.length), l[i].2 = -1 → (lst (l.take i)).2 ≠ -1) :
    Calls Tryz.prog 36 #[v] w fun r w' => r = .returned (.bool false) ∧ Below w.heap.size w w' := by
  have HM : Hid (Movs w v l) := h
  obtain ⟨a, c, rfl, h8, hc, hcell⟩ := h
  have HC : Hid (_) := hcell
  have HD : Hid (∀ (i : Nat) (h : i < l.length), l[i].2 = -1 → (lst (l.take i)).2 ≠ -1) := hd
  have FT := fun x y w => fld_to x y w
  clear hcell hd
  go_enter Tryz.func36, Tryz.ntmps36
  go_wp2
  go_loopw [7] (fun i wr => ∃ m : Nat, i = .int .i64 m ∧ Hid (Below w.heap.size w wr) ∧ m ≤ l.length) (fun i _ => l.length - (intOf i).toNat)
  case atStart => exact ⟨0, rfl, Below.refl _ _, Nat.zero_le _⟩
  case round =>
    obtain ⟨m, rfl, HB, hml⟩ := hrel
    by_cases hlt : m < l.length
    · obtain ⟨b, rfl, hb, c10, c20⟩ := HC.out m hlt
      have c1 := cell_step c10 HB.out
      have c2 := cell_step c20 HB.out
      have hA := below_alloc wr (.cells #[.int .i64 l[m].1, .int .i64 l[m].2] 48)
      have LA : Hid (l[m].2 = -1 → ∃ z, z ≠ -1 ∧ Calls Tryz.prog 17 #[.slice (some ⟨b, 0, none⟩) m c] (wr.alloc (.cells #[.int .i64 l[m].1, .int .i64 l[m].2] 48)) fun r w' => r = .returned (.agg #[.int .i64 (lst (l.take m)).1, .int .i64 z]) ∧ Below (wr.alloc (.cells #[.int .i64 l[m].1, .int .i64 l[m].2] 48)).heap.size (wr.alloc (.cells #[.int .i64 l[m].1, .int .i64 l[m].2] 48)) w') := fun q => ⟨_, HD.out m hlt q, lastOf_any (l.take m) _ _ (movs_take (HM.out.step (below_then HB.out hA)) m (by omega))⟩
      generalize (lst (l.take m)).1 = y at LA
      clear HC HD HM c10 c20
      generalize l[m] = e at c1 c2 hA LA
      obtain ⟨e1, e2⟩ := e
      dsimp only at c1 c2 hA LA
      by_cases q : e2 = -1
      · subst q
        obtain ⟨z, hz, LZ⟩ := LA.out rfl
        have hz1 : (z == -1) = false := by rw [beq_eq_false_iff_ne]; exact hz
        have LZ2 : Hid (Calls _ _ _ _ _) := LZ
        clear LA LZ hz
        go_wp2_with (go_at_call 17; refine Calls.mono LZ2.out ?_; rintro r w2 ⟨rfl, hb2⟩)
        go_roundw
        case rel => exact ⟨m + 1, by go_num, below_then HB.out (below_then hA hb2), by omega⟩
        case measure => simp [intOf]; omega
      · have q1 : (e2 == -1) = false := by rw [beq_eq_false_iff_ne]; exact q
        clear LA
        go_wp2
        go_roundw
        case rel => exact ⟨m + 1, by go_num, below_then HB.out hA, by omega⟩
        case measure => simp [intOf]; omega
    · clear HC HD HM
      go_wp2
      go_ret
      exact ⟨rfl, HB.out⟩

theorem rcut_line (l : List UInt8) : Lib.trimSuffix (l ++ [10]) [10] = l ∧ Lib.hasSuffix (l ++ [10]) [10] = true := by
  unfold Lib.trimSuffix Lib.hasSuffix
  simp
/-- a row of entries, made as long as it will be, with the first k of them laid -/
def EnI (base : Nat) (W : World) (g : Nat) (l : List (Int × Int)) (k : Nat) : Prop := ∃ xs, W.ownsRow base 48 2 (.slice (some ⟨g, 0, none⟩) l.length l.length) l.length xs ∧ xs.take (k * 2) = mcells (l.take k)
theorem EnI.step {base g k : Nat} {W W' : World} {l : List (Int × Int)} (h : EnI base W g l k) (hb : Below W.heap.size W W') : EnI base W' g l k := by
  obtain ⟨xs, h1, h2⟩ := h
  exact ⟨xs, own_step h1 hb, h2⟩
theorem EnI.put {base g k : Nat} {W : World} {l : List (Int × Int)} (h : EnI base W g l k) (hk : k < l.length) : EnI base ((W.setCell ⟨g, k * 2, none⟩ (.int .i64 l[k].1)).setCell ⟨g, k * 2 + 1, none⟩ (.int .i64 l[k].2)) g l (k + 1) := by
  obtain ⟨xs, h1, h2⟩ := h
  have a1 := (h1.stored (k * 2) (.int .i64 l[k].1)).1
  have a2 := (a1.stored (k * 2 + 1) (.int .i64 l[k].2)).1
  refine ⟨_, a2, ?_⟩
  have hl : xs.length = l.length * 2 := h1.1
  rw [List.take_succ_eq_append_getElem hk, mcells_snoc, ← h2]
  apply List.ext_getElem?
  intro i
  rw [List.getElem?_take]
  by_cases q : i < (k + 1) * 2
  · rw [if_pos q, List.getElem?_set, List.getElem?_set]
    have hlen : (xs.take (k * 2)).length = k * 2 := by rw [List.length_take]; omega
    by_cases q1 : k * 2 + 1 = i
    · subst q1
      rw [if_pos rfl, if_pos (by simp; omega), List.getElem?_append_right (by omega), hlen]
      have : k * 2 + 1 - k * 2 = 1 := by omega
      rw [this]; rfl
    · rw [if_neg q1]
      by_cases q2 : k * 2 = i
      · subst q2
        rw [if_pos rfl, if_pos (by omega), List.getElem?_append_right (by omega), hlen, Nat.sub_self]; rfl
      · rw [if_neg q2, List.getElem?_append_left (by omega), List.getElem?_take, if_pos (by omega)]
  · rw [if_neg q, List.getElem?_eq_none]
    rw [List.length_append, List.length_take]
    simp only [List.length_cons, List.length_nil]
    omega
theorem EnI.done {base g : Nat} {W : World} {l : List (Int × Int)} (h : EnI base W g l l.length) : EnR base W (.slice (some ⟨g, 0, none⟩) l.length l.length) l := by
  obtain ⟨xs, h1, h2⟩ := h
  have hl : xs.length = l.length * 2 := h1.1
  rw [List.take_of_length_le (by omega), List.take_length] at h2
  rw [h2] at h1
  exact h1
theorem EnI.cell {base g k : Nat} {W : World} {l : List (Int × Int)} (h : EnI base W g l k) {j : Nat} (hj : j < l.length * 2) : (∃ u, W.cell? ⟨g, j, none⟩ = some u) ∧ W.frozen? ⟨g, j, none⟩ = false := by
  obtain ⟨xs, h1, h2⟩ := h
  have hl : xs.length = l.length * 2 := h1.1
  refine ⟨⟨xs[j], ?_⟩, h1.frozenAt j⟩
  rw [h1.cellAt j hj, List.getElem?_eq_getElem (by omega)]
theorem EnI.made (w : World) (l : List (Int × Int)) (h8 : l.length ≤ 80000) : ∃ w', (Instr.makeSlice 50 (.int .i64 (l.length : Int)) (.int .i64 (l.length : Int))).run Tryz.prog w = .ok (.slice (some ⟨w.heap.size, 0, none⟩) l.length l.length) w' ∧ EnI w.heap.size w' w.heap.size l 0 ∧ Below w.heap.size w w' := by
  obtain ⟨i0, hi, hz0, hz1, hz2⟩ := info_parts info_entry
  obtain ⟨w', h1, h2, h3⟩ := run_make_full (P := Tryz.prog) w w.heap.size 50 48 i0 _ 2 Tryz.underlying50 hi hz0 hz1 .i64 .i64 l.length (by rw [hz2]; omega) (by unfold maxLen; omega) (Nat.le_refl _)
  exact ⟨w', h1, ⟨_, h2, by simp [mcells]⟩, h3.os, h3.tape, h3.output, h3.size, fun k hk => h3.block k hk (by simp)⟩
end Go.Proofs.YtcaeafgkogfgdaaGreatDoor

/- Names of commits: splitLine and readLine of a line that a name made. -/
namespace Go.Proofs.YtcaeafgkogfgdaaGreatDoor
open Go Go.RowKit Go.Maps Go.Sort Go.Shelf Cal
attribute [local go_sem] Oper.semAt_some

set_option maxHeartbeats 4000000 in
set_option maxRecDepth 100000 in
theorem rsplit_ok (nm : ByteArray) (l : List (Int × Int)) (w : World) (g : GlobN w) (hok : okID nm) (hE : ∀ e ∈ l, EnB e) (h1 : 1 ≤ l.length) (h8 : l.length ≤ 100) :
    Calls Tryz.prog 34 #[.string (bs (rln nm l ++ [10]))] w fun r w' => ∃ v, r = .returned (.tuple #[.string nm, v, .bool true]) ∧ EnR w.heap.size w' v l ∧ Below w.heap.size w w' := by
  have hll := rln_len hok hE
  have hcs := Tryz.strings_CutSuffix (bs (rln nm l ++ [10])) ⟨#[10]⟩ w (by rw [Lib.size_eq, bs_data, List.length_append]; simp only [List.length_cons, List.length_nil]; omega)
  rw [bs_data, show (⟨#[10]⟩ : ByteArray).data.toList = [10] from rfl, (rcut_line (rln nm l)).1, (rcut_line (rln nm l)).2] at hcs
  have CS : Hid (Calls _ _ _ _ _) := hcs
  have hsp := split_any (bs (rln nm l)) 32 w (by rw [Lib.size_eq, bs_data]; omega)
  rw [bs_data, rln_pieces hok hE] at hsp
  have SP : Hid (Calls _ _ _ _ _) := hsp
  have HWD := Wds.new w (nm.data.toList :: l.map entT)
  have hlen : (nm.data.toList :: l.map entT).length = l.length + 1 := by simp
  have hA := below_alloc w (pcO (nm.data.toList :: l.map entT))
  rw [hlen] at SP HWD
  have HCW : ∀ (j : Nat) (h : j < l.length), (w.alloc (pcO (nm.data.toList :: l.map entT))).cell? ⟨w.heap.size, j + 1, none⟩ = some (.string (bs (entT l[j]))) := fun j hj => by
    obtain ⟨a, c, e, _, hc⟩ := HWD
    injection e with e1 _ _
    obtain ⟨b, q1, _, q3⟩ := hc (j + 1) (by simp; exact hj)
    rw [q1] at e1
    injection e1 with e1
    injection e1 with e1
    subst e1
    rw [q3]
    simp [sv]
  have HC0 : (w.alloc (pcO (nm.data.toList :: l.map entT))).cell? ⟨w.heap.size, 0, none⟩ = some (.string nm) := by
    obtain ⟨a, c, e, _, hc⟩ := HWD
    injection e with e1 _ _
    obtain ⟨b, q1, _, q3⟩ := hc 0 (by simp)
    rw [q1] at e1
    injection e1 with e1
    injection e1 with e1
    subst e1
    rw [q3]
    simp only [List.getElem_cons_zero, sv]
    congr 2
  have ID : Hid (∀ W, Calls Tryz.prog 21 #[.string nm] W fun r w' => r = .returned (.bool true) ∧ w' = W) := fun W => isID_any nm W (by have := hok.2.2; omega) true (by simp [hok])
  have HG : Hid (GlobN w) := g
  have HEn : Hid (∀ e ∈ l, EnB e) := hE
  have HCWs : Hid (_) := HCW
  have HWA : Hid (Below w.heap.size w (w.alloc (pcO (nm.data.toList :: l.map entT)))) := hA
  clear g hE hll hcs hsp HWD hok HCW hlen hA
  generalize bs (rln nm l ++ [10]) = ln at CS
  change Hid (Calls Tryz.prog 43 #[.string ln, .string ⟨#[10]⟩] w fun e w' => e = .returned (.tuple #[.string (bs (rln nm l)), .bool true]) ∧ w' = w) at CS
  generalize bs (rln nm l) = tx at CS SP
  generalize hw1 : w.alloc (pcO (nm.data.toList :: l.map entT)) = w1 at SP HC0 HCWs HWA
  obtain ⟨w2, hmk, hI0, hb2⟩ := EnI.made w1 l (by omega)
  have HI0 : Hid (_) := hI0
  clear hI0
  have hl0 : ¬ l.length = 0 := by omega
  have hln : l ≠ [] := fun q => by rw [q] at h1; simp at h1
  go_enter Tryz.func34, Tryz.ntmps34
  go_upto_region 5 with (first
    | (go_at_call 43; refine Calls.mono CS.out ?_; rintro r w' ⟨rfl, hq⟩; have hq := hq.symm; subst hq)
    | (go_at_call 44; refine Calls.mono SP.out ?_; rintro r w' ⟨rfl, hq⟩; have hq := hq.symm; subst hq)
    | (go_at_call 21; refine Calls.mono (ID.out _) ?_; rintro r w' ⟨rfl, hq⟩; have hq := hq.symm; subst hq))
  go_wp2
  have HS1 : Hid (w.heap.size + 1 ≤ w1.heap.size) := by rw [← hw1, World.size_alloc]; exact Nat.le_refl _
  clear hmk hw1 CS SP ID
  go_loopw [41] (fun i wr => ∃ m : Nat, m ≤ l.length ∧ i = .int .i64 m ∧ Hid (Below w1.heap.size w1 wr) ∧ Hid (EnI w1.heap.size wr w1.heap.size l m)) (fun i _ => l.length - (intOf i).toNat)
  case atStart => exact ⟨0, Nat.zero_le _, rfl, hb2, HI0.out⟩
  case round =>
    obtain ⟨m, hm, rfl, HB, HI⟩ := hrel
    clear HI0
    by_cases hlt : m < l.length
    · have hw := cell_step (HCWs.out m hlt) HB.out
      have hw' : wr.cell? ⟨w.heap.size, 1 + m, none⟩ = some (.string (bs (entT l[m]))) := by rw [Nat.add_comm]; exact hw
      have hEm := HEn.out l[m] (List.getElem_mem hlt)
      have HPT : Hid (∀ W, EnI w1.heap.size W w1.heap.size l m → EnI w1.heap.size ((W.setCell ⟨w1.heap.size, m * 2, none⟩ (.int .i64 l[m].1)).setCell ⟨w1.heap.size, m * 2 + 1, none⟩ (.int .i64 l[m].2)) w1.heap.size l (m + 1)) := fun W hW => hW.put hlt
      have RE : Hid (Calls Tryz.prog 45 #[.string (bs (entT l[m]))] wr fun r w' => r = .returned (.tuple #[.agg #[.int .i64 l[m].1, .int .i64 l[m].2], .bool true]) ∧ Below wr.heap.size wr w') := rentry_ok l[m].1 l[m].2 wr (HG.out.step (below_then HWA.out HB.out)) hEm
      clear HCWs HEn hEm
      generalize bs (entT l[m]) = wd at hw hw' RE
      generalize l[m] = e at RE HPT
      obtain ⟨e1, e2⟩ := e
      dsimp only at RE HPT
      go_upto_region 12 with (go_at_call 45; refine Calls.mono RE.out ?_; rintro r w3 ⟨rfl, hb3⟩)
      have hb4 := below_then hb3 (below_alloc w3 (.cells #[.int .i64 e1, .int .i64 e2] 48))
      have HI4 : Hid (EnI w1.heap.size (w3.alloc (.cells #[.int .i64 e1, .int .i64 e2] 48)) w1.heap.size l m) := HI.out.step hb4
      obtain ⟨⟨u0, x0⟩, f0⟩ := HI4.out.cell (j := m * 2) (by omega)
      obtain ⟨⟨u1, x1⟩, f1⟩ := HI4.out.cell (j := m * 2 + 1) (by omega)
      have HFI : Hid (EnI w1.heap.size (((w3.alloc (.cells #[.int .i64 e1, .int .i64 e2] 48)).setCell ⟨w1.heap.size, m * 2, none⟩ (.int .i64 e1)).setCell ⟨w1.heap.size, m * 2 + 1, none⟩ (.int .i64 e2)) w1.heap.size l (m + 1)) := HPT.out _ HI4.out
      have HBF : Hid (Below w1.heap.size w1 (((w3.alloc (.cells #[.int .i64 e1, .int .i64 e2] 48)).setCell ⟨w1.heap.size, m * 2, none⟩ (.int .i64 e1)).setCell ⟨w1.heap.size, m * 2 + 1, none⟩ (.int .i64 e2))) := grown_to (grown_to (below_then HB.out hb4) (grown_set _ ⟨w1.heap.size, m * 2, none⟩ _) (Nat.le_refl _)) (grown_set _ ⟨w1.heap.size, m * 2 + 1, none⟩ _) (Nat.le_refl _)
      clear HPT HI RE hw hw'
      go_wp2
      go_roundw
      case rel => exact ⟨m + 1, by omega, by go_num, HBF.out, HFI.out⟩
      case measure => simp [intOf]; omega
    · have hmm : m = l.length := by omega
      have HF : Hid (EnR w1.heap.size wr (.slice (some ⟨w1.heap.size, 0, none⟩) l.length l.length) l) := by
        have := HI.out
        rw [hmm] at this
        exact this.done
      have hc0 := cell_step HC0 HB.out
      clear HI HCWs HEn hmm
      go_wp2
      go_ret3
      exact ⟨_, rfl, own_base HF.out (by have := HS1.out; omega), below_then HWA.out HB.out⟩

theorem rnot_ahead {a nm : ByteArray} (h : a.data.toList < nm.data.toList) : (Op.bytesLess nm.toList a.toList || nm.toList == a.toList) = false := by
  rw [bytesLess_eq, ByteArray.toList_eq, ByteArray.toList_eq, Bool.or_eq_false_iff]
  refine ⟨decide_eq_false (fun q => List.lt_irrefl _ (List.lt_trans h q)), ?_⟩
  rw [beq_eq_false_iff_ne]
  intro q
  rw [q] at h
  exact List.lt_irrefl _ h
set_option maxHeartbeats 1000000 in
set_option maxRecDepth 100000 in
theorem rline_ok (nm ah : ByteArray) (l : List (Int × Int)) (w : World) (g : GlobN w) (hok : okID nm) (hl : LogOk l) (h1 : 1 ≤ l.length) (h8 : l.length ≤ 100) (hah : ah.data.toList < nm.data.toList) :
    Calls Tryz.prog 25 #[.string (bs (rln nm l ++ [10])), .string ah] w fun r w' => ∃ a c, r = .returned (.tuple #[.string nm, .slice a l.length c, .nilIface]) ∧ EnR w.heap.size w' (.slice a l.length c) l ∧ Below w.heap.size w w' := by
  have SP : Hid (Calls _ _ _ _ _) := rsplit_ok nm l w g hok hl.bd h1 h8
  have HNA := rnot_ahead hah
  have HL : Hid (LogOk l) := hl
  clear g hok hl hah
  generalize bs (rln nm l ++ [10]) = ln at SP
  go_enter Tryz.func25, Tryz.ntmps25
  go_upto_region 2 with (go_at_call 34; refine Calls.mono SP.out ?_; rintro r w1 ⟨v, rfl, hv, hb1⟩; obtain ⟨a, c, rfl⟩ := hv.form)
  have FA : Hid (Calls _ _ _ _ _) := rfall_no l _ w1 (hv.movs (by omega)) HL.out.up
  have DN : Hid (∀ W, Below w1.heap.size w1 W → Calls Tryz.prog 36 #[.slice a l.length c] W fun r w' => r = .returned (.bool false) ∧ Below W.heap.size W w') := fun W hW => rdrops_no l _ W ((hv.movs (by omega)).step hW) HL.out.dr
  have HV : Hid (EnR w.heap.size w1 (.slice a l.length c) l) := hv
  clear hv SP HL
  go_wp2_with (first
    | (go_at_call 35; refine Calls.mono FA.out ?_; rintro r w2 ⟨rfl, hb2⟩)
    | (go_at_call 36; refine Calls.mono (DN.out _ hb2) ?_; rintro r w3 ⟨rfl, hb3⟩))
  go_ret3
  exact ⟨a, c, rfl, HV.out.step (below_then hb2 hb3), below_then hb1 (below_then hb2 hb3)⟩
end Go.Proofs.YtcaeafgkogfgdaaGreatDoor

/- The iterator of strings.Lines at a text of whole lines: it gives them one by one; ahead of each round it writes its own variable. -/
namespace Go.Proofs.YtcaeafgkogfgdaaGreatDoor
open Go Go.RowKit Go.Shelf Cal
attribute [local go_sem] Oper.semAt_some

theorem lines_any (sb : ByteArray) (w : World) : Calls Tryz.prog 24 #[.string sb] w fun r w' => r = .returned (.func (.func 32) #[] #[.pointer (some ⟨w.heap.size, 0, none⟩)]) ∧ w' = w.alloc (.cells #[.string sb] 9) := by
  go_enter Tryz.func24, Tryz.ntmps24
  go_wp2
  go_ret
  exact ⟨rfl, rfl⟩

set_option maxHeartbeats 1000000 in
theorem lines_iter (n l Bs : Nat) (ws : List (List UInt8)) (J Jx : Nat → World → Prop) (hn : 6 ≤ n) (hws : ∀ x ∈ ws, ∃ y, x = y ++ [10] ∧ (10 : UInt8) ∉ y)
    (hJs : ∀ k W W', J k W → W.grownBy W' (some Bs) → J k W')
    (hY : ∀ (k : Nat) (hk : k < ws.length) (W : World), J k W → YieldAt Fence.wide (n - 1) Tryz.prog l #[.string ⟨ws[k].toArray⟩] W fun e W' =>
      (e = .returned (.bool true) ∧ J (k + 1) W' ∧ W'.heap[Bs]? = W.heap[Bs]?) ∨ (e = .returned (.bool false) ∧ Jx (k + 1) W'))
    (W : World) (s : ByteArray) (hsz : s.size ≤ 1000000) (hs : s.data.toList = ws.flatten) (hB : Boxed W Bs 9 (.string s)) (h0 : J 0 W) :
    CallsIn Fence.wide n Tryz.prog 32 #[.func (.yield l) #[] #[], .pointer (some ⟨Bs, 0, none⟩)] W fun e W' =>
      (∃ v, e = .returned v) ∧ (J ws.length W' ∨ ∃ k, Jx k W') := by
  have h1 : 1 ≤ n := by omega
  have c1 := hB.cell
  refine callsIn_of_wp Tryz.func32 rfl trivial ?_ rfl
  simp only [Tryz.ntmps32, List.size_toArray, List.length_cons, List.length_nil, Nat.reduceAdd, Nat.reduceSub, Array.replicate_succ, Array.replicate_zero, List.push_toArray, List.append_toArray, List.nil_append, List.cons_append]
  gi_wp2
  have HY : Hid (_) := hY
  have HJ : Hid (_) := hJs
  have HWS : Hid (_) := hws
  clear hY hJs c1 hws
  gi_loopw [3, 4] (fun i fr wr => ∃ (k : Nat) (sk : ByteArray), k ≤ ws.length ∧ J k wr ∧ Boxed wr Bs 9 (.string sk) ∧ sk.data.toList = (ws.drop k).flatten ∧ sk.size ≤ s.size) (fun _ _ wr => leftOf wr Bs)
  case atStart => exact ⟨0, s, Nat.zero_le _, h0, hB, hs, Nat.le_refl _⟩
  case round =>
    obtain ⟨k, sk, hkl, hJk, d1, hp, hss⟩ := hrel
    have e1 := d1.cell
    have f1 := d1.frozen
    by_cases hk : k < ws.length
    · obtain ⟨y, hy, hny⟩ := HWS.out ws[k] (List.getElem_mem hk)
      have hdr : (ws.drop k).flatten = y ++ 10 :: (ws.drop (k + 1)).flatten := by
        rw [List.drop_eq_getElem_cons hk, List.flatten_cons, hy, List.append_assoc]; rfl
      rw [hdr] at hp
      have hix : Lib.indexByte sk.data.toList 10 = (y.length : Int) := by rw [hp]; exact index_at 10 _ y hny
      have hskl : sk.size = y.length + 1 + (ws.drop (k + 1)).flatten.length := by
        rw [Lib.size_eq, hp]; simp; omega
      have ew : (⟨ws[k].toArray⟩ : ByteArray) = sk.extract 0 (y.length + 1) := by
        apply ba_ext
        rw [Lib.extract_data, hp, hy]
        have : y ++ 10 :: (ws.drop (k + 1)).flatten = (y ++ [10]) ++ (ws.drop (k + 1)).flatten := by simp
        rw [this]
        have h2 : (y ++ [10]).length = y.length + 1 := by simp
        rw [Nat.sub_zero, List.drop_zero, ← h2, List.take_left]
      have ex : (sk.extract (y.length + 1) sk.size).data.toList = (ws.drop (k + 1)).flatten := by
        rw [Lib.extract_to_end sk (y.length + 1), hp]; simp
      have ix := Tryz.strings_IndexByte sk 10 wr
      rw [show ((10 : Int).toNat.toUInt8) = (10 : UInt8) from rfl, hix] at ix
      have IX : Hid (Calls Tryz.prog 33 #[.string sk, .int .u8 10] wr fun e w' => e = .returned (.int .i64 (y.length : Int)) ∧ w' = wr) := ix
      have HYk : Hid (∀ W, J k W → YieldAt Fence.wide (n - 1) Tryz.prog l #[.string (sk.extract 0 (y.length + 1))] W fun e W' => (e = .returned (.bool true) ∧ J (k + 1) W' ∧ W'.heap[Bs]? = W.heap[Bs]?) ∨ (e = .returned (.bool false) ∧ Jx (k + 1) W')) := fun W hJ => by
        have := HY.out k hk W hJ
        rwa [ew] at this
      have HE : Hid ((sk.extract (y.length + 1) sk.size).data.toList = (ws.drop (k + 1)).flatten) := ex
      have hyl : (y.length : Int) + 1 ≤ (sk.size : Int) := by omega
      have hsk0 : 0 < (sk.size : Int) := by omega
      have hskm : (sk.size : Int) ≤ 1000000 := by omega
      clear ix hix hdr ew ex hy hny hp HY hskl
      generalize y.length = i at IX HYk HE hyl
      gi_upto_region 4 with (refine ⟨trivial, ?_⟩; gi_at_call 33; refine (callsIn_wide.2 (IX.out)).mono ?_; rintro e wr' ⟨rfl, rfl⟩)
      gi_region
      have g1 : wr'.grownBy ((wr'.setCell ⟨Bs, 0, none⟩ (.string (sk.extract (i + 1) sk.size))).drew) (some Bs) := grown_then (grown_set wr' ⟨Bs, 0, none⟩ _) (grown_below (drew_below _) _)
      have hYd := HYk.out _ (HJ.out k _ _ hJk g1)
      have d2 : Boxed ((wr'.setCell ⟨Bs, 0, none⟩ (.string (sk.extract (i + 1) sk.size))).drew) Bs 9 (.string (sk.extract (i + 1) sk.size)) := d1.set _
      have HD1 : Hid (_) := d1
      clear d1 e1 f1 hJk g1
      generalize (wr'.setCell ⟨Bs, 0, none⟩ (.string (sk.extract (i + 1) sk.size))).drew = w2 at hYd d2 ⊢
      have HD2 : Hid (_) := d2
      clear d2
      obtain ⟨fn, tmps, assign, body, hy, hR⟩ := hYd
      gi_wp2
      refine hR.mono ?_
      rintro e W3 (⟨rfl, hJ3, g3⟩ | ⟨rfl, hJx3⟩)
      · have HG : Hid (J (k + 1) W3) := hJ3
        have d3 : Boxed W3 Bs 9 (.string (sk.extract (i + 1) sk.size)) := g3.trans HD2.out
        have hel : (sk.extract (i + 1) sk.size).size = sk.size - (i + 1) := by simp
        clear hJ3 g3
        gi_wp2
        go_roundw
        case rel => exact ⟨k + 1, _, hk, HG.out, d3, HE.out, by omega⟩
        case measure =>
          rw [leftOf_eq d3, leftOf_eq HD1.out]
          omega
      · gi_wp2
        refine bodyPost_ret (results_none rfl _ _ _) rfl ?_
        exact ⟨⟨_, rfl⟩, .inr ⟨_, hJx3⟩⟩
    · have hkk : k = ws.length := by omega
      have hsk : sk.size = 0 := by
        rw [Lib.size_eq, hp, hkk, List.drop_length]; rfl
      have hsk' : (sk.size : Int) = 0 := by omega
      have HJE : Hid (J ws.length wr) := by rw [← hkk]; exact hJk
      clear hp hJk HY HJ HWS
      gi_wp2
      go_end0
      exact ⟨⟨_, rfl⟩, .inl HJE.out⟩
end Go.Proofs.YtcaeafgkogfgdaaGreatDoor
