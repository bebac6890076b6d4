/- The document's own SameInts over lists that were built; a list appended to a list. -/
import Derived.Test.YtnpecjccajebiaaGreatDoorYaAC
import Derived.BigQuiet
import Derived.Deep.DeepCutAuto
import Derived.Test.YtnpecjccajebiaaGreatDoorYaAM
import Derived.Laws.StructEq
import Derived.Test.YtnpecjccajebiaaGreatDoorYbAC
namespace Go.Proofs.YtnpecjccajebiaaGreatDoor
open Go Go.RowKit Cal
attribute [local go_sem] Oper.semAt_some

theorem same_yes (ba bb n ca cb : Nat) (z : Nat → Int) (w : World) (hn : n ≤ 100000) (ha : ∀ i, i < n → w.cell? ⟨ba, i, none⟩ = some (.int .i64 (z i))) (hb : ∀ i, i < n → w.cell? ⟨bb, i, none⟩ = some (.int .i64 (z i))) :
    Calls Tryz.prog 55 #[.slice (some ⟨ba, 0, none⟩) n ca, .slice (some ⟨bb, 0, none⟩) n cb] w fun e w' => e = .returned (.bool true) ∧ Below w.heap.size w w' := by
  have HA : Hid (∀ i, i < n → w.cell? ⟨ba, i, none⟩ = some (.int .i64 (z i))) := ha
  have HB : Hid (∀ i, i < n → w.cell? ⟨bb, i, none⟩ = some (.int .i64 (z i))) := hb
  clear ha hb
  go_enter Tryz.func55, Tryz.ntmps55
  go_wp2
  go_loopw [5] (fun i wr => ∃ k q : Nat, k ≤ n ∧ i = .int .i64 k ∧ wr = w.drewN q) (fun i _ => n - (intOf i).toNat)
  case atStart => exact ⟨0, 0, Nat.zero_le _, rfl, rfl⟩
  case round =>
    obtain ⟨k, q, hk, rfl, rfl⟩ := hrel
    by_cases hlt : k < n
    · have h1 := HA.out k hlt
      have h2 := HB.out k hlt
      go_wp2
      go_quiet (fail)
      go_wp2
      go_roundw
      case rel => exact ⟨k + 1, _, by omega, by go_num, rfl⟩
      case measure => simp [intOf]; omega
    · go_wp2
      go_ret
      exact ⟨rfl, drewN_below _ _⟩
theorem same_zero (a b : Option Addr) (ca cb : Nat) (w : World) :
    Calls Tryz.prog 55 #[.slice a 0 ca, .slice b 0 cb] w fun e w' => e = .returned (.bool true) ∧ Below w.heap.size w w' := by
  go_enter Tryz.func55, Tryz.ntmps55
  go_wp2
  go_loop [5] (fun i => i = .int .i64 0) (fun _ => 0)
  case atStart => rfl
  case round =>
    subst hrel
    go_wp2
    go_ret
    exact ⟨rfl, Below.refl _ _⟩
theorem same_ow {b1 b2 : Nat} {W : World} {v1 v2 : Value} {o : List Int} (h1 : Ow b1 W v1 o) (h2 : Ow b2 W v2 o) (hl : o.length ≤ 100000) :
    Calls Tryz.prog 55 #[v1, v2] W fun e w' => e = .returned (.bool true) ∧ Below W.heap.size W w' := by
  by_cases h0 : o.length = 0
  · obtain ⟨a1, c1, rfl⟩ := ow_form h1
    obtain ⟨a2, c2, rfl⟩ := ow_form h2
    rw [h0]
    exact same_zero a1 a2 c1 c2 W
  · rcases h1.2 with ⟨_, q⟩ | ⟨g1, c1, cur1, hv1, _⟩
    · exact absurd q h0
    · rcases h2.2 with ⟨_, q⟩ | ⟨g2, c2, cur2, hv2, _⟩
      · exact absurd q h0
      · subst hv1 hv2
        refine same_yes g1 g2 o.length c1 c2 (fun i => o.getD i 0) W hl (fun i hi => ?_) (fun i hi => ?_)
        · have := World.ownsRow.cellAt h1 i (by omega)
          rw [this, List.getElem?_map, List.getElem?_eq_getElem hi, List.getD_eq_getElem?_getD, List.getElem?_eq_getElem hi]; rfl
        · have := World.ownsRow.cellAt h2 i (by omega)
          rw [this, List.getElem?_map, List.getElem?_eq_getElem hi, List.getD_eq_getElem?_getD, List.getElem?_eq_getElem hi]; rfl

/-- a list appended to a list of one's own -/
theorem app_ow {ops : Array Oper} {rest : List Oper} {o : Oper} {a : Act} {Q : Exit → Act → World → Prop} {w : World} (hgd : o.guard = none) (s x : Operand)
    (ho : o.op = .call { callee := .builtin .append, args := #[s, x], argTypes := #[39, 39] })
    (base : Nat) (xs ys : List Int) (v u : Value) (hs : a.eval s = v) (hown : Ow base w v xs) (hx : a.eval x = u) (hg : Got w u ys) (hl : xs.length + ys.length ≤ 100000) (hbase : base ≤ w.heap.size)
    (h : ∀ v' w', Ow base w' v' (xs ++ ys) → Below base w w' → wpList Tryz.prog ops Q rest (a.put o.dst v') w') : wpList Tryz.prog ops Q (o :: rest) a w := by
  obtain ⟨i0, hi, hz0, hz1, hz2⟩ := info_parts info_int
  obtain ⟨ad, cap, rfl, hn, hs'⟩ := hg
  cases ad with
  | none =>
    obtain ⟨h0, rfl⟩ := hn rfl
    have hys : ys = [] := List.length_eq_zero_iff.1 h0
    subst hys
    refine wpList_append_own_none hgd s x 39 ho base 3 i0 1 Tryz.underlying39 hi v xs.length (xs.map (Value.int .i64)) hs hown hx ?_
    exact h v w (by rw [List.append_nil]; exact hown) (Below.refl _ _)
  | some ad =>
    refine wpList_append_own w hgd s x 39 ho base 3 i0 (.int .i64 0) 1 8 Tryz.underlying39 hi hz0 hz1 hz2 rfl (by decide) v xs.length (xs.map (Value.int .i64)) hs hown ad ys.length cap (ys.map (Value.int .i64)) hx (by simp) ?_ (fun v hv => by obtain ⟨x, _, rfl⟩ := List.mem_map.1 hv; rfl) (by unfold maxLen; omega) (by omega) hbase ?_
    · intro j v hv
      rw [List.getElem?_map] at hv
      obtain ⟨d, hd, rfl⟩ := Option.map_eq_some_iff.1 hv
      obtain ⟨hj, rfl⟩ := List.getElem?_eq_some_iff.1 hd
      exact (hs' ad rfl j hj).2
    · intro v' w' h1 h2 _
      refine h v' w' ?_ ?_
      · unfold Ow; rw [List.length_append, List.map_append]; exact h1
      · refine (Below.refl base w).grown h2 hbase (fun k e => ?_)
        exact (World.ownsRow.lt hown k e).1
end Go.Proofs.YtnpecjccajebiaaGreatDoor

/- The document's own SameEvent, SameRule over two events that are one. -/
namespace Go.Proofs.YtnpecjccajebiaaGreatDoor
open Go Go.RowKit Cal
attribute [local go_sem] Oper.semAt_some

theorem same_ints {W : World} {v1 v2 : Value} {o : List Int} (h1 : Ints W v1 o) (h2 : Ints W v2 o) :
    Calls Tryz.prog 55 #[v1, v2] W fun e w' => e = .returned (.bool true) ∧ Below W.heap.size W w' := by
  obtain ⟨a1, c1, rfl, hl, _, h1⟩ := h1
  obtain ⟨a2, c2, rfl, _, _, h2⟩ := h2
  by_cases h0 : o.length = 0
  · rw [h0]
    exact same_zero a1 a2 c1 c2 W
  · obtain ⟨g1, rfl, _⟩ := h1 0 (by omega)
    obtain ⟨g2, rfl, _⟩ := h2 0 (by omega)
    refine same_yes g1 g2 o.length c1 c2 (fun i => o.getD i 0) W (by omega) (fun i hi => ?_) (fun i hi => ?_)
    · obtain ⟨b, e, _, hc⟩ := h1 i hi
      cases e
      rw [hc, List.getD_eq_getElem?_getD, List.getElem?_eq_getElem hi]; rfl
    · obtain ⟨b, e, _, hc⟩ := h2 i hi
      cases e
      rw [hc, List.getD_eq_getElem?_getD, List.getElem?_eq_getElem hi]; rfl

set_option maxHeartbeats 1000000 in
theorem sameRule_any (f : ByteArray) (e : Int) (sl sl' : Value) (c u : Int) (ds : List Int) (w : World) (hd : Days w sl ds) (hd' : Days w sl' ds) :
    Calls Tryz.prog 54 #[rv f e sl c u, rv f e sl' c u] w fun r w' => r = .returned (.bool true) ∧ Below w.heap.size w w' := by
  have hA := below_box2 w (.cells #[.string f, .int .i64 e, sl, .int .i64 c, .int .i64 u] 41) (.cells #[.string f, .int .i64 e, sl', .int .i64 c, .int .i64 u] 41)
  have k0 : ((w.alloc (.cells #[.string f, .int .i64 e, sl, .int .i64 c, .int .i64 u] 41)).alloc (.cells #[.string f, .int .i64 e, sl', .int .i64 c, .int .i64 u] 41)).heap[w.heap.size]? = some (.cells #[.string f, .int .i64 e, sl, .int .i64 c, .int .i64 u] 41 (0, 0)) := block_alloc _ (block_at _ rfl)
  have k1 : ((w.alloc (.cells #[.string f, .int .i64 e, sl, .int .i64 c, .int .i64 u] 41)).alloc (.cells #[.string f, .int .i64 e, sl', .int .i64 c, .int .i64 u] 41)).heap[w.heap.size + 1]? = some (.cells #[.string f, .int .i64 e, sl', .int .i64 c, .int .i64 u] 41 (0, 0)) := block_at _ (by simp)
  have SI : Hid (Calls _ _ _ _ _) := same_ints (days_ints (hd.step hA)) (days_ints (hd'.step hA))
  obtain ⟨ra, rc, rfl, _⟩ := hd
  obtain ⟨ra1, rc1, rfl, _⟩ := hd'
  have HA : Hid (_) := hA
  clear hA
  unfold rv
  generalize hw0 : (w.alloc (.cells #[.string f, .int .i64 e, .slice ra ds.length rc, .int .i64 c, .int .i64 u] 41)).alloc (.cells #[.string f, .int .i64 e, .slice ra1 ds.length rc1, .int .i64 c, .int .i64 u] 41) = w0 at HA k0 k1 SI
  obtain ⟨x0, x1, x2, x3, x4⟩ := blk5 k0
  obtain ⟨y0, y1, y2, y3, y4⟩ := blk5 k1
  clear k0 k1
  go_enter Tryz.func54, Tryz.ntmps54
  go_wp2_with (go_at_call 55; refine Calls.mono SI.out ?_; rintro r w1 ⟨rfl, hb1⟩)
  go_ret
  exact ⟨rfl, below_then HA.out hb1⟩

set_option maxHeartbeats 4000000 in
set_option maxRecDepth 100000 in
theorem sameEvent_any (E : EV) (sl skv mvv sl' skv' mvv' : Value) (w : World) (h1 : Ls w E sl skv mvv) (h2 : Ls w E sl' skv' mvv') :
    Calls Tryz.prog 28 #[ev E sl skv mvv, ev E sl' skv' mvv'] w fun r w' => r = .returned (.bool true) ∧ Below w.heap.size w w' := by
  have HL1 : Hid (Ls w E sl skv mvv) := h1
  have HL2 : Hid (Ls w E sl' skv' mvv') := h2
  obtain ⟨hd, hs, hm⟩ := h1
  obtain ⟨hd', hs', hm'⟩ := h2
  obtain ⟨ra, rc, rfl, _⟩ := hd
  obtain ⟨sa, sc, rfl, _⟩ := hs
  obtain ⟨ma, mc, rfl, hml, _⟩ := hm
  obtain ⟨ra1, rc1, rfl, _⟩ := hd'
  obtain ⟨sa1, sc1, rfl, _⟩ := hs'
  obtain ⟨ma1, mc1, rfl, _⟩ := hm'
  obtain ⟨idn, ti, st, lg, f, e, ds, c, u, sk, mv⟩ := E
  unfold ev
  dsimp only at *
  have hA := below_box2 w (.cells #[.string idn, .string ti, .int .i64 st, .int .i64 lg, .string f, .int .i64 e, .slice ra ds.length rc, .int .i64 c, .int .i64 u, .slice sa sk.length sc, .slice ma mv.length mc] 44) (.cells #[.string idn, .string ti, .int .i64 st, .int .i64 lg, .string f, .int .i64 e, .slice ra1 ds.length rc1, .int .i64 c, .int .i64 u, .slice sa1 sk.length sc1, .slice ma1 mv.length mc1] 44)
  have k0 : ((w.alloc (.cells #[.string idn, .string ti, .int .i64 st, .int .i64 lg, .string f, .int .i64 e, .slice ra ds.length rc, .int .i64 c, .int .i64 u, .slice sa sk.length sc, .slice ma mv.length mc] 44)).alloc (.cells #[.string idn, .string ti, .int .i64 st, .int .i64 lg, .string f, .int .i64 e, .slice ra1 ds.length rc1, .int .i64 c, .int .i64 u, .slice sa1 sk.length sc1, .slice ma1 mv.length mc1] 44)).heap[w.heap.size]? = some (.cells #[.string idn, .string ti, .int .i64 st, .int .i64 lg, .string f, .int .i64 e, .slice ra ds.length rc, .int .i64 c, .int .i64 u, .slice sa sk.length sc, .slice ma mv.length mc] 44 (0, 0)) := block_alloc _ (block_at _ rfl)
  have k1 : ((w.alloc (.cells #[.string idn, .string ti, .int .i64 st, .int .i64 lg, .string f, .int .i64 e, .slice ra ds.length rc, .int .i64 c, .int .i64 u, .slice sa sk.length sc, .slice ma mv.length mc] 44)).alloc (.cells #[.string idn, .string ti, .int .i64 st, .int .i64 lg, .string f, .int .i64 e, .slice ra1 ds.length rc1, .int .i64 c, .int .i64 u, .slice sa1 sk.length sc1, .slice ma1 mv.length mc1] 44)).heap[w.heap.size + 1]? = some (.cells #[.string idn, .string ti, .int .i64 st, .int .i64 lg, .string f, .int .i64 e, .slice ra1 ds.length rc1, .int .i64 c, .int .i64 u, .slice sa1 sk.length sc1, .slice ma1 mv.length mc1] 44 (0, 0)) := block_at _ (by simp)
  have L1 := HL1.out.step hA
  have L2 := HL2.out.step hA
  have SR := sameRule_any f e _ _ c u ds _ L1.d L2.d
  unfold rv at SR
  have HSR : Hid (Calls _ _ _ _ _) := SR
  have HA : Hid (_) := hA
  have HK0 : Hid (_) := k0
  have HK1 : Hid (_) := k1
  have M1 : Hid (Ls _ ⟨idn, ti, st, lg, f, e, ds, c, u, sk, mv⟩ (.slice ra ds.length rc) (.slice sa sk.length sc) (.slice ma mv.length mc)) := L1
  have M2 : Hid (Ls _ ⟨idn, ti, st, lg, f, e, ds, c, u, sk, mv⟩ (.slice ra1 ds.length rc1) (.slice sa1 sk.length sc1) (.slice ma1 mv.length mc1)) := L2
  clear SR L1 L2 HL1 HL2 hA
  generalize hw0 : (w.alloc (.cells #[.string idn, .string ti, .int .i64 st, .int .i64 lg, .string f, .int .i64 e, .slice ra ds.length rc, .int .i64 c, .int .i64 u, .slice sa sk.length sc, .slice ma mv.length mc] 44)).alloc (.cells #[.string idn, .string ti, .int .i64 st, .int .i64 lg, .string f, .int .i64 e, .slice ra1 ds.length rc1, .int .i64 c, .int .i64 u, .slice sa1 sk.length sc1, .slice ma1 mv.length mc1] 44) = w0 at HA k0 k1 HK0 HK1 HSR M1 M2
  obtain ⟨x0, x1, x2, x3, x4, x5, x6, x7, x8, x9, x10⟩ := blk11 k0
  obtain ⟨y0, y1, y2, y3, y4, y5, y6, y7, y8, y9, y10⟩ := blk11 k1
  clear k0 k1
  go_enter Tryz.func28, Tryz.ntmps28
  go_upto_region 3 with (go_at_call 54; refine Calls.mono HSR.out ?_; rintro r w1 ⟨rfl, hb1⟩)
  have HK2 : Hid (_) := (hb1.block _ (Array.getElem?_eq_some_iff.1 HK0.out).1).trans HK0.out
  have HK3 : Hid (_) := (hb1.block _ (Array.getElem?_eq_some_iff.1 HK1.out).1).trans HK1.out
  have N1 : Hid (Ls w1 ⟨idn, ti, st, lg, f, e, ds, c, u, sk, mv⟩ (.slice ra ds.length rc) (.slice sa sk.length sc) (.slice ma mv.length mc)) := M1.out.step hb1
  have N2 : Hid (Ls w1 ⟨idn, ti, st, lg, f, e, ds, c, u, sk, mv⟩ (.slice ra1 ds.length rc1) (.slice sa1 sk.length sc1) (.slice ma1 mv.length mc1)) := M2.out.step hb1
  have BW1 : Hid (Below w.heap.size w w1) := below_then HA.out hb1
  have SI : Hid (Calls _ _ _ _ _) := same_ints N1.out.s N2.out.s
  clear x0 x1 x2 x3 x4 x5 x6 x7 x8 x9 x10 y0 y1 y2 y3 y4 y5 y6 y7 y8 y9 y10 HK0 HK1 M1 M2 HSR HA hb1 hw0
  obtain ⟨x0, x1, x2, x3, x4, x5, x6, x7, x8, x9, x10⟩ := blk11 HK2.out
  obtain ⟨y0, y1, y2, y3, y4, y5, y6, y7, y8, y9, y10⟩ := blk11 HK3.out
  go_upto_region 5 with (go_at_call 55; refine Calls.mono SI.out ?_; rintro r w2 ⟨rfl, hb2⟩; have HK4 : Hid (_) := (hb2.block _ (Array.getElem?_eq_some_iff.1 HK2.out).1).trans HK2.out; have HK5 : Hid (_) := (hb2.block _ (Array.getElem?_eq_some_iff.1 HK3.out).1).trans HK3.out; clear x0 x1 x2 x3 x4 x5 x6 x7 x8 x9 x10 y0 y1 y2 y3 y4 y5 y6 y7 y8 y9 y10; obtain ⟨x0, x1, x2, x3, x4, x5, x6, x7, x8, x9, x10⟩ := blk11 HK4.out; obtain ⟨y0, y1, y2, y3, y4, y5, y6, y7, y8, y9, y10⟩ := blk11 HK5.out)
  have P1 : Hid (Movs w2 (.slice ma mv.length mc) mv) := N1.out.m.step hb2
  have P2 : Hid (Movs w2 (.slice ma1 mv.length mc1) mv) := N2.out.m.step hb2
  have BW2 : Hid (Below w.heap.size w w2) := below_then BW1.out hb2
  clear N1 N2 BW1 SI hb2 HK2 HK3 HK4 HK5 x0 x1 x2 x3 x4 x5 x6 x7 x8 x9 y0 y1 y2 y3 y4 y5 y6 y7 y8 y9
  go_wp2
  go_loopw [5] (fun i wr => ∃ k q : Nat, k ≤ mv.length ∧ i = .int .i64 k ∧ wr = w2.drewN q) (fun i _ => mv.length - (intOf i).toNat)
  case atStart => exact ⟨0, 0, Nat.zero_le _, rfl, rfl⟩
  case round =>
    obtain ⟨k, q, hk, rfl, rfl⟩ := hrel
    by_cases hlt : k < mv.length
    · obtain ⟨aa, ca, ea, _, _, hca⟩ := P1.out
      cases ea
      obtain ⟨ab, cb, eb, _, _, hcb⟩ := P2.out
      cases eb
      obtain ⟨b1, rfl, _, p1, p2⟩ := hca k hlt
      obtain ⟨b2, rfl, _, p3, p4⟩ := hcb k hlt
      have hlt' : (k : Int) < (mv.length : Int) := by omega
      generalize mv[k] = y at p1 p2 p3 p4
      clear hca hcb P1 P2
      go_wp2
      go_quiet (fail)
      go_wp2
      go_roundw
      case rel => exact ⟨k + 1, _, by omega, by go_num, rfl⟩
      case measure => simp [intOf]; omega
    · go_wp2
      go_ret
      exact ⟨rfl, below_then BW2.out (drewN_below _ _)⟩
end Go.Proofs.YtnpecjccajebiaaGreatDoor

/- Plain mathematics of texts that grow sign by sign: a list's text place by place, a rule's, an event's. -/
namespace Go.Proofs.YtnpecjccajebiaaGreatDoor
open Go Cal

/-- the text of the first m parts of a list -/
def joinTo (l : List (List UInt8)) (m : Nat) : List UInt8 := Lib.join (l.take m) [44]
theorem joinTo_zero (l : List (List UInt8)) : joinTo l 0 = [] := rfl
theorem join_snoc (c : UInt8) (x y : List UInt8) (l : List (List UInt8)) : Lib.join ((x :: l) ++ [y]) [c] = Lib.join (x :: l) [c] ++ c :: y := by
  rw [List.cons_append, Lib.join_cons, Lib.join_cons]
  unfold Lib.joinTail
  simp
theorem joinTo_one (l : List (List UInt8)) (h : 0 < l.length) : joinTo l 1 = l[0] := by
  unfold joinTo
  rw [List.take_succ_eq_append_getElem h, List.take_zero, List.nil_append, Lib.join_one]
theorem joinTo_succ (l : List (List UInt8)) (m : Nat) (hm : 0 < m) (h : m < l.length) : joinTo l (m + 1) = joinTo l m ++ 44 :: l[m] := by
  unfold joinTo
  rw [List.take_succ_eq_append_getElem h]
  obtain ⟨x, r, hx⟩ : ∃ x r, l.take m = x :: r := by
    cases hq : l.take m with
    | nil =>
      have : (l.take m).length = 0 := by rw [hq]; rfl
      rw [List.length_take] at this
      omega
    | cons x r => exact ⟨x, r, rfl⟩
  rw [hx, join_snoc]
theorem joinTo_all (l : List (List UInt8)) (m : Nat) (h : l.length ≤ m) : joinTo l m = Lib.join l [44] := by
  unfold joinTo
  rw [List.take_of_length_le h]
theorem joinTo_len (l : List (List UInt8)) (m K : Nat) (h : ∀ x ∈ l, x.length ≤ K) : (joinTo l m).length ≤ l.length * (K + 1) := by
  unfold joinTo
  have h1 := joinLen (l.take m) [44] K (fun y hy => h y (List.mem_of_mem_take hy))
  have h2 : (l.take m).length ≤ l.length := by rw [List.length_take]; omega
  exact Nat.le_trans h1 (Nat.mul_le_mul h2 (by simp))

/-- a rule's days, as they stand in its text -/
def dP (ds : List Int) (m : Nat) : List UInt8 := if m = 0 then [] else 32 :: joinTo (ds.map nm) m
theorem dP_one (ds : List Int) (h : 0 < ds.length) : dP ds 1 = 32 :: nm ds[0] := by
  unfold dP
  rw [if_neg (by omega), joinTo_one _ (by simpa using h), List.getElem_map]
theorem dP_succ (ds : List Int) (m : Nat) (hm : 0 < m) (h : m < ds.length) : dP ds (m + 1) = dP ds m ++ 44 :: nm ds[m] := by
  unfold dP
  rw [if_neg (by omega), if_neg (by omega), joinTo_succ _ m hm (by simpa using h), List.getElem_map]
  simp
theorem dP_len (ds : List Int) (m : Nat) (h : ds.length ≤ 20) : (dP ds m).length ≤ 100 := by
  unfold dP
  split
  · simp
  · have h1 := joinTo_len (ds.map nm) m 2 (fun x hx => by obtain ⟨d, _, rfl⟩ := List.mem_map.1 hx; rw [nm_len]; exact Nat.le_refl _)
    rw [List.length_map] at h1
    simp only [List.length_cons]
    omega
def cP (c : Int) : List UInt8 := if c = 0 then [] else 32 :: (countW ++ 32 :: Lib.itoa c)
def uP (u : Int) (t : List UInt8) : List UInt8 := if u = -1 then [] else 32 :: (untilW ++ 32 :: t)
theorem rtext_form (r : RV) (t : List UInt8) (h : r.freq ≠ onceW) : rtext r t = r.freq ++ 32 :: Lib.itoa r.every ++ dP r.days r.days.length ++ cP r.count ++ uP r.til t := by
  unfold rtext words
  rw [if_neg h, Lib.join_cons]
  have e1 : Lib.joinTail [32] (Lib.itoa r.every :: (wDays r ++ (wCount r ++ wUntil r t))) = 32 :: Lib.itoa r.every ++ Lib.joinTail [32] (wDays r) ++ Lib.joinTail [32] (wCount r) ++ Lib.joinTail [32] (wUntil r t) := by
    unfold Lib.joinTail
    simp
  have e2 : Lib.joinTail [32] (wDays r) = dP r.days r.days.length := by
    unfold wDays dP
    by_cases hd : r.days = []
    · rw [if_pos hd, if_pos (by rw [hd]; rfl)]; rfl
    · rw [if_neg hd, if_neg (fun q => hd (List.length_eq_zero_iff.1 q)), joinTo_all _ _ (by simp)]
      unfold Lib.joinTail
      simp
  have e3 : Lib.joinTail [32] (wCount r) = cP r.count := by
    unfold wCount cP
    split
    · rfl
    · unfold Lib.joinTail; simp
  have e4 : Lib.joinTail [32] (wUntil r t) = uP r.til t := by
    unfold wUntil uP
    split
    · rfl
    · unfold Lib.joinTail; simp
  rw [e1, e2, e3, e4]
  simp
/-- an event's text up to its m-th field -/
noncomputable def eTo (E : EV) (m : Nat) : List UInt8 := E.id.data.toList ++ Lib.joinTail [124] ((pT E).take m)
theorem eTo_zero (E : EV) : eTo E 0 = E.id.data.toList := by unfold eTo; simp [Lib.joinTail]
theorem eTo_succ (E : EV) (m : Nat) (h : m < 6) : eTo E (m + 1) = eTo E m ++ 124 :: fT E m := by
  have hm : (pT E)[m]? = some (fT E m) := by
    rw [← pT_at E m h]
    have hl : m < (pT E).length := h
    rw [List.getD_eq_getElem?_getD, List.getElem?_eq_getElem hl]
    rfl
  unfold eTo
  rw [Lib.joinTail_take_succ _ _ _ _ hm]
  simp
theorem eTo_all (E : EV) : eTo E 6 = eT E := by
  unfold eTo eT
  rw [Lib.join_cons]
  rfl
theorem eTo_len {E : EV} (h : EW E) (h20 : E.ds.length ≤ 20) (m : Nat) (hm : m ≤ 6) : (eTo E m).length ≤ 10000 := by
  rw [← Nat.add_zero m]
  have key : ∀ m, m ≤ 6 → (eTo E m).length ≤ 12 + m * 1001 := by
    intro m
    induction m with
    | zero =>
      intro _
      rw [eTo_zero]
      have := h.id.2.2
      have e : E.id.data.toList.length = E.id.size := by rw [Array.length_toList]; rfl
      omega
    | succ m ih =>
      intro hm
      rw [eTo_succ E m (by omega), List.length_append, List.length_cons]
      have := ih (by omega)
      have := fT_len h h20 m
      omega
  have := key m hm
  simp only [Nat.add_zero]
  omega
end Go.Proofs.YtnpecjccajebiaaGreatDoor
