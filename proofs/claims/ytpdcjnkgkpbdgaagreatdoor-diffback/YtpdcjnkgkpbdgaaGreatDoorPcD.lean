/- Package diff's Back: slices.Backward's iterator, and the changes turned round. -/
import Derived.Test.YtpdcjnkgkpbdgaaGreatDoorPcB
import Derived.Test.YtpdcjnkgkpbdgaaGreatDoorPcC
import Derived.Test.YtpdcjnkgkpbdgaaGreatDoorRFP
import Derived.Test.YtpdcjnkgkpbdgaaGreatDoorPdB
import Derived.Shelf.Abstract
import Derived.Shelf.RegionOpen
import Derived.WalkKit
import Derived.OwnWalkIn
import Derived.TacticsInMore
import Derived.LoopNIn
import Derived.LoopIn
import Derived.Shelf.Strings.Builder1
import Derived.Shelf.Strings.Builder2
import Derived.Shelf.Strings.OnBuilder
import Derived.Shelf.Small.Bits
import Derived.Shelf.Small.Strs
import Derived.Shelf.Small.Wraps
import Derived.Shelf.Strings.BuilderF
import Derived.Shelf.Strings.BuilderK
import Derived.Shelf.Utf8.RuneCount
import Derived.Shelf.Strconv.Atoi
import Derived.Shelf.Strconv.Itoa0
import Derived.Shelf.Strconv.Itoa1
import Derived.Shelf.LaysM
import Derived.Shelf.Strconv.Itoa2
import Derived.Shelf.Strconv.Itoa3
import Derived.Shelf.Strconv.AtoiErrFast
import Derived.Shelf.Strconv.ParseIntEmpty
import Derived.Shelf.Strconv.AtoiFail
import Derived.Shelf.Strconv.Clone
import Derived.Shelf.Strconv.SyntaxError
import Derived.Shelf.LaysC
import Derived.Shelf.Strconv.ToError
import Derived.Shelf.Strconv.AtoiErr
import Derived.Shelf.Strings.Search1
import Derived.Shelf.Strings.Search2
import Derived.Shelf.Strings.Search3
import Derived.Shelf.Strings.Cut
import Derived.Shelf.Strings.Count
import Derived.Shelf.Strings.Shaped
import Derived.Shelf.Sort.Plain
import Derived.Shelf.Strings.Prefix
import Derived.Shelf.Strings.Split
import Derived.Shelf.Strings.SplitShaped
import Derived.Shelf.Unicode.Decode
import Derived.Shelf.Strings.RuneCount
import Derived.Shelf.Strings.Explode
import Derived.Shelf.Unicode.DecodeSlow
import Derived.Shelf.Unicode.DecodeAny
import Derived.Shelf.Slices.Turned
import Derived.Shelf.Slices.Equal
import Derived.Ground.Names2Prog
import Derived.Shelf.Slices.Clone
import Derived.Shelf.Slices.CompactI
import Derived.Shelf.Slices.CompactS
import Derived.Shelf.Slices.SearchI
import Derived.Shelf.Slices.Cells
import Derived.Shelf.Slices.In.SortNone
import Derived.Shelf.Slices.Empties
import Derived.Shelf.Slices.Empties2
import Derived.Ground.SlgnProg
import Derived.Shelf.SlicesE.Clone
import Derived.Test.YtpdcjnkgkpbdgaaGreatDoorProg
import Derived.Sort.OwnSorted
import Derived.Lib.SlicesCompact
import Derived.Lib.AppendZerosOnto
namespace Go.Proofs.YtpdcjnkgkpbdgaaGreatDoor
open Go Go.RowKit Go.Shelf Cal
attribute [local go_sem] Oper.semAt_some

theorem backward_any (a : Option Addr) (m c : Nat) (w : World) : Calls Tryz.prog 81 #[.slice a m c] w fun r w' => r = .returned (.func (.func 128) #[] #[.pointer (some ⟨w.heap.size, 0, none⟩)]) ∧ w' = w.alloc (.cells #[.slice a m c] 65) := by
  go_enter Tryz.func81, Tryz.ntmps81
  go_wp2
  go_ret
  exact ⟨rfl, rfl⟩

set_option maxHeartbeats 1000000 in
theorem backward_iter (n l Bs base : Nat) (a : Option Addr) (cap : Nat) (cs : List DC) (J : Nat → World → Prop) (hn : 6 ≤ n) (hl : cs.length ≤ 5000)
    (hB : ∀ r W, J r W → W.cell? ⟨Bs, 0, none⟩ = some (.slice a cs.length cap) ∧ ChR base W (.slice a cs.length cap) cs)
    (hY : ∀ (r : Nat) (hr : r < cs.length) (W : World), J (r + 1) W → YieldAt Fence.wide (n - 1) Tryz.prog l #[.int .i64 r, cs[r].v] W fun e W' => e = .returned (.bool true) ∧ J r W')
    (W : World) (h0 : J cs.length W) :
    CallsIn Fence.wide n Tryz.prog 128 #[.func (.yield l) #[] #[], .pointer (some ⟨Bs, 0, none⟩)] W fun e W' => (∃ v, e = .returned v) ∧ J 0 W' := by
  have h1 : 1 ≤ n := by omega
  have c1 := (hB _ _ h0).1
  have hli : (cs.length : Int) ≤ 5000 := by omega
  have HB : Hid (_) := hB
  have HY : Hid (_) := hY
  have H0 : Hid (J cs.length W) := h0
  clear hB hY h0
  refine callsIn_of_wp Tryz.func128 rfl trivial ?_ rfl
  simp only [Tryz.ntmps128, List.size_toArray, List.length_cons, List.length_nil, Nat.reduceAdd, Nat.reduceSub, Array.replicate_succ, Array.replicate_zero, List.push_toArray, List.append_toArray, List.nil_append, List.cons_append]
  gi_wp2
  clear c1
  gi_loopw [3] (fun i wr => ∃ r : Nat, r ≤ cs.length ∧ i = .int .i64 ((r : Int) - 1) ∧ Hid (J r wr)) (fun i _ => (intOf i + 1).toNat)
  case atStart => exact ⟨cs.length, Nat.le_refl _, rfl, H0.out⟩
  case round =>
    obtain ⟨r, hr, rfl, HJ⟩ := hrel
    obtain ⟨c1, hR⟩ := HB.out r wr HJ.out
    cases r with
    | zero =>
      clear hR HB HY H0
      gi_wp2
      go_end0
      exact ⟨⟨_, rfl⟩, HJ.out⟩
    | succ r =>
      obtain ⟨a', cap', ea, _, hc⟩ := hR.form
      cases ea
      obtain ⟨b, rfl, hb, q0, q1, q2, q3⟩ := hc r (by omega)
      have hYr := HY.out r (by omega) wr HJ.out
      have er : ((r + 1 : Nat) : Int) - 1 = (r : Int) := by omega
      rw [er]
      unfold DC.v chV at hYr
      generalize cs[r] = c at q0 q1 q2 q3 hYr
      generalize c.id = ci at q0 hYr
      generalize fieldB c.k = cf at q1 hYr
      generalize bs (oT c.k c.a) = co at q2 hYr
      generalize bs (oT c.k c.b) = cn at q3 hYr
      have hr0 : (r : Int) < (cs.length : Int) := by omega
      have hr1 : (0 : Int) ≤ (r : Int) := by omega
      obtain ⟨fn, tmps, assign, body, hy, hRR⟩ := hYr
      clear hc hR HB HY H0 er
      gi_wp2
      refine hRR.mono ?_
      rintro e W3 ⟨rfl, hJ3⟩
      have HJ3 : Hid (J r W3) := hJ3
      clear hJ3
      gi_wp2
      go_roundw
      case rel => exact ⟨r, by omega, by go_num, HJ3.out⟩
      case measure => simp [intOf]

theorem info_change : (Tryz.prog.info? 121).map (fun i => (i.zero, i.size, i.bytes)) = some (some (.agg #[.string ⟨#[]⟩, .string ⟨#[]⟩, .string ⟨#[]⟩, .string ⟨#[]⟩]), 4, 64) := by kernel_rfl

/-- a round whose assignment makes a block -/
theorem yieldAt_mk {P : Program} {n l : Nat} {r : Loop} {x : Array Value} {W W1 : World} {R : Ending → World → Prop} {tmps : Array Value} {ps : Array Tmp} {assign body : Code} (hR : IsRec r tmps ps assign body) (a₁ : Act)
    (hl : W.heap[l]? = some (.loop r)) (hl1 : W1.heap[l]? = some (.loop r)) (hs : x.size = ps.size)
    (hassign : ∀ K : Act → World → Prop, K a₁ W1 → assign.wpIn (Fence.wide.inRound l) n P (Exit.then K (fun _ _ _ => False)) { tmps := (ps.zip x).foldl (fun t (p, v) => t.setIfInBounds p v) tmps, defers := [] } W)
    (hbody : body.wpIn (Fence.wide.inRound l) n P (rnd l r R) a₁ (W1.putObj l (.loop { r with state := .busy }))) :
    YieldAt Fence.wide n P l x W R := by
  obtain ⟨hr, _, rfl, rfl, rfl, rfl⟩ := hR
  refine ⟨r.fn, _, r.assign, r.body, run_yield hl hs, roundIn_of_wpIn trivial (hassign _ ⟨_, run_beginRound hl1 hr, wpIn_mono hbody ?_⟩)⟩
  intro e a W3 h
  cases e with
  | normal => exact ⟨_, _, run_endRound none h.1, h.2⟩
  | ret => exact ⟨_, _, run_endRound (some .ret) h.1, h.2⟩
  | exit id => exact h.elim
  | goto t => exact h.elim
  | panic ch => exact h.elim
  | outgrown => exact h.elim

/-- what Back's rounds leave: the list so far, the list that is read, the loop's own record -/
structure BJ (w W : World) (rec : Loop) (v : Value) (v' : Value) (o : List DC) : Prop where
  b0 : Boxed W w.heap.size 65 v'
  b1 : Boxed W (w.heap.size + 1) 65 v
  row : ChR (w.heap.size + 4) W v' o
  d : W.heap[w.heap.size + 2]? = some (.deferred (some []))
  l : W.heap[w.heap.size + 3]? = some (.loop rec)
  bw : Below w.heap.size w W
  sz : w.heap.size + 4 ≤ W.heap.size

set_option maxHeartbeats 2000000 in
set_option maxRecDepth 100000 in
theorem back_C (base : Nat) (v : Value) (cs : List DC) (hl : cs.length ≤ 5000) (w : World) (hR : ChR base w v cs) :
    Calls Tryz.prog 38 #[v] w fun r w' => ∃ v', r = .returned v' ∧ ChR w.heap.size w' v' (cs.reverse.map DC.turn) ∧ Below w.heap.size w w' := by
  obtain ⟨a, cap, rfl, hcap, _⟩ := hR.form
  obtain ⟨i0, hi, hz0, hz1, hz2⟩ := info_parts info_change
  have BW : Hid (∀ W, _) := fun W => backward_any a cs.length cap W
  have HR : Hid (ChR base w (.slice a cs.length cap) cs) := hR
  clear hR
  refine (callsIn_wide (n := 10)).1 ?_
  refine callsIn_of_wp_marks Tryz.func38 rfl trivial ?_ rfl
  simp only [Tryz.ntmps38, List.size_toArray, List.length_cons, List.length_nil, Nat.reduceAdd, Nat.reduceSub, Array.replicate_succ, Array.replicate_zero, List.push_toArray, List.append_toArray, List.nil_append, List.cons_append]
  gi_wp2_with (refine ⟨trivial, ?_⟩; gi_at_call 81; refine (callsIn_wide.2 (BW.out _)).mono ?_; rintro r w' ⟨rfl, rfl⟩)
  have b0 : Boxed ((w.alloc (.cells #[.slice none 0 0] 65)).alloc (.cells #[.slice a cs.length cap] 65)) w.heap.size 65 (.slice none 0 0) := block_alloc _ (block_at _ rfl)
  have b1 : Boxed ((w.alloc (.cells #[.slice none 0 0] 65)).alloc (.cells #[.slice a cs.length cap] 65)) (w.heap.size + 1) 65 (.slice a cs.length cap) := block_at _ (World.size_alloc _ _)
  have hbw : Below w.heap.size w ((w.alloc (.cells #[.slice none 0 0] 65)).alloc (.cells #[.slice a cs.length cap] 65)) := below_then (below_alloc _ _) (below_alloc _ _)
  have hs2 : ((w.alloc (.cells #[.slice none 0 0] 65)).alloc (.cells #[.slice a cs.length cap] 65)).heap.size = w.heap.size + 2 := by rw [World.size_alloc, World.size_alloc]
  generalize (w.alloc (.cells #[.slice none 0 0] 65)).alloc (.cells #[.slice a cs.length cap] 65) = W2 at b0 b1 hbw hs2
  refine rangeFunc_of rfl (enters_of Tryz.func128 (by kernel_rfl) rfl) (fun r0 hr0 => ?_)
  have hl3 : W2.heap.size + 1 = w.heap.size + 3 := by omega
  rw [hl3]
  refine (backward_iter 9 (w.heap.size + 3) (w.heap.size + 1) base a cap cs (fun r W => ∃ v', BJ w W r0 (.slice a cs.length cap) v' ((cs.drop r).reverse.map DC.turn)) (by omega) hl ?hB ?hY _ ?h0).mono ?post
  case hB =>
    rintro r W ⟨v', q⟩
    exact ⟨q.b1.cell, HR.out.step q.bw⟩
  case h0 =>
    have hb := below_then (below_alloc W2 (.deferred (some []))) (below_alloc _ (.loop r0))
    refine ⟨.slice none 0 0, (hb.block _ (by omega)).trans b0, (hb.block _ (by omega)).trans b1, ?_, block_alloc _ (block_at _ hs2), by rw [← hl3]; exact rec_start _ _, below_then hbw hb, by rw [World.size_alloc, World.size_alloc, hs2]; exact Nat.le_refl _⟩
    rw [List.drop_length]
    exact ChR.nil _ _
  case hY =>
    rintro r hr W ⟨v', q⟩
    have HN : Hid ((cs.drop r).reverse.map DC.turn = (cs.drop (r + 1)).reverse.map DC.turn ++ [cs[r].turn]) := by
      show _ = _
      rw [List.drop_eq_getElem_cons hr, List.reverse_cons, List.map_append]
      rfl
    have hol : ((cs.drop (r + 1)).reverse.map DC.turn).length ≤ 5000 := by simp; omega
    have htc : cs[r].turn.cells = [.string cs[r].id, .string (fieldB cs[r].k), .string (bs (oT cs[r].k cs[r].b)), .string (bs (oT cs[r].k cs[r].a))] := rfl
    have HTC : Hid (_) := htc
    unfold DC.v chV
    generalize (cs.drop (r + 1)).reverse.map DC.turn = o at q HN hol
    generalize cs[r] = c at HN HTC
    generalize c.id = ci at HTC
    generalize fieldB c.k = cf at HTC
    generalize bs (oT c.k c.a) = co at HTC
    generalize bs (oT c.k c.b) = cn at HTC
    obtain ⟨oa, oc, hv', _, _⟩ := q.row.form
    subst hv'
    have hA := below_alloc W (.cells #[.string ci, .string cf, .string co, .string cn] 121)
    have hl1 : (W.alloc (.cells #[.string ci, .string cf, .string co, .string cn] 121)).heap[w.heap.size + 3]? = some (.loop r0) := block_alloc _ q.l
    have hgb := grownBy_putObj' (W.alloc (.cells #[.string ci, .string cf, .string co, .string cn] 121)) (w.heap.size + 3) (.loop { r0 with state := .busy })
    have kc : ((W.alloc (.cells #[.string ci, .string cf, .string co, .string cn] 121)).putObj (w.heap.size + 3) (.loop { r0 with state := .busy })).heap[W.heap.size]? = some (.cells #[.string ci, .string cf, .string co, .string cn] 121 (0, 0)) := (World.putObj_heap_other (by have := q.sz; omega)).trans (block_at _ rfl)
    have P : ∀ b, b < W.heap.size → b ≠ w.heap.size + 3 → ((W.alloc (.cells #[.string ci, .string cf, .string co, .string cn] 121)).putObj (w.heap.size + 3) (.loop { r0 with state := .busy })).heap[b]? = W.heap[b]? := fun b hb hne => (World.putObj_heap_other hne).trans (hA.block b hb)
    have lb : ((W.alloc (.cells #[.string ci, .string cf, .string co, .string cn] 121)).putObj (w.heap.size + 3) (.loop { r0 with state := .busy })).heap[w.heap.size + 3]? = some (.loop { r0 with state := .busy }) := World.putObj_heap_same (Array.getElem?_eq_some_iff.1 hl1).1
    have szb : W.heap.size < ((W.alloc (.cells #[.string ci, .string cf, .string co, .string cn] 121)).putObj (w.heap.size + 3) (.loop { r0 with state := .busy })).heap.size := (Array.getElem?_eq_some_iff.1 kc).1
    have hq := q.sz
    refine yieldAt_mk hr0 ({ tmps := #[.slice a cs.length cap, undef, .slice none 0 0, .pointer (some ⟨w.heap.size, 0, none⟩), undef, .pointer (some ⟨W.heap.size, 0, none⟩), .slice a cs.length cap, .func (.func 128) #[] #[.pointer (some ⟨w.heap.size + 1, 0, none⟩)], .int .i64 r, .agg #[.string ci, .string cf, .string co, .string cn], undef, undef, undef, undef, undef, undef, undef, undef, undef, undef, undef, undef, undef], defers := [] }) q.l hl1 rfl ?assign ?body
    case assign =>
      intro K hK
      gi_wp2
      exact hK
    case body =>
      have hos : (W.alloc (.cells #[.string ci, .string cf, .string co, .string cn] 121)).os = W.os ∧ (W.alloc (.cells #[.string ci, .string cf, .string co, .string cn] 121)).tape = W.tape ∧ (W.alloc (.cells #[.string ci, .string cf, .string co, .string cn] 121)).output = W.output := ⟨hA.os, hA.tape, hA.output⟩
      generalize hWb : (W.alloc (.cells #[.string ci, .string cf, .string co, .string cn] 121)).putObj (w.heap.size + 3) (.loop { r0 with state := .busy }) = Wb at kc P lb szb hgb
      have B0 : Boxed Wb w.heap.size 65 (.slice oa o.length oc) := (P _ (by omega) (by omega)).trans q.b0
      have HB0 : Hid (_) := B0
      have cL := B0.cell
      have fL := B0.frozen
      have HRW : Hid (ChR (w.heap.size + 4) (Wb.alloc (.cells #[.string ci, .string cf, .string cn, .string co] 121)) (.slice oa o.length oc) o) := (q.row.far (fun k hk hk2 => P k hk2 (by omega))).step (below_alloc _ _)
      obtain ⟨c0, c1, c2, c3⟩ := blk4 kc
      have NC : Hid (∀ (j : Nat) (v : Value), [Value.string ci, .string cf, .string cn, .string co][j]? = some v → (Wb.alloc (.cells #[.string ci, .string cf, .string cn, .string co] 121)).cell? ((⟨Wb.heap.size, 0, none⟩ : Addr).add j) = some v) := fun j v hv => by
        match j, hv with
        | 0, hv => simp at hv; subst hv; simp [Addr.add]
        | 1, hv => simp at hv; subst hv; simp [Addr.add]
        | 2, hv => simp at hv; subst hv; simp [Addr.add]
        | 3, hv => simp at hv; subst hv; simp [Addr.add]
      have hzb : w.heap.size + 4 ≤ Wb.heap.size := by omega
      gi_wp2_with (first
        | (gi_at_builtin; refine wpListIn_append_own _ rfl _ _ 65 rfl (w.heap.size + 4) 121 i0 (.agg #[.string ⟨#[]⟩, .string ⟨#[]⟩, .string ⟨#[]⟩, .string ⟨#[]⟩]) 4 64 Tryz.underlying65 hi hz0 hz1 hz2 rfl (by decide) _ _ _ rfl HRW.out ⟨Wb.heap.size, 0, none⟩ 1 1 [.string ci, .string cf, .string cn, .string co] rfl rfl NC.out ?e1 ?e2 ?e3 ?e4 ?_)
        | gi_in)
      case e1 => exact ⟨rfl, rfl, rfl, rfl⟩
      case e2 => unfold maxLen; omega
      case e3 => omega
      case e4 => omega
      intro v' w1 hown' hgrow _
      obtain ⟨g', cap', rfl⟩ := ownsRow_succ hown'
      have hgr : (Wb.alloc (.cells #[.string ci, .string cf, .string cn, .string co] 121)).grownBy w1 (Value.slice oa o.length oc).ownBlock := hgrow
      have hlow : ∀ k, k < w.heap.size + 4 → w1.heap[k]? = Wb.heap[k]? := fun k hk => (hgr.block k (by rw [World.size_alloc]; omega) (fun z => by have := (World.ownsRow.lt HRW.out k z.symm).1; omega)).trans ((below_alloc Wb _).block k (by omega))
      have B1 : Boxed w1 w.heap.size 65 (.slice oa o.length oc) := (hlow _ (by omega)).trans HB0.out
      have cL1 := B1.cell
      have fL1 := B1.frozen
      have hw1s : Wb.heap.size ≤ w1.heap.size := by have := hgr.size; rw [World.size_alloc] at this; omega
      have HFIN : Hid ((w1.setCell ⟨w.heap.size, 0, none⟩ (.slice (some ⟨g', 0, none⟩) (o.length + 1) cap')).heap[w.heap.size + 3]? = some (.loop { r0 with state := .busy }) ∧ BJ w ((w1.setCell ⟨w.heap.size, 0, none⟩ (.slice (some ⟨g', 0, none⟩) (o.length + 1) cap')).putObj (w.heap.size + 3) (.loop { r0 with state := .ready, pending := none })) r0 (.slice a cs.length cap) (.slice (some ⟨g', 0, none⟩) (o.length + 1) cap') (o ++ [c.turn])) := by
        have hset : ∀ k, k < w.heap.size + 4 → k ≠ w.heap.size → (w1.setCell ⟨w.heap.size, 0, none⟩ (.slice (some ⟨g', 0, none⟩) (o.length + 1) cap')).heap[k]? = Wb.heap[k]? := fun k hk hne => (Below.heap_setCell _ _ _ k (fun z => hne z)).trans (hlow k hk)
        have hl4 : (w1.setCell ⟨w.heap.size, 0, none⟩ (.slice (some ⟨g', 0, none⟩) (o.length + 1) cap')).heap[w.heap.size + 3]? = some (.loop { r0 with state := .busy }) := (hset _ (by omega) (by omega)).trans lb
        have P2 : ∀ k, k ≠ w.heap.size + 3 → ((w1.setCell ⟨w.heap.size, 0, none⟩ (.slice (some ⟨g', 0, none⟩) (o.length + 1) cap')).putObj (w.heap.size + 3) (.loop { r0 with state := .ready, pending := none })).heap[k]? = (w1.setCell ⟨w.heap.size, 0, none⟩ (.slice (some ⟨g', 0, none⟩) (o.length + 1) cap')).heap[k]? := fun k hk => World.putObj_heap_other hk
        have gP := grownBy_putObj' (w1.setCell ⟨w.heap.size, 0, none⟩ (.slice (some ⟨g', 0, none⟩) (o.length + 1) cap')) (w.heap.size + 3) (.loop { r0 with state := .ready, pending := none })
        have gS := grown_set w1 ⟨w.heap.size, 0, none⟩ (.slice (some ⟨g', 0, none⟩) (o.length + 1) cap')
        have rowN : ChR (w.heap.size + 4) w1 (.slice (some ⟨g', 0, none⟩) (o.length + 1) cap') (o ++ [c.turn]) := by
          show World.ownsRow _ _ _ _ _ _ _
          rw [List.length_append, List.flatMap_append, List.flatMap_singleton, HTC.out]
          exact hown'
        refine ⟨hl4, (P2 _ (by omega)).trans (Boxed.set _ B1), (P2 _ (by omega)).trans ((hset _ (by omega) (by omega)).trans ((P _ (by omega) (by omega)).trans q.b1)), rowN.far (fun k hk hk2 => (P2 k (by omega)).trans (Below.heap_setCell _ _ _ k (fun z => by have z' : k = w.heap.size := z; omega))), (P2 _ (by omega)).trans ((hset _ (by omega) (by omega)).trans ((P _ (by omega) (by omega)).trans q.d)), ?_, ?_, ?_⟩
        · rw [hr0.again]; exact World.putObj_heap_same (Array.getElem?_eq_some_iff.1 hl4).1
        · have hoW : Wb.os = w.os ∧ Wb.tape = w.tape ∧ Wb.output = w.output := ⟨hgb.os.trans (hos.1.trans q.bw.os), hgb.tape.trans (hos.2.1.trans q.bw.tape), hgb.output.trans (hos.2.2.trans q.bw.output)⟩
          exact ⟨gP.os.trans (gS.os.trans (hgr.os.trans hoW.1)), gP.tape.trans (gS.tape.trans (hgr.tape.trans hoW.2.1)), gP.output.trans (gS.output.trans (hgr.output.trans hoW.2.2)), by have := gP.size; have := gS.size; omega, fun k hk => (P2 k (by omega)).trans ((hset k (by omega) (by omega)).trans ((P k (by omega) (by omega)).trans (q.bw.block k hk)))⟩
        · have := gP.size; have := gS.size; omega
      clear hown' hgrow hgr
      gi_wp2
      obtain ⟨z1, z2⟩ := HFIN.out
      exact ⟨z1, rfl, _, by rw [HN.out]; exact z2⟩
  case post =>
    rintro e2 W3 ⟨hv, v', q⟩
    rw [List.drop_zero] at q
    refine ⟨hv, _, q.l, by rw [hr0.state]; decide, .inl ⟨hr0.pending, ?_⟩⟩
    have gP := grownBy_putObj' W3 (w.heap.size + 3) (.loop { r0 with state := .exhausted })
    have P3 : ∀ k, k ≠ w.heap.size + 3 → (W3.putObj (w.heap.size + 3) (.loop { r0 with state := .exhausted })).heap[k]? = W3.heap[k]? := fun k hk => World.putObj_heap_other hk
    have c0 : Boxed (W3.putObj (w.heap.size + 3) (.loop { r0 with state := .exhausted })) w.heap.size 65 v' := (P3 _ (by omega)).trans q.b0
    have hd : (W3.putObj (w.heap.size + 3) (.loop { r0 with state := .exhausted })).heap[w.heap.size + 2]? = some (.deferred (some [])) := (P3 _ (by omega)).trans q.d
    have RW : Hid (ChR (w.heap.size + 4) (W3.putObj (w.heap.size + 3) (.loop { r0 with state := .exhausted })) v' (cs.reverse.map DC.turn)) := q.row.far (fun k hk hk2 => P3 k (by omega))
    have BL : Hid (Below w.heap.size w (W3.putObj (w.heap.size + 3) (.loop { r0 with state := .exhausted }))) := ⟨gP.os.trans q.bw.os, gP.tape.trans q.bw.tape, gP.output.trans q.bw.output, Nat.le_trans q.bw.size gP.size, fun k hk => (P3 k (by omega)).trans (q.bw.block k hk)⟩
    have hs3 : w.heap.size + 4 ≤ (W3.putObj (w.heap.size + 3) (.loop { r0 with state := .exhausted })).heap.size := Nat.le_trans q.sz gP.size
    have cL := c0.cell
    generalize W3.putObj (w.heap.size + 3) (.loop { r0 with state := .exhausted }) = W4 at cL hd RW BL hs3
    rw [hs2]
    clear b0 b1 hbw BW
    have FIN : Hid (W4.heap[w.heap.size + 2]? = some (.deferred (some [])) ∧ ChR w.heap.size (W4.putObj (w.heap.size + 2) (.deferred none)) v' (cs.reverse.map DC.turn) ∧ Below w.heap.size w (W4.putObj (w.heap.size + 2) (.deferred none))) := by
      have gD := grownBy_putObj' W4 (w.heap.size + 2) (.deferred none)
      have PD : ∀ k, k ≠ w.heap.size + 2 → (W4.putObj (w.heap.size + 2) (.deferred none)).heap[k]? = W4.heap[k]? := fun k hk => World.putObj_heap_other hk
      refine ⟨hd, own_base (RW.out.far (fun k hk _ => PD k (by omega))) (by omega), gD.os.trans BL.out.os, gD.tape.trans BL.out.tape, gD.output.trans BL.out.output, Nat.le_trans BL.out.size gD.size, fun k hk => (PD k (by omega)).trans (BL.out.block k hk)⟩
    clear hd
    gi_wp2
    obtain ⟨fd, frow, fbw⟩ := FIN.out
    refine ⟨by simp, .inl ⟨_, _, rfl, run_takeDeferred fd, ?_⟩⟩
    refine ⟨v', ?_, v', rfl, by rw [← List.map_reverse]; exact frow, fbw⟩
    simp [results, Tryz.f38, go_sem]
end Go.Proofs.YtpdcjnkgkpbdgaaGreatDoor

/- The library's own contracts of some functions more, laid at this program. -/
namespace Go.Proofs
open Go.Shelf
def Tryz.lays190_ren : Go.Shelf.Ren := ⟨fun | 190 => 122 | 125 => 168 | 258 => 167 | 128 => 202 | 129 => 203 | 302 => 193 | 303 => 194 | 304 => 195 | 305 => 196 | 306 => 197 | 307 => 198 | 308 => 199 | 309 => 200 | 310 => 201 | 333 => 221 | 329 => 222 | 330 => 223 | 334 => 224 | 335 => 225 | 336 => 226 | 344 => 249 | n => n, fun | 31 => 45 | 9 => 9 | 3 => 3 | 46 => 194 | 0 => 0 | 51 => 222 | 53 => 203 | 4 => 4 | 183 => 216 | 182 => 215 | 131 => 144 | 5 => 5 | 218 => 251 | 222 => 133 | 228 => 272 | 229 => 273 | n => n, fun | n => n⟩
theorem Tryz.lays190 : Go.Proofs.Lays.n190 Tryz.prog Tryz.lays190_ren := {
  mixed := by kernel_rfl
  f125 := Tryz.func168.trans (congrArg some (by kernel_rfl))
  f128 := Tryz.func202.trans (congrArg some (by kernel_rfl))
  f129 := Tryz.func203.trans (congrArg some (by kernel_rfl))
  f190 := Tryz.func122.trans (congrArg some (by kernel_rfl))
  f258 := Tryz.func167.trans (congrArg some (by kernel_rfl))
  f302 := Tryz.func193.trans (congrArg some (by kernel_rfl))
  f303 := Tryz.func194.trans (congrArg some (by kernel_rfl))
  f304 := Tryz.func195.trans (congrArg some (by kernel_rfl))
  f305 := Tryz.func196.trans (congrArg some (by kernel_rfl))
  f306 := Tryz.func197.trans (congrArg some (by kernel_rfl))
  f307 := Tryz.func198.trans (congrArg some (by kernel_rfl))
  f308 := Tryz.func199.trans (congrArg some (by kernel_rfl))
  f309 := Tryz.func200.trans (congrArg some (by kernel_rfl))
  f310 := Tryz.func201.trans (congrArg some (by kernel_rfl))
  f329 := Tryz.func222.trans (congrArg some (by kernel_rfl))
  f330 := Tryz.func223.trans (congrArg some (by kernel_rfl))
  f333 := Tryz.func221.trans (congrArg some (by kernel_rfl))
  f334 := Tryz.func224.trans (congrArg some (by kernel_rfl))
  f335 := Tryz.func225.trans (congrArg some (by kernel_rfl))
  f336 := Tryz.func226.trans (congrArg some (by kernel_rfl))
  f344 := Tryz.func249.trans (congrArg some (by kernel_rfl))
  t0 := Tryz.underlying0
  a0 := Tryz.isAgg0
  z0 := Tryz.sizeOf0
  v0 := Tryz.zeroValue0
  t3 := Tryz.underlying3
  a3 := Tryz.isAgg3
  z3 := Tryz.sizeOf3
  v3 := Tryz.zeroValue3
  t4 := Tryz.underlying4
  a4 := Tryz.isAgg4
  z4 := Tryz.sizeOf4
  v4 := Tryz.zeroValue4
  t5 := Tryz.underlying5
  a5 := Tryz.isAgg5
  z5 := Tryz.sizeOf5
  v5 := Tryz.zeroValue5
  t9 := Tryz.underlying9
  a9 := Tryz.isAgg9
  z9 := Tryz.sizeOf9
  v9 := Tryz.zeroValue9
  t31 := Tryz.underlying45
  a31 := Tryz.isAgg45
  z31 := Tryz.sizeOf45
  v31 := Tryz.zeroValue45
  t46 := Tryz.underlying194
  a46 := Tryz.isAgg194
  z46 := Tryz.sizeOf194
  v46 := Tryz.zeroValue194
  t51 := Tryz.underlying222
  a51 := Tryz.isAgg222
  z51 := Tryz.sizeOf222
  v51 := Tryz.zeroValue222
  t53 := Tryz.underlying203
  a53 := Tryz.isAgg203
  z53 := Tryz.sizeOf203
  v53 := Tryz.zeroValue203
  t131 := Tryz.underlying144
  a131 := Tryz.isAgg144
  z131 := Tryz.sizeOf144
  v131 := Tryz.zeroValue144
  t182 := Tryz.underlying215
  a182 := Tryz.isAgg215
  z182 := Tryz.sizeOf215
  v182 := Tryz.zeroValue215
  t183 := Tryz.underlying216
  a183 := Tryz.isAgg216
  z183 := Tryz.sizeOf216
  v183 := Tryz.zeroValue216
  t218 := Tryz.underlying251
  a218 := Tryz.isAgg251
  z218 := Tryz.sizeOf251
  v218 := Tryz.zeroValue251
  t222 := Tryz.underlying133
  a222 := Tryz.isAgg133
  z222 := Tryz.sizeOf133
  v222 := Tryz.zeroValue133
  t228 := Tryz.underlying272
  a228 := Tryz.isAgg272
  z228 := Tryz.sizeOf272
  v228 := Tryz.zeroValue272
  t229 := Tryz.underlying273
  a229 := Tryz.isAgg273
  z229 := Tryz.sizeOf273
  v229 := Tryz.zeroValue273 }
open Go.Sort Go.RowKit in
theorem Tryz.slices_Sort_string (blk off cap : Nat) (ss : List (List UInt8)) (w : World) (hH : Holds encStr w blk off ss.toArray) (hblk : blk < w.heap.size) (hsz : ss.length < 4611686018427387904) :
    Calls Tryz.prog 122 #[.slice (some ⟨blk, off, none⟩) ss.length cap] w fun e w' =>
      e = .returned (.tuple #[]) ∧ ∃ n os, w' = grow (putRow encStr (Sort.ahead w n) blk off (ss.mergeSort fun x y => decide (x ≤ y)).toArray) os := Any.slices_Sort_string Tryz.lays190 blk off cap ss w hH hblk hsz
open Go.RowKit Go.Sort in
theorem Tryz.slices_Sort_string_none (p : Option Addr) (cap : Nat) (w : World) :
    Calls Tryz.prog 122 #[.slice p 0 cap] w fun e w' => e = .returned (.tuple #[]) ∧ w' = w := Any.slices_Sort_string_none Tryz.lays190 p cap w
def Tryz.lays194_ren : Go.Shelf.Ren := ⟨fun | 194 => 125 | n => n, fun | 31 => 45 | 9 => 9 | 3 => 3 | 4 => 4 | 0 => 0 | n => n, fun | n => n⟩
theorem Tryz.lays194 : Go.Proofs.Lays.n194 Tryz.prog Tryz.lays194_ren := {
  mixed := by kernel_rfl
  f194 := Tryz.func125.trans (congrArg some (by kernel_rfl))
  t0 := Tryz.underlying0
  a0 := Tryz.isAgg0
  z0 := Tryz.sizeOf0
  v0 := Tryz.zeroValue0
  t3 := Tryz.underlying3
  a3 := Tryz.isAgg3
  z3 := Tryz.sizeOf3
  v3 := Tryz.zeroValue3
  t4 := Tryz.underlying4
  a4 := Tryz.isAgg4
  z4 := Tryz.sizeOf4
  v4 := Tryz.zeroValue4
  t9 := Tryz.underlying9
  a9 := Tryz.isAgg9
  z9 := Tryz.sizeOf9
  v9 := Tryz.zeroValue9
  t31 := Tryz.underlying45
  a31 := Tryz.isAgg45
  z31 := Tryz.sizeOf45
  v31 := Tryz.zeroValue45 }
open Go.RowKit Go.Lib Go.Sort in
theorem Tryz.slices_Compact_string (blk off cap : Nat) (zs : List (List UInt8)) (w : World) (hH : Holds encStr w blk off zs.toArray) (hsz : zs.length ≤ 9223372036854775807) (hcap : zs.length ≤ cap) :
    Calls Tryz.prog 125 #[.slice (some ⟨blk, off, none⟩) zs.length cap] w fun e w' => e = .returned (.slice (some ⟨blk, off, none⟩) (Lib.compact zs).length cap) ∧ ∃ q, w' = putRow encStr (Sort.ahead w q) blk off (Lib.compact zs ++ List.replicate (zs.length - (Lib.compact zs).length) []).toArray := Any.slices_Compact_string Tryz.lays194 blk off cap zs w hH hsz hcap
open Go.RowKit Go.Lib Go.Sort in
theorem Tryz.slices_Compact_string_empty (a : Option Addr) (cap : Nat) (w : World) :
    Calls Tryz.prog 125 #[.slice a 0 cap] w fun e w' => e = .returned (.slice a 0 cap) ∧ w' = w := Any.slices_Compact_string_empty Tryz.lays194 a cap w
end Go.Proofs

/- Rows of texts that a call owns: sorted, and what is twice dropped; slices.Grow and slices.Concat; package diff's idsOf. -/
namespace Go.Proofs.YtpdcjnkgkpbdgaaGreatDoor
open Go Go.RowKit Go.Sort Cal
attribute [local go_sem] Oper.semAt_some

/-- a row of texts that a call owns -/
def OwS (base : Nat) (W : World) (v : Value) (ss : List (List UInt8)) : Prop := W.ownsRow base 9 1 v ss.length (ss.map encStr)
theorem OwS.nil (base : Nat) (W : World) : OwS base W (.slice none 0 0) [] := World.ownsRow_nil _ _ _ _
theorem OwS.far {base : Nat} {W W' : World} {v : Value} {ss : List (List UInt8)} (h : OwS base W v ss) (hk : ∀ k, base ≤ k → k < W.heap.size → W'.heap[k]? = W.heap[k]?) : OwS base W' v ss := by
  refine ⟨h.1, ?_⟩
  rcases h.2 with h2 | ⟨g, cap, cur, hv, hb, hg, r⟩
  · exact .inl h2
  · exact .inr ⟨g, cap, cur, hv, hb, (hk g hb (Array.getElem?_eq_some_iff.1 hg).1).trans hg, r⟩
theorem sort_ows (base : Nat) (v : Value) (zs : List (List UInt8)) (w : World) (h : OwS base w v zs) (hl : zs.length ≤ 80000) :
    Calls Tryz.prog 122 #[v] w fun r w' => r = .returned (.tuple #[]) ∧ OwS base w' v (zs.mergeSort fun x y => decide (x ≤ y)) ∧ w.grownBy w' v.ownBlock := by
  rcases h.2 with ⟨rfl, h0⟩ | ⟨g, cap, cur, rfl, hb, hg, hcap, hmax, hsz, htake⟩
  · have hz : zs = [] := List.length_eq_zero_iff.1 h0
    subst hz
    refine (Tryz.slices_Sort_string_none none 0 w).mono ?_
    rintro r w' ⟨rfl, rfl⟩
    exact ⟨rfl, (by rw [show ([] : List (List UInt8)).mergeSort (fun x y => decide (x ≤ y)) = [] from List.mergeSort_nil]; exact OwS.nil _ _), grown_below (Below.refl _ _) _⟩
  · have hH : Go.Sort.Holds encStr w g 0 zs.toArray := holds_of_block hg (by simpa using htake)
    refine (Tryz.slices_Sort_string g 0 cap zs w hH (Array.getElem?_eq_some_iff.1 hg).1 (by omega)).mono ?_
    rintro r w' ⟨rfl, n, os, rfl⟩
    refine ⟨rfl, ?_, grownBy_sorted _⟩
    show World.ownsRow _ _ _ _ _ _ _
    rw [List.length_mergeSort]
    exact ownsRow_sorted (List.length_mergeSort _) hb hg hcap hmax hsz
theorem compact_lenS (zs : List (List UInt8)) : (Lib.compact zs).length ≤ zs.length := by
  unfold Lib.compact Lib.compactUpTo
  rw [List.length_map]
  exact Nat.le_trans (List.length_filter_le _ _) (by simp)
theorem compact_ows (base : Nat) (v : Value) (zs : List (List UInt8)) (w : World) (h : OwS base w v zs) (hl : zs.length ≤ 80000) :
    Calls Tryz.prog 125 #[v] w fun r w' => ∃ v', r = .returned v' ∧ OwS base w' v' (Lib.compact zs) ∧ w.grownBy w' v.ownBlock := by
  rcases h.2 with ⟨rfl, h0⟩ | ⟨g, cap, cur, rfl, hb, hg, hcap, hmax, hsz, htake⟩
  · have hz : zs = [] := List.length_eq_zero_iff.1 h0
    subst hz
    refine (Tryz.slices_Compact_string_empty none 0 w).mono ?_
    rintro r w' ⟨rfl, rfl⟩
    exact ⟨_, rfl, OwS.nil _ _, grown_below (Below.refl _ _) _⟩
  · have hH : Go.Sort.Holds encStr w g 0 zs.toArray := holds_of_block hg (by simpa using htake)
    refine (Tryz.slices_Compact_string g 0 cap zs w hH (by omega) hcap).mono ?_
    rintro r w' ⟨rfl, q, rfl⟩
    have hle := compact_lenS zs
    have e0 : putRow encStr (Sort.ahead w q) g 0 (Lib.compact zs ++ List.replicate (zs.length - (Lib.compact zs).length) []).toArray = grow (putRow encStr (Sort.ahead w q) g 0 (Lib.compact zs ++ List.replicate (zs.length - (Lib.compact zs).length) []).toArray) #[] := (grow_empty _).symm
    rw [e0]
    refine ⟨_, rfl, ?_, grownBy_sorted _⟩
    have hlen : (Lib.compact zs ++ List.replicate (zs.length - (Lib.compact zs).length) ([] : List UInt8)).length = zs.length := by simp; omega
    refine ⟨by simp, .inr ⟨g, cap, _, rfl, hb, heap_sorted _ hg, by omega, hmax, by simp [putCells, hsz], ?_⟩⟩
    have ht := take_putCells cur (Lib.compact zs ++ List.replicate (zs.length - (Lib.compact zs).length) []) (by rw [hlen]; omega)
    rw [hlen] at ht
    have h2 := congrArg (List.take (Lib.compact zs).length) ht
    rw [List.take_take, Nat.min_eq_left hle, List.map_append, List.take_append_of_le_length (by simp), List.take_of_length_le (l := List.map encStr (Lib.compact zs)) (by simp)] at h2
    rw [Nat.mul_one]
    exact h2

open Go.Lib in
theorem compactUpTo_factsS (zs : List (List UInt8)) (hs : zs.Pairwise (· ≤ ·)) : ∀ m, m ≤ zs.length → (compactUpTo zs.toArray m).Pairwise (· < ·) ∧ (∀ x, x ∈ compactUpTo zs.toArray m ↔ ∃ (j : Nat) (h : j < zs.length), j < m ∧ zs[j] = x)
  | 0, _ => ⟨List.Pairwise.nil, fun x => ⟨fun h => absurd h (by simp [compactUpTo]), fun ⟨_, _, h, _⟩ => by omega⟩⟩
  | m + 1, hm => by
    obtain ⟨ih1, ih2⟩ := compactUpTo_factsS zs hs m (by omega)
    have hlt : m < zs.length := by omega
    have em : zs.toArray[m]! = zs[m] := by simp [hlt]
    rw [compactUpTo_succ]
    by_cases hk : keeps zs.toArray m = true
    · rw [if_pos hk, em]
      refine ⟨List.pairwise_append.2 ⟨ih1, List.pairwise_singleton _ _, fun x hx y hy => ?_⟩, fun x => ?_⟩
      · rw [List.mem_singleton] at hy
        subst hy
        obtain ⟨j, hj, hjm, rfl⟩ := (ih2 x).1 hx
        unfold keeps at hk
        rw [decide_eq_true_iff] at hk
        have hm0 : m ≠ 0 := by omega
        have e1 : zs.toArray[m - 1]! = zs[m - 1] := by simp [show m - 1 < zs.length by omega]
        have hne : zs[m] ≠ zs[m - 1] := by
          rcases hk with q | q
          · exact absurd q hm0
          · rwa [em, e1] at q
        have p1 : zs[m - 1] ≤ zs[m] := List.pairwise_iff_getElem.1 hs (m - 1) m (by omega) hlt (by omega)
        have p2 : zs[j] ≤ zs[m - 1] := by
          rcases Nat.lt_or_ge j (m - 1) with q | q
          · exact List.pairwise_iff_getElem.1 hs j (m - 1) hj (by omega) q
          · have : j = m - 1 := by omega
            subst this; exact List.le_refl _
        exact List.lt_of_le_of_lt p2 (Std.lt_of_le_of_ne p1 (fun z => hne z.symm))
      · rw [List.mem_append, List.mem_singleton, ih2]
        constructor
        · rintro (⟨j, hj, h1, h2⟩ | rfl)
          · exact ⟨j, hj, by omega, h2⟩
          · exact ⟨m, hlt, by omega, rfl⟩
        · rintro ⟨j, hj, h1, h2⟩
          rcases Nat.lt_or_ge j m with q | q
          · exact .inl ⟨j, hj, q, h2⟩
          · have : j = m := by omega
            subst this; exact .inr h2.symm
    · rw [if_neg hk, List.append_nil]
      refine ⟨ih1, fun x => ?_⟩
      rw [ih2]
      constructor
      · rintro ⟨j, hj, h1, h2⟩; exact ⟨j, hj, by omega, h2⟩
      · rintro ⟨j, hj, h1, h2⟩
        rcases Nat.lt_or_ge j m with q | q
        · exact ⟨j, hj, q, h2⟩
        · have : j = m := by omega
          subst this
          unfold keeps at hk
          rw [decide_eq_true_iff] at hk
          have hm0 : j ≠ 0 := fun q => hk (.inl q)
          have e1 : zs.toArray[j - 1]! = zs[j - 1] := by simp [show j - 1 < zs.length by omega]
          have he : zs[j] = zs[j - 1] := Classical.byContradiction (fun q => hk (.inr (by rw [em, e1]; exact q)))
          exact ⟨j - 1, by omega, by omega, by rw [← he]; exact h2⟩


/-- texts that were sorted, what is twice dropped: they rise, and all are there -/
theorem compact_sortS (l : List (List UInt8)) : (Go.Lib.compact (l.mergeSort fun x y => decide (x ≤ y))).Pairwise (· < ·) ∧ ∀ x, x ∈ Go.Lib.compact (l.mergeSort fun x y => decide (x ≤ y)) ↔ x ∈ l := by
  have hs : (l.mergeSort fun x y => decide (x ≤ y)).Pairwise (· ≤ ·) := by
    have := List.pairwise_mergeSort (le := fun (x y : List UInt8) => decide (x ≤ y)) (fun a b c h1 h2 => decide_eq_true (List.le_trans (of_decide_eq_true h1) (of_decide_eq_true h2))) (fun a b => by
      rcases List.le_total a b with q | q
      · rw [decide_eq_true q]; rfl
      · rw [decide_eq_true q, Bool.or_true]) l
    exact this.imp (fun h => of_decide_eq_true h)
  obtain ⟨h1, h2⟩ := compactUpTo_factsS _ hs _ (Nat.le_refl _)
  refine ⟨h1, fun x => ?_⟩
  refine (h2 x).trans ?_
  rw [← List.mem_mergeSort (l := l) (le := fun x y => decide (x ≤ y)), List.mem_iff_getElem]
  constructor
  · rintro ⟨j, hj, _, e⟩; exact ⟨j, hj, e⟩
  · rintro ⟨j, hj, e⟩; exact ⟨j, hj, hj, e⟩

/-! ### slices.Grow of a nil slice -/
theorem growS_zero (w : World) : Calls Tryz.prog 169 #[.slice none 0 0, .int .i64 0] w fun r w' => r = .returned (.slice none 0 0) ∧ w' = w := by
  go_enter Tryz.func169, Tryz.ntmps169
  go_wp2
  go_ret
  exact ⟨rfl, rfl⟩

set_option maxHeartbeats 1000000 in
theorem growS_pos (n : Nat) (w : World) (h1 : 1 ≤ n) (h2 : n ≤ 100000) : Calls Tryz.prog 169 #[.slice none 0 0, .int .i64 n] w fun r w' => ∃ g cap, r = .returned (.slice (some ⟨g, 0, none⟩) 0 cap) ∧ OwS w.heap.size w' (.slice (some ⟨g, 0, none⟩) 0 cap) [] ∧ Below w.heap.size w w' := by
  obtain ⟨i0, hi, hz0, hz1, hz2⟩ := info_parts info_str
  have hold : (Builtin.firstCells i0.size 0 (.slice none 0 0)).run Tryz.prog w.drew = .ok ([] : List Value).toArray w.drew := run_firstCells_none w.drew i0.size 0 0 0
  have hrz : ∀ ty, (Builtin.append_ #[45, 3] ty #[.slice none 0 0, .int .i64 (n : Int)]).run Tryz.prog w =
      .ok (.slice (some ⟨w.heap.size, 0, none⟩) n (grownCap w n 0 9)) (w.drew.alloc (.cells (([] : List Value).toArray ++ Builtin.zeroCells (Value.string ⟨#[]⟩).cells n ++ Builtin.zeroCells (Value.string ⟨#[]⟩).cells (grownCap w n 0 9 - n)) 9)) := fun ty => by
    have h := Lib.run_append_grow_zeros w 45 3 ty 9 i0 (.string ⟨#[]⟩) .i64 .i64 Tryz.underlying45 Tryz.underlying3 hi hz0 none 0 0 [] hold n (by omega) (by rw [hz1]; decide) (by omega) (by omega) (by rw [hz2]; omega) (by rw [Nat.zero_add]; exact growslice_fits (by omega) (by rw [hz2]; omega))
    rw [Nat.zero_add] at h
    exact h
  have hG := grownCap_ge w n 0 9
  have hGm := grownCap_le_maxLen w n 0 9 (by unfold maxLen; omega)
  have hGi : (grownCap w n 0 9 : Int) ≤ 9223372036854775807 := by unfold maxLen at hGm; omega
  generalize grownCap w n 0 9 = G at hrz hG hGm hGi
  have HW : Hid (OwS w.heap.size (w.drew.alloc (.cells (([] : List Value).toArray ++ Builtin.zeroCells (Value.string ⟨#[]⟩).cells n ++ Builtin.zeroCells (Value.string ⟨#[]⟩).cells (G - n)) 9)) (.slice (some ⟨w.heap.size, 0, none⟩) 0 G) [] ∧ Below w.heap.size w (w.drew.alloc (.cells (([] : List Value).toArray ++ Builtin.zeroCells (Value.string ⟨#[]⟩).cells n ++ Builtin.zeroCells (Value.string ⟨#[]⟩).cells (G - n)) 9))) := by
    refine ⟨⟨rfl, .inr ⟨w.heap.size, G, _, rfl, Nat.le_refl _, block_at (W := w.drew) _ rfl, by simp, hGm, ?_, by simp⟩⟩, below_then (drew_below _) (below_alloc _ _)⟩
    simp [size_zeroCells, Value.cells]
    omega
  clear hold hi hz0 hz1 hz2 hGm
  generalize w.drew.alloc (.cells (([] : List Value).toArray ++ Builtin.zeroCells (Value.string ⟨#[]⟩).cells n ++ Builtin.zeroCells (Value.string ⟨#[]⟩).cells (G - n)) 9) = W' at hrz HW
  go_enter Tryz.func169, Tryz.ntmps169
  go_wp2_with (at_builtin; refine Lib.wpList_append_run _ rfl _ _ _ _ rfl _ _ rfl rfl _ _ (hrz _) ?_)
  all_goals
    go_ret
    exact ⟨_, _, rfl, HW.out.1, HW.out.2⟩

/-- append of a row of texts to one that is owned -/
theorem app_ows {ops : Array Oper} {rest : List Oper} {o : Oper} {a : Act} {Q : Exit → Act → World → Prop} {w : World} (hgd : o.guard = none) (s x : Operand)
    (ho : o.op = .call { callee := .builtin .append, args := #[s, x], argTypes := #[45, 45] })
    (base b2 : Nat) (xs : List (List UInt8)) (ys : List ByteArray) (v u : Value) (hs : a.eval s = v) (hown : OwS base w v xs) (hx : a.eval x = u) (hg : RowV b2 w u ys) (hl : xs.length + ys.length ≤ 100000) (hbase : base ≤ w.heap.size)
    (h : ∀ v' w', OwS base w' v' (xs ++ ys.map fun y => y.data.toList) → Below base w w' → wpList Tryz.prog ops Q rest (a.put o.dst v') w') : wpList Tryz.prog ops Q (o :: rest) a w := by
  obtain ⟨i0, hi, hz0, hz1, hz2⟩ := info_parts info_str
  rcases hg with ⟨rfl, rfl⟩ | ⟨B, cap, rfl, _, hr⟩
  · refine wpList_append_own_none hgd s x 45 ho base 9 i0 1 Tryz.underlying45 hi v xs.length (xs.map encStr) hs hown hx ?_
    exact h v w (by rw [List.map_nil, List.append_nil]; exact hown) (Below.refl _ _)
  · refine wpList_append_own w hgd s x 45 ho base 9 i0 (.string ⟨#[]⟩) 1 16 Tryz.underlying45 hi hz0 hz1 hz2 rfl (by decide) v xs.length (xs.map encStr) hs hown ⟨B, 0, none⟩ ys.length cap (ys.map Value.string) hx (by simp) ?_ (fun v hv => by obtain ⟨x, _, rfl⟩ := List.mem_map.1 hv; rfl) (by unfold maxLen; omega) (by omega) hbase ?_
    · intro j v hv
      rw [List.getElem?_map] at hv
      obtain ⟨d, hd, rfl⟩ := Option.map_eq_some_iff.1 hv
      obtain ⟨hj, rfl⟩ := List.getElem?_eq_some_iff.1 hd
      have := hr.cell j hj
      cases j with
      | zero => exact this
      | succ j => simpa [Addr.add] using this
    · intro v' w' h1 h2 _
      refine h v' w' ?_ ?_
      · unfold OwS
        rw [List.length_append, List.length_map, List.map_append, List.map_map]
        exact h1
      · exact ⟨h2.os, h2.tape, h2.output, h2.size, fun k hk => h2.block k (by omega) (fun q => by have := (World.ownsRow.lt hown k q.symm).1; omega)⟩

theorem rowV_form {b : Nat} {W : World} {v : Value} {l : List ByteArray} (h : RowV b W v l) : ∃ a c, v = .slice a l.length c := by
  rcases h with ⟨rfl, rfl⟩ | ⟨B, cap, rfl, _⟩
  · exact ⟨_, _, rfl⟩
  · exact ⟨_, _, rfl⟩
theorem rowV_step {b : Nat} {W W' : World} {v : Value} {l : List ByteArray} (h : RowV b W v l) (hb : Below W.heap.size W W') : RowV b W' v l := by
  rcases h with h | ⟨B, cap, h1, h2, h3⟩
  · exact .inl h
  · obtain ⟨⟨cur, q1, q2, q3⟩, q4⟩ := h3
    exact .inr ⟨B, cap, h1, h2, ⟨cur, (hb.block _ (Array.getElem?_eq_some_iff.1 q1).1).trans q1, q2, q3⟩, q4⟩
theorem OwS.form {base : Nat} {W : World} {v : Value} {ss : List (List UInt8)} (h : OwS base W v ss) : ∃ a c, v = .slice a ss.length c := by
  rcases h.2 with ⟨rfl, h0⟩ | ⟨g, cap, cur, rfl, _⟩
  · exact ⟨_, _, by rw [h0]⟩
  · exact ⟨_, _, rfl⟩

set_option maxHeartbeats 2000000 in
set_option maxRecDepth 100000 in
theorem concatS_any (B b1 : Nat) (v1 v2 : Value) (l1 l2 : List ByteArray) (w : World) (h1 : RowV b1 w v1 l1) (h2 : RowV b1 w v2 l2) (hc : w.heap[B]? = some (.cells #[v1, v2] 45 (0, 0))) (hl1 : l1.length ≤ 1000) (hl2 : l2.length ≤ 1000) :
    Calls Tryz.prog 124 #[.slice (some ⟨B, 0, none⟩) 2 2] w fun r w' => ∃ v', r = .returned v' ∧ OwS w.heap.size w' v' ((l1 ++ l2).map fun y => y.data.toList) ∧ Below w.heap.size w w' := by
  have H1 : Hid (RowV b1 w v1 l1) := h1
  have H2 : Hid (RowV b1 w v2 l2) := h2
  obtain ⟨a1, k1, rfl⟩ := rowV_form h1
  obtain ⟨a2, k2, rfl⟩ := rowV_form h2
  have x0 : w.cell? ⟨B, 0, none⟩ = some (.slice a1 l1.length k1) := by simp [World.cell?, hc]
  have x1 : w.cell? ⟨B, 1, none⟩ = some (.slice a2 l2.length k2) := by simp [World.cell?, hc]
  have HL1 : Hid (_) := hl1
  have HL2 : Hid (_) := hl2
  generalize hn1 : l1.length = n1 at hl1 x0 H1 hc
  generalize hn2 : l2.length = n2 at hl2 x1 H2 hc
  have HN1 : Hid (l1.length = n1) := hn1
  have HN2 : Hid (l2.length = n2) := hn2
  have X0 : Hid (∀ W, Below w.heap.size w W → W.cell? ⟨B, 0, none⟩ = some (.slice a1 n1 k1)) := fun W hW => cell_step x0 hW
  have X1 : Hid (∀ W, Below w.heap.size w W → W.cell? ⟨B, 1, none⟩ = some (.slice a2 n2 k2)) := fun W hW => cell_step x1 hW
  have GR : Hid (Calls Tryz.prog 169 #[.slice none 0 0, .int .i64 ((n1 + n2 : Nat) : Int)] w fun r w' => ∃ a c, r = .returned (.slice a 0 c) ∧ OwS w.heap.size w' (.slice a 0 c) [] ∧ Below w.heap.size w w') := by
    by_cases hz : n1 + n2 = 0
    · rw [hz]
      refine Calls.mono (growS_zero w) ?_
      rintro r w' ⟨rfl, rfl⟩
      exact ⟨none, 0, rfl, OwS.nil _ _, Below.refl _ _⟩
    · refine Calls.mono (growS_pos (n1 + n2) w (by omega) (by omega)) ?_
      rintro r w' ⟨g, cap, rfl, ho, hb⟩
      exact ⟨_, _, rfl, ho, hb⟩
  clear h1 h2 hn1 hn2 hc
  go_enter Tryz.func124, Tryz.ntmps124
  go_wp2
  go_loop [3, 5, 11] (fun n _ i => ((i = .int .i64 0 ∧ n = .int .i64 0) ∨ (i = .int .i64 1 ∧ n = .int .i64 n1)) ∨ (i = .int .i64 2 ∧ n = .int .i64 ((n1 + n2 : Nat) : Int))) (fun _ _ i => 2 - (intOf i).toNat)
  case atStart => exact .inl (.inl ⟨rfl, rfl⟩)
  case round =>
    rcases hrel with (⟨rfl, rfl⟩ | ⟨rfl, rfl⟩) | ⟨rfl, rfl⟩
    · go_wp2
      go_round
      case rel => exact .inl (.inr ⟨rfl, by go_num⟩)
      case measure => simp [intOf]
    · go_wp2
      go_round
      case rel => exact .inr ⟨rfl, by go_num⟩
      case measure => simp [intOf]
    · clear x0 x1
      go_wp2_with (go_at_call 169; refine Calls.mono GR.out ?_; rintro r w1 ⟨ga, gc, rfl, ho1, hb1⟩)
      have HO1 : Hid (OwS w.heap.size w1 (.slice ga 0 gc) []) := ho1
      have HB1 : Hid (Below w.heap.size w w1) := hb1
      clear ho1 hb1 GR
      go_loopw [6, 8, 27] (fun v _ i wr => Hid (Below w.heap.size w wr) ∧ (((i = .int .i64 0 ∧ Hid (OwS w.heap.size wr v [])) ∨ (i = .int .i64 1 ∧ Hid (OwS w.heap.size wr v (l1.map fun y => y.data.toList)))) ∨ (i = .int .i64 2 ∧ Hid (OwS w.heap.size wr v ((l1 ++ l2).map fun y => y.data.toList))))) (fun _ _ i _ => 2 - (intOf i).toNat)
      case atStart => exact ⟨HB1.out, .inl (.inl ⟨rfl, HO1.out⟩)⟩
      case round =>
        obtain ⟨HB, hr⟩ := hrel
        have hzw : w.heap.size ≤ wr.heap.size := HB.out.size
        rcases hr with (⟨rfl, HO⟩ | ⟨rfl, HO⟩) | ⟨rfl, HO⟩
        · have x0 := X0.out wr HB.out
          obtain ⟨oa, oc, rfl⟩ := HO.out.form
          have HR1 : Hid (RowV b1 wr (.slice a1 n1 k1) l1) := rowV_step H1.out HB.out
          have hl : ([] : List (List UInt8)).length + l1.length ≤ 100000 := by have := HL1.out; simp; omega
          have HLL : Hid (_) := hl
          clear hl
          go_wp2_with (first
            | (at_builtin; refine app_ows rfl _ _ rfl w.heap.size b1 [] l1 _ _ rfl HO.out rfl HR1.out HLL.out hzw ?_; intro v' w3 ho3 hb3; have HO3 : Hid (OwS w.heap.size w3 v' (l1.map fun y => y.data.toList)) := ho3; have HB3 : Hid (Below w.heap.size w w3) := ⟨hb3.os.trans HB.out.os, hb3.tape.trans HB.out.tape, hb3.output.trans HB.out.output, Nat.le_trans HB.out.size hb3.size, fun k hk => (hb3.block k hk).trans (HB.out.block k hk)⟩; obtain ⟨na, nc, rfl⟩ := HO3.out.form; clear ho3 hb3)
            | go_in)
          go_roundw
          case rel => exact ⟨HB3.out, .inl (.inr ⟨rfl, by have := HO3.out; rw [List.length_map] at this; exact this⟩)⟩
          case measure => simp [intOf]
        · have x1 := X1.out wr HB.out
          obtain ⟨oa, oc, rfl⟩ := HO.out.form
          have HR2 : Hid (RowV b1 wr (.slice a2 n2 k2) l2) := rowV_step H2.out HB.out
          have hl : (l1.map fun y => y.data.toList).length + l2.length ≤ 100000 := by have := HL1.out; have := HL2.out; rw [List.length_map]; omega
          have HLL : Hid (_) := hl
          have hml : (l1.map fun y => y.data.toList).length = n1 := by rw [List.length_map]; exact HN1.out
          have HML : Hid (_) := hml
          clear hl
          generalize hLL : (l1.map fun y => y.data.toList) = L1 at HO HLL hml ⊢
          have HL : Hid (∀ (x : List (List UInt8)), x = L1 ++ l2.map (fun y => y.data.toList) → x = (l1 ++ l2).map fun y => y.data.toList) := fun x e => by rw [e, ← hLL, List.map_append]
          generalize L1.length = ll at HO hml ⊢
          clear hLL hml HML
          go_wp2_with (first
            | (at_builtin; refine app_ows rfl _ _ rfl w.heap.size b1 L1 l2 _ _ rfl HO.out rfl HR2.out HLL.out hzw ?_; intro v' w3 ho3 hb3; have HO3 : Hid (OwS w.heap.size w3 v' ((l1 ++ l2).map fun y => y.data.toList)) := (by rw [← HL.out _ rfl]; exact ho3); have HB3 : Hid (Below w.heap.size w w3) := ⟨hb3.os.trans HB.out.os, hb3.tape.trans HB.out.tape, hb3.output.trans HB.out.output, Nat.le_trans HB.out.size hb3.size, fun k hk => (hb3.block k hk).trans (HB.out.block k hk)⟩; obtain ⟨na, nc, rfl⟩ := HO3.out.form; clear ho3 hb3)
            | go_in)
          go_roundw
          case rel => exact ⟨HB3.out, .inr ⟨rfl, by have := HO3.out; rw [List.length_map, List.length_append] at this; exact this⟩⟩
          case measure => simp [intOf]
        · go_wp2
          go_ret
          exact ⟨_, rfl, HO.out, HB.out⟩

/-- the IDs of two calendars, rising, each once -/
def idsU (X Y : List EV) : List ByteArray := (Go.Lib.compact ((((X.map EV.id) ++ (Y.map EV.id)).map fun y => y.data.toList).mergeSort fun x y => decide (x ≤ y))).map bs
theorem idsU_nodup (X Y : List EV) : (idsU X Y).Nodup := by
  have h := (compact_sortS (((X.map EV.id) ++ (Y.map EV.id)).map fun y => y.data.toList)).1
  unfold idsU
  refine List.pairwise_map.2 (h.imp (fun {a b} q e => ?_))
  rw [bs_inj e] at q
  exact List.lt_irrefl _ q
theorem idsU_mem (X Y : List EV) (id : ByteArray) : id ∈ idsU X Y ↔ (∃ E ∈ X, E.id = id) ∨ ∃ E ∈ Y, E.id = id := by
  have h := (compact_sortS (((X.map EV.id) ++ (Y.map EV.id)).map fun y => y.data.toList)).2
  unfold idsU
  rw [List.mem_map]
  constructor
  · rintro ⟨x, hx, rfl⟩
    obtain ⟨y, hy, rfl⟩ := List.mem_map.1 ((h x).1 hx)
    rcases List.mem_append.1 hy with q | q
    · obtain ⟨E, hE, rfl⟩ := List.mem_map.1 q
      exact .inl ⟨E, hE, rfl⟩
    · obtain ⟨E, hE, rfl⟩ := List.mem_map.1 q
      exact .inr ⟨E, hE, rfl⟩
  · intro q
    have hid : id ∈ X.map EV.id ++ Y.map EV.id := by
      rcases q with ⟨E, hE, rfl⟩ | ⟨E, hE, rfl⟩
      · exact List.mem_append.2 (.inl (List.mem_map_of_mem hE))
      · exact List.mem_append.2 (.inr (List.mem_map_of_mem hE))
    exact ⟨id.data.toList, (h _).2 (List.mem_map_of_mem hid), rfl⟩
theorem idsU_len (X Y : List EV) (hX : X.length ≤ 60) (hY : Y.length ≤ 60) : (idsU X Y).length ≤ 120 := by
  unfold idsU
  rw [List.length_map]
  refine Nat.le_trans (compact_lenS _) ?_
  rw [List.length_mergeSort, List.length_map, List.length_append, List.length_map, List.length_map]
  omega

set_option maxHeartbeats 1000000 in
theorem idsOf_C (la ba na : Nat) (ma : Option Nat) (lb bb nb : Nat) (mb : Option Nat) (X Y : List EV) (w : World) (hX : BookAt la w ba ma na X) (hY : BookAt lb w bb mb nb Y) (hn1 : na ≤ 100000) (hn2 : nb ≤ 100000) (hx : X.length ≤ 60) (hy : Y.length ≤ 60) :
    Calls Tryz.prog 79 #[.pointer (some ⟨ba, 0, none⟩), .pointer (some ⟨bb, 0, none⟩)] w fun r w' => ∃ v, r = .returned v ∧ Txs w' v (idsU X Y) ∧ Below w.heap.size w w' := by
  have I1 : Hid (Calls _ _ _ _ _) := ids_C la ba na ma X w hX hn1
  have I2 : Hid (∀ W, Below w.heap.size w W → Calls Tryz.prog 31 #[.pointer (some ⟨bb, 0, none⟩)] W fun r w' => ∃ v, r = .returned v ∧ RowV W.heap.size w' v (Y.map EV.id) ∧ Below W.heap.size W w') := fun W hW => ids_C lb bb nb mb Y W (hY.step hW) hn2
  have hlx : (X.map EV.id).length ≤ 1000 := by rw [List.length_map]; omega
  have hly : (Y.map EV.id).length ≤ 1000 := by rw [List.length_map]; omega
  have HLX : Hid (_) := hlx
  have HLY : Hid (_) := hly
  have HXY : Hid ((X.map EV.id).length + (Y.map EV.id).length ≤ 80000) := by show _ ≤ _; omega
  have HIU : Hid ((Go.Lib.compact ((((X.map EV.id) ++ (Y.map EV.id)).map fun y => y.data.toList).mergeSort fun x y => decide (x ≤ y))).map bs = idsU X Y) := rfl
  have HUL : Hid ((idsU X Y).length ≤ 120) := idsU_len X Y hx hy
  generalize X.map EV.id = ix at I1 HLX HXY HIU
  generalize Y.map EV.id = iy at I2 HLY HXY HIU
  generalize idsU X Y = iu at HIU HUL ⊢
  clear hX hY hlx hly
  go_enter Tryz.func79, Tryz.ntmps79
  go_wp2_with fail
  go_at_call 31
  refine Calls.mono I1.out ?_
  rintro r w1 ⟨v1, rfl, hr1, hb1⟩
  have HR1 : Hid (RowV w.heap.size w1 v1 ix) := hr1
  have I21 : Hid (Calls _ _ _ _ _) := I2.out w1 hb1
  have HB1 : Hid (Below w.heap.size w w1) := hb1
  clear I1 I2 hr1 hb1
  go_wp2_with fail
  go_at_call 31
  refine Calls.mono I21.out ?_
  rintro r w2 ⟨v2, rfl, hr2, hb2⟩
  have HR2 : Hid (RowV w.heap.size w2 v2 iy) := by
    rcases hr2 with q | ⟨B, cap, q1, q2, q3⟩
    · exact .inl q
    · exact .inr ⟨B, cap, q1, Nat.le_trans HB1.out.size q2, q3⟩
  have HR12 : Hid (RowV w.heap.size w2 v1 ix) := rowV_step HR1.out hb2
  have HB2 : Hid (Below w.heap.size w w2) := below_then HB1.out hb2
  have CC : Hid (Calls _ _ _ _ _) := concatS_any w2.heap.size w.heap.size v1 v2 ix iy (w2.alloc (.cells #[v1, v2] 45)) (rowV_step HR12.out (below_alloc _ _)) (rowV_step HR2.out (below_alloc _ _)) (block_at _ rfl) HLX.out HLY.out
  have HB2a : Hid (Below w.heap.size w (w2.alloc (.cells #[v1, v2] 45))) := below_then HB2.out (below_alloc _ _)
  obtain ⟨a1, k1, rfl⟩ := rowV_form HR12.out
  obtain ⟨a2, k2, rfl⟩ := rowV_form HR2.out
  clear I21 HR1 HR2 HR12 hr2 hb2
  go_wp2_with fail
  go_at_call 124
  refine Calls.mono CC.out ?_
  rintro r w3 ⟨v3, rfl, ho3, hb3⟩
  have hl3 : ((ix ++ iy).map fun y => y.data.toList).length ≤ 80000 := by rw [List.length_map, List.length_append]; exact HXY.out
  have HB3 : Hid (Below w.heap.size w w3) := below_then HB2a.out hb3
  have hz2 : w.heap.size ≤ (w2.alloc (.cells #[.slice a1 ix.length k1, .slice a2 iy.length k2] 45)).heap.size := HB2a.out.size
  have SO : Hid (Calls _ _ _ _ _) := sort_ows _ v3 _ w3 ho3 hl3
  have HOW : Hid (∀ g, v3.ownBlock = some g → w.heap.size ≤ g) := fun g hg => Nat.le_trans hz2 (World.ownsRow.lt ho3 g hg).1
  have hsl : (((ix ++ iy).map fun y => y.data.toList).mergeSort fun x y => decide (x ≤ y)).length ≤ 80000 := by rw [List.length_mergeSort]; exact hl3
  have HSL : Hid (_) := hsl
  obtain ⟨a3, k3, rfl⟩ := ho3.form
  clear ho3 hb3 CC hl3 hsl
  generalize ((ix ++ iy).map fun y => y.data.toList).length = n3 at SO HOW ⊢
  go_wp2_with fail
  go_at_call 122
  refine Calls.mono SO.out ?_
  rintro r w4 ⟨rfl, ho4, hg4⟩
  have HB4 : Hid (Below w.heap.size w w4) := HB3.out.grown hg4 HB3.out.size (fun k q => HOW.out k q)
  have CO : Hid (Calls _ _ _ _ _) := compact_ows _ _ _ w4 ho4 HSL.out
  clear SO ho4 hg4
  go_wp2_with (go_at_call 125; refine Calls.mono CO.out ?_; rintro r w5 ⟨v5, rfl, ho5, hg5⟩)
  have HB5 : Hid (Below w.heap.size w w5) := HB4.out.grown hg5 HB4.out.size (fun k q => HOW.out k q)
  have HT : Hid (Txs w5 v5 iu) := by
    have h := rowV_own ho5
    rw [HIU.out] at h
    exact h.txs (by have := HUL.out; omega)
  clear ho5 hg5
  go_ret
  exact ⟨v5, rfl, HT.out, HB5.out⟩
end Go.Proofs.YtpdcjnkgkpbdgaaGreatDoor
