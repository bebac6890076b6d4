/- Package diff's Back: slices.Backward's iterator, and the changes turned round. -/
import Derived.Test.YtjhlbkjcchejjaaGreatDoorYaW
import Derived.Test.YtjhlbkjcchejjaaGreatDoorYaX
import Derived.Test.YtjhlbkjcchejjaaGreatDoorYaA
import Derived.Test.YtjhlbkjcchejjaaGreatDoorYaL
import Derived.Shelf.Abstract
import Derived.Shelf.RegionOpen
import Derived.WalkKit
import Derived.OwnWalkIn
import Derived.TacticsInMore
import Derived.LoopNIn
import Derived.LoopIn
import Derived.Shelf.Strings.Builder1
import Derived.Shelf.Strings.Builder2
import Derived.Shelf.Strings.OnBuilder
import Derived.Shelf.Small.Bits
import Derived.Shelf.Strings.BuilderF
import Derived.Shelf.Strings.BuilderK
import Derived.Shelf.Utf8.RuneCount
import Derived.Shelf.Strconv.Atoi
import Derived.Shelf.Strconv.Itoa0
import Derived.Shelf.Strconv.Itoa1
import Derived.Shelf.LaysM
import Derived.Shelf.Strconv.Itoa2
import Derived.Shelf.Strconv.Itoa3
import Derived.Shelf.Strconv.AtoiErrFast
import Derived.Shelf.Strconv.ParseIntEmpty
import Derived.Shelf.Strconv.AtoiFail
import Derived.Shelf.Strconv.Clone
import Derived.Shelf.Strconv.SyntaxError
import Derived.Shelf.LaysC
import Derived.Shelf.Strconv.ToError
import Derived.Shelf.Strconv.AtoiErr
import Derived.Shelf.Strconv.Lower
import Derived.Shelf.Strconv.ParseUint10
import Derived.Shelf.Strconv.ParseUint10Empty
import Derived.Shelf.Strconv.ParseUint10Any
import Derived.Shelf.Strconv.ParseInt10
import Derived.Shelf.Strconv.AtoiLong
import Derived.Shelf.Strconv.AtoiInnerAll
import Derived.Shelf.Strconv.RangeError
import Derived.Shelf.Strconv.ToErrorRange
import Derived.Shelf.Strconv.AtoiAll
import Derived.Shelf.Strings.Search1
import Derived.Shelf.Strings.Search2
import Derived.Shelf.Strings.Search3
import Derived.Shelf.Strings.Cut
import Derived.Shelf.Strings.Count
import Derived.Shelf.Strings.Shaped
import Derived.Shelf.Sort.Plain
import Derived.Shelf.Strings.Split
import Derived.Shelf.Strings.SplitShaped
import Derived.Shelf.Unicode.Decode
import Derived.Shelf.Strings.RuneCount
import Derived.Shelf.Strings.Explode
import Derived.Shelf.Unicode.DecodeSlow
import Derived.Shelf.Unicode.DecodeAny
import Derived.Shelf.Slices.Turned
import Derived.Ground.Names2Prog
import Derived.Shelf.Slices.Clone
import Derived.Shelf.Slices.CompactS
import Derived.Shelf.Slices.Cells
import Derived.Shelf.Slices.In.SortNone
import Derived.Ground.SlgnProg
import Derived.Shelf.SlicesE.Clone
import Derived.Test.YtjhlbkjcchejjaaGreatDoorProg
namespace Go.Proofs.YtjhlbkjcchejjaaGreatDoor
open Go Go.RowKit Go.Shelf Cal
attribute [local go_sem] Oper.semAt_some

theorem backward_any (a : Option Addr) (m c : Nat) (w : World) : Calls Tryz.prog 51 #[.slice a m c] w fun r w' => r = .returned (.func (.func 96) #[] #[.pointer (some ⟨w.heap.size, 0, none⟩)]) ∧ w' = w.alloc (.cells #[.slice a m c] 49) := by
  go_enter Tryz.func51, Tryz.ntmps51
  go_wp2
  go_ret
  exact ⟨rfl, rfl⟩

set_option maxHeartbeats 1000000 in
theorem backward_iter (n l Bs base : Nat) (a : Option Addr) (cap : Nat) (cs : List DC) (J : Nat → World → Prop) (hn : 6 ≤ n) (hl : cs.length ≤ 5000)
    (hB : ∀ r W, J r W → W.cell? ⟨Bs, 0, none⟩ = some (.slice a cs.length cap) ∧ ChR base W (.slice a cs.length cap) cs)
    (hY : ∀ (r : Nat) (hr : r < cs.length) (W : World), J (r + 1) W → YieldAt Fence.wide (n - 1) Tryz.prog l #[.int .i64 r, cs[r].v] W fun e W' => e = .returned (.bool true) ∧ J r W')
    (W : World) (h0 : J cs.length W) :
    CallsIn Fence.wide n Tryz.prog 96 #[.func (.yield l) #[] #[], .pointer (some ⟨Bs, 0, none⟩)] W fun e W' => (∃ v, e = .returned v) ∧ J 0 W' := by
  have h1 : 1 ≤ n := by omega
  have c1 := (hB _ _ h0).1
  have hli : (cs.length : Int) ≤ 5000 := by omega
  have HB : Hid (_) := hB
  have HY : Hid (_) := hY
  have H0 : Hid (J cs.length W) := h0
  clear hB hY h0
  refine callsIn_of_wp Tryz.func96 rfl trivial ?_ rfl
  simp only [Tryz.ntmps96, List.size_toArray, List.length_cons, List.length_nil, Nat.reduceAdd, Nat.reduceSub, Array.replicate_succ, Array.replicate_zero, List.push_toArray, List.append_toArray, List.nil_append, List.cons_append]
  gi_wp2
  clear c1
  gi_loopw [3] (fun i wr => ∃ r : Nat, r ≤ cs.length ∧ i = .int .i64 ((r : Int) - 1) ∧ Hid (J r wr)) (fun i _ => (intOf i + 1).toNat)
  case atStart => exact ⟨cs.length, Nat.le_refl _, rfl, H0.out⟩
  case round =>
    obtain ⟨r, hr, rfl, HJ⟩ := hrel
    obtain ⟨c1, hR⟩ := HB.out r wr HJ.out
    cases r with
    | zero =>
      clear hR HB HY H0
      gi_wp2
      go_end0
      exact ⟨⟨_, rfl⟩, HJ.out⟩
    | succ r =>
      obtain ⟨a', cap', ea, _, hc⟩ := hR.form
      cases ea
      obtain ⟨b, rfl, hb, q0, q1, q2, q3⟩ := hc r (by omega)
      have hYr := HY.out r (by omega) wr HJ.out
      have er : ((r + 1 : Nat) : Int) - 1 = (r : Int) := by omega
      rw [er]
      unfold DC.v chV at hYr
      generalize cs[r] = c at q0 q1 q2 q3 hYr
      generalize c.id = ci at q0 hYr
      generalize fieldB c.k = cf at q1 hYr
      generalize bs (oT c.k c.a) = co at q2 hYr
      generalize bs (oT c.k c.b) = cn at q3 hYr
      have hr0 : (r : Int) < (cs.length : Int) := by omega
      have hr1 : (0 : Int) ≤ (r : Int) := by omega
      obtain ⟨fn, tmps, assign, body, hy, hRR⟩ := hYr
      clear hc hR HB HY H0 er
      gi_wp2
      refine hRR.mono ?_
      rintro e W3 ⟨rfl, hJ3⟩
      have HJ3 : Hid (J r W3) := hJ3
      clear hJ3
      gi_wp2
      go_roundw
      case rel => exact ⟨r, by omega, by go_num, HJ3.out⟩
      case measure => simp [intOf]

theorem info_change : (Tryz.prog.info? 82).map (fun i => (i.zero, i.size, i.bytes)) = some (some (.agg #[.string ⟨#[]⟩, .string ⟨#[]⟩, .string ⟨#[]⟩, .string ⟨#[]⟩]), 4, 64) := by kernel_rfl

/-- a round whose assignment makes a block -/
theorem yieldAt_mk {P : Program} {n l : Nat} {r : Loop} {x : Array Value} {W W1 : World} {R : Ending → World → Prop} {tmps : Array Value} {ps : Array Tmp} {assign body : Code} (hR : IsRec r tmps ps assign body) (a₁ : Act)
    (hl : W.heap[l]? = some (.loop r)) (hl1 : W1.heap[l]? = some (.loop r)) (hs : x.size = ps.size)
    (hassign : ∀ K : Act → World → Prop, K a₁ W1 → assign.wpIn (Fence.wide.inRound l) n P (Exit.then K (fun _ _ _ => False)) { tmps := (ps.zip x).foldl (fun t (p, v) => t.setIfInBounds p v) tmps, defers := [] } W)
    (hbody : body.wpIn (Fence.wide.inRound l) n P (rnd l r R) a₁ (W1.putObj l (.loop { r with state := .busy }))) :
    YieldAt Fence.wide n P l x W R := by
  obtain ⟨hr, _, rfl, rfl, rfl, rfl⟩ := hR
  refine ⟨r.fn, _, r.assign, r.body, run_yield hl hs, roundIn_of_wpIn trivial (hassign _ ⟨_, run_beginRound hl1 hr, wpIn_mono hbody ?_⟩)⟩
  intro e a W3 h
  cases e with
  | normal => exact ⟨_, _, run_endRound none h.1, h.2⟩
  | ret => exact ⟨_, _, run_endRound (some .ret) h.1, h.2⟩
  | exit id => exact h.elim
  | goto t => exact h.elim
  | panic ch => exact h.elim
  | outgrown => exact h.elim

/-- what Back's rounds leave: the list so far, the list that is read, the loop's own record -/
structure BJ (w W : World) (rec : Loop) (v : Value) (v' : Value) (o : List DC) : Prop where
  b0 : Boxed W w.heap.size 49 v'
  b1 : Boxed W (w.heap.size + 1) 49 v
  row : ChR (w.heap.size + 4) W v' o
  d : W.heap[w.heap.size + 2]? = some (.deferred (some []))
  l : W.heap[w.heap.size + 3]? = some (.loop rec)
  bw : Below w.heap.size w W
  sz : w.heap.size + 4 ≤ W.heap.size

set_option maxHeartbeats 2000000 in
set_option maxRecDepth 100000 in
theorem back_C (base : Nat) (v : Value) (cs : List DC) (hl : cs.length ≤ 5000) (w : World) (hR : ChR base w v cs) :
    Calls Tryz.prog 20 #[v] w fun r w' => ∃ v', r = .returned v' ∧ ChR w.heap.size w' v' (cs.reverse.map DC.turn) ∧ Below w.heap.size w w' := by
  obtain ⟨a, cap, rfl, hcap, _⟩ := hR.form
  obtain ⟨i0, hi, hz0, hz1, hz2⟩ := info_parts info_change
  have BW : Hid (∀ W, _) := fun W => backward_any a cs.length cap W
  have HR : Hid (ChR base w (.slice a cs.length cap) cs) := hR
  clear hR
  refine (callsIn_wide (n := 10)).1 ?_
  refine callsIn_of_wp_marks Tryz.func20 rfl trivial ?_ rfl
  simp only [Tryz.ntmps20, List.size_toArray, List.length_cons, List.length_nil, Nat.reduceAdd, Nat.reduceSub, Array.replicate_succ, Array.replicate_zero, List.push_toArray, List.append_toArray, List.nil_append, List.cons_append]
  gi_wp2_with (refine ⟨trivial, ?_⟩; gi_at_call 51; refine (callsIn_wide.2 (BW.out _)).mono ?_; rintro r w' ⟨rfl, rfl⟩)
  have b0 : Boxed ((w.alloc (.cells #[.slice none 0 0] 49)).alloc (.cells #[.slice a cs.length cap] 49)) w.heap.size 49 (.slice none 0 0) := block_alloc _ (block_at _ rfl)
  have b1 : Boxed ((w.alloc (.cells #[.slice none 0 0] 49)).alloc (.cells #[.slice a cs.length cap] 49)) (w.heap.size + 1) 49 (.slice a cs.length cap) := block_at _ (World.size_alloc _ _)
  have hbw : Below w.heap.size w ((w.alloc (.cells #[.slice none 0 0] 49)).alloc (.cells #[.slice a cs.length cap] 49)) := below_then (below_alloc _ _) (below_alloc _ _)
  have hs2 : ((w.alloc (.cells #[.slice none 0 0] 49)).alloc (.cells #[.slice a cs.length cap] 49)).heap.size = w.heap.size + 2 := by rw [World.size_alloc, World.size_alloc]
  generalize (w.alloc (.cells #[.slice none 0 0] 49)).alloc (.cells #[.slice a cs.length cap] 49) = W2 at b0 b1 hbw hs2
  refine rangeFunc_of rfl (enters_of Tryz.func96 (by kernel_rfl) rfl) (fun r0 hr0 => ?_)
  have hl3 : W2.heap.size + 1 = w.heap.size + 3 := by omega
  rw [hl3]
  refine (backward_iter 9 (w.heap.size + 3) (w.heap.size + 1) base a cap cs (fun r W => ∃ v', BJ w W r0 (.slice a cs.length cap) v' ((cs.drop r).reverse.map DC.turn)) (by omega) hl ?hB ?hY _ ?h0).mono ?post
  case hB =>
    rintro r W ⟨v', q⟩
    exact ⟨q.b1.cell, HR.out.step q.bw⟩
  case h0 =>
    have hb := below_then (below_alloc W2 (.deferred (some []))) (below_alloc _ (.loop r0))
    refine ⟨.slice none 0 0, (hb.block _ (by omega)).trans b0, (hb.block _ (by omega)).trans b1, ?_, block_alloc _ (block_at _ hs2), by rw [← hl3]; exact rec_start _ _, below_then hbw hb, by rw [World.size_alloc, World.size_alloc, hs2]; exact Nat.le_refl _⟩
    rw [List.drop_length]
    exact ChR.nil _ _
  case hY =>
    rintro r hr W ⟨v', q⟩
    have HN : Hid ((cs.drop r).reverse.map DC.turn = (cs.drop (r + 1)).reverse.map DC.turn ++ [cs[r].turn]) := by
      show _ = _
      rw [List.drop_eq_getElem_cons hr, List.reverse_cons, List.map_append]
      rfl
    have hol : ((cs.drop (r + 1)).reverse.map DC.turn).length ≤ 5000 := by simp; omega
    have htc : cs[r].turn.cells = [.string cs[r].id, .string (fieldB cs[r].k), .string (bs (oT cs[r].k cs[r].b)), .string (bs (oT cs[r].k cs[r].a))] := rfl
    have HTC : Hid (_) := htc
    unfold DC.v chV
    generalize (cs.drop (r + 1)).reverse.map DC.turn = o at q HN hol
    generalize cs[r] = c at HN HTC
    generalize c.id = ci at HTC
    generalize fieldB c.k = cf at HTC
    generalize bs (oT c.k c.a) = co at HTC
    generalize bs (oT c.k c.b) = cn at HTC
    obtain ⟨oa, oc, hv', _, _⟩ := q.row.form
    subst hv'
    have hA := below_alloc W (.cells #[.string ci, .string cf, .string co, .string cn] 82)
    have hl1 : (W.alloc (.cells #[.string ci, .string cf, .string co, .string cn] 82)).heap[w.heap.size + 3]? = some (.loop r0) := block_alloc _ q.l
    have hgb := grownBy_putObj' (W.alloc (.cells #[.string ci, .string cf, .string co, .string cn] 82)) (w.heap.size + 3) (.loop { r0 with state := .busy })
    have kc : ((W.alloc (.cells #[.string ci, .string cf, .string co, .string cn] 82)).putObj (w.heap.size + 3) (.loop { r0 with state := .busy })).heap[W.heap.size]? = some (.cells #[.string ci, .string cf, .string co, .string cn] 82 (0, 0)) := (World.putObj_heap_other (by have := q.sz; omega)).trans (block_at _ rfl)
    have P : ∀ b, b < W.heap.size → b ≠ w.heap.size + 3 → ((W.alloc (.cells #[.string ci, .string cf, .string co, .string cn] 82)).putObj (w.heap.size + 3) (.loop { r0 with state := .busy })).heap[b]? = W.heap[b]? := fun b hb hne => (World.putObj_heap_other hne).trans (hA.block b hb)
    have lb : ((W.alloc (.cells #[.string ci, .string cf, .string co, .string cn] 82)).putObj (w.heap.size + 3) (.loop { r0 with state := .busy })).heap[w.heap.size + 3]? = some (.loop { r0 with state := .busy }) := World.putObj_heap_same (Array.getElem?_eq_some_iff.1 hl1).1
    have szb : W.heap.size < ((W.alloc (.cells #[.string ci, .string cf, .string co, .string cn] 82)).putObj (w.heap.size + 3) (.loop { r0 with state := .busy })).heap.size := (Array.getElem?_eq_some_iff.1 kc).1
    have hq := q.sz
    refine yieldAt_mk hr0 ({ tmps := #[.slice a cs.length cap, undef, .slice none 0 0, .pointer (some ⟨w.heap.size, 0, none⟩), undef, .pointer (some ⟨W.heap.size, 0, none⟩), .slice a cs.length cap, .func (.func 96) #[] #[.pointer (some ⟨w.heap.size + 1, 0, none⟩)], .int .i64 r, .agg #[.string ci, .string cf, .string co, .string cn], undef, undef, undef, undef, undef, undef, undef, undef, undef, undef, undef, undef, undef], defers := [] }) q.l hl1 rfl ?assign ?body
    case assign =>
      intro K hK
      gi_wp2
      exact hK
    case body =>
      have hos : (W.alloc (.cells #[.string ci, .string cf, .string co, .string cn] 82)).os = W.os ∧ (W.alloc (.cells #[.string ci, .string cf, .string co, .string cn] 82)).tape = W.tape ∧ (W.alloc (.cells #[.string ci, .string cf, .string co, .string cn] 82)).output = W.output := ⟨hA.os, hA.tape, hA.output⟩
      generalize hWb : (W.alloc (.cells #[.string ci, .string cf, .string co, .string cn] 82)).putObj (w.heap.size + 3) (.loop { r0 with state := .busy }) = Wb at kc P lb szb hgb
      have B0 : Boxed Wb w.heap.size 49 (.slice oa o.length oc) := (P _ (by omega) (by omega)).trans q.b0
      have HB0 : Hid (_) := B0
      have cL := B0.cell
      have fL := B0.frozen
      have HRW : Hid (ChR (w.heap.size + 4) (Wb.alloc (.cells #[.string ci, .string cf, .string cn, .string co] 82)) (.slice oa o.length oc) o) := (q.row.far (fun k hk hk2 => P k hk2 (by omega))).step (below_alloc _ _)
      obtain ⟨c0, c1, c2, c3⟩ := blk4 kc
      have NC : Hid (∀ (j : Nat) (v : Value), [Value.string ci, .string cf, .string cn, .string co][j]? = some v → (Wb.alloc (.cells #[.string ci, .string cf, .string cn, .string co] 82)).cell? ((⟨Wb.heap.size, 0, none⟩ : Addr).add j) = some v) := fun j v hv => by
        match j, hv with
        | 0, hv => simp at hv; subst hv; simp [Addr.add]
        | 1, hv => simp at hv; subst hv; simp [Addr.add]
        | 2, hv => simp at hv; subst hv; simp [Addr.add]
        | 3, hv => simp at hv; subst hv; simp [Addr.add]
      have hzb : w.heap.size + 4 ≤ Wb.heap.size := by omega
      gi_wp2_with (first
        | (gi_at_builtin; refine wpListIn_append_own _ rfl _ _ 49 rfl (w.heap.size + 4) 82 i0 (.agg #[.string ⟨#[]⟩, .string ⟨#[]⟩, .string ⟨#[]⟩, .string ⟨#[]⟩]) 4 64 Tryz.underlying49 hi hz0 hz1 hz2 rfl (by decide) _ _ _ rfl HRW.out ⟨Wb.heap.size, 0, none⟩ 1 1 [.string ci, .string cf, .string cn, .string co] rfl rfl NC.out ?e1 ?e2 ?e3 ?e4 ?_)
        | gi_in)
      case e1 => exact ⟨rfl, rfl, rfl, rfl⟩
      case e2 => unfold maxLen; omega
      case e3 => omega
      case e4 => omega
      intro v' w1 hown' hgrow _
      obtain ⟨g', cap', rfl⟩ := ownsRow_succ hown'
      have hgr : (Wb.alloc (.cells #[.string ci, .string cf, .string cn, .string co] 82)).grownBy w1 (Value.slice oa o.length oc).ownBlock := hgrow
      have hlow : ∀ k, k < w.heap.size + 4 → w1.heap[k]? = Wb.heap[k]? := fun k hk => (hgr.block k (by rw [World.size_alloc]; omega) (fun z => by have := (World.ownsRow.lt HRW.out k z.symm).1; omega)).trans ((below_alloc Wb _).block k (by omega))
      have B1 : Boxed w1 w.heap.size 49 (.slice oa o.length oc) := (hlow _ (by omega)).trans HB0.out
      have cL1 := B1.cell
      have fL1 := B1.frozen
      have hw1s : Wb.heap.size ≤ w1.heap.size := by have := hgr.size; rw [World.size_alloc] at this; omega
      have HFIN : Hid ((w1.setCell ⟨w.heap.size, 0, none⟩ (.slice (some ⟨g', 0, none⟩) (o.length + 1) cap')).heap[w.heap.size + 3]? = some (.loop { r0 with state := .busy }) ∧ BJ w ((w1.setCell ⟨w.heap.size, 0, none⟩ (.slice (some ⟨g', 0, none⟩) (o.length + 1) cap')).putObj (w.heap.size + 3) (.loop { r0 with state := .ready, pending := none })) r0 (.slice a cs.length cap) (.slice (some ⟨g', 0, none⟩) (o.length + 1) cap') (o ++ [c.turn])) := by
        have hset : ∀ k, k < w.heap.size + 4 → k ≠ w.heap.size → (w1.setCell ⟨w.heap.size, 0, none⟩ (.slice (some ⟨g', 0, none⟩) (o.length + 1) cap')).heap[k]? = Wb.heap[k]? := fun k hk hne => (Below.heap_setCell _ _ _ k (fun z => hne z)).trans (hlow k hk)
        have hl4 : (w1.setCell ⟨w.heap.size, 0, none⟩ (.slice (some ⟨g', 0, none⟩) (o.length + 1) cap')).heap[w.heap.size + 3]? = some (.loop { r0 with state := .busy }) := (hset _ (by omega) (by omega)).trans lb
        have P2 : ∀ k, k ≠ w.heap.size + 3 → ((w1.setCell ⟨w.heap.size, 0, none⟩ (.slice (some ⟨g', 0, none⟩) (o.length + 1) cap')).putObj (w.heap.size + 3) (.loop { r0 with state := .ready, pending := none })).heap[k]? = (w1.setCell ⟨w.heap.size, 0, none⟩ (.slice (some ⟨g', 0, none⟩) (o.length + 1) cap')).heap[k]? := fun k hk => World.putObj_heap_other hk
        have gP := grownBy_putObj' (w1.setCell ⟨w.heap.size, 0, none⟩ (.slice (some ⟨g', 0, none⟩) (o.length + 1) cap')) (w.heap.size + 3) (.loop { r0 with state := .ready, pending := none })
        have gS := grown_set w1 ⟨w.heap.size, 0, none⟩ (.slice (some ⟨g', 0, none⟩) (o.length + 1) cap')
        have rowN : ChR (w.heap.size + 4) w1 (.slice (some ⟨g', 0, none⟩) (o.length + 1) cap') (o ++ [c.turn]) := by
          show World.ownsRow _ _ _ _ _ _ _
          rw [List.length_append, List.flatMap_append, List.flatMap_singleton, HTC.out]
          exact hown'
        refine ⟨hl4, (P2 _ (by omega)).trans (Boxed.set _ B1), (P2 _ (by omega)).trans ((hset _ (by omega) (by omega)).trans ((P _ (by omega) (by omega)).trans q.b1)), rowN.far (fun k hk hk2 => (P2 k (by omega)).trans (Below.heap_setCell _ _ _ k (fun z => by have z' : k = w.heap.size := z; omega))), (P2 _ (by omega)).trans ((hset _ (by omega) (by omega)).trans ((P _ (by omega) (by omega)).trans q.d)), ?_, ?_, ?_⟩
        · rw [hr0.again]; exact World.putObj_heap_same (Array.getElem?_eq_some_iff.1 hl4).1
        · have hoW : Wb.os = w.os ∧ Wb.tape = w.tape ∧ Wb.output = w.output := ⟨hgb.os.trans (hos.1.trans q.bw.os), hgb.tape.trans (hos.2.1.trans q.bw.tape), hgb.output.trans (hos.2.2.trans q.bw.output)⟩
          exact ⟨gP.os.trans (gS.os.trans (hgr.os.trans hoW.1)), gP.tape.trans (gS.tape.trans (hgr.tape.trans hoW.2.1)), gP.output.trans (gS.output.trans (hgr.output.trans hoW.2.2)), by have := gP.size; have := gS.size; omega, fun k hk => (P2 k (by omega)).trans ((hset k (by omega) (by omega)).trans ((P k (by omega) (by omega)).trans (q.bw.block k hk)))⟩
        · have := gP.size; have := gS.size; omega
      clear hown' hgrow hgr
      gi_wp2
      obtain ⟨z1, z2⟩ := HFIN.out
      exact ⟨z1, rfl, _, by rw [HN.out]; exact z2⟩
  case post =>
    rintro e2 W3 ⟨hv, v', q⟩
    rw [List.drop_zero] at q
    refine ⟨hv, _, q.l, by rw [hr0.state]; decide, .inl ⟨hr0.pending, ?_⟩⟩
    have gP := grownBy_putObj' W3 (w.heap.size + 3) (.loop { r0 with state := .exhausted })
    have P3 : ∀ k, k ≠ w.heap.size + 3 → (W3.putObj (w.heap.size + 3) (.loop { r0 with state := .exhausted })).heap[k]? = W3.heap[k]? := fun k hk => World.putObj_heap_other hk
    have c0 : Boxed (W3.putObj (w.heap.size + 3) (.loop { r0 with state := .exhausted })) w.heap.size 49 v' := (P3 _ (by omega)).trans q.b0
    have hd : (W3.putObj (w.heap.size + 3) (.loop { r0 with state := .exhausted })).heap[w.heap.size + 2]? = some (.deferred (some [])) := (P3 _ (by omega)).trans q.d
    have RW : Hid (ChR (w.heap.size + 4) (W3.putObj (w.heap.size + 3) (.loop { r0 with state := .exhausted })) v' (cs.reverse.map DC.turn)) := q.row.far (fun k hk hk2 => P3 k (by omega))
    have BL : Hid (Below w.heap.size w (W3.putObj (w.heap.size + 3) (.loop { r0 with state := .exhausted }))) := ⟨gP.os.trans q.bw.os, gP.tape.trans q.bw.tape, gP.output.trans q.bw.output, Nat.le_trans q.bw.size gP.size, fun k hk => (P3 k (by omega)).trans (q.bw.block k hk)⟩
    have hs3 : w.heap.size + 4 ≤ (W3.putObj (w.heap.size + 3) (.loop { r0 with state := .exhausted })).heap.size := Nat.le_trans q.sz gP.size
    have cL := c0.cell
    generalize W3.putObj (w.heap.size + 3) (.loop { r0 with state := .exhausted }) = W4 at cL hd RW BL hs3
    rw [hs2]
    clear b0 b1 hbw BW
    have FIN : Hid (W4.heap[w.heap.size + 2]? = some (.deferred (some [])) ∧ ChR w.heap.size (W4.putObj (w.heap.size + 2) (.deferred none)) v' (cs.reverse.map DC.turn) ∧ Below w.heap.size w (W4.putObj (w.heap.size + 2) (.deferred none))) := by
      have gD := grownBy_putObj' W4 (w.heap.size + 2) (.deferred none)
      have PD : ∀ k, k ≠ w.heap.size + 2 → (W4.putObj (w.heap.size + 2) (.deferred none)).heap[k]? = W4.heap[k]? := fun k hk => World.putObj_heap_other hk
      refine ⟨hd, own_base (RW.out.far (fun k hk _ => PD k (by omega))) (by omega), gD.os.trans BL.out.os, gD.tape.trans BL.out.tape, gD.output.trans BL.out.output, Nat.le_trans BL.out.size gD.size, fun k hk => (PD k (by omega)).trans (BL.out.block k hk)⟩
    clear hd
    gi_wp2
    obtain ⟨fd, frow, fbw⟩ := FIN.out
    refine ⟨by simp, .inl ⟨_, _, rfl, run_takeDeferred fd, ?_⟩⟩
    refine ⟨v', ?_, v', rfl, by rw [← List.map_reverse]; exact frow, fbw⟩
    simp [results, Tryz.f20, go_sem]
end Go.Proofs.YtjhlbkjcchejjaaGreatDoor

/- The library's own contracts of some functions more, laid at this program. -/
namespace Go.Proofs
open Go.Shelf
def Tryz.lays190_ren : Go.Shelf.Ren := ⟨fun | 190 => 91 | 125 => 133 | 258 => 132 | 128 => 167 | 129 => 168 | 302 => 158 | 303 => 159 | 304 => 160 | 305 => 161 | 306 => 162 | 307 => 163 | 308 => 164 | 309 => 165 | 310 => 166 | 333 => 188 | 329 => 189 | 330 => 190 | 334 => 191 | 335 => 192 | 336 => 193 | 344 => 204 | n => n, fun | 31 => 38 | 9 => 9 | 3 => 3 | 46 => 171 | 0 => 0 | 51 => 199 | 53 => 186 | 4 => 4 | 183 => 193 | 182 => 192 | 131 => 105 | 5 => 5 | 218 => 212 | 222 => 181 | 228 => 232 | 229 => 233 | n => n, fun | n => n⟩
theorem Tryz.lays190 : Go.Proofs.Lays.n190 Tryz.prog Tryz.lays190_ren := {
  mixed := by kernel_rfl
  f125 := Tryz.func133.trans (congrArg some (by kernel_rfl))
  f128 := Tryz.func167.trans (congrArg some (by kernel_rfl))
  f129 := Tryz.func168.trans (congrArg some (by kernel_rfl))
  f190 := Tryz.func91.trans (congrArg some (by kernel_rfl))
  f258 := Tryz.func132.trans (congrArg some (by kernel_rfl))
  f302 := Tryz.func158.trans (congrArg some (by kernel_rfl))
  f303 := Tryz.func159.trans (congrArg some (by kernel_rfl))
  f304 := Tryz.func160.trans (congrArg some (by kernel_rfl))
  f305 := Tryz.func161.trans (congrArg some (by kernel_rfl))
  f306 := Tryz.func162.trans (congrArg some (by kernel_rfl))
  f307 := Tryz.func163.trans (congrArg some (by kernel_rfl))
  f308 := Tryz.func164.trans (congrArg some (by kernel_rfl))
  f309 := Tryz.func165.trans (congrArg some (by kernel_rfl))
  f310 := Tryz.func166.trans (congrArg some (by kernel_rfl))
  f329 := Tryz.func189.trans (congrArg some (by kernel_rfl))
  f330 := Tryz.func190.trans (congrArg some (by kernel_rfl))
  f333 := Tryz.func188.trans (congrArg some (by kernel_rfl))
  f334 := Tryz.func191.trans (congrArg some (by kernel_rfl))
  f335 := Tryz.func192.trans (congrArg some (by kernel_rfl))
  f336 := Tryz.func193.trans (congrArg some (by kernel_rfl))
  f344 := Tryz.func204.trans (congrArg some (by kernel_rfl))
  t0 := Tryz.underlying0
  a0 := Tryz.isAgg0
  z0 := Tryz.sizeOf0
  v0 := Tryz.zeroValue0
  t3 := Tryz.underlying3
  a3 := Tryz.isAgg3
  z3 := Tryz.sizeOf3
  v3 := Tryz.zeroValue3
  t4 := Tryz.underlying4
  a4 := Tryz.isAgg4
  z4 := Tryz.sizeOf4
  v4 := Tryz.zeroValue4
  t5 := Tryz.underlying5
  a5 := Tryz.isAgg5
  z5 := Tryz.sizeOf5
  v5 := Tryz.zeroValue5
  t9 := Tryz.underlying9
  a9 := Tryz.isAgg9
  z9 := Tryz.sizeOf9
  v9 := Tryz.zeroValue9
  t31 := Tryz.underlying38
  a31 := Tryz.isAgg38
  z31 := Tryz.sizeOf38
  v31 := Tryz.zeroValue38
  t46 := Tryz.underlying171
  a46 := Tryz.isAgg171
  z46 := Tryz.sizeOf171
  v46 := Tryz.zeroValue171
  t51 := Tryz.underlying199
  a51 := Tryz.isAgg199
  z51 := Tryz.sizeOf199
  v51 := Tryz.zeroValue199
  t53 := Tryz.underlying186
  a53 := Tryz.isAgg186
  z53 := Tryz.sizeOf186
  v53 := Tryz.zeroValue186
  t131 := Tryz.underlying105
  a131 := Tryz.isAgg105
  z131 := Tryz.sizeOf105
  v131 := Tryz.zeroValue105
  t182 := Tryz.underlying192
  a182 := Tryz.isAgg192
  z182 := Tryz.sizeOf192
  v182 := Tryz.zeroValue192
  t183 := Tryz.underlying193
  a183 := Tryz.isAgg193
  z183 := Tryz.sizeOf193
  v183 := Tryz.zeroValue193
  t218 := Tryz.underlying212
  a218 := Tryz.isAgg212
  z218 := Tryz.sizeOf212
  v218 := Tryz.zeroValue212
  t222 := Tryz.underlying181
  a222 := Tryz.isAgg181
  z222 := Tryz.sizeOf181
  v222 := Tryz.zeroValue181
  t228 := Tryz.underlying232
  a228 := Tryz.isAgg232
  z228 := Tryz.sizeOf232
  v228 := Tryz.zeroValue232
  t229 := Tryz.underlying233
  a229 := Tryz.isAgg233
  z229 := Tryz.sizeOf233
  v229 := Tryz.zeroValue233 }
open Go.Sort Go.RowKit in
theorem Tryz.slices_Sort_string (blk off cap : Nat) (ss : List (List UInt8)) (w : World) (hH : Holds encStr w blk off ss.toArray) (hblk : blk < w.heap.size) (hsz : ss.length < 4611686018427387904) :
    Calls Tryz.prog 91 #[.slice (some ⟨blk, off, none⟩) ss.length cap] w fun e w' =>
      e = .returned (.tuple #[]) ∧ ∃ n os, w' = grow (putRow encStr (Sort.ahead w n) blk off (ss.mergeSort fun x y => decide (x ≤ y)).toArray) os := Any.slices_Sort_string Tryz.lays190 blk off cap ss w hH hblk hsz
open Go.RowKit Go.Sort in
theorem Tryz.slices_Sort_string_none (p : Option Addr) (cap : Nat) (w : World) :
    Calls Tryz.prog 91 #[.slice p 0 cap] w fun e w' => e = .returned (.tuple #[]) ∧ w' = w := Any.slices_Sort_string_none Tryz.lays190 p cap w
def Tryz.lays194_ren : Go.Shelf.Ren := ⟨fun | 194 => 92 | n => n, fun | 31 => 38 | 9 => 9 | 3 => 3 | 4 => 4 | 0 => 0 | n => n, fun | n => n⟩
theorem Tryz.lays194 : Go.Proofs.Lays.n194 Tryz.prog Tryz.lays194_ren := {
  mixed := by kernel_rfl
  f194 := Tryz.func92.trans (congrArg some (by kernel_rfl))
  t0 := Tryz.underlying0
  a0 := Tryz.isAgg0
  z0 := Tryz.sizeOf0
  v0 := Tryz.zeroValue0
  t3 := Tryz.underlying3
  a3 := Tryz.isAgg3
  z3 := Tryz.sizeOf3
  v3 := Tryz.zeroValue3
  t4 := Tryz.underlying4
  a4 := Tryz.isAgg4
  z4 := Tryz.sizeOf4
  v4 := Tryz.zeroValue4
  t9 := Tryz.underlying9
  a9 := Tryz.isAgg9
  z9 := Tryz.sizeOf9
  v9 := Tryz.zeroValue9
  t31 := Tryz.underlying38
  a31 := Tryz.isAgg38
  z31 := Tryz.sizeOf38
  v31 := Tryz.zeroValue38 }
open Go.RowKit Go.Lib Go.Sort in
theorem Tryz.slices_Compact_string (blk off cap : Nat) (zs : List (List UInt8)) (w : World) (hH : Holds encStr w blk off zs.toArray) (hsz : zs.length ≤ 9223372036854775807) (hcap : zs.length ≤ cap) :
    Calls Tryz.prog 92 #[.slice (some ⟨blk, off, none⟩) zs.length cap] w fun e w' => e = .returned (.slice (some ⟨blk, off, none⟩) (Lib.compact zs).length cap) ∧ ∃ q, w' = putRow encStr (Sort.ahead w q) blk off (Lib.compact zs ++ List.replicate (zs.length - (Lib.compact zs).length) []).toArray := Any.slices_Compact_string Tryz.lays194 blk off cap zs w hH hsz hcap
open Go.RowKit Go.Lib Go.Sort in
theorem Tryz.slices_Compact_string_empty (a : Option Addr) (cap : Nat) (w : World) :
    Calls Tryz.prog 92 #[.slice a 0 cap] w fun e w' => e = .returned (.slice a 0 cap) ∧ w' = w := Any.slices_Compact_string_empty Tryz.lays194 a cap w
end Go.Proofs
