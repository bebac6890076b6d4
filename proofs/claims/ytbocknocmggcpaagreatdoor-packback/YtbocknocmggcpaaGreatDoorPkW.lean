/- Package pack's blocksOf. -/
import Derived.Test.YtbocknocmggcpaaGreatDoorPkV
import Derived.Test.YtbocknocmggcpaaGreatDoorRF2
import Derived.OrdersHeld
import Derived.Deep.RegionHeld
namespace Go.Proofs.YtbocknocmggcpaaGreatDoor
open Go Go.RowKit Go.Shelf Go.Maps Cal Pk
attribute [local go_sem] Oper.semAt_some

/-- the places behind k blocks -/
def plcK (a : List UInt8) (k : Nat) (key : ByteArray) : List Nat := (((List.range k).filter fun j => bk a (8 * j) == key.data.toList).map (8 * ·)).take 8
theorem plcK_no {a : List UInt8} {k : Nat} {key : ByteArray} (h : key.data.toList ≠ bk a (8 * k)) : plcK a (k + 1) key = plcK a k key := by
  unfold plcK
  have e : List.filter (fun j => bk a (8 * j) == key.data.toList) [k] = [] := by simp; exact fun e => h e.symm
  rw [List.range_succ, List.filter_append, e, List.append_nil]
theorem plcK_yes {a : List UInt8} {k : Nat} {key : ByteArray} (h : key.data.toList = bk a (8 * k)) : plcK a (k + 1) key = if (plcK a k key).length < 8 then plcK a k key ++ [8 * k] else plcK a k key := by
  unfold plcK
  have e : List.filter (fun j => bk a (8 * j) == key.data.toList) [k] = [k] := by simp; exact h.symm
  rw [List.range_succ, List.filter_append, e, List.map_append]
  generalize ((List.range k).filter fun j => bk a (8 * j) == key.data.toList).map (8 * ·) = X
  rw [List.length_take]
  by_cases q : X.length < 8
  · rw [if_pos (by omega), List.take_of_length_le (by simp; omega), List.take_of_length_le (by omega)]
    rfl
  · rw [if_neg (by omega), List.take_append_of_le_length (by omega)]
theorem plcK_add (a : List UInt8) (k : Nat) (key : ByteArray) (h : key.data.toList = bk a (8 * k)) : ((plcK a k key).length < 8 → plcK a (k + 1) = addL (plcK a k) key (8 * k)) ∧ (¬ (plcK a k key).length < 8 → plcK a (k + 1) = plcK a k) := by
  constructor
  · intro q
    funext y
    by_cases e : y = key
    · subst e; rw [addL_same, plcK_yes h, if_pos q]
    · rw [addL_other e, plcK_no (fun z => e (pl_ext (by rw [z, h])))]
  · intro q
    funext y
    by_cases e : y = key
    · subst e; rw [plcK_yes h, if_neg q]
    · rw [plcK_no (fun z => e (pl_ext (by rw [z, h])))]
theorem plcK_len (a : List UInt8) (k : Nat) (key : ByteArray) : (plcK a k key).length ≤ 8 := by unfold plcK; rw [List.length_take]; omega

/-- what blocksOf's rounds leave -/
structure BO (w W : World) (rec : Loop) (s : ByteArray) (k : Nat) : Prop where
  b0 : W.heap[w.heap.size]? = some (.cells #[.string ⟨#[]⟩, .map none] 55 (0, 0))
  b2 : W.heap[w.heap.size + 2]? = some (.cells #[.string s, .map (some (w.heap.size + 1))] 55 (0, 0))
  b3 : W.heap[w.heap.size + 3]? = some (.cells #[.string s] 9 (0, 0))
  d : W.heap[w.heap.size + 4]? = some (.deferred (some []))
  l : W.heap[w.heap.size + 5]? = some (.loop rec)
  pl : ∃ n, n ≤ k ∧ PlcAt (w.heap.size + 6) W (w.heap.size + 1) n (plcK s.data.toList k)
  bw : Below w.heap.size w W
theorem blk2 {W : World} {b T : Nat} {a0 a1 : Value} (h : W.heap[b]? = some (.cells #[a0, a1] T (0, 0))) : W.cell? ⟨b, 0, none⟩ = some a0 ∧ W.cell? ⟨b, 1, none⟩ = some a1 := by simp [World.cell?, h]
theorem blk1 {W : World} {b T : Nat} {a0 : Value} (h : W.heap[b]? = some (.cells #[a0] T (0, 0))) : W.cell? ⟨b, 0, none⟩ = some a0 := by simp [World.cell?, h]

theorem BO.next {w W W' : World} {r0 : Loop} {tmps : Array Value} {ps : Array Tmp} {assign body : Code} {s : ByteArray} {k n' : Nat} (hr0 : IsRec r0 tmps ps assign body) (q : BO w W r0 s k) (hlow : ∀ b, b < w.heap.size + 6 → b ≠ w.heap.size + 1 → b ≠ w.heap.size + 5 → W'.heap[b]? = W.heap[b]?) (hl : W'.heap[w.heap.size + 5]? = some (.loop { r0 with state := .busy }))
    (h1 : W'.os = W.os) (h2 : W'.tape = W.tape) (h3 : W'.output = W.output) (hz : W.heap.size ≤ W'.heap.size) (hp : PlcAt (w.heap.size + 6) W' (w.heap.size + 1) n' (plcK s.data.toList (k + 1))) (hn : n' ≤ k + 1) :
    BO w (W'.putObj (w.heap.size + 5) (.loop { r0 with state := .ready, pending := none })) r0 s (k + 1) := by
  have gP := grownBy_putObj' W' (w.heap.size + 5) (.loop { r0 with state := .ready, pending := none })
  have P2 : ∀ b, b ≠ w.heap.size + 5 → (W'.putObj (w.heap.size + 5) (.loop { r0 with state := .ready, pending := none })).heap[b]? = W'.heap[b]? := fun b hb => World.putObj_heap_other hb
  have P3 : ∀ b, b < w.heap.size + 6 → b ≠ w.heap.size + 1 → b ≠ w.heap.size + 5 → (W'.putObj (w.heap.size + 5) (.loop { r0 with state := .ready, pending := none })).heap[b]? = W.heap[b]? := fun b q1 q2 q3 => (P2 b q3).trans (hlow b q1 q2 q3)
  refine ⟨(P3 _ (by omega) (by omega) (by omega)).trans q.b0, (P3 _ (by omega) (by omega) (by omega)).trans q.b2, (P3 _ (by omega) (by omega) (by omega)).trans q.b3, (P3 _ (by omega) (by omega) (by omega)).trans q.d, ?_, ⟨n', hn, hp.grown gP (by omega) (by omega)⟩, ?_⟩
  · rw [hr0.again]; exact World.putObj_heap_same (Array.getElem?_eq_some_iff.1 hl).1
  · exact ⟨gP.os.trans (h1.trans q.bw.os), gP.tape.trans (h2.trans q.bw.tape), gP.output.trans (h3.trans q.bw.output), Nat.le_trans q.bw.size (Nat.le_trans hz gP.size), fun b hb => (P3 b (by omega) (by omega) (by omega)).trans (q.bw.block b hb)⟩
theorem info_intK : (Tryz.prog.info? 3).map (fun i => (i.zero, i.size, i.bytes)) = some (some (.int .i64 0), 1, 8) := by kernel_rfl

set_option maxHeartbeats 2000000 in
set_option maxRecDepth 100000 in
theorem blocksOf_any (s : ByteArray) (w : World) (hs : s.size ≤ 100000) :
    Calls Tryz.prog 17 #[.string s] w fun r w' => r = .returned (.agg #[.string s, .map (some (w.heap.size + 1))]) ∧ (∃ n, n ≤ s.size / 8 ∧ PlcAt (w.heap.size + 6) w' (w.heap.size + 1) n (plcK s.data.toList (s.size / 8))) ∧ Below w.heap.size w w' := by
  have hmm := @run_makeMap Tryz.prog
  have EB : Hid (∀ W, _) := fun W => eachBlock_any s W
  refine (callsIn_wide (n := 10)).1 ?_
  refine callsIn_of_wp_marks Tryz.func17 rfl trivial ?_ rfl
  simp only [Tryz.ntmps17, List.size_toArray, List.length_cons, List.length_nil, Nat.reduceAdd, Nat.reduceSub, Array.replicate_succ, Array.replicate_zero, List.push_toArray, List.append_toArray, List.nil_append, List.cons_append]
  gi_wp2_with (refine ⟨trivial, ?_⟩; gi_at_call 43; refine (callsIn_wide.2 (EB.out _)).mono ?_; rintro r w' ⟨rfl, rfl⟩)
  clear hmm EB
  have e1 := below_alloc w (.cells #[.string ⟨#[]⟩, .map none] 55)
  have e2 := below_alloc (w.alloc (.cells #[.string ⟨#[]⟩, .map none] 55)) (.map #[] 0)
  have e3 := below_alloc ((w.alloc (.cells #[.string ⟨#[]⟩, .map none] 55)).alloc (.map #[] 0)) (.cells #[.string s, .map (some (w.heap.size + 1))] 55)
  have e4 := below_alloc (((w.alloc (.cells #[.string ⟨#[]⟩, .map none] 55)).alloc (.map #[] 0)).alloc (.cells #[.string s, .map (some (w.heap.size + 1))] 55)) (.cells #[.string s] 9)
  have z1 : (w.alloc (.cells #[.string ⟨#[]⟩, .map none] 55)).heap.size = w.heap.size + 1 := World.size_alloc _ _
  have z2 : ((w.alloc (.cells #[.string ⟨#[]⟩, .map none] 55)).alloc (.map #[] 0)).heap.size = w.heap.size + 2 := by rw [World.size_alloc, z1]
  have z3 : (((w.alloc (.cells #[.string ⟨#[]⟩, .map none] 55)).alloc (.map #[] 0)).alloc (.cells #[.string s, .map (some (w.heap.size + 1))] 55)).heap.size = w.heap.size + 3 := by rw [World.size_alloc, z2]
  have z4 : ((((w.alloc (.cells #[.string ⟨#[]⟩, .map none] 55)).alloc (.map #[] 0)).alloc (.cells #[.string s, .map (some (w.heap.size + 1))] 55)).alloc (.cells #[.string s] 9)).heap.size = w.heap.size + 4 := by rw [World.size_alloc, z3]
  have k0 : ((((w.alloc (.cells #[.string ⟨#[]⟩, .map none] 55)).alloc (.map #[] 0)).alloc (.cells #[.string s, .map (some (w.heap.size + 1))] 55)).alloc (.cells #[.string s] 9)).heap[w.heap.size]? = some (.cells #[.string ⟨#[]⟩, .map none] 55 (0, 0)) := (e4.block _ (by omega)).trans ((e3.block _ (by omega)).trans ((e2.block _ (by omega)).trans (block_at _ rfl)))
  have k2 : ((((w.alloc (.cells #[.string ⟨#[]⟩, .map none] 55)).alloc (.map #[] 0)).alloc (.cells #[.string s, .map (some (w.heap.size + 1))] 55)).alloc (.cells #[.string s] 9)).heap[w.heap.size + 2]? = some (.cells #[.string s, .map (some (w.heap.size + 1))] 55 (0, 0)) := (e4.block _ (by omega)).trans (block_at _ z2)
  have k3 : ((((w.alloc (.cells #[.string ⟨#[]⟩, .map none] 55)).alloc (.map #[] 0)).alloc (.cells #[.string s, .map (some (w.heap.size + 1))] 55)).alloc (.cells #[.string s] 9)).heap[w.heap.size + 3]? = some (.cells #[.string s] 9 (0, 0)) := block_at _ z3
  have hbw := below_then e1 (below_then e2 (below_then e3 e4))
  have hMade : Hid (∀ W, Below ((((w.alloc (.cells #[.string ⟨#[]⟩, .map none] 55)).alloc (.map #[] 0)).alloc (.cells #[.string s, .map (some (w.heap.size + 1))] 55)).alloc (.cells #[.string s] 9)).heap.size ((((w.alloc (.cells #[.string ⟨#[]⟩, .map none] 55)).alloc (.map #[] 0)).alloc (.cells #[.string s, .map (some (w.heap.size + 1))] 55)).alloc (.cells #[.string s] 9)) W → w.heap.size + 6 ≤ W.heap.size → PlcAt (w.heap.size + 6) W (w.heap.size + 1) 0 (fun _ => [])) := fun W hW hle => by
    have := PlcAt.made (w.alloc (.cells #[.string ⟨#[]⟩, .map none] 55)) (w.heap.size + 6) (by omega) W (below_then (below_then e3 e4) hW) hle
    rw [z1] at this
    exact this
  generalize (((w.alloc (.cells #[.string ⟨#[]⟩, .map none] 55)).alloc (.map #[] 0)).alloc (.cells #[.string s, .map (some (w.heap.size + 1))] 55)).alloc (.cells #[.string s] 9) = W2 at k0 k2 k3 hbw hMade z4
  clear e1 e2 e3 e4 z1 z2 z3
  refine rangeFunc_of rfl (enters_of Tryz.func60 (by kernel_rfl) rfl) (fun r0 hr0 => ?_)
  have hl5 : W2.heap.size + 1 = w.heap.size + 5 := by omega
  rw [hl5]
  refine (eachBlock_iter 9 (w.heap.size + 5) (w.heap.size + 3) s (fun k W => BO w W r0 s k) (by omega) (by omega) ?hB ?hY _ ?h0).mono ?post
  case hB =>
    intro k W q
    exact blk1 q.b3
  case h0 =>
    have hb := below_then (below_alloc W2 (.deferred (some []))) (below_alloc _ (.loop r0))
    have y1 : (W2.alloc (.deferred (some []))).heap.size = w.heap.size + 5 := by rw [World.size_alloc, z4]
    refine ⟨(hb.block _ (by omega)).trans k0, (hb.block _ (by omega)).trans k2, (hb.block _ (by omega)).trans k3, ((below_alloc _ (.loop r0)).block _ (by omega)).trans (block_at _ z4), block_at _ y1, ⟨0, Nat.le_refl _, hMade.out _ hb (by rw [World.size_alloc, y1]; omega)⟩, below_then hbw hb⟩
  case hY =>
    intro k hk W q
    obtain ⟨n, hn, hp⟩ := q.pl
    have hbz : (bs (bk s.data.toList (8 * k))).size ≤ 8 := by rw [Lib.size_eq, bs_data]; unfold bk; rw [List.length_take]; omega
    have hadd := plcK_add s.data.toList k (bs (bk s.data.toList (8 * k))) (bs_data _)
    have hlen := plcK_len s.data.toList k (bs (bk s.data.toList (8 * k)))
    have hgb := grownBy_putObj' W (w.heap.size + 5) (.loop { r0 with state := .busy })
    have P : ∀ b, b ≠ w.heap.size + 5 → (W.putObj (w.heap.size + 5) (.loop { r0 with state := .busy })).heap[b]? = W.heap[b]? := fun b hb => World.putObj_heap_other hb
    have lb : (W.putObj (w.heap.size + 5) (.loop { r0 with state := .busy })).heap[w.heap.size + 5]? = some (.loop { r0 with state := .busy }) := World.putObj_heap_same (Array.getElem?_eq_some_iff.1 q.l).1
    have hpB := hp.grown hgb (by omega) (by omega)
    have cB := (blk2 ((P (w.heap.size + 2) (by omega)).trans q.b2)).2
    have HQ : Hid (BO w W r0 s k) := q
    have HNX : Hid (∀ (W' : World) (n' : Nat), (∀ b, b < w.heap.size + 6 → b ≠ w.heap.size + 1 → W'.heap[b]? = (W.putObj (w.heap.size + 5) (.loop { r0 with state := .busy })).heap[b]?) → W'.os = (W.putObj (w.heap.size + 5) (.loop { r0 with state := .busy })).os → W'.tape = (W.putObj (w.heap.size + 5) (.loop { r0 with state := .busy })).tape → W'.output = (W.putObj (w.heap.size + 5) (.loop { r0 with state := .busy })).output → (W.putObj (w.heap.size + 5) (.loop { r0 with state := .busy })).heap.size ≤ W'.heap.size → PlcAt (w.heap.size + 6) W' (w.heap.size + 1) n' (plcK s.data.toList (k + 1)) → n' ≤ k + 1 →
        W'.heap[w.heap.size + 5]? = some (.loop { r0 with state := .busy }) ∧ BO w (W'.putObj (w.heap.size + 5) (.loop { r0 with state := .ready, pending := none })) r0 s (k + 1)) := fun W' n' y1 y2 y3 y4 y5 y6 y7 => ⟨(y1 _ (by omega) (by omega)).trans lb, HQ.out.next hr0 (fun b b1 b2 b3 => (y1 b b1 b2).trans (P b b3)) ((y1 _ (by omega) (by omega)).trans lb) (y2.trans hgb.os) (y3.trans hgb.tape) (y4.trans hgb.output) (Nat.le_trans hgb.size y5) y6 y7⟩
    generalize bs (bk s.data.toList (8 * k)) = bb at hbz hadd hlen ⊢
    refine yieldAt_of hr0 ({ tmps := #[.string s, undef, .pointer (some ⟨w.heap.size, 0, none⟩), .pointer (some ⟨w.heap.size + 1 + 1, 0, none⟩), .int .i64 ((8 * k : Nat) : Int), .string bb, .string s, .map (some (w.heap.size + 1)), .agg #[.string s, .map (some (w.heap.size + 1))], .string s, .func (.func 60) #[] #[.pointer (some ⟨w.heap.size + 1 + 1 + 1, 0, none⟩)], .int .i64 ((8 * k : Nat) : Int), .string bb, undef, undef, undef, undef, undef, undef, undef, undef, undef, undef, undef, undef, undef, undef, undef, undef, undef], defers := [] }) q.l rfl ?assign ?body
    case assign =>
      intro K hK
      gi_wp2
      exact hK
    case body =>
      clear q hp P
      generalize W.putObj (w.heap.size + 5) (.loop { r0 with state := .busy }) = Wb at hgb lb hpB cB HNX ⊢
      obtain ⟨v, hLK⟩ := hpB.look bb (by omega)
      obtain ⟨va, vc, rfl, hform⟩ := (hLK Wb (Below.refl _ _)).2.form
      clear hform
      have LK0 := (hLK Wb (Below.refl _ _)).1
      change Wb.cell? ⟨w.heap.size + 1 + 1, 1, none⟩ = _ at cB
      by_cases hlt : (plcK s.data.toList k bb).length < 8
      · have hlt' : ((plcK s.data.toList k bb).length : Int) < 8 := by omega
        obtain ⟨i0, hi, hz0, hz1, hz2⟩ := info_parts info_intK
        have hmix : Tryz.prog.follows .mixedOrders = true := by kernel_rfl
        have HNX2 : Hid (_) := HNX.out
        have hA := below_then (below_alloc Wb (.cells #[.int .i64 ((8 * k : Nat) : Int)] 3)) (drew_below _)
        have LK1 := (hLK Wb.drew (drew_below _)).1
        have LK2 := (hLK _ hA).1
        have OW : Hid (_) := (hLK _ hA).2
        have cB1 : Wb.drew.cell? ⟨w.heap.size + 1 + 1, 1, none⟩ = some (.map (some (w.heap.size + 1))) := cB
        have cB2 : (World.drew (Wb.alloc (.cells #[.int .i64 ((8 * k : Nat) : Int)] 3))).cell? ⟨w.heap.size + 1 + 1, 1, none⟩ = some (.map (some (w.heap.size + 1))) := cell_step cB hA
        have HFN : Hid (∀ (w6 : World) (gb capb : Nat), w6.ownsRow (w.heap.size + 6) 3 1 (.slice (some ⟨gb, 0, none⟩) ((plcK s.data.toList k bb).length + 1) capb) ((plcK s.data.toList k bb).length + 1) ((plcK s.data.toList k bb).map nI ++ [nI (8 * k)]) → (World.drew (Wb.alloc (.cells #[.int .i64 ((8 * k : Nat) : Int)] 3))).grownBy w6 (Value.slice va (plcK s.data.toList k bb).length vc).ownBlock → ((Value.slice va (plcK s.data.toList k bb).length vc).ownBlock = some gb ∨ gb = (World.drew (Wb.alloc (.cells #[.int .i64 ((8 * k : Nat) : Int)] 3))).heap.size) →
            ∃ w7, (Instr.mapUpdate 53 (.map (some (w.heap.size + 1))) (.string bb) (.slice (some ⟨gb, 0, none⟩) ((plcK s.data.toList k bb).length + 1) capb)).run Tryz.prog w6 = .ok () w7 ∧ w6.cell? ⟨w.heap.size + 1 + 1, 1, none⟩ = some (.map (some (w.heap.size + 1))) ∧ w7.cell? ⟨w.heap.size + 1 + 1, 1, none⟩ = some (.map (some (w.heap.size + 1))) ∧ (w7.heap[w.heap.size + 5]? = some (.loop { r0 with state := .busy }) ∧ BO w (w7.putObj (w.heap.size + 5) (.loop { r0 with state := .ready, pending := none })) r0 s (k + 1))) := fun w6 gb capb y1 y2 y3 => by
          obtain ⟨w7, x1, x2, x3, x4, x5, x6, x7, x8⟩ := plc_put hpB hA (by have := hk; omega) bb (by omega) (8 * k) _ LK0 y1 y2 y3 hA.size
          have cc : ∀ W' : World, W'.heap[w.heap.size + 1 + 1]? = Wb.heap[w.heap.size + 1 + 1]? → W'.cell? ⟨w.heap.size + 1 + 1, 1, none⟩ = some (.map (some (w.heap.size + 1))) := fun W' e => (World.cell?_of_block (a := ⟨w.heap.size + 1 + 1, 1, none⟩) e).trans cB
          refine ⟨w7, x1, cc w6 (x8 _ (by omega) (by omega)), cc w7 (x7 _ (by omega) (by omega)), HNX2.out w7 (n + 1) x7 x3 x4 x5 x6 ?_ (by omega)⟩
          rw [hadd.1 hlt]
          exact x2
        have HONE : Hid (∀ u ∈ ([.int .i64 ((8 * k : Nat) : Int)] : List Value), u.oneCell' = true) := fun u hu => by
          simp only [List.mem_cons, List.not_mem_nil, or_false] at hu
          rcases hu with rfl
          rfl
        have HMAX : Hid ((plcK s.data.toList k bb).length + 1 ≤ maxLen) := by show _ + 1 ≤ maxLen; unfold maxLen; omega
        have HBY : Hid (((plcK s.data.toList k bb).length + 1) * 8 ≤ 140737488355328) := by show (_ + 1) * 8 ≤ _; omega
        have HLO : Hid (w.heap.size + 6 ≤ (World.drew (Wb.alloc (.cells #[.int .i64 ((8 * k : Nat) : Int)] 3))).heap.size) := Nat.le_trans hpB.le hA.size
        have hcells : ((plcK s.data.toList k bb).map nI).length = (plcK s.data.toList k bb).length := List.length_map ..
        have OW2 : Hid ((World.drew (Wb.alloc (.cells #[.int .i64 ((8 * k : Nat) : Int)] 3))).ownsRow (w.heap.size + 6) 3 1 (.slice va (plcK s.data.toList k bb).length vc) (plcK s.data.toList k bb).length ((plcK s.data.toList k bb).map nI)) := OW.out
        unfold nI at HFN OW2
        clear OW hadd hlen HNX HNX2 hLK hpB hgb lb hMade HQ hcells
        generalize (plcK s.data.toList k bb).map (fun n : Nat => Value.int .i64 (n : Int)) = cs at HFN OW2
        generalize (plcK s.data.toList k bb).length = m at *
        generalize ((8 * k : Nat) : Int) = ki at *
        gi_wp2
        refine region_round hmix (no_defer (by kernel_rfl)) (by rintro ⟨_, _, hx⟩; exact hx) ?_
        refine wpAny_of_held (S := fun w' => w'.cell? ⟨w.heap.size + 1 + 1, 1, none⟩ = some (.map (some (w.heap.size + 1)))) _ _ _ _ ?_
        refine wpAnyH_take (i := 0) (v := .pointer (some ⟨w.heap.size + 1 + 1, 1, none⟩)) rfl (by kernel_rfl) (by kernel_rfl) (by kernel_rfl) (fun _ _ _ h => h) (Or.inl ⟨by rfl, ?_⟩) (by assumption) ?_
        · intro w hSw
          try dsimp only at hSw
          go_simp
        try simp only [Act.put]
        refine wpAnyH_take (i := 2) (v := .string bb) rfl (by kernel_rfl) (by kernel_rfl) (by kernel_rfl) (fun _ _ _ h => h) (Or.inl ⟨by rfl, ?_⟩) (by assumption) ?_
        · intro w hSw
          try dsimp only at hSw
          go_simp
        try simp only [Act.put]
        refine wpAnyH_take (i := 3) (v := .pointer (some ⟨w.heap.size + 1 + 1, 1, none⟩)) rfl (by kernel_rfl) (by kernel_rfl) (by kernel_rfl) (fun _ _ _ h => h) (Or.inl ⟨by rfl, ?_⟩) (by assumption) ?_
        · intro w hSw
          try dsimp only at hSw
          go_simp
        try simp only [Act.put]
        refine wpAnyH_take (i := 5) (v := .string bb) rfl (by kernel_rfl) (by kernel_rfl) (by kernel_rfl) (fun _ _ _ h => h) (Or.inl ⟨by rfl, ?_⟩) (by assumption) ?_
        · intro w hSw
          try dsimp only at hSw
          go_simp
        try simp only [Act.put]
        refine wpAnyH_take (i := 7) (v := .int .i64 ki) rfl (by kernel_rfl) (by kernel_rfl) (by kernel_rfl) (fun _ _ _ h => h) (Or.inl ⟨by rfl, ?_⟩) (by assumption) ?_
        · intro w hSw
          try dsimp only at hSw
          go_simp
        try simp only [Act.put]
        refine wpAnyH_take (i := 1) (v := .map (some (w.heap.size + 1))) rfl (by kernel_rfl) (by kernel_rfl) (by kernel_rfl) (fun _ _ _ h => h) (Or.inl ⟨by rfl, ?_⟩) (by assumption) ?_
        · intro w hSw
          try dsimp only at hSw
          go_simp
        try simp only [Act.put]
        refine wpAnyH_take (i := 4) (v := .map (some (w.heap.size + 1))) rfl (by kernel_rfl) (by kernel_rfl) (by kernel_rfl) (fun _ _ _ h => h) (Or.inl ⟨by rfl, ?_⟩) (by assumption) ?_
        · intro w hSw
          try dsimp only at hSw
          go_simp
        try simp only [Act.put]
        refine wpAnyH_ready (rs := [6, 8]) (by kernel_rfl) (by simp) ?_
        refine AllReadyH.cons rfl (fun K hK => ?_) (AllReadyH.cons rfl (fun K hK => ?_) AllReadyH.nil)
        · go_simp
          refine hK.out _ _ cB1 (fun hHeld => ?_)
          clear hK K
          refine wpAnyH_ready (rs := [8]) (by kernel_rfl) (by simp) (AllReadyH.cons rfl (fun K hK => ?_) AllReadyH.nil)
          go_simp
          refine hK.out _ _ cB2 (fun hHeld => ?_)
          clear hK K
          refine wpAnyH_ready (rs := [9]) (by kernel_rfl) (by simp) (AllReadyH.cons rfl (fun K hK => ?_) AllReadyH.nil)
          refine step_append_lies _ (by rfl) _ _ 92 (by rfl) (w.heap.size + 6) 3 i0 (.int .i64 0) 1 8 Tryz.underlying92 hi hz0 hz1 hz2 rfl (by decide) (.slice va m vc) m cs (by rfl) OW2.out ⟨Wb.heap.size, 0, none⟩ 1 1 [.int .i64 ki] (by rfl) rfl (World.news_of_block (cs := #[.int .i64 ki]) (block_at _ rfl)) HONE.out (by decide) HMAX.out HBY.out HLO.out _ rfl ?_
          intro gb capb w6 hown hgrow hat hlt3
          obtain ⟨w7, hst, hc6, hc7, hfin⟩ := HFN.out w6 gb capb hown hgrow hat
          refine hK.out _ _ hc6 (fun hHeld => ?_)
          clear hK K hown hgrow hat hlt3
          refine wpAnyH_ready (rs := [10]) (by kernel_rfl) (by simp) (AllReadyH.cons rfl (fun K hK => ?_) AllReadyH.nil)
          go_simp
          refine hK.out _ _ hc7 (fun hHeld => ?_)
          clear hK K
          refine wpAnyH_done (by kernel_rfl) ?_ _
          exact ⟨hfin.1, rfl, hfin.2⟩
        · go_simp
          refine hK.out _ _ cB2 (fun hHeld => ?_)
          clear hK K
          refine wpAnyH_ready (rs := [6]) (by kernel_rfl) (by simp) (AllReadyH.cons rfl (fun K hK => ?_) AllReadyH.nil)
          go_simp
          refine hK.out _ _ cB2 (fun hHeld => ?_)
          clear hK K
          refine wpAnyH_ready (rs := [9]) (by kernel_rfl) (by simp) (AllReadyH.cons rfl (fun K hK => ?_) AllReadyH.nil)
          refine step_append_lies _ (by rfl) _ _ 92 (by rfl) (w.heap.size + 6) 3 i0 (.int .i64 0) 1 8 Tryz.underlying92 hi hz0 hz1 hz2 rfl (by decide) (.slice va m vc) m cs (by rfl) OW2.out ⟨Wb.heap.size, 0, none⟩ 1 1 [.int .i64 ki] (by rfl) rfl (World.news_of_block (cs := #[.int .i64 ki]) (block_at _ rfl)) HONE.out (by decide) HMAX.out HBY.out HLO.out _ rfl ?_
          intro gb capb w6 hown hgrow hat hlt3
          obtain ⟨w7, hst, hc6, hc7, hfin⟩ := HFN.out w6 gb capb hown hgrow hat
          refine hK.out _ _ hc6 (fun hHeld => ?_)
          clear hK K hown hgrow hat hlt3
          refine wpAnyH_ready (rs := [10]) (by kernel_rfl) (by simp) (AllReadyH.cons rfl (fun K hK => ?_) AllReadyH.nil)
          go_simp
          refine hK.out _ _ hc7 (fun hHeld => ?_)
          clear hK K
          refine wpAnyH_done (by kernel_rfl) ?_ _
          exact ⟨hfin.1, rfl, hfin.2⟩
      · have hlt' : (8 : Int) ≤ ((plcK s.data.toList k bb).length : Int) := by omega
        have HFIN : Hid (_) := HNX.out Wb n (fun b _ _ => rfl) rfl rfl rfl (Nat.le_refl _) (by rw [hadd.2 hlt]; exact hpB) (by omega)
        clear hadd hlen HNX hLK hpB hgb lb hMade HQ
        generalize (plcK s.data.toList k bb).length = m at *
        gi_wp2
        exact ⟨HFIN.out.1, rfl, HFIN.out.2⟩
  case post =>
    rintro e2 W3 ⟨hv, q⟩
    refine ⟨hv, _, q.l, by rw [hr0.state]; decide, .inl ⟨hr0.pending, ?_⟩⟩
    obtain ⟨n, hn, hp⟩ := q.pl
    have gP := grownBy_putObj' W3 (w.heap.size + 5) (.loop { r0 with state := .exhausted })
    have P3 : ∀ k, k ≠ w.heap.size + 5 → (W3.putObj (w.heap.size + 5) (.loop { r0 with state := .exhausted })).heap[k]? = W3.heap[k]? := fun k hk => World.putObj_heap_other hk
    have y0 := (P3 _ (by omega)).trans q.b0
    have y2 := (P3 _ (by omega)).trans q.b2
    have yd := (P3 _ (by omega)).trans q.d
    have yp := hp.grown gP (by omega) (by omega)
    have yb : Below w.heap.size w (W3.putObj (w.heap.size + 5) (.loop { r0 with state := .exhausted })) := ⟨gP.os.trans q.bw.os, gP.tape.trans q.bw.tape, gP.output.trans q.bw.output, Nat.le_trans q.bw.size gP.size, fun k hk => (P3 k (by omega)).trans (q.bw.block k hk)⟩
    generalize W3.putObj (w.heap.size + 5) (.loop { r0 with state := .exhausted }) = W4 at y0 y2 yd yp yb
    rw [z4]
    have cB : W4.cell? ⟨w.heap.size + 1 + 1, 0, none⟩ = some (.string s) := (blk2 y2).1
    have cC : W4.cell? ⟨w.heap.size + 1 + 1, 1, none⟩ = some (.map (some (w.heap.size + 1))) := (blk2 y2).2
    obtain ⟨d0, d1⟩ := blk2 y0
    have f0 := p3_frozen y0 0
    have f1 := p3_frozen y0 1
    have s0 : ((W4.setCell ⟨w.heap.size, 0, none⟩ (.string s)).setCell ⟨w.heap.size, 1, none⟩ (.map (some (w.heap.size + 1)))).heap[w.heap.size]? = some (.cells #[.string s, .map (some (w.heap.size + 1))] 55 (0, 0)) := set_block (i := 1) _ (set_block (i := 0) _ y0)
    have g5 := grown_then (grown_set W4 ⟨w.heap.size, 0, none⟩ (.string s)) (grown_set _ ⟨w.heap.size, 1, none⟩ (.map (some (w.heap.size + 1))))
    have FIN : Hid (((W4.setCell ⟨w.heap.size, 0, none⟩ (.string s)).setCell ⟨w.heap.size, 1, none⟩ (.map (some (w.heap.size + 1)))).heap[w.heap.size + 4]? = some (.deferred (some [])) ∧ (((W4.setCell ⟨w.heap.size, 0, none⟩ (.string s)).setCell ⟨w.heap.size, 1, none⟩ (.map (some (w.heap.size + 1)))).putObj (w.heap.size + 4) (.deferred none)).heap[w.heap.size]? = some (.cells #[.string s, .map (some (w.heap.size + 1))] 55 (0, 0)) ∧
        PlcAt (w.heap.size + 6) (((W4.setCell ⟨w.heap.size, 0, none⟩ (.string s)).setCell ⟨w.heap.size, 1, none⟩ (.map (some (w.heap.size + 1)))).putObj (w.heap.size + 4) (.deferred none)) (w.heap.size + 1) n (plcK s.data.toList (s.size / 8)) ∧ Below w.heap.size w (((W4.setCell ⟨w.heap.size, 0, none⟩ (.string s)).setCell ⟨w.heap.size, 1, none⟩ (.map (some (w.heap.size + 1)))).putObj (w.heap.size + 4) (.deferred none))) := by
      have gD := grownBy_putObj' ((W4.setCell ⟨w.heap.size, 0, none⟩ (.string s)).setCell ⟨w.heap.size, 1, none⟩ (.map (some (w.heap.size + 1)))) (w.heap.size + 4) (.deferred none)
      have p5 := yp.grown g5 (by show w.heap.size < _; omega) (by show w.heap.size ≠ _; omega)
      refine ⟨(g5.block _ (Array.getElem?_eq_some_iff.1 yd).1 (fun z => by have : w.heap.size + 4 = w.heap.size := Option.some.inj z; omega)).trans yd, (World.putObj_heap_other (by omega)).trans s0, p5.grown gD (by omega) (by omega), gD.os.trans (g5.os.trans yb.os), gD.tape.trans (g5.tape.trans yb.tape), gD.output.trans (g5.output.trans yb.output), Nat.le_trans yb.size (Nat.le_trans g5.size gD.size), fun k hk => (World.putObj_heap_other (by omega)).trans ((g5.block k (Nat.lt_of_lt_of_le hk yb.size) (fun z => by have : k = w.heap.size := Option.some.inj z; omega)).trans (yb.block k hk))⟩
    clear yd yp yb y0 y2 s0 g5 gP P3 k0 k2 k3 hbw hMade q hp
    gi_wp2
    obtain ⟨fd, fb, fp, fw⟩ := FIN.out
    refine ⟨by simp, .inl ⟨_, _, rfl, run_takeDeferred fd, ?_⟩⟩
    obtain ⟨c0, c1⟩ := blk2 fb
    refine ⟨.agg #[.string s, .map (some (w.heap.size + 1))], ?_, rfl, ⟨n, hn, fp⟩, fw⟩
    simp [results, Tryz.f17, go_sem, c0, c1]
end Go.Proofs.YtbocknocmggcpaaGreatDoor
