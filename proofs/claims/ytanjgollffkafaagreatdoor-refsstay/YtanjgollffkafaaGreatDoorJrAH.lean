/- Lists that are searched: slices.BinarySearch over rising numbers, BinarySearchFunc over moves, and package event's movedTo. -/
import Derived.Test.YtanjgollffkafaaGreatDoorJrAF
import Derived.Deep.LoopGhost
import Derived.BigRegionIn
import Derived.OrdersIn
import Derived.Test.YtanjgollffkafaaGreatDoorProg
import Derived.Test.YtanjgollffkafaaGreatDoorJrAD
import Derived.Sort.OwnSortedInts
import Derived.Lib.SlicesCompact
import Derived.Maps.AppendAt
import Derived.Test.YtanjgollffkafaaGreatDoorJrAG
import Derived.Test.YtanjgollffkafaaGreatDoorJrAE
import Derived.Deep.AppendLies
import Derived.TacticsInMore
import Derived.Stop.Asserts
namespace Go.Proofs.YtanjgollffkafaaGreatDoor
open Go Go.RowKit Cal
attribute [local go_sem] Oper.semAt_some

end Go.Proofs.YtanjgollffkafaaGreatDoor

/- The days of an event that is well, as package event's daysUpTo gives them. -/
namespace Go.Proofs.YtanjgollffkafaaGreatDoor
open Go Go.RowKit Go.Shelf Cal
attribute [local go_sem] Oper.semAt_some

end Go.Proofs.YtanjgollffkafaaGreatDoor

/- The library's contracts of slices.Sort and slices.Compact at ints: none at this program. -/
namespace Go.Proofs
end Go.Proofs

/- Sorted, and what is twice dropped: the library's contracts of slices.Sort and slices.Compact in words of a row that a call owns. -/
namespace Go.Proofs.YtanjgollffkafaaGreatDoor
open Go Go.RowKit Go.Sort Cal

end Go.Proofs.YtanjgollffkafaaGreatDoor

/- Package event's Days: the days of an event in a span, or the error full. -/
namespace Go.Proofs.YtanjgollffkafaaGreatDoor
open Go Go.RowKit Go.Shelf Cal
attribute [local go_sem] Oper.semAt_some

end Go.Proofs.YtanjgollffkafaaGreatDoor

/- Package event's Covers: is a day within an event? -/
namespace Go.Proofs.YtanjgollffkafaaGreatDoor
open Go Go.RowKit Cal
attribute [local go_sem] Oper.semAt_some

end Go.Proofs.YtanjgollffkafaaGreatDoor

/- Package book's On. -/
namespace Go.Proofs.YtanjgollffkafaaGreatDoor
open Go Go.RowKit Go.Maps Cal
attribute [local go_sem] Oper.semAt_some

/-- a list of texts that a call gave -/
def RowV (base : Nat) (W : World) (v : Value) (l : List ByteArray) : Prop :=
  (v = .slice none 0 0 ∧ l = []) ∨ ∃ B cap, v = .slice (some ⟨B, 0, none⟩) l.length cap ∧ base ≤ B ∧ RowS W B cap l
theorem rowV_own {base : Nat} {W : World} {v : Value} {n : Nat} {xs : List (List UInt8)} (h : W.ownsRow base 9 1 v n (xs.map encStr)) : RowV base W v (xs.map bs) := by
  have hn : xs.length = n := by have := h.1; simpa using this
  rcases h.2 with ⟨rfl, h0⟩ | ⟨B, cap, cur, rfl, hb, hg, hcap, hmax, hsz, htake⟩
  · refine .inl ⟨rfl, ?_⟩
    rw [List.length_eq_zero_iff.1 (hn.trans h0)]; rfl
  · refine .inr ⟨B, cap, by rw [List.length_map, hn], hb, ⟨cur, hg, by omega, fun j hj => ?_⟩, by rw [List.length_map]; omega⟩
    rw [List.length_map] at hj
    have e := congrArg (fun z : List Value => z[j]?) htake
    simp only [List.getElem?_take, List.getElem?_map, Array.getElem?_toList] at e
    rw [if_pos (by omega), List.getElem?_eq_getElem hj] at e
    rw [e, List.getElem_map]; rfl
end Go.Proofs.YtanjgollffkafaaGreatDoor

/- Names of commits in memory: a row of entries, refs; lastOf, commitOf, isAt, inBounds, New, Get, allNames. -/
namespace Go.Proofs.YtanjgollffkafaaGreatDoor
open Go Go.RowKit Go.Maps Go.Sort Cal
attribute [local go_sem] Oper.semAt_some

theorem info_entry : (Tryz.prog.info? 48).map (fun i => (i.zero, i.size, i.bytes)) = some (some (.agg #[.int .i64 0, .int .i64 0]), 2, 16) := by kernel_rfl
/-- a row of entries of one's own -/
def EnR (base : Nat) (W : World) (v : Value) (l : List (Int × Int)) : Prop := W.ownsRow base 48 2 v l.length (mcells l)
theorem EnR.nil (base : Nat) (W : World) : EnR base W (.slice none 0 0) [] := World.ownsRow_nil _ _ _ _
theorem EnR.step {base : Nat} {W W' : World} {v : Value} {l : List (Int × Int)} (h : EnR base W v l) (hb : Below W.heap.size W W') : EnR base W' v l := own_step h hb
theorem enr_cell {W : World} {g : Nat} {cur : Array Value} {ms : List (Int × Int)} (hg : W.heap[g]? = some (.cells cur 48 (0, 0))) (htake : cur.toList.take (ms.length * 2) = mcells ms) (j : Nat) (hj : j < ms.length) :
    W.cell? ⟨g, j * 2, none⟩ = some (.int .i64 ms[j].1) ∧ W.cell? ⟨g, j * 2 + 1, none⟩ = some (.int .i64 ms[j].2) := by
  obtain ⟨a1, a2⟩ := mcells_at ms j hj
  rw [← htake, List.getElem?_take_of_lt (by omega), Array.getElem?_toList] at a1 a2
  constructor
  · simp only [World.cell?, hg]; simpa using a1
  · simp only [World.cell?, hg]; simpa using a2
theorem EnR.movs {base : Nat} {W : World} {sl : Value} {ms : List (Int × Int)} (h : EnR base W sl ms) (hl : ms.length ≤ 80000) : Movs W sl ms := by
  rcases h.2 with ⟨rfl, h0⟩ | ⟨g, cap, cur, rfl, hb, hg, hcap, hmax, hsz, htake⟩
  · rw [List.length_eq_zero_iff.1 h0]; exact Movs.nil W 0
  · have hlt := (Array.getElem?_eq_some_iff.1 hg).1
    refine ⟨_, cap, rfl, hl, hcap, fun j hj => ?_⟩
    obtain ⟨c1, c2⟩ := enr_cell hg htake j hj
    exact ⟨g, rfl, hlt, c1, c2⟩
theorem EnR.form {base : Nat} {W : World} {sl : Value} {ms : List (Int × Int)} (h : EnR base W sl ms) : ∃ a c, sl = .slice a ms.length c := by
  rcases h.2 with ⟨rfl, h0⟩ | ⟨g, cap, cur, rfl, _⟩
  · exact ⟨none, 0, by rw [h0]⟩
  · exact ⟨_, _, rfl⟩

/-- block rb is refs (its map: mb): ns: the names, rising, L: their entries; all rows of entries lie from block lo on -/
structure RefsAt (lo : Nat) (W : World) (rb mb n : Nat) (ns : List ByteArray) (L : ByteArray → List (Int × Int)) : Prop where
  blk : W.heap[rb]? = some (.cells #[.map (some mb)] 45 (0, 0))
  hr : rb < lo
  hm : mb < lo
  ne : mb ≠ rb
  le : lo ≤ W.heap.size
  ups : Ups ns
  mem : ∀ s, s ∈ ns ↔ L s ≠ []
  ex : ∃ (D : DataW Value) (vf : ByteArray → Value), W.ownsMap Tryz.prog 9 hld mb n D ∧ (∀ s, Maps.has D (key s) = true ↔ s ∈ ns) ∧ (∀ s, D.atKey (key s) (.held (.slice none 0 0)) = .held (vf s)) ∧
    (∀ s, EnR lo W (vf s) (L s)) ∧ (∀ s t g, (vf s).ownBlock = some g → (vf t).ownBlock = some g → s = t)
theorem RefsAt.step {lo rb mb n : Nat} {W W' : World} {ns : List ByteArray} {L : ByteArray → List (Int × Int)} (h : RefsAt lo W rb mb n ns L) (hb : Below W.heap.size W W') : RefsAt lo W' rb mb n ns L := by
  obtain ⟨D, vf, h1, h2, h3, h4, h5⟩ := h.ex
  exact ⟨(hb.block _ (Array.getElem?_eq_some_iff.1 h.blk).1).trans h.blk, h.hr, h.hm, h.ne, Nat.le_trans h.le hb.size, h.ups, h.mem, D, vf, h1.kept (grown_below hb none) (by simp), h2, h3, fun s => (h4 s).step hb, h5⟩
/-- a write of another block below the rows -/
theorem RefsAt.grown {lo rb mb n B : Nat} {W W' : World} {ns : List ByteArray} {L : ByteArray → List (Int × Int)} (h : RefsAt lo W rb mb n ns L) (hg : W.grownBy W' (some B)) (hB : B < lo) (h1 : B ≠ rb) (h2 : B ≠ mb) : RefsAt lo W' rb mb n ns L := by
  obtain ⟨D, vf, q1, q2, q3, q4, q5⟩ := h.ex
  refine ⟨(hg.block _ (Array.getElem?_eq_some_iff.1 h.blk).1 (fun q => h1 (Option.some.inj q).symm)).trans h.blk, h.hr, h.hm, h.ne, Nat.le_trans h.le hg.size, h.ups, h.mem, D, vf, q1.kept hg (fun q => h2 (Option.some.inj q).symm), q2, q3, fun s => World.ownsRow.kept (q4 s) hg (.inr (fun he => ?_)), q5⟩
  have := (World.ownsRow.lt (q4 s) _ he).1
  omega
theorem RefsAt.cell {lo rb mb n : Nat} {W : World} {ns : List ByteArray} {L : ByteArray → List (Int × Int)} (h : RefsAt lo W rb mb n ns L) : W.cell? ⟨rb, 0, none⟩ = some (.map (some mb)) := by simp [World.cell?, h.blk]
theorem zeroEs (w : World) : (zeroValue 50).run Tryz.prog w = .ok (.slice none 0 0) w := Tryz.zeroValue50 w
theorem rlook_eq {mb n : Nat} {D : DataW Value} {W : World} (h : W.ownsMap Tryz.prog 9 hld mb n D) {s : ByteArray} (hs : s.size ≤ 1000) {u : Value} (hat : D.atKey (key s) (.held (.slice none 0 0)) = .held u) :
    (Instr.lookup 43 (.map (some mb)) (.string s) false).run Tryz.prog W = .ok u W := by
  obtain ⟨es, clock, hb, F, _, rfl⟩ := h
  rcases Maps.fit_look false law Tryz.underlying43 (zeroEs W) hb F (key_of hs) with ⟨hrun, _, hq⟩ | ⟨e0, y, _, _, hrun, hRv, hq, _⟩
  · rw [hq] at hat
    cases hat
    exact hrun
  · have h2 := hld_inv hRv
    rw [← hq, hat] at h2
    cases h2
    exact hrun
/-- what a name's look-up gives -/
theorem RefsAt.look {lo rb mb n : Nat} {W : World} {ns : List ByteArray} {L : ByteArray → List (Int × Int)} (h : RefsAt lo W rb mb n ns L) (s : ByteArray) (hs : s.size ≤ 1000) :
    ∃ v, (Instr.lookup 43 (.map (some mb)) (.string s) false).run Tryz.prog W = .ok v W ∧ EnR lo W v (L s) := by
  obtain ⟨D, vf, h1, h2, h3, h4, h5⟩ := h.ex
  exact ⟨vf s, rlook_eq h1 hs (h3 s), h4 s⟩

/-- an entry's field To -/
theorem fld_to (x y : Value) (w : World) : (Instr.field 48 (.agg #[x, y]) 1).run Tryz.prog w = .ok y w := by kernel_rfl
theorem ent_cells {W : World} {B : Nat} {x y : Int} (h : W.heap[B]? = some (.cells #[.int .i64 x, .int .i64 y] 48 (0, 0))) : W.cell? ⟨B, 0, none⟩ = some (.int .i64 x) ∧ W.cell? ⟨B, 1, none⟩ = some (.int .i64 y) := by simp [World.cell?, h]
set_option maxHeartbeats 1000000 in
theorem lastOf_any (l : List (Int × Int)) (v : Value) (w : World) (h : Movs w v l) :
    Calls Tryz.prog 17 #[v] w fun r w' => r = .returned (.agg #[.int .i64 (lst l).1, .int .i64 (lst l).2]) ∧ Below w.heap.size w w' := by
  obtain ⟨a, c, rfl, h8, hc, hcell⟩ := h
  rcases Nat.eq_zero_or_pos l.length with q | q
  · have e : l = [] := List.length_eq_zero_iff.1 q
    subst e
    rw [lst_nil]
    clear hcell
    go_enter Tryz.func17, Tryz.ntmps17
    go_wp2
    obtain ⟨c0, c1⟩ := ent_cells (show (w.alloc (.cells #[.int .i64 0, .int .i64 (-1)] 48)).heap[w.heap.size]? = _ from block_at _ rfl)
    refine bodyPost_ret (v := .agg #[.int .i64 0, .int .i64 (-1)]) (by simp [results, Tryz.f17, go_sem, c0, c1]) rfl ⟨rfl, below_alloc _ _⟩
  · obtain ⟨b, rfl, hb, c1, c2⟩ := hcell (l.length - 1) (by omega)
    rw [lst_at q]
    generalize l[l.length - 1] = e at c1 c2
    clear hcell
    generalize l.length = m at *
    go_enter Tryz.func17, Tryz.ntmps17
    go_wp2
    obtain ⟨d0, d1⟩ := ent_cells (show (w.alloc (.cells #[.int .i64 e.1, .int .i64 e.2] 48)).heap[w.heap.size]? = _ from block_at _ rfl)
    refine bodyPost_ret (v := .agg #[.int .i64 e.1, .int .i64 e.2]) (by simp [results, Tryz.f17, go_sem, d0, d1]) rfl ⟨rfl, below_alloc _ _⟩
/-- what an entry tells of a commit -/
def ofV (y : Int) : Int := if y = -1 then 0 else y
theorem commitOf_any (x y : Int) (w : World) : Calls Tryz.prog 20 #[.agg #[.int .i64 x, .int .i64 y]] w fun r w' => r = .returned (.tuple #[.int .i64 (ofV y), .bool (!decide (y = -1))]) ∧ Below w.heap.size w w' := by
  unfold ofV
  by_cases h : y = -1
  · subst h
    go_enter Tryz.func20, Tryz.ntmps20
    go_wp2
    go_ret2
    exact ⟨rfl, below_alloc _ _⟩
  · rw [if_neg h, decide_eq_false h]
    have h1 : (y == -1) = false := by rw [beq_eq_false_iff_ne]; exact h
    go_enter Tryz.func20, Tryz.ntmps20
    go_wp2
    go_ret2
    exact ⟨rfl, below_alloc _ _⟩
theorem rInB_any (n : Int) (w : World) : Calls Tryz.prog 22 #[.int .i64 n] w fun r w' => r = .returned (.bool (decide (0 ≤ n ∧ n ≤ 1099511627776))) ∧ w' = w := by
  by_cases h1 : 0 ≤ n
  · by_cases h2 : n ≤ 1099511627776
    · rw [decide_eq_true ⟨h1, h2⟩]
      go_enter Tryz.func22, Tryz.ntmps22
      go_wp2
      go_ret
      exact ⟨rfl, rfl⟩
    · rw [decide_eq_false (fun q => h2 q.2)]
      go_enter Tryz.func22, Tryz.ntmps22
      go_wp2
      go_ret
      exact ⟨rfl, rfl⟩
  · rw [decide_eq_false (fun q => h1 q.1)]
    go_enter Tryz.func22, Tryz.ntmps22
    go_wp2
    go_ret
    exact ⟨rfl, rfl⟩
theorem rIsAt_any (x y old : Int) (w : World) : Calls Tryz.prog 23 #[.agg #[.int .i64 x, .int .i64 y], .int .i64 old] w fun r w' => r = .returned (.bool (decide (y = max old (-1)))) ∧ Below w.heap.size w w' := by
  by_cases h : y = max old (-1)
  · rw [decide_eq_true h]
    go_enter Tryz.func23, Tryz.ntmps23
    go_wp2
    go_ret
    exact ⟨rfl, below_alloc _ _⟩
  · rw [decide_eq_false h]
    have h1 : (y == max old (-1)) = false := by rw [beq_eq_false_iff_ne]; exact h
    go_enter Tryz.func23, Tryz.ntmps23
    go_wp2
    go_ret
    exact ⟨rfl, below_alloc _ _⟩
theorem rnew_any (w : World) : Calls Tryz.prog 5 #[] w fun r w' => r = .returned (.pointer (some ⟨w.heap.size + 1, 0, none⟩)) ∧ w' = (w.alloc (.map #[] 0)).alloc (.cells #[.map (some w.heap.size)] 45) := by
  have hmm := @run_makeMap Tryz.prog
  go_enter Tryz.func5, Tryz.ntmps5
  go_wp2
  go_ret
  exact ⟨rfl, rfl⟩
theorem refs_made (w : World) : RefsAt (w.heap.size + 2) ((w.alloc (.map #[] 0)).alloc (.cells #[.map (some w.heap.size)] 45)) (w.heap.size + 1) w.heap.size 0 [] (fun _ => []) := by
  refine ⟨block_at _ (World.size_alloc _ _), by omega, by omega, by omega, by simp [World.size_alloc], List.Pairwise.nil, fun s => by simp, .map [], fun _ => .slice none 0 0, World.ownsMap.alloc (World.ownsMap_made w Tryz.prog 9 hld) _, fun s => by simp [Maps.has], fun s => rfl, fun s => EnR.nil _ _, fun s t g h => by cases h⟩
set_option maxHeartbeats 1000000 in
theorem rget_any (lo rb mb n : Nat) (ns : List ByteArray) (L : ByteArray → List (Int × Int)) (s : ByteArray) (w : World) (h : RefsAt lo w rb mb n ns L) (hs : s.size ≤ 1000) (hl : (L s).length ≤ 80000) :
    Calls Tryz.prog 13 #[.pointer (some ⟨rb, 0, none⟩), .string s] w fun r w' => r = .returned (.tuple #[.int .i64 (ofV (lst (L s)).2), .bool (!decide ((lst (L s)).2 = -1))]) ∧ Below w.heap.size w w' := by
  obtain ⟨v, LK, hv⟩ := h.look s hs
  have hc := h.cell
  have LA : Hid (Calls _ _ _ _ _) := lastOf_any (L s) v w (hv.movs hl)
  have CO : Hid (∀ W, _) := fun W => commitOf_any (lst (L s)).1 (lst (L s)).2 W
  clear h hv
  generalize lst (L s) = e at LA CO
  go_enter Tryz.func13, Tryz.ntmps13
  go_wp2_with (first
    | (go_at_call 17; refine Calls.mono LA.out ?_; rintro r w1 ⟨rfl, hb1⟩)
    | (go_at_call 20; refine Calls.mono (CO.out _) ?_; rintro r w2 ⟨rfl, hb2⟩))
  go_ret2
  exact ⟨rfl, below_then hb1 hb2⟩

theorem keys_R {mb n : Nat} {W : World} {D : DataW Value} {ns : List ByteArray} (h : W.ownsMap Tryz.prog 9 hld mb n D) (hu : Ups ns) (hh : ∀ s, Maps.has D (key s) = true ↔ s ∈ ns) {ss : List (List UInt8)} (hp : ss.Perm (strKeys D)) : ss.mergeSort (fun x y => decide (x ≤ y)) = ns.map (fun s => s.data.toList) := by
  have hsk : (ns.map (fun s => s.data.toList)).Perm (strKeys D) := by
    obtain ⟨es, hD, hpw⟩ := h.tidy law
    have hks : ∀ p ∈ es, ∃ x, p.1 = .string x := by
      obtain ⟨es', hD', hko⟩ := h.keysOf
      obtain rfl : es = es' := by rw [hD] at hD'; simpa using hD'
      exact fun p hp => by obtain ⟨v, hv⟩ := hko p hp; obtain ⟨x, _, hx, _⟩ := Maps.keyOf_str Tryz.underlying9 hv; exact ⟨x, hx⟩
    have hnd : (ns.map (fun s => s.data.toList)).Nodup := List.pairwise_map.2 (hu.imp (fun {a b} q e => by rw [e] at q; exact List.lt_irrefl _ q))
    have hm : ∀ x, x ∈ ns.map (fun s => s.data.toList) ↔ Maps.has (.map es) (.string x) = true := fun x => by
      rw [← hD, List.mem_map]
      have := hh ⟨x.toArray⟩
      unfold key at this
      constructor
      · rintro ⟨s, hs, rfl⟩
        have := (hh s).2 hs
        exact this
      · intro q
        exact ⟨⟨x.toArray⟩, this.1 q, rfl⟩
    rw [hD]
    exact perm_strKeys hpw hks hnd hm
  rw [mergeSort_of_perm (hp.trans hsk.symm)]
  refine List.mergeSort_of_pairwise ?_
  exact List.pairwise_map.2 (hu.imp (fun {a b} q => decide_eq_true (List.le_of_lt q)))
set_option maxHeartbeats 1000000 in
theorem allNames_any (lo rb mb n : Nat) (ns : List ByteArray) (L : ByteArray → List (Int × Int)) (w : World) (h : RefsAt lo w rb mb n ns L) (hn : n ≤ 100000) :
    Calls Tryz.prog 15 #[.pointer (some ⟨rb, 0, none⟩)] w fun r w' => ∃ v, r = .returned v ∧ RowV w.heap.size w' v ns ∧ Below w.heap.size w w' := by
  have hc := h.cell
  obtain ⟨D, vf, hown, h2, h3, h4, h5⟩ := h.ex
  have hu := h.ups
  have hsz := hown.size_le
  have SK := Tryz.slices_Sorted_keys_30_31 mb n D hld w hown (by unfold maxLen; omega) (by omega)
  have HK : Hid (CallsIn _ _ _ _ _ _ _) := SK
  clear SK h h3 h4 h5
  refine (callsIn_wide (n := 6)).1 ?_
  have hfK : Fence.wide.fn 31 := trivial
  have hfS : Fence.wide.fn 30 := trivial
  refine callsIn_of_wp Tryz.func15 rfl trivial ?_ rfl
  simp only [Tryz.ntmps15, List.size_toArray, List.length_cons, List.length_nil, Nat.reduceAdd, Nat.reduceSub, Array.replicate_succ, Array.replicate_zero, List.push_toArray, List.append_toArray, List.nil_append, List.cons_append]
  gi_wp2_with (first
    | (gi_at_call 31; refine (Tryz.maps_Keys_31 _ _).mono ?_; rintro e w' ⟨rfl, rfl⟩)
    | (gi_at_call 30; refine CallsIn.mono HK.out ?_; rintro e w' ⟨v, ss, rfl, hS, hrow, hnil, hb⟩))
  go_ret
  refine ⟨v, rfl, ?_, below_then (below_alloc _ _) hb⟩
  have hr := rowV_own (own_base hrow (show w.heap.size ≤ _ by rw [World.size_alloc]; omega))
  rw [keys_R hown hu h2 hS, List.map_map] at hr
  have e : ns.map (bs ∘ fun s => s.data.toList) = ns := by
    conv => rhs; rw [← List.map_id ns]
    refine List.map_congr_left (fun x _ => ?_)
    show bs x.data.toList = x
    exact rs_ext (bs_data _)
  rwa [e] at hr
end Go.Proofs.YtanjgollffkafaaGreatDoor

/- Package book's On. -/
namespace Go.Proofs.YtanjgollffkafaaGreatDoor
open Go Go.RowKit Go.Maps Go.Sort Cal
attribute [local go_sem] Oper.semAt_some

theorem grown_to {w A C : World} {B : Nat} (h : Below w.heap.size w A) (k : A.grownBy C (some B)) (hB : w.heap.size ≤ B) : Below w.heap.size w C :=
  ⟨k.os.trans h.os, k.tape.trans h.tape, k.output.trans h.output, Nat.le_trans h.size k.size, fun i hi => (k.block i (Nat.lt_of_lt_of_le hi h.size) (fun q => by have := Option.some.inj q; omega)).trans (h.block i hi)⟩

theorem cell_of {W : World} {n : Nat} {v : Value} {t : TypeId} (h : W.heap[n]? = some (.cells #[v] t (0, 0))) : W.cell? ⟨n, 0, none⟩ = some v := by simp [World.cell?, h]

theorem deleteV (g : Nat) (lb : Array Value) (p : ByteArray → Bool) (l : List ByteArray) (base : Nat) (v : Value) (w : World) (hR : RowV base w v l) (h8 : l.length ≤ 80000) (eg : ∀ args W, (callFunc g args).run Tryz.prog W = .ok (.enter g args) W)
    (hp : ∀ x ∈ l, ∀ (B : Nat) (W : World), base ≤ B → w.grownBy W (some B) → Calls Tryz.prog g (#[.string x] ++ lb) W fun r w' => r = .returned (.bool (p x)) ∧ Below W.heap.size W w') :
    Calls Tryz.prog 14 #[v, .func (.func g) #[] lb] w fun r w' => ∃ v', r = .returned v' ∧ RowV base w' v' (l.filter fun x => !p x) ∧ ∃ B, base ≤ B ∧ w.grownBy w' (some B) := by
  rcases hR with ⟨rfl, rfl⟩ | ⟨B, cap, rfl, hB, hrow⟩
  · refine Calls.mono (deleteFuncS_nil g lb w) ?_
    rintro r w' ⟨rfl, rfl⟩
    exact ⟨_, rfl, .inl ⟨rfl, rfl⟩, base, Nat.le_refl _, grown_below (Below.refl _ _) _⟩
  · refine Calls.mono (deleteFuncS_any g lb p l B cap w hrow h8 eg (fun x hx W hW => hp x hx B W hB hW)) ?_
    rintro r w' ⟨rfl, h1, h2⟩
    exact ⟨_, rfl, .inr ⟨B, cap, rfl, hB, h1⟩, B, hB, h2⟩
theorem RowV.base {a b : Nat} {W : World} {v : Value} {l : List ByteArray} (h : RowV b W v l) (hab : a ≤ b) : RowV a W v l := by
  rcases h with h | ⟨B, cap, h1, h2, h3⟩
  · exact .inl h
  · exact .inr ⟨B, cap, h1, Nat.le_trans hab h2, h3⟩

end Go.Proofs.YtanjgollffkafaaGreatDoor
