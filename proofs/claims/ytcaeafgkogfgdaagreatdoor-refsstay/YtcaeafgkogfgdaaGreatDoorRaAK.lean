/- Names of commits in memory: a row of entries, refs; lastOf, commitOf, isAt, inBounds, New, Get, allNames. -/
import Derived.Test.YtcaeafgkogfgdaaGreatDoorRaAF
import Derived.Test.YtcaeafgkogfgdaaGreatDoorRaAJ
import Derived.Deep.AppendLies
import Derived.TacticsInMore
import Derived.Stop.Asserts
import Derived.BigRegion
namespace Go.Proofs.YtcaeafgkogfgdaaGreatDoor
open Go Go.RowKit Go.Maps Go.Sort Cal
attribute [local go_sem] Oper.semAt_some

theorem info_entry : (Tryz.prog.info? 48).map (fun i => (i.zero, i.size, i.bytes)) = some (some (.agg #[.int .i64 0, .int .i64 0]), 2, 16) := by kernel_rfl
/-- a row of entries of one's own -/
def EnR (base : Nat) (W : World) (v : Value) (l : List (Int × Int)) : Prop := W.ownsRow base 48 2 v l.length (mcells l)
theorem EnR.nil (base : Nat) (W : World) : EnR base W (.slice none 0 0) [] := World.ownsRow_nil _ _ _ _
theorem EnR.step {base : Nat} {W W' : World} {v : Value} {l : List (Int × Int)} (h : EnR base W v l) (hb : Below W.heap.size W W') : EnR base W' v l := own_step h hb
theorem enr_cell {W : World} {g : Nat} {cur : Array Value} {ms : List (Int × Int)} (hg : W.heap[g]? = some (.cells cur 48 (0, 0))) (htake : cur.toList.take (ms.length * 2) = mcells ms) (j : Nat) (hj : j < ms.length) :
    W.cell? ⟨g, j * 2, none⟩ = some (.int .i64 ms[j].1) ∧ W.cell? ⟨g, j * 2 + 1, none⟩ = some (.int .i64 ms[j].2) := by
  obtain ⟨a1, a2⟩ := mcells_at ms j hj
  rw [← htake, List.getElem?_take_of_lt (by omega), Array.getElem?_toList] at a1 a2
  constructor
  · simp only [World.cell?, hg]; simpa using a1
  · simp only [World.cell?, hg]; simpa using a2
theorem EnR.movs {base : Nat} {W : World} {sl : Value} {ms : List (Int × Int)} (h : EnR base W sl ms) (hl : ms.length ≤ 80000) : Movs W sl ms := by
  rcases h.2 with ⟨rfl, h0⟩ | ⟨g, cap, cur, rfl, hb, hg, hcap, hmax, hsz, htake⟩
  · rw [List.length_eq_zero_iff.1 h0]; exact Movs.nil W 0
  · have hlt := (Array.getElem?_eq_some_iff.1 hg).1
    refine ⟨_, cap, rfl, hl, hcap, fun j hj => ?_⟩
    obtain ⟨c1, c2⟩ := enr_cell hg htake j hj
    exact ⟨g, rfl, hlt, c1, c2⟩
theorem EnR.form {base : Nat} {W : World} {sl : Value} {ms : List (Int × Int)} (h : EnR base W sl ms) : ∃ a c, sl = .slice a ms.length c := by
  rcases h.2 with ⟨rfl, h0⟩ | ⟨g, cap, cur, rfl, _⟩
  · exact ⟨none, 0, by rw [h0]⟩
  · exact ⟨_, _, rfl⟩

/-- block rb is refs (its map: mb): ns: the names, rising, L: their entries; all rows of entries lie from block lo on -/
structure RefsAt (lo : Nat) (W : World) (rb mb n : Nat) (ns : List ByteArray) (L : ByteArray → List (Int × Int)) : Prop where
  blk : W.heap[rb]? = some (.cells #[.map (some mb)] 45 (0, 0))
  hr : rb < lo
  hm : mb < lo
  ne : mb ≠ rb
  le : lo ≤ W.heap.size
  ups : Ups ns
  mem : ∀ s, s ∈ ns ↔ L s ≠ []
  ex : ∃ (D : DataW Value) (vf : ByteArray → Value), W.ownsMap Tryz.prog 9 hld mb n D ∧ (∀ s, Maps.has D (key s) = true ↔ s ∈ ns) ∧ (∀ s, D.atKey (key s) (.held (.slice none 0 0)) = .held (vf s)) ∧
    (∀ s, EnR lo W (vf s) (L s)) ∧ (∀ s t g, (vf s).ownBlock = some g → (vf t).ownBlock = some g → s = t)
theorem RefsAt.step {lo rb mb n : Nat} {W W' : World} {ns : List ByteArray} {L : ByteArray → List (Int × Int)} (h : RefsAt lo W rb mb n ns L) (hb : Below W.heap.size W W') : RefsAt lo W' rb mb n ns L := by
  obtain ⟨D, vf, h1, h2, h3, h4, h5⟩ := h.ex
  exact ⟨(hb.block _ (Array.getElem?_eq_some_iff.1 h.blk).1).trans h.blk, h.hr, h.hm, h.ne, Nat.le_trans h.le hb.size, h.ups, h.mem, D, vf, h1.kept (grown_below hb none) (by simp), h2, h3, fun s => (h4 s).step hb, h5⟩
/-- a write of another block below the rows -/
theorem RefsAt.grown {lo rb mb n B : Nat} {W W' : World} {ns : List ByteArray} {L : ByteArray → List (Int × Int)} (h : RefsAt lo W rb mb n ns L) (hg : W.grownBy W' (some B)) (hB : B < lo) (h1 : B ≠ rb) (h2 : B ≠ mb) : RefsAt lo W' rb mb n ns L := by
  obtain ⟨D, vf, q1, q2, q3, q4, q5⟩ := h.ex
  refine ⟨(hg.block _ (Array.getElem?_eq_some_iff.1 h.blk).1 (fun q => h1 (Option.some.inj q).symm)).trans h.blk, h.hr, h.hm, h.ne, Nat.le_trans h.le hg.size, h.ups, h.mem, D, vf, q1.kept hg (fun q => h2 (Option.some.inj q).symm), q2, q3, fun s => World.ownsRow.kept (q4 s) hg (.inr (fun he => ?_)), q5⟩
  have := (World.ownsRow.lt (q4 s) _ he).1
  omega
theorem RefsAt.cell {lo rb mb n : Nat} {W : World} {ns : List ByteArray} {L : ByteArray → List (Int × Int)} (h : RefsAt lo W rb mb n ns L) : W.cell? ⟨rb, 0, none⟩ = some (.map (some mb)) := by simp [World.cell?, h.blk]
theorem zeroEs (w : World) : (zeroValue 50).run Tryz.prog w = .ok (.slice none 0 0) w := Tryz.zeroValue50 w
theorem rlook_eq {mb n : Nat} {D : DataW Value} {W : World} (h : W.ownsMap Tryz.prog 9 hld mb n D) {s : ByteArray} (hs : s.size ≤ 1000) {u : Value} (hat : D.atKey (key s) (.held (.slice none 0 0)) = .held u) :
    (Instr.lookup 43 (.map (some mb)) (.string s) false).run Tryz.prog W = .ok u W := by
  obtain ⟨es, clock, hb, F, _, rfl⟩ := h
  rcases Maps.fit_look false law Tryz.underlying43 (zeroEs W) hb F (key_of hs) with ⟨hrun, _, hq⟩ | ⟨e0, y, _, _, hrun, hRv, hq, _⟩
  · rw [hq] at hat
    cases hat
    exact hrun
  · have h2 := hld_inv hRv
    rw [← hq, hat] at h2
    cases h2
    exact hrun
/-- what a name's look-up gives -/
theorem RefsAt.look {lo rb mb n : Nat} {W : World} {ns : List ByteArray} {L : ByteArray → List (Int × Int)} (h : RefsAt lo W rb mb n ns L) (s : ByteArray) (hs : s.size ≤ 1000) :
    ∃ v, (Instr.lookup 43 (.map (some mb)) (.string s) false).run Tryz.prog W = .ok v W ∧ EnR lo W v (L s) := by
  obtain ⟨D, vf, h1, h2, h3, h4, h5⟩ := h.ex
  exact ⟨vf s, rlook_eq h1 hs (h3 s), h4 s⟩

/-- an entry's field To -/
theorem fld_to (x y : Value) (w : World) : (Instr.field 48 (.agg #[x, y]) 1).run Tryz.prog w = .ok y w := by kernel_rfl
theorem ent_cells {W : World} {B : Nat} {x y : Int} (h : W.heap[B]? = some (.cells #[.int .i64 x, .int .i64 y] 48 (0, 0))) : W.cell? ⟨B, 0, none⟩ = some (.int .i64 x) ∧ W.cell? ⟨B, 1, none⟩ = some (.int .i64 y) := by simp [World.cell?, h]
set_option maxHeartbeats 1000000 in
theorem lastOf_any (l : List (Int × Int)) (v : Value) (w : World) (h : Movs w v l) :
    Calls Tryz.prog 17 #[v] w fun r w' => r = .returned (.agg #[.int .i64 (lst l).1, .int .i64 (lst l).2]) ∧ Below w.heap.size w w' := by
  obtain ⟨a, c, rfl, h8, hc, hcell⟩ := h
  rcases Nat.eq_zero_or_pos l.length with q | q
  · have e : l = [] := List.length_eq_zero_iff.1 q
    subst e
    rw [lst_nil]
    clear hcell
    go_enter Tryz.func17, Tryz.ntmps17
    go_wp2
    obtain ⟨c0, c1⟩ := ent_cells (show (w.alloc (.cells #[.int .i64 0, .int .i64 (-1)] 48)).heap[w.heap.size]? = _ from block_at _ rfl)
    refine bodyPost_ret (v := .agg #[.int .i64 0, .int .i64 (-1)]) (by simp [results, Tryz.f17, go_sem, c0, c1]) rfl ⟨rfl, below_alloc _ _⟩
  · obtain ⟨b, rfl, hb, c1, c2⟩ := hcell (l.length - 1) (by omega)
    rw [lst_at q]
    generalize l[l.length - 1] = e at c1 c2
    clear hcell
    generalize l.length = m at *
    go_enter Tryz.func17, Tryz.ntmps17
    go_wp2
    obtain ⟨d0, d1⟩ := ent_cells (show (w.alloc (.cells #[.int .i64 e.1, .int .i64 e.2] 48)).heap[w.heap.size]? = _ from block_at _ rfl)
    refine bodyPost_ret (v := .agg #[.int .i64 e.1, .int .i64 e.2]) (by simp [results, Tryz.f17, go_sem, d0, d1]) rfl ⟨rfl, below_alloc _ _⟩
/-- what an entry tells of a commit -/
def ofV (y : Int) : Int := if y = -1 then 0 else y
theorem commitOf_any (x y : Int) (w : World) : Calls Tryz.prog 20 #[.agg #[.int .i64 x, .int .i64 y]] w fun r w' => r = .returned (.tuple #[.int .i64 (ofV y), .bool (!decide (y = -1))]) ∧ Below w.heap.size w w' := by
  unfold ofV
  by_cases h : y = -1
  · subst h
    go_enter Tryz.func20, Tryz.ntmps20
    go_wp2
    go_ret2
    exact ⟨rfl, below_alloc _ _⟩
  · rw [if_neg h, decide_eq_false h]
    have h1 : (y == -1) = false := by rw [beq_eq_false_iff_ne]; exact h
    go_enter Tryz.func20, Tryz.ntmps20
    go_wp2
    go_ret2
    exact ⟨rfl, below_alloc _ _⟩
theorem rInB_any (n : Int) (w : World) : Calls Tryz.prog 22 #[.int .i64 n] w fun r w' => r = .returned (.bool (decide (0 ≤ n ∧ n ≤ 1099511627776))) ∧ w' = w := by
  by_cases h1 : 0 ≤ n
  · by_cases h2 : n ≤ 1099511627776
    · rw [decide_eq_true ⟨h1, h2⟩]
      go_enter Tryz.func22, Tryz.ntmps22
      go_wp2
      go_ret
      exact ⟨rfl, rfl⟩
    · rw [decide_eq_false (fun q => h2 q.2)]
      go_enter Tryz.func22, Tryz.ntmps22
      go_wp2
      go_ret
      exact ⟨rfl, rfl⟩
  · rw [decide_eq_false (fun q => h1 q.1)]
    go_enter Tryz.func22, Tryz.ntmps22
    go_wp2
    go_ret
    exact ⟨rfl, rfl⟩
theorem rIsAt_any (x y old : Int) (w : World) : Calls Tryz.prog 23 #[.agg #[.int .i64 x, .int .i64 y], .int .i64 old] w fun r w' => r = .returned (.bool (decide (y = max old (-1)))) ∧ Below w.heap.size w w' := by
  by_cases h : y = max old (-1)
  · rw [decide_eq_true h]
    go_enter Tryz.func23, Tryz.ntmps23
    go_wp2
    go_ret
    exact ⟨rfl, below_alloc _ _⟩
  · rw [decide_eq_false h]
    have h1 : (y == max old (-1)) = false := by rw [beq_eq_false_iff_ne]; exact h
    go_enter Tryz.func23, Tryz.ntmps23
    go_wp2
    go_ret
    exact ⟨rfl, below_alloc _ _⟩
theorem rnew_any (w : World) : Calls Tryz.prog 5 #[] w fun r w' => r = .returned (.pointer (some ⟨w.heap.size + 1, 0, none⟩)) ∧ w' = (w.alloc (.map #[] 0)).alloc (.cells #[.map (some w.heap.size)] 45) := by
  have hmm := @run_makeMap Tryz.prog
  go_enter Tryz.func5, Tryz.ntmps5
  go_wp2
  go_ret
  exact ⟨rfl, rfl⟩
theorem refs_made (w : World) : RefsAt (w.heap.size + 2) ((w.alloc (.map #[] 0)).alloc (.cells #[.map (some w.heap.size)] 45)) (w.heap.size + 1) w.heap.size 0 [] (fun _ => []) := by
  refine ⟨block_at _ (World.size_alloc _ _), by omega, by omega, by omega, by simp [World.size_alloc], List.Pairwise.nil, fun s => by simp, .map [], fun _ => .slice none 0 0, World.ownsMap.alloc (World.ownsMap_made w Tryz.prog 9 hld) _, fun s => by simp [Maps.has], fun s => rfl, fun s => EnR.nil _ _, fun s t g h => by cases h⟩
set_option maxHeartbeats 1000000 in
theorem rget_any (lo rb mb n : Nat) (ns : List ByteArray) (L : ByteArray → List (Int × Int)) (s : ByteArray) (w : World) (h : RefsAt lo w rb mb n ns L) (hs : s.size ≤ 1000) (hl : (L s).length ≤ 80000) :
    Calls Tryz.prog 13 #[.pointer (some ⟨rb, 0, none⟩), .string s] w fun r w' => r = .returned (.tuple #[.int .i64 (ofV (lst (L s)).2), .bool (!decide ((lst (L s)).2 = -1))]) ∧ Below w.heap.size w w' := by
  obtain ⟨v, LK, hv⟩ := h.look s hs
  have hc := h.cell
  have LA : Hid (Calls _ _ _ _ _) := lastOf_any (L s) v w (hv.movs hl)
  have CO : Hid (∀ W, _) := fun W => commitOf_any (lst (L s)).1 (lst (L s)).2 W
  clear h hv
  generalize lst (L s) = e at LA CO
  go_enter Tryz.func13, Tryz.ntmps13
  go_wp2_with (first
    | (go_at_call 17; refine Calls.mono LA.out ?_; rintro r w1 ⟨rfl, hb1⟩)
    | (go_at_call 20; refine Calls.mono (CO.out _) ?_; rintro r w2 ⟨rfl, hb2⟩))
  go_ret2
  exact ⟨rfl, below_then hb1 hb2⟩

theorem keys_R {mb n : Nat} {W : World} {D : DataW Value} {ns : List ByteArray} (h : W.ownsMap Tryz.prog 9 hld mb n D) (hu : Ups ns) (hh : ∀ s, Maps.has D (key s) = true ↔ s ∈ ns) {ss : List (List UInt8)} (hp : ss.Perm (strKeys D)) : ss.mergeSort (fun x y => decide (x ≤ y)) = ns.map (fun s => s.data.toList) := by
  have hsk : (ns.map (fun s => s.data.toList)).Perm (strKeys D) := by
    obtain ⟨es, hD, hpw⟩ := h.tidy law
    have hks : ∀ p ∈ es, ∃ x, p.1 = .string x := by
      obtain ⟨es', hD', hko⟩ := h.keysOf
      obtain rfl : es = es' := by rw [hD] at hD'; simpa using hD'
      exact fun p hp => by obtain ⟨v, hv⟩ := hko p hp; obtain ⟨x, _, hx, _⟩ := Maps.keyOf_str Tryz.underlying9 hv; exact ⟨x, hx⟩
    have hnd : (ns.map (fun s => s.data.toList)).Nodup := List.pairwise_map.2 (hu.imp (fun {a b} q e => by rw [e] at q; exact List.lt_irrefl _ q))
    have hm : ∀ x, x ∈ ns.map (fun s => s.data.toList) ↔ Maps.has (.map es) (.string x) = true := fun x => by
      rw [← hD, List.mem_map]
      have := hh ⟨x.toArray⟩
      unfold key at this
      constructor
      · rintro ⟨s, hs, rfl⟩
        have := (hh s).2 hs
        exact this
      · intro q
        exact ⟨⟨x.toArray⟩, this.1 q, rfl⟩
    rw [hD]
    exact perm_strKeys hpw hks hnd hm
  rw [mergeSort_of_perm (hp.trans hsk.symm)]
  refine List.mergeSort_of_pairwise ?_
  exact List.pairwise_map.2 (hu.imp (fun {a b} q => decide_eq_true (List.le_of_lt q)))
set_option maxHeartbeats 1000000 in
theorem allNames_any (lo rb mb n : Nat) (ns : List ByteArray) (L : ByteArray → List (Int × Int)) (w : World) (h : RefsAt lo w rb mb n ns L) (hn : n ≤ 100000) :
    Calls Tryz.prog 15 #[.pointer (some ⟨rb, 0, none⟩)] w fun r w' => ∃ v, r = .returned v ∧ RowV w.heap.size w' v ns ∧ Below w.heap.size w w' := by
  have hc := h.cell
  obtain ⟨D, vf, hown, h2, h3, h4, h5⟩ := h.ex
  have hu := h.ups
  have hsz := hown.size_le
  have SK := Tryz.slices_Sorted_keys_30_31 mb n D hld w hown (by unfold maxLen; omega) (by omega)
  have HK : Hid (CallsIn _ _ _ _ _ _ _) := SK
  clear SK h h3 h4 h5
  refine (callsIn_wide (n := 6)).1 ?_
  have hfK : Fence.wide.fn 31 := trivial
  have hfS : Fence.wide.fn 30 := trivial
  refine callsIn_of_wp Tryz.func15 rfl trivial ?_ rfl
  simp only [Tryz.ntmps15, List.size_toArray, List.length_cons, List.length_nil, Nat.reduceAdd, Nat.reduceSub, Array.replicate_succ, Array.replicate_zero, List.push_toArray, List.append_toArray, List.nil_append, List.cons_append]
  gi_wp2_with (first
    | (gi_at_call 31; refine (Tryz.maps_Keys_31 _ _).mono ?_; rintro e w' ⟨rfl, rfl⟩)
    | (gi_at_call 30; refine CallsIn.mono HK.out ?_; rintro e w' ⟨v, ss, rfl, hS, hrow, hnil, hb⟩))
  go_ret
  refine ⟨v, rfl, ?_, below_then (below_alloc _ _) hb⟩
  have hr := rowV_own (own_base hrow (show w.heap.size ≤ _ by rw [World.size_alloc]; omega))
  rw [keys_R hown hu h2 hS, List.map_map] at hr
  have e : ns.map (bs ∘ fun s => s.data.toList) = ns := by
    conv => rhs; rw [← List.map_id ns]
    refine List.map_congr_left (fun x _ => ?_)
    show bs x.data.toList = x
    exact rs_ext (bs_data _)
  rwa [e] at hr
end Go.Proofs.YtcaeafgkogfgdaaGreatDoor

/- Package book's On. -/
namespace Go.Proofs.YtcaeafgkogfgdaaGreatDoor
open Go Go.RowKit Go.Maps Go.Sort Cal
attribute [local go_sem] Oper.semAt_some

/-- what a book holds: an event for each of its IDs; c: does it cover day d? -/
def Holds60 (w : World) (D : DataW Value) (d : Int) (c : ByteArray → Bool) : Prop :=
  ∀ k ∈ strKeys D, ∃ E sl skv mvv, D.atKey (key (bs k)) (.held zV) = .held (ev E sl skv mvv) ∧ Ls w E sl skv mvv ∧ E.id.size ≤ 60 ∧ E.ti.size ≤ 60 ∧ (bs k).size ≤ 1000 ∧ (c (bs k) = true ↔ covers E d)

theorem grown_to {w A C : World} {B : Nat} (h : Below w.heap.size w A) (k : A.grownBy C (some B)) (hB : w.heap.size ≤ B) : Below w.heap.size w C :=
  ⟨k.os.trans h.os, k.tape.trans h.tape, k.output.trans h.output, Nat.le_trans h.size k.size, fun i hi => (k.block i (Nat.lt_of_lt_of_le hi h.size) (fun q => by have := Option.some.inj q; omega)).trans (h.block i hi)⟩

theorem cell_of {W : World} {n : Nat} {v : Value} {t : TypeId} (h : W.heap[n]? = some (.cells #[v] t (0, 0))) : W.cell? ⟨n, 0, none⟩ = some v := by simp [World.cell?, h]

theorem deleteV (g : Nat) (lb : Array Value) (p : ByteArray → Bool) (l : List ByteArray) (base : Nat) (v : Value) (w : World) (hR : RowV base w v l) (h8 : l.length ≤ 80000) (eg : ∀ args W, (callFunc g args).run Tryz.prog W = .ok (.enter g args) W)
    (hp : ∀ x ∈ l, ∀ (B : Nat) (W : World), base ≤ B → w.grownBy W (some B) → Calls Tryz.prog g (#[.string x] ++ lb) W fun r w' => r = .returned (.bool (p x)) ∧ Below W.heap.size W w') :
    Calls Tryz.prog 14 #[v, .func (.func g) #[] lb] w fun r w' => ∃ v', r = .returned v' ∧ RowV base w' v' (l.filter fun x => !p x) ∧ ∃ B, base ≤ B ∧ w.grownBy w' (some B) := by
  rcases hR with ⟨rfl, rfl⟩ | ⟨B, cap, rfl, hB, hrow⟩
  · refine Calls.mono (deleteFuncS_nil g lb w) ?_
    rintro r w' ⟨rfl, rfl⟩
    exact ⟨_, rfl, .inl ⟨rfl, rfl⟩, base, Nat.le_refl _, grown_below (Below.refl _ _) _⟩
  · refine Calls.mono (deleteFuncS_any g lb p l B cap w hrow h8 eg (fun x hx W hW => hp x hx B W hB hW)) ?_
    rintro r w' ⟨rfl, h1, h2⟩
    exact ⟨_, rfl, .inr ⟨B, cap, rfl, hB, h1⟩, B, hB, h2⟩
theorem RowV.base {a b : Nat} {W : World} {v : Value} {l : List ByteArray} (h : RowV b W v l) (hab : a ≤ b) : RowV a W v l := by
  rcases h with h | ⟨B, cap, h1, h2, h3⟩
  · exact .inl h
  · exact .inr ⟨B, cap, h1, Nat.le_trans hab h2, h3⟩

end Go.Proofs.YtcaeafgkogfgdaaGreatDoor

/- Names of commits: Names, As; the library's sort.Search. -/
namespace Go.Proofs.YtcaeafgkogfgdaaGreatDoor
open Go Go.RowKit Go.Maps Go.Sort Cal
attribute [local go_sem] Oper.semAt_some

set_option maxHeartbeats 1000000 in
set_option maxRecDepth 100000 in
theorem names1_any (lo rb mb n bx : Nat) (ns : List ByteArray) (L : ByteArray → List (Int × Int)) (x : ByteArray) (w : World) (h : RefsAt lo w rb mb n ns L) (hx : x.size ≤ 1000) (hl : (L x).length ≤ 80000) (cx : w.cell? ⟨bx, 0, none⟩ = some (.pointer (some ⟨rb, 0, none⟩))) :
    Calls Tryz.prog 16 #[.string x, .pointer (some ⟨bx, 0, none⟩)] w fun r w' => r = .returned (.bool (gn L x)) ∧ Below w.heap.size w w' := by
  obtain ⟨v, LK, hv⟩ := h.look x hx
  have hc := h.cell
  have LA : Hid (Calls _ _ _ _ _) := lastOf_any (L x) v w (hv.movs hl)
  have FT := fun x y w => fld_to x y w
  clear h hv
  unfold gn
  generalize lst (L x) = e at LA
  by_cases q : e.2 = -1
  · rw [decide_eq_true q]
    rw [q] at LA
    go_enter Tryz.func16, Tryz.ntmps16
    go_wp2_with (go_at_call 17; refine Calls.mono LA.out ?_; rintro r w1 ⟨rfl, hb1⟩)
    go_ret
    exact ⟨rfl, hb1⟩
  · rw [decide_eq_false q]
    have q1 : (e.2 == -1) = false := by rw [beq_eq_false_iff_ne]; exact q
    go_enter Tryz.func16, Tryz.ntmps16
    go_wp2_with (go_at_call 17; refine Calls.mono LA.out ?_; rintro r w1 ⟨rfl, hb1⟩)
    go_ret
    exact ⟨rfl, hb1⟩

set_option maxHeartbeats 2000000 in
theorem names_any (lo rb mb n : Nat) (ns : List ByteArray) (L : ByteArray → List (Int × Int)) (w : World) (h : RefsAt lo w rb mb n ns L) (hn : n ≤ 80000) (hs : ∀ s ∈ ns, s.size ≤ 1000) (hl : ∀ s, (L s).length ≤ 80000) (h8 : ns.length ≤ 80000) :
    Calls Tryz.prog 6 #[.pointer (some ⟨rb, 0, none⟩)] w fun r w' => ∃ v, r = .returned v ∧ RowV w.heap.size w' v (lvs ns L) ∧ Below w.heap.size w w' := by
  have hA := below_alloc w (.cells #[.pointer (some ⟨rb, 0, none⟩)] 24)
  have hz : (w.alloc (.cells #[.pointer (some ⟨rb, 0, none⟩)] 24)).heap.size = w.heap.size + 1 := World.size_alloc _ _
  have AL : Hid (Calls _ _ _ _ _) := allNames_any lo rb mb n ns L _ (h.step hA) (by omega)
  have cx : (w.alloc (.cells #[.pointer (some ⟨rb, 0, none⟩)] 24)).cell? ⟨w.heap.size, 0, none⟩ = some (.pointer (some ⟨rb, 0, none⟩)) := cell_of (block_at _ rfl)
  have eg : ∀ args W, (callFunc 16 args).run Tryz.prog W = .ok (.enter 16 args) W := enters_of Tryz.func16 (by kernel_rfl) rfl
  have DL : Hid (∀ (v : Value) (w3 : World), RowV (w.alloc (.cells #[.pointer (some ⟨rb, 0, none⟩)] 24)).heap.size w3 v ns → Below (w.alloc (.cells #[.pointer (some ⟨rb, 0, none⟩)] 24)).heap.size (w.alloc (.cells #[.pointer (some ⟨rb, 0, none⟩)] 24)) w3 →
      Calls Tryz.prog 14 #[v, .func (.func 16) #[] #[.pointer (some ⟨w.heap.size, 0, none⟩)]] w3 fun r w' => ∃ v', r = .returned v' ∧ RowV w.heap.size w' v' (lvs ns L) ∧ Below w.heap.size w w') := by
    intro v w3 hrv hb3
    refine Calls.mono (deleteV 16 _ (gn L) ns _ v w3 hrv h8 eg (fun x hx B W hB hW => ?_)) ?_
    · have hW1 : Below (w.alloc (.cells #[.pointer (some ⟨rb, 0, none⟩)] 24)).heap.size (w.alloc (.cells #[.pointer (some ⟨rb, 0, none⟩)] 24)) W := grown_to hb3 hW hB
      exact names1_any lo rb mb n w.heap.size ns L x W (h.step (below_then hA hW1)) (hs x hx) (hl x) (cell_step cx hW1)
    · rintro r w' ⟨v', rfl, q1, B, q2, q3⟩
      exact ⟨v', rfl, q1.base (by omega), below_then hA (grown_to hb3 q3 q2)⟩
  clear cx h hs hl
  go_enter Tryz.func6, Tryz.ntmps6
  go_wp2_with (first
    | (go_at_call 15; refine Calls.mono AL.out ?_; rintro r w1 ⟨v, rfl, hr1, hb1⟩)
    | (go_at_call 14; refine Calls.mono (DL.out _ _ hr1 hb1) ?_; rintro r w2 ⟨v', rfl, hr2, hb2⟩))
  go_ret
  exact ⟨v', rfl, hr2, hb2⟩

set_option maxHeartbeats 1000000 in
theorem as1_any (l : List (Int × Int)) (v : Value) (t : Int) (bl bt i : Nat) (w : World) (h : Movs w v l) (hi : i < l.length) (cl : w.cell? ⟨bl, 0, none⟩ = some v) (ct : w.cell? ⟨bt, 0, none⟩ = some (.int .i64 t)) :
    Calls Tryz.prog 19 #[.int .i64 i, .pointer (some ⟨bl, 0, none⟩), .pointer (some ⟨bt, 0, none⟩)] w fun r w' => r = .returned (.bool (decide (t < l[i].1))) ∧ Below w.heap.size w w' := by
  obtain ⟨a, c, rfl, h8, hc, hcell⟩ := h
  obtain ⟨b, rfl, hb, c1, c2⟩ := hcell i hi
  generalize l[i] = e at c1 c2
  clear hcell
  generalize l.length = m at *
  go_enter Tryz.func19, Tryz.ntmps19
  go_wp2
  go_quiet (fail)
  go_wp2
  go_ret
  exact ⟨rfl, drewN_below _ _⟩

set_option maxHeartbeats 2000000 in
theorem rsearch_any (g : Nat) (lb : Array Value) (p : Nat → Bool) (n : Nat) (w : World) (hn : n ≤ 80000) (eg : ∀ args W, (callFunc g args).run Tryz.prog W = .ok (.enter g args) W)
    (hp : ∀ i, i < n → ∀ (W : World), Below w.heap.size w W → Calls Tryz.prog g (#[.int .i64 i] ++ lb) W fun r w' => r = .returned (.bool (p i)) ∧ Below W.heap.size W w') (mono : ∀ i j, i ≤ j → j < n → p i = true → p j = true) :
    Calls Tryz.prog 18 #[.int .i64 n, .func (.func g) #[] lb] w fun r w' => ∃ k : Nat, r = .returned (.int .i64 k) ∧ k ≤ n ∧ (∀ j, j < k → p j = false) ∧ (∀ j, k ≤ j → j < n → p j = true) ∧ Below w.heap.size w w' := by
  have HP : Hid (∀ i, i < n → ∀ (W : World), Below w.heap.size w W → Calls Tryz.prog g (#[.int .i64 i] ++ lb) W fun r w' => r = .returned (.bool (p i)) ∧ Below W.heap.size W w') := hp
  have HM : Hid (∀ i j, i ≤ j → j < n → p i = true → p j = true) := mono
  clear hp mono
  go_enter Tryz.func18, Tryz.ntmps18
  go_wp2
  go_loopg [5, 6, 7] n (fun g s5 s6 _ wr => ∃ lo hi : Nat, s5 = .int .i64 lo ∧ s6 = .int .i64 hi ∧ lo ≤ hi ∧ hi ≤ n ∧ hi - lo ≤ g ∧ Hid (Below w.heap.size w wr) ∧ Hid (∀ j, j < lo → p j = false) ∧ Hid (∀ j, hi ≤ j → j < n → p j = true))
  case atStart => exact ⟨0, n, rfl, rfl, Nat.zero_le _, Nat.le_refl _, by omega, Below.refl _ _, fun j h => absurd h (Nat.not_lt_zero _), fun j h1 h2 => by omega⟩
  case round =>
    obtain ⟨lo, hi, rfl, rfl, hlh, hin, hg, hB, I1, I2⟩ := hrel
    by_cases hlt : lo < hi
    · have hm : (lo + hi) / 2 < n := by omega
      have HX : Hid (_) := HP.out _ hm wr hB.out
      have HT : Hid (p ((lo + hi) / 2) = true → ∀ j, (lo + hi) / 2 ≤ j → j < n → p j = true) := fun q j h1 h2 => HM.out _ j h1 h2 q
      have HF : Hid (p ((lo + hi) / 2) = false → ∀ j, j < (lo + hi) / 2 + 1 → p j = false) := fun q j h1 => by
        cases hq : p j with
        | false => rfl
        | true => rw [HM.out j _ (by omega) hm hq] at q; cases q
      clear HP HM
      have hh : (((lo + hi) / 2 : Nat) : Int) = ((lo : Int) + (hi : Int)) / 2 := by omega
      rw [hh] at HX
      cases hpx : p ((lo + hi) / 2) with
      | true =>
        rw [hpx] at HX
        have HX2 : Hid (Calls _ _ _ _ _) := HX.out
        have HT2 : Hid (_) := HT.out hpx
        clear HX HT HF hpx hh
        go_wp2_with (go_at_fn g; refine Calls.mono HX2.out ?_; rintro r w1 ⟨rfl, hb1⟩)
        go_roundg ((lo + hi) / 2 - lo)
        case measure => omega
        case rel => exact ⟨lo, (lo + hi) / 2, rfl, by rw [show ((lo : Int) + (hi : Int)) / 2 = (((lo + hi) / 2 : Nat) : Int) by omega], by omega, by omega, Nat.le_refl _, below_then hB.out hb1, I1, HT2.out⟩
      | false =>
        rw [hpx] at HX
        have HX2 : Hid (Calls _ _ _ _ _) := HX.out
        have HF2 : Hid (_) := HF.out hpx
        clear HX HT HF hpx hh
        go_wp2_with (go_at_fn g; refine Calls.mono HX2.out ?_; rintro r w1 ⟨rfl, hb1⟩)
        go_roundg (hi - ((lo + hi) / 2 + 1))
        case measure => omega
        case rel => exact ⟨(lo + hi) / 2 + 1, hi, by rw [show ((lo : Int) + (hi : Int)) / 2 + 1 = (((lo + hi) / 2 + 1 : Nat) : Int) by omega], rfl, by omega, hin, Nat.le_refl _, below_then hB.out hb1, HF2.out, I2⟩
    · have e : lo = hi := by omega
      clear HP HM
      go_wp2
      go_ret
      exact ⟨lo, rfl, by omega, I1.out, by rw [e]; exact I2.out, hB.out⟩

theorem movs_take {w : World} {a : Option Addr} {n c : Nat} {l : List (Int × Int)} (h : Movs w (.slice a n c) l) (k : Nat) (hk : k ≤ l.length) : Movs w (.slice a k c) (l.take k) := by
  obtain ⟨a', c', e, h8, hc, hcell⟩ := h
  injection e with e1 e2 e3
  subst e1 e2 e3
  refine ⟨a, c, by rw [List.length_take, Nat.min_eq_left hk], by rw [List.length_take]; omega, by rw [List.length_take]; omega, fun j hj => ?_⟩
  rw [List.length_take] at hj
  obtain ⟨b, q1, q2, q3, q4⟩ := hcell j (by omega)
  rw [List.getElem_take]
  exact ⟨b, q1, q2, q3, q4⟩
set_option maxHeartbeats 2000000 in
set_option maxRecDepth 100000 in
theorem as_any (lo rb mb n : Nat) (ns : List ByteArray) (L : ByteArray → List (Int × Int)) (s : ByteArray) (t : Int) (w : World) (h : RefsAt lo w rb mb n ns L) (hs : s.size ≤ 1000) (hl : (L s).length ≤ 80000) (hup : (L s).Pairwise (fun a b => a.1 ≤ b.1)) :
    Calls Tryz.prog 7 #[.pointer (some ⟨rb, 0, none⟩), .string s, .int .i64 t] w fun r w' => r = .returned (.tuple #[.int .i64 (ofV (asOf (L s) t)), .bool (!decide (asOf (L s) t = -1))]) ∧ Below w.heap.size w w' := by
  have hA := below_alloc w (.cells #[.int .i64 t] 3)
  have hz : (w.alloc (.cells #[.int .i64 t] 3)).heap.size = w.heap.size + 1 := World.size_alloc _ _
  obtain ⟨v, LK, hv⟩ := (h.step hA).look s hs
  have hc := (h.step hA).cell
  obtain ⟨a, c, rfl⟩ := hv.form
  have hM := hv.movs hl
  have c0 : (w.alloc (.cells #[.int .i64 t] 3)).cell? ⟨w.heap.size, 0, none⟩ = some (.int .i64 t) := cell_of (block_at _ rfl)
  clear h hv
  unfold asOf
  generalize L s = l at *
  generalize hy : (lst (l.takeWhile fun e => decide (e.1 ≤ t))).2 = y
  have HY : Hid (_ = y) := hy
  clear hy
  generalize hw0 : w.alloc (.cells #[.int .i64 t] 3) = w0 at *
  have hB := below_alloc w0 (.cells #[.slice a l.length c] 50)
  have c1 : (w0.alloc (.cells #[.slice a l.length c] 50)).cell? ⟨w0.heap.size, 0, none⟩ = some (.slice a l.length c) := cell_of (block_at _ rfl)
  have c2 := cell_step c0 hB
  have hM1 := hM.step hB
  rw [hz] at c1
  have eg : ∀ args W, (callFunc 19 args).run Tryz.prog W = .ok (.enter 19 args) W := enters_of Tryz.func19 (by kernel_rfl) rfl
  have SE : Hid (Calls Tryz.prog 18 #[.int .i64 l.length, .func (.func 19) #[] #[.pointer (some ⟨w.heap.size + 1, 0, none⟩), .pointer (some ⟨w.heap.size, 0, none⟩)]] (w0.alloc (.cells #[.slice a l.length c] 50)) fun r w' => ∃ k : Nat, r = .returned (.int .i64 k) ∧ k ≤ l.length ∧ l.takeWhile (fun e => decide (e.1 ≤ t)) = l.take k ∧ Below (w0.alloc (.cells #[.slice a l.length c] 50)).heap.size (w0.alloc (.cells #[.slice a l.length c] 50)) w') := by
    refine Calls.mono (rsearch_any 19 _ (fun i => decide (∃ h : i < l.length, t < l[i].1)) l.length _ (by omega) eg (fun i hi W hW => ?_) (fun i j hij hj q => ?_)) ?_
    · have := as1_any l (.slice a l.length c) t (w.heap.size + 1) w.heap.size i W (hM1.step hW) hi (cell_step c1 hW) (cell_step c2 hW)
      have e : decide (∃ h : i < l.length, t < l[i].1) = decide (t < l[i].1) := by
        rw [decide_eq_decide]
        exact ⟨fun ⟨_, q⟩ => q, fun q => ⟨hi, q⟩⟩
      rw [e]
      exact this
    · have q' := of_decide_eq_true q
      obtain ⟨h1, h2⟩ := q'
      refine decide_eq_true ⟨hj, ?_⟩
      rcases Nat.lt_or_ge i j with p | p
      · have := List.pairwise_iff_getElem.1 hup i j h1 hj p
        omega
      · have : i = j := by omega
        subst this
        exact h2
    · rintro r w' ⟨k, rfl, hk, q1, q2, q3⟩
      refine ⟨k, rfl, hk, take_while_of hk (fun j hj hjk => ?_) (fun hj => ?_), q3⟩
      · have := of_decide_eq_false (q1 j hjk)
        refine decide_eq_true ?_
        by_cases z : t < l[j].1
        · exact absurd ⟨hj, z⟩ this
        · omega
      · obtain ⟨_, z⟩ := of_decide_eq_true (q2 k (Nat.le_refl _) hj)
        exact decide_eq_false (by omega)
  have HM1 : Hid (_) := hM1
  have HMT : Hid (∀ (k : Nat) (W : World), k ≤ l.length → Below (w0.alloc (.cells #[.slice a l.length c] 50)).heap.size (w0.alloc (.cells #[.slice a l.length c] 50)) W → Calls Tryz.prog 17 #[.slice a k c] W fun r w' => r = .returned (.agg #[.int .i64 (lst (l.take k)).1, .int .i64 (lst (l.take k)).2]) ∧ Below W.heap.size W w') := fun k W hk hW => lastOf_any (l.take k) (.slice a k c) W (movs_take (hM1.step hW) k hk)
  have CO : Hid (∀ x y W, _) := fun x y W => commitOf_any x y W
  have HB0 : Hid (Below w.heap.size w (w0.alloc (.cells #[.slice a l.length c] 50))) := below_then hA hB
  have HC1 : Hid (_) := c1
  have hlc : l.length ≤ c := by obtain ⟨_, _, e, _, q, _⟩ := hM; injection e with _ _ e3; rw [e3]; exact q
  have hl8 : l.length ≤ 80000 := hl
  clear hM hM1 hA hB c2 hup
  subst hw0
  go_enter Tryz.func7, Tryz.ntmps7
  go_upto_region 2 with fail
  generalize (w.alloc (.cells #[.int .i64 t] 3)).alloc (.cells #[.slice a l.length c] 50) = w3 at *
  clear LK hc c0 hz
  go_upto_region 3 with (go_at_call 18; refine Calls.mono SE.out ?_; rintro r w4 ⟨k, rfl, hk, hq, hb4⟩)
  have c4 := cell_step c1 hb4
  have LA : Hid (Calls _ _ _ _ _) := HMT.out k w4 hk hb4
  rw [hq] at HY
  clear HMT SE c1 hq
  generalize lst (l.take k) = e at LA HY
  have hkI : (k : Int) ≤ (c : Int) := by omega
  go_wp2_with (first
    | (go_at_call 17; refine Calls.mono LA.out ?_; rintro r w5 ⟨rfl, hb5⟩)
    | (go_at_call 20; refine Calls.mono (CO.out _ _ _) ?_; rintro r w6 ⟨rfl, hb6⟩))
  go_ret2
  exact ⟨by rw [← HY.out]; rfl, below_then HB0.out (below_then hb4 (below_then hb5 hb6))⟩
end Go.Proofs.YtcaeafgkogfgdaaGreatDoor
