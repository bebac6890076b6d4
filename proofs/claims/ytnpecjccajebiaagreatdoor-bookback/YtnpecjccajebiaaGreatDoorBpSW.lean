/- Reading a calendar: package book's Read at a calendar's text. -/
import Derived.Test.YtnpecjccajebiaaGreatDoorYdAE
import Derived.Test.YtnpecjccajebiaaGreatDoorBpFW
namespace Go.Proofs.YtnpecjccajebiaaGreatDoor
open Go Go.RowKit Go.Maps Go.Shelf Cal
attribute [local go_sem] Oper.semAt_some

theorem insE_end {E : EV} : ∀ {L : List EV}, (∀ F ∈ L, kb F < kb E) → insE E L = L ++ [E]
  | [], _ => rfl
  | Y :: r, h => by
    unfold insE
    rw [ltE_eq, if_neg]
    · rw [insE_end (fun F hF => h F (List.mem_cons_of_mem _ hF))]; rfl
    · rw [decide_eq_true_iff]
      exact fun q => List.lt_irrefl _ (List.lt_trans q (h Y (List.mem_cons_self)))
theorem putC_end {E : EV} {L : List EV} (h : ∀ F ∈ L, kb F < kb E) : putC E L = L ++ [E] := by
  unfold putC
  rw [woC_same, insE_end h]
  exact fun F hF q => by
    have := h F hF
    unfold kb at this
    rw [q] at this
    exact List.lt_irrefl _ this
/-- the ID of the last one -/
def lastId (L : List EV) : ByteArray := match L.getLast? with
  | some E => E.id
  | none => ⟨#[]⟩
theorem lastId_snoc (L : List EV) (E : EV) : lastId (L ++ [E]) = E.id := by
  unfold lastId
  rw [List.getLast?_concat]
theorem rises_at {C : List EV} (h : Rises C) {k : Nat} (hk : k < C.length) : ∀ F ∈ C.take k, kb F < kb C[k] := fun F hF => by
  obtain ⟨j, hj, rfl⟩ := List.mem_take_iff_getElem.1 hF
  exact List.pairwise_iff_getElem.1 h j k (by omega) hk (by omega)
theorem lastId_lt {C : List EV} (h : Rises C) (hw : ∀ E ∈ C, EW E) {k : Nat} (hk : k < C.length) : (lastId (C.take k)).data.toList < kb C[k] := by
  unfold lastId
  cases hq : (C.take k).getLast? with
  | none =>
    have h1 := (hw C[k] (List.getElem_mem hk)).id.2.1
    have h2 : kb C[k] ≠ [] := fun q => by
      have h3 : C[k].id.size = 0 := by
        rw [Lib.size_eq]
        unfold kb at q
        rw [q]
        rfl
      omega
    cases hb : kb C[k] with
    | nil => exact absurd hb h2
    | cons a r => exact List.nil_lt_cons _ _
  | some F => exact rises_at h hk F (List.mem_of_getLast? hq)

theorem new_eq (w : World) : Calls Tryz.prog 13 #[] w fun r w' => r = .returned (.pointer (some ⟨w.heap.size, 0, none⟩)) ∧ w' = w.alloc (.cells #[.map none] 90) := by
  go_enter Tryz.func13, Tryz.ntmps13
  go_wp2
  go_ret
  exact ⟨rfl, rfl⟩
/-- where the loop over the lines begins -/
def RBk (w : World) (sb : ByteArray) : World :=
  ((((((w.alloc (.cells #[.pointer none] 25)).alloc (.cells #[.nilIface] 32)).alloc (.cells #[.map none] 90)).alloc (.cells #[.pointer (some ⟨w.heap.size + 1 + 1, 0, none⟩)] 25)).alloc (.cells #[.int .i64 0] 3)).alloc (.cells #[.string ⟨#[]⟩] 9)).alloc (.cells #[.string sb] 9)
theorem rbk_size (w : World) (sb : ByteArray) : (RBk w sb).heap.size = w.heap.size + 7 := by
  unfold RBk
  simp
theorem rbk_below (w : World) (sb : ByteArray) : Below w.heap.size w (RBk w sb) := by
  unfold RBk
  exact below_then (below_alloc _ _) (below_then (below_alloc _ _) (below_then (below_alloc _ _) (below_then (below_alloc _ _) (below_then (below_alloc _ _) (below_then (below_alloc _ _) (below_alloc _ _))))))
theorem rbk_boxes (w : World) (sb : ByteArray) :
    Boxed (RBk w sb) w.heap.size 25 (.pointer none) ∧ Boxed (RBk w sb) (w.heap.size + 1) 32 .nilIface ∧ (RBk w sb).heap[w.heap.size + 2]? = some (.cells #[.map none] 90 (0, 0)) ∧ Boxed (RBk w sb) (w.heap.size + 3) 25 (.pointer (some ⟨w.heap.size + 1 + 1, 0, none⟩)) ∧
      Boxed (RBk w sb) (w.heap.size + 4) 3 (.int .i64 0) ∧ Boxed (RBk w sb) (w.heap.size + 5) 9 (.string ⟨#[]⟩) ∧ Boxed (RBk w sb) (w.heap.size + 6) 9 (.string sb) := by
  unfold RBk
  refine ⟨?_, ?_, ?_, ?_, ?_, ?_, ?_⟩
  · exact block_alloc _ (block_alloc _ (block_alloc _ (block_alloc _ (block_alloc _ (block_alloc _ (block_at _ rfl))))))
  · exact block_alloc _ (block_alloc _ (block_alloc _ (block_alloc _ (block_alloc _ (block_at _ (by simp))))))
  · exact block_alloc _ (block_alloc _ (block_alloc _ (block_alloc _ (block_at _ (by simp)))))
  · exact block_alloc _ (block_alloc _ (block_alloc _ (block_at _ (by simp))))
  · exact block_alloc _ (block_alloc _ (block_at _ (by simp)))
  · exact block_alloc _ (block_at _ (by simp))
  · exact block_at _ (by simp)
/-- the loop's own variables -/
structure RJ (w W : World) (r : Loop) (k : Int) (ah : ByteArray) : Prop where
  b0 : Boxed W w.heap.size 25 (.pointer none)
  b1 : Boxed W (w.heap.size + 1) 32 .nilIface
  b3 : Boxed W (w.heap.size + 3) 25 (.pointer (some ⟨w.heap.size + 1 + 1, 0, none⟩))
  b4 : Boxed W (w.heap.size + 4) 3 (.int .i64 k)
  b5 : Boxed W (w.heap.size + 5) 9 (.string ah)
  d : W.heap[w.heap.size + 7]? = some (.deferred (some []))
  l : W.heap[w.heap.size + 8]? = some (.loop r)
  bw : Below w.heap.size w W
  sz : w.heap.size + 9 ≤ W.heap.size
theorem RJ.move {w W W' : World} {r r' : Loop} {k : Int} {ah : ByteArray} (h : RJ w W r k ah) (hF : ∀ b, b < w.heap.size + 9 → b ≠ w.heap.size + 2 → b ≠ w.heap.size + 6 → b ≠ w.heap.size + 8 → W'.heap[b]? = W.heap[b]?) (hl : W'.heap[w.heap.size + 8]? = some (.loop r')) (ho : W'.os = W.os ∧ W'.tape = W.tape ∧ W'.output = W.output) (hs : W.heap.size ≤ W'.heap.size) : RJ w W' r' k ah :=
  ⟨(hF _ (by omega) (by omega) (by omega) (by omega)).trans h.b0, (hF _ (by omega) (by omega) (by omega) (by omega)).trans h.b1, (hF _ (by omega) (by omega) (by omega) (by omega)).trans h.b3, (hF _ (by omega) (by omega) (by omega) (by omega)).trans h.b4, (hF _ (by omega) (by omega) (by omega) (by omega)).trans h.b5, (hF _ (by omega) (by omega) (by omega) (by omega)).trans h.d, hl,
    ⟨ho.1.trans h.bw.os, ho.2.1.trans h.bw.tape, ho.2.2.trans h.bw.output, Nat.le_trans h.bw.size hs, fun b hb => (hF b (by omega) (by omega) (by omega) (by omega)).trans (h.bw.block b hb)⟩, Nat.le_trans h.sz hs⟩

set_option maxHeartbeats 4000000 in
set_option maxRecDepth 100000 in
theorem read_C (C : List EV) (s : Nat → Addr) (w : World) (gk : GlobK s w) (g : GlobR w) (hup : Rises C) (hw : ∀ E ∈ C, EW E ∧ E.ds.length ≤ 20) (hC : C.length ≤ 60) (h10 : (bkT C).length ≤ 10000) :
    Calls Tryz.prog 10 #[.string (bs (bkT C))] w fun r w' => ∃ bb mo n, r = .returned (.tuple #[.pointer (some ⟨bb, 0, none⟩), .nilIface]) ∧ w.heap.size ≤ bb ∧ BookAt w.heap.size w' bb mo n C ∧ n ≤ 60 ∧ Below w.heap.size w w' := by
  have hsz : (bs (bkT C)).size ≤ 10000 := by rw [Lib.size_eq, bs_data]; exact h10
  have hfl : (bs (bkT C)).data.toList = (lns C).flatten := by rw [bs_data, lns_flat]
  have hlk : (lns C).length = C.length := by unfold lns; rw [List.length_map]
  generalize bs (bkT C) = sb at hsz hfl
  have HFL : Hid (sb.data.toList = (lns C).flatten) := hfl
  have GK : Hid (GlobK s w) := gk
  have G : Hid (GlobR w) := g
  have HUP : Hid (Rises C) := hup
  have HW : Hid (∀ E ∈ C, EW E ∧ E.ds.length ≤ 20) := hw
  have LN : Hid (∀ w, _) := fun w => lines_any sb w
  have NW : Hid (∀ w, _) := fun w => new_eq w
  have hszI : (sb.size : Int) ≤ 10000 := by omega
  clear hfl gk g hup hw
  refine (callsIn_wide (n := 10)).1 ?_
  refine callsIn_of_wp_marks Tryz.func10 rfl trivial ?_ rfl
  simp only [Tryz.ntmps10, List.size_toArray, List.length_cons, List.length_nil, Nat.reduceAdd, Nat.reduceSub, Array.replicate_succ, Array.replicate_zero, List.push_toArray, List.append_toArray, List.nil_append, List.cons_append]
  gi_wp2_with (first
    | (refine ⟨trivial, ?_⟩; gi_at_call 37; refine (callsIn_wide.2 (LN.out _)).mono ?_; rintro r w' ⟨rfl, rfl⟩)
    | (refine ⟨trivial, ?_⟩; gi_at_call 13; refine (callsIn_wide.2 (NW.out _)).mono ?_; rintro r w' ⟨rfl, rfl⟩))
  change Code.wpIn _ _ _ _ _ _ (RBk w sb)
  obtain ⟨b0, b1, b2, b3, b4, b5, b6⟩ := rbk_boxes w sb
  have hbw := rbk_below w sb
  have hs6 := rbk_size w sb
  generalize RBk w sb = W6 at b0 b1 b2 b3 b4 b5 b6 hbw hs6
  refine rangeFunc_of rfl (enters_of Tryz.func63 (by kernel_rfl) rfl) (fun r0 hr0 => ?_)
  have hl8 : W6.heap.size + 1 = w.heap.size + 8 := by omega
  rw [hl8]
  refine (lines_iter 9 (w.heap.size + 8) (w.heap.size + 6) (lns C)
    (fun k W => ∃ mo n, BookAt (w.heap.size + 9) W (w.heap.size + 2) mo n (C.take k) ∧ n ≤ k ∧ RJ w W r0 k (lastId (C.take k)))
    (fun _ _ => False) (by omega) (lns_ok (fun E hE => (HW.out E hE).1)) ?hJs ?hY _ sb (by omega) HFL.out ?hBox ?h0).mono ?post
  case hJs =>
    rintro k W W' ⟨mo, n, q1, q2, q3⟩ hg
    refine ⟨mo, n, q1.grown hg (by omega) (by omega), q2, q3.move (fun b hb _ h6 _ => hg.block b (by have := q3.sz; omega) (fun q => h6 (Option.some.inj q))) ((hg.block _ (by have := q3.sz; omega) (fun q => by have := Option.some.inj q; omega)).trans q3.l) ⟨hg.os, hg.tape, hg.output⟩ hg.size⟩
  case hBox =>
    have hb := below_then (below_alloc W6 (.deferred (some []))) (below_alloc _ (.loop r0))
    exact (hb.block _ (by omega)).trans b6
  case h0 =>
    have hb := below_then (below_alloc W6 (.deferred (some []))) (below_alloc _ (.loop r0))
    have hsz2 : ((W6.alloc (.deferred (some []))).alloc (.loop r0)).heap.size = w.heap.size + 9 := by rw [World.size_alloc, World.size_alloc, hs6]
    refine ⟨none, 0, ⟨.map [], ⟨(hb.block _ (by omega)).trans b2, rfl⟩, by omega, (fun mb e => by cases e), Holds.none _ _⟩, Nat.le_refl _, ?_⟩
    have hd7 : ((W6.alloc (.deferred (some []))).alloc (.loop r0)).heap[w.heap.size + 7]? = some (.deferred (some [])) := block_alloc _ (block_at _ hs6)
    have hl : ((W6.alloc (.deferred (some []))).alloc (.loop r0)).heap[w.heap.size + 8]? = some (.loop r0) := by rw [← hl8]; exact rec_start _ _
    exact ⟨(hb.block _ (by omega)).trans b0, (hb.block _ (by omega)).trans b1, (hb.block _ (by omega)).trans b3, (hb.block _ (by omega)).trans b4, (hb.block _ (by omega)).trans b5, hd7, hl, below_then hbw hb, by omega⟩
  case hY =>
    rintro k hk W ⟨mo, n, q1, q2, q3⟩
    have hkC : k < C.length := by omega
    have hwE := HW.out C[k] (List.getElem_mem hkC)
    have hln : (lns C)[k] = eT C[k] ++ [10] := by simp [lns]
    have hgb := grownBy_putObj' W (w.heap.size + 8) (.loop { r0 with state := .busy })
    have q1b := q1.grown hgb (by omega) (by omega)
    have lrec : (W.putObj (w.heap.size + 8) (.loop { r0 with state := .busy })).heap[w.heap.size + 8]? = some (.loop { r0 with state := .busy }) := World.putObj_heap_same (Array.getElem?_eq_some_iff.1 q3.l).1
    have q3b : RJ w (W.putObj (w.heap.size + 8) (.loop { r0 with state := .busy })) { r0 with state := .busy } k (lastId (C.take k)) := q3.move (fun b hb _ _ h8 => World.putObj_heap_other h8) lrec ⟨hgb.os, hgb.tape, hgb.output⟩ hgb.size
    have e6 : (W.putObj (w.heap.size + 8) (.loop { r0 with state := .busy })).heap[w.heap.size + 6]? = W.heap[w.heap.size + 6]? := World.putObj_heap_other (by omega)
    have hlt := lastId_lt HUP.out (fun E hE => (HW.out E hE).1) hkC
    have hpc : putC C[k] (C.take k) = C.take (k + 1) := by rw [putC_end (rises_at HUP.out hkC), List.take_succ_eq_append_getElem hkC]
    have hlast : lastId (C.take (k + 1)) = C[k].id := by rw [List.take_succ_eq_append_getElem hkC, lastId_snoc]
    have hnf : ¬ ((¬ ∃ F ∈ C.take k, F.id = C[k].id) ∧ 60 ≤ (C.take k).length) := fun q => by
      have := q.2
      rw [List.length_take] at this
      omega
    rw [hln]
    have hl6 := q3.l
    have HQ4 : Hid (_) := hl6
    change YieldAt _ _ _ _ #[.string (bs (eT C[k] ++ [10]))] _ _
    generalize hWb : W.putObj (w.heap.size + 8) (.loop { r0 with state := .busy }) = Wb at q1b q3b lrec e6
    have RL : Hid (Calls _ _ _ _ _) := readLine_C C[k] (lastId (C.take k)) s Wb (GK.out.step q3b.bw) (G.out.step q3b.bw) hwE.1 hwE.2 hlt
    obtain ⟨i12, t40, _, _⟩ := ew_bd hwE.1
    have PUT : Hid (∀ (W' : World) (sl skv mvv : Value), Below Wb.heap.size Wb W' → Ls W' C[k] sl skv mvv → Calls Tryz.prog 15 #[.pointer (some ⟨w.heap.size + 1 + 1, 0, none⟩), ev C[k] sl skv mvv] W' fun r w' => r = .returned .nilIface ∧ PutTo (w.heap.size + 9) W' w' (w.heap.size + 2) mo n (C.take (k + 1))) := fun W' sl skv mvv hW' hL => by
      obtain ⟨kk, hkk⟩ := evK_ex C[k]
      have hk0 := (evK_0 hkk).2 hwE.1
      refine Calls.mono (put_C (w.heap.size + 9) (w.heap.size + 2) n mo (C.take k) C[k] sl skv mvv kk s W' (GK.out.step (below_then q3b.bw hW')) (q1b.step hW') (by omega) (by omega) (by omega) hL hkk) ?_
      rintro r w' (⟨z0, _⟩ | ⟨_, z1, _⟩ | ⟨_, _, rfl, z3⟩)
      · exact absurd hk0 z0
      · exact absurd z1 hnf
      · rw [hpc] at z3
        exact ⟨rfl, z3⟩
    have HJ3 : Hid (RJ w Wb { r0 with state := .busy } k (lastId (C.take k))) := q3b
    have HLAST : Hid (lastId (C.take (k + 1)) = C[k].id) := hlast
    have HE6 : Hid (_) := e6
    have HMO : Hid (∀ mb, mo = some mb → w.heap.size + 9 ≤ mb) := by
      obtain ⟨_, _, _, z, _⟩ := q1b
      exact z
    have HMB1 : Hid (∀ mb, mo = some mb → mb < Wb.heap.size) := q1b.lt.2
    have c5 := q3b.b5.cell
    have c3 := q3b.b3.cell
    have hkz : (k : Int) < 1000 := by omega
    clear q1 q1b q3 q3b lrec e6 hlt hpc hlast hnf hln b0 b1 b2 b3 b4 b5 b6 hgb hl6
    generalize bs (eT C[k] ++ [10]) = x at RL
    generalize C[k] = E at RL PUT HLAST
    generalize lastId (C.take k) = ah at RL HJ3 c5
    unfold ev at RL PUT
    refine yieldAt_of hr0 ({ tmps := #[.string sb, undef, .pointer (some ⟨w.heap.size, 0, none⟩), .pointer (some ⟨w.heap.size + 1, 0, none⟩), .pointer (some ⟨w.heap.size + 1 + 1 + 1, 0, none⟩), .pointer (some ⟨w.heap.size + 1 + 1 + 1 + 1, 0, none⟩), .pointer (some ⟨w.heap.size + 1 + 1 + 1 + 1 + 1, 0, none⟩), .string x, undef, undef, .string sb, .int .i64 sb.size, .bool (decide ((10000 : Int) < (sb.size : Int))), undef, .pointer (some ⟨w.heap.size + 1 + 1, 0, none⟩), .string sb, .func (.func 63) #[] #[.pointer (some ⟨w.heap.size + 1 + 1 + 1 + 1 + 1 + 1, 0, none⟩)], .string x, undef, undef, undef, undef, undef, undef, undef, undef, undef, undef, undef, undef, undef, undef, undef, undef, undef, undef, undef, undef, undef, undef, undef], defers := [] }) HQ4.out rfl ?assign ?body
    case assign =>
      intro K hK
      gi_wp2
      exact hK
    case body =>
      rw [hWb]
      gi_upto_region 12 with (first
        | (refine ⟨trivial, ?_⟩; gi_at_call 38; refine (CallsIn.inRound (w.heap.size + 8) (callsIn_wide.2 RL.out)).mono ?_; rintro r w1 ⟨sl1, sk1, mv1, rfl, hL1, hb1⟩; have HL1 : Hid (Ls w1 E sl1 sk1 mv1) := hL1; obtain ⟨ra, rc, rfl, _⟩ := hL1.d; obtain ⟨sa, sc, rfl, _⟩ := hL1.s; obtain ⟨ma, mc, rfl, _⟩ := hL1.m; have hb2 : Below Wb.heap.size Wb (w1.alloc (.cells #[.string E.id, .string E.ti, .int .i64 E.st, .int .i64 E.lg, .string E.f, .int .i64 E.e, .slice ra E.ds.length rc, .int .i64 E.c, .int .i64 E.u, .slice sa E.sk.length sc, .slice ma E.mv.length mc] 44)) := below_then hb1 (below_alloc _ _); have PT : Hid (Calls _ _ _ _ _) := PUT.out _ _ _ _ hb2 (HL1.out.step (below_alloc _ _)); obtain ⟨x0, x1, x2, x3, x4, x5, x6, x7, x8, x9, x10⟩ := blk11 (EB.new w1 E (.slice ra E.ds.length rc) (.slice sa E.sk.length sc) (.slice ma E.mv.length mc)); have c32 := cell_step c3 hb2; have HB2 : Hid (_) := hb2)
        | (refine ⟨trivial, ?_⟩; gi_at_call 15; refine (CallsIn.inRound (w.heap.size + 8) (callsIn_wide.2 PT.out)).mono ?_; rintro r w3 ⟨rfl, hPT⟩))
      obtain ⟨mo', hbk3, hK3, _⟩ := hPT
      have hz1 : w.heap.size + 9 ≤ Wb.heap.size := HJ3.out.sz
      have hz2 : w.heap.size + 9 ≤ (w1.alloc (.cells #[.string E.id, .string E.ti, .int .i64 E.st, .int .i64 E.lg, .string E.f, .int .i64 E.e, .slice ra E.ds.length rc, .int .i64 E.c, .int .i64 E.u, .slice sa E.sk.length sc, .slice ma E.mv.length mc] 44)).heap.size := Nat.le_trans hz1 HB2.out.size
      have hF3 : ∀ b, b < w.heap.size + 9 → b ≠ w.heap.size + 2 → w3.heap[b]? = Wb.heap[b]? := fun b hb hne => (hK3.block b (by omega) hne (fun q => by have := HMO.out b q.symm; omega)).trans (HB2.out.block b (by omega))
      have hJ3 : RJ w w3 { r0 with state := .busy } k ah := HJ3.out.move (fun b hb h2 _ _ => hF3 b hb h2) ((hF3 _ (by omega) (by omega)).trans HJ3.out.l) ⟨hK3.os.trans HB2.out.os, hK3.tape.trans HB2.out.tape, hK3.output.trans HB2.out.output⟩ (Nat.le_trans HB2.out.size hK3.size)
      have he6 : w3.heap[w.heap.size + 6]? = W.heap[w.heap.size + 6]? := (hF3 _ (by omega) (by omega)).trans HE6.out
      have x03 : w3.cell? ⟨w1.heap.size, 0, none⟩ = some (.string E.id) := kept_cellM hK3 x0 (by have := HL1.out; have : Wb.heap.size ≤ w1.heap.size := hb1.size; omega) (fun q => by
        have h1 := HMB1.out w1.heap.size q.symm
        have : Wb.heap.size ≤ w1.heap.size := hb1.size
        omega)
      have c4 : w3.cell? ⟨w.heap.size + 1 + 1 + 1 + 1, 0, none⟩ = some (.int .i64 k) := hJ3.b4.cell
      have f4 : w3.frozen? ⟨w.heap.size + 1 + 1 + 1 + 1, 0, none⟩ = false := hJ3.b4.frozen
      have c5' : w3.cell? ⟨w.heap.size + 1 + 1 + 1 + 1 + 1, 0, none⟩ = some (.string ah) := hJ3.b5.cell
      have f5 : w3.frozen? ⟨w.heap.size + 1 + 1 + 1 + 1 + 1, 0, none⟩ = false := hJ3.b5.frozen
      have HJ33 : Hid (_) := hJ3
      have HBK3 : Hid (_) := hbk3
      have HE63 : Hid (_) := he6
      clear hJ3 hbk3 he6 hF3 hK3 x0 x1 x2 x3 x4 x5 x6 x7 x8 x9 x10 c32 c3 c5 RL PUT PT hL1
      have hn4 : w1.heap.size ≠ w.heap.size + 1 + 1 + 1 + 1 := by have : Wb.heap.size ≤ w1.heap.size := hb1.size; omega
      have hn5 : w1.heap.size ≠ w.heap.size + 1 + 1 + 1 + 1 + 1 := by have : Wb.heap.size ≤ w1.heap.size := hb1.size; omega
      have hkk : (k : Int) + 1 ≤ 1001 := by omega
      have hmix : Tryz.prog.follows .mixedOrders = true := by kernel_rfl
      have x04 : ∀ v, (w3.drew.setCell ⟨w.heap.size + 1 + 1 + 1 + 1, 0, none⟩ v).cell? ⟨w1.heap.size, 0, none⟩ = some (.string E.id) := fun v => grown_cell (grown_set w3.drew ⟨w.heap.size + 1 + 1 + 1 + 1, 0, none⟩ v) x03 hn4
      have FIN : Hid (∀ v, v = .int .i64 ((k + 1 : Nat) : Int) → (((w3.setCell ⟨w.heap.size + 1 + 1 + 1 + 1, 0, none⟩ v).setCell ⟨w.heap.size + 1 + 1 + 1 + 1 + 1, 0, none⟩ (.string E.id)).drew).heap[w.heap.size + 8]? = some (.loop { r0 with state := .busy }) ∧
          (∃ mo n, BookAt (w.heap.size + 9) ((((w3.setCell ⟨w.heap.size + 1 + 1 + 1 + 1, 0, none⟩ v).setCell ⟨w.heap.size + 1 + 1 + 1 + 1 + 1, 0, none⟩ (.string E.id)).drew).putObj (w.heap.size + 8) (.loop { r0 with state := .ready, pending := none })) (w.heap.size + 2) mo n (C.take (k + 1)) ∧ n ≤ k + 1 ∧ RJ w ((((w3.setCell ⟨w.heap.size + 1 + 1 + 1 + 1, 0, none⟩ v).setCell ⟨w.heap.size + 1 + 1 + 1 + 1 + 1, 0, none⟩ (.string E.id)).drew).putObj (w.heap.size + 8) (.loop { r0 with state := .ready, pending := none })) r0 ((k + 1 : Nat) : Int) (lastId (C.take (k + 1)))) ∧
          ((((w3.setCell ⟨w.heap.size + 1 + 1 + 1 + 1, 0, none⟩ v).setCell ⟨w.heap.size + 1 + 1 + 1 + 1 + 1, 0, none⟩ (.string E.id)).drew).putObj (w.heap.size + 8) (.loop { r0 with state := .ready, pending := none })).heap[w.heap.size + 6]? = W.heap[w.heap.size + 6]?) := fun v hv => by
        have gA := grown_set w3 ⟨w.heap.size + 1 + 1 + 1 + 1, 0, none⟩ v
        have gB := grown_set (w3.setCell ⟨w.heap.size + 1 + 1 + 1 + 1, 0, none⟩ v) ⟨w.heap.size + 1 + 1 + 1 + 1 + 1, 0, none⟩ (.string E.id)
        have z3 := HJ33.out.sz
        have F4 : ∀ b, b < w.heap.size + 9 → b ≠ w.heap.size + 4 → b ≠ w.heap.size + 5 → (((w3.setCell ⟨w.heap.size + 1 + 1 + 1 + 1, 0, none⟩ v).setCell ⟨w.heap.size + 1 + 1 + 1 + 1 + 1, 0, none⟩ (.string E.id)).drew).heap[b]? = w3.heap[b]? := fun b hb h4 h5 => (gB.block b (by have := gA.size; omega) (fun q => h5 (by have := Option.some.inj q; omega))).trans (gA.block b (by omega) (fun q => h4 (by have := Option.some.inj q; omega)))
        have hl4 : (((w3.setCell ⟨w.heap.size + 1 + 1 + 1 + 1, 0, none⟩ v).setCell ⟨w.heap.size + 1 + 1 + 1 + 1 + 1, 0, none⟩ (.string E.id)).drew).heap[w.heap.size + 8]? = some (.loop { r0 with state := .busy }) := (F4 _ (by omega) (by omega) (by omega)).trans HJ33.out.l
        have b44 : Boxed (w3.setCell ⟨w.heap.size + 1 + 1 + 1 + 1, 0, none⟩ v) (w.heap.size + 4) 3 v := HJ33.out.b4.set v
        have b54 : Boxed (((w3.setCell ⟨w.heap.size + 1 + 1 + 1 + 1, 0, none⟩ v).setCell ⟨w.heap.size + 1 + 1 + 1 + 1 + 1, 0, none⟩ (.string E.id)).drew) (w.heap.size + 5) 9 (.string E.id) := Boxed.set _ ((HJ33.out.b5).other (by omega) v)
        have b44' : Boxed (((w3.setCell ⟨w.heap.size + 1 + 1 + 1 + 1, 0, none⟩ v).setCell ⟨w.heap.size + 1 + 1 + 1 + 1 + 1, 0, none⟩ (.string E.id)).drew) (w.heap.size + 4) 3 v := b44.other (by omega) _
        have gP := grownBy_putObj' (((w3.setCell ⟨w.heap.size + 1 + 1 + 1 + 1, 0, none⟩ v).setCell ⟨w.heap.size + 1 + 1 + 1 + 1 + 1, 0, none⟩ (.string E.id)).drew) (w.heap.size + 8) (.loop { r0 with state := .ready, pending := none })
        have hbk4 := ((BookAt.grown (B := w.heap.size + 1 + 1 + 1 + 1) HBK3.out gA (by omega) (by omega)).grown (B := w.heap.size + 1 + 1 + 1 + 1 + 1) gB (by omega) (by omega)).step (drew_below _)
        have P : ∀ b, b ≠ w.heap.size + 8 → ((((w3.setCell ⟨w.heap.size + 1 + 1 + 1 + 1, 0, none⟩ v).setCell ⟨w.heap.size + 1 + 1 + 1 + 1 + 1, 0, none⟩ (.string E.id)).drew).putObj (w.heap.size + 8) (.loop { r0 with state := .ready, pending := none })).heap[b]? = (((w3.setCell ⟨w.heap.size + 1 + 1 + 1 + 1, 0, none⟩ v).setCell ⟨w.heap.size + 1 + 1 + 1 + 1 + 1, 0, none⟩ (.string E.id)).drew).heap[b]? := fun b hb => World.putObj_heap_other hb
        refine ⟨hl4, ⟨mo', n + 1, hbk4.grown gP (by omega) (by omega), by omega, ?_⟩, (P _ (by omega)).trans ((F4 _ (by omega) (by omega) (by omega)).trans HE63.out)⟩
        rw [HLAST.out]
        refine ⟨(P _ (by omega)).trans ((F4 _ (by omega) (by omega) (by omega)).trans HJ33.out.b0), (P _ (by omega)).trans ((F4 _ (by omega) (by omega) (by omega)).trans HJ33.out.b1), (P _ (by omega)).trans ((F4 _ (by omega) (by omega) (by omega)).trans HJ33.out.b3), (P _ (by omega)).trans (hv ▸ b44'), (P _ (by omega)).trans b54, (P _ (by omega)).trans ((F4 _ (by omega) (by omega) (by omega)).trans HJ33.out.d), ?_, ?_, ?_⟩
        · rw [hr0.again]; exact World.putObj_heap_same (Array.getElem?_eq_some_iff.1 hl4).1
        · have hbw3 := HJ33.out.bw
          exact ⟨gP.os.trans (gB.os.trans (gA.os.trans hbw3.os)), gP.tape.trans (gB.tape.trans (gA.tape.trans hbw3.tape)), gP.output.trans (gB.output.trans (gA.output.trans hbw3.output)), Nat.le_trans hbw3.size (Nat.le_trans gA.size (Nat.le_trans gB.size gP.size)), fun b hb => (P b (by omega)).trans ((F4 b (by omega) (by omega) (by omega)).trans (hbw3.block b hb))⟩
        · exact Nat.le_trans z3 (Nat.le_trans gA.size (Nat.le_trans gB.size gP.size))
      have hwr : (Value.int .i64 (IntKind.i64.wrap ((k : Int) + 1))) = .int .i64 ((k + 1 : Nat) : Int) := by
        have e : IntKind.i64.wrap ((k : Int) + 1) = ((k + 1 : Nat) : Int) := by rw [IntKind.wrap_i64]; omega
        rw [e]
      have HWR : Hid (_) := hwr
      clear hwr
      gi_region
      all_goals
        obtain ⟨z1, z2, z3⟩ := FIN.out _ HWR.out
        exact ⟨z1, Or.inl ⟨rfl, z2, z3⟩⟩
  case post =>
    rintro e2 W2 ⟨hv, (⟨mo, n, q1, q2, q3⟩ | ⟨k, hx⟩)⟩
    · rw [hlk] at q1 q2
      rw [List.take_of_length_le (Nat.le_refl _)] at q1
      refine ⟨hv, _, q3.l, by rw [hr0.state]; decide, .inl ⟨hr0.pending, ?_⟩⟩
      have gP := grownBy_putObj' W2 (w.heap.size + 8) (.loop { r0 with state := .exhausted })
      have q1' := q1.grown gP (by omega) (by omega)
      have P : ∀ b, b ≠ w.heap.size + 8 → (W2.putObj (w.heap.size + 8) (.loop { r0 with state := .exhausted })).heap[b]? = W2.heap[b]? := fun b hb => World.putObj_heap_other hb
      have c0 : Boxed (W2.putObj (w.heap.size + 8) (.loop { r0 with state := .exhausted })) w.heap.size 25 (.pointer none) := (P _ (by omega)).trans q3.b0
      have c1 : Boxed (W2.putObj (w.heap.size + 8) (.loop { r0 with state := .exhausted })) (w.heap.size + 1) 32 .nilIface := (P _ (by omega)).trans q3.b1
      have c3 : Boxed (W2.putObj (w.heap.size + 8) (.loop { r0 with state := .exhausted })) (w.heap.size + 3) 25 (.pointer (some ⟨w.heap.size + 1 + 1, 0, none⟩)) := (P _ (by omega)).trans q3.b3
      have cd : (W2.putObj (w.heap.size + 8) (.loop { r0 with state := .exhausted })).heap[w.heap.size + 7]? = some (.deferred (some [])) := (P _ (by omega)).trans q3.d
      have bw3 : Below w.heap.size w (W2.putObj (w.heap.size + 8) (.loop { r0 with state := .exhausted })) := ⟨gP.os.trans q3.bw.os, gP.tape.trans q3.bw.tape, gP.output.trans q3.bw.output, Nat.le_trans q3.bw.size gP.size, fun b hb => (P b (by omega)).trans (q3.bw.block b hb)⟩
      have z3 : w.heap.size + 9 ≤ (W2.putObj (w.heap.size + 8) (.loop { r0 with state := .exhausted })).heap.size := Nat.le_trans q3.sz gP.size
      generalize W2.putObj (w.heap.size + 8) (.loop { r0 with state := .exhausted }) = W3 at q1' c0 c1 c3 cd bw3 z3 ⊢
      rw [show W6.heap.size = w.heap.size + 7 from hs6]
      have FIN : Hid (((W3.setCell ⟨w.heap.size, 0, none⟩ (.pointer (some ⟨w.heap.size + 1 + 1, 0, none⟩))).setCell ⟨w.heap.size + 1, 0, none⟩ .nilIface).heap[w.heap.size + 7]? = some (.deferred (some [])) ∧ Boxed (((W3.setCell ⟨w.heap.size, 0, none⟩ (.pointer (some ⟨w.heap.size + 1 + 1, 0, none⟩))).setCell ⟨w.heap.size + 1, 0, none⟩ .nilIface).putObj (w.heap.size + 7) (.deferred none)) w.heap.size 25 (.pointer (some ⟨w.heap.size + 1 + 1, 0, none⟩)) ∧ Boxed (((W3.setCell ⟨w.heap.size, 0, none⟩ (.pointer (some ⟨w.heap.size + 1 + 1, 0, none⟩))).setCell ⟨w.heap.size + 1, 0, none⟩ .nilIface).putObj (w.heap.size + 7) (.deferred none)) (w.heap.size + 1) 32 .nilIface ∧ BookAt w.heap.size (((W3.setCell ⟨w.heap.size, 0, none⟩ (.pointer (some ⟨w.heap.size + 1 + 1, 0, none⟩))).setCell ⟨w.heap.size + 1, 0, none⟩ .nilIface).putObj (w.heap.size + 7) (.deferred none)) (w.heap.size + 2) mo n C ∧ Below w.heap.size w (((W3.setCell ⟨w.heap.size, 0, none⟩ (.pointer (some ⟨w.heap.size + 1 + 1, 0, none⟩))).setCell ⟨w.heap.size + 1, 0, none⟩ .nilIface).putObj (w.heap.size + 7) (.deferred none))) := by
        have gA := grown_set W3 ⟨w.heap.size, 0, none⟩ (.pointer (some ⟨w.heap.size + 1 + 1, 0, none⟩))
        have gB := grown_set (W3.setCell ⟨w.heap.size, 0, none⟩ (.pointer (some ⟨w.heap.size + 1 + 1, 0, none⟩))) ⟨w.heap.size + 1, 0, none⟩ .nilIface
        have gD := grownBy_putObj' ((W3.setCell ⟨w.heap.size, 0, none⟩ (.pointer (some ⟨w.heap.size + 1 + 1, 0, none⟩))).setCell ⟨w.heap.size + 1, 0, none⟩ .nilIface) (w.heap.size + 7) (.deferred none)
        have F4 : ∀ b, b < w.heap.size + 9 → b ≠ w.heap.size → b ≠ w.heap.size + 1 → ((W3.setCell ⟨w.heap.size, 0, none⟩ (.pointer (some ⟨w.heap.size + 1 + 1, 0, none⟩))).setCell ⟨w.heap.size + 1, 0, none⟩ .nilIface).heap[b]? = W3.heap[b]? := fun b hb h4 h5 => (gB.block b (by have := gA.size; omega) (fun q => h5 (by have := Option.some.inj q; omega))).trans (gA.block b (by omega) (fun q => h4 (by have := Option.some.inj q; omega)))
        have hd := (F4 (w.heap.size + 7) (by omega) (by omega) (by omega)).trans cd
        have b0' : Boxed ((W3.setCell ⟨w.heap.size, 0, none⟩ (.pointer (some ⟨w.heap.size + 1 + 1, 0, none⟩))).setCell ⟨w.heap.size + 1, 0, none⟩ .nilIface) w.heap.size 25 (.pointer (some ⟨w.heap.size + 1 + 1, 0, none⟩)) := (c0.set (.pointer (some ⟨w.heap.size + 1 + 1, 0, none⟩))).other (by omega) _
        have b1' : Boxed ((W3.setCell ⟨w.heap.size, 0, none⟩ (.pointer (some ⟨w.heap.size + 1 + 1, 0, none⟩))).setCell ⟨w.heap.size + 1, 0, none⟩ .nilIface) (w.heap.size + 1) 32 .nilIface := Boxed.set _ (c1.other (by omega) _)
        have PD : ∀ b, b ≠ w.heap.size + 7 → (((W3.setCell ⟨w.heap.size, 0, none⟩ (.pointer (some ⟨w.heap.size + 1 + 1, 0, none⟩))).setCell ⟨w.heap.size + 1, 0, none⟩ .nilIface).putObj (w.heap.size + 7) (.deferred none)).heap[b]? = ((W3.setCell ⟨w.heap.size, 0, none⟩ (.pointer (some ⟨w.heap.size + 1 + 1, 0, none⟩))).setCell ⟨w.heap.size + 1, 0, none⟩ .nilIface).heap[b]? := fun b hb => World.putObj_heap_other hb
        refine ⟨hd, (PD _ (by omega)).trans b0', (PD _ (by omega)).trans b1', BookAt.low (lo := w.heap.size + 9) (((q1'.grown (B := w.heap.size) gA (by omega) (by omega)).grown (B := w.heap.size + 1) gB (by omega) (by omega)).grown (B := w.heap.size + 7) gD (by omega) (by omega)) (by omega), ?_⟩
        exact ⟨gD.os.trans (gB.os.trans (gA.os.trans bw3.os)), gD.tape.trans (gB.tape.trans (gA.tape.trans bw3.tape)), gD.output.trans (gB.output.trans (gA.output.trans bw3.output)), Nat.le_trans bw3.size (Nat.le_trans gA.size (Nat.le_trans gB.size gD.size)), fun b hb => (PD b (by omega)).trans ((F4 b (by omega) (by omega) (by omega)).trans (bw3.block b hb))⟩
      have d0 := c0.cell
      have e0 := c0.frozen
      have d1 := c1.cell
      have e1 := c1.frozen
      have d3 : W3.cell? ⟨w.heap.size + 1 + 1 + 1, 0, none⟩ = some (.pointer (some ⟨w.heap.size + 1 + 1, 0, none⟩)) := c3.cell
      have HN : Hid (n ≤ 60) := by show n ≤ 60; omega
      clear q1 q2 q3 q1' c0 c1 c3 cd bw3 gP P b0 b1 b2 b3 b4 b5 b6 LN NW
      gi_wp2
      obtain ⟨fd, fb0, fb1, fbk, fbw⟩ := FIN.out
      refine ⟨by simp, .inl ⟨_, _, rfl, run_takeDeferred fd, ?_⟩⟩
      have c0 := fb0.cell
      have c1 := fb1.cell
      refine ⟨.tuple #[.pointer (some ⟨w.heap.size + 1 + 1, 0, none⟩), .nilIface], ?_, _, rfl, by omega, mo, n, fbk, HN.out, fbw⟩
      simp [results, Tryz.f10, go_sem, c0, c1]
    · exact hx.elim
end Go.Proofs.YtnpecjccajebiaaGreatDoor
