/- Contract of rule.Read at the text of a rule that is well: the rule, and no error. -/
import Derived.Test.YtekminpoiokgfaaGreatDoorYaR
import Derived.Test.YtekminpoiokgfaaGreatDoorYaB
namespace Go.Proofs.YtekminpoiokgfaaGreatDoor
open Go Go.RowKit Go.Shelf Cal
attribute [local go_sem] Oper.semAt_some

theorem rd_kept {W W' : World} {x B : Nat} {f : ByteArray} {e : Int} {sl : Value} {c u p : Int} (h : Rd W B f e sl c u p) (hg : W.grownBy W' (some x)) (hx : B ≠ x) : Rd W' B f e sl c u p :=
  (hg.block B (rd_lt h) (fun e => hx (by cases e; rfl))).trans h
theorem St.kept {base x : Nat} {W W' : World} {B : Nat} {f : ByteArray} {e : Int} {ds : List Int} {c u : Int} {t : List UInt8} {l : List (List UInt8)} (h : St base W B f e ds c u t l) (hg : W.grownBy W' (some x)) (hx : B ≠ x) (hb : x < base) : St base W' B f e ds c u t l := by
  rcases h with ⟨hr, rfl⟩ | ⟨hr, rfl⟩ | ⟨hr, rfl⟩ | ⟨sl, p, hp, hr, ho, rfl⟩ | ⟨sl, hr, ho, hc, rfl⟩ | ⟨sl, p, hp, hr, ho, rfl⟩ | ⟨sl, hr, ho, hu, rfl⟩ | ⟨sl, hr, ho, rfl⟩
  · exact .inl ⟨rd_kept hr hg hx, rfl⟩
  · exact St.s1 (rd_kept hr hg hx)
  · exact St.s2 (rd_kept hr hg hx)
  · exact St.s3 sl p hp (rd_kept hr hg hx) (ho.grown hg hb)
  · exact St.s4 sl (rd_kept hr hg hx) (ho.grown hg hb) hc
  · exact St.s5 sl p hp (rd_kept hr hg hx) (ho.grown hg hb)
  · exact St.s6 sl (rd_kept hr hg hx) (ho.grown hg hb) hu
  · exact St.s7 sl (rd_kept hr hg hx) (ho.grown hg hb)
/-- where the loop over the words begins -/
def RW (w : World) (sb : ByteArray) : World :=
  ((((((w.alloc (.cells #[.string ⟨#[]⟩, .int .i64 0, .slice none 0 0, .int .i64 0, .int .i64 0] 41)).alloc (.cells #[.nilIface] 50)).alloc
    (.cells #[.string ⟨#[]⟩, .int .i64 0, .slice none 0 0, .int .i64 0, .int .i64 (-1), .int .i64 0] 185)).alloc (.cells #[.string sb] 9)).alloc (.cells #[.string ⟨#[32]⟩] 9)).alloc (.cells #[.int .i64 0] 3))
theorem rw_size (w : World) (sb : ByteArray) : (RW w sb).heap.size = w.heap.size + 6 := by
  unfold RW
  simp
theorem rw_below (w : World) (sb : ByteArray) : Below w.heap.size w (RW w sb) := by
  unfold RW
  exact below_then (below_alloc _ _) (below_then (below_alloc _ _) (below_then (below_alloc _ _) (below_then (below_alloc _ _) (below_then (below_alloc _ _) (below_alloc _ _)))))
theorem rw_boxes (w : World) (sb : ByteArray) :
    (RW w sb).heap[w.heap.size]? = some (.cells #[.string ⟨#[]⟩, .int .i64 0, .slice none 0 0, .int .i64 0, .int .i64 0] 41 (0, 0)) ∧ Boxed (RW w sb) (w.heap.size + 1) 50 .nilIface ∧
      Rd (RW w sb) (w.heap.size + 2) ⟨#[]⟩ 0 (.slice none 0 0) 0 (-1) 0 ∧ Boxed (RW w sb) (w.heap.size + 3) 9 (.string sb) ∧ Boxed (RW w sb) (w.heap.size + 4) 9 (.string ⟨#[32]⟩) ∧ Boxed (RW w sb) (w.heap.size + 5) 3 (.int .i64 0) := by
  unfold RW
  refine ⟨?_, ?_, ?_, ?_, ?_, ?_⟩
  · exact block_alloc _ (block_alloc _ (block_alloc _ (block_alloc _ (block_alloc _ (block_at _ rfl)))))
  · exact block_alloc _ (block_alloc _ (block_alloc _ (block_alloc _ (block_at _ (by simp)))))
  · exact block_alloc _ (block_alloc _ (block_alloc _ (block_at _ (by simp))))
  · exact block_alloc _ (block_alloc _ (block_at _ (by simp)))
  · exact block_alloc _ (block_at _ (by simp))
  · exact block_at _ (by simp)

set_option maxHeartbeats 1000000 in
set_option maxRecDepth 100000 in
theorem rread_ow (f : ByteArray) (e : Int) (ds : List Int) (c u : Int) (t : List UInt8) (w : World) (g : GlobR w) (h20 : ds.length ≤ 20) (hw : Well (rd f e ds c u)) (ht : UT (rd f e ds c u) t) :
    Calls Tryz.prog 111 #[.string (bs (rtext (rd f e ds c u) t))] w fun r w' => ∃ sl, r = .returned (.tuple #[rv f e sl c u, .nilIface]) ∧ Ow w.heap.size w' sl ds ∧ Below w.heap.size w w' := by
  have hp : pieces 32 (bs (rtext (rd f e ds c u) t)).data.toList = words (rd f e ds c u) t := rtext_pieces hw ht
  have hsz : (bs (rtext (rd f e ds c u) t)).size ≤ 1000000 := by rw [Lib.size_eq, bs_data]; have := rtext_len hw ht h20; omega
  generalize bs (rtext (rd f e ds c u) t) = sb at hsz hp
  have HP : Hid (pieces 32 sb.data.toList = words (rd f e ds c u) t) := hp
  have G : Hid (GlobR w) := g
  have HW : Hid (Well (rd f e ds c u)) := hw
  have HT : Hid (UT (rd f e ds c u) t) := ht
  have SS : Hid (∀ w, _) := fun w => splitSeq_any sb 32 w
  clear hp g hw ht
  refine (callsIn_wide (n := 10)).1 ?_
  refine callsIn_of_wp_marks Tryz.func111 rfl trivial ?_ rfl
  simp only [Tryz.ntmps111, List.size_toArray, List.length_cons, List.length_nil, Nat.reduceAdd, Nat.reduceSub, Array.replicate_succ, Array.replicate_zero, List.push_toArray, List.append_toArray, List.nil_append, List.cons_append]
  gi_wp2_with (refine ⟨trivial, ?_⟩; gi_at_call 145; refine (callsIn_wide.2 (SS.out _)).mono ?_; rintro r w' ⟨rfl, rfl⟩)
  change Code.wpIn _ _ _ _ _ _ (RW w sb)
  obtain ⟨b0, b1, hrd, b3, b4, b5⟩ := rw_boxes w sb
  have hbw := rw_below w sb
  have hs5 := rw_size w sb
  generalize RW w sb = W5 at b0 b1 hrd b3 b4 b5 hbw hs5
  refine rangeFunc_of rfl (enters_of Tryz.func187 (by kernel_rfl) rfl) (fun r0 hr0 => ?_)
  refine (split_iter 9 (W5.heap.size + 1) (w.heap.size + 3) (w.heap.size + 4) (w.heap.size + 5) 32 (words (rd f e ds c u) t)
    (fun k W => St (w.heap.size + 8) W (w.heap.size + 2) f e ds c u t ((words (rd f e ds c u) t).drop k) ∧ Fr W5 W (w.heap.size + 2) (w.heap.size + 3) ∧ W.heap[W5.heap.size + 1]? = some (.loop r0))
    (fun _ _ => False) (by omega) (by omega) (by omega) ?hJs ?hY _ sb hsz HP.out ?hBox ?h0).mono ?post
  case hJs =>
    rintro k W v ⟨q1, q3, q4⟩
    exact ⟨q1.kept (grown_set W ⟨w.heap.size + 3, 0, none⟩ v) (show w.heap.size + 2 ≠ w.heap.size + 3 by omega) (show w.heap.size + 3 < _ by omega), q3.setS (by omega) v, (Below.heap_setCell _ _ _ _ (fun e => by have e' : W5.heap.size + 1 = w.heap.size + 3 := e; omega)).trans q4⟩
  case hBox =>
    have hb := below_then (below_alloc W5 (.deferred (some []))) (below_alloc _ (.loop r0))
    exact ⟨(hb.block _ (by omega)).trans b3, (hb.block _ (by omega)).trans b4, (hb.block _ (by omega)).trans b5⟩
  case h0 =>
    exact ⟨.inl ⟨rd_step hrd (below_then (below_alloc _ _) (below_alloc _ _)), rfl⟩, Fr.start _ _ _ _, rec_start _ _⟩
  case hY =>
    rintro k hk W ⟨q1, q3, q4⟩
    have hl0 := (Array.getElem?_eq_some_iff.1 q4).1
    have fr1 := q3.put (.loop { r0 with state := .busy })
    have st1 := q1.kept (grownBy_putObj' W (W5.heap.size + 1) (.loop { r0 with state := .busy })) (show w.heap.size + 2 ≠ W5.heap.size + 1 by omega) (by omega)
    have bw1 : Below w.heap.size w (W.putObj (W5.heap.size + 1) (.loop { r0 with state := .busy })) :=
      ⟨fr1.os.trans hbw.os, fr1.tape.trans hbw.tape, fr1.output.trans hbw.output, by have h1 := fr1.size; omega, fun b hb => (fr1.block b (by omega) (by omega) (by omega)).trans (hbw.block b hb)⟩
    have TK := take_step HW.out HT.out h20 G.out bw1 (show w.heap.size ≤ w.heap.size + 2 by omega) (show w.heap.size + 2 < w.heap.size + 8 by omega) (by have h1 := fr1.size; omega) st1 (List.drop_eq_getElem_cons hk)
    have lrec : (W.putObj (W5.heap.size + 1) (.loop { r0 with state := .busy })).heap[W5.heap.size + 1]? = some (.loop { r0 with state := .busy }) := World.putObj_heap_same hl0
    have e3 : (W.putObj (W5.heap.size + 1) (.loop { r0 with state := .busy })).heap[w.heap.size + 3]? = W.heap[w.heap.size + 3]? := World.putObj_heap_other (by omega)
    have e4 : (W.putObj (W5.heap.size + 1) (.loop { r0 with state := .busy })).heap[w.heap.size + 4]? = W.heap[w.heap.size + 4]? := World.putObj_heap_other (by omega)
    have e5 : (W.putObj (W5.heap.size + 1) (.loop { r0 with state := .busy })).heap[w.heap.size + 5]? = W.heap[w.heap.size + 5]? := World.putObj_heap_other (by omega)
    change YieldAt _ _ _ _ #[.string (bs (words (rd f e ds c u) t)[k])] _ _
    generalize bs (words (rd f e ds c u) t)[k] = x at TK
    refine yieldAt_of hr0 ({ tmps := #[.string sb, undef, .pointer (some ⟨w.heap.size, 0, none⟩), .pointer (some ⟨w.heap.size + 1, 0, none⟩), .pointer (some ⟨w.heap.size + 1 + 1, 0, none⟩), .string x, undef, .pointer (some ⟨w.heap.size + 1 + 1, 0, none⟩), .pointer (some ⟨w.heap.size + 1 + 1, 4, none⟩), .string sb, .func (.func 187) #[] #[.pointer (some ⟨w.heap.size + 1 + 1 + 1 + 1, 0, none⟩), .pointer (some ⟨w.heap.size + 1 + 1 + 1, 0, none⟩), .pointer (some ⟨w.heap.size + 1 + 1 + 1 + 2, 0, none⟩)], .string x, undef, undef, undef, undef, undef, undef, undef, undef, undef, undef, undef, undef, undef, undef, undef, undef, undef, undef], defers := [] }) q4 rfl ?assign ?body
    case assign =>
      intro K hK
      gi_wp2
      exact hK
    case body =>
      generalize (W.putObj (W5.heap.size + 1) (.loop { r0 with state := .busy })) = Wb at fr1 st1 bw1 TK lrec e3 e4 e5
      have T : Hid (Calls Tryz.prog 146 #[.pointer (some ⟨w.heap.size + 2, 0, none⟩), .string x] Wb fun r w' => r = .returned (.bool true) ∧ (Wb.grownBy w' (some (w.heap.size + 2)) ∧ St (w.heap.size + 8) w' (w.heap.size + 2) f e ds c u t ((words (rd f e ds c u) t).drop (k + 1)))) := TK
      have FR : Hid (Fr W5 Wb (w.heap.size + 2) (w.heap.size + 3)) := fr1
      have L : Hid (_) := lrec
      have E3 : Hid (_) := e3
      have E4 : Hid (_) := e4
      have E5 : Hid (_) := e5
      clear fr1 st1 bw1 TK lrec e3 e4 e5 b0 b1 hrd b3 b4 b5 q1 q3 q4
      gi_wp2_with (refine ⟨trivial, ?_⟩; gi_at_call 146; refine (CallsIn.inRound (W5.heap.size + 1) (callsIn_wide.2 T.out)).mono ?_; rintro r w' ⟨rfl, hg, hst⟩)
      have hin : ∀ b, b < W5.heap.size + 2 → b ≠ w.heap.size + 2 → w'.heap[b]? = Wb.heap[b]? := fun b hb hne => hg.block b (by have := FR.out.size; omega) (fun e => hne (by cases e; rfl))
      have fr2 := FR.out.grown hg (by omega)
      have hl2 := (hin (W5.heap.size + 1) (by omega) (by omega)).trans L.out
      refine ⟨hl2, Or.inl ⟨rfl, ⟨hst.kept (grownBy_putObj' w' (W5.heap.size + 1) _) (show w.heap.size + 2 ≠ W5.heap.size + 1 by omega) (by omega), fr2.put _, ?_⟩, ?_, ?_, ?_⟩⟩
      · rw [hr0.again]; exact World.putObj_heap_same (Array.getElem?_eq_some_iff.1 hl2).1
      · exact (World.putObj_heap_other (by omega)).trans ((hin _ (by omega) (by omega)).trans E3.out)
      · exact (World.putObj_heap_other (by omega)).trans ((hin _ (by omega) (by omega)).trans E4.out)
      · exact (World.putObj_heap_other (by omega)).trans ((hin _ (by omega) (by omega)).trans E5.out)
  case post =>
    rintro e2 W2 ⟨hv, (⟨q1, q3, q4⟩ | ⟨k, hx⟩)⟩
    · refine ⟨hv, _, q4, by rw [hr0.state]; decide, .inl ⟨hr0.pending, ?_⟩⟩
      have fr3 := q3.put (.loop { r0 with state := .exhausted })
      have st3 := q1.kept (grownBy_putObj' W2 (W5.heap.size + 1) (.loop { r0 with state := .exhausted })) (show w.heap.size + 2 ≠ W5.heap.size + 1 by omega) (by omega)
      obtain ⟨sl, p, hp, r3, o3⟩ := st_end st3 (by rw [List.drop_length])
      have c0 := (fr3.block w.heap.size (by omega) (by omega) (by omega)).trans b0
      have c1 := (fr3.block (w.heap.size + 1) (by omega) (by omega) (by omega)).trans b1
      have bw3 : Below w.heap.size w (W2.putObj (W5.heap.size + 1) (.loop { r0 with state := .exhausted })) :=
        ⟨fr3.os.trans hbw.os, fr3.tape.trans hbw.tape, fr3.output.trans hbw.output, by have h1 := fr3.size; omega, fun b hb => (fr3.block b (by omega) (by omega) (by omega)).trans (hbw.block b hb)⟩
      generalize W2.putObj (W5.heap.size + 1) (.loop { r0 with state := .exhausted }) = W3 at fr3 st3 r3 o3 c0 c1 bw3
      have ME : Hid (_) := mayEnd_any (w.heap.size + 2) p W3 f e sl c u hp r3
      have CK : Hid (Calls Tryz.prog 53 #[.agg #[.string f, .int .i64 e, sl, .int .i64 c, .int .i64 u]] W3 fun r w' => r = .returned .nilIface ∧ Below W3.heap.size W3 w') := check_ok f e sl c u ds W3 (ow_days o3 h20) HW.out
      have FR : Hid (Fr W5 W3 (w.heap.size + 2) (w.heap.size + 3)) := fr3
      have O3 : Hid (Ow (w.heap.size + 8) W3 sl ds) := o3
      have R3 : Hid (_) := r3
      have B0 : Hid (_) := c0
      have B1 : Hid (_) := c1
      have BW : Hid (_) := bw3
      have hd5 : W3.heap[w.heap.size + 6]? = some (.deferred (some [])) := by rw [← hs5]; exact fr3.dfr
      have HD5 : Hid (_) := hd5
      obtain ⟨sa, scap, rfl, _, _, _⟩ := ow_days o3 h20
      obtain ⟨y0, y1, y2, y3, y4, y5⟩ := rd_cell r3
      clear q1 q3 q4 hd5 fr3 st3 r3 c0 c1 bw3 b0 b1 hrd b3 b4 b5 hp SS o3
      gi_wp2_with (first
        | (refine ⟨trivial, ?_⟩; gi_at_call 147; refine (callsIn_wide.2 (ME.out)).mono ?_; rintro r w' ⟨rfl, rfl⟩)
        | (refine ⟨trivial, ?_⟩; gi_at_call 53; refine (callsIn_wide.2 (CK.out)).mono ?_; rintro r w4 ⟨rfl, hb4⟩; obtain ⟨z0, z1, z2, z3, z4, z5⟩ := rd_cell (rd_step R3.out hb4); have k0 := (hb4.block _ (Array.getElem?_eq_some_iff.1 B0.out).1).trans B0.out; have k1 : Boxed w4 (w.heap.size + 1) 50 .nilIface := (hb4.block _ (Array.getElem?_eq_some_iff.1 B1.out).1).trans B1.out; obtain ⟨v0, v1, v2, v3, v4⟩ := blk5 k0; have t0 := blk5_frozen k0 0; have t1 := blk5_frozen k0 1; have t2 := blk5_frozen k0 2; have t3 := blk5_frozen k0 3; have t4 := blk5_frozen k0 4; have v5 := k1.cell; have t5 := k1.frozen; have K0 : Hid (_) := k0; have K1 : Hid (_) := k1; clear k0 k1))
      have m0 := set_block (i := 0) (.string f) K0.out
      have m1 := set_block (i := 1) (.int .i64 e) m0
      have m2 := set_block (i := 2) (.slice sa ds.length scap) m1
      have m3 := set_block (i := 3) (.int .i64 c) m2
      have m4 := set_block (i := 4) (.int .i64 u) m3
      have g4 : w4.grownBy (((((w4.setCell ⟨w.heap.size, 0, none⟩ (.string f)).setCell ⟨w.heap.size, 1, none⟩ (.int .i64 e)).setCell ⟨w.heap.size, 2, none⟩ (.slice sa ds.length scap)).setCell ⟨w.heap.size, 3, none⟩ (.int .i64 c)).setCell ⟨w.heap.size, 4, none⟩ (.int .i64 u)) (some w.heap.size) :=
        grown_then (grown_then (grown_then (grown_then (grown_set _ ⟨w.heap.size, 0, none⟩ _) (grown_set _ ⟨w.heap.size, 1, none⟩ _)) (grown_set _ ⟨w.heap.size, 2, none⟩ _)) (grown_set _ ⟨w.heap.size, 3, none⟩ _)) (grown_set _ ⟨w.heap.size, 4, none⟩ _)
      change _ = some (Obj.cells #[.string f, .int .i64 e, .slice sa ds.length scap, .int .i64 c, .int .i64 u] 41 (0, 0)) at m4
      clear m0 m1 m2 m3
      generalize ((((w4.setCell ⟨w.heap.size, 0, none⟩ (.string f)).setCell ⟨w.heap.size, 1, none⟩ (.int .i64 e)).setCell ⟨w.heap.size, 2, none⟩ (.slice sa ds.length scap)).setCell ⟨w.heap.size, 3, none⟩ (.int .i64 c)).setCell ⟨w.heap.size, 4, none⟩ (.int .i64 u) = w5 at m4 g4
      have hsz3 := FR.out.size
      have hsz4 := hb4.size
      have k5 : Boxed w5 (w.heap.size + 1) 50 .nilIface := Boxed.kept (show Boxed w4 (w.heap.size + 1) 50 .nilIface from K1.out) g4 (fun e => by have e' := Option.some.inj e; omega)
      have g5 := grown_set w5 ⟨w.heap.size + 1, 0, none⟩ Value.nilIface
      have k6 := k5.set .nilIface
      have m6 := (Below.heap_setCell w5 ⟨w.heap.size + 1, 0, none⟩ Value.nilIface w.heap.size (fun e => by have e' : w.heap.size = w.heap.size + 1 := e; omega)).trans m4
      have d6 := (g5.block (w.heap.size + 6) (by have := g4.size; omega) (fun e => by have e' : w.heap.size + 6 = w.heap.size + 1 := Option.some.inj e; omega)).trans ((g4.block (w.heap.size + 6) (by omega) (fun e => by have e' : w.heap.size + 6 = w.heap.size := Option.some.inj e; omega)).trans ((hb4.block (w.heap.size + 6) (by omega)).trans HD5.out))
      have o6 : Ow (w.heap.size + 8) (w5.setCell ⟨w.heap.size + 1, 0, none⟩ .nilIface) (.slice sa ds.length scap) ds := Ow.grown (Ow.grown (own_step O3.out hb4) g4 (by omega)) g5 (by show w.heap.size + 1 < _; omega)
      have bw6 : Below w.heap.size w (w5.setCell ⟨w.heap.size + 1, 0, none⟩ .nilIface) :=
        ((BW.out.trans (hb4.mono (by omega))).grown g4 (by omega) (fun k e => by cases e; omega)).grown g5 (by have := g4.size; omega) (fun k e => by cases e; show w.heap.size ≤ w.heap.size + 1; omega)
      generalize w5.setCell ⟨w.heap.size + 1, 0, none⟩ Value.nilIface = w6 at k6 m6 d6 o6 bw6
      refine ⟨by simp, .inl ⟨_, _, rfl, run_takeDeferred d6, ?_⟩⟩
      have m7 : (w6.putObj (w.heap.size + 6) (.deferred none)).heap[w.heap.size]? = _ := (World.putObj_heap_other (by omega)).trans m6
      have k7 : Boxed (w6.putObj (w.heap.size + 6) (.deferred none)) (w.heap.size + 1) 50 .nilIface := (World.putObj_heap_other (by omega)).trans k6
      obtain ⟨c0, c1, c2, c3, c4⟩ := blk5 m7
      have c5 := k7.cell
      refine ⟨.tuple #[.agg #[.string f, .int .i64 e, .slice sa ds.length scap, .int .i64 c, .int .i64 u], .nilIface], ?_, _, rfl, own_base (Ow.grown o6 (grownBy_putObj' w6 (w.heap.size + 6) _) (by omega)) (by omega), bw6.grown (grownBy_putObj' w6 (w.heap.size + 6) _) bw6.size (fun k e => by cases e; omega)⟩
      simp [results, Tryz.f111, go_sem, c0, c1, c2, c3, c4, c5]
    · exact hx.elim
end Go.Proofs.YtekminpoiokgfaaGreatDoor
