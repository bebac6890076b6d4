/- The law EventBack, walked: an event is read as it was written; each field set as it is leaves it; set as another one's is that one's. -/
import Derived.Test.YtjhlbkjcchejjaaGreatDoorBkJW
import Derived.Test.YtjhlbkjcchejjaaGreatDoorYbE
import Derived.Deep.RegionHeld3
import Derived.Deep.CutRange
import Derived.Deep.LoopGhost
namespace Go.Proofs.YtjhlbkjcchejjaaGreatDoor
open Go Go.RowKit Go.Sort Cal
attribute [local go_sem] Oper.semAt_some

theorem Lists.ls {W : World} {E : EV} {sl skv mvv : Value} (h : Lists W E sl skv mvv) : Ls W E sl skv mvv := ⟨h.d, h.s, h.m⟩

theorem put11_below {w W : World} {B : Nat} {v0 v1 v2 v3 v4 v5 v6 v7 v8 v9 v10 : Value} (h : Below w.heap.size w W) (hB : w.heap.size ≤ B) : Below w.heap.size w (put11 W B v0 v1 v2 v3 v4 v5 v6 v7 v8 v9 v10) := ⟨(put11_grown W B v0 v1 v2 v3 v4 v5 v6 v7 v8 v9 v10).os.trans h.os, (put11_grown W B v0 v1 v2 v3 v4 v5 v6 v7 v8 v9 v10).tape.trans h.tape, (put11_grown W B v0 v1 v2 v3 v4 v5 v6 v7 v8 v9 v10).output.trans h.output, Nat.le_trans h.size (put11_grown W B v0 v1 v2 v3 v4 v5 v6 v7 v8 v9 v10).size, fun k hk => ((put11_grown W B v0 v1 v2 v3 v4 v5 v6 v7 v8 v9 v10).block k (Nat.lt_of_lt_of_le hk h.size) (fun q => by have q' : k = B := Option.some.inj q; omega)).trans (h.block k hk)⟩

theorem close_put {E : EV} {W : World} {b base : Nat} {sl skv mvv : Value} (zb : W.heap[b]? = some (.cells #[.string ⟨#[]⟩, .string ⟨#[]⟩, .int .i64 0, .int .i64 0, .string ⟨#[]⟩, .int .i64 0, .slice none 0 0, .int .i64 0, .int .i64 0, .slice none 0 0, .slice none 0 0] 27 (0, 0))) (ho1 : Ow base W sl E.ds) (ho2 : Ow base W skv E.sk) (ho3 : OwM base W mvv E.mv) (hb : b < base) (h20 : E.ds.length ≤ 20) (k20 : E.sk.length ≤ 20) (m20 : E.mv.length ≤ 20) :
    EB (put11 W b (.string E.id) (.string E.ti) (.int .i64 E.st) (.int .i64 E.lg) (.string E.f) (.int .i64 E.e) sl (.int .i64 E.c) (.int .i64 E.u) skv mvv) b E sl skv mvv ∧ Ls (put11 W b (.string E.id) (.string E.ti) (.int .i64 E.st) (.int .i64 E.lg) (.string E.f) (.int .i64 E.e) sl (.int .i64 E.c) (.int .i64 E.u) skv mvv) E sl skv mvv := by
  have g7 := put11_grown W b (.string E.id) (.string E.ti) (.int .i64 E.st) (.int .i64 E.lg) (.string E.f) (.int .i64 E.e) sl (.int .i64 E.c) (.int .i64 E.u) skv mvv
  exact ⟨put11_blk _ _ _ _ _ _ _ _ _ _ _ zb, ow_days (Ow.grown ho1 g7 hb) h20, ow_ints (Ow.grown ho2 g7 hb) (by omega), (owm_movs (OwM.grown ho3 g7 hb) (by omega)).1⟩

set_option maxHeartbeats 8000000 in
set_option maxRecDepth 100000 in
theorem eback_all (A B : EV) (sla ska mva slb skb mvb : Value) (s : Nat → Addr) (w : World) (gk : GlobK s w) (g : GlobR w) (hda : Got w sla A.ds) (hsa : Got w ska A.sk) (hma : GotM w mva A.mv) (hdb : Got w slb B.ds) (hsb : Got w skb B.sk) (hmb : GotM w mvb B.mv) :
    Calls Tryz.prog 3 #[ev A sla ska mva, ev B slb skb mvb] w fun r w' => r = .returned (.bool true) ∧ Below w.heap.size w w' := by
  have GK : Hid (GlobK s w) := gk
  have GR : Hid (GlobR w) := g
  have DA : Hid (Got w sla A.ds) := hda
  have SA : Hid (Got w ska A.sk) := hsa
  have MA : Hid (GotM w mva A.mv) := hma
  have DB : Hid (Got w slb B.ds) := hdb
  have SB : Hid (Got w skb B.sk) := hsb
  have MB : Hid (GotM w mvb B.mv) := hmb
  obtain ⟨ra, rca, rfl⟩ := got_form hda
  obtain ⟨sa, sca, rfl⟩ := got_form hsa
  obtain ⟨ma, mca, rfl⟩ := gotM_form hma
  obtain ⟨rb, rcb, rfl⟩ := got_form hdb
  obtain ⟨sb, scb, rfl⟩ := got_form hsb
  obtain ⟨mb, mcb, rfl⟩ := gotM_form hmb
  have hA := below_box2 w (.cells #[.string A.id, .string A.ti, .int .i64 A.st, .int .i64 A.lg, .string A.f, .int .i64 A.e, .slice ra A.ds.length rca, .int .i64 A.c, .int .i64 A.u, .slice sa A.sk.length sca, .slice ma A.mv.length mca] 27) (.cells #[.string B.id, .string B.ti, .int .i64 B.st, .int .i64 B.lg, .string B.f, .int .i64 B.e, .slice rb B.ds.length rcb, .int .i64 B.c, .int .i64 B.u, .slice sb B.sk.length scb, .slice mb B.mv.length mcb] 27)
  have k0 : EB ((w.alloc (.cells #[.string A.id, .string A.ti, .int .i64 A.st, .int .i64 A.lg, .string A.f, .int .i64 A.e, .slice ra A.ds.length rca, .int .i64 A.c, .int .i64 A.u, .slice sa A.sk.length sca, .slice ma A.mv.length mca] 27)).alloc (.cells #[.string B.id, .string B.ti, .int .i64 B.st, .int .i64 B.lg, .string B.f, .int .i64 B.e, .slice rb B.ds.length rcb, .int .i64 B.c, .int .i64 B.u, .slice sb B.sk.length scb, .slice mb B.mv.length mcb] 27)) w.heap.size A (.slice ra A.ds.length rca) (.slice sa A.sk.length sca) (.slice ma A.mv.length mca) := block_alloc _ (EB.new w A _ _ _)
  have k1 : EB ((w.alloc (.cells #[.string A.id, .string A.ti, .int .i64 A.st, .int .i64 A.lg, .string A.f, .int .i64 A.e, .slice ra A.ds.length rca, .int .i64 A.c, .int .i64 A.u, .slice sa A.sk.length sca, .slice ma A.mv.length mca] 27)).alloc (.cells #[.string B.id, .string B.ti, .int .i64 B.st, .int .i64 B.lg, .string B.f, .int .i64 B.e, .slice rb B.ds.length rcb, .int .i64 B.c, .int .i64 B.u, .slice sb B.sk.length scb, .slice mb B.mv.length mcb] 27)) (w.heap.size + 1) B (.slice rb B.ds.length rcb) (.slice sb B.sk.length scb) (.slice mb B.mv.length mcb) := block_at _ (by simp)
  have EVD : Hid (Calls _ _ _ _ _) := evented_any s _ (gk.step hA) (g.tab.step hA)
  have HA : Hid (_) := hA
  clear hda hsa hma hdb hsb hmb gk g hA
  unfold ev
  go_enter Tryz.func3, Tryz.ntmps3
  generalize hw0 : (w.alloc (.cells #[.string A.id, .string A.ti, .int .i64 A.st, .int .i64 A.lg, .string A.f, .int .i64 A.e, .slice ra A.ds.length rca, .int .i64 A.c, .int .i64 A.u, .slice sa A.sk.length sca, .slice ma A.mv.length mca] 27)).alloc (.cells #[.string B.id, .string B.ti, .int .i64 B.st, .int .i64 B.lg, .string B.f, .int .i64 B.e, .slice rb B.ds.length rcb, .int .i64 B.c, .int .i64 B.u, .slice sb B.sk.length scb, .slice mb B.mv.length mcb] 27) = w0 at HA k0 k1 EVD
  go_upto_region 2 with (go_at_call 6; refine Calls.mono EVD.out ?_; rintro r w1 ⟨rfl, hb1⟩)
  have K0 : Hid (EB w1 w.heap.size A (.slice ra A.ds.length rca) (.slice sa A.sk.length sca) (.slice ma A.mv.length mca)) := k0.step hb1
  have K1 : Hid (EB w1 (w.heap.size + 1) B (.slice rb B.ds.length rcb) (.slice sb B.sk.length scb) (.slice mb B.mv.length mcb)) := k1.step hb1
  have BW1 : Hid (Below w.heap.size w w1) := below_then HA.out hb1
  clear k0 k1 hb1 EVD HA hw0
  obtain ⟨x0, x1, x2, x3, x4, x5, x6, x7, x8, x9, x10⟩ := blk11 (show w1.heap[w.heap.size]? = _ from K0.out)
  obtain ⟨y0, y1, y2, y3, y4, y5, y6, y7, y8, y9, y10⟩ := blk11 (show w1.heap[w.heap.size + 1]? = _ from K1.out)
  have X0 := cell_regrown x0
  have Y0 := cell_regrown y0
  have X1 := cell_regrown x1
  have Y1 := cell_regrown y1
  have X2 := cell_regrown x2
  have Y2 := cell_regrown y2
  have X3 := cell_regrown x3
  have Y3 := cell_regrown y3
  have X4 := cell_regrown x4
  have Y4 := cell_regrown y4
  have X5 := cell_regrown x5
  have Y5 := cell_regrown y5
  have X6 := cell_regrown x6
  have Y6 := cell_regrown y6
  have X7 := cell_regrown x7
  have Y7 := cell_regrown y7
  have X8 := cell_regrown x8
  have Y8 := cell_regrown y8
  have X9 := cell_regrown x9
  have Y9 := cell_regrown y9
  have X10 := cell_regrown x10
  have Y10 := cell_regrown y10
  have L1 : Hid (∀ d os, Calls Tryz.prog 7 #[.agg #[.string A.id, .string A.ti, .int .i64 A.st, .int .i64 A.lg, .string A.f, .int .i64 A.e, .slice ra A.ds.length rca, .int .i64 A.c, .int .i64 A.u, .slice sa A.sk.length sca, .slice ma A.mv.length mca]] (grow (redrawn w1 d) os) fun r w'' => r = .returned (.int .i64 (lngE A)) ∧ ∃ p : Regrown, w'' = grow (redrawn w1 p.d) p.os) := fun d os => Calls.regrown_of (longEvent_any A ra rca sa sca ma mca _)
  have L2 : Hid (∀ d os, Calls Tryz.prog 7 #[.agg #[.string B.id, .string B.ti, .int .i64 B.st, .int .i64 B.lg, .string B.f, .int .i64 B.e, .slice rb B.ds.length rcb, .int .i64 B.c, .int .i64 B.u, .slice sb B.sk.length scb, .slice mb B.mv.length mcb]] (grow (redrawn w1 d) os) fun r w'' => r = .returned (.int .i64 (lngE B)) ∧ ∃ p : Regrown, w'' = grow (redrawn w1 p.d) p.os) := fun d os => Calls.regrown_of (longEvent_any B rb rcb sb scb mb mcb _)
  have H1 : Hid (lngE A = 0 → _) := fun h => lngE_0 h
  have H2 : Hid (lngE B = 0 → _) := fun h => lngE_0 h
  obtain ⟨l0, l1⟩ := lngE_01 A
  obtain ⟨m0, m1⟩ := lngE_01 B
  generalize lngE A = n1 at L1 H1 l0 l1
  generalize lngE B = n2 at L2 H2 m0 m1
  refine wp_region_quiet_below (by kernel_rfl) (by kernel_rfl) ?_
  repeat (quiet_step (first | (go_at_call_of 7 (Value.agg #[.string A.id, .string A.ti, .int .i64 A.st, .int .i64 A.lg, .string A.f, .int .i64 A.e, .slice ra A.ds.length rca, .int .i64 A.c, .int .i64 A.u, .slice sa A.sk.length sca, .slice ma A.mv.length mca]); exact L1.out _ _) | (go_at_call_of 7 (Value.agg #[.string B.id, .string B.ti, .int .i64 B.st, .int .i64 B.lg, .string B.f, .int .i64 B.e, .slice rb B.ds.length rcb, .int .i64 B.c, .int .i64 B.u, .slice sb B.sk.length scb, .slice mb B.mv.length mcb]); exact L2.out _ _)))
  refine wpQuiet_nil ?_
  intro w2 hw'
  have hb2 : Below w1.heap.size w1 w2 := by
    obtain ⟨⟨dq, osq⟩, hw''⟩ := hw'
    subst hw''
    exact below_regrown _ _ _
  clear hw' X0 Y0 x0 y0 X1 Y1 x1 y1 X2 Y2 x2 y2 X3 Y3 x3 y3 X4 Y4 x4 y4 X5 Y5 x5 y5 X6 Y6 x6 y6 X7 Y7 x7 y7 X8 Y8 x8 y8 X9 Y9 x9 y9 X10 Y10 x10 y10 L1 L2
  have hwr : IntKind.i64.wrap (n1 + n2) = n1 + n2 := by
    have h1 : n1 = 0 ∨ n1 = 1 := by omega
    have h2 : n2 = 0 ∨ n2 = 1 := by omega
    rcases h1 with rfl | rfl <;> rcases h2 with rfl | rfl <;> rfl
  by_cases hlong : 0 < n1 + n2
  · go_wp2
    go_ret
    exact ⟨rfl, below_then BW1.out hb2⟩
  · obtain ⟨f20, d20, i30, t60, s25, v25⟩ := H1.out (by omega)
    obtain ⟨f20', d20', i30', t60', s25', v25'⟩ := H2.out (by omega)
    have BW2 : Hid (Below w.heap.size w w2) := below_then BW1.out hb2
    have OA : Hid (Calls _ _ _ _ _) := ownEvent_any A _ _ _ w2 (DA.out.step BW2.out) (SA.out.step BW2.out) (MA.out.step BW2.out) d20 (by omega) (by omega)
    obtain ⟨x0, x1, x2, x3, x4, x5, x6, x7, x8, x9, x10⟩ := blk11 (show w2.heap[w.heap.size]? = _ from K0.out.step hb2)
    have K12 : Hid (EB w2 (w.heap.size + 1) B (.slice rb B.ds.length rcb) (.slice sb B.sk.length scb) (.slice mb B.mv.length mcb)) := K1.out.step hb2
    clear K0 K1 BW1 hb2 H1 H2 DA SA MA
    unfold ev at OA
    go_upto_region 5 with (go_at_call 8; refine Calls.mono OA.out ?_; rintro r w3 ⟨slx, skx, mvx, rfl, hl3, hb3⟩; obtain ⟨rx, rcx, rfl, q1, q2, q3⟩ := hl3.d; obtain ⟨sx, scx, rfl, q4, q5, q6⟩ := hl3.s; obtain ⟨mx, mcx, rfl, q7, q8, q9⟩ := hl3.m; have LX : Hid (Ls w3 A (.slice rx A.ds.length rcx) (.slice sx A.sk.length scx) (.slice mx A.mv.length mcx)) := ⟨⟨_, _, rfl, q1, q2, q3⟩, ⟨_, _, rfl, q4, q5, q6⟩, ⟨_, _, rfl, q7, q8, q9⟩⟩; clear q1 q2 q3 q4 q5 q6 q7 q8 q9 hl3)
    have KX : Hid (EB (w3.alloc (.cells #[.string A.id, .string A.ti, .int .i64 A.st, .int .i64 A.lg, .string A.f, .int .i64 A.e, .slice rx A.ds.length rcx, .int .i64 A.c, .int .i64 A.u, .slice sx A.sk.length scx, .slice mx A.mv.length mcx] 27)) w3.heap.size A (.slice rx A.ds.length rcx) (.slice sx A.sk.length scx) (.slice mx A.mv.length mcx)) := EB.new w3 A _ _ _
    have LX4 : Hid (Ls (w3.alloc (.cells #[.string A.id, .string A.ti, .int .i64 A.st, .int .i64 A.lg, .string A.f, .int .i64 A.e, .slice rx A.ds.length rcx, .int .i64 A.c, .int .i64 A.u, .slice sx A.sk.length scx, .slice mx A.mv.length mcx] 27)) A (.slice rx A.ds.length rcx) (.slice sx A.sk.length scx) (.slice mx A.mv.length mcx)) := LX.out.step (below_alloc _ _)
    have B24 : Hid (Below w2.heap.size w2 (w3.alloc (.cells #[.string A.id, .string A.ti, .int .i64 A.st, .int .i64 A.lg, .string A.f, .int .i64 A.e, .slice rx A.ds.length rcx, .int .i64 A.c, .int .i64 A.u, .slice sx A.sk.length scx, .slice mx A.mv.length mcx] 27))) := below_then hb3 (below_alloc _ _)
    have hbx : w2.heap.size ≤ w3.heap.size := hb3.size
    clear LX hb3 x0 x1 x2 x3 x4 x5 x6 x7 x8 x9 x10 OA
    generalize w3.alloc (.cells #[.string A.id, .string A.ti, .int .i64 A.st, .int .i64 A.lg, .string A.f, .int .i64 A.e, .slice rx A.ds.length rcx, .int .i64 A.c, .int .i64 A.u, .slice sx A.sk.length scx, .slice mx A.mv.length mcx] 27) = w4 at KX LX4 B24 ⊢
    generalize w3.heap.size = bx at KX hbx ⊢
    have BW4 : Hid (Below w.heap.size w w4) := below_then BW2.out B24.out
    have OB : Hid (Calls _ _ _ _ _) := ownEvent_any B _ _ _ w4 (DB.out.step BW4.out) (SB.out.step BW4.out) (MB.out.step BW4.out) d20' (by omega) (by omega)
    obtain ⟨y0, y1, y2, y3, y4, y5, y6, y7, y8, y9, y10⟩ := blk11 (show w4.heap[w.heap.size + 1]? = _ from K12.out.step B24.out)
    have hsz2 := BW2.out.size
    clear BW2 B24 K12 DB SB MB
    unfold ev at OB
    go_upto_region 6 with (go_at_call 8; refine Calls.mono OB.out ?_; rintro r w5 ⟨sly, sky, mvy, rfl, hl5, hb5⟩; obtain ⟨ry, rcy, rfl, q1, q2, q3⟩ := hl5.d; obtain ⟨sy, scy, rfl, q4, q5, q6⟩ := hl5.s; obtain ⟨my, mcy, rfl, q7, q8, q9⟩ := hl5.m; have LY : Hid (Ls w5 B (.slice ry B.ds.length rcy) (.slice sy B.sk.length scy) (.slice my B.mv.length mcy)) := ⟨⟨_, _, rfl, q1, q2, q3⟩, ⟨_, _, rfl, q4, q5, q6⟩, ⟨_, _, rfl, q7, q8, q9⟩⟩; clear q1 q2 q3 q4 q5 q6 q7 q8 q9 hl5)
    have KY : Hid (EB (w5.alloc (.cells #[.string B.id, .string B.ti, .int .i64 B.st, .int .i64 B.lg, .string B.f, .int .i64 B.e, .slice ry B.ds.length rcy, .int .i64 B.c, .int .i64 B.u, .slice sy B.sk.length scy, .slice my B.mv.length mcy] 27)) w5.heap.size B (.slice ry B.ds.length rcy) (.slice sy B.sk.length scy) (.slice my B.mv.length mcy)) := EB.new w5 B _ _ _
    have LY6 : Hid (Ls (w5.alloc (.cells #[.string B.id, .string B.ti, .int .i64 B.st, .int .i64 B.lg, .string B.f, .int .i64 B.e, .slice ry B.ds.length rcy, .int .i64 B.c, .int .i64 B.u, .slice sy B.sk.length scy, .slice my B.mv.length mcy] 27)) B (.slice ry B.ds.length rcy) (.slice sy B.sk.length scy) (.slice my B.mv.length mcy)) := LY.out.step (below_alloc _ _)
    have B46 : Hid (Below w4.heap.size w4 (w5.alloc (.cells #[.string B.id, .string B.ti, .int .i64 B.st, .int .i64 B.lg, .string B.f, .int .i64 B.e, .slice ry B.ds.length rcy, .int .i64 B.c, .int .i64 B.u, .slice sy B.sk.length scy, .slice my B.mv.length mcy] 27))) := below_then hb5 (below_alloc _ _)
    have hby : w4.heap.size ≤ w5.heap.size := hb5.size
    clear LY hb5 y0 y1 y2 y3 y4 y5 y6 y7 y8 y9 y10 OB
    generalize w5.alloc (.cells #[.string B.id, .string B.ti, .int .i64 B.st, .int .i64 B.lg, .string B.f, .int .i64 B.e, .slice ry B.ds.length rcy, .int .i64 B.c, .int .i64 B.u, .slice sy B.sk.length scy, .slice my B.mv.length mcy] 27) = w6 at KY LY6 B46 ⊢
    generalize w5.heap.size = by' at KY hby ⊢
    have KX6 : Hid (EB w6 bx A (.slice rx A.ds.length rcx) (.slice sx A.sk.length scx) (.slice mx A.mv.length mcx)) := KX.out.step B46.out
    have LX6 : Hid (Ls w6 A (.slice rx A.ds.length rcx) (.slice sx A.sk.length scx) (.slice mx A.mv.length mcx)) := LX4.out.step B46.out
    have BW6 : Hid (Below w.heap.size w w6) := below_then BW4.out B46.out
    clear KX LX4 BW4 B46 hbx hby hsz2
    have CKA : ∀ k, EvK A k → ∀ W, Below w6.heap.size w6 W → Calls Tryz.prog 9 #[.agg #[.string A.id, .string A.ti, .int .i64 A.st, .int .i64 A.lg, .string A.f, .int .i64 A.e, .slice rx A.ds.length rcx, .int .i64 A.c, .int .i64 A.u, .slice sx A.sk.length scx, .slice mx A.mv.length mcx]] W fun r w' => r = .returned (errV s k) ∧ Below W.heap.size W w' := fun k hk W hW => evCheck_k A _ _ _ k s W (GK.out.step (below_then BW6.out hW)) (LX6.out.step hW).d (LX6.out.step hW).s (LX6.out.step hW).m (by omega) (by omega) hk
    have CKB : ∀ k, EvK B k → ∀ W, Below w6.heap.size w6 W → Calls Tryz.prog 9 #[.agg #[.string B.id, .string B.ti, .int .i64 B.st, .int .i64 B.lg, .string B.f, .int .i64 B.e, .slice ry B.ds.length rcy, .int .i64 B.c, .int .i64 B.u, .slice sy B.sk.length scy, .slice my B.mv.length mcy]] W fun r w' => r = .returned (errV s k) ∧ Below W.heap.size W w' := fun k hk W hW => evCheck_k B _ _ _ k s W (GK.out.step (below_then BW6.out hW)) (LY6.out.step hW).d (LY6.out.step hW).s (LY6.out.step hW).m (by omega) (by omega) hk
    obtain ⟨ka, hka⟩ := evK_ex A
    obtain ⟨kb, hkb⟩ := evK_ex B
    have HCA : Hid (∀ W, Below w6.heap.size w6 W → Calls Tryz.prog 9 #[.agg #[.string A.id, .string A.ti, .int .i64 A.st, .int .i64 A.lg, .string A.f, .int .i64 A.e, .slice rx A.ds.length rcx, .int .i64 A.c, .int .i64 A.u, .slice sx A.sk.length scx, .slice mx A.mv.length mcx]] W fun r w' => r = .returned (errV s ka) ∧ Below W.heap.size W w') := CKA ka hka
    have HCB : Hid (∀ W, Below w6.heap.size w6 W → Calls Tryz.prog 9 #[.agg #[.string B.id, .string B.ti, .int .i64 B.st, .int .i64 B.lg, .string B.f, .int .i64 B.e, .slice ry B.ds.length rcy, .int .i64 B.c, .int .i64 B.u, .slice sy B.sk.length scy, .slice my B.mv.length mcy]] W fun r w' => r = .returned (errV s kb) ∧ Below W.heap.size W w') := CKB kb hkb
    have ea := evK_0 hka
    have eb := evK_0 hkb
    clear CKA CKB hka hkb f20 f20' i30 i30' t60 t60' s25 s25' v25 v25' hwr hlong l0 l1 m0 m1
    obtain ⟨x0, x1, x2, x3, x4, x5, x6, x7, x8, x9, x10⟩ := blk11 (show w6.heap[bx]? = _ from KX6.out)
    have YB : Hid (∀ W, Below w6.heap.size w6 W → EB W by' B (.slice ry B.ds.length rcy) (.slice sy B.sk.length scy) (.slice my B.mv.length mcy)) := fun W hW => KY.out.step hW
    by_cases hkA : ka = 0
    case neg =>
      obtain ⟨p, hp⟩ := errV_ne (s := s) hkA
      rw [hp] at HCA
      clear hkA hp ea eb HCB
      go_wp2_with (go_at_call 9; refine Calls.mono (HCA.out _ (Below.refl _ _)) ?_; rintro r w7 ⟨rfl, hb7⟩)
      go_ret
      exact ⟨rfl, below_then BW6.out hb7⟩
    case pos =>
      have hEA : EW A := ea.1 hkA
      rw [hkA, errV_0] at HCA
      by_cases hkB : kb = 0
      case neg =>
        obtain ⟨p, hp⟩ := errV_ne (s := s) hkB
        rw [hp] at HCB
        clear hkA hkB hp ea eb hEA
        go_wp2_with (first
          | (go_at_call_of 9 (Value.agg #[.string A.id, .string A.ti, .int .i64 A.st, .int .i64 A.lg, .string A.f, .int .i64 A.e, .slice rx A.ds.length rcx, .int .i64 A.c, .int .i64 A.u, .slice sx A.sk.length scx, .slice mx A.mv.length mcx]); refine Calls.mono (HCA.out _ (Below.refl _ _)) ?_; rintro r w7 ⟨rfl, hb7⟩; obtain ⟨y0, y1, y2, y3, y4, y5, y6, y7, y8, y9, y10⟩ := blk11 (show w7.heap[by']? = _ from YB.out _ hb7))
          | (go_at_call_of 9 (Value.agg #[.string B.id, .string B.ti, .int .i64 B.st, .int .i64 B.lg, .string B.f, .int .i64 B.e, .slice ry B.ds.length rcy, .int .i64 B.c, .int .i64 B.u, .slice sy B.sk.length scy, .slice my B.mv.length mcy]); refine Calls.mono (HCB.out _ hb7) ?_; rintro r w8 ⟨rfl, hb8⟩))
        go_ret
        exact ⟨rfl, below_then BW6.out (below_then hb7 hb8)⟩
      case pos =>
        have hEB : EW B := eb.1 hkB
        rw [hkB, errV_0] at HCB
        have HEA : Hid (EW A) := hEA
        have HEB : Hid (EW B) := hEB
        clear hkA hkB ea eb hEA hEB
        go_upto_region 8 with (first
          | (go_at_call_of 9 (Value.agg #[.string A.id, .string A.ti, .int .i64 A.st, .int .i64 A.lg, .string A.f, .int .i64 A.e, .slice rx A.ds.length rcx, .int .i64 A.c, .int .i64 A.u, .slice sx A.sk.length scx, .slice mx A.mv.length mcx]); refine Calls.mono (HCA.out _ (Below.refl _ _)) ?_; rintro r w7 ⟨rfl, hb7⟩; obtain ⟨y0, y1, y2, y3, y4, y5, y6, y7, y8, y9, y10⟩ := blk11 (show w7.heap[by']? = _ from YB.out _ hb7))
          | (go_at_call_of 9 (Value.agg #[.string B.id, .string B.ti, .int .i64 B.st, .int .i64 B.lg, .string B.f, .int .i64 B.e, .slice ry B.ds.length rcy, .int .i64 B.c, .int .i64 B.u, .slice sy B.sk.length scy, .slice my B.mv.length mcy]); refine Calls.mono (HCB.out _ hb7) ?_; rintro r w8 ⟨rfl, hb8⟩))
        have B68 : Hid (Below w6.heap.size w6 w8) := below_then hb7 hb8
        have KX8 : Hid (EB w8 bx A (.slice rx A.ds.length rcx) (.slice sx A.sk.length scx) (.slice mx A.mv.length mcx)) := KX6.out.step B68.out
        have KY8 : Hid (EB w8 by' B (.slice ry B.ds.length rcy) (.slice sy B.sk.length scy) (.slice my B.mv.length mcy)) := KY.out.step B68.out
        have LX8 : Hid (Ls w8 A (.slice rx A.ds.length rcx) (.slice sx A.sk.length scx) (.slice mx A.mv.length mcx)) := LX6.out.step B68.out
        have LY8 : Hid (Ls w8 B (.slice ry B.ds.length rcy) (.slice sy B.sk.length scy) (.slice my B.mv.length mcy)) := LY6.out.step B68.out
        have BW8 : Hid (Below w.heap.size w w8) := below_then BW6.out B68.out
        clear x0 x1 x2 x3 x4 x5 x6 x7 x8 x9 x10 y0 y1 y2 y3 y4 y5 y6 y7 y8 y9 y10 hb7 hb8 B68 KX6 KY LX6 LY6 BW6 HCA HCB YB
        have TX : Hid (Calls _ _ _ _ _) := etext_any A _ _ _ s w8 (GK.out.step BW8.out) (GR.out.step BW8.out) LX8.out.d LX8.out.s LX8.out.m HEA.out
        have RD : Hid (∀ W, Below w8.heap.size w8 W → Calls Tryz.prog 10 #[.string (bs (eT A))] W fun r w' => ∃ sl skv mvv, r = .returned (.tuple #[ev A sl skv mvv, .nilIface]) ∧ Ls w' A sl skv mvv ∧ Below W.heap.size W w') := fun W hW => eread_any A s W (GK.out.step (below_then BW8.out hW)) (GR.out.step (below_then BW8.out hW)) HEA.out d20
        generalize bs (eT A) = tx at TX RD
        unfold ev at TX RD
        obtain ⟨x0, x1, x2, x3, x4, x5, x6, x7, x8, x9, x10⟩ := blk11 (show w8.heap[bx]? = _ from KX8.out)
        go_upto_region 9 with (first
          | (go_at_call 11; refine Calls.mono TX.out ?_; rintro r w9 ⟨rfl, hb9⟩)
          | (go_at_call 10; refine Calls.mono (RD.out _ hb9) ?_; rintro r w10 ⟨slz, skz, mvz, rfl, hlz, hb10⟩; obtain ⟨rz, rcz, rfl, q1, q2, q3⟩ := hlz.d; obtain ⟨sz, scz, rfl, q4, q5, q6⟩ := hlz.s; obtain ⟨mz, mcz, rfl, q7, q8, q9⟩ := hlz.m; have LZ : Hid (Ls w10 A (.slice rz A.ds.length rcz) (.slice sz A.sk.length scz) (.slice mz A.mv.length mcz)) := ⟨⟨_, _, rfl, q1, q2, q3⟩, ⟨_, _, rfl, q4, q5, q6⟩, ⟨_, _, rfl, q7, q8, q9⟩⟩; clear q1 q2 q3 q4 q5 q6 q7 q8 q9 hlz))
        have KZ : Hid (EB (w10.alloc (.cells #[.string A.id, .string A.ti, .int .i64 A.st, .int .i64 A.lg, .string A.f, .int .i64 A.e, .slice rz A.ds.length rcz, .int .i64 A.c, .int .i64 A.u, .slice sz A.sk.length scz, .slice mz A.mv.length mcz] 27)) w10.heap.size A (.slice rz A.ds.length rcz) (.slice sz A.sk.length scz) (.slice mz A.mv.length mcz)) := EB.new w10 A _ _ _
        have LZ11 : Hid (Ls (w10.alloc (.cells #[.string A.id, .string A.ti, .int .i64 A.st, .int .i64 A.lg, .string A.f, .int .i64 A.e, .slice rz A.ds.length rcz, .int .i64 A.c, .int .i64 A.u, .slice sz A.sk.length scz, .slice mz A.mv.length mcz] 27)) A (.slice rz A.ds.length rcz) (.slice sz A.sk.length scz) (.slice mz A.mv.length mcz)) := LZ.out.step (below_alloc _ _)
        have B811 : Hid (Below w8.heap.size w8 (w10.alloc (.cells #[.string A.id, .string A.ti, .int .i64 A.st, .int .i64 A.lg, .string A.f, .int .i64 A.e, .slice rz A.ds.length rcz, .int .i64 A.c, .int .i64 A.u, .slice sz A.sk.length scz, .slice mz A.mv.length mcz] 27))) := below_then hb9 (below_then hb10 (below_alloc _ _))
        clear LZ hb9 hb10 x0 x1 x2 x3 x4 x5 x6 x7 x8 x9 x10 TX RD
        generalize w10.alloc (.cells #[.string A.id, .string A.ti, .int .i64 A.st, .int .i64 A.lg, .string A.f, .int .i64 A.e, .slice rz A.ds.length rcz, .int .i64 A.c, .int .i64 A.u, .slice sz A.sk.length scz, .slice mz A.mv.length mcz] 27) = w11 at KZ LZ11 B811 ⊢
        generalize w10.heap.size = bz at KZ ⊢
        have KX11 : Hid (EB w11 bx A (.slice rx A.ds.length rcx) (.slice sx A.sk.length scx) (.slice mx A.mv.length mcx)) := KX8.out.step B811.out
        have KY11 : Hid (EB w11 by' B (.slice ry B.ds.length rcy) (.slice sy B.sk.length scy) (.slice my B.mv.length mcy)) := KY8.out.step B811.out
        have LX11 : Hid (Ls w11 A (.slice rx A.ds.length rcx) (.slice sx A.sk.length scx) (.slice mx A.mv.length mcx)) := LX8.out.step B811.out
        have LY11 : Hid (Ls w11 B (.slice ry B.ds.length rcy) (.slice sy B.sk.length scy) (.slice my B.mv.length mcy)) := LY8.out.step B811.out
        have BW11 : Hid (Below w.heap.size w w11) := below_then BW8.out B811.out
        have SE : Hid (Calls _ _ _ _ _) := sameEvent_any A _ _ _ _ _ _ w11 LZ11.out LX11.out
        unfold ev at SE
        obtain ⟨x0, x1, x2, x3, x4, x5, x6, x7, x8, x9, x10⟩ := blk11 (show w11.heap[bx]? = _ from KX11.out)
        obtain ⟨z0, z1, z2, z3, z4, z5, z6, z7, z8, z9, z10⟩ := blk11 (show w11.heap[bz]? = _ from KZ.out)
        clear KX8 KY8 LX8 LY8 BW8 B811
        go_upto_region 11 with (go_at_call 12; refine Calls.mono SE.out ?_; rintro r w12 ⟨rfl, hb12⟩)
        clear x0 x1 x2 x3 x4 x5 x6 x7 x8 x9 x10 z0 z1 z2 z3 z4 z5 z6 z7 z8 z9 z10 SE KZ LZ11
        go_upto_region 12 with (go_at_call 13; refine Calls.mono (fields_any _) ?_; rintro r w' ⟨rfl, rfl⟩)
        have FC : Hid (∀ (i : Nat), i < 6 → (w12.alloc fldO).cell? ⟨w12.heap.size, i, none⟩ = some (.string (fldB i))) := fun i hi => fld_cell w12 i hi
        have BF : Hid (Below w11.heap.size w11 (w12.alloc fldO)) := below_then hb12 (below_alloc _ _)
        have hnf : w12.heap.size < (w12.alloc fldO).heap.size := by rw [World.size_alloc]; exact Nat.lt_succ_self _
        generalize w12.alloc fldO = w13 at FC BF hnf ⊢
        generalize w12.heap.size = nf at FC hnf ⊢
        have KX13 : Hid (EB w13 bx A (.slice rx A.ds.length rcx) (.slice sx A.sk.length scx) (.slice mx A.mv.length mcx)) := KX11.out.step BF.out
        have KY13 : Hid (EB w13 by' B (.slice ry B.ds.length rcy) (.slice sy B.sk.length scy) (.slice my B.mv.length mcy)) := KY11.out.step BF.out
        have LX13 : Hid (Ls w13 A (.slice rx A.ds.length rcx) (.slice sx A.sk.length scx) (.slice mx A.mv.length mcx)) := LX11.out.step BF.out
        have LY13 : Hid (Ls w13 B (.slice ry B.ds.length rcy) (.slice sy B.sk.length scy) (.slice my B.mv.length mcy)) := LY11.out.step BF.out
        have BW13 : Hid (Below w.heap.size w w13) := below_then BW11.out BF.out
        clear hb12 BF KX11 KY11 LX11 LY11 BW11
        have LY13' : Hid (_) := LY13.out
        go_upto_region 13 with (fail)
        go_loopg [11, 12, 13, 14] 6 (fun gg v11 _ _ _ wr => ∃ m : Nat, m ≤ 6 ∧ v11 = .int .i64 m ∧ gg = 6 - m ∧ Hid (Below w13.heap.size w13 wr))
        case atStart => exact ⟨0, Nat.zero_le _, rfl, rfl, Below.refl _ _⟩
        case round =>
          obtain ⟨m, hm, rfl, hgm, HB⟩ := hrel
          have HGM : Hid (_) := hgm
          clear hgm
          by_cases hlt : m < 6
          case neg =>
            have hlt' : (6 : Int) ≤ (m : Int) := by omega
            clear hlt
            go_wp2
            go_ret
            exact ⟨rfl, below_then BW13.out HB.out⟩
          case pos =>
            have hlt' : (m : Int) < 6 := by omega
            have KXr : Hid (EB wr bx A (.slice rx A.ds.length rcx) (.slice sx A.sk.length scx) (.slice mx A.mv.length mcx)) := KX13.out.step HB.out
            have KYr : Hid (EB wr by' B (.slice ry B.ds.length rcy) (.slice sy B.sk.length scy) (.slice my B.mv.length mcy)) := KY13.out.step HB.out
            have LXr : Hid (Ls wr A (.slice rx A.ds.length rcx) (.slice sx A.sk.length scx) (.slice mx A.mv.length mcx)) := LX13.out.step HB.out
            have LYr : Hid (Ls wr B (.slice ry B.ds.length rcy) (.slice sy B.sk.length scy) (.slice my B.mv.length mcy)) := LY13.out.step HB.out
            have BWr : Hid (Below w.heap.size w wr) := below_then BW13.out HB.out
            have hcf := cell_step (FC.out m hlt) HB.out
            have FCr : Hid (wr.cell? ⟨nf, m, none⟩ = some (.string (fldB m))) := hcf
            have GX : Hid (∀ W, Below wr.heap.size wr W → Calls Tryz.prog 15 #[.agg #[.string A.id, .string A.ti, .int .i64 A.st, .int .i64 A.lg, .string A.f, .int .i64 A.e, .slice rx A.ds.length rcx, .int .i64 A.c, .int .i64 A.u, .slice sx A.sk.length scx, .slice mx A.mv.length mcx], .string (fldB m)] W fun r w' => r = .returned (.string (bs (fT A m))) ∧ Below W.heap.size W w') := fun W hW => get_any A _ _ _ m hlt W (GR.out.step (below_then BWr.out hW)) (LXr.out.step hW).d (LXr.out.step hW).s (LXr.out.step hW).m HEA.out
            have GY : Hid (∀ W, Below wr.heap.size wr W → Calls Tryz.prog 15 #[.agg #[.string B.id, .string B.ti, .int .i64 B.st, .int .i64 B.lg, .string B.f, .int .i64 B.e, .slice ry B.ds.length rcy, .int .i64 B.c, .int .i64 B.u, .slice sy B.sk.length scy, .slice my B.mv.length mcy], .string (fldB m)] W fun r w' => r = .returned (.string (bs (fT B m))) ∧ Below W.heap.size W w') := fun W hW => get_any B _ _ _ m hlt W (GR.out.step (below_then BWr.out hW)) (LYr.out.step hW).d (LYr.out.step hW).s (LYr.out.step hW).m HEB.out
            have SX : Hid (∀ W, Below wr.heap.size wr W → Calls Tryz.prog 14 #[.agg #[.string A.id, .string A.ti, .int .i64 A.st, .int .i64 A.lg, .string A.f, .int .i64 A.e, .slice rx A.ds.length rcx, .int .i64 A.c, .int .i64 A.u, .slice sx A.sk.length scx, .slice mx A.mv.length mcx], .string (fldB m), .string (bs (fT A m))] W fun r w' => Below W.heap.size W w' ∧ ∃ sl' skv' mvv', r = .returned (.tuple #[ev A sl' skv' mvv', .nilIface]) ∧ Ow W.heap.size w' sl' A.ds ∧ Ow W.heap.size w' skv' A.sk ∧ OwM W.heap.size w' mvv' A.mv) := fun W hW => by
              have := eset_any A A _ _ _ m hlt s W (GK.out.step (below_then BWr.out hW)) (GR.out.step (below_then BWr.out hW)) (LXr.out.step hW) HEA.out HEA.out d20
              rw [upd_self] at this
              refine this.mono ?_
              rintro r w' ⟨h1, h2 | h2⟩
              · exact ⟨h1, h2.2⟩
              · exact absurd HEA.out h2.1
            have SY : Hid (∀ W, Below wr.heap.size wr W → Calls Tryz.prog 14 #[.agg #[.string A.id, .string A.ti, .int .i64 A.st, .int .i64 A.lg, .string A.f, .int .i64 A.e, .slice rx A.ds.length rcx, .int .i64 A.c, .int .i64 A.u, .slice sx A.sk.length scx, .slice mx A.mv.length mcx], .string (fldB m), .string (bs (fT B m))] W fun r w' => Below W.heap.size W w' ∧
                ((EW (upd A B m) ∧ ∃ sl' skv' mvv', r = .returned (.tuple #[ev (upd A B m) sl' skv' mvv', .nilIface]) ∧ Ow W.heap.size w' sl' (upd A B m).ds ∧ Ow W.heap.size w' skv' (upd A B m).sk ∧ OwM W.heap.size w' mvv' (upd A B m).mv) ∨ (¬ EW (upd A B m) ∧ ∃ p, r = .returned (.tuple #[zV, .iface 236 (.pointer (some p))])))) := fun W hW => eset_any A B _ _ _ m hlt s W (GK.out.step (below_then BWr.out hW)) (GR.out.step (below_then BWr.out hW)) (LXr.out.step hW) HEA.out HEB.out d20'
            have GE : Hid (∀ W sl skv mvv, Below wr.heap.size wr W → EW (upd A B m) → Ls W (upd A B m) sl skv mvv → Calls Tryz.prog 15 #[ev (upd A B m) sl skv mvv, .string (fldB m)] W fun r w' => r = .returned (.string (bs (fT B m))) ∧ Below W.heap.size W w') := fun W sl skv mvv hW hE hL => by
              have := get_any (upd A B m) sl skv mvv m hlt W (GR.out.step (below_then BWr.out hW)) hL.d hL.s hL.m hE
              rw [upd_fT A B m hlt] at this
              exact this
            have hds' : (upd A B m).ds.length ≤ 20 := by rcases upd_ds A B m with q | q <;> rw [q] <;> assumption
            have mA : A.mv.length ≤ 20 := (lk_of HEA.out.ls).2.1
            have kA : A.sk.length ≤ 20 := (lk_of HEA.out.ls).1
            have mA8 : A.mv.length ≤ 80000 := by omega
            have kA8 : A.sk.length ≤ 80000 := by omega
            clear FC KX13 KY13 LX13 LY13 BW13 LY13' hnf
            unfold ev at SX SY GE
            generalize fldB m = fb at hcf FCr GX GY SX SY GE
            generalize bs (fT A m) = tA at GX SX
            generalize bs (fT B m) = tB at GY SY GE
            obtain ⟨x0, x1, x2, x3, x4, x5, x6, x7, x8, x9, x10⟩ := blk11 (show wr.heap[bx]? = _ from KXr.out)
            go_upto_region 15 with (fail)
            go_cut [12, 13] (fun v12 v13 wx => v13 = .nilIface ∧ ∃ b : Nat, v12 = .pointer (some ⟨b, 0, none⟩) ∧ Hid (∃ sl' skv' mvv', EB wx b A sl' skv' mvv' ∧ Ls wx A sl' skv' mvv') ∧ Hid (Below wr.heap.size wr wx))
            case first =>
              have KS : Hid (∀ W, Below wr.heap.size wr W → Below wr.heap.size wr W ∧ W.cell? ⟨bx, 0, none⟩ = some (.string A.id) ∧ W.cell? ⟨bx, 1, none⟩ = some (.string A.ti) ∧ W.cell? ⟨bx, 2, none⟩ = some (.int .i64 A.st) ∧ W.cell? ⟨bx, 3, none⟩ = some (.int .i64 A.lg) ∧ W.cell? ⟨bx, 4, none⟩ = some (.string A.f) ∧ W.cell? ⟨bx, 5, none⟩ = some (.int .i64 A.e) ∧ W.cell? ⟨bx, 6, none⟩ = some (.slice rx A.ds.length rcx) ∧ W.cell? ⟨bx, 7, none⟩ = some (.int .i64 A.c) ∧ W.cell? ⟨bx, 8, none⟩ = some (.int .i64 A.u) ∧ W.cell? ⟨bx, 9, none⟩ = some (.slice sx A.sk.length scx) ∧ W.cell? ⟨bx, 10, none⟩ = some (.slice mx A.mv.length mcx) ∧ W.cell? ⟨nf, m, none⟩ = some (.string fb)) := fun W hW => ⟨hW, cell_step x0 hW, cell_step x1 hW, cell_step x2 hW, cell_step x3 hW, cell_step x4 hW, cell_step x5 hW, cell_step x6 hW, cell_step x7 hW, cell_step x8 hW, cell_step x9 hW, cell_step x10 hW, cell_step FCr.out hW⟩
              go_region_held3 (fun W => Below wr.heap.size wr W ∧ W.cell? ⟨bx, 0, none⟩ = some (.string A.id) ∧ W.cell? ⟨bx, 1, none⟩ = some (.string A.ti) ∧ W.cell? ⟨bx, 2, none⟩ = some (.int .i64 A.st) ∧ W.cell? ⟨bx, 3, none⟩ = some (.int .i64 A.lg) ∧ W.cell? ⟨bx, 4, none⟩ = some (.string A.f) ∧ W.cell? ⟨bx, 5, none⟩ = some (.int .i64 A.e) ∧ W.cell? ⟨bx, 6, none⟩ = some (.slice rx A.ds.length rcx) ∧ W.cell? ⟨bx, 7, none⟩ = some (.int .i64 A.c) ∧ W.cell? ⟨bx, 8, none⟩ = some (.int .i64 A.u) ∧ W.cell? ⟨bx, 9, none⟩ = some (.slice sx A.sk.length scx) ∧ W.cell? ⟨bx, 10, none⟩ = some (.slice mx A.mv.length mcx) ∧ W.cell? ⟨nf, m, none⟩ = some (.string fb)) ((refine KS.out _ ?_; (first | with_reducible assumption | with_reducible exact drew_below _ | (rw [put11_fold]; first | exact put11_below hw21 hw20.size | exact put11_below hw21 (Nat.le_refl _)) | with_reducible exact below_then hw21 (below_alloc _ _) | with_reducible exact below_then hw20 (below_alloc _ _) | with_reducible exact below_then (below_alloc _ _) (drew_below _))))
                (first
                  | (go_at_call 15; refine Calls.mono (GX.out _ ?_) ?_; (first | with_reducible exact drew_below _ | with_reducible assumption | with_reducible exact below_then (below_alloc _ _) (drew_below _)); rintro r w20 ⟨rfl, hb20⟩; have hw20 : Below wr.heap.size wr w20 := (by first | with_reducible exact below_then (drew_below _) hb20 | with_reducible exact below_then (below_then (below_alloc _ _) (drew_below _)) hb20); try (have zb0 : w20.heap[wr.heap.size]? = some (.cells #[.string ⟨#[]⟩, .string ⟨#[]⟩, .int .i64 0, .int .i64 0, .string ⟨#[]⟩, .int .i64 0, .slice none 0 0, .int .i64 0, .int .i64 0, .slice none 0 0, .slice none 0 0] 27 (0, 0)) := (hb20.block _ (show wr.heap.size < (wr.alloc _).heap.size from (Nat.lt_of_lt_of_eq (Nat.lt_succ_self _) (World.size_alloc _ _).symm))).trans (block_at (W := wr) _ rfl)))
                  | (go_at_call 14; refine Calls.mono (SX.out _ ?_) ?_; (first | with_reducible assumption | with_reducible exact below_then hw20 (below_alloc _ _)); rintro r w21 ⟨hb21, sl', skv', mvv', rfl, ho1, ho2, ho3⟩; have hw21 : Below wr.heap.size wr w21 := (by first | with_reducible exact below_then hw20 hb21 | with_reducible exact below_then (below_then hw20 (below_alloc _ _)) hb21); obtain ⟨r2, rc2, rfl⟩ := ow_form ho1; obtain ⟨s2, sc2, rfl⟩ := ow_form ho2; obtain ⟨m2, mc2, rfl⟩ := gotM_form (owm_movs ho3 mA8).2; try (first | (have zb : w21.heap[w20.heap.size]? = some (.cells #[.string ⟨#[]⟩, .string ⟨#[]⟩, .int .i64 0, .int .i64 0, .string ⟨#[]⟩, .int .i64 0, .slice none 0 0, .int .i64 0, .int .i64 0, .slice none 0 0, .slice none 0 0] 27 (0, 0)) := (hb21.block _ (Nat.lt_of_lt_of_eq (Nat.lt_succ_self _) (World.size_alloc _ _).symm)).trans (block_at _ rfl); have CP : Hid (_) := close_put zb ho1 ho2 ho3 (Nat.lt_of_lt_of_eq (Nat.lt_succ_self _) (World.size_alloc _ _).symm) d20 kA mA; have hle : wr.heap.size ≤ w20.heap.size := hw20.size; obtain ⟨zc0, zc1, zc2, zc3, zc4, zc5, zc6, zc7, zc8, zc9, zc10⟩ := blk11 zb; have zf0 := blk11_frozen zb 0; have zf1 := blk11_frozen zb 1; have zf2 := blk11_frozen zb 2; have zf3 := blk11_frozen zb 3; have zf4 := blk11_frozen zb 4; have zf5 := blk11_frozen zb 5; have zf6 := blk11_frozen zb 6; have zf7 := blk11_frozen zb 7; have zf8 := blk11_frozen zb 8; have zf9 := blk11_frozen zb 9; have zf10 := blk11_frozen zb 10) | (have zb : w21.heap[wr.heap.size]? = some (.cells #[.string ⟨#[]⟩, .string ⟨#[]⟩, .int .i64 0, .int .i64 0, .string ⟨#[]⟩, .int .i64 0, .slice none 0 0, .int .i64 0, .int .i64 0, .slice none 0 0, .slice none 0 0] 27 (0, 0)) := (hb21.block _ (Array.getElem?_eq_some_iff.1 zb0).1).trans zb0; have CP : Hid (_) := close_put zb ho1 ho2 ho3 (Array.getElem?_eq_some_iff.1 zb0).1 d20 kA mA; have hle : wr.heap.size ≤ wr.heap.size := Nat.le_refl _; obtain ⟨zc0, zc1, zc2, zc3, zc4, zc5, zc6, zc7, zc8, zc9, zc10⟩ := blk11 zb; have zf0 := blk11_frozen zb 0; have zf1 := blk11_frozen zb 1; have zf2 := blk11_frozen zb 2; have zf3 := blk11_frozen zb 3; have zf4 := blk11_frozen zb 4; have zf5 := blk11_frozen zb 5; have zf6 := blk11_frozen zb 6; have zf7 := blk11_frozen zb 7; have zf8 := blk11_frozen zb 8; have zf9 := blk11_frozen zb 9; have zf10 := blk11_frozen zb 10))))
              all_goals
                go_wp2_with fail
                go_meet
                case rel =>
                  first
                    | (rw [put11_fold]; exact ⟨rfl, _, rfl, ⟨_, _, _, CP.out.1, CP.out.2⟩, put11_below hw21 hle⟩)
                    | exact ⟨rfl, w21.heap.size, rfl, ⟨_, _, _, EB.new w21 A _ _ _, (⟨ow_days ho1 d20, ow_ints ho2 kA8, (owm_movs ho3 mA8).1⟩ : Ls w21 A _ _ _).step (below_alloc _ _)⟩, below_then hw21 (below_alloc _ _)⟩
            case rest =>
              obtain ⟨rfl, bs1, rfl, HEL, HBc⟩ := hcut
              obtain ⟨sl2, sk2, mv2, he, hl⟩ := HEL.out
              have HE2 : Hid (EB wc bs1 A sl2 sk2 mv2) := he
              have SE2 := sameEvent_any A _ _ _ _ _ _ wc hl (LXr.out.step HBc.out)
              obtain ⟨r2, rc2, rfl, _⟩ := hl.d
              obtain ⟨s2, sc2, rfl, _⟩ := hl.s
              obtain ⟨m2, mc2, rfl, _⟩ := hl.m
              unfold ev at SE2
              have HSE2 : Hid (Calls _ _ _ _ _) := SE2
              clear x0 x1 x2 x3 x4 x5 x6 x7 x8 x9 x10 HEL he hl SE2 GX SX
              obtain ⟨x0, x1, x2, x3, x4, x5, x6, x7, x8, x9, x10⟩ := blk11 (show wc.heap[bx]? = _ from KXr.out.step HBc.out)
              obtain ⟨z0, z1, z2, z3, z4, z5, z6, z7, z8, z9, z10⟩ := blk11 (show wc.heap[bs1]? = _ from HE2.out)
              go_upto_region 18 with (go_at_call 12; refine Calls.mono HSE2.out ?_; rintro r wd ⟨rfl, hbd⟩)
              have BD : Hid (Below wr.heap.size wr wd) := below_then HBc.out hbd
              clear x0 x1 x2 x3 x4 x5 x6 x7 x8 x9 x10 z0 z1 z2 z3 z4 z5 z6 z7 z8 z9 z10 HSE2 HE2 HBc hbd hcf
              obtain ⟨x0, x1, x2, x3, x4, x5, x6, x7, x8, x9, x10⟩ := blk11 (show wd.heap[bx]? = _ from KXr.out.step BD.out)
              obtain ⟨y0, y1, y2, y3, y4, y5, y6, y7, y8, y9, y10⟩ := blk11 (show wd.heap[by']? = _ from KYr.out.step BD.out)
              have hcf := cell_step FCr.out BD.out
              by_cases hW' : EW (upd A B m)
              case pos =>
                have SYo : Hid (∀ W, Below wr.heap.size wr W → Calls Tryz.prog 14 #[.agg #[.string A.id, .string A.ti, .int .i64 A.st, .int .i64 A.lg, .string A.f, .int .i64 A.e, .slice rx A.ds.length rcx, .int .i64 A.c, .int .i64 A.u, .slice sx A.sk.length scx, .slice mx A.mv.length mcx], .string fb, .string tB] W fun r w' => Below W.heap.size W w' ∧ ∃ sl' skv' mvv', r = .returned (.tuple #[ev (upd A B m) sl' skv' mvv', .nilIface]) ∧ Ow W.heap.size w' sl' (upd A B m).ds ∧ Ow W.heap.size w' skv' (upd A B m).sk ∧ OwM W.heap.size w' mvv' (upd A B m).mv) := fun W hW => (SY.out W hW).mono (fun r w' h => ⟨h.1, by rcases h.2 with q | q; exact q.2; exact absurd hW' q.1⟩)
                obtain ⟨kE, mE, _⟩ := lk_of hW'.ls
                have mE8 : (upd A B m).mv.length ≤ 80000 := by omega
                have kE8 : (upd A B m).sk.length ≤ 80000 := by omega
                have GE' : Hid (∀ W sl skv mvv, Below wr.heap.size wr W → Ls W (upd A B m) sl skv mvv → Calls Tryz.prog 15 #[ev (upd A B m) sl skv mvv, .string fb] W fun r w' => r = .returned (.string tB) ∧ Below W.heap.size W w') := fun W sl skv mvv h1 h2 => GE.out W sl skv mvv h1 hW' h2
                clear SY GE hW'
                unfold ev at SYo GE'
                generalize upd A B m = E' at SYo GE' kE mE mE8 kE8 hds'
                go_cut [14, 13] (fun v14 v13 wx => v13 = .nilIface ∧ ∃ b : Nat, v14 = .pointer (some ⟨b, 0, none⟩) ∧ Hid (∃ sl' skv' mvv', EB wx b E' sl' skv' mvv' ∧ Ls wx E' sl' skv' mvv') ∧ Hid (Below wd.heap.size wd wx))
                case first =>
                  have KS : Hid (∀ W, Below wd.heap.size wd W → Below wd.heap.size wd W ∧ W.cell? ⟨bx, 0, none⟩ = some (.string A.id) ∧ W.cell? ⟨bx, 1, none⟩ = some (.string A.ti) ∧ W.cell? ⟨bx, 2, none⟩ = some (.int .i64 A.st) ∧ W.cell? ⟨bx, 3, none⟩ = some (.int .i64 A.lg) ∧ W.cell? ⟨bx, 4, none⟩ = some (.string A.f) ∧ W.cell? ⟨bx, 5, none⟩ = some (.int .i64 A.e) ∧ W.cell? ⟨bx, 6, none⟩ = some (.slice rx A.ds.length rcx) ∧ W.cell? ⟨bx, 7, none⟩ = some (.int .i64 A.c) ∧ W.cell? ⟨bx, 8, none⟩ = some (.int .i64 A.u) ∧ W.cell? ⟨bx, 9, none⟩ = some (.slice sx A.sk.length scx) ∧ W.cell? ⟨bx, 10, none⟩ = some (.slice mx A.mv.length mcx) ∧ W.cell? ⟨by', 0, none⟩ = some (.string B.id) ∧ W.cell? ⟨by', 1, none⟩ = some (.string B.ti) ∧ W.cell? ⟨by', 2, none⟩ = some (.int .i64 B.st) ∧ W.cell? ⟨by', 3, none⟩ = some (.int .i64 B.lg) ∧ W.cell? ⟨by', 4, none⟩ = some (.string B.f) ∧ W.cell? ⟨by', 5, none⟩ = some (.int .i64 B.e) ∧ W.cell? ⟨by', 6, none⟩ = some (.slice ry B.ds.length rcy) ∧ W.cell? ⟨by', 7, none⟩ = some (.int .i64 B.c) ∧ W.cell? ⟨by', 8, none⟩ = some (.int .i64 B.u) ∧ W.cell? ⟨by', 9, none⟩ = some (.slice sy B.sk.length scy) ∧ W.cell? ⟨by', 10, none⟩ = some (.slice my B.mv.length mcy) ∧ W.cell? ⟨nf, m, none⟩ = some (.string fb)) := fun W hW => ⟨hW, cell_step x0 hW, cell_step x1 hW, cell_step x2 hW, cell_step x3 hW, cell_step x4 hW, cell_step x5 hW, cell_step x6 hW, cell_step x7 hW, cell_step x8 hW, cell_step x9 hW, cell_step x10 hW, cell_step y0 hW, cell_step y1 hW, cell_step y2 hW, cell_step y3 hW, cell_step y4 hW, cell_step y5 hW, cell_step y6 hW, cell_step y7 hW, cell_step y8 hW, cell_step y9 hW, cell_step y10 hW, cell_step hcf hW⟩
                  go_region_held3 (fun W => Below wd.heap.size wd W ∧ W.cell? ⟨bx, 0, none⟩ = some (.string A.id) ∧ W.cell? ⟨bx, 1, none⟩ = some (.string A.ti) ∧ W.cell? ⟨bx, 2, none⟩ = some (.int .i64 A.st) ∧ W.cell? ⟨bx, 3, none⟩ = some (.int .i64 A.lg) ∧ W.cell? ⟨bx, 4, none⟩ = some (.string A.f) ∧ W.cell? ⟨bx, 5, none⟩ = some (.int .i64 A.e) ∧ W.cell? ⟨bx, 6, none⟩ = some (.slice rx A.ds.length rcx) ∧ W.cell? ⟨bx, 7, none⟩ = some (.int .i64 A.c) ∧ W.cell? ⟨bx, 8, none⟩ = some (.int .i64 A.u) ∧ W.cell? ⟨bx, 9, none⟩ = some (.slice sx A.sk.length scx) ∧ W.cell? ⟨bx, 10, none⟩ = some (.slice mx A.mv.length mcx) ∧ W.cell? ⟨by', 0, none⟩ = some (.string B.id) ∧ W.cell? ⟨by', 1, none⟩ = some (.string B.ti) ∧ W.cell? ⟨by', 2, none⟩ = some (.int .i64 B.st) ∧ W.cell? ⟨by', 3, none⟩ = some (.int .i64 B.lg) ∧ W.cell? ⟨by', 4, none⟩ = some (.string B.f) ∧ W.cell? ⟨by', 5, none⟩ = some (.int .i64 B.e) ∧ W.cell? ⟨by', 6, none⟩ = some (.slice ry B.ds.length rcy) ∧ W.cell? ⟨by', 7, none⟩ = some (.int .i64 B.c) ∧ W.cell? ⟨by', 8, none⟩ = some (.int .i64 B.u) ∧ W.cell? ⟨by', 9, none⟩ = some (.slice sy B.sk.length scy) ∧ W.cell? ⟨by', 10, none⟩ = some (.slice my B.mv.length mcy) ∧ W.cell? ⟨nf, m, none⟩ = some (.string fb)) ((refine KS.out _ ?_; (first | with_reducible assumption | with_reducible exact drew_below _ | (rw [put11_fold]; first | exact put11_below hw21 hw20.size | exact put11_below hw21 (Nat.le_refl _)) | with_reducible exact below_then hw21 (below_alloc _ _) | with_reducible exact below_then hw20 (below_alloc _ _) | with_reducible exact below_then (below_alloc _ _) (drew_below _))))
                    (first
                      | (go_at_call 15; refine Calls.mono (GY.out _ ?_) ?_; (first | with_reducible exact below_then BD.out (drew_below _) | with_reducible exact below_then BD.out (below_then (below_alloc _ _) (drew_below _))); rintro r w20 ⟨rfl, hb20⟩; have hw20 : Below wd.heap.size wd w20 := (by first | with_reducible exact below_then (drew_below _) hb20 | with_reducible exact below_then (below_then (below_alloc _ _) (drew_below _)) hb20); try (have zb0 : w20.heap[wd.heap.size]? = some (.cells #[.string ⟨#[]⟩, .string ⟨#[]⟩, .int .i64 0, .int .i64 0, .string ⟨#[]⟩, .int .i64 0, .slice none 0 0, .int .i64 0, .int .i64 0, .slice none 0 0, .slice none 0 0] 27 (0, 0)) := (hb20.block _ (show wd.heap.size < (wd.alloc _).heap.size from (Nat.lt_of_lt_of_eq (Nat.lt_succ_self _) (World.size_alloc _ _).symm))).trans (block_at (W := wd) _ rfl)))
                      | (go_at_call 14; refine Calls.mono (SYo.out _ ?_) ?_; (first | with_reducible exact below_then BD.out hw20 | with_reducible exact below_then BD.out (below_then hw20 (below_alloc _ _))); rintro r w21 ⟨hb21, sl', skv', mvv', rfl, ho1, ho2, ho3⟩; have hw21 : Below wd.heap.size wd w21 := (by first | with_reducible exact below_then hw20 hb21 | with_reducible exact below_then (below_then hw20 (below_alloc _ _)) hb21); obtain ⟨r3, rc3, rfl⟩ := ow_form ho1; obtain ⟨s3, sc3, rfl⟩ := ow_form ho2; obtain ⟨m3, mc3, rfl⟩ := gotM_form (owm_movs ho3 mE8).2; try (first | (have zb : w21.heap[w20.heap.size]? = some (.cells #[.string ⟨#[]⟩, .string ⟨#[]⟩, .int .i64 0, .int .i64 0, .string ⟨#[]⟩, .int .i64 0, .slice none 0 0, .int .i64 0, .int .i64 0, .slice none 0 0, .slice none 0 0] 27 (0, 0)) := (hb21.block _ (Nat.lt_of_lt_of_eq (Nat.lt_succ_self _) (World.size_alloc _ _).symm)).trans (block_at _ rfl); have CP : Hid (_) := close_put zb ho1 ho2 ho3 (Nat.lt_of_lt_of_eq (Nat.lt_succ_self _) (World.size_alloc _ _).symm) hds' kE mE; have hle : wd.heap.size ≤ w20.heap.size := hw20.size; obtain ⟨zc0, zc1, zc2, zc3, zc4, zc5, zc6, zc7, zc8, zc9, zc10⟩ := blk11 zb; have zf0 := blk11_frozen zb 0; have zf1 := blk11_frozen zb 1; have zf2 := blk11_frozen zb 2; have zf3 := blk11_frozen zb 3; have zf4 := blk11_frozen zb 4; have zf5 := blk11_frozen zb 5; have zf6 := blk11_frozen zb 6; have zf7 := blk11_frozen zb 7; have zf8 := blk11_frozen zb 8; have zf9 := blk11_frozen zb 9; have zf10 := blk11_frozen zb 10) | (have zb : w21.heap[wd.heap.size]? = some (.cells #[.string ⟨#[]⟩, .string ⟨#[]⟩, .int .i64 0, .int .i64 0, .string ⟨#[]⟩, .int .i64 0, .slice none 0 0, .int .i64 0, .int .i64 0, .slice none 0 0, .slice none 0 0] 27 (0, 0)) := (hb21.block _ (Array.getElem?_eq_some_iff.1 zb0).1).trans zb0; have CP : Hid (_) := close_put zb ho1 ho2 ho3 (Array.getElem?_eq_some_iff.1 zb0).1 hds' kE mE; have hle : wd.heap.size ≤ wd.heap.size := Nat.le_refl _; obtain ⟨zc0, zc1, zc2, zc3, zc4, zc5, zc6, zc7, zc8, zc9, zc10⟩ := blk11 zb; have zf0 := blk11_frozen zb 0; have zf1 := blk11_frozen zb 1; have zf2 := blk11_frozen zb 2; have zf3 := blk11_frozen zb 3; have zf4 := blk11_frozen zb 4; have zf5 := blk11_frozen zb 5; have zf6 := blk11_frozen zb 6; have zf7 := blk11_frozen zb 7; have zf8 := blk11_frozen zb 8; have zf9 := blk11_frozen zb 9; have zf10 := blk11_frozen zb 10))))
                  all_goals
                    go_wp2_with fail
                    go_meet
                    case rel =>
                      first
                        | (rw [put11_fold]; exact ⟨rfl, _, rfl, ⟨_, _, _, CP.out.1, CP.out.2⟩, put11_below hw21 hle⟩)
                        | exact ⟨rfl, w21.heap.size, rfl, ⟨_, _, _, EB.new w21 E' _ _ _, (⟨ow_days ho1 hds', ow_ints ho2 kE8, (owm_movs ho3 mE8).1⟩ : Ls w21 E' _ _ _).step (below_alloc _ _)⟩, below_then hw21 (below_alloc _ _)⟩
                case rest =>
                  obtain ⟨rfl, bo, rfl, HEL, HBe⟩ := hcut
                  obtain ⟨sl4, sk4, mv4, he4, hl4⟩ := HEL.out
                  have G1 : Hid (∀ W, Below wc.heap.size wc W → Calls Tryz.prog 15 #[.agg #[.string E'.id, .string E'.ti, .int .i64 E'.st, .int .i64 E'.lg, .string E'.f, .int .i64 E'.e, sl4, .int .i64 E'.c, .int .i64 E'.u, sk4, mv4], .string fb] W fun r w' => r = .returned (.string tB) ∧ Below W.heap.size W w') := fun W h => GE'.out W sl4 sk4 mv4 (below_then BD.out (below_then HBe.out h)) (hl4.step h)
                  obtain ⟨r4, rc4, rfl, _⟩ := hl4.d
                  obtain ⟨s4, sc4, rfl, _⟩ := hl4.s
                  obtain ⟨m4, mc4, rfl, _⟩ := hl4.m
                  have hcf2 := cell_step hcf HBe.out
                  clear x0 x1 x2 x3 x4 x5 x6 x7 x8 x9 x10 y0 y1 y2 y3 y4 y5 y6 y7 y8 y9 y10 hcf HEL hl4 SYo GE'
                  obtain ⟨z0, z1, z2, z3, z4, z5, z6, z7, z8, z9, z10⟩ := blk11 (show wc.heap[bo]? = _ from he4)
                  obtain ⟨y0, y1, y2, y3, y4, y5, y6, y7, y8, y9, y10⟩ := blk11 (show wc.heap[by']? = _ from KYr.out.step (below_then BD.out HBe.out))
                  have Z0 := cell_regrown z0
                  have Y0 := cell_regrown y0
                  have Z1 := cell_regrown z1
                  have Y1 := cell_regrown y1
                  have Z2 := cell_regrown z2
                  have Y2 := cell_regrown y2
                  have Z3 := cell_regrown z3
                  have Y3 := cell_regrown y3
                  have Z4 := cell_regrown z4
                  have Y4 := cell_regrown y4
                  have Z5 := cell_regrown z5
                  have Y5 := cell_regrown y5
                  have Z6 := cell_regrown z6
                  have Y6 := cell_regrown y6
                  have Z7 := cell_regrown z7
                  have Y7 := cell_regrown y7
                  have Z8 := cell_regrown z8
                  have Y8 := cell_regrown y8
                  have Z9 := cell_regrown z9
                  have Y9 := cell_regrown y9
                  have Z10 := cell_regrown z10
                  have Y10 := cell_regrown y10
                  have FX := cell_regrown hcf2
                  have L1 : Hid (∀ d os, Calls Tryz.prog 15 #[.agg #[.string E'.id, .string E'.ti, .int .i64 E'.st, .int .i64 E'.lg, .string E'.f, .int .i64 E'.e, .slice r4 E'.ds.length rc4, .int .i64 E'.c, .int .i64 E'.u, .slice s4 E'.sk.length sc4, .slice m4 E'.mv.length mc4], .string fb] (grow (redrawn wc d) os) fun r w'' => r = .returned (.string tB) ∧ ∃ p : Regrown, w'' = grow (redrawn wc p.d) p.os) := fun d os => Calls.regrown_of (G1.out _ (below_regrown _ _ _))
                  have L2 : Hid (∀ d os, Calls Tryz.prog 15 #[.agg #[.string B.id, .string B.ti, .int .i64 B.st, .int .i64 B.lg, .string B.f, .int .i64 B.e, .slice ry B.ds.length rcy, .int .i64 B.c, .int .i64 B.u, .slice sy B.sk.length scy, .slice my B.mv.length mcy], .string fb] (grow (redrawn wc d) os) fun r w'' => r = .returned (.string tB) ∧ ∃ p : Regrown, w'' = grow (redrawn wc p.d) p.os) := fun d os => Calls.regrown_of (GY.out _ (below_then BD.out (below_then HBe.out (below_regrown _ _ _))))
                  clear G1 he4 GY
                  go_upto_region 19 with (fail)
                  refine wp_region_quiet_below (by kernel_rfl) (by kernel_rfl) ?_
                  repeat (quiet_step (first | (go_at_call_of 15 (Value.agg #[.string E'.id, .string E'.ti, .int .i64 E'.st, .int .i64 E'.lg, .string E'.f, .int .i64 E'.e, .slice r4 E'.ds.length rc4, .int .i64 E'.c, .int .i64 E'.u, .slice s4 E'.sk.length sc4, .slice m4 E'.mv.length mc4]); exact L1.out _ _) | (go_at_call_of 15 (Value.agg #[.string B.id, .string B.ti, .int .i64 B.st, .int .i64 B.lg, .string B.f, .int .i64 B.e, .slice ry B.ds.length rcy, .int .i64 B.c, .int .i64 B.u, .slice sy B.sk.length scy, .slice my B.mv.length mcy]); exact L2.out _ _)))
                  refine wpQuiet_nil ?_
                  intro w30 hw'
                  have hb30 : Below wc.heap.size wc w30 := by
                    obtain ⟨⟨dq, osq⟩, hw''⟩ := hw'
                    subst hw''
                    exact below_regrown _ _ _
                  clear hw'
                  clear z0 z1 z2 z3 z4 z5 z6 z7 z8 z9 z10 y0 y1 y2 y3 y4 y5 y6 y7 y8 y9 y10 FX hcf2 L1 L2 Z0 Y0 Z1 Y1 Z2 Y2 Z3 Y3 Z4 Y4 Z5 Y5 Z6 Y6 Z7 Y7 Z8 Y8 Z9 Y9 Z10 Y10
                  go_wp2
                  go_roundg (6 - (m + 1))
                  case measure => have := HGM.out; omega
                  case rel => exact ⟨m + 1, by omega, by go_num, rfl, below_then HB.out (below_then BD.out (below_then HBe.out hb30))⟩
              case neg =>
                have SYo : Hid (∀ W, Below wr.heap.size wr W → Calls Tryz.prog 14 #[.agg #[.string A.id, .string A.ti, .int .i64 A.st, .int .i64 A.lg, .string A.f, .int .i64 A.e, .slice rx A.ds.length rcx, .int .i64 A.c, .int .i64 A.u, .slice sx A.sk.length scx, .slice mx A.mv.length mcx], .string fb, .string tB] W fun r w' => Below W.heap.size W w' ∧ ∃ p, r = .returned (.tuple #[zV, .iface 236 (.pointer (some p))])) := fun W hW => (SY.out W hW).mono (fun r w' h => ⟨h.1, by rcases h.2 with q | q; exact absurd q.1 hW'; exact q.2⟩)
                clear SY GE hW' hds'
                go_cut [14, 13] (fun v14 v13 wx => ∃ p : Addr, v13 = .iface 236 (.pointer (some p)) ∧ ∃ b : Nat, v14 = .pointer (some ⟨b, 0, none⟩) ∧ Hid (Below wd.heap.size wd wx))
                case first =>
                  have KS : Hid (∀ W, Below wd.heap.size wd W → Below wd.heap.size wd W ∧ W.cell? ⟨bx, 0, none⟩ = some (.string A.id) ∧ W.cell? ⟨bx, 1, none⟩ = some (.string A.ti) ∧ W.cell? ⟨bx, 2, none⟩ = some (.int .i64 A.st) ∧ W.cell? ⟨bx, 3, none⟩ = some (.int .i64 A.lg) ∧ W.cell? ⟨bx, 4, none⟩ = some (.string A.f) ∧ W.cell? ⟨bx, 5, none⟩ = some (.int .i64 A.e) ∧ W.cell? ⟨bx, 6, none⟩ = some (.slice rx A.ds.length rcx) ∧ W.cell? ⟨bx, 7, none⟩ = some (.int .i64 A.c) ∧ W.cell? ⟨bx, 8, none⟩ = some (.int .i64 A.u) ∧ W.cell? ⟨bx, 9, none⟩ = some (.slice sx A.sk.length scx) ∧ W.cell? ⟨bx, 10, none⟩ = some (.slice mx A.mv.length mcx) ∧ W.cell? ⟨by', 0, none⟩ = some (.string B.id) ∧ W.cell? ⟨by', 1, none⟩ = some (.string B.ti) ∧ W.cell? ⟨by', 2, none⟩ = some (.int .i64 B.st) ∧ W.cell? ⟨by', 3, none⟩ = some (.int .i64 B.lg) ∧ W.cell? ⟨by', 4, none⟩ = some (.string B.f) ∧ W.cell? ⟨by', 5, none⟩ = some (.int .i64 B.e) ∧ W.cell? ⟨by', 6, none⟩ = some (.slice ry B.ds.length rcy) ∧ W.cell? ⟨by', 7, none⟩ = some (.int .i64 B.c) ∧ W.cell? ⟨by', 8, none⟩ = some (.int .i64 B.u) ∧ W.cell? ⟨by', 9, none⟩ = some (.slice sy B.sk.length scy) ∧ W.cell? ⟨by', 10, none⟩ = some (.slice my B.mv.length mcy) ∧ W.cell? ⟨nf, m, none⟩ = some (.string fb)) := fun W hW => ⟨hW, cell_step x0 hW, cell_step x1 hW, cell_step x2 hW, cell_step x3 hW, cell_step x4 hW, cell_step x5 hW, cell_step x6 hW, cell_step x7 hW, cell_step x8 hW, cell_step x9 hW, cell_step x10 hW, cell_step y0 hW, cell_step y1 hW, cell_step y2 hW, cell_step y3 hW, cell_step y4 hW, cell_step y5 hW, cell_step y6 hW, cell_step y7 hW, cell_step y8 hW, cell_step y9 hW, cell_step y10 hW, cell_step hcf hW⟩
                  go_region_held3 (fun W => Below wd.heap.size wd W ∧ W.cell? ⟨bx, 0, none⟩ = some (.string A.id) ∧ W.cell? ⟨bx, 1, none⟩ = some (.string A.ti) ∧ W.cell? ⟨bx, 2, none⟩ = some (.int .i64 A.st) ∧ W.cell? ⟨bx, 3, none⟩ = some (.int .i64 A.lg) ∧ W.cell? ⟨bx, 4, none⟩ = some (.string A.f) ∧ W.cell? ⟨bx, 5, none⟩ = some (.int .i64 A.e) ∧ W.cell? ⟨bx, 6, none⟩ = some (.slice rx A.ds.length rcx) ∧ W.cell? ⟨bx, 7, none⟩ = some (.int .i64 A.c) ∧ W.cell? ⟨bx, 8, none⟩ = some (.int .i64 A.u) ∧ W.cell? ⟨bx, 9, none⟩ = some (.slice sx A.sk.length scx) ∧ W.cell? ⟨bx, 10, none⟩ = some (.slice mx A.mv.length mcx) ∧ W.cell? ⟨by', 0, none⟩ = some (.string B.id) ∧ W.cell? ⟨by', 1, none⟩ = some (.string B.ti) ∧ W.cell? ⟨by', 2, none⟩ = some (.int .i64 B.st) ∧ W.cell? ⟨by', 3, none⟩ = some (.int .i64 B.lg) ∧ W.cell? ⟨by', 4, none⟩ = some (.string B.f) ∧ W.cell? ⟨by', 5, none⟩ = some (.int .i64 B.e) ∧ W.cell? ⟨by', 6, none⟩ = some (.slice ry B.ds.length rcy) ∧ W.cell? ⟨by', 7, none⟩ = some (.int .i64 B.c) ∧ W.cell? ⟨by', 8, none⟩ = some (.int .i64 B.u) ∧ W.cell? ⟨by', 9, none⟩ = some (.slice sy B.sk.length scy) ∧ W.cell? ⟨by', 10, none⟩ = some (.slice my B.mv.length mcy) ∧ W.cell? ⟨nf, m, none⟩ = some (.string fb)) ((refine KS.out _ ?_; (first | with_reducible assumption | with_reducible exact drew_below _ | (rw [put11_fold]; first | exact put11_below hw21 hw20.size | exact put11_below hw21 (Nat.le_refl _)) | with_reducible exact below_then hw21 (below_alloc _ _) | with_reducible exact below_then hw20 (below_alloc _ _) | with_reducible exact below_then (below_alloc _ _) (drew_below _))))
                    (first
                      | (go_at_call 15; refine Calls.mono (GY.out _ ?_) ?_; (first | with_reducible exact below_then BD.out (drew_below _) | with_reducible exact below_then BD.out (below_then (below_alloc _ _) (drew_below _))); rintro r w20 ⟨rfl, hb20⟩; have hw20 : Below wd.heap.size wd w20 := (by first | with_reducible exact below_then (drew_below _) hb20 | with_reducible exact below_then (below_then (below_alloc _ _) (drew_below _)) hb20); try (have zb0 : w20.heap[wd.heap.size]? = some (.cells #[.string ⟨#[]⟩, .string ⟨#[]⟩, .int .i64 0, .int .i64 0, .string ⟨#[]⟩, .int .i64 0, .slice none 0 0, .int .i64 0, .int .i64 0, .slice none 0 0, .slice none 0 0] 27 (0, 0)) := (hb20.block _ (show wd.heap.size < (wd.alloc _).heap.size from (Nat.lt_of_lt_of_eq (Nat.lt_succ_self _) (World.size_alloc _ _).symm))).trans (block_at (W := wd) _ rfl)))
                      | (go_at_call 14; refine Calls.mono (SYo.out _ ?_) ?_; (first | with_reducible exact below_then BD.out hw20 | with_reducible exact below_then BD.out (below_then hw20 (below_alloc _ _))); rintro r w21 ⟨hb21, p, rfl⟩; have hw21 : Below wd.heap.size wd w21 := (by first | with_reducible exact below_then hw20 hb21 | with_reducible exact below_then (below_then hw20 (below_alloc _ _)) hb21); dsimp only [zV]; try (first | (have zb : w21.heap[w20.heap.size]? = some (.cells #[.string ⟨#[]⟩, .string ⟨#[]⟩, .int .i64 0, .int .i64 0, .string ⟨#[]⟩, .int .i64 0, .slice none 0 0, .int .i64 0, .int .i64 0, .slice none 0 0, .slice none 0 0] 27 (0, 0)) := (hb21.block _ (Nat.lt_of_lt_of_eq (Nat.lt_succ_self _) (World.size_alloc _ _).symm)).trans (block_at _ rfl); have hle : wd.heap.size ≤ w20.heap.size := hw20.size; obtain ⟨zc0, zc1, zc2, zc3, zc4, zc5, zc6, zc7, zc8, zc9, zc10⟩ := blk11 zb; have zf0 := blk11_frozen zb 0; have zf1 := blk11_frozen zb 1; have zf2 := blk11_frozen zb 2; have zf3 := blk11_frozen zb 3; have zf4 := blk11_frozen zb 4; have zf5 := blk11_frozen zb 5; have zf6 := blk11_frozen zb 6; have zf7 := blk11_frozen zb 7; have zf8 := blk11_frozen zb 8; have zf9 := blk11_frozen zb 9; have zf10 := blk11_frozen zb 10) | (have zb : w21.heap[wd.heap.size]? = some (.cells #[.string ⟨#[]⟩, .string ⟨#[]⟩, .int .i64 0, .int .i64 0, .string ⟨#[]⟩, .int .i64 0, .slice none 0 0, .int .i64 0, .int .i64 0, .slice none 0 0, .slice none 0 0] 27 (0, 0)) := (hb21.block _ (Array.getElem?_eq_some_iff.1 zb0).1).trans zb0; have hle : wd.heap.size ≤ wd.heap.size := Nat.le_refl _; obtain ⟨zc0, zc1, zc2, zc3, zc4, zc5, zc6, zc7, zc8, zc9, zc10⟩ := blk11 zb; have zf0 := blk11_frozen zb 0; have zf1 := blk11_frozen zb 1; have zf2 := blk11_frozen zb 2; have zf3 := blk11_frozen zb 3; have zf4 := blk11_frozen zb 4; have zf5 := blk11_frozen zb 5; have zf6 := blk11_frozen zb 6; have zf7 := blk11_frozen zb 7; have zf8 := blk11_frozen zb 8; have zf9 := blk11_frozen zb 9; have zf10 := blk11_frozen zb 10))))
                  all_goals
                    go_wp2_with fail
                    go_meet
                    case rel =>
                      first
                        | (rw [put11_fold]; exact ⟨p, rfl, _, rfl, put11_below hw21 hle⟩)
                        | exact ⟨p, rfl, _, rfl, below_then hw21 (below_alloc _ _)⟩
                case rest =>
                  obtain ⟨pe, rfl, bo, rfl, HBe⟩ := hcut
                  clear x0 x1 x2 x3 x4 x5 x6 x7 x8 x9 x10 y0 y1 y2 y3 y4 y5 y6 y7 y8 y9 y10 hcf SYo GY
                  go_upto_region 19 with (fail)
                  go_region
                  go_wp2
                  go_roundg (6 - (m + 1))
                  case measure => have := HGM.out; omega
                  case rel => exact ⟨m + 1, by omega, by go_num, rfl, below_then HB.out (below_then BD.out (below_then HBe.out (drew_below _)))⟩
end Go.Proofs.YtjhlbkjcchejjaaGreatDoor
