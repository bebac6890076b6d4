/- The law RuleBack, walked: a rule is read as it was written; two have one text only if they are one. -/
import Derived.Test.YtfnajhpcbajhfaaGreatDoorRuleO
import Derived.Lib.QuietBelow
import Derived.Deep.DeepCutAuto
namespace Go.Proofs.YtfnajhpcbajhfaaGreatDoor
open Go.RowKit Go.Sort Cal

/-- a rule's length, as the law has it -/
def lng (f : ByteArray) (n : Nat) : Int := if 20 < f.size ∨ 20 < n then 1 else 0
theorem lng_01 (f : ByteArray) (n : Nat) : 0 ≤ lng f n ∧ lng f n ≤ 1 := by unfold lng; split <;> omega
theorem lng_0 {f : ByteArray} {n : Nat} (h : lng f n = 0) : n ≤ 20 := by
  unfold lng at h
  split at h
  · omega
  · omega

set_option maxHeartbeats 2000000 in
set_option maxRecDepth 100000 in
theorem ruleBack_any (f f' : ByteArray) (e e' : Int) (sl sl' : Value) (c c' u u' : Int) (ds ds' : List Int) (w : World) (g : GlobR w) (hd : Got w sl ds) (hd' : Got w sl' ds') :
    Calls Tryz.prog 3 #[rv f e sl c u, rv f' e' sl' c' u'] w fun r w' => r = .returned (.bool true) ∧ Below w.heap.size w w' := by
  have D : Hid (Got w sl ds) := hd
  have D' : Hid (Got w sl' ds') := hd'
  have G : Hid (GlobR w) := g
  obtain ⟨a, cap, rfl, _, _⟩ := hd
  obtain ⟨a', cap', rfl, _, _⟩ := hd'
  have hl1 := lng_01 f ds.length
  have hl2 := lng_01 f' ds'.length
  unfold rv
  clear g
  go_enter Tryz.func3, Tryz.ntmps3
  go_upto_region 2 with (go_at_call 4; refine (ruled_any _ (G.out.step (below_box2 _ _ _))).mono ?_; rintro r w1 ⟨rfl, hb1⟩)
  have k0 : w1.heap[w.heap.size]? = some (.cells #[.string f, .int .i64 e, .slice a ds.length cap, .int .i64 c, .int .i64 u] 24 (0, 0)) := (hb1.block _ (by simp; omega)).trans (block_alloc _ (block_at _ rfl))
  have k1 : w1.heap[w.heap.size + 1]? = some (.cells #[.string f', .int .i64 e', .slice a' ds'.length cap', .int .i64 c', .int .i64 u'] 24 (0, 0)) := (hb1.block _ (by simp)).trans (block_at _ (by simp))
  have BW1 : Hid (Below w.heap.size w w1) := below_then (below_box2 _ _ _) hb1
  clear hb1
  obtain ⟨x0, x1, x2, x3, x4⟩ := blk5 k0
  obtain ⟨y0, y1, y2, y3, y4⟩ := blk5 k1
  have X0 := cell_regrown x0
  have X1 := cell_regrown x1
  have X2 := cell_regrown x2
  have X3 := cell_regrown x3
  have X4 := cell_regrown x4
  have Y0 := cell_regrown y0
  have Y1 := cell_regrown y1
  have Y2 := cell_regrown y2
  have Y3 := cell_regrown y3
  have Y4 := cell_regrown y4
  have L1 : Hid (∀ d os, Calls Tryz.prog 5 #[.agg #[.string f, .int .i64 e, .slice a ds.length cap, .int .i64 c, .int .i64 u]] (grow (redrawn w1 d) os) fun r w'' => r = .returned (.int .i64 (lng f ds.length)) ∧ ∃ p : Regrown, w'' = grow (redrawn w1 p.d) p.os) := fun d os => Calls.regrown_of (longRule_any f e a ds.length cap c u _ _ rfl)
  have L2 : Hid (∀ d os, Calls Tryz.prog 5 #[.agg #[.string f', .int .i64 e', .slice a' ds'.length cap', .int .i64 c', .int .i64 u']] (grow (redrawn w1 d) os) fun r w'' => r = .returned (.int .i64 (lng f' ds'.length)) ∧ ∃ p : Regrown, w'' = grow (redrawn w1 p.d) p.os) := fun d os => Calls.regrown_of (longRule_any f' e' a' ds'.length cap' c' u' _ _ rfl)
  have H1 : Hid (lng f ds.length = 0 → ds.length ≤ 20) := lng_0
  have H2 : Hid (lng f' ds'.length = 0 → ds'.length ≤ 20) := lng_0
  generalize lng f ds.length = n1 at hl1 L1 H1
  generalize lng f' ds'.length = n2 at hl2 L2 H2
  obtain ⟨hl1, hl1'⟩ := hl1
  obtain ⟨hl2, hl2'⟩ := hl2
  refine wp_region_quiet_below (by kernel_rfl) (by kernel_rfl) ?_
  repeat (quiet_step (first | (go_at_call_of 5 (Value.agg #[.string f, .int .i64 e, .slice a ds.length cap, .int .i64 c, .int .i64 u]); exact L1.out _ _) | (go_at_call_of 5 (Value.agg #[.string f', .int .i64 e', .slice a' ds'.length cap', .int .i64 c', .int .i64 u']); exact L2.out _ _)))
  refine wpQuiet_nil ?_
  intro w2 hw'
  have hb2 : Below w1.heap.size w1 w2 := by
    obtain ⟨⟨dq, osq⟩, hw''⟩ := hw'
    subst hw''
    exact below_regrown _ _ _
  clear hw' X0 X1 X2 X3 X4 Y0 Y1 Y2 Y3 Y4 x0 x1 x2 x3 x4 y0 y1 y2 y3 y4 L1 L2
  have hwr : IntKind.i64.wrap (n1 + n2) = n1 + n2 := by
    have h1 : n1 = 0 ∨ n1 = 1 := by omega
    have h2 : n2 = 0 ∨ n2 = 1 := by omega
    rcases h1 with rfl | rfl <;> rcases h2 with rfl | rfl <;> rfl
  by_cases hlong : 0 < n1 + n2
  · go_wp2
    go_ret
    exact ⟨rfl, below_then BW1.out hb2⟩
  · have h20 : ds.length ≤ 20 := H1.out (by omega)
    have h20' : ds'.length ≤ 20 := H2.out (by omega)
    have k0' := (hb2.block _ (Array.getElem?_eq_some_iff.1 k0).1).trans k0
    have k1' := (hb2.block _ (Array.getElem?_eq_some_iff.1 k1).1).trans k1
    obtain ⟨x0, x1, x2, x3, x4⟩ := blk5 k0'
    have K1 : Hid (_) := k1'
    have BW2 : Hid (Below w.heap.size w w2) := below_then BW1.out hb2
    have O1 : Hid (_) := ownRule_any f e _ c u ds w2 (D.out.step BW2.out) h20
    have O2 : Hid (∀ w3, Below w2.heap.size w2 w3 → Calls Tryz.prog 6 #[.agg #[.string f', .int .i64 e', .slice a' ds'.length cap', .int .i64 c', .int .i64 u']] w3 fun r w' => ∃ sl', r = .returned (rv f' e' sl' c' u') ∧ Days w' sl' ds' ∧ Below w3.heap.size w3 w') :=
      fun w3 h3 => (ownRule_any f' e' _ c' u' ds' w3 (D'.out.step (below_then BW2.out h3)) h20').mono (fun r w' => fun ⟨sl', q1, q2, _, q4⟩ => ⟨sl', q1, q2, q4⟩)
    clear k0 k1 k0' k1' hb2 BW1 H1 H2
    go_upto_region 5 with (go_at_call 6; refine Calls.mono O1.out ?_; rintro r w3 ⟨sx, rfl, hdx, _, hb3⟩; obtain ⟨sa, sc, rfl, hx1, hx2, hx3⟩ := hdx; have DX : Hid (Days w3 (.slice sa ds.length sc) ds) := ⟨sa, sc, rfl, hx1, hx2, hx3⟩; clear hx1 hx2 hx3; dsimp only [rv])
    have KX : (w3.alloc (.cells #[.string f, .int .i64 e, .slice sa ds.length sc, .int .i64 c, .int .i64 u] 24)).heap[w3.heap.size]? = some (.cells #[.string f, .int .i64 e, .slice sa ds.length sc, .int .i64 c, .int .i64 u] 24 (0, 0)) := block_at _ rfl
    have hb4 : Below w2.heap.size w2 (w3.alloc (.cells #[.string f, .int .i64 e, .slice sa ds.length sc, .int .i64 c, .int .i64 u] 24)) := below_then hb3 (below_alloc _ _)
    have DX4 := DX.out.step (below_alloc w3 (.cells #[.string f, .int .i64 e, .slice sa ds.length sc, .int .i64 c, .int .i64 u] 24))
    have hbx : w2.heap.size ≤ w3.heap.size := hb3.size
    clear DX hb3 x0 x1 x2 x3 x4 O1
    generalize w3.alloc (.cells #[.string f, .int .i64 e, .slice sa ds.length sc, .int .i64 c, .int .i64 u] 24) = w4 at KX hb4 DX4
    generalize w3.heap.size = bx at KX hbx
    have HB4 : Hid (Below w2.heap.size w2 w4) := hb4
    have HKX : Hid (_) := KX
    have HDX : Hid (Days w4 (.slice sa ds.length sc) ds) := DX4
    obtain ⟨y0, y1, y2, y3, y4⟩ := blk5 ((hb4.block _ (Array.getElem?_eq_some_iff.1 K1.out).1).trans K1.out)
    clear KX hb4 DX4
    go_upto_region 6 with (go_at_call 6; refine Calls.mono (O2.out _ HB4.out) ?_; rintro r w5 ⟨sy, rfl, hdy, hb5⟩; obtain ⟨ta, tc, rfl, hx1, hx2, hx3⟩ := hdy; have DY : Hid (Days w5 (.slice ta ds'.length tc) ds') := ⟨ta, tc, rfl, hx1, hx2, hx3⟩; clear hx1 hx2 hx3; dsimp only [rv])
    have KY : (w5.alloc (.cells #[.string f', .int .i64 e', .slice ta ds'.length tc, .int .i64 c', .int .i64 u'] 24)).heap[w5.heap.size]? = some (.cells #[.string f', .int .i64 e', .slice ta ds'.length tc, .int .i64 c', .int .i64 u'] 24 (0, 0)) := block_at _ rfl
    have hb6 := below_then hb5 (below_alloc w5 (.cells #[.string f', .int .i64 e', .slice ta ds'.length tc, .int .i64 c', .int .i64 u'] 24))
    have DY6 := DY.out.step (below_alloc w5 (.cells #[.string f', .int .i64 e', .slice ta ds'.length tc, .int .i64 c', .int .i64 u'] 24))
    have hby : w4.heap.size ≤ w5.heap.size := hb5.size
    clear DY hb5 y0 y1 y2 y3 y4 O2
    generalize w5.alloc (.cells #[.string f', .int .i64 e', .slice ta ds'.length tc, .int .i64 c', .int .i64 u'] 24) = w6 at KY hb6 DY6
    generalize w5.heap.size = cy at KY hby
    have hxlt := (Array.getElem?_eq_some_iff.1 HKX.out).1
    have KX6 := (hb6.block _ hxlt).trans HKX.out
    have DX6 := HDX.out.step hb6
    have BW6 : Hid (Below w.heap.size w w6) := below_then BW2.out (below_then HB4.out hb6)
    have GW : Hid (GlobR w6) := G.out.step BW6.out
    have X6 : Hid (Days w6 (.slice sa ds.length sc) ds) := DX6
    have Y6 : Hid (Days w6 (.slice ta ds'.length tc) ds') := DY6
    have HKX6 : Hid (_) := KX6
    have HKY6 : Hid (_) := KY
    obtain ⟨x0, x1, x2, x3, x4⟩ := blk5 KX6
    obtain ⟨y0, y1, y2, y3, y4⟩ := blk5 KY
    clear DX6 DY6 KX6 KY hb6 HKX HDX HB4 K1 D D'
    by_cases wx : Well (rd f e ds c u)
    · have CX : Hid (Calls Tryz.prog 7 #[.agg #[.string f, .int .i64 e, .slice sa ds.length sc, .int .i64 c, .int .i64 u]] w6 fun r w' => r = .returned .nilIface ∧ Below w6.heap.size w6 w') := check_ok f e _ c u ds w6 X6.out wx
      have WX : Hid (Well (rd f e ds c u)) := wx
      clear wx
      by_cases wy : Well (rd f' e' ds' c' u')
      · have CY : Hid (∀ w7, Below w6.heap.size w6 w7 → Calls Tryz.prog 7 #[.agg #[.string f', .int .i64 e', .slice ta ds'.length tc, .int .i64 c', .int .i64 u']] w7 fun r w' => r = .returned .nilIface ∧ Below w7.heap.size w7 w') := fun w7 h7 => check_ok f' e' _ c' u' ds' w7 (Y6.out.step h7) wy
        have WY : Hid (Well (rd f' e' ds' c' u')) := wy
        clear wy
        go_upto_region 8 with (first
          | (go_at_call_of 7 (Value.agg #[.string f, .int .i64 e, .slice sa ds.length sc, .int .i64 c, .int .i64 u]); refine Calls.mono CX.out ?_; rintro r w7 ⟨rfl, hb7⟩; obtain ⟨v0, v1, v2, v3, v4⟩ := blk5 ((hb7.block _ (Array.getElem?_eq_some_iff.1 HKY6.out).1).trans HKY6.out))
          | (go_at_call_of 7 (Value.agg #[.string f', .int .i64 e', .slice ta ds'.length tc, .int .i64 c', .int .i64 u']); refine Calls.mono (CY.out _ hb7) ?_; rintro r w8 ⟨rfl, hb8⟩))
        have hb8' := below_then hb7 hb8
        have KX8 := (hb8'.block _ (Array.getElem?_eq_some_iff.1 HKX6.out).1).trans HKX6.out
        have KY8 := (hb8'.block _ (Array.getElem?_eq_some_iff.1 HKY6.out).1).trans HKY6.out
        have G8 := GW.out.step hb8'
        have DX8 := X6.out.step hb8'
        have DY8 := Y6.out.step hb8'
        have BW8 : Hid (Below w.heap.size w w8) := below_then BW6.out hb8'
        obtain ⟨t, ut⟩ := ut_exists WX.out
        obtain ⟨t', ut'⟩ := ut_exists WY.out
        have UTX : Hid (UT (rd f e ds c u) t) := ut
        have UTY : Hid (UT (rd f' e' ds' c' u') t') := ut'
        have HG8 : Hid (GlobR w8) := G8
        have HX8 : Hid (Days w8 (.slice sa ds.length sc) ds) := DX8
        have HY8 : Hid (Days w8 (.slice ta ds'.length tc) ds') := DY8
        have HKX8 : Hid (_) := KX8
        have HKY8 : Hid (_) := KY8
        have TX : Hid (∀ W, Below w8.heap.size w8 W → Calls Tryz.prog 9 #[.agg #[.string f, .int .i64 e, .slice sa ds.length sc, .int .i64 c, .int .i64 u]] W fun r w' => r = .returned (.string (bs (rtext (rd f e ds c u) t))) ∧ Below W.heap.size W w') := fun W h => rtext_any f e _ c u ds t W (HG8.out.step h) (HX8.out.step h) WX.out UTX.out
        have TY : Hid (∀ W, Below w8.heap.size w8 W → Calls Tryz.prog 9 #[.agg #[.string f', .int .i64 e', .slice ta ds'.length tc, .int .i64 c', .int .i64 u']] W fun r w' => r = .returned (.string (bs (rtext (rd f' e' ds' c' u') t'))) ∧ Below W.heap.size W w') := fun W h => rtext_any f' e' _ c' u' ds' t' W (HG8.out.step h) (HY8.out.step h) WY.out UTY.out
        have RX : Hid (∀ W, Below w8.heap.size w8 W → Calls Tryz.prog 8 #[.string (bs (rtext (rd f e ds c u) t))] W fun r w' => ∃ sl, r = .returned (.tuple #[rv f e sl c u, .nilIface]) ∧ Days w' sl ds ∧ Below W.heap.size W w') := fun W h => rread_any f e ds c u t W (HG8.out.step h) h20 WX.out UTX.out
        have FIN : Hid (∃ b : Bool, (b = true ↔ rd f e ds c u = rd f' e' ds' c' u') ∧ (((bs (rtext (rd f e ds c u) t)).toList == (bs (rtext (rd f' e' ds' c' u') t')).toList) == b) = true) := by
          by_cases heq : rd f e ds c u = rd f' e' ds' c' u'
          · refine ⟨true, ⟨fun _ => heq, fun _ => rfl⟩, ?_⟩
            have ht : t = t' := ut_same (r := rd f' e' ds' c' u') (by rw [← heq]; exact ut) ut'
            rw [heq, ht]; simp
          · refine ⟨false, ⟨fun h => absurd h (by decide), fun h => absurd h heq⟩, ?_⟩
            have hn : ((bs (rtext (rd f e ds c u) t)).toList == (bs (rtext (rd f' e' ds' c' u') t')).toList) = false := by
              rw [beq_eq_false_iff_ne, ByteArray.toList_eq, ByteArray.toList_eq]
              exact fun h => heq (rtext_inj WX.out WY.out ut ut' h)
            rw [hn]; rfl
        obtain ⟨x0, x1, x2, x3, x4⟩ := blk5 KX8
        generalize bs (rtext (rd f e ds c u) t) = sx at TX RX FIN
        generalize bs (rtext (rd f' e' ds' c' u') t') = sy at TY FIN
        clear ut ut' UTX UTY KX8 KY8 G8 DX8 DY8 hb7 hb8 hb8' HKX6 HKY6 GW X6 Y6 BW6 BW2 y0 y1 y2 y3 y4 v0 v1 v2 v3 v4 CX CY hxlt
        go_upto_region 9 with (first
          | (go_at_call 9; refine Calls.mono (TX.out _ (Below.refl _ _)) ?_; rintro r w9 ⟨rfl, hb9⟩)
          | (go_at_call 8; refine Calls.mono (RX.out _ hb9) ?_; rintro r w10 ⟨sz, rfl, hdz, hb10⟩; obtain ⟨za, zc, rfl, hx1, hx2, hx3⟩ := hdz; have DZ : Hid (Days w10 (.slice za ds.length zc) ds) := ⟨za, zc, rfl, hx1, hx2, hx3⟩; clear hx1 hx2 hx3; dsimp only [rv]))
        have KZ : (w10.alloc (.cells #[.string f, .int .i64 e, .slice za ds.length zc, .int .i64 c, .int .i64 u] 24)).heap[w10.heap.size]? = some (.cells #[.string f, .int .i64 e, .slice za ds.length zc, .int .i64 c, .int .i64 u] 24 (0, 0)) := block_at _ rfl
        have hb11 : Below w8.heap.size w8 (w10.alloc (.cells #[.string f, .int .i64 e, .slice za ds.length zc, .int .i64 c, .int .i64 u] 24)) := below_then hb9 (below_then hb10 (below_alloc w10 (.cells #[.string f, .int .i64 e, .slice za ds.length zc, .int .i64 c, .int .i64 u] 24)))
        have DZ11 : Hid (Days (w10.alloc (.cells #[.string f, .int .i64 e, .slice za ds.length zc, .int .i64 c, .int .i64 u] 24)) (.slice za ds.length zc) ds) := DZ.out.step (below_alloc w10 (.cells #[.string f, .int .i64 e, .slice za ds.length zc, .int .i64 c, .int .i64 u] 24))
        clear DZ hb9 hb10 x0 x1 x2 x3 x4
        generalize w10.alloc (.cells #[.string f, .int .i64 e, .slice za ds.length zc, .int .i64 c, .int .i64 u] 24) = w11 at KZ hb11 DZ11
        generalize w10.heap.size = cz at KZ
        obtain ⟨x0, x1, x2, x3, x4⟩ := blk5 ((hb11.block _ (Array.getElem?_eq_some_iff.1 HKX8.out).1).trans HKX8.out)
        obtain ⟨y0, y1, y2, y3, y4⟩ := blk5 ((hb11.block _ (Array.getElem?_eq_some_iff.1 HKY8.out).1).trans HKY8.out)
        obtain ⟨z0, z1, z2, z3, z4⟩ := blk5 KZ
        have XR0 := cell_regrown x0
        have XR1 := cell_regrown x1
        have XR2 := cell_regrown x2
        have XR3 := cell_regrown x3
        have XR4 := cell_regrown x4
        have YR0 := cell_regrown y0
        have YR1 := cell_regrown y1
        have YR2 := cell_regrown y2
        have YR3 := cell_regrown y3
        have YR4 := cell_regrown y4
        have ZR0 := cell_regrown z0
        have ZR1 := cell_regrown z1
        have ZR2 := cell_regrown z2
        have ZR3 := cell_regrown z3
        have ZR4 := cell_regrown z4
        obtain ⟨b, hbxy, hfin⟩ := FIN.out
        have B11 : Hid (Below w8.heap.size w8 w11) := hb11
        have S1 : Hid (∀ d os, Calls Tryz.prog 10 #[.agg #[.string f, .int .i64 e, .slice za ds.length zc, .int .i64 c, .int .i64 u], .agg #[.string f, .int .i64 e, .slice sa ds.length sc, .int .i64 c, .int .i64 u]] (grow (redrawn w11 d) os) fun r w'' => r = .returned (.bool true) ∧ ∃ p : Regrown, w'' = grow (redrawn w11 p.d) p.os) := fun d os =>
          Calls.regrown_of (same_any f f e e _ _ c c u u ds ds _ (DZ11.out.step (below_regrown _ _ _)) (HX8.out.step (below_then B11.out (below_regrown _ _ _))) true ⟨fun _ => rfl, fun _ => rfl⟩)
        have S2 : Hid (∀ d os, Calls Tryz.prog 10 #[.agg #[.string f, .int .i64 e, .slice sa ds.length sc, .int .i64 c, .int .i64 u], .agg #[.string f', .int .i64 e', .slice ta ds'.length tc, .int .i64 c', .int .i64 u']] (grow (redrawn w11 d) os) fun r w'' => r = .returned (.bool b) ∧ ∃ p : Regrown, w'' = grow (redrawn w11 p.d) p.os) := fun d os =>
          Calls.regrown_of (same_any f f' e e' _ _ c c' u u' ds ds' _ (HX8.out.step (below_then B11.out (below_regrown _ _ _))) (HY8.out.step (below_then B11.out (below_regrown _ _ _))) b hbxy)
        have T1 : Hid (∀ d os, Calls Tryz.prog 9 #[.agg #[.string f, .int .i64 e, .slice sa ds.length sc, .int .i64 c, .int .i64 u]] (grow (redrawn w11 d) os) fun r w'' => r = .returned (.string sx) ∧ ∃ p : Regrown, w'' = grow (redrawn w11 p.d) p.os) := fun d os => Calls.regrown_of (TX.out _ (below_then B11.out (below_regrown _ _ _)))
        have T2 : Hid (∀ d os, Calls Tryz.prog 9 #[.agg #[.string f', .int .i64 e', .slice ta ds'.length tc, .int .i64 c', .int .i64 u']] (grow (redrawn w11 d) os) fun r w'' => r = .returned (.string sy) ∧ ∃ p : Regrown, w'' = grow (redrawn w11 p.d) p.os) := fun d os => Calls.regrown_of (TY.out _ (below_then B11.out (below_regrown _ _ _)))
        clear hb11 hbxy FIN TX TY RX KZ x0 x1 x2 x3 x4 y0 y1 y2 y3 y4 z0 z1 z2 z3 z4
        refine wp_region_quiet_below (by kernel_rfl) (by kernel_rfl) ?_
        repeat (quiet_step (first
          | (go_at_call_of 10 (Value.agg #[.string f, .int .i64 e, .slice za ds.length zc, .int .i64 c, .int .i64 u]); exact S1.out _ _)
          | (go_at_call_of 10 (Value.agg #[.string f, .int .i64 e, .slice sa ds.length sc, .int .i64 c, .int .i64 u]); exact S2.out _ _)
          | (go_at_call_of 9 (Value.agg #[.string f, .int .i64 e, .slice sa ds.length sc, .int .i64 c, .int .i64 u]); exact T1.out _ _)
          | (go_at_call_of 9 (Value.agg #[.string f', .int .i64 e', .slice ta ds'.length tc, .int .i64 c', .int .i64 u']); exact T2.out _ _)))
        refine wpQuiet_nil ?_
        intro w12 hw'
        have hb12 : Below w11.heap.size w11 w12 := by
          obtain ⟨⟨dq, osq⟩, hw''⟩ := hw'
          subst hw''
          exact below_regrown _ _ _
        clear hw'
        go_wp2
        go_ret
        exact ⟨ret_bool (by first | rfl | simpa using hfin), below_then BW8.out (below_then B11.out hb12)⟩
      · have CY : Hid (∀ w7, Below w6.heap.size w6 w7 → Calls Tryz.prog 7 #[.agg #[.string f', .int .i64 e', .slice ta ds'.length tc, .int .i64 c', .int .i64 u']] w7 fun r w' => (∃ p, r = .returned (.iface 132 (.pointer (some p)))) ∧ Below w7.heap.size w7 w') := fun w7 h7 => check_no f' e' _ c' u' ds' w7 (GW.out.glob.step h7) (Y6.out.step h7) wy
        clear wy
        go_wp2_with (first
          | (go_at_call_of 7 (Value.agg #[.string f, .int .i64 e, .slice sa ds.length sc, .int .i64 c, .int .i64 u]); refine Calls.mono CX.out ?_; rintro r w7 ⟨rfl, hb7⟩; obtain ⟨v0, v1, v2, v3, v4⟩ := blk5 ((hb7.block _ (Array.getElem?_eq_some_iff.1 HKY6.out).1).trans HKY6.out))
          | (go_at_call_of 7 (Value.agg #[.string f', .int .i64 e', .slice ta ds'.length tc, .int .i64 c', .int .i64 u']); refine Calls.mono (CY.out _ hb7) ?_; rintro r w8 ⟨⟨p, rfl⟩, hb8⟩))
        go_ret
        exact ⟨rfl, below_then BW6.out (below_then hb7 hb8)⟩
    · have CX : Hid (Calls Tryz.prog 7 #[.agg #[.string f, .int .i64 e, .slice sa ds.length sc, .int .i64 c, .int .i64 u]] w6 fun r w' => (∃ p, r = .returned (.iface 132 (.pointer (some p)))) ∧ Below w6.heap.size w6 w') := check_no f e _ c u ds w6 GW.out.glob X6.out wx
      clear wx
      go_wp2_with (go_at_call_of 7 (Value.agg #[.string f, .int .i64 e, .slice sa ds.length sc, .int .i64 c, .int .i64 u]); refine Calls.mono CX.out ?_; rintro r w7 ⟨⟨p, rfl⟩, hb7⟩)
      go_ret
      exact ⟨rfl, below_then BW6.out hb7⟩
end Go.Proofs.YtfnajhpcbajhfaaGreatDoor
