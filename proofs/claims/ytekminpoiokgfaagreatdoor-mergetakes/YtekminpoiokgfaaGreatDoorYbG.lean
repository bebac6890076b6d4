/- The document's own SameEvent, SameRule over two events that are one. -/
import Derived.Test.YtekminpoiokgfaaGreatDoorYaH
import Derived.Test.YtekminpoiokgfaaGreatDoorYaM
import Derived.Laws.StructEq
import Derived.Test.YtekminpoiokgfaaGreatDoorMgAW
namespace Go.Proofs.YtekminpoiokgfaaGreatDoor
open Go Go.RowKit Cal
attribute [local go_sem] Oper.semAt_some

theorem same_ints {W : World} {v1 v2 : Value} {o : List Int} (h1 : Ints W v1 o) (h2 : Ints W v2 o) :
    Calls Tryz.prog 29 #[v1, v2] W fun e w' => e = .returned (.bool true) ∧ Below W.heap.size W w' := by
  obtain ⟨a1, c1, rfl, hl, _, h1⟩ := h1
  obtain ⟨a2, c2, rfl, _, _, h2⟩ := h2
  by_cases h0 : o.length = 0
  · rw [h0]
    exact same_zero a1 a2 c1 c2 W
  · obtain ⟨g1, rfl, _⟩ := h1 0 (by omega)
    obtain ⟨g2, rfl, _⟩ := h2 0 (by omega)
    refine same_yes g1 g2 o.length c1 c2 (fun i => o.getD i 0) W (by omega) (fun i hi => ?_) (fun i hi => ?_)
    · obtain ⟨b, e, _, hc⟩ := h1 i hi
      cases e
      rw [hc, List.getD_eq_getElem?_getD, List.getElem?_eq_getElem hi]; rfl
    · obtain ⟨b, e, _, hc⟩ := h2 i hi
      cases e
      rw [hc, List.getD_eq_getElem?_getD, List.getElem?_eq_getElem hi]; rfl

set_option maxHeartbeats 1000000 in
theorem sameRule_any (f : ByteArray) (e : Int) (sl sl' : Value) (c u : Int) (ds : List Int) (w : World) (hd : Days w sl ds) (hd' : Days w sl' ds) :
    Calls Tryz.prog 28 #[rv f e sl c u, rv f e sl' c u] w fun r w' => r = .returned (.bool true) ∧ Below w.heap.size w w' := by
  have hA := below_box2 w (.cells #[.string f, .int .i64 e, sl, .int .i64 c, .int .i64 u] 41) (.cells #[.string f, .int .i64 e, sl', .int .i64 c, .int .i64 u] 41)
  have k0 : ((w.alloc (.cells #[.string f, .int .i64 e, sl, .int .i64 c, .int .i64 u] 41)).alloc (.cells #[.string f, .int .i64 e, sl', .int .i64 c, .int .i64 u] 41)).heap[w.heap.size]? = some (.cells #[.string f, .int .i64 e, sl, .int .i64 c, .int .i64 u] 41 (0, 0)) := block_alloc _ (block_at _ rfl)
  have k1 : ((w.alloc (.cells #[.string f, .int .i64 e, sl, .int .i64 c, .int .i64 u] 41)).alloc (.cells #[.string f, .int .i64 e, sl', .int .i64 c, .int .i64 u] 41)).heap[w.heap.size + 1]? = some (.cells #[.string f, .int .i64 e, sl', .int .i64 c, .int .i64 u] 41 (0, 0)) := block_at _ (by simp)
  have SI : Hid (Calls _ _ _ _ _) := same_ints (days_ints (hd.step hA)) (days_ints (hd'.step hA))
  obtain ⟨ra, rc, rfl, _⟩ := hd
  obtain ⟨ra1, rc1, rfl, _⟩ := hd'
  have HA : Hid (_) := hA
  clear hA
  unfold rv
  generalize hw0 : (w.alloc (.cells #[.string f, .int .i64 e, .slice ra ds.length rc, .int .i64 c, .int .i64 u] 41)).alloc (.cells #[.string f, .int .i64 e, .slice ra1 ds.length rc1, .int .i64 c, .int .i64 u] 41) = w0 at HA k0 k1 SI
  obtain ⟨x0, x1, x2, x3, x4⟩ := blk5 k0
  obtain ⟨y0, y1, y2, y3, y4⟩ := blk5 k1
  clear k0 k1
  go_enter Tryz.func28, Tryz.ntmps28
  go_wp2_with (go_at_call 29; refine Calls.mono SI.out ?_; rintro r w1 ⟨rfl, hb1⟩)
  go_ret
  exact ⟨rfl, below_then HA.out hb1⟩

set_option maxHeartbeats 4000000 in
set_option maxRecDepth 100000 in
theorem sameEvent_any (E : EV) (sl skv mvv sl' skv' mvv' : Value) (w : World) (h1 : Ls w E sl skv mvv) (h2 : Ls w E sl' skv' mvv') :
    Calls Tryz.prog 12 #[ev E sl skv mvv, ev E sl' skv' mvv'] w fun r w' => r = .returned (.bool true) ∧ Below w.heap.size w w' := by
  have HL1 : Hid (Ls w E sl skv mvv) := h1
  have HL2 : Hid (Ls w E sl' skv' mvv') := h2
  obtain ⟨hd, hs, hm⟩ := h1
  obtain ⟨hd', hs', hm'⟩ := h2
  obtain ⟨ra, rc, rfl, _⟩ := hd
  obtain ⟨sa, sc, rfl, _⟩ := hs
  obtain ⟨ma, mc, rfl, hml, _⟩ := hm
  obtain ⟨ra1, rc1, rfl, _⟩ := hd'
  obtain ⟨sa1, sc1, rfl, _⟩ := hs'
  obtain ⟨ma1, mc1, rfl, _⟩ := hm'
  obtain ⟨idn, ti, st, lg, f, e, ds, c, u, sk, mv⟩ := E
  unfold ev
  dsimp only at *
  have hA := below_box2 w (.cells #[.string idn, .string ti, .int .i64 st, .int .i64 lg, .string f, .int .i64 e, .slice ra ds.length rc, .int .i64 c, .int .i64 u, .slice sa sk.length sc, .slice ma mv.length mc] 44) (.cells #[.string idn, .string ti, .int .i64 st, .int .i64 lg, .string f, .int .i64 e, .slice ra1 ds.length rc1, .int .i64 c, .int .i64 u, .slice sa1 sk.length sc1, .slice ma1 mv.length mc1] 44)
  have k0 : ((w.alloc (.cells #[.string idn, .string ti, .int .i64 st, .int .i64 lg, .string f, .int .i64 e, .slice ra ds.length rc, .int .i64 c, .int .i64 u, .slice sa sk.length sc, .slice ma mv.length mc] 44)).alloc (.cells #[.string idn, .string ti, .int .i64 st, .int .i64 lg, .string f, .int .i64 e, .slice ra1 ds.length rc1, .int .i64 c, .int .i64 u, .slice sa1 sk.length sc1, .slice ma1 mv.length mc1] 44)).heap[w.heap.size]? = some (.cells #[.string idn, .string ti, .int .i64 st, .int .i64 lg, .string f, .int .i64 e, .slice ra ds.length rc, .int .i64 c, .int .i64 u, .slice sa sk.length sc, .slice ma mv.length mc] 44 (0, 0)) := block_alloc _ (block_at _ rfl)
  have k1 : ((w.alloc (.cells #[.string idn, .string ti, .int .i64 st, .int .i64 lg, .string f, .int .i64 e, .slice ra ds.length rc, .int .i64 c, .int .i64 u, .slice sa sk.length sc, .slice ma mv.length mc] 44)).alloc (.cells #[.string idn, .string ti, .int .i64 st, .int .i64 lg, .string f, .int .i64 e, .slice ra1 ds.length rc1, .int .i64 c, .int .i64 u, .slice sa1 sk.length sc1, .slice ma1 mv.length mc1] 44)).heap[w.heap.size + 1]? = some (.cells #[.string idn, .string ti, .int .i64 st, .int .i64 lg, .string f, .int .i64 e, .slice ra1 ds.length rc1, .int .i64 c, .int .i64 u, .slice sa1 sk.length sc1, .slice ma1 mv.length mc1] 44 (0, 0)) := block_at _ (by simp)
  have L1 := HL1.out.step hA
  have L2 := HL2.out.step hA
  have SR := sameRule_any f e _ _ c u ds _ L1.d L2.d
  unfold rv at SR
  have HSR : Hid (Calls _ _ _ _ _) := SR
  have HA : Hid (_) := hA
  have HK0 : Hid (_) := k0
  have HK1 : Hid (_) := k1
  have M1 : Hid (Ls _ ⟨idn, ti, st, lg, f, e, ds, c, u, sk, mv⟩ (.slice ra ds.length rc) (.slice sa sk.length sc) (.slice ma mv.length mc)) := L1
  have M2 : Hid (Ls _ ⟨idn, ti, st, lg, f, e, ds, c, u, sk, mv⟩ (.slice ra1 ds.length rc1) (.slice sa1 sk.length sc1) (.slice ma1 mv.length mc1)) := L2
  clear SR L1 L2 HL1 HL2 hA
  generalize hw0 : (w.alloc (.cells #[.string idn, .string ti, .int .i64 st, .int .i64 lg, .string f, .int .i64 e, .slice ra ds.length rc, .int .i64 c, .int .i64 u, .slice sa sk.length sc, .slice ma mv.length mc] 44)).alloc (.cells #[.string idn, .string ti, .int .i64 st, .int .i64 lg, .string f, .int .i64 e, .slice ra1 ds.length rc1, .int .i64 c, .int .i64 u, .slice sa1 sk.length sc1, .slice ma1 mv.length mc1] 44) = w0 at HA k0 k1 HK0 HK1 HSR M1 M2
  obtain ⟨x0, x1, x2, x3, x4, x5, x6, x7, x8, x9, x10⟩ := blk11 k0
  obtain ⟨y0, y1, y2, y3, y4, y5, y6, y7, y8, y9, y10⟩ := blk11 k1
  clear k0 k1
  go_enter Tryz.func12, Tryz.ntmps12
  go_upto_region 3 with (go_at_call 28; refine Calls.mono HSR.out ?_; rintro r w1 ⟨rfl, hb1⟩)
  have HK2 : Hid (_) := (hb1.block _ (Array.getElem?_eq_some_iff.1 HK0.out).1).trans HK0.out
  have HK3 : Hid (_) := (hb1.block _ (Array.getElem?_eq_some_iff.1 HK1.out).1).trans HK1.out
  have N1 : Hid (Ls w1 ⟨idn, ti, st, lg, f, e, ds, c, u, sk, mv⟩ (.slice ra ds.length rc) (.slice sa sk.length sc) (.slice ma mv.length mc)) := M1.out.step hb1
  have N2 : Hid (Ls w1 ⟨idn, ti, st, lg, f, e, ds, c, u, sk, mv⟩ (.slice ra1 ds.length rc1) (.slice sa1 sk.length sc1) (.slice ma1 mv.length mc1)) := M2.out.step hb1
  have BW1 : Hid (Below w.heap.size w w1) := below_then HA.out hb1
  have SI : Hid (Calls _ _ _ _ _) := same_ints N1.out.s N2.out.s
  clear x0 x1 x2 x3 x4 x5 x6 x7 x8 x9 x10 y0 y1 y2 y3 y4 y5 y6 y7 y8 y9 y10 HK0 HK1 M1 M2 HSR HA hb1 hw0
  obtain ⟨x0, x1, x2, x3, x4, x5, x6, x7, x8, x9, x10⟩ := blk11 HK2.out
  obtain ⟨y0, y1, y2, y3, y4, y5, y6, y7, y8, y9, y10⟩ := blk11 HK3.out
  go_upto_region 5 with (go_at_call 29; refine Calls.mono SI.out ?_; rintro r w2 ⟨rfl, hb2⟩; have HK4 : Hid (_) := (hb2.block _ (Array.getElem?_eq_some_iff.1 HK2.out).1).trans HK2.out; have HK5 : Hid (_) := (hb2.block _ (Array.getElem?_eq_some_iff.1 HK3.out).1).trans HK3.out; clear x0 x1 x2 x3 x4 x5 x6 x7 x8 x9 x10 y0 y1 y2 y3 y4 y5 y6 y7 y8 y9 y10; obtain ⟨x0, x1, x2, x3, x4, x5, x6, x7, x8, x9, x10⟩ := blk11 HK4.out; obtain ⟨y0, y1, y2, y3, y4, y5, y6, y7, y8, y9, y10⟩ := blk11 HK5.out)
  have P1 : Hid (Movs w2 (.slice ma mv.length mc) mv) := N1.out.m.step hb2
  have P2 : Hid (Movs w2 (.slice ma1 mv.length mc1) mv) := N2.out.m.step hb2
  have BW2 : Hid (Below w.heap.size w w2) := below_then BW1.out hb2
  clear N1 N2 BW1 SI hb2 HK2 HK3 HK4 HK5 x0 x1 x2 x3 x4 x5 x6 x7 x8 x9 y0 y1 y2 y3 y4 y5 y6 y7 y8 y9
  go_wp2
  go_loopw [5] (fun i wr => ∃ k q : Nat, k ≤ mv.length ∧ i = .int .i64 k ∧ wr = w2.drewN q) (fun i _ => mv.length - (intOf i).toNat)
  case atStart => exact ⟨0, 0, Nat.zero_le _, rfl, rfl⟩
  case round =>
    obtain ⟨k, q, hk, rfl, rfl⟩ := hrel
    by_cases hlt : k < mv.length
    · obtain ⟨aa, ca, ea, _, _, hca⟩ := P1.out
      cases ea
      obtain ⟨ab, cb, eb, _, _, hcb⟩ := P2.out
      cases eb
      obtain ⟨b1, rfl, _, p1, p2⟩ := hca k hlt
      obtain ⟨b2, rfl, _, p3, p4⟩ := hcb k hlt
      have hlt' : (k : Int) < (mv.length : Int) := by omega
      generalize mv[k] = y at p1 p2 p3 p4
      clear hca hcb P1 P2
      go_wp2
      go_quiet (fail)
      go_wp2
      go_roundw
      case rel => exact ⟨k + 1, _, by omega, by go_num, rfl⟩
      case measure => simp [intOf]; omega
    · go_wp2
      go_ret
      exact ⟨rfl, below_then BW2.out (drewN_below _ _)⟩
end Go.Proofs.YtekminpoiokgfaaGreatDoor

/- The document's own SameInts, SameRule, SameEvent over two that may be others (written by wip/gen/mkMgW.py). -/
namespace Go.Proofs.YtekminpoiokgfaaGreatDoor
open Go Go.RowKit Go.Sort Cal
attribute [local go_sem] Oper.semAt_some

theorem sameInts_no {W : World} {v1 v2 : Value} {o p : List Int} (h1 : Ints W v1 o) (h2 : Ints W v2 p) (hne : o ≠ p) :
    Calls Tryz.prog 29 #[v1, v2] W fun e w' => e = .returned (.bool false) ∧ Below W.heap.size W w' := by
  obtain ⟨a1, c1, rfl, hl1, _, h1⟩ := h1
  obtain ⟨a2, c2, rfl, hl2, _, h2⟩ := h2
  have HA : Hid (_) := h1
  have HB : Hid (_) := h2
  have HN : Hid (o ≠ p) := hne
  clear h1 h2 hne
  by_cases hl : o.length = p.length
  · have HE : Hid (∀ L, p.length = L → ∀ k, ¬ k < L → (∀ (j : Nat) (h : j < o.length) (h' : j < p.length), j < k → o[j] = p[j]) → False) := fun L hL k hk hq => by
      apply HN.out
      refine List.ext_getElem hl (fun j h h' => hq j h h' (by omega))
    rw [hl]
    obtain ⟨L, hL⟩ : ∃ L, p.length = L := ⟨_, rfl⟩
    have HO : Hid (o.length = L) := hl.trans hL
    have HP : Hid (p.length = L) := hL
    have hL8 : L ≤ 80000 := by omega
    rw [hL]
    clear hl hL hl1 hl2
    go_enter Tryz.func29, Tryz.ntmps29
    go_wp2
    go_loopw [5] (fun i wr => ∃ k q : Nat, k ≤ L ∧ i = .int .i64 k ∧ wr = W.drewN q ∧ Hid (∀ (j : Nat) (h : j < o.length) (h' : j < p.length), j < k → o[j] = p[j])) (fun i _ => L - (intOf i).toNat)
    case atStart => exact ⟨0, 0, Nat.zero_le _, rfl, rfl, fun j _ _ h => absurd h (by omega)⟩
    case round =>
      obtain ⟨k, q, hk, rfl, rfl, HQ⟩ := hrel
      by_cases hlt : k < L
      · have hko : k < o.length := by rw [HO.out]; exact hlt
        have hkp : k < p.length := by rw [HP.out]; exact hlt
        obtain ⟨x, rfl, _, p0⟩ := HA.out k hko
        obtain ⟨y, rfl, _, q0⟩ := HB.out k hkp
        have hlt' : (k : Int) < (L : Int) := by omega
        by_cases he : o[k] = p[k]
        · have HQ2 : Hid (∀ (j : Nat) (h : j < o.length) (h' : j < p.length), j < k + 1 → o[j] = p[j]) := fun j h h' hj => by
            by_cases hjk : j = k
            · subst hjk; exact he
            · exact HQ.out j h h' (by omega)
          rw [he] at p0
          generalize p[k] = z at p0 q0
          clear HA HB HQ HE he
          go_wp2
          go_quiet (fail)
          go_wp2
          go_roundw
          case rel => exact ⟨k + 1, _, by omega, by go_num, rfl, HQ2.out⟩
          case measure => simp [intOf]; omega
        · generalize o[k] = z1 at p0 he
          generalize p[k] = z2 at q0 he
          clear HA HB HQ HE
          go_wp2
          go_quiet (fail)
          go_wp2
          go_ret
          exact ⟨rfl, below_then (drewN_below _ _) (drewN_below _ _)⟩
      · exact (HE.out L HP.out k hlt HQ.out).elim
  · have hl' : ¬ ((o.length : Int) = (p.length : Int)) := by omega
    generalize o.length = n1 at hl hl' ⊢
    generalize p.length = n2 at hl hl' ⊢
    clear HA HB HN
    go_enter Tryz.func29, Tryz.ntmps29
    go_wp2
    go_ret
    exact ⟨rfl, Below.refl _ _⟩
set_option maxHeartbeats 2000000 in
theorem sameRule_no (f f' : ByteArray) (e e' : Int) (sl sl' : Value) (c c' u u' : Int) (ds ds' : List Int) (w : World) (hd : Days w sl ds) (hd' : Days w sl' ds') (hne : ¬ (f = f' ∧ e = e' ∧ c = c' ∧ u = u' ∧ ds = ds')) :
    Calls Tryz.prog 28 #[rv f e sl c u, rv f' e' sl' c' u'] w fun r w' => r = .returned (.bool false) ∧ Below w.heap.size w w' := by
  obtain ⟨ra, rc, rfl, _⟩ := id hd
  obtain ⟨ra1, rc1, rfl, _⟩ := id hd'
  have hA := below_box2 w (.cells #[.string f, .int .i64 e, .slice ra ds.length rc, .int .i64 c, .int .i64 u] 41) (.cells #[.string f', .int .i64 e', .slice ra1 ds'.length rc1, .int .i64 c', .int .i64 u'] 41)
  have k0 : ((w.alloc (.cells #[.string f, .int .i64 e, .slice ra ds.length rc, .int .i64 c, .int .i64 u] 41)).alloc (.cells #[.string f', .int .i64 e', .slice ra1 ds'.length rc1, .int .i64 c', .int .i64 u'] 41)).heap[w.heap.size]? = some (.cells #[.string f, .int .i64 e, .slice ra ds.length rc, .int .i64 c, .int .i64 u] 41 (0, 0)) := block_alloc _ (block_at _ rfl)
  have k1 : ((w.alloc (.cells #[.string f, .int .i64 e, .slice ra ds.length rc, .int .i64 c, .int .i64 u] 41)).alloc (.cells #[.string f', .int .i64 e', .slice ra1 ds'.length rc1, .int .i64 c', .int .i64 u'] 41)).heap[w.heap.size + 1]? = some (.cells #[.string f', .int .i64 e', .slice ra1 ds'.length rc1, .int .i64 c', .int .i64 u'] 41 (0, 0)) := block_at _ (by simp)
  have SI : Hid (ds ≠ ds' → Calls _ _ _ _ _) := fun q => sameInts_no (days_ints (hd.step hA)) (days_ints (hd'.step hA)) q
  have HA : Hid (_) := hA
  have HN : Hid (¬ (f = f' ∧ e = e' ∧ c = c' ∧ u = u' ∧ ds = ds')) := hne
  clear hA hd hd' hne
  unfold rv
  generalize hw0 : (w.alloc (.cells #[.string f, .int .i64 e, .slice ra ds.length rc, .int .i64 c, .int .i64 u] 41)).alloc (.cells #[.string f', .int .i64 e', .slice ra1 ds'.length rc1, .int .i64 c', .int .i64 u'] 41) = w0 at HA k0 k1 SI
  obtain ⟨x0, x1, x2, x3, x4⟩ := blk5 k0
  obtain ⟨y0, y1, y2, y3, y4⟩ := blk5 k1
  clear k0 k1
  by_cases q1 : f = f'
  · subst q1
    by_cases q2 : e = e'
    · subst q2
      by_cases q3 : c = c'
      · subst q3
        by_cases q4 : u = u'
        · subst q4
          have SJ : Hid (Calls _ _ _ _ _) := SI.out (fun q => HN.out ⟨rfl, rfl, rfl, rfl, q⟩)
          clear SI HN
          go_enter Tryz.func28, Tryz.ntmps28
          go_wp2_with (go_at_call 29; refine Calls.mono SJ.out ?_; rintro r w1 ⟨rfl, hb1⟩)
          go_ret
          exact ⟨rfl, below_then HA.out hb1⟩
        · clear SI HN
          go_enter Tryz.func28, Tryz.ntmps28
          go_wp2
          go_ret
          exact ⟨rfl, HA.out⟩
      · clear SI HN
        go_enter Tryz.func28, Tryz.ntmps28
        go_wp2
        go_ret
        exact ⟨rfl, HA.out⟩
    · clear SI HN
      go_enter Tryz.func28, Tryz.ntmps28
      go_wp2
      go_ret
      exact ⟨rfl, HA.out⟩
  · have e1 : (f.toList == f'.toList) = false := tl_false q1
    clear SI HN q1
    go_enter Tryz.func28, Tryz.ntmps28
    go_wp2
    go_ret
    exact ⟨rfl, HA.out⟩

set_option maxHeartbeats 4000000 in
set_option maxRecDepth 100000 in
theorem sameEvent_no (E F : EV) (sl skv mvv sl' skv' mvv' : Value) (w : World) (h1 : Ls w E sl skv mvv) (h2 : Ls w F sl' skv' mvv') (hne : E ≠ F) :
    Calls Tryz.prog 12 #[ev E sl skv mvv, ev F sl' skv' mvv'] w fun r w' => r = .returned (.bool false) ∧ Below w.heap.size w w' := by
  have HL1 : Hid (Ls w E sl skv mvv) := h1
  have HL2 : Hid (Ls w F sl' skv' mvv') := h2
  obtain ⟨hd, hs, hm⟩ := h1
  obtain ⟨hd', hs', hm'⟩ := h2
  obtain ⟨ra, rc, rfl, _⟩ := hd
  obtain ⟨sa, sc, rfl, _⟩ := hs
  obtain ⟨ma, mc, rfl, hml, _⟩ := hm
  obtain ⟨ra1, rc1, rfl, _⟩ := hd'
  obtain ⟨sa1, sc1, rfl, _⟩ := hs'
  obtain ⟨ma1, mc1, rfl, hml', _⟩ := hm'
  obtain ⟨idn, ti, st, lg, f, e, ds, c, u, sk, mv⟩ := E
  obtain ⟨idn', ti', st', lg', f', e', ds', c', u', sk', mv'⟩ := F
  unfold ev
  dsimp only at *
  have hA := below_box2 w (.cells #[.string idn, .string ti, .int .i64 st, .int .i64 lg, .string f, .int .i64 e, .slice ra ds.length rc, .int .i64 c, .int .i64 u, .slice sa sk.length sc, .slice ma mv.length mc] 44) (.cells #[.string idn', .string ti', .int .i64 st', .int .i64 lg', .string f', .int .i64 e', .slice ra1 ds'.length rc1, .int .i64 c', .int .i64 u', .slice sa1 sk'.length sc1, .slice ma1 mv'.length mc1] 44)
  have k0 : ((w.alloc (.cells #[.string idn, .string ti, .int .i64 st, .int .i64 lg, .string f, .int .i64 e, .slice ra ds.length rc, .int .i64 c, .int .i64 u, .slice sa sk.length sc, .slice ma mv.length mc] 44)).alloc (.cells #[.string idn', .string ti', .int .i64 st', .int .i64 lg', .string f', .int .i64 e', .slice ra1 ds'.length rc1, .int .i64 c', .int .i64 u', .slice sa1 sk'.length sc1, .slice ma1 mv'.length mc1] 44)).heap[w.heap.size]? = some (.cells #[.string idn, .string ti, .int .i64 st, .int .i64 lg, .string f, .int .i64 e, .slice ra ds.length rc, .int .i64 c, .int .i64 u, .slice sa sk.length sc, .slice ma mv.length mc] 44 (0, 0)) := block_alloc _ (block_at _ rfl)
  have k1 : ((w.alloc (.cells #[.string idn, .string ti, .int .i64 st, .int .i64 lg, .string f, .int .i64 e, .slice ra ds.length rc, .int .i64 c, .int .i64 u, .slice sa sk.length sc, .slice ma mv.length mc] 44)).alloc (.cells #[.string idn', .string ti', .int .i64 st', .int .i64 lg', .string f', .int .i64 e', .slice ra1 ds'.length rc1, .int .i64 c', .int .i64 u', .slice sa1 sk'.length sc1, .slice ma1 mv'.length mc1] 44)).heap[w.heap.size + 1]? = some (.cells #[.string idn', .string ti', .int .i64 st', .int .i64 lg', .string f', .int .i64 e', .slice ra1 ds'.length rc1, .int .i64 c', .int .i64 u', .slice sa1 sk'.length sc1, .slice ma1 mv'.length mc1] 44 (0, 0)) := block_at _ (by simp)
  have L1 := HL1.out.step hA
  have L2 := HL2.out.step hA
  have HA : Hid (_) := hA
  have HK0 : Hid (_) := k0
  have HK1 : Hid (_) := k1
  have M1 : Hid (Ls _ ⟨idn, ti, st, lg, f, e, ds, c, u, sk, mv⟩ (.slice ra ds.length rc) (.slice sa sk.length sc) (.slice ma mv.length mc)) := L1
  have M2 : Hid (Ls _ ⟨idn', ti', st', lg', f', e', ds', c', u', sk', mv'⟩ (.slice ra1 ds'.length rc1) (.slice sa1 sk'.length sc1) (.slice ma1 mv'.length mc1)) := L2
  have HN : Hid ((⟨idn, ti, st, lg, f, e, ds, c, u, sk, mv⟩ : EV) ≠ ⟨idn', ti', st', lg', f', e', ds', c', u', sk', mv'⟩) := hne
  clear L1 L2 HL1 HL2 hA hne
  generalize hw0 : (w.alloc (.cells #[.string idn, .string ti, .int .i64 st, .int .i64 lg, .string f, .int .i64 e, .slice ra ds.length rc, .int .i64 c, .int .i64 u, .slice sa sk.length sc, .slice ma mv.length mc] 44)).alloc (.cells #[.string idn', .string ti', .int .i64 st', .int .i64 lg', .string f', .int .i64 e', .slice ra1 ds'.length rc1, .int .i64 c', .int .i64 u', .slice sa1 sk'.length sc1, .slice ma1 mv'.length mc1] 44) = w0 at HA k0 k1 HK0 HK1 M1 M2
  obtain ⟨x0, x1, x2, x3, x4, x5, x6, x7, x8, x9, x10⟩ := blk11 k0
  obtain ⟨y0, y1, y2, y3, y4, y5, y6, y7, y8, y9, y10⟩ := blk11 k1
  clear k0 k1
  by_cases q1 : idn = idn'
  · subst q1
    by_cases q2 : ti = ti'
    · subst q2
      by_cases q3 : st = st'
      · subst q3
        by_cases q4 : lg = lg'
        · subst q4
          by_cases q5 : f = f' ∧ e = e' ∧ c = c' ∧ u = u' ∧ ds = ds'
          · obtain ⟨rfl, rfl, rfl, rfl, rfl⟩ := q5
            have SR := sameRule_any f e _ _ c u ds _ M1.out.d M2.out.d
            unfold rv at SR
            have HSR : Hid (Calls _ _ _ _ _) := SR
            clear SR
            go_enter Tryz.func12, Tryz.ntmps12
            go_upto_region 3 with (go_at_call 28; refine Calls.mono HSR.out ?_; rintro r w1 ⟨rfl, hb1⟩)
            have HK2 : Hid (_) := (hb1.block _ (Array.getElem?_eq_some_iff.1 HK0.out).1).trans HK0.out
            have HK3 : Hid (_) := (hb1.block _ (Array.getElem?_eq_some_iff.1 HK1.out).1).trans HK1.out
            have N1s : Hid (Ints w1 (.slice sa sk.length sc) sk) := M1.out.s.step hb1
            have N2s : Hid (Ints w1 (.slice sa1 sk'.length sc1) sk') := M2.out.s.step hb1
            have N1m : Hid (Movs w1 (.slice ma mv.length mc) mv) := M1.out.m.step hb1
            have N2m : Hid (Movs w1 (.slice ma1 mv'.length mc1) mv') := M2.out.m.step hb1
            have BW1 : Hid (Below w.heap.size w w1) := below_then HA.out hb1
            have HN2 : Hid (¬ (sk = sk' ∧ mv = mv')) := fun ⟨z1, z2⟩ => HN.out (by rw [z1, z2])
            clear x0 x1 x2 x3 x4 x5 x6 x7 x8 x9 x10 y0 y1 y2 y3 y4 y5 y6 y7 y8 y9 y10 HK0 HK1 M1 M2 HSR HA hb1 hw0 HN
            obtain ⟨x0, x1, x2, x3, x4, x5, x6, x7, x8, x9, x10⟩ := blk11 HK2.out
            obtain ⟨y0, y1, y2, y3, y4, y5, y6, y7, y8, y9, y10⟩ := blk11 HK3.out
            by_cases q6 : sk = sk'
            · subst q6
              have SI : Hid (Calls _ _ _ _ _) := same_ints N1s.out N2s.out
              have HNM : Hid (mv ≠ mv') := fun z => HN2.out ⟨rfl, z⟩
              clear HN2 N1s N2s
              by_cases q7 : mv.length = mv'.length
              · have HE : Hid (∀ L, mv'.length = L → ∀ k, ¬ k < L → (∀ (j : Nat) (h : j < mv.length) (h' : j < mv'.length), j < k → mv[j] = mv'[j]) → False) := fun L hL k hk hq => by
                  apply HNM.out
                  refine List.ext_getElem q7 (fun j h h' => hq j h h' (by omega))
                obtain ⟨L, hL⟩ : ∃ L, mv'.length = L := ⟨_, rfl⟩
                rw [q7.trans hL] at x10 N1m HK2
                rw [hL] at y10 N2m HK3
                have HO : Hid (mv.length = L) := q7.trans hL
                have HP : Hid (mv'.length = L) := hL
                have hL8 : L ≤ 80000 := by omega
                have HA1 : Hid (∀ (j : Nat) (h : j < mv.length), ∃ b : Nat, ma = some ⟨b, 0, none⟩ ∧ b < w1.heap.size ∧ w1.cell? ⟨b, j * 2, none⟩ = some (.int .i64 mv[j].1) ∧ w1.cell? ⟨b, j * 2 + 1, none⟩ = some (.int .i64 mv[j].2)) := by
                  obtain ⟨a9, c9, e9, _, _, h9⟩ := N1m.out
                  injection e9 with e91 e92 e93
                  rw [e91]
                  exact h9
                have HB1 : Hid (∀ (j : Nat) (h : j < mv'.length), ∃ b : Nat, ma1 = some ⟨b, 0, none⟩ ∧ b < w1.heap.size ∧ w1.cell? ⟨b, j * 2, none⟩ = some (.int .i64 mv'[j].1) ∧ w1.cell? ⟨b, j * 2 + 1, none⟩ = some (.int .i64 mv'[j].2)) := by
                  obtain ⟨a9, c9, e9, _, _, h9⟩ := N2m.out
                  injection e9 with e91 e92 e93
                  rw [e91]
                  exact h9
                clear q7 hL hml hml' N1m N2m HNM
                go_upto_region 5 with (go_at_call 29; refine Calls.mono SI.out ?_; rintro r w2 ⟨rfl, hb2⟩; have HK4 : Hid (_) := (hb2.block _ (Array.getElem?_eq_some_iff.1 HK2.out).1).trans HK2.out; have HK5 : Hid (_) := (hb2.block _ (Array.getElem?_eq_some_iff.1 HK3.out).1).trans HK3.out; clear x0 x1 x2 x3 x4 x5 x6 x7 x8 x9 x10 y0 y1 y2 y3 y4 y5 y6 y7 y8 y9 y10; obtain ⟨x0, x1, x2, x3, x4, x5, x6, x7, x8, x9, x10⟩ := blk11 HK4.out; obtain ⟨y0, y1, y2, y3, y4, y5, y6, y7, y8, y9, y10⟩ := blk11 HK5.out)
                have HA2 : Hid (∀ (j : Nat) (h : j < mv.length), ∃ b : Nat, ma = some ⟨b, 0, none⟩ ∧ w2.cell? ⟨b, j * 2, none⟩ = some (.int .i64 mv[j].1) ∧ w2.cell? ⟨b, j * 2 + 1, none⟩ = some (.int .i64 mv[j].2)) := fun j h => by
                  obtain ⟨b, q, _, z1, z2⟩ := HA1.out j h
                  exact ⟨b, q, cell_step z1 hb2, cell_step z2 hb2⟩
                have HB2 : Hid (∀ (j : Nat) (h : j < mv'.length), ∃ b : Nat, ma1 = some ⟨b, 0, none⟩ ∧ w2.cell? ⟨b, j * 2, none⟩ = some (.int .i64 mv'[j].1) ∧ w2.cell? ⟨b, j * 2 + 1, none⟩ = some (.int .i64 mv'[j].2)) := fun j h => by
                  obtain ⟨b, q, _, z1, z2⟩ := HB1.out j h
                  exact ⟨b, q, cell_step z1 hb2, cell_step z2 hb2⟩
                have BW2 : Hid (Below w.heap.size w w2) := below_then BW1.out hb2
                clear BW1 SI hb2 HK2 HK3 HK4 HK5 x0 x1 x2 x3 x4 x5 x6 x7 x8 x9 y0 y1 y2 y3 y4 y5 y6 y7 y8 y9 HA1 HB1
                go_wp2
                go_loopw [5] (fun i wr => ∃ k q : Nat, k ≤ L ∧ i = .int .i64 k ∧ wr = w2.drewN q ∧ Hid (∀ (j : Nat) (h : j < mv.length) (h' : j < mv'.length), j < k → mv[j] = mv'[j])) (fun i _ => L - (intOf i).toNat)
                case atStart => exact ⟨0, 0, Nat.zero_le _, rfl, rfl, fun j _ _ h => absurd h (by omega)⟩
                case round =>
                  obtain ⟨k, q, hk, rfl, rfl, HQ⟩ := hrel
                  by_cases hlt : k < L
                  · have hko : k < mv.length := by rw [HO.out]; exact hlt
                    have hkp : k < mv'.length := by rw [HP.out]; exact hlt
                    obtain ⟨b1, rfl, p1, p2⟩ := HA2.out k hko
                    obtain ⟨b2, rfl, p3, p4⟩ := HB2.out k hkp
                    have hlt' : (k : Int) < (L : Int) := by omega
                    by_cases he : mv[k] = mv'[k]
                    · have HQ2 : Hid (∀ (j : Nat) (h : j < mv.length) (h' : j < mv'.length), j < k + 1 → mv[j] = mv'[j]) := fun j h h' hj => by
                        by_cases hjk : j = k
                        · subst hjk; exact he
                        · exact HQ.out j h h' (by omega)
                      rw [he] at p1 p2
                      generalize mv'[k] = z at p1 p2 p3 p4
                      clear HA2 HB2 HQ HE he
                      go_wp2
                      go_quiet (fail)
                      go_wp2
                      go_roundw
                      case rel => exact ⟨k + 1, _, by omega, by go_num, rfl, HQ2.out⟩
                      case measure => simp [intOf]; omega
                    · generalize mv[k] = z1 at p1 p2 he
                      generalize mv'[k] = z2 at p3 p4 he
                      obtain ⟨z11, z12⟩ := z1
                      obtain ⟨z21, z22⟩ := z2
                      dsimp only at p1 p2 p3 p4
                      clear HA2 HB2 HQ HE
                      by_cases hz1 : z11 = z21
                      · subst hz1
                        have hz2 : ¬ z12 = z22 := fun z => he (by rw [z])
                        have hb2 : (z12 == z22) = false := beq_eq_false_iff_ne.2 hz2
                        clear he
                        go_wp2
                        go_quiet (fail)
                        go_wp2
                        go_ret
                        exact ⟨rfl, below_then BW2.out (below_then (drewN_below _ _) (drewN_below _ _))⟩
                      · have hb2 : (z11 == z21) = false := beq_eq_false_iff_ne.2 hz1
                        clear he
                        go_wp2
                        go_quiet (fail)
                        go_wp2
                        go_ret
                        exact ⟨rfl, below_then BW2.out (below_then (drewN_below _ _) (drewN_below _ _))⟩
                  · exact (HE.out L HP.out k hlt HQ.out).elim
              · have q7' : ¬ ((mv.length : Int) = (mv'.length : Int)) := by omega
                clear N1m N2m HNM hml hml'
                obtain ⟨n1, hn1⟩ : ∃ n, mv.length = n := ⟨_, rfl⟩
                obtain ⟨n2, hn2⟩ : ∃ n, mv'.length = n := ⟨_, rfl⟩
                rw [hn1] at q7 q7' x10 HK2
                rw [hn2] at q7 q7' y10 HK3
                clear hn1 hn2
                go_wp2_with (go_at_call 29; refine Calls.mono SI.out ?_; rintro r w2 ⟨rfl, hb2⟩; have HK4 : Hid (_) := (hb2.block _ (Array.getElem?_eq_some_iff.1 HK2.out).1).trans HK2.out; have HK5 : Hid (_) := (hb2.block _ (Array.getElem?_eq_some_iff.1 HK3.out).1).trans HK3.out; clear x0 x1 x2 x3 x4 x5 x6 x7 x8 x9 x10 y0 y1 y2 y3 y4 y5 y6 y7 y8 y9 y10; obtain ⟨x0, x1, x2, x3, x4, x5, x6, x7, x8, x9, x10⟩ := blk11 HK4.out; obtain ⟨y0, y1, y2, y3, y4, y5, y6, y7, y8, y9, y10⟩ := blk11 HK5.out)
                go_ret
                exact ⟨rfl, below_then BW1.out hb2⟩
            · have SI : Hid (Calls _ _ _ _ _) := sameInts_no N1s.out N2s.out q6
              clear HN2 N1s N2s N1m N2m q6
              go_wp2_with (go_at_call 29; refine Calls.mono SI.out ?_; rintro r w2 ⟨rfl, hb2⟩)
              go_ret
              exact ⟨rfl, below_then BW1.out hb2⟩
          · have SR := sameRule_no f f' e e' _ _ c c' u u' ds ds' _ M1.out.d M2.out.d q5
            unfold rv at SR
            have HSR : Hid (Calls _ _ _ _ _) := SR
            clear SR q5 HN M1 M2
            go_enter Tryz.func12, Tryz.ntmps12
            go_wp2_with (go_at_call 28; refine Calls.mono HSR.out ?_; rintro r w1 ⟨rfl, hb1⟩)
            go_ret
            exact ⟨rfl, below_then HA.out hb1⟩
        · clear HN M1 M2
          go_enter Tryz.func12, Tryz.ntmps12
          go_wp2
          go_ret
          exact ⟨rfl, HA.out⟩
      · clear HN M1 M2
        go_enter Tryz.func12, Tryz.ntmps12
        go_wp2
        go_ret
        exact ⟨rfl, HA.out⟩
    · have e1 : (ti.toList == ti'.toList) = false := tl_false q2
      clear HN M1 M2 q2
      go_enter Tryz.func12, Tryz.ntmps12
      go_wp2
      go_ret
      exact ⟨rfl, HA.out⟩
  · have e1 : (idn.toList == idn'.toList) = false := tl_false q1
    clear HN M1 M2 q1
    go_enter Tryz.func12, Tryz.ntmps12
    go_wp2
    go_ret
    exact ⟨rfl, HA.out⟩
open Classical in
theorem sameEvent_dec (E F : EV) (sl skv mvv sl' skv' mvv' : Value) (w : World) (h1 : Ls w E sl skv mvv) (h2 : Ls w F sl' skv' mvv') :
    Calls Tryz.prog 12 #[ev E sl skv mvv, ev F sl' skv' mvv'] w fun r w' => r = .returned (.bool (decide (E = F))) ∧ Below w.heap.size w w' := by
  by_cases h : E = F
  · subst h
    rw [decide_eq_true rfl]
    exact sameEvent_any E sl skv mvv sl' skv' mvv' w h1 h2
  · rw [decide_eq_false h]
    exact sameEvent_no E F sl skv mvv sl' skv' mvv' w h1 h2 h
end Go.Proofs.YtekminpoiokgfaaGreatDoor
