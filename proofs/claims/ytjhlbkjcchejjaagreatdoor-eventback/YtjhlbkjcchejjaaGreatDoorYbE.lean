/- The document's own SameInts over lists that were built; a list appended to a list. -/
import Derived.Test.YtjhlbkjcchejjaaGreatDoorYaB
import Derived.BigQuiet
import Derived.Deep.DeepCutAuto
import Derived.Test.YtjhlbkjcchejjaaGreatDoorYaI
import Derived.Laws.StructEq
namespace Go.Proofs.YtjhlbkjcchejjaaGreatDoor
open Go Go.RowKit Cal
attribute [local go_sem] Oper.semAt_some

theorem same_yes (ba bb n ca cb : Nat) (z : Nat → Int) (w : World) (hn : n ≤ 100000) (ha : ∀ i, i < n → w.cell? ⟨ba, i, none⟩ = some (.int .i64 (z i))) (hb : ∀ i, i < n → w.cell? ⟨bb, i, none⟩ = some (.int .i64 (z i))) :
    Calls Tryz.prog 36 #[.slice (some ⟨ba, 0, none⟩) n ca, .slice (some ⟨bb, 0, none⟩) n cb] w fun e w' => e = .returned (.bool true) ∧ Below w.heap.size w w' := by
  have HA : Hid (∀ i, i < n → w.cell? ⟨ba, i, none⟩ = some (.int .i64 (z i))) := ha
  have HB : Hid (∀ i, i < n → w.cell? ⟨bb, i, none⟩ = some (.int .i64 (z i))) := hb
  clear ha hb
  go_enter Tryz.func36, Tryz.ntmps36
  go_wp2
  go_loopw [5] (fun i wr => ∃ k q : Nat, k ≤ n ∧ i = .int .i64 k ∧ wr = w.drewN q) (fun i _ => n - (intOf i).toNat)
  case atStart => exact ⟨0, 0, Nat.zero_le _, rfl, rfl⟩
  case round =>
    obtain ⟨k, q, hk, rfl, rfl⟩ := hrel
    by_cases hlt : k < n
    · have h1 := HA.out k hlt
      have h2 := HB.out k hlt
      go_wp2
      go_quiet (fail)
      go_wp2
      go_roundw
      case rel => exact ⟨k + 1, _, by omega, by go_num, rfl⟩
      case measure => simp [intOf]; omega
    · go_wp2
      go_ret
      exact ⟨rfl, drewN_below _ _⟩
theorem same_zero (a b : Option Addr) (ca cb : Nat) (w : World) :
    Calls Tryz.prog 36 #[.slice a 0 ca, .slice b 0 cb] w fun e w' => e = .returned (.bool true) ∧ Below w.heap.size w w' := by
  go_enter Tryz.func36, Tryz.ntmps36
  go_wp2
  go_loop [5] (fun i => i = .int .i64 0) (fun _ => 0)
  case atStart => rfl
  case round =>
    subst hrel
    go_wp2
    go_ret
    exact ⟨rfl, Below.refl _ _⟩
end Go.Proofs.YtjhlbkjcchejjaaGreatDoor

/- The document's own SameEvent, SameRule over two events that are one. -/
namespace Go.Proofs.YtjhlbkjcchejjaaGreatDoor
open Go Go.RowKit Cal
attribute [local go_sem] Oper.semAt_some

theorem same_ints {W : World} {v1 v2 : Value} {o : List Int} (h1 : Ints W v1 o) (h2 : Ints W v2 o) :
    Calls Tryz.prog 36 #[v1, v2] W fun e w' => e = .returned (.bool true) ∧ Below W.heap.size W w' := by
  obtain ⟨a1, c1, rfl, hl, _, h1⟩ := h1
  obtain ⟨a2, c2, rfl, _, _, h2⟩ := h2
  by_cases h0 : o.length = 0
  · rw [h0]
    exact same_zero a1 a2 c1 c2 W
  · obtain ⟨g1, rfl, _⟩ := h1 0 (by omega)
    obtain ⟨g2, rfl, _⟩ := h2 0 (by omega)
    refine same_yes g1 g2 o.length c1 c2 (fun i => o.getD i 0) W (by omega) (fun i hi => ?_) (fun i hi => ?_)
    · obtain ⟨b, e, _, hc⟩ := h1 i hi
      cases e
      rw [hc, List.getD_eq_getElem?_getD, List.getElem?_eq_getElem hi]; rfl
    · obtain ⟨b, e, _, hc⟩ := h2 i hi
      cases e
      rw [hc, List.getD_eq_getElem?_getD, List.getElem?_eq_getElem hi]; rfl

set_option maxHeartbeats 1000000 in
theorem sameRule_any (f : ByteArray) (e : Int) (sl sl' : Value) (c u : Int) (ds : List Int) (w : World) (hd : Days w sl ds) (hd' : Days w sl' ds) :
    Calls Tryz.prog 35 #[rv f e sl c u, rv f e sl' c u] w fun r w' => r = .returned (.bool true) ∧ Below w.heap.size w w' := by
  have hA := below_box2 w (.cells #[.string f, .int .i64 e, sl, .int .i64 c, .int .i64 u] 24) (.cells #[.string f, .int .i64 e, sl', .int .i64 c, .int .i64 u] 24)
  have k0 : ((w.alloc (.cells #[.string f, .int .i64 e, sl, .int .i64 c, .int .i64 u] 24)).alloc (.cells #[.string f, .int .i64 e, sl', .int .i64 c, .int .i64 u] 24)).heap[w.heap.size]? = some (.cells #[.string f, .int .i64 e, sl, .int .i64 c, .int .i64 u] 24 (0, 0)) := block_alloc _ (block_at _ rfl)
  have k1 : ((w.alloc (.cells #[.string f, .int .i64 e, sl, .int .i64 c, .int .i64 u] 24)).alloc (.cells #[.string f, .int .i64 e, sl', .int .i64 c, .int .i64 u] 24)).heap[w.heap.size + 1]? = some (.cells #[.string f, .int .i64 e, sl', .int .i64 c, .int .i64 u] 24 (0, 0)) := block_at _ (by simp)
  have SI : Hid (Calls _ _ _ _ _) := same_ints (days_ints (hd.step hA)) (days_ints (hd'.step hA))
  obtain ⟨ra, rc, rfl, _⟩ := hd
  obtain ⟨ra1, rc1, rfl, _⟩ := hd'
  have HA : Hid (_) := hA
  clear hA
  unfold rv
  generalize hw0 : (w.alloc (.cells #[.string f, .int .i64 e, .slice ra ds.length rc, .int .i64 c, .int .i64 u] 24)).alloc (.cells #[.string f, .int .i64 e, .slice ra1 ds.length rc1, .int .i64 c, .int .i64 u] 24) = w0 at HA k0 k1 SI
  obtain ⟨x0, x1, x2, x3, x4⟩ := blk5 k0
  obtain ⟨y0, y1, y2, y3, y4⟩ := blk5 k1
  clear k0 k1
  go_enter Tryz.func35, Tryz.ntmps35
  go_wp2_with (go_at_call 36; refine Calls.mono SI.out ?_; rintro r w1 ⟨rfl, hb1⟩)
  go_ret
  exact ⟨rfl, below_then HA.out hb1⟩

set_option maxHeartbeats 4000000 in
set_option maxRecDepth 100000 in
theorem sameEvent_any (E : EV) (sl skv mvv sl' skv' mvv' : Value) (w : World) (h1 : Ls w E sl skv mvv) (h2 : Ls w E sl' skv' mvv') :
    Calls Tryz.prog 12 #[ev E sl skv mvv, ev E sl' skv' mvv'] w fun r w' => r = .returned (.bool true) ∧ Below w.heap.size w w' := by
  have HL1 : Hid (Ls w E sl skv mvv) := h1
  have HL2 : Hid (Ls w E sl' skv' mvv') := h2
  obtain ⟨hd, hs, hm⟩ := h1
  obtain ⟨hd', hs', hm'⟩ := h2
  obtain ⟨ra, rc, rfl, _⟩ := hd
  obtain ⟨sa, sc, rfl, _⟩ := hs
  obtain ⟨ma, mc, rfl, hml, _⟩ := hm
  obtain ⟨ra1, rc1, rfl, _⟩ := hd'
  obtain ⟨sa1, sc1, rfl, _⟩ := hs'
  obtain ⟨ma1, mc1, rfl, _⟩ := hm'
  obtain ⟨idn, ti, st, lg, f, e, ds, c, u, sk, mv⟩ := E
  unfold ev
  dsimp only at *
  have hA := below_box2 w (.cells #[.string idn, .string ti, .int .i64 st, .int .i64 lg, .string f, .int .i64 e, .slice ra ds.length rc, .int .i64 c, .int .i64 u, .slice sa sk.length sc, .slice ma mv.length mc] 27) (.cells #[.string idn, .string ti, .int .i64 st, .int .i64 lg, .string f, .int .i64 e, .slice ra1 ds.length rc1, .int .i64 c, .int .i64 u, .slice sa1 sk.length sc1, .slice ma1 mv.length mc1] 27)
  have k0 : ((w.alloc (.cells #[.string idn, .string ti, .int .i64 st, .int .i64 lg, .string f, .int .i64 e, .slice ra ds.length rc, .int .i64 c, .int .i64 u, .slice sa sk.length sc, .slice ma mv.length mc] 27)).alloc (.cells #[.string idn, .string ti, .int .i64 st, .int .i64 lg, .string f, .int .i64 e, .slice ra1 ds.length rc1, .int .i64 c, .int .i64 u, .slice sa1 sk.length sc1, .slice ma1 mv.length mc1] 27)).heap[w.heap.size]? = some (.cells #[.string idn, .string ti, .int .i64 st, .int .i64 lg, .string f, .int .i64 e, .slice ra ds.length rc, .int .i64 c, .int .i64 u, .slice sa sk.length sc, .slice ma mv.length mc] 27 (0, 0)) := block_alloc _ (block_at _ rfl)
  have k1 : ((w.alloc (.cells #[.string idn, .string ti, .int .i64 st, .int .i64 lg, .string f, .int .i64 e, .slice ra ds.length rc, .int .i64 c, .int .i64 u, .slice sa sk.length sc, .slice ma mv.length mc] 27)).alloc (.cells #[.string idn, .string ti, .int .i64 st, .int .i64 lg, .string f, .int .i64 e, .slice ra1 ds.length rc1, .int .i64 c, .int .i64 u, .slice sa1 sk.length sc1, .slice ma1 mv.length mc1] 27)).heap[w.heap.size + 1]? = some (.cells #[.string idn, .string ti, .int .i64 st, .int .i64 lg, .string f, .int .i64 e, .slice ra1 ds.length rc1, .int .i64 c, .int .i64 u, .slice sa1 sk.length sc1, .slice ma1 mv.length mc1] 27 (0, 0)) := block_at _ (by simp)
  have L1 := HL1.out.step hA
  have L2 := HL2.out.step hA
  have SR := sameRule_any f e _ _ c u ds _ L1.d L2.d
  unfold rv at SR
  have HSR : Hid (Calls _ _ _ _ _) := SR
  have HA : Hid (_) := hA
  have HK0 : Hid (_) := k0
  have HK1 : Hid (_) := k1
  have M1 : Hid (Ls _ ⟨idn, ti, st, lg, f, e, ds, c, u, sk, mv⟩ (.slice ra ds.length rc) (.slice sa sk.length sc) (.slice ma mv.length mc)) := L1
  have M2 : Hid (Ls _ ⟨idn, ti, st, lg, f, e, ds, c, u, sk, mv⟩ (.slice ra1 ds.length rc1) (.slice sa1 sk.length sc1) (.slice ma1 mv.length mc1)) := L2
  clear SR L1 L2 HL1 HL2 hA
  generalize hw0 : (w.alloc (.cells #[.string idn, .string ti, .int .i64 st, .int .i64 lg, .string f, .int .i64 e, .slice ra ds.length rc, .int .i64 c, .int .i64 u, .slice sa sk.length sc, .slice ma mv.length mc] 27)).alloc (.cells #[.string idn, .string ti, .int .i64 st, .int .i64 lg, .string f, .int .i64 e, .slice ra1 ds.length rc1, .int .i64 c, .int .i64 u, .slice sa1 sk.length sc1, .slice ma1 mv.length mc1] 27) = w0 at HA k0 k1 HK0 HK1 HSR M1 M2
  obtain ⟨x0, x1, x2, x3, x4, x5, x6, x7, x8, x9, x10⟩ := blk11 k0
  obtain ⟨y0, y1, y2, y3, y4, y5, y6, y7, y8, y9, y10⟩ := blk11 k1
  clear k0 k1
  go_enter Tryz.func12, Tryz.ntmps12
  go_upto_region 3 with (go_at_call 35; refine Calls.mono HSR.out ?_; rintro r w1 ⟨rfl, hb1⟩)
  have HK2 : Hid (_) := (hb1.block _ (Array.getElem?_eq_some_iff.1 HK0.out).1).trans HK0.out
  have HK3 : Hid (_) := (hb1.block _ (Array.getElem?_eq_some_iff.1 HK1.out).1).trans HK1.out
  have N1 : Hid (Ls w1 ⟨idn, ti, st, lg, f, e, ds, c, u, sk, mv⟩ (.slice ra ds.length rc) (.slice sa sk.length sc) (.slice ma mv.length mc)) := M1.out.step hb1
  have N2 : Hid (Ls w1 ⟨idn, ti, st, lg, f, e, ds, c, u, sk, mv⟩ (.slice ra1 ds.length rc1) (.slice sa1 sk.length sc1) (.slice ma1 mv.length mc1)) := M2.out.step hb1
  have BW1 : Hid (Below w.heap.size w w1) := below_then HA.out hb1
  have SI : Hid (Calls _ _ _ _ _) := same_ints N1.out.s N2.out.s
  clear x0 x1 x2 x3 x4 x5 x6 x7 x8 x9 x10 y0 y1 y2 y3 y4 y5 y6 y7 y8 y9 y10 HK0 HK1 M1 M2 HSR HA hb1 hw0
  obtain ⟨x0, x1, x2, x3, x4, x5, x6, x7, x8, x9, x10⟩ := blk11 HK2.out
  obtain ⟨y0, y1, y2, y3, y4, y5, y6, y7, y8, y9, y10⟩ := blk11 HK3.out
  go_upto_region 5 with (go_at_call 36; refine Calls.mono SI.out ?_; rintro r w2 ⟨rfl, hb2⟩; have HK4 : Hid (_) := (hb2.block _ (Array.getElem?_eq_some_iff.1 HK2.out).1).trans HK2.out; have HK5 : Hid (_) := (hb2.block _ (Array.getElem?_eq_some_iff.1 HK3.out).1).trans HK3.out; clear x0 x1 x2 x3 x4 x5 x6 x7 x8 x9 x10 y0 y1 y2 y3 y4 y5 y6 y7 y8 y9 y10; obtain ⟨x0, x1, x2, x3, x4, x5, x6, x7, x8, x9, x10⟩ := blk11 HK4.out; obtain ⟨y0, y1, y2, y3, y4, y5, y6, y7, y8, y9, y10⟩ := blk11 HK5.out)
  have P1 : Hid (Movs w2 (.slice ma mv.length mc) mv) := N1.out.m.step hb2
  have P2 : Hid (Movs w2 (.slice ma1 mv.length mc1) mv) := N2.out.m.step hb2
  have BW2 : Hid (Below w.heap.size w w2) := below_then BW1.out hb2
  clear N1 N2 BW1 SI hb2 HK2 HK3 HK4 HK5 x0 x1 x2 x3 x4 x5 x6 x7 x8 x9 y0 y1 y2 y3 y4 y5 y6 y7 y8 y9
  go_wp2
  go_loopw [5] (fun i wr => ∃ k q : Nat, k ≤ mv.length ∧ i = .int .i64 k ∧ wr = w2.drewN q) (fun i _ => mv.length - (intOf i).toNat)
  case atStart => exact ⟨0, 0, Nat.zero_le _, rfl, rfl⟩
  case round =>
    obtain ⟨k, q, hk, rfl, rfl⟩ := hrel
    by_cases hlt : k < mv.length
    · obtain ⟨aa, ca, ea, _, _, hca⟩ := P1.out
      cases ea
      obtain ⟨ab, cb, eb, _, _, hcb⟩ := P2.out
      cases eb
      obtain ⟨b1, rfl, _, p1, p2⟩ := hca k hlt
      obtain ⟨b2, rfl, _, p3, p4⟩ := hcb k hlt
      have hlt' : (k : Int) < (mv.length : Int) := by omega
      generalize mv[k] = y at p1 p2 p3 p4
      clear hca hcb P1 P2
      go_wp2
      go_quiet (fail)
      go_wp2
      go_roundw
      case rel => exact ⟨k + 1, _, by omega, by go_num, rfl⟩
      case measure => simp [intOf]; omega
    · go_wp2
      go_ret
      exact ⟨rfl, below_then BW2.out (drewN_below _ _)⟩
end Go.Proofs.YtjhlbkjcchejjaaGreatDoor
