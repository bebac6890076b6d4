/- The laws' own OwnEvent: an event in memory of its own. -/
import Derived.Test.YtekminpoiokgfaaGreatDoorYaG
import Derived.Test.YtekminpoiokgfaaGreatDoorExpO2W
import Derived.Deep.DeepCutAuto
namespace Go.Proofs.YtekminpoiokgfaaGreatDoor
open Go Go.RowKit Cal
attribute [local go_sem] Oper.semAt_some

theorem blk11_frozen {W : World} {n : Nat} {cs : Array Value} {t : TypeId} (h : W.heap[n]? = some (.cells cs t (0, 0))) (i : Nat) : W.frozen? ⟨n, i, none⟩ = false := by
  simp [World.frozen?, h]
theorem set11_0 {W : World} {n : Nat} {v0 v1 v2 v3 v4 v5 v6 v7 v8 v9 v10 : Value} {t : TypeId} {fr : Nat × Nat} (v : Value) (h : W.heap[n]? = some (.cells #[v0, v1, v2, v3, v4, v5, v6, v7, v8, v9, v10] t fr)) : (W.setCell ⟨n, 0, none⟩ v).heap[n]? = some (.cells #[v, v1, v2, v3, v4, v5, v6, v7, v8, v9, v10] t fr) := set_block (i := 0) v h
theorem set11_1 {W : World} {n : Nat} {v0 v1 v2 v3 v4 v5 v6 v7 v8 v9 v10 : Value} {t : TypeId} {fr : Nat × Nat} (v : Value) (h : W.heap[n]? = some (.cells #[v0, v1, v2, v3, v4, v5, v6, v7, v8, v9, v10] t fr)) : (W.setCell ⟨n, 1, none⟩ v).heap[n]? = some (.cells #[v0, v, v2, v3, v4, v5, v6, v7, v8, v9, v10] t fr) := set_block (i := 1) v h
theorem set11_2 {W : World} {n : Nat} {v0 v1 v2 v3 v4 v5 v6 v7 v8 v9 v10 : Value} {t : TypeId} {fr : Nat × Nat} (v : Value) (h : W.heap[n]? = some (.cells #[v0, v1, v2, v3, v4, v5, v6, v7, v8, v9, v10] t fr)) : (W.setCell ⟨n, 2, none⟩ v).heap[n]? = some (.cells #[v0, v1, v, v3, v4, v5, v6, v7, v8, v9, v10] t fr) := set_block (i := 2) v h
theorem set11_3 {W : World} {n : Nat} {v0 v1 v2 v3 v4 v5 v6 v7 v8 v9 v10 : Value} {t : TypeId} {fr : Nat × Nat} (v : Value) (h : W.heap[n]? = some (.cells #[v0, v1, v2, v3, v4, v5, v6, v7, v8, v9, v10] t fr)) : (W.setCell ⟨n, 3, none⟩ v).heap[n]? = some (.cells #[v0, v1, v2, v, v4, v5, v6, v7, v8, v9, v10] t fr) := set_block (i := 3) v h
theorem set11_4 {W : World} {n : Nat} {v0 v1 v2 v3 v4 v5 v6 v7 v8 v9 v10 : Value} {t : TypeId} {fr : Nat × Nat} (v : Value) (h : W.heap[n]? = some (.cells #[v0, v1, v2, v3, v4, v5, v6, v7, v8, v9, v10] t fr)) : (W.setCell ⟨n, 4, none⟩ v).heap[n]? = some (.cells #[v0, v1, v2, v3, v, v5, v6, v7, v8, v9, v10] t fr) := set_block (i := 4) v h
theorem set11_5 {W : World} {n : Nat} {v0 v1 v2 v3 v4 v5 v6 v7 v8 v9 v10 : Value} {t : TypeId} {fr : Nat × Nat} (v : Value) (h : W.heap[n]? = some (.cells #[v0, v1, v2, v3, v4, v5, v6, v7, v8, v9, v10] t fr)) : (W.setCell ⟨n, 5, none⟩ v).heap[n]? = some (.cells #[v0, v1, v2, v3, v4, v, v6, v7, v8, v9, v10] t fr) := set_block (i := 5) v h
theorem set11_6 {W : World} {n : Nat} {v0 v1 v2 v3 v4 v5 v6 v7 v8 v9 v10 : Value} {t : TypeId} {fr : Nat × Nat} (v : Value) (h : W.heap[n]? = some (.cells #[v0, v1, v2, v3, v4, v5, v6, v7, v8, v9, v10] t fr)) : (W.setCell ⟨n, 6, none⟩ v).heap[n]? = some (.cells #[v0, v1, v2, v3, v4, v5, v, v7, v8, v9, v10] t fr) := set_block (i := 6) v h
theorem set11_7 {W : World} {n : Nat} {v0 v1 v2 v3 v4 v5 v6 v7 v8 v9 v10 : Value} {t : TypeId} {fr : Nat × Nat} (v : Value) (h : W.heap[n]? = some (.cells #[v0, v1, v2, v3, v4, v5, v6, v7, v8, v9, v10] t fr)) : (W.setCell ⟨n, 7, none⟩ v).heap[n]? = some (.cells #[v0, v1, v2, v3, v4, v5, v6, v, v8, v9, v10] t fr) := set_block (i := 7) v h
theorem set11_8 {W : World} {n : Nat} {v0 v1 v2 v3 v4 v5 v6 v7 v8 v9 v10 : Value} {t : TypeId} {fr : Nat × Nat} (v : Value) (h : W.heap[n]? = some (.cells #[v0, v1, v2, v3, v4, v5, v6, v7, v8, v9, v10] t fr)) : (W.setCell ⟨n, 8, none⟩ v).heap[n]? = some (.cells #[v0, v1, v2, v3, v4, v5, v6, v7, v, v9, v10] t fr) := set_block (i := 8) v h
theorem set11_9 {W : World} {n : Nat} {v0 v1 v2 v3 v4 v5 v6 v7 v8 v9 v10 : Value} {t : TypeId} {fr : Nat × Nat} (v : Value) (h : W.heap[n]? = some (.cells #[v0, v1, v2, v3, v4, v5, v6, v7, v8, v9, v10] t fr)) : (W.setCell ⟨n, 9, none⟩ v).heap[n]? = some (.cells #[v0, v1, v2, v3, v4, v5, v6, v7, v8, v, v10] t fr) := set_block (i := 9) v h
theorem set11_10 {W : World} {n : Nat} {v0 v1 v2 v3 v4 v5 v6 v7 v8 v9 v10 : Value} {t : TypeId} {fr : Nat × Nat} (v : Value) (h : W.heap[n]? = some (.cells #[v0, v1, v2, v3, v4, v5, v6, v7, v8, v9, v10] t fr)) : (W.setCell ⟨n, 10, none⟩ v).heap[n]? = some (.cells #[v0, v1, v2, v3, v4, v5, v6, v7, v8, v9, v] t fr) := set_block (i := 10) v h
/-- an event's eleven cells, all written -/
def put11 (W : World) (B : Nat) (v0 v1 v2 v3 v4 v5 v6 v7 v8 v9 v10 : Value) : World := (((((((((((W.setCell ⟨B, 0, none⟩ v0).setCell ⟨B, 1, none⟩ v1).setCell ⟨B, 2, none⟩ v2).setCell ⟨B, 3, none⟩ v3).setCell ⟨B, 4, none⟩ v4).setCell ⟨B, 5, none⟩ v5).setCell ⟨B, 6, none⟩ v6).setCell ⟨B, 7, none⟩ v7).setCell ⟨B, 8, none⟩ v8).setCell ⟨B, 9, none⟩ v9).setCell ⟨B, 10, none⟩ v10)
theorem put11_fold (W : World) (B : Nat) (v0 v1 v2 v3 v4 v5 v6 v7 v8 v9 v10 : Value) : (((((((((((W.setCell ⟨B, 0, none⟩ v0).setCell ⟨B, 1, none⟩ v1).setCell ⟨B, 2, none⟩ v2).setCell ⟨B, 3, none⟩ v3).setCell ⟨B, 4, none⟩ v4).setCell ⟨B, 5, none⟩ v5).setCell ⟨B, 6, none⟩ v6).setCell ⟨B, 7, none⟩ v7).setCell ⟨B, 8, none⟩ v8).setCell ⟨B, 9, none⟩ v9).setCell ⟨B, 10, none⟩ v10) = put11 W B v0 v1 v2 v3 v4 v5 v6 v7 v8 v9 v10 := rfl
theorem put11_grown (W : World) (B : Nat) (v0 v1 v2 v3 v4 v5 v6 v7 v8 v9 v10 : Value) : W.grownBy (put11 W B v0 v1 v2 v3 v4 v5 v6 v7 v8 v9 v10) (some B) := (grown_then (grown_then (grown_then (grown_then (grown_then (grown_then (grown_then (grown_then (grown_then (grown_then (grown_set _ ⟨B, 0, none⟩ _) (grown_set _ ⟨B, 1, none⟩ _)) (grown_set _ ⟨B, 2, none⟩ _)) (grown_set _ ⟨B, 3, none⟩ _)) (grown_set _ ⟨B, 4, none⟩ _)) (grown_set _ ⟨B, 5, none⟩ _)) (grown_set _ ⟨B, 6, none⟩ _)) (grown_set _ ⟨B, 7, none⟩ _)) (grown_set _ ⟨B, 8, none⟩ _)) (grown_set _ ⟨B, 9, none⟩ _)) (grown_set _ ⟨B, 10, none⟩ _))
theorem put11_blk {W : World} {B : Nat} {u0 u1 u2 u3 u4 u5 u6 u7 u8 u9 u10 : Value} {t : TypeId} {fr : Nat × Nat} (v0 v1 v2 v3 v4 v5 v6 v7 v8 v9 v10 : Value) (h : W.heap[B]? = some (.cells #[u0, u1, u2, u3, u4, u5, u6, u7, u8, u9, u10] t fr)) : (put11 W B v0 v1 v2 v3 v4 v5 v6 v7 v8 v9 v10).heap[B]? = some (.cells #[v0, v1, v2, v3, v4, v5, v6, v7, v8, v9, v10] t fr) :=
  (set11_10 v10 (set11_9 v9 (set11_8 v8 (set11_7 v7 (set11_6 v6 (set11_5 v5 (set11_4 v4 (set11_3 v3 (set11_2 v2 (set11_1 v1 (set11_0 v0 h)))))))))))
/-- an event's lists in memory of its own, or as they were handed over -/
structure Lists (W : World) (E : EV) (sl skv mvv : Value) : Prop where
  d : Days W sl E.ds
  s : Ints W skv E.sk
  m : Movs W mvv E.mv
  gd : Got W sl E.ds
  gs : Got W skv E.sk
  gm : GotM W mvv E.mv
theorem Lists.step {W W' : World} {E : EV} {sl skv mvv : Value} (h : Lists W E sl skv mvv) (hb : Below W.heap.size W W') : Lists W' E sl skv mvv :=
  ⟨h.d.step hb, h.s.step hb, h.m.step hb, h.gd.step hb, h.gs.step hb, h.gm.step hb⟩
theorem got_form {W : World} {sl : Value} {xs : List Int} (h : Got W sl xs) : ∃ a c, sl = .slice a xs.length c := by
  obtain ⟨a, c, e, _⟩ := h; exact ⟨a, c, e⟩
theorem gotM_form {W : World} {sl : Value} {xs : List (Int × Int)} (h : GotM W sl xs) : ∃ a c, sl = .slice a xs.length c := by
  obtain ⟨a, c, e, _⟩ := h; exact ⟨a, c, e⟩
theorem got_news {W : World} {ad : Addr} {xs : List Int} {cap : Nat} (h : Got W (.slice (some ad) xs.length cap) xs) : ∀ (j : Nat) (v : Value), (xs.map (Value.int .i64))[j]? = some v → W.cell? (ad.add j) = some v := fun j v hv => by
  obtain ⟨a, c, e, _, hc⟩ := h
  cases e
  rw [List.getElem?_map] at hv
  obtain ⟨d, hd, rfl⟩ := Option.map_eq_some_iff.1 hv
  obtain ⟨hj, rfl⟩ := List.getElem?_eq_some_iff.1 hd
  exact (hc ad rfl j hj).2
theorem gotM_news {W : World} {ad : Addr} {xs : List (Int × Int)} {cap : Nat} (h : GotM W (.slice (some ad) xs.length cap) xs) : ∀ (j : Nat) (v : Value), (mcells xs)[j]? = some v → W.cell? (ad.add j) = some v := by
  obtain ⟨a, c, e, _, hc⟩ := h
  cases e
  exact mcells_of xs (fun i u => W.cell? (ad.add i) = some u) (fun j hj => (hc ad rfl j hj).2)

set_option maxHeartbeats 4000000 in
set_option maxRecDepth 100000 in
theorem ownEvent_any (E : EV) (sl skv mvv : Value) (w : World) (hd : Got w sl E.ds) (hs : Got w skv E.sk) (hm : GotM w mvv E.mv) (h20 : E.ds.length ≤ 20) (hs25 : E.sk.length ≤ 30) (hm25 : E.mv.length ≤ 30) :
    Calls Tryz.prog 18 #[ev E sl skv mvv] w fun r w' => ∃ sl' skv' mvv', r = .returned (ev E sl' skv' mvv') ∧ Lists w' E sl' skv' mvv' ∧ Below w.heap.size w w' := by
  have hA := below_box2 w (.cells #[.string E.id, .string E.ti, .int .i64 E.st, .int .i64 E.lg, .string E.f, .int .i64 E.e, sl, .int .i64 E.c, .int .i64 E.u, skv, mvv] 44) (.cells #[.string ⟨#[]⟩, .string ⟨#[]⟩, .int .i64 0, .int .i64 0, .string ⟨#[]⟩, .int .i64 0, .slice none 0 0, .int .i64 0, .int .i64 0, .slice none 0 0, .slice none 0 0] 44)
  have hd0 := hd.step hA
  have HS1 : Hid (Got w skv E.sk) := hs
  have HM1 : Hid (GotM w mvv E.mv) := hm
  obtain ⟨i0, hi, hz0, hz1, hz2⟩ := info_parts info_int
  obtain ⟨i1, hi1, hy0, hy1, hy2⟩ := info_parts info_move
  obtain ⟨ra, rc, rfl⟩ := got_form hd
  obtain ⟨sa, sc, rfl⟩ := got_form hs
  obtain ⟨ma, mc, rfl⟩ := gotM_form hm
  have k0 : ((w.alloc (.cells #[.string E.id, .string E.ti, .int .i64 E.st, .int .i64 E.lg, .string E.f, .int .i64 E.e, .slice ra E.ds.length rc, .int .i64 E.c, .int .i64 E.u, .slice sa E.sk.length sc, .slice ma E.mv.length mc] 44)).alloc (.cells #[.string ⟨#[]⟩, .string ⟨#[]⟩, .int .i64 0, .int .i64 0, .string ⟨#[]⟩, .int .i64 0, .slice none 0 0, .int .i64 0, .int .i64 0, .slice none 0 0, .slice none 0 0] 44)).heap[w.heap.size]? = some (.cells #[.string E.id, .string E.ti, .int .i64 E.st, .int .i64 E.lg, .string E.f, .int .i64 E.e, .slice ra E.ds.length rc, .int .i64 E.c, .int .i64 E.u, .slice sa E.sk.length sc, .slice ma E.mv.length mc] 44 (0, 0)) := block_alloc _ (block_at _ rfl)
  have k1 : ((w.alloc (.cells #[.string E.id, .string E.ti, .int .i64 E.st, .int .i64 E.lg, .string E.f, .int .i64 E.e, .slice ra E.ds.length rc, .int .i64 E.c, .int .i64 E.u, .slice sa E.sk.length sc, .slice ma E.mv.length mc] 44)).alloc (.cells #[.string ⟨#[]⟩, .string ⟨#[]⟩, .int .i64 0, .int .i64 0, .string ⟨#[]⟩, .int .i64 0, .slice none 0 0, .int .i64 0, .int .i64 0, .slice none 0 0, .slice none 0 0] 44)).heap[w.heap.size + 1]? = some (.cells #[.string ⟨#[]⟩, .string ⟨#[]⟩, .int .i64 0, .int .i64 0, .string ⟨#[]⟩, .int .i64 0, .slice none 0 0, .int .i64 0, .int .i64 0, .slice none 0 0, .slice none 0 0] 44 (0, 0)) := block_at _ (by simp)
  have hz : ((w.alloc (.cells #[.string E.id, .string E.ti, .int .i64 E.st, .int .i64 E.lg, .string E.f, .int .i64 E.e, .slice ra E.ds.length rc, .int .i64 E.c, .int .i64 E.u, .slice sa E.sk.length sc, .slice ma E.mv.length mc] 44)).alloc (.cells #[.string ⟨#[]⟩, .string ⟨#[]⟩, .int .i64 0, .int .i64 0, .string ⟨#[]⟩, .int .i64 0, .slice none 0 0, .int .i64 0, .int .i64 0, .slice none 0 0, .slice none 0 0] 44)).heap.size = w.heap.size + 2 := by simp
  obtain ⟨idn, ti, st, lg, f, e, ds, c, u, sk, mv⟩ := E
  unfold ev
  dsimp only at *
  have OR := ownRule_ow f e (.slice ra ds.length rc) c u ds _ hd0 h20
  unfold rv at OR
  have HA : Hid (_) := hA
  have HZ : Hid (_) := hz
  clear hd hs hm hd0 hA hz
  generalize hw0 : (w.alloc (.cells #[.string idn, .string ti, .int .i64 st, .int .i64 lg, .string f, .int .i64 e, .slice ra ds.length rc, .int .i64 c, .int .i64 u, .slice sa sk.length sc, .slice ma mv.length mc] 44)).alloc (.cells #[.string ⟨#[]⟩, .string ⟨#[]⟩, .int .i64 0, .int .i64 0, .string ⟨#[]⟩, .int .i64 0, .slice none 0 0, .int .i64 0, .int .i64 0, .slice none 0 0, .slice none 0 0] 44) = w0 at HA k0 k1 HZ OR
  obtain ⟨x0, x1, x2, x3, x4, x5, x6, x7, x8, x9, x10⟩ := blk11 k0
  have HOR : Hid (Calls _ _ _ _ _) := OR
  have KA : Hid (w0.heap[w.heap.size]? = some (.cells #[.string idn, .string ti, .int .i64 st, .int .i64 lg, .string f, .int .i64 e, .slice ra ds.length rc, .int .i64 c, .int .i64 u, .slice sa sk.length sc, .slice ma mv.length mc] 44 (0, 0))) := k0
  have KB : Hid (w0.heap[w.heap.size + 1]? = some (.cells #[.string ⟨#[]⟩, .string ⟨#[]⟩, .int .i64 0, .int .i64 0, .string ⟨#[]⟩, .int .i64 0, .slice none 0 0, .int .i64 0, .int .i64 0, .slice none 0 0, .slice none 0 0] 44 (0, 0))) := k1
  clear OR k0 k1
  go_enter Tryz.func18, Tryz.ntmps18
  go_upto_region 4 with (go_at_call 33; refine Calls.mono HOR.out ?_; rintro r w1 ⟨sl', rfl, ho1, hb1⟩; obtain ⟨ra', rc', rfl⟩ := ow_form ho1; have ka : w1.heap[w.heap.size]? = some (.cells #[.string idn, .string ti, .int .i64 st, .int .i64 lg, .string f, .int .i64 e, .slice ra ds.length rc, .int .i64 c, .int .i64 u, .slice sa sk.length sc, .slice ma mv.length mc] 44 (0, 0)) := (hb1.block _ (by rw [HZ.out]; omega)).trans KA.out; have KB1 : Hid (w1.heap[w.heap.size + 1]? = some (.cells #[.string ⟨#[]⟩, .string ⟨#[]⟩, .int .i64 0, .int .i64 0, .string ⟨#[]⟩, .int .i64 0, .slice none 0 0, .int .i64 0, .int .i64 0, .slice none 0 0, .slice none 0 0] 44 (0, 0))) := (hb1.block _ (by rw [HZ.out]; omega)).trans KB.out; have KA1 : Hid (w1.heap[w.heap.size]? = some (.cells #[.string idn, .string ti, .int .i64 st, .int .i64 lg, .string f, .int .i64 e, .slice ra ds.length rc, .int .i64 c, .int .i64 u, .slice sa sk.length sc, .slice ma mv.length mc] 44 (0, 0))) := ka; have y4 := blk11_frozen ka 4; have y5 := blk11_frozen ka 5; have y6 := blk11_frozen ka 6; have y7 := blk11_frozen ka 7; have y8 := blk11_frozen ka 8; clear x0 x1 x2 x3 x4 x5 x6 x7 x8 x9 x10; obtain ⟨x0, x1, x2, x3, x4, x5, x6, x7, x8, x9, x10⟩ := blk11 ka; have O1 : Hid (Ow (w.heap.size + 2) w1 (.slice ra' ds.length rc') ds) := (by rw [HZ.out] at ho1; exact ho1); have HB1 : Hid (_) := hb1; have hz1 : w.heap.size + 2 ≤ w1.heap.size := (by have := hb1.size; rw [HZ.out] at this; exact this); clear ka ho1 hb1; dsimp only [rv])
  have m4 := set11_4 (.string f) KA1.out
  have m5 := set11_5 (.int .i64 e) m4
  have m6 := set11_6 (.slice ra' ds.length rc') m5
  have m7 := set11_7 (.int .i64 c) m6
  have m8 := set11_8 (.int .i64 u) m7
  have g2 : w1.grownBy (((((w1.setCell ⟨w.heap.size, 4, none⟩ (.string f)).setCell ⟨w.heap.size, 5, none⟩ (.int .i64 e)).setCell ⟨w.heap.size, 6, none⟩ (.slice ra' ds.length rc')).setCell ⟨w.heap.size, 7, none⟩ (.int .i64 c)).setCell ⟨w.heap.size, 8, none⟩ (.int .i64 u)) (some (w.heap.size)) := (grown_then (grown_then (grown_then (grown_then (grown_set _ ⟨w.heap.size, 4, none⟩ _) (grown_set _ ⟨w.heap.size, 5, none⟩ _)) (grown_set _ ⟨w.heap.size, 6, none⟩ _)) (grown_set _ ⟨w.heap.size, 7, none⟩ _)) (grown_set _ ⟨w.heap.size, 8, none⟩ _))
  have O2 : Hid (Ow (w.heap.size + 2) (((((w1.setCell ⟨w.heap.size, 4, none⟩ (.string f)).setCell ⟨w.heap.size, 5, none⟩ (.int .i64 e)).setCell ⟨w.heap.size, 6, none⟩ (.slice ra' ds.length rc')).setCell ⟨w.heap.size, 7, none⟩ (.int .i64 c)).setCell ⟨w.heap.size, 8, none⟩ (.int .i64 u)) (.slice ra' ds.length rc') ds) := Ow.grown O1.out g2 (by omega)
  have KB2 : Hid ((((((w1.setCell ⟨w.heap.size, 4, none⟩ (.string f)).setCell ⟨w.heap.size, 5, none⟩ (.int .i64 e)).setCell ⟨w.heap.size, 6, none⟩ (.slice ra' ds.length rc')).setCell ⟨w.heap.size, 7, none⟩ (.int .i64 c)).setCell ⟨w.heap.size, 8, none⟩ (.int .i64 u)).heap[w.heap.size + 1]? = some (.cells #[.string ⟨#[]⟩, .string ⟨#[]⟩, .int .i64 0, .int .i64 0, .string ⟨#[]⟩, .int .i64 0, .slice none 0 0, .int .i64 0, .int .i64 0, .slice none 0 0, .slice none 0 0] 44 (0, 0))) := (g2.block _ (by omega) (fun q => by simp at q)).trans KB1.out
  have B2 : Hid (Below w.heap.size w (((((w1.setCell ⟨w.heap.size, 4, none⟩ (.string f)).setCell ⟨w.heap.size, 5, none⟩ (.int .i64 e)).setCell ⟨w.heap.size, 6, none⟩ (.slice ra' ds.length rc')).setCell ⟨w.heap.size, 7, none⟩ (.int .i64 c)).setCell ⟨w.heap.size, 8, none⟩ (.int .i64 u))) := (below_then HA.out HB1.out).grown g2 (by omega) (fun k q => by cases q; exact Nat.le_refl _)
  have GS2 : Hid (Got (((((w1.setCell ⟨w.heap.size, 4, none⟩ (.string f)).setCell ⟨w.heap.size, 5, none⟩ (.int .i64 e)).setCell ⟨w.heap.size, 6, none⟩ (.slice ra' ds.length rc')).setCell ⟨w.heap.size, 7, none⟩ (.int .i64 c)).setCell ⟨w.heap.size, 8, none⟩ (.int .i64 u)) (.slice sa sk.length sc) sk) := HS1.out.step B2.out
  have GM2 : Hid (GotM (((((w1.setCell ⟨w.heap.size, 4, none⟩ (.string f)).setCell ⟨w.heap.size, 5, none⟩ (.int .i64 e)).setCell ⟨w.heap.size, 6, none⟩ (.slice ra' ds.length rc')).setCell ⟨w.heap.size, 7, none⟩ (.int .i64 c)).setCell ⟨w.heap.size, 8, none⟩ (.int .i64 u)) (.slice ma mv.length mc) mv) := HM1.out.step B2.out
  have KA2 : Hid ((((((w1.setCell ⟨w.heap.size, 4, none⟩ (.string f)).setCell ⟨w.heap.size, 5, none⟩ (.int .i64 e)).setCell ⟨w.heap.size, 6, none⟩ (.slice ra' ds.length rc')).setCell ⟨w.heap.size, 7, none⟩ (.int .i64 c)).setCell ⟨w.heap.size, 8, none⟩ (.int .i64 u)).heap[w.heap.size]? = some (.cells #[.string idn, .string ti, .int .i64 st, .int .i64 lg, .string f, .int .i64 e, .slice ra' ds.length rc', .int .i64 c, .int .i64 u, .slice sa sk.length sc, .slice ma mv.length mc] 44 (0, 0))) := m8
  have hz2' : w.heap.size + 2 ≤ (((((w1.setCell ⟨w.heap.size, 4, none⟩ (.string f)).setCell ⟨w.heap.size, 5, none⟩ (.int .i64 e)).setCell ⟨w.heap.size, 6, none⟩ (.slice ra' ds.length rc')).setCell ⟨w.heap.size, 7, none⟩ (.int .i64 c)).setCell ⟨w.heap.size, 8, none⟩ (.int .i64 u)).heap.size := Nat.le_trans hz1 g2.size
  clear m4 m5 m6 m7 m8 g2 KA1 KB1 O1 HB1 HA KA KB x0 x1 x2 x3 x4 x5 x6 x7 x8 x9 x10 y4 y5 y6 y7 y8 hz1 HOR
  generalize (((((w1.setCell ⟨w.heap.size, 4, none⟩ (.string f)).setCell ⟨w.heap.size, 5, none⟩ (.int .i64 e)).setCell ⟨w.heap.size, 6, none⟩ (.slice ra' ds.length rc')).setCell ⟨w.heap.size, 7, none⟩ (.int .i64 c)).setCell ⟨w.heap.size, 8, none⟩ (.int .i64 u)) = w2 at O2 KB2 B2 GS2 GM2 KA2 hz2' ⊢
  obtain ⟨x0, x1, x2, x3, x4, x5, x6, x7, x8, x9, x10⟩ := blk11 KA2.out
  clear x0 x1 x2 x3 x4 x5 x6 x7 x8
  have z9 := blk11_frozen KA2.out 9
  have z10 := blk11_frozen KA2.out 10
  cases sa with
  | none =>
    obtain ⟨h0, rfl⟩ : sk = [] ∧ sc = 0 := by obtain ⟨a', c', e1, e2, _⟩ := HS1.out; cases e1; exact ⟨List.length_eq_zero_iff.1 (e2 rfl).1, (e2 rfl).2⟩
    subst h0
    simp only [List.length_nil] at *
    cases ma with
    | none =>
      obtain ⟨h0, rfl⟩ : mv = [] ∧ mc = 0 := by obtain ⟨a', c', e1, e2, _⟩ := HM1.out; cases e1; exact ⟨List.length_eq_zero_iff.1 (e2 rfl).1, (e2 rfl).2⟩
      subst h0
      simp only [List.length_nil] at *
      have OS0 : Hid (Ow (w.heap.size + 2) w2 (.slice none 0 0) ([] : List Int)) := Ow.nil _ _
      have BG : Hid (Below w2.heap.size w2 w2) := Below.refl _ _
      have KA3 : Hid (w2.heap[w.heap.size]? = some (.cells #[.string idn, .string ti, .int .i64 st, .int .i64 lg, .string f, .int .i64 e, .slice ra' ds.length rc', .int .i64 c, .int .i64 u, .slice none 0 0, .slice none 0 0] 44 (0, 0))) := KA2.out
      go_upto_region 5 with (fail)
      have m9 : (w2.setCell ⟨w.heap.size, 9, none⟩ (.slice none 0 0)).heap[w.heap.size]? = some (.cells #[.string idn, .string ti, .int .i64 st, .int .i64 lg, .string f, .int .i64 e, .slice ra' ds.length rc', .int .i64 c, .int .i64 u, .slice none 0 0, .slice none 0 0] 44 (0, 0)) := set11_9 (.slice none 0 0) KA3.out
      have g3 : w2.grownBy (w2.setCell ⟨w.heap.size, 9, none⟩ (.slice none 0 0)) (some (w.heap.size)) := grown_set w2 ⟨w.heap.size, 9, none⟩ (.slice none 0 0)
      have hz3 : w.heap.size + 2 ≤ w2.heap.size := Nat.le_trans hz2' BG.out.size
      have OR3 : Hid (Ow (w.heap.size + 2) (w2.setCell ⟨w.heap.size, 9, none⟩ (.slice none 0 0)) (.slice ra' ds.length rc') ds) := Ow.grown (Ow.step O2.out BG.out) g3 (by omega)
      have OS3 : Hid (Ow (w.heap.size + 2) (w2.setCell ⟨w.heap.size, 9, none⟩ (.slice none 0 0)) (.slice none 0 0) ([] : List Int)) := Ow.grown OS0.out g3 (by omega)
      have KB3 : Hid ((w2.setCell ⟨w.heap.size, 9, none⟩ (.slice none 0 0)).heap[w.heap.size + 1]? = some (.cells #[.string ⟨#[]⟩, .string ⟨#[]⟩, .int .i64 0, .int .i64 0, .string ⟨#[]⟩, .int .i64 0, .slice none 0 0, .int .i64 0, .int .i64 0, .slice none 0 0, .slice none 0 0] 44 (0, 0))) := (g3.block _ (by omega) (fun q => by simp at q)).trans ((BG.out.block _ (by omega)).trans KB2.out)
      have B3 : Hid (Below w.heap.size w (w2.setCell ⟨w.heap.size, 9, none⟩ (.slice none 0 0))) := (below_then B2.out BG.out).grown g3 (by omega) (fun k q => by cases q; exact Nat.le_refl _)
      have GM3 : Hid (GotM (w2.setCell ⟨w.heap.size, 9, none⟩ (.slice none 0 0)) (.slice none 0 0) []) := HM1.out.step B3.out
      have KA4 : Hid ((w2.setCell ⟨w.heap.size, 9, none⟩ (.slice none 0 0)).heap[w.heap.size]? = some (.cells #[.string idn, .string ti, .int .i64 st, .int .i64 lg, .string f, .int .i64 e, .slice ra' ds.length rc', .int .i64 c, .int .i64 u, .slice none 0 0, .slice none 0 0] 44 (0, 0))) := m9
      have hz4 : w.heap.size + 2 ≤ (w2.setCell ⟨w.heap.size, 9, none⟩ (.slice none 0 0)).heap.size := Nat.le_trans hz3 g3.size
      clear m9 g3 hz3 KA3 OS0 BG KA2 KB2 O2 B2 GS2 GM2 hz2' x9 x10 z9 z10
      generalize (w2.setCell ⟨w.heap.size, 9, none⟩ (.slice none 0 0)) = w4 at OR3 OS3 KB3 B3 GM3 KA4 hz4 ⊢
      have x10 := (blk11 KA4.out).2.2.2.2.2.2.2.2.2.2
      have z10 := blk11_frozen KA4.out 10
      have OM0 : Hid (OwM (w.heap.size + 2) w4 (.slice none 0 0) ([] : List (Int × Int))) := World.ownsRow_nil _ _ _ _
      have BG : Hid (Below w4.heap.size w4 w4) := Below.refl _ _
      have KA5 : Hid (w4.heap[w.heap.size]? = some (.cells #[.string idn, .string ti, .int .i64 st, .int .i64 lg, .string f, .int .i64 e, .slice ra' ds.length rc', .int .i64 c, .int .i64 u, .slice none 0 0, .slice none 0 0] 44 (0, 0))) := KA4.out
      go_upto_region 6 with (fail)
      have m9 : (w4.setCell ⟨w.heap.size, 10, none⟩ (.slice none 0 0)).heap[w.heap.size]? = some (.cells #[.string idn, .string ti, .int .i64 st, .int .i64 lg, .string f, .int .i64 e, .slice ra' ds.length rc', .int .i64 c, .int .i64 u, .slice none 0 0, .slice none 0 0] 44 (0, 0)) := set11_10 (.slice none 0 0) KA5.out
      have g3 : w4.grownBy (w4.setCell ⟨w.heap.size, 10, none⟩ (.slice none 0 0)) (some (w.heap.size)) := grown_set w4 ⟨w.heap.size, 10, none⟩ (.slice none 0 0)
      have hz5 : w.heap.size + 2 ≤ w4.heap.size := Nat.le_trans hz4 BG.out.size
      have OR5 : Hid (Ow (w.heap.size + 2) (w4.setCell ⟨w.heap.size, 10, none⟩ (.slice none 0 0)) (.slice ra' ds.length rc') ds) := Ow.grown (Ow.step OR3.out BG.out) g3 (by omega)
      have OS5 : Hid (Ow (w.heap.size + 2) (w4.setCell ⟨w.heap.size, 10, none⟩ (.slice none 0 0)) (.slice none 0 0) ([] : List Int)) := Ow.grown (Ow.step OS3.out BG.out) g3 (by omega)
      have OM5 : Hid (OwM (w.heap.size + 2) (w4.setCell ⟨w.heap.size, 10, none⟩ (.slice none 0 0)) (.slice none 0 0) ([] : List (Int × Int))) := OwM.grown OM0.out g3 (by omega)
      have KB5 : Hid ((w4.setCell ⟨w.heap.size, 10, none⟩ (.slice none 0 0)).heap[w.heap.size + 1]? = some (.cells #[.string ⟨#[]⟩, .string ⟨#[]⟩, .int .i64 0, .int .i64 0, .string ⟨#[]⟩, .int .i64 0, .slice none 0 0, .int .i64 0, .int .i64 0, .slice none 0 0, .slice none 0 0] 44 (0, 0))) := (g3.block _ (by omega) (fun q => by simp at q)).trans ((BG.out.block _ (by omega)).trans KB3.out)
      have B5 : Hid (Below w.heap.size w (w4.setCell ⟨w.heap.size, 10, none⟩ (.slice none 0 0))) := (below_then B3.out BG.out).grown g3 (by omega) (fun k q => by cases q; exact Nat.le_refl _)
      have KA6 : Hid ((w4.setCell ⟨w.heap.size, 10, none⟩ (.slice none 0 0)).heap[w.heap.size]? = some (.cells #[.string idn, .string ti, .int .i64 st, .int .i64 lg, .string f, .int .i64 e, .slice ra' ds.length rc', .int .i64 c, .int .i64 u, .slice none 0 0, .slice none 0 0] 44 (0, 0))) := m9
      have hz6 : w.heap.size + 2 ≤ (w4.setCell ⟨w.heap.size, 10, none⟩ (.slice none 0 0)).heap.size := Nat.le_trans hz5 g3.size
      clear m9 g3 hz5 KA5 OM0 BG KA4 KB3 OR3 OS3 B3 GM3 hz4 x10 z10
      generalize (w4.setCell ⟨w.heap.size, 10, none⟩ (.slice none 0 0)) = w6 at OR5 OS5 OM5 KB5 B5 KA6 hz6 ⊢
      obtain ⟨x0, x1, x2, x3, x4, x5, x6, x7, x8, x9, x10⟩ := blk11 KA6.out
      obtain ⟨t0, t1, t2, t3, t4, t5, t6, t7, t8, t9, t10⟩ := blk11 KB5.out
      have f0 := blk11_frozen KB5.out 0
      have f1 := blk11_frozen KB5.out 1
      have f2 := blk11_frozen KB5.out 2
      have f3 := blk11_frozen KB5.out 3
      have f4 := blk11_frozen KB5.out 4
      have f5 := blk11_frozen KB5.out 5
      have f6 := blk11_frozen KB5.out 6
      have f7 := blk11_frozen KB5.out 7
      have f8 := blk11_frozen KB5.out 8
      have f9 := blk11_frozen KB5.out 9
      have f10 := blk11_frozen KB5.out 10
      go_wp2
      rw [put11_fold]
      have n10 := put11_blk (.string idn) (.string ti) (.int .i64 st) (.int .i64 lg) (.string f) (.int .i64 e) (.slice ra' ds.length rc') (.int .i64 c) (.int .i64 u) (.slice none 0 0) (.slice none 0 0) KB5.out
      have g7 := put11_grown w6 (w.heap.size + 1) (.string idn) (.string ti) (.int .i64 st) (.int .i64 lg) (.string f) (.int .i64 e) (.slice ra' ds.length rc') (.int .i64 c) (.int .i64 u) (.slice none 0 0) (.slice none 0 0)
      clear x0 x1 x2 x3 x4 x5 x6 x7 x8 x9 x10 t0 t1 t2 t3 t4 t5 t6 t7 t8 t9 t10 f0 f1 f2 f3 f4 f5 f6 f7 f8 f9 f10
      generalize put11 w6 (w.heap.size + 1) (.string idn) (.string ti) (.int .i64 st) (.int .i64 lg) (.string f) (.int .i64 e) (.slice ra' ds.length rc') (.int .i64 c) (.int .i64 u) (.slice none 0 0) (.slice none 0 0) = w7 at n10 g7 ⊢
      obtain ⟨c0, c1, c2, c3, c4, c5, c6, c7, c8, c9, c10⟩ := blk11 n10
      have o1 := Ow.grown OR5.out g7 (by omega)
      have o2 := Ow.grown OS5.out g7 (by omega)
      have o3 := OwM.grown OM5.out g7 (by omega)
      refine bodyPost_ret (v := .agg #[.string idn, .string ti, .int .i64 st, .int .i64 lg, .string f, .int .i64 e, .slice ra' ds.length rc', .int .i64 c, .int .i64 u, .slice none 0 0, .slice none 0 0]) (by simp [results, Tryz.f18, go_sem, c0, c1, c2, c3, c4, c5, c6, c7, c8, c9, c10]) rfl ⟨_, _, _, rfl, ⟨ow_days o1 h20, ow_ints (ds := ([] : List Int)) o2 (by first | omega | simp), (owm_movs (ms := ([] : List (Int × Int))) o3 (by first | omega | simp)).1, ow_got o1, ow_got o2, (owm_movs (ms := ([] : List (Int × Int))) o3 (by first | omega | simp)).2⟩, B5.out.grown g7 (by omega) (fun k q => by cases q; omega)⟩
    | some bd =>
      have OS0 : Hid (Ow (w.heap.size + 2) w2 (.slice none 0 0) ([] : List Int)) := Ow.nil _ _
      have BG : Hid (Below w2.heap.size w2 w2) := Below.refl _ _
      have KA3 : Hid (w2.heap[w.heap.size]? = some (.cells #[.string idn, .string ti, .int .i64 st, .int .i64 lg, .string f, .int .i64 e, .slice ra' ds.length rc', .int .i64 c, .int .i64 u, .slice none 0 0, .slice (some bd) mv.length mc] 44 (0, 0))) := KA2.out
      go_upto_region 5 with (fail)
      have m9 : (w2.setCell ⟨w.heap.size, 9, none⟩ (.slice none 0 0)).heap[w.heap.size]? = some (.cells #[.string idn, .string ti, .int .i64 st, .int .i64 lg, .string f, .int .i64 e, .slice ra' ds.length rc', .int .i64 c, .int .i64 u, .slice none 0 0, .slice (some bd) mv.length mc] 44 (0, 0)) := set11_9 (.slice none 0 0) KA3.out
      have g3 : w2.grownBy (w2.setCell ⟨w.heap.size, 9, none⟩ (.slice none 0 0)) (some (w.heap.size)) := grown_set w2 ⟨w.heap.size, 9, none⟩ (.slice none 0 0)
      have hz3 : w.heap.size + 2 ≤ w2.heap.size := Nat.le_trans hz2' BG.out.size
      have OR3 : Hid (Ow (w.heap.size + 2) (w2.setCell ⟨w.heap.size, 9, none⟩ (.slice none 0 0)) (.slice ra' ds.length rc') ds) := Ow.grown (Ow.step O2.out BG.out) g3 (by omega)
      have OS3 : Hid (Ow (w.heap.size + 2) (w2.setCell ⟨w.heap.size, 9, none⟩ (.slice none 0 0)) (.slice none 0 0) ([] : List Int)) := Ow.grown OS0.out g3 (by omega)
      have KB3 : Hid ((w2.setCell ⟨w.heap.size, 9, none⟩ (.slice none 0 0)).heap[w.heap.size + 1]? = some (.cells #[.string ⟨#[]⟩, .string ⟨#[]⟩, .int .i64 0, .int .i64 0, .string ⟨#[]⟩, .int .i64 0, .slice none 0 0, .int .i64 0, .int .i64 0, .slice none 0 0, .slice none 0 0] 44 (0, 0))) := (g3.block _ (by omega) (fun q => by simp at q)).trans ((BG.out.block _ (by omega)).trans KB2.out)
      have B3 : Hid (Below w.heap.size w (w2.setCell ⟨w.heap.size, 9, none⟩ (.slice none 0 0))) := (below_then B2.out BG.out).grown g3 (by omega) (fun k q => by cases q; exact Nat.le_refl _)
      have GM3 : Hid (GotM (w2.setCell ⟨w.heap.size, 9, none⟩ (.slice none 0 0)) (.slice (some bd) mv.length mc) mv) := HM1.out.step B3.out
      have KA4 : Hid ((w2.setCell ⟨w.heap.size, 9, none⟩ (.slice none 0 0)).heap[w.heap.size]? = some (.cells #[.string idn, .string ti, .int .i64 st, .int .i64 lg, .string f, .int .i64 e, .slice ra' ds.length rc', .int .i64 c, .int .i64 u, .slice none 0 0, .slice (some bd) mv.length mc] 44 (0, 0))) := m9
      have hz4 : w.heap.size + 2 ≤ (w2.setCell ⟨w.heap.size, 9, none⟩ (.slice none 0 0)).heap.size := Nat.le_trans hz3 g3.size
      clear m9 g3 hz3 KA3 OS0 BG KA2 KB2 O2 B2 GS2 GM2 hz2' x9 x10 z9 z10
      generalize (w2.setCell ⟨w.heap.size, 9, none⟩ (.slice none 0 0)) = w4 at OR3 OS3 KB3 B3 GM3 KA4 hz4 ⊢
      have x10 := (blk11 KA4.out).2.2.2.2.2.2.2.2.2.2
      have z10 := blk11_frozen KA4.out 10
      have NM : Hid (_) := gotM_news GM3.out
      go_upto_region 6 with (first | (at_builtin; refine wpList_append_own _ rfl _ _ 42 rfl (w.heap.size + 2) 72 i1 (.agg #[.int .i64 0, .int .i64 0]) 2 16 Tryz.underlying42 hi1 hy0 hy1 hy2 rfl (by decide) _ _ _ rfl (World.ownsRow_nil _ _ _ _) bd mv.length mc (mcells mv) rfl (mcells_len mv) NM.out (mcells_one mv) (by unfold maxLen; omega) (by omega) (by omega) ?_; intro v' w5 hown hgrow _; have OM0 : Hid (OwM (w.heap.size + 2) w5 v' mv) := (by show World.ownsRow _ _ _ _ _ _ _; simpa using hown); have BG : Hid (Below w4.heap.size w4 w5) := ⟨hgrow.os, hgrow.tape, hgrow.output, hgrow.size, fun k hk => hgrow.block k hk (show some k ≠ none by simp)⟩; obtain ⟨ma', mc', rfl⟩ := gotM_form (owm_movs OM0.out (by omega)).2; have KA5 : Hid (w5.heap[w.heap.size]? = some (.cells #[.string idn, .string ti, .int .i64 st, .int .i64 lg, .string f, .int .i64 e, .slice ra' ds.length rc', .int .i64 c, .int .i64 u, .slice none 0 0, .slice (some bd) mv.length mc] 44 (0, 0))) := (BG.out.block _ (by omega)).trans KA4.out; have q9 := (blk11 KA5.out).2.2.2.2.2.2.2.2.2.2; have q10 := blk11_frozen KA5.out 10; clear hown hgrow) | go_in)
      have m9 : (w5.setCell ⟨w.heap.size, 10, none⟩ (.slice ma' mv.length mc')).heap[w.heap.size]? = some (.cells #[.string idn, .string ti, .int .i64 st, .int .i64 lg, .string f, .int .i64 e, .slice ra' ds.length rc', .int .i64 c, .int .i64 u, .slice none 0 0, .slice ma' mv.length mc'] 44 (0, 0)) := set11_10 (.slice ma' mv.length mc') KA5.out
      have g3 : w5.grownBy (w5.setCell ⟨w.heap.size, 10, none⟩ (.slice ma' mv.length mc')) (some (w.heap.size)) := grown_set w5 ⟨w.heap.size, 10, none⟩ (.slice ma' mv.length mc')
      have hz5 : w.heap.size + 2 ≤ w5.heap.size := Nat.le_trans hz4 BG.out.size
      have OR5 : Hid (Ow (w.heap.size + 2) (w5.setCell ⟨w.heap.size, 10, none⟩ (.slice ma' mv.length mc')) (.slice ra' ds.length rc') ds) := Ow.grown (Ow.step OR3.out BG.out) g3 (by omega)
      have OS5 : Hid (Ow (w.heap.size + 2) (w5.setCell ⟨w.heap.size, 10, none⟩ (.slice ma' mv.length mc')) (.slice none 0 0) ([] : List Int)) := Ow.grown (Ow.step OS3.out BG.out) g3 (by omega)
      have OM5 : Hid (OwM (w.heap.size + 2) (w5.setCell ⟨w.heap.size, 10, none⟩ (.slice ma' mv.length mc')) (.slice ma' mv.length mc') mv) := OwM.grown OM0.out g3 (by omega)
      have KB5 : Hid ((w5.setCell ⟨w.heap.size, 10, none⟩ (.slice ma' mv.length mc')).heap[w.heap.size + 1]? = some (.cells #[.string ⟨#[]⟩, .string ⟨#[]⟩, .int .i64 0, .int .i64 0, .string ⟨#[]⟩, .int .i64 0, .slice none 0 0, .int .i64 0, .int .i64 0, .slice none 0 0, .slice none 0 0] 44 (0, 0))) := (g3.block _ (by omega) (fun q => by simp at q)).trans ((BG.out.block _ (by omega)).trans KB3.out)
      have B5 : Hid (Below w.heap.size w (w5.setCell ⟨w.heap.size, 10, none⟩ (.slice ma' mv.length mc'))) := (below_then B3.out BG.out).grown g3 (by omega) (fun k q => by cases q; exact Nat.le_refl _)
      have KA6 : Hid ((w5.setCell ⟨w.heap.size, 10, none⟩ (.slice ma' mv.length mc')).heap[w.heap.size]? = some (.cells #[.string idn, .string ti, .int .i64 st, .int .i64 lg, .string f, .int .i64 e, .slice ra' ds.length rc', .int .i64 c, .int .i64 u, .slice none 0 0, .slice ma' mv.length mc'] 44 (0, 0))) := m9
      have hz6 : w.heap.size + 2 ≤ (w5.setCell ⟨w.heap.size, 10, none⟩ (.slice ma' mv.length mc')).heap.size := Nat.le_trans hz5 g3.size
      clear m9 g3 hz5 KA5 OM0 BG KA4 KB3 OR3 OS3 B3 GM3 hz4 x10 z10 q9 q10 NM
      generalize (w5.setCell ⟨w.heap.size, 10, none⟩ (.slice ma' mv.length mc')) = w6 at OR5 OS5 OM5 KB5 B5 KA6 hz6 ⊢
      obtain ⟨x0, x1, x2, x3, x4, x5, x6, x7, x8, x9, x10⟩ := blk11 KA6.out
      obtain ⟨t0, t1, t2, t3, t4, t5, t6, t7, t8, t9, t10⟩ := blk11 KB5.out
      have f0 := blk11_frozen KB5.out 0
      have f1 := blk11_frozen KB5.out 1
      have f2 := blk11_frozen KB5.out 2
      have f3 := blk11_frozen KB5.out 3
      have f4 := blk11_frozen KB5.out 4
      have f5 := blk11_frozen KB5.out 5
      have f6 := blk11_frozen KB5.out 6
      have f7 := blk11_frozen KB5.out 7
      have f8 := blk11_frozen KB5.out 8
      have f9 := blk11_frozen KB5.out 9
      have f10 := blk11_frozen KB5.out 10
      go_wp2
      rw [put11_fold]
      have n10 := put11_blk (.string idn) (.string ti) (.int .i64 st) (.int .i64 lg) (.string f) (.int .i64 e) (.slice ra' ds.length rc') (.int .i64 c) (.int .i64 u) (.slice none 0 0) (.slice ma' mv.length mc') KB5.out
      have g7 := put11_grown w6 (w.heap.size + 1) (.string idn) (.string ti) (.int .i64 st) (.int .i64 lg) (.string f) (.int .i64 e) (.slice ra' ds.length rc') (.int .i64 c) (.int .i64 u) (.slice none 0 0) (.slice ma' mv.length mc')
      clear x0 x1 x2 x3 x4 x5 x6 x7 x8 x9 x10 t0 t1 t2 t3 t4 t5 t6 t7 t8 t9 t10 f0 f1 f2 f3 f4 f5 f6 f7 f8 f9 f10
      generalize put11 w6 (w.heap.size + 1) (.string idn) (.string ti) (.int .i64 st) (.int .i64 lg) (.string f) (.int .i64 e) (.slice ra' ds.length rc') (.int .i64 c) (.int .i64 u) (.slice none 0 0) (.slice ma' mv.length mc') = w7 at n10 g7 ⊢
      obtain ⟨c0, c1, c2, c3, c4, c5, c6, c7, c8, c9, c10⟩ := blk11 n10
      have o1 := Ow.grown OR5.out g7 (by omega)
      have o2 := Ow.grown OS5.out g7 (by omega)
      have o3 := OwM.grown OM5.out g7 (by omega)
      refine bodyPost_ret (v := .agg #[.string idn, .string ti, .int .i64 st, .int .i64 lg, .string f, .int .i64 e, .slice ra' ds.length rc', .int .i64 c, .int .i64 u, .slice none 0 0, .slice ma' mv.length mc']) (by simp [results, Tryz.f18, go_sem, c0, c1, c2, c3, c4, c5, c6, c7, c8, c9, c10]) rfl ⟨_, _, _, rfl, ⟨ow_days o1 h20, ow_ints (ds := ([] : List Int)) o2 (by first | omega | simp), (owm_movs (ms := mv) o3 (by first | omega | simp)).1, ow_got o1, ow_got o2, (owm_movs (ms := mv) o3 (by first | omega | simp)).2⟩, B5.out.grown g7 (by omega) (fun k q => by cases q; omega)⟩
  | some ad =>
    cases ma with
    | none =>
      obtain ⟨h0, rfl⟩ : mv = [] ∧ mc = 0 := by obtain ⟨a', c', e1, e2, _⟩ := HM1.out; cases e1; exact ⟨List.length_eq_zero_iff.1 (e2 rfl).1, (e2 rfl).2⟩
      subst h0
      simp only [List.length_nil] at *
      have NS : Hid (_) := got_news GS2.out
      have hsl : (sk.length : Nat) ≤ 30 := hs25
      go_upto_region 5 with (first | (at_builtin; refine wpList_append_own _ rfl _ _ 39 rfl (w.heap.size + 2) 3 i0 (.int .i64 0) 1 8 Tryz.underlying39 hi hz0 hz1 hz2 rfl (by decide) _ _ _ rfl (World.ownsRow_nil _ _ _ _) ad sk.length sc (sk.map (Value.int .i64)) rfl (by simp) NS.out (fun v hv => by obtain ⟨x, _, rfl⟩ := List.mem_map.1 hv; rfl) (by unfold maxLen; omega) (by omega) (by omega) ?_; intro v' w3 hown hgrow _; have OS0 : Hid (Ow (w.heap.size + 2) w3 v' sk) := (by show World.ownsRow _ _ _ _ _ _ _; simpa using hown); have BG : Hid (Below w2.heap.size w2 w3) := ⟨hgrow.os, hgrow.tape, hgrow.output, hgrow.size, fun k hk => hgrow.block k hk (show some k ≠ none by simp)⟩; obtain ⟨sa', sc', rfl⟩ := ow_form OS0.out; have KA3 : Hid (w3.heap[w.heap.size]? = some (.cells #[.string idn, .string ti, .int .i64 st, .int .i64 lg, .string f, .int .i64 e, .slice ra' ds.length rc', .int .i64 c, .int .i64 u, .slice (some ad) sk.length sc, .slice none 0 0] 44 (0, 0))) := (BG.out.block _ (by omega)).trans KA2.out; have q9 := (blk11 KA3.out).2.2.2.2.2.2.2.2.2.1; have q10 := blk11_frozen KA3.out 9; clear hown hgrow) | go_in)
      have m9 : (w3.setCell ⟨w.heap.size, 9, none⟩ (.slice sa' sk.length sc')).heap[w.heap.size]? = some (.cells #[.string idn, .string ti, .int .i64 st, .int .i64 lg, .string f, .int .i64 e, .slice ra' ds.length rc', .int .i64 c, .int .i64 u, .slice sa' sk.length sc', .slice none 0 0] 44 (0, 0)) := set11_9 (.slice sa' sk.length sc') KA3.out
      have g3 : w3.grownBy (w3.setCell ⟨w.heap.size, 9, none⟩ (.slice sa' sk.length sc')) (some (w.heap.size)) := grown_set w3 ⟨w.heap.size, 9, none⟩ (.slice sa' sk.length sc')
      have hz3 : w.heap.size + 2 ≤ w3.heap.size := Nat.le_trans hz2' BG.out.size
      have OR3 : Hid (Ow (w.heap.size + 2) (w3.setCell ⟨w.heap.size, 9, none⟩ (.slice sa' sk.length sc')) (.slice ra' ds.length rc') ds) := Ow.grown (Ow.step O2.out BG.out) g3 (by omega)
      have OS3 : Hid (Ow (w.heap.size + 2) (w3.setCell ⟨w.heap.size, 9, none⟩ (.slice sa' sk.length sc')) (.slice sa' sk.length sc') sk) := Ow.grown OS0.out g3 (by omega)
      have KB3 : Hid ((w3.setCell ⟨w.heap.size, 9, none⟩ (.slice sa' sk.length sc')).heap[w.heap.size + 1]? = some (.cells #[.string ⟨#[]⟩, .string ⟨#[]⟩, .int .i64 0, .int .i64 0, .string ⟨#[]⟩, .int .i64 0, .slice none 0 0, .int .i64 0, .int .i64 0, .slice none 0 0, .slice none 0 0] 44 (0, 0))) := (g3.block _ (by omega) (fun q => by simp at q)).trans ((BG.out.block _ (by omega)).trans KB2.out)
      have B3 : Hid (Below w.heap.size w (w3.setCell ⟨w.heap.size, 9, none⟩ (.slice sa' sk.length sc'))) := (below_then B2.out BG.out).grown g3 (by omega) (fun k q => by cases q; exact Nat.le_refl _)
      have GM3 : Hid (GotM (w3.setCell ⟨w.heap.size, 9, none⟩ (.slice sa' sk.length sc')) (.slice none 0 0) []) := HM1.out.step B3.out
      have KA4 : Hid ((w3.setCell ⟨w.heap.size, 9, none⟩ (.slice sa' sk.length sc')).heap[w.heap.size]? = some (.cells #[.string idn, .string ti, .int .i64 st, .int .i64 lg, .string f, .int .i64 e, .slice ra' ds.length rc', .int .i64 c, .int .i64 u, .slice sa' sk.length sc', .slice none 0 0] 44 (0, 0))) := m9
      have hz4 : w.heap.size + 2 ≤ (w3.setCell ⟨w.heap.size, 9, none⟩ (.slice sa' sk.length sc')).heap.size := Nat.le_trans hz3 g3.size
      clear m9 g3 hz3 KA3 OS0 BG KA2 KB2 O2 B2 GS2 GM2 hz2' x9 x10 z9 z10 q9 q10 NS
      generalize (w3.setCell ⟨w.heap.size, 9, none⟩ (.slice sa' sk.length sc')) = w4 at OR3 OS3 KB3 B3 GM3 KA4 hz4 ⊢
      have x10 := (blk11 KA4.out).2.2.2.2.2.2.2.2.2.2
      have z10 := blk11_frozen KA4.out 10
      have OM0 : Hid (OwM (w.heap.size + 2) w4 (.slice none 0 0) ([] : List (Int × Int))) := World.ownsRow_nil _ _ _ _
      have BG : Hid (Below w4.heap.size w4 w4) := Below.refl _ _
      have KA5 : Hid (w4.heap[w.heap.size]? = some (.cells #[.string idn, .string ti, .int .i64 st, .int .i64 lg, .string f, .int .i64 e, .slice ra' ds.length rc', .int .i64 c, .int .i64 u, .slice sa' sk.length sc', .slice none 0 0] 44 (0, 0))) := KA4.out
      go_upto_region 6 with (fail)
      have m9 : (w4.setCell ⟨w.heap.size, 10, none⟩ (.slice none 0 0)).heap[w.heap.size]? = some (.cells #[.string idn, .string ti, .int .i64 st, .int .i64 lg, .string f, .int .i64 e, .slice ra' ds.length rc', .int .i64 c, .int .i64 u, .slice sa' sk.length sc', .slice none 0 0] 44 (0, 0)) := set11_10 (.slice none 0 0) KA5.out
      have g3 : w4.grownBy (w4.setCell ⟨w.heap.size, 10, none⟩ (.slice none 0 0)) (some (w.heap.size)) := grown_set w4 ⟨w.heap.size, 10, none⟩ (.slice none 0 0)
      have hz5 : w.heap.size + 2 ≤ w4.heap.size := Nat.le_trans hz4 BG.out.size
      have OR5 : Hid (Ow (w.heap.size + 2) (w4.setCell ⟨w.heap.size, 10, none⟩ (.slice none 0 0)) (.slice ra' ds.length rc') ds) := Ow.grown (Ow.step OR3.out BG.out) g3 (by omega)
      have OS5 : Hid (Ow (w.heap.size + 2) (w4.setCell ⟨w.heap.size, 10, none⟩ (.slice none 0 0)) (.slice sa' sk.length sc') sk) := Ow.grown (Ow.step OS3.out BG.out) g3 (by omega)
      have OM5 : Hid (OwM (w.heap.size + 2) (w4.setCell ⟨w.heap.size, 10, none⟩ (.slice none 0 0)) (.slice none 0 0) ([] : List (Int × Int))) := OwM.grown OM0.out g3 (by omega)
      have KB5 : Hid ((w4.setCell ⟨w.heap.size, 10, none⟩ (.slice none 0 0)).heap[w.heap.size + 1]? = some (.cells #[.string ⟨#[]⟩, .string ⟨#[]⟩, .int .i64 0, .int .i64 0, .string ⟨#[]⟩, .int .i64 0, .slice none 0 0, .int .i64 0, .int .i64 0, .slice none 0 0, .slice none 0 0] 44 (0, 0))) := (g3.block _ (by omega) (fun q => by simp at q)).trans ((BG.out.block _ (by omega)).trans KB3.out)
      have B5 : Hid (Below w.heap.size w (w4.setCell ⟨w.heap.size, 10, none⟩ (.slice none 0 0))) := (below_then B3.out BG.out).grown g3 (by omega) (fun k q => by cases q; exact Nat.le_refl _)
      have KA6 : Hid ((w4.setCell ⟨w.heap.size, 10, none⟩ (.slice none 0 0)).heap[w.heap.size]? = some (.cells #[.string idn, .string ti, .int .i64 st, .int .i64 lg, .string f, .int .i64 e, .slice ra' ds.length rc', .int .i64 c, .int .i64 u, .slice sa' sk.length sc', .slice none 0 0] 44 (0, 0))) := m9
      have hz6 : w.heap.size + 2 ≤ (w4.setCell ⟨w.heap.size, 10, none⟩ (.slice none 0 0)).heap.size := Nat.le_trans hz5 g3.size
      clear m9 g3 hz5 KA5 OM0 BG KA4 KB3 OR3 OS3 B3 GM3 hz4 x10 z10
      generalize (w4.setCell ⟨w.heap.size, 10, none⟩ (.slice none 0 0)) = w6 at OR5 OS5 OM5 KB5 B5 KA6 hz6 ⊢
      obtain ⟨x0, x1, x2, x3, x4, x5, x6, x7, x8, x9, x10⟩ := blk11 KA6.out
      obtain ⟨t0, t1, t2, t3, t4, t5, t6, t7, t8, t9, t10⟩ := blk11 KB5.out
      have f0 := blk11_frozen KB5.out 0
      have f1 := blk11_frozen KB5.out 1
      have f2 := blk11_frozen KB5.out 2
      have f3 := blk11_frozen KB5.out 3
      have f4 := blk11_frozen KB5.out 4
      have f5 := blk11_frozen KB5.out 5
      have f6 := blk11_frozen KB5.out 6
      have f7 := blk11_frozen KB5.out 7
      have f8 := blk11_frozen KB5.out 8
      have f9 := blk11_frozen KB5.out 9
      have f10 := blk11_frozen KB5.out 10
      go_wp2
      rw [put11_fold]
      have n10 := put11_blk (.string idn) (.string ti) (.int .i64 st) (.int .i64 lg) (.string f) (.int .i64 e) (.slice ra' ds.length rc') (.int .i64 c) (.int .i64 u) (.slice sa' sk.length sc') (.slice none 0 0) KB5.out
      have g7 := put11_grown w6 (w.heap.size + 1) (.string idn) (.string ti) (.int .i64 st) (.int .i64 lg) (.string f) (.int .i64 e) (.slice ra' ds.length rc') (.int .i64 c) (.int .i64 u) (.slice sa' sk.length sc') (.slice none 0 0)
      clear x0 x1 x2 x3 x4 x5 x6 x7 x8 x9 x10 t0 t1 t2 t3 t4 t5 t6 t7 t8 t9 t10 f0 f1 f2 f3 f4 f5 f6 f7 f8 f9 f10
      generalize put11 w6 (w.heap.size + 1) (.string idn) (.string ti) (.int .i64 st) (.int .i64 lg) (.string f) (.int .i64 e) (.slice ra' ds.length rc') (.int .i64 c) (.int .i64 u) (.slice sa' sk.length sc') (.slice none 0 0) = w7 at n10 g7 ⊢
      obtain ⟨c0, c1, c2, c3, c4, c5, c6, c7, c8, c9, c10⟩ := blk11 n10
      have o1 := Ow.grown OR5.out g7 (by omega)
      have o2 := Ow.grown OS5.out g7 (by omega)
      have o3 := OwM.grown OM5.out g7 (by omega)
      refine bodyPost_ret (v := .agg #[.string idn, .string ti, .int .i64 st, .int .i64 lg, .string f, .int .i64 e, .slice ra' ds.length rc', .int .i64 c, .int .i64 u, .slice sa' sk.length sc', .slice none 0 0]) (by simp [results, Tryz.f18, go_sem, c0, c1, c2, c3, c4, c5, c6, c7, c8, c9, c10]) rfl ⟨_, _, _, rfl, ⟨ow_days o1 h20, ow_ints (ds := sk) o2 (by first | omega | simp), (owm_movs (ms := ([] : List (Int × Int))) o3 (by first | omega | simp)).1, ow_got o1, ow_got o2, (owm_movs (ms := ([] : List (Int × Int))) o3 (by first | omega | simp)).2⟩, B5.out.grown g7 (by omega) (fun k q => by cases q; omega)⟩
    | some bd =>
      have NS : Hid (_) := got_news GS2.out
      have hsl : (sk.length : Nat) ≤ 30 := hs25
      go_upto_region 5 with (first | (at_builtin; refine wpList_append_own _ rfl _ _ 39 rfl (w.heap.size + 2) 3 i0 (.int .i64 0) 1 8 Tryz.underlying39 hi hz0 hz1 hz2 rfl (by decide) _ _ _ rfl (World.ownsRow_nil _ _ _ _) ad sk.length sc (sk.map (Value.int .i64)) rfl (by simp) NS.out (fun v hv => by obtain ⟨x, _, rfl⟩ := List.mem_map.1 hv; rfl) (by unfold maxLen; omega) (by omega) (by omega) ?_; intro v' w3 hown hgrow _; have OS0 : Hid (Ow (w.heap.size + 2) w3 v' sk) := (by show World.ownsRow _ _ _ _ _ _ _; simpa using hown); have BG : Hid (Below w2.heap.size w2 w3) := ⟨hgrow.os, hgrow.tape, hgrow.output, hgrow.size, fun k hk => hgrow.block k hk (show some k ≠ none by simp)⟩; obtain ⟨sa', sc', rfl⟩ := ow_form OS0.out; have KA3 : Hid (w3.heap[w.heap.size]? = some (.cells #[.string idn, .string ti, .int .i64 st, .int .i64 lg, .string f, .int .i64 e, .slice ra' ds.length rc', .int .i64 c, .int .i64 u, .slice (some ad) sk.length sc, .slice (some bd) mv.length mc] 44 (0, 0))) := (BG.out.block _ (by omega)).trans KA2.out; have q9 := (blk11 KA3.out).2.2.2.2.2.2.2.2.2.1; have q10 := blk11_frozen KA3.out 9; clear hown hgrow) | go_in)
      have m9 : (w3.setCell ⟨w.heap.size, 9, none⟩ (.slice sa' sk.length sc')).heap[w.heap.size]? = some (.cells #[.string idn, .string ti, .int .i64 st, .int .i64 lg, .string f, .int .i64 e, .slice ra' ds.length rc', .int .i64 c, .int .i64 u, .slice sa' sk.length sc', .slice (some bd) mv.length mc] 44 (0, 0)) := set11_9 (.slice sa' sk.length sc') KA3.out
      have g3 : w3.grownBy (w3.setCell ⟨w.heap.size, 9, none⟩ (.slice sa' sk.length sc')) (some (w.heap.size)) := grown_set w3 ⟨w.heap.size, 9, none⟩ (.slice sa' sk.length sc')
      have hz3 : w.heap.size + 2 ≤ w3.heap.size := Nat.le_trans hz2' BG.out.size
      have OR3 : Hid (Ow (w.heap.size + 2) (w3.setCell ⟨w.heap.size, 9, none⟩ (.slice sa' sk.length sc')) (.slice ra' ds.length rc') ds) := Ow.grown (Ow.step O2.out BG.out) g3 (by omega)
      have OS3 : Hid (Ow (w.heap.size + 2) (w3.setCell ⟨w.heap.size, 9, none⟩ (.slice sa' sk.length sc')) (.slice sa' sk.length sc') sk) := Ow.grown OS0.out g3 (by omega)
      have KB3 : Hid ((w3.setCell ⟨w.heap.size, 9, none⟩ (.slice sa' sk.length sc')).heap[w.heap.size + 1]? = some (.cells #[.string ⟨#[]⟩, .string ⟨#[]⟩, .int .i64 0, .int .i64 0, .string ⟨#[]⟩, .int .i64 0, .slice none 0 0, .int .i64 0, .int .i64 0, .slice none 0 0, .slice none 0 0] 44 (0, 0))) := (g3.block _ (by omega) (fun q => by simp at q)).trans ((BG.out.block _ (by omega)).trans KB2.out)
      have B3 : Hid (Below w.heap.size w (w3.setCell ⟨w.heap.size, 9, none⟩ (.slice sa' sk.length sc'))) := (below_then B2.out BG.out).grown g3 (by omega) (fun k q => by cases q; exact Nat.le_refl _)
      have GM3 : Hid (GotM (w3.setCell ⟨w.heap.size, 9, none⟩ (.slice sa' sk.length sc')) (.slice (some bd) mv.length mc) mv) := HM1.out.step B3.out
      have KA4 : Hid ((w3.setCell ⟨w.heap.size, 9, none⟩ (.slice sa' sk.length sc')).heap[w.heap.size]? = some (.cells #[.string idn, .string ti, .int .i64 st, .int .i64 lg, .string f, .int .i64 e, .slice ra' ds.length rc', .int .i64 c, .int .i64 u, .slice sa' sk.length sc', .slice (some bd) mv.length mc] 44 (0, 0))) := m9
      have hz4 : w.heap.size + 2 ≤ (w3.setCell ⟨w.heap.size, 9, none⟩ (.slice sa' sk.length sc')).heap.size := Nat.le_trans hz3 g3.size
      clear m9 g3 hz3 KA3 OS0 BG KA2 KB2 O2 B2 GS2 GM2 hz2' x9 x10 z9 z10 q9 q10 NS
      generalize (w3.setCell ⟨w.heap.size, 9, none⟩ (.slice sa' sk.length sc')) = w4 at OR3 OS3 KB3 B3 GM3 KA4 hz4 ⊢
      have x10 := (blk11 KA4.out).2.2.2.2.2.2.2.2.2.2
      have z10 := blk11_frozen KA4.out 10
      have NM : Hid (_) := gotM_news GM3.out
      go_upto_region 6 with (first | (at_builtin; refine wpList_append_own _ rfl _ _ 42 rfl (w.heap.size + 2) 72 i1 (.agg #[.int .i64 0, .int .i64 0]) 2 16 Tryz.underlying42 hi1 hy0 hy1 hy2 rfl (by decide) _ _ _ rfl (World.ownsRow_nil _ _ _ _) bd mv.length mc (mcells mv) rfl (mcells_len mv) NM.out (mcells_one mv) (by unfold maxLen; omega) (by omega) (by omega) ?_; intro v' w5 hown hgrow _; have OM0 : Hid (OwM (w.heap.size + 2) w5 v' mv) := (by show World.ownsRow _ _ _ _ _ _ _; simpa using hown); have BG : Hid (Below w4.heap.size w4 w5) := ⟨hgrow.os, hgrow.tape, hgrow.output, hgrow.size, fun k hk => hgrow.block k hk (show some k ≠ none by simp)⟩; obtain ⟨ma', mc', rfl⟩ := gotM_form (owm_movs OM0.out (by omega)).2; have KA5 : Hid (w5.heap[w.heap.size]? = some (.cells #[.string idn, .string ti, .int .i64 st, .int .i64 lg, .string f, .int .i64 e, .slice ra' ds.length rc', .int .i64 c, .int .i64 u, .slice sa' sk.length sc', .slice (some bd) mv.length mc] 44 (0, 0))) := (BG.out.block _ (by omega)).trans KA4.out; have q9 := (blk11 KA5.out).2.2.2.2.2.2.2.2.2.2; have q10 := blk11_frozen KA5.out 10; clear hown hgrow) | go_in)
      have m9 : (w5.setCell ⟨w.heap.size, 10, none⟩ (.slice ma' mv.length mc')).heap[w.heap.size]? = some (.cells #[.string idn, .string ti, .int .i64 st, .int .i64 lg, .string f, .int .i64 e, .slice ra' ds.length rc', .int .i64 c, .int .i64 u, .slice sa' sk.length sc', .slice ma' mv.length mc'] 44 (0, 0)) := set11_10 (.slice ma' mv.length mc') KA5.out
      have g3 : w5.grownBy (w5.setCell ⟨w.heap.size, 10, none⟩ (.slice ma' mv.length mc')) (some (w.heap.size)) := grown_set w5 ⟨w.heap.size, 10, none⟩ (.slice ma' mv.length mc')
      have hz5 : w.heap.size + 2 ≤ w5.heap.size := Nat.le_trans hz4 BG.out.size
      have OR5 : Hid (Ow (w.heap.size + 2) (w5.setCell ⟨w.heap.size, 10, none⟩ (.slice ma' mv.length mc')) (.slice ra' ds.length rc') ds) := Ow.grown (Ow.step OR3.out BG.out) g3 (by omega)
      have OS5 : Hid (Ow (w.heap.size + 2) (w5.setCell ⟨w.heap.size, 10, none⟩ (.slice ma' mv.length mc')) (.slice sa' sk.length sc') sk) := Ow.grown (Ow.step OS3.out BG.out) g3 (by omega)
      have OM5 : Hid (OwM (w.heap.size + 2) (w5.setCell ⟨w.heap.size, 10, none⟩ (.slice ma' mv.length mc')) (.slice ma' mv.length mc') mv) := OwM.grown OM0.out g3 (by omega)
      have KB5 : Hid ((w5.setCell ⟨w.heap.size, 10, none⟩ (.slice ma' mv.length mc')).heap[w.heap.size + 1]? = some (.cells #[.string ⟨#[]⟩, .string ⟨#[]⟩, .int .i64 0, .int .i64 0, .string ⟨#[]⟩, .int .i64 0, .slice none 0 0, .int .i64 0, .int .i64 0, .slice none 0 0, .slice none 0 0] 44 (0, 0))) := (g3.block _ (by omega) (fun q => by simp at q)).trans ((BG.out.block _ (by omega)).trans KB3.out)
      have B5 : Hid (Below w.heap.size w (w5.setCell ⟨w.heap.size, 10, none⟩ (.slice ma' mv.length mc'))) := (below_then B3.out BG.out).grown g3 (by omega) (fun k q => by cases q; exact Nat.le_refl _)
      have KA6 : Hid ((w5.setCell ⟨w.heap.size, 10, none⟩ (.slice ma' mv.length mc')).heap[w.heap.size]? = some (.cells #[.string idn, .string ti, .int .i64 st, .int .i64 lg, .string f, .int .i64 e, .slice ra' ds.length rc', .int .i64 c, .int .i64 u, .slice sa' sk.length sc', .slice ma' mv.length mc'] 44 (0, 0))) := m9
      have hz6 : w.heap.size + 2 ≤ (w5.setCell ⟨w.heap.size, 10, none⟩ (.slice ma' mv.length mc')).heap.size := Nat.le_trans hz5 g3.size
      clear m9 g3 hz5 KA5 OM0 BG KA4 KB3 OR3 OS3 B3 GM3 hz4 x10 z10 q9 q10 NM
      generalize (w5.setCell ⟨w.heap.size, 10, none⟩ (.slice ma' mv.length mc')) = w6 at OR5 OS5 OM5 KB5 B5 KA6 hz6 ⊢
      obtain ⟨x0, x1, x2, x3, x4, x5, x6, x7, x8, x9, x10⟩ := blk11 KA6.out
      obtain ⟨t0, t1, t2, t3, t4, t5, t6, t7, t8, t9, t10⟩ := blk11 KB5.out
      have f0 := blk11_frozen KB5.out 0
      have f1 := blk11_frozen KB5.out 1
      have f2 := blk11_frozen KB5.out 2
      have f3 := blk11_frozen KB5.out 3
      have f4 := blk11_frozen KB5.out 4
      have f5 := blk11_frozen KB5.out 5
      have f6 := blk11_frozen KB5.out 6
      have f7 := blk11_frozen KB5.out 7
      have f8 := blk11_frozen KB5.out 8
      have f9 := blk11_frozen KB5.out 9
      have f10 := blk11_frozen KB5.out 10
      go_wp2
      rw [put11_fold]
      have n10 := put11_blk (.string idn) (.string ti) (.int .i64 st) (.int .i64 lg) (.string f) (.int .i64 e) (.slice ra' ds.length rc') (.int .i64 c) (.int .i64 u) (.slice sa' sk.length sc') (.slice ma' mv.length mc') KB5.out
      have g7 := put11_grown w6 (w.heap.size + 1) (.string idn) (.string ti) (.int .i64 st) (.int .i64 lg) (.string f) (.int .i64 e) (.slice ra' ds.length rc') (.int .i64 c) (.int .i64 u) (.slice sa' sk.length sc') (.slice ma' mv.length mc')
      clear x0 x1 x2 x3 x4 x5 x6 x7 x8 x9 x10 t0 t1 t2 t3 t4 t5 t6 t7 t8 t9 t10 f0 f1 f2 f3 f4 f5 f6 f7 f8 f9 f10
      generalize put11 w6 (w.heap.size + 1) (.string idn) (.string ti) (.int .i64 st) (.int .i64 lg) (.string f) (.int .i64 e) (.slice ra' ds.length rc') (.int .i64 c) (.int .i64 u) (.slice sa' sk.length sc') (.slice ma' mv.length mc') = w7 at n10 g7 ⊢
      obtain ⟨c0, c1, c2, c3, c4, c5, c6, c7, c8, c9, c10⟩ := blk11 n10
      have o1 := Ow.grown OR5.out g7 (by omega)
      have o2 := Ow.grown OS5.out g7 (by omega)
      have o3 := OwM.grown OM5.out g7 (by omega)
      refine bodyPost_ret (v := .agg #[.string idn, .string ti, .int .i64 st, .int .i64 lg, .string f, .int .i64 e, .slice ra' ds.length rc', .int .i64 c, .int .i64 u, .slice sa' sk.length sc', .slice ma' mv.length mc']) (by simp [results, Tryz.f18, go_sem, c0, c1, c2, c3, c4, c5, c6, c7, c8, c9, c10]) rfl ⟨_, _, _, rfl, ⟨ow_days o1 h20, ow_ints (ds := sk) o2 (by first | omega | simp), (owm_movs (ms := mv) o3 (by first | omega | simp)).1, ow_got o1, ow_got o2, (owm_movs (ms := mv) o3 (by first | omega | simp)).2⟩, B5.out.grown g7 (by omega) (fun k q => by cases q; omega)⟩
end Go.Proofs.YtekminpoiokgfaaGreatDoor
