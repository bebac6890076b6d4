/- slices.Clone of moves; package event's Copy. -/
import Derived.Test.YtbhfnloheijhdaaGreatDoorJhAH
import Derived.Maps.OwnSet
import Derived.Maps.OwnOps
namespace Go.Proofs.YtbhfnloheijhdaaGreatDoor
open Go Go.RowKit Cal
attribute [local go_sem] Oper.semAt_some

set_option maxHeartbeats 2000000 in
set_option maxRecDepth 100000 in
theorem cloneM_any (ms : List (Int × Int)) (sl : Value) (w : World) (hd : Movs w sl ms) (h30 : ms.length ≤ 60) :
    Calls Tryz.prog 94 #[sl] w fun r w' => ∃ v, r = .returned v ∧ OwM w.heap.size w' v ms ∧ Below w.heap.size w w' := by
  obtain ⟨a, cap, rfl, _, hcap, hc⟩ := hd
  obtain ⟨i1, hi1, hy0, hy1, hy2⟩ := info_parts info_move
  have q22 : ∀ (w : World) (a : Option Addr) (n c n' c' : Nat), (binOp .eql 25 (.slice a n c) (.slice none n' c')).run Tryz.prog w = .ok (.bool a.isNone) w := fun w a n c n' c' => Lib.run_eql_slice_nil w _ _ a n c n' c' Tryz.underlying25
  cases a with
  | none =>
    have h0 : ms = [] := by
      cases ms with
      | nil => rfl
      | cons x r => obtain ⟨b, e, _⟩ := hc 0 (by simp); cases e
    subst h0
    clear hc
    go_enter Tryz.func94, Tryz.ntmps94
    go_wp2
    go_ret
    exact ⟨_, rfl, World.ownsRow_nil _ _ _ _, Below.refl _ _⟩
  | some ad =>
    have HC : Hid (∀ (j : Nat) (v : Value), (mcells ms)[j]? = some v → (w.alloc (.cells #[] 79)).cell? (ad.add j) = some v) := mcells_of ms (fun i u => (w.alloc (.cells #[] 79)).cell? (ad.add i) = some u) (fun j hj => by
      obtain ⟨b, e, hl, hcc, hcd⟩ := hc j hj
      cases e
      rw [Addr.add_lit, Addr.add_lit, Nat.zero_add, Nat.zero_add]
      exact ⟨cell_alloc _ hcc, cell_alloc _ hcd⟩)
    clear hc
    go_enter Tryz.func94, Tryz.ntmps94
    go_wp2_with (at_builtin; refine wpList_append_own _ rfl _ _ 25 rfl w.heap.size 79 i1 (.agg #[.int .i64 0, .int .i64 0]) 2 16 Tryz.underlying25 hi1 hy0 hy1 hy2 rfl (by decide) _ _ _ rfl (World.ownsRow_made w #[] 0 (Nat.le_refl _) (Nat.zero_le _) rfl) ad ms.length cap (mcells ms) rfl (mcells_len ms) HC.out (mcells_one ms) (by unfold maxLen; omega) (by omega) (by simp) ?_; intro v' w1 hown hgrow _)
    have OW : Hid (OwM w.heap.size w1 v' ms) := by
      show World.ownsRow _ _ _ _ _ _ _
      simpa using hown
    have HB : Hid (Below w.heap.size w w1) := (below_alloc w (.cells #[] 79)).grown (show (w.alloc (.cells #[] 79)).grownBy w1 (Value.slice (some ⟨w.heap.size, 0, none⟩) 0 0).ownBlock from hgrow) (by simp) (fun k q => (World.ownsRow.lt (World.ownsRow_made (e := 79) (size := 2) w #[] 0 (Nat.le_refl _) (Nat.zero_le _) rfl) k q).1)
    obtain ⟨va, vc, rfl⟩ := gotM_form (owm_movs OW.out (by omega)).2
    clear hown hgrow HC
    go_wp2
    go_ret
    exact ⟨_, rfl, OW.out, HB.out⟩

/-- an event's lists, to read -/
structure Ls (W : World) (E : EV) (sl skv mvv : Value) : Prop where
  d : Days W sl E.ds
  s : Ints W skv E.sk
  m : Movs W mvv E.mv
theorem Ls.step {W W' : World} {E : EV} {sl skv mvv : Value} (h : Ls W E sl skv mvv) (hb : Below W.heap.size W W') : Ls W' E sl skv mvv := ⟨h.d.step hb, h.s.step hb, h.m.step hb⟩

set_option maxHeartbeats 4000000 in
set_option maxRecDepth 100000 in
theorem copy_any (E : EV) (sl skv mvv : Value) (w : World) (hL : Ls w E sl skv mvv) (k20 : E.sk.length ≤ 20) (m20 : E.mv.length ≤ 20) :
    Calls Tryz.prog 47 #[ev E sl skv mvv] w fun r w' => ∃ sl' skv' mvv', r = .returned (ev E sl' skv' mvv') ∧ Ow w.heap.size w' sl' E.ds ∧ Ow w.heap.size w' skv' E.sk ∧ OwM w.heap.size w' mvv' E.mv ∧ Below w.heap.size w w' := by
  obtain ⟨hd, hs, hm⟩ := hL
  have h20 : E.ds.length ≤ 20 := by obtain ⟨_, _, _, h, _⟩ := hd; exact h
  have HD : Hid (Days w sl E.ds) := hd
  have HS : Hid (Ints w skv E.sk) := hs
  have HM : Hid (Movs w mvv E.mv) := hm
  obtain ⟨ra, rc, rfl, _⟩ := hd
  obtain ⟨sa, sc, rfl, _⟩ := hs
  obtain ⟨ma, mc, rfl, _⟩ := hm
  obtain ⟨idn, ti, st, lg, f, e, ds, c, u, sk, mv⟩ := E
  unfold ev
  dsimp only at *
  have hA := below_box2 w (.cells #[.string idn, .string ti, .int .i64 st, .int .i64 lg, .string f, .int .i64 e, .slice ra ds.length rc, .int .i64 c, .int .i64 u, .slice sa sk.length sc, .slice ma mv.length mc] 27) (.cells #[.string ⟨#[]⟩, .string ⟨#[]⟩, .int .i64 0, .int .i64 0, .string ⟨#[]⟩, .int .i64 0, .slice none 0 0, .int .i64 0, .int .i64 0, .slice none 0 0, .slice none 0 0] 27)
  have k0 : ((w.alloc (.cells #[.string idn, .string ti, .int .i64 st, .int .i64 lg, .string f, .int .i64 e, .slice ra ds.length rc, .int .i64 c, .int .i64 u, .slice sa sk.length sc, .slice ma mv.length mc] 27)).alloc (.cells #[.string ⟨#[]⟩, .string ⟨#[]⟩, .int .i64 0, .int .i64 0, .string ⟨#[]⟩, .int .i64 0, .slice none 0 0, .int .i64 0, .int .i64 0, .slice none 0 0, .slice none 0 0] 27)).heap[w.heap.size]? = some (.cells #[.string idn, .string ti, .int .i64 st, .int .i64 lg, .string f, .int .i64 e, .slice ra ds.length rc, .int .i64 c, .int .i64 u, .slice sa sk.length sc, .slice ma mv.length mc] 27 (0, 0)) := block_alloc _ (block_at _ rfl)
  have k1 : ((w.alloc (.cells #[.string idn, .string ti, .int .i64 st, .int .i64 lg, .string f, .int .i64 e, .slice ra ds.length rc, .int .i64 c, .int .i64 u, .slice sa sk.length sc, .slice ma mv.length mc] 27)).alloc (.cells #[.string ⟨#[]⟩, .string ⟨#[]⟩, .int .i64 0, .int .i64 0, .string ⟨#[]⟩, .int .i64 0, .slice none 0 0, .int .i64 0, .int .i64 0, .slice none 0 0, .slice none 0 0] 27)).heap[w.heap.size + 1]? = some (.cells #[.string ⟨#[]⟩, .string ⟨#[]⟩, .int .i64 0, .int .i64 0, .string ⟨#[]⟩, .int .i64 0, .slice none 0 0, .int .i64 0, .int .i64 0, .slice none 0 0, .slice none 0 0] 27 (0, 0)) := block_at _ (by simp)
  have hz : ((w.alloc (.cells #[.string idn, .string ti, .int .i64 st, .int .i64 lg, .string f, .int .i64 e, .slice ra ds.length rc, .int .i64 c, .int .i64 u, .slice sa sk.length sc, .slice ma mv.length mc] 27)).alloc (.cells #[.string ⟨#[]⟩, .string ⟨#[]⟩, .int .i64 0, .int .i64 0, .string ⟨#[]⟩, .int .i64 0, .slice none 0 0, .int .i64 0, .int .i64 0, .slice none 0 0, .slice none 0 0] 27)).heap.size = w.heap.size + 2 := by simp
  have C1 := cloneI_any ds _ _ (HD.out.step hA)
  have HA : Hid (_) := hA
  have HZ : Hid (_) := hz
  clear hA hz
  generalize hw0 : (w.alloc (.cells #[.string idn, .string ti, .int .i64 st, .int .i64 lg, .string f, .int .i64 e, .slice ra ds.length rc, .int .i64 c, .int .i64 u, .slice sa sk.length sc, .slice ma mv.length mc] 27)).alloc (.cells #[.string ⟨#[]⟩, .string ⟨#[]⟩, .int .i64 0, .int .i64 0, .string ⟨#[]⟩, .int .i64 0, .slice none 0 0, .int .i64 0, .int .i64 0, .slice none 0 0, .slice none 0 0] 27) = w0 at HA k0 k1 HZ C1
  have KA : Hid (w0.heap[w.heap.size]? = some (.cells #[.string idn, .string ti, .int .i64 st, .int .i64 lg, .string f, .int .i64 e, .slice ra ds.length rc, .int .i64 c, .int .i64 u, .slice sa sk.length sc, .slice ma mv.length mc] 27 (0, 0))) := k0
  have KB : Hid (w0.heap[w.heap.size + 1]? = some (.cells #[.string ⟨#[]⟩, .string ⟨#[]⟩, .int .i64 0, .int .i64 0, .string ⟨#[]⟩, .int .i64 0, .slice none 0 0, .int .i64 0, .int .i64 0, .slice none 0 0, .slice none 0 0] 27 (0, 0))) := k1
  obtain ⟨x0, x1, x2, x3, x4, x5, x6, x7, x8, x9, x10⟩ := blk11 k0
  clear k0 k1
  have HC1 : Hid (Calls _ _ _ _ _) := C1
  clear C1
  go_enter Tryz.func47, Tryz.ntmps47
  go_upto_region 2 with (go_at_call 93; refine Calls.mono HC1.out ?_; rintro r w1 ⟨v1, rfl, ho1, hb1⟩; obtain ⟨ra1, rc1, rfl⟩ := ow_form ho1; have ka : w1.heap[w.heap.size]? = some (.cells #[.string idn, .string ti, .int .i64 st, .int .i64 lg, .string f, .int .i64 e, .slice ra ds.length rc, .int .i64 c, .int .i64 u, .slice sa sk.length sc, .slice ma mv.length mc] 27 (0, 0)) := (hb1.block _ (by rw [HZ.out]; omega)).trans KA.out; have z := blk11_frozen ka 6; obtain ⟨y0, y1, y2, y3, y4, y5, y6, y7, y8, y9, y10⟩ := blk11 ka; have KA1 : Hid (_) := ka; clear ka x0 x1 x2 x3 x4 x5 x6 x7 x8 x9 x10)
  have hs1 := hb1.size
  rw [HZ.out] at hs1 ho1
  have KA2 : Hid ((w1.setCell ⟨w.heap.size, 6, none⟩ (.slice ra1 ds.length rc1)).heap[w.heap.size]? = some (.cells #[.string idn, .string ti, .int .i64 st, .int .i64 lg, .string f, .int .i64 e, .slice ra1 ds.length rc1, .int .i64 c, .int .i64 u, .slice sa sk.length sc, .slice ma mv.length mc] 27 (0, 0))) := set11_6 (.slice ra1 ds.length rc1) KA1.out
  have g2 : w1.grownBy (w1.setCell ⟨w.heap.size, 6, none⟩ (.slice ra1 ds.length rc1)) (some (w.heap.size)) := grown_set w1 ⟨w.heap.size, 6, none⟩ (.slice ra1 ds.length rc1)
  have KB2 : Hid ((w1.setCell ⟨w.heap.size, 6, none⟩ (.slice ra1 ds.length rc1)).heap[w.heap.size + 1]? = some (.cells #[.string ⟨#[]⟩, .string ⟨#[]⟩, .int .i64 0, .int .i64 0, .string ⟨#[]⟩, .int .i64 0, .slice none 0 0, .int .i64 0, .int .i64 0, .slice none 0 0, .slice none 0 0] 27 (0, 0))) := (g2.block _ (by omega) (fun q => by have q' : w.heap.size + 1 = w.heap.size := Option.some.inj q; omega)).trans ((hb1.block _ (by rw [HZ.out]; omega)).trans KB.out)
  have O2 : Hid (Ow (w.heap.size + 2) (w1.setCell ⟨w.heap.size, 6, none⟩ (.slice ra1 ds.length rc1)) (.slice ra1 ds.length rc1) ds) := Ow.grown ho1 g2 (by omega)
  have B2 : Hid (Below w.heap.size w (w1.setCell ⟨w.heap.size, 6, none⟩ (.slice ra1 ds.length rc1))) := (below_then HA.out hb1).grown g2 (by omega) (fun k q => by cases q; exact Nat.le_refl _)
  have hs2 : w.heap.size + 2 ≤ (w1.setCell ⟨w.heap.size, 6, none⟩ (.slice ra1 ds.length rc1)).heap.size := Nat.le_trans hs1 g2.size
  clear KA1 KA KB HA hb1 ho1 g2 y0 y1 y2 y3 y4 y5 y6 y7 y8 y9 y10 z hs1 HZ HC1
  generalize w1.setCell ⟨w.heap.size, 6, none⟩ (.slice ra1 ds.length rc1) = w2 at KA2 KB2 O2 B2 hs2 ⊢
  have HC2 : Hid (Calls _ _ _ _ _) := cloneI_any sk _ w2 (ints_days (HS.out.step B2.out) k20)
  obtain ⟨x0, x1, x2, x3, x4, x5, x6, x7, x8, x9, x10⟩ := blk11 KA2.out
  go_upto_region 3 with (go_at_call 93; refine Calls.mono HC2.out ?_; rintro r w3 ⟨v3, rfl, ho3, hb3⟩; obtain ⟨sa1, sc1, rfl⟩ := ow_form ho3; have ka : w3.heap[w.heap.size]? = some (.cells #[.string idn, .string ti, .int .i64 st, .int .i64 lg, .string f, .int .i64 e, .slice ra1 ds.length rc1, .int .i64 c, .int .i64 u, .slice sa sk.length sc, .slice ma mv.length mc] 27 (0, 0)) := (hb3.block _ (by omega)).trans KA2.out; have z := blk11_frozen ka 9; obtain ⟨y0, y1, y2, y3, y4, y5, y6, y7, y8, y9, y10⟩ := blk11 ka; have KA3 : Hid (_) := ka; clear ka x0 x1 x2 x3 x4 x5 x6 x7 x8 x9 x10)
  have hs3 := hb3.size
  have KA4 : Hid ((w3.setCell ⟨w.heap.size, 9, none⟩ (.slice sa1 sk.length sc1)).heap[w.heap.size]? = some (.cells #[.string idn, .string ti, .int .i64 st, .int .i64 lg, .string f, .int .i64 e, .slice ra1 ds.length rc1, .int .i64 c, .int .i64 u, .slice sa1 sk.length sc1, .slice ma mv.length mc] 27 (0, 0))) := set11_9 (.slice sa1 sk.length sc1) KA3.out
  have g4 : w3.grownBy (w3.setCell ⟨w.heap.size, 9, none⟩ (.slice sa1 sk.length sc1)) (some (w.heap.size)) := grown_set w3 ⟨w.heap.size, 9, none⟩ (.slice sa1 sk.length sc1)
  have KB4 : Hid ((w3.setCell ⟨w.heap.size, 9, none⟩ (.slice sa1 sk.length sc1)).heap[w.heap.size + 1]? = some (.cells #[.string ⟨#[]⟩, .string ⟨#[]⟩, .int .i64 0, .int .i64 0, .string ⟨#[]⟩, .int .i64 0, .slice none 0 0, .int .i64 0, .int .i64 0, .slice none 0 0, .slice none 0 0] 27 (0, 0))) := (g4.block _ (by omega) (fun q => by have q' : w.heap.size + 1 = w.heap.size := Option.some.inj q; omega)).trans ((hb3.block _ (by omega)).trans KB2.out)
  have O4 : Hid (Ow (w.heap.size + 2) (w3.setCell ⟨w.heap.size, 9, none⟩ (.slice sa1 sk.length sc1)) (.slice ra1 ds.length rc1) ds) := Ow.grown (Ow.step O2.out hb3) g4 (by omega)
  have P4 : Hid (Ow (w.heap.size + 2) (w3.setCell ⟨w.heap.size, 9, none⟩ (.slice sa1 sk.length sc1)) (.slice sa1 sk.length sc1) sk) := Ow.grown (own_base ho3 hs2) g4 (by omega)
  have B4 : Hid (Below w.heap.size w (w3.setCell ⟨w.heap.size, 9, none⟩ (.slice sa1 sk.length sc1))) := (below_then B2.out hb3).grown g4 (by omega) (fun k q => by cases q; exact Nat.le_refl _)
  have hs4 : w.heap.size + 2 ≤ (w3.setCell ⟨w.heap.size, 9, none⟩ (.slice sa1 sk.length sc1)).heap.size := Nat.le_trans (Nat.le_trans hs2 hs3) g4.size
  clear KA3 KA2 KB2 O2 B2 hb3 ho3 g4 y0 y1 y2 y3 y4 y5 y6 y7 y8 y9 y10 z hs3 hs2 HC2
  generalize w3.setCell ⟨w.heap.size, 9, none⟩ (.slice sa1 sk.length sc1) = w4 at KA4 KB4 O4 P4 B4 hs4 ⊢
  have HC3 : Hid (Calls _ _ _ _ _) := cloneM_any mv _ w4 (HM.out.step B4.out) (by omega)
  obtain ⟨x0, x1, x2, x3, x4, x5, x6, x7, x8, x9, x10⟩ := blk11 KA4.out
  go_upto_region 4 with (go_at_call 94; refine Calls.mono HC3.out ?_; rintro r w5 ⟨v5, rfl, ho5, hb5⟩; obtain ⟨ma1, mc1, rfl⟩ := gotM_form (owm_movs ho5 (by omega)).2; have ka : w5.heap[w.heap.size]? = some (.cells #[.string idn, .string ti, .int .i64 st, .int .i64 lg, .string f, .int .i64 e, .slice ra1 ds.length rc1, .int .i64 c, .int .i64 u, .slice sa1 sk.length sc1, .slice ma mv.length mc] 27 (0, 0)) := (hb5.block _ (by omega)).trans KA4.out; have z := blk11_frozen ka 10; obtain ⟨y0, y1, y2, y3, y4, y5, y6, y7, y8, y9, y10⟩ := blk11 ka; have KA5 : Hid (_) := ka; clear ka x0 x1 x2 x3 x4 x5 x6 x7 x8 x9 x10)
  have hs5 := hb5.size
  have KA6 : Hid ((w5.setCell ⟨w.heap.size, 10, none⟩ (.slice ma1 mv.length mc1)).heap[w.heap.size]? = some (.cells #[.string idn, .string ti, .int .i64 st, .int .i64 lg, .string f, .int .i64 e, .slice ra1 ds.length rc1, .int .i64 c, .int .i64 u, .slice sa1 sk.length sc1, .slice ma1 mv.length mc1] 27 (0, 0))) := set11_10 (.slice ma1 mv.length mc1) KA5.out
  have g6 : w5.grownBy (w5.setCell ⟨w.heap.size, 10, none⟩ (.slice ma1 mv.length mc1)) (some (w.heap.size)) := grown_set w5 ⟨w.heap.size, 10, none⟩ (.slice ma1 mv.length mc1)
  have KB6 : Hid ((w5.setCell ⟨w.heap.size, 10, none⟩ (.slice ma1 mv.length mc1)).heap[w.heap.size + 1]? = some (.cells #[.string ⟨#[]⟩, .string ⟨#[]⟩, .int .i64 0, .int .i64 0, .string ⟨#[]⟩, .int .i64 0, .slice none 0 0, .int .i64 0, .int .i64 0, .slice none 0 0, .slice none 0 0] 27 (0, 0))) := (g6.block _ (by omega) (fun q => by have q' : w.heap.size + 1 = w.heap.size := Option.some.inj q; omega)).trans ((hb5.block _ (by omega)).trans KB4.out)
  have O6 : Hid (Ow (w.heap.size + 2) (w5.setCell ⟨w.heap.size, 10, none⟩ (.slice ma1 mv.length mc1)) (.slice ra1 ds.length rc1) ds) := Ow.grown (Ow.step O4.out hb5) g6 (by omega)
  have P6 : Hid (Ow (w.heap.size + 2) (w5.setCell ⟨w.heap.size, 10, none⟩ (.slice ma1 mv.length mc1)) (.slice sa1 sk.length sc1) sk) := Ow.grown (Ow.step P4.out hb5) g6 (by omega)
  have Q6 : Hid (OwM (w.heap.size + 2) (w5.setCell ⟨w.heap.size, 10, none⟩ (.slice ma1 mv.length mc1)) (.slice ma1 mv.length mc1) mv) := OwM.grown (own_base ho5 hs4) g6 (by omega)
  have B6 : Hid (Below w.heap.size w (w5.setCell ⟨w.heap.size, 10, none⟩ (.slice ma1 mv.length mc1))) := (below_then B4.out hb5).grown g6 (by omega) (fun k q => by cases q; exact Nat.le_refl _)
  have hs6 : w.heap.size + 2 ≤ (w5.setCell ⟨w.heap.size, 10, none⟩ (.slice ma1 mv.length mc1)).heap.size := Nat.le_trans (Nat.le_trans hs4 hs5) g6.size
  clear KA5 KA4 KB4 O4 P4 B4 hb5 ho5 g6 y0 y1 y2 y3 y4 y5 y6 y7 y8 y9 y10 z hs5 hs4 HC3
  generalize w5.setCell ⟨w.heap.size, 10, none⟩ (.slice ma1 mv.length mc1) = w6 at KA6 KB6 O6 P6 Q6 B6 hs6 ⊢
  obtain ⟨x0, x1, x2, x3, x4, x5, x6, x7, x8, x9, x10⟩ := blk11 KA6.out
  have f0 := blk11_frozen KB6.out 0
  have f1 := blk11_frozen KB6.out 1
  have f2 := blk11_frozen KB6.out 2
  have f3 := blk11_frozen KB6.out 3
  have f4 := blk11_frozen KB6.out 4
  have f5 := blk11_frozen KB6.out 5
  have f6 := blk11_frozen KB6.out 6
  have f7 := blk11_frozen KB6.out 7
  have f8 := blk11_frozen KB6.out 8
  have f9 := blk11_frozen KB6.out 9
  have f10 := blk11_frozen KB6.out 10
  obtain ⟨t0, t1, t2, t3, t4, t5, t6, t7, t8, t9, t10⟩ := blk11 KB6.out
  go_wp2
  rw [put11_fold]
  have n10 := put11_blk (.string idn) (.string ti) (.int .i64 st) (.int .i64 lg) (.string f) (.int .i64 e) (.slice ra1 ds.length rc1) (.int .i64 c) (.int .i64 u) (.slice sa1 sk.length sc1) (.slice ma1 mv.length mc1) KB6.out
  have g7 := put11_grown w6 (w.heap.size + 1) (.string idn) (.string ti) (.int .i64 st) (.int .i64 lg) (.string f) (.int .i64 e) (.slice ra1 ds.length rc1) (.int .i64 c) (.int .i64 u) (.slice sa1 sk.length sc1) (.slice ma1 mv.length mc1)
  clear x0 x1 x2 x3 x4 x5 x6 x7 x8 x9 x10 t0 t1 t2 t3 t4 t5 t6 t7 t8 t9 t10 f0 f1 f2 f3 f4 f5 f6 f7 f8 f9 f10
  generalize put11 w6 (w.heap.size + 1) (.string idn) (.string ti) (.int .i64 st) (.int .i64 lg) (.string f) (.int .i64 e) (.slice ra1 ds.length rc1) (.int .i64 c) (.int .i64 u) (.slice sa1 sk.length sc1) (.slice ma1 mv.length mc1) = w7 at n10 g7 ⊢
  obtain ⟨c0, c1, c2, c3, c4, c5, c6, c7, c8, c9, c10⟩ := blk11 n10
  have o1 := Ow.grown O6.out g7 (by omega)
  have o2 := Ow.grown P6.out g7 (by omega)
  have o3 := OwM.grown Q6.out g7 (by omega)
  refine bodyPost_ret (v := .agg #[.string idn, .string ti, .int .i64 st, .int .i64 lg, .string f, .int .i64 e, .slice ra1 ds.length rc1, .int .i64 c, .int .i64 u, .slice sa1 sk.length sc1, .slice ma1 mv.length mc1]) (by simp [results, Tryz.f47, go_sem, c0, c1, c2, c3, c4, c5, c6, c7, c8, c9, c10]) rfl ⟨_, _, _, rfl, own_base o1 (by omega), own_base o2 (by omega), own_base o3 (by omega), B6.out.grown g7 (by omega) (fun k q => by cases q; omega)⟩
end Go.Proofs.YtbhfnloheijhdaaGreatDoor

/- Calendars: a book's map of events; package book's all, Get and Drop. -/
namespace Go.Proofs.YtbhfnloheijhdaaGreatDoor
open Go Go.RowKit Go.Maps Cal
attribute [local go_sem] Oper.semAt_some

theorem law : Keyed Tryz.prog 9 := string_keyed Tryz.underlying9
/-- an element of the map, as it is -/
def hld (v : Value) : Option (DataW Value × List MemPlace) := some (.held v, [])
theorem hld_inv {v : Value} {d : DataW Value} {ps : List MemPlace} (h : hld v = some (d, ps)) : d = .held v := by
  unfold hld at h
  cases h
  rfl
theorem zeroE (w : World) : (zeroValue 27).run Tryz.prog w = .ok zV w := by unfold zV; kernel_rfl
/-- the key of an ID -/
def key (s : ByteArray) : Lit := .string s.data.toList
theorem key_of {s : ByteArray} (h : s.size ≤ 1000) : keyOf Tryz.prog 9 (.string s) = some (key s) := Go.WideMaps.keyOf_string_mk Tryz.underlying9 (by unfold maxLen; omega)

/-- block bb is a book; mo: its map, D: what it holds -/
def Bok (W : World) (bb : Nat) (mo : Option Nat) (n : Nat) (D : DataW Value) : Prop :=
  W.heap[bb]? = some (.cells #[.map mo] 109 (0, 0)) ∧ match mo with
    | none => D = .map []
    | some mb => mb ≠ bb ∧ W.ownsMap Tryz.prog 9 hld mb n D
theorem Bok.step {W W' : World} {bb : Nat} {mo : Option Nat} {n : Nat} {D : DataW Value} (h : Bok W bb mo n D) (hb : Below W.heap.size W W') : Bok W' bb mo n D := by
  obtain ⟨h1, h2⟩ := h
  refine ⟨(hb.block _ (Array.getElem?_eq_some_iff.1 h1).1).trans h1, ?_⟩
  cases mo with
  | none => exact h2
  | some mb => exact ⟨h2.1, h2.2.kept (grown_below hb none) (by simp)⟩
theorem Bok.cell {W : World} {bb : Nat} {mo : Option Nat} {n : Nat} {D : DataW Value} (h : Bok W bb mo n D) : W.cell? ⟨bb, 0, none⟩ = some (.map mo) := by simp [World.cell?, h.1]

theorem all_any (bb : Nat) (mo : Option Nat) (n : Nat) (D : DataW Value) (w : World) (h : Bok w bb mo n D) :
    Calls Tryz.prog 58 #[.pointer (some ⟨bb, 0, none⟩)] w fun r w' => r = .returned (.map mo) ∧ w' = w := by
  have hc := h.cell
  clear h
  go_enter Tryz.func58, Tryz.ntmps58
  go_wp2
  go_ret
  exact ⟨rfl, rfl⟩

/-- a look-up whose element is known -/
theorem wpList_lookup_held (w : World) {ops : Array Oper} {rest : List Oper} {o : Oper} {a : Act} {Q : Exit → Act → World → Prop} (hg : o.guard = none) (m x : Operand) (hop : o.op = Op.lookup 91 m x true)
    (b n : Nat) (D : DataW Value) (hm : a.eval m = .map (some b)) (hown : w.ownsMap Tryz.prog 9 hld b n D) (k : Value) (kl : Lit) (hx : a.eval x = k) (hkey : keyOf Tryz.prog 9 k = some kl) (u : Value) (hat : D.atKey kl (.held zV) = .held u)
    (hK : wpList Tryz.prog ops Q rest (a.put o.dst (.tuple #[u, .bool (Maps.has D kl)])) w) : wpList Tryz.prog ops Q (o :: rest) a w :=
  wpList_lookup_own_ok w hg m x 91 hop 9 27 law Tryz.underlying91 hld (zeroE w) (.held zV) [] rfl b n D hm hown k kl hx hkey (fun v ps hv => by
    have h := hld_inv hv
    rw [hat] at h
    cases h
    exact hK)

set_option maxHeartbeats 4000000 in
set_option maxRecDepth 100000 in
/-- Get of an event that is there (or of the zero event where it is not) -/
theorem bget_any (bb mb n : Nat) (D : DataW Value) (id : ByteArray) (E : EV) (sl skv mvv : Value) (w : World) (h : Bok w bb (some mb) n D) (hid : id.size ≤ 1000) (hat : D.atKey (key id) (.held zV) = .held (ev E sl skv mvv)) (hL : Ls w E sl skv mvv) (k20 : E.sk.length ≤ 20) (m20 : E.mv.length ≤ 20) :
    Calls Tryz.prog 25 #[.pointer (some ⟨bb, 0, none⟩), .string id] w fun r w' => ∃ sl' skv' mvv', r = .returned (.tuple #[ev E sl' skv' mvv', .bool (Maps.has D (key id))]) ∧ Ls w' E sl' skv' mvv' ∧ Below w.heap.size w w' := by
  have HD20 : Hid (E.ds.length ≤ 20) := by obtain ⟨_, _, _, q, _⟩ := hL.d; exact q
  have HL : Hid (Ls w E sl skv mvv) := hL
  obtain ⟨hd, hs, hm⟩ := hL
  obtain ⟨ra, rc, rfl, _⟩ := hd
  obtain ⟨sa, sc, rfl, _⟩ := hs
  obtain ⟨ma, mc, rfl, _⟩ := hm
  unfold ev at hat
  have hA := below_alloc w (.cells #[.string ⟨#[]⟩, .string ⟨#[]⟩, .int .i64 0, .int .i64 0, .string ⟨#[]⟩, .int .i64 0, .slice none 0 0, .int .i64 0, .int .i64 0, .slice none 0 0, .slice none 0 0] 27)
  have kR : (w.alloc (.cells #[.string ⟨#[]⟩, .string ⟨#[]⟩, .int .i64 0, .int .i64 0, .string ⟨#[]⟩, .int .i64 0, .slice none 0 0, .int .i64 0, .int .i64 0, .slice none 0 0, .slice none 0 0] 27)).heap[w.heap.size]? = some (.cells #[.string ⟨#[]⟩, .string ⟨#[]⟩, .int .i64 0, .int .i64 0, .string ⟨#[]⟩, .int .i64 0, .slice none 0 0, .int .i64 0, .int .i64 0, .slice none 0 0, .slice none 0 0] 27 (0, 0)) := block_at _ rfl
  have hz : (w.alloc (.cells #[.string ⟨#[]⟩, .string ⟨#[]⟩, .int .i64 0, .int .i64 0, .string ⟨#[]⟩, .int .i64 0, .slice none 0 0, .int .i64 0, .int .i64 0, .slice none 0 0, .slice none 0 0] 27)).heap.size = w.heap.size + 1 := World.size_alloc _ _
  have AL : Hid (Calls _ _ _ _ _) := all_any bb (some mb) n D _ (h.step hA)
  have HO : Hid (World.ownsMap _ _ _ _ _ _ _) := (h.step hA).2.2
  have HAT : Hid (D.atKey (key id) (.held zV) = .held (.agg #[.string E.id, .string E.ti, .int .i64 E.st, .int .i64 E.lg, .string E.f, .int .i64 E.e, .slice ra E.ds.length rc, .int .i64 E.c, .int .i64 E.u, .slice sa E.sk.length sc, .slice ma E.mv.length mc])) := hat
  have HKY : Hid (keyOf Tryz.prog 9 (.string id) = some (key id)) := key_of hid
  have HA : Hid (_) := hA
  have KR : Hid (_) := kR
  have HZ : Hid (_) := hz
  clear hA kR hz hat h
  unfold ev
  go_enter Tryz.func25, Tryz.ntmps25
  generalize hw0 : w.alloc (.cells #[.string ⟨#[]⟩, .string ⟨#[]⟩, .int .i64 0, .int .i64 0, .string ⟨#[]⟩, .int .i64 0, .slice none 0 0, .int .i64 0, .int .i64 0, .slice none 0 0, .slice none 0 0] 27) = w0 at AL HO HA KR HZ
  go_upto_region 2 with (first
    | (go_at_call 58; refine Calls.mono AL.out ?_; rintro r w' ⟨rfl, hq⟩; have hq := hq.symm; subst hq)
    | (at_lookup; refine wpList_lookup_held _ rfl _ _ rfl mb n D rfl HO.out _ (key id) rfl HKY.out _ HAT.out ?_)
    | go_in)
  have KE : Hid (EB (w0.alloc (.cells #[.string E.id, .string E.ti, .int .i64 E.st, .int .i64 E.lg, .string E.f, .int .i64 E.e, .slice ra E.ds.length rc, .int .i64 E.c, .int .i64 E.u, .slice sa E.sk.length sc, .slice ma E.mv.length mc] 27)) w0.heap.size E (.slice ra E.ds.length rc) (.slice sa E.sk.length sc) (.slice ma E.mv.length mc)) := EB.new w0 E _ _ _
  have LE : Hid (Ls (w0.alloc (.cells #[.string E.id, .string E.ti, .int .i64 E.st, .int .i64 E.lg, .string E.f, .int .i64 E.e, .slice ra E.ds.length rc, .int .i64 E.c, .int .i64 E.u, .slice sa E.sk.length sc, .slice ma E.mv.length mc] 27)) E (.slice ra E.ds.length rc) (.slice sa E.sk.length sc) (.slice ma E.mv.length mc)) := HL.out.step (below_then HA.out (below_alloc _ _))
  have KR1 : Hid ((w0.alloc (.cells #[.string E.id, .string E.ti, .int .i64 E.st, .int .i64 E.lg, .string E.f, .int .i64 E.e, .slice ra E.ds.length rc, .int .i64 E.c, .int .i64 E.u, .slice sa E.sk.length sc, .slice ma E.mv.length mc] 27)).heap[w.heap.size]? = some (.cells #[.string ⟨#[]⟩, .string ⟨#[]⟩, .int .i64 0, .int .i64 0, .string ⟨#[]⟩, .int .i64 0, .slice none 0 0, .int .i64 0, .int .i64 0, .slice none 0 0, .slice none 0 0] 27 (0, 0))) := block_alloc _ KR.out
  have B1 : Hid (Below w.heap.size w (w0.alloc (.cells #[.string E.id, .string E.ti, .int .i64 E.st, .int .i64 E.lg, .string E.f, .int .i64 E.e, .slice ra E.ds.length rc, .int .i64 E.c, .int .i64 E.u, .slice sa E.sk.length sc, .slice ma E.mv.length mc] 27))) := below_then HA.out (below_alloc _ _)
  have hs1 : w.heap.size + 1 ≤ (w0.alloc (.cells #[.string E.id, .string E.ti, .int .i64 E.st, .int .i64 E.lg, .string E.f, .int .i64 E.e, .slice ra E.ds.length rc, .int .i64 E.c, .int .i64 E.u, .slice sa E.sk.length sc, .slice ma E.mv.length mc] 27)).heap.size := by rw [World.size_alloc, HZ.out]; omega
  clear AL HO HAT HKY HA KR HZ HL
  generalize w0.alloc (.cells #[.string E.id, .string E.ti, .int .i64 E.st, .int .i64 E.lg, .string E.f, .int .i64 E.e, .slice ra E.ds.length rc, .int .i64 E.c, .int .i64 E.u, .slice sa E.sk.length sc, .slice ma E.mv.length mc] 27) = w1 at KE LE KR1 B1 hs1 ⊢
  generalize w0.heap.size = be at KE ⊢
  have CP := copy_any E _ _ _ w1 LE.out k20 m20
  unfold ev at CP
  have HCP : Hid (Calls _ _ _ _ _) := CP
  clear CP LE
  obtain ⟨x0, x1, x2, x3, x4, x5, x6, x7, x8, x9, x10⟩ := blk11 (show w1.heap[be]? = _ from KE.out)
  have m8 : E.mv.length ≤ 80000 := by omega
  go_wp2_with (go_at_call 47; refine Calls.mono HCP.out ?_; rintro r w5 ⟨sl2, sk2, mv2, rfl, ho1, ho2, ho3, hb5⟩; obtain ⟨r2, rc2, rfl⟩ := ow_form ho1; obtain ⟨s2, sc2, rfl⟩ := ow_form ho2; obtain ⟨m2, mc2, rfl⟩ := gotM_form (owm_movs ho3 m8).2; have KR5 : Hid (w5.heap[w.heap.size]? = some (.cells #[.string ⟨#[]⟩, .string ⟨#[]⟩, .int .i64 0, .int .i64 0, .string ⟨#[]⟩, .int .i64 0, .slice none 0 0, .int .i64 0, .int .i64 0, .slice none 0 0, .slice none 0 0] 27 (0, 0))) := (hb5.block _ (Nat.lt_of_succ_le hs1)).trans KR1.out; obtain ⟨t0, t1, t2, t3, t4, t5, t6, t7, t8, t9, t10⟩ := blk11 KR5.out; have f0 := blk11_frozen KR5.out 0; have f1 := blk11_frozen KR5.out 1; have f2 := blk11_frozen KR5.out 2; have f3 := blk11_frozen KR5.out 3; have f4 := blk11_frozen KR5.out 4; have f5 := blk11_frozen KR5.out 5; have f6 := blk11_frozen KR5.out 6; have f7 := blk11_frozen KR5.out 7; have f8 := blk11_frozen KR5.out 8; have f9 := blk11_frozen KR5.out 9; have f10 := blk11_frozen KR5.out 10)
  rw [put11_fold]
  have n10 := put11_blk (.string E.id) (.string E.ti) (.int .i64 E.st) (.int .i64 E.lg) (.string E.f) (.int .i64 E.e) (.slice r2 E.ds.length rc2) (.int .i64 E.c) (.int .i64 E.u) (.slice s2 E.sk.length sc2) (.slice m2 E.mv.length mc2) KR5.out
  have g7 := put11_grown w5 w.heap.size (.string E.id) (.string E.ti) (.int .i64 E.st) (.int .i64 E.lg) (.string E.f) (.int .i64 E.e) (.slice r2 E.ds.length rc2) (.int .i64 E.c) (.int .i64 E.u) (.slice s2 E.sk.length sc2) (.slice m2 E.mv.length mc2)
  clear x0 x1 x2 x3 x4 x5 x6 x7 x8 x9 x10 t0 t1 t2 t3 t4 t5 t6 t7 t8 t9 t10 f0 f1 f2 f3 f4 f5 f6 f7 f8 f9 f10
  have o1 := Ow.grown ho1 g7 (by omega)
  have o2 := Ow.grown ho2 g7 (by omega)
  have o3 := OwM.grown ho3 g7 (by omega)
  generalize put11 w5 w.heap.size (.string E.id) (.string E.ti) (.int .i64 E.st) (.int .i64 E.lg) (.string E.f) (.int .i64 E.e) (.slice r2 E.ds.length rc2) (.int .i64 E.c) (.int .i64 E.u) (.slice s2 E.sk.length sc2) (.slice m2 E.mv.length mc2) = w7 at n10 g7 o1 o2 o3 ⊢
  obtain ⟨c0, c1, c2, c3, c4, c5, c6, c7, c8, c9, c10⟩ := blk11 n10
  refine bodyPost_ret (v := .tuple #[.agg #[.string E.id, .string E.ti, .int .i64 E.st, .int .i64 E.lg, .string E.f, .int .i64 E.e, .slice r2 E.ds.length rc2, .int .i64 E.c, .int .i64 E.u, .slice s2 E.sk.length sc2, .slice m2 E.mv.length mc2], .bool (Maps.has D (key id))]) (by simp [results, Tryz.f25, go_sem, c0, c1, c2, c3, c4, c5, c6, c7, c8, c9, c10]) rfl ⟨_, _, _, rfl, ⟨ow_days o1 HD20.out, ow_ints o2 (by omega), (owm_movs o3 m8).1⟩, (below_then B1.out hb5).grown g7 (below_then B1.out hb5).size (fun k q => by cases q; exact Nat.le_refl _)⟩

set_option maxHeartbeats 4000000 in
set_option maxRecDepth 100000 in
/-- Drop of an event that is there -/
theorem drop_yes (bb mb n : Nat) (D : DataW Value) (id : ByteArray) (E : EV) (ra : Option Addr) (rn rc : Nat) (sa : Option Addr) (sn sc : Nat) (ma : Option Addr) (mn mc : Nat) (w : World) (h : Bok w bb (some mb) n D) (hid : id.size ≤ 1000) (hat : D.atKey (key id) (.held zV) = .held (ev E (.slice ra rn rc) (.slice sa sn sc) (.slice ma mn mc))) (hh : Maps.has D (key id) = true) :
    Calls Tryz.prog 27 #[.pointer (some ⟨bb, 0, none⟩), .string id] w fun r w' => r = .returned .nilIface ∧ Bok w' bb (some mb) n (D.del (key id)) ∧ w.grownBy w' (some mb) := by
  have AL : Hid (Calls _ _ _ _ _) := all_any bb (some mb) n D _ h
  unfold ev at hat
  have HAT : Hid (D.atKey (key id) (.held zV) = .held (.agg #[.string E.id, .string E.ti, .int .i64 E.st, .int .i64 E.lg, .string E.f, .int .i64 E.e, .slice ra rn rc, .int .i64 E.c, .int .i64 E.u, .slice sa sn sc, .slice ma mn mc])) := hat
  have HKY : Hid (keyOf Tryz.prog 9 (.string id) = some (key id)) := key_of hid
  have HH : Hid (Maps.has D (key id) = true) := hh
  have HB : Hid (Bok w bb (some mb) n D) := h
  clear hat hh h
  go_enter Tryz.func27, Tryz.ntmps27
  go_upto_region 5 with (first
    | (go_at_call 58; refine Calls.mono AL.out ?_; rintro r w' ⟨rfl, hq⟩; have hq := hq.symm; subst hq)
    | (at_lookup; refine wpList_lookup_held _ rfl _ _ rfl mb n D rfl HB.out.2.2 _ (key id) rfl HKY.out _ HAT.out ?_; rw [HH.out])
    | go_in)
  have HO1 : Hid (World.ownsMap _ _ _ _ _ _ _) := HB.out.2.2.alloc (.cells #[.string E.id, .string E.ti, .int .i64 E.st, .int .i64 E.lg, .string E.f, .int .i64 E.e, .slice ra rn rc, .int .i64 E.c, .int .i64 E.u, .slice sa sn sc, .slice ma mn mc] 27)
  have K1 : Hid ((w.alloc (.cells #[.string E.id, .string E.ti, .int .i64 E.st, .int .i64 E.lg, .string E.f, .int .i64 E.e, .slice ra rn rc, .int .i64 E.c, .int .i64 E.u, .slice sa sn sc, .slice ma mn mc] 27)).heap[bb]? = some (.cells #[.map (some mb)] 109 (0, 0))) := block_alloc _ HB.out.1
  have G1 : Hid (w.grownBy (w.alloc (.cells #[.string E.id, .string E.ti, .int .i64 E.st, .int .i64 E.lg, .string E.f, .int .i64 E.e, .slice ra rn rc, .int .i64 E.c, .int .i64 E.u, .slice sa sn sc, .slice ma mn mc] 27)) (some mb)) := grown_below (below_alloc _ _) _
  have hne : mb ≠ bb := HB.out.2.1
  generalize w.alloc (.cells #[.string E.id, .string E.ti, .int .i64 E.st, .int .i64 E.lg, .string E.f, .int .i64 E.e, .slice ra rn rc, .int .i64 E.c, .int .i64 E.u, .slice sa sn sc, .slice ma mn mc] 27) = w1 at HO1 K1 G1 ⊢
  clear AL HAT HB
  go_wp2_with (first
    | (at_delete; refine wpList_delete_own _ rfl _ _ 91 9 rfl 27 law Tryz.underlying91 _ mb n D rfl HO1.out _ (key id) rfl HKY.out ?_; intro w2 hown2 hturn2)
    | go_in)
  go_ret
  exact ⟨rfl, ⟨(hturn2.grown.block bb (Array.getElem?_eq_some_iff.1 K1.out).1 (fun q => hne (Option.some.inj q).symm)).trans K1.out, hne, hown2⟩, grown_then G1.out hturn2.grown⟩
end Go.Proofs.YtbhfnloheijhdaaGreatDoor
