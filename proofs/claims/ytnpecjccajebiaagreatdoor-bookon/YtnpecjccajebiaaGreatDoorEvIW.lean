/- The days of an event that is well, as package event's daysUpTo gives them. -/
import Derived.Test.YtnpecjccajebiaaGreatDoorYaAH
import Derived.Test.YtnpecjccajebiaaGreatDoorEvSW
import Derived.Test.YtnpecjccajebiaaGreatDoorYaAL
import Derived.BigRegionIn
import Derived.OrdersIn
namespace Go.Proofs.YtnpecjccajebiaaGreatDoor
open Go Go.RowKit Go.Shelf Cal
attribute [local go_sem] Oper.semAt_some

/-- what the iterator of an event reads -/
def RdE (E : EV) (sl skv mvv : Value) (W : World) : Prop := Glob W ∧ Days W sl E.ds ∧ Ints W skv E.sk ∧ Movs W mvv E.mv
theorem gvn_over {xs sk : List Int} {ms : List (Int × Int)} {l x : Int} (h : l < x) : gvn (x :: xs) sk ms l = [] := by
  unfold gvn; rw [List.takeWhile_cons_of_neg (by simp; omega)]; rfl
theorem gvn_skip {xs sk : List Int} {ms : List (Int × Int)} {l x : Int} (h : x ≤ l) (hs : x ∈ sk) : gvn (x :: xs) sk ms l = gvn xs sk ms l := by
  unfold gvn; rw [List.takeWhile_cons_of_pos (by simpa using h), List.filter_cons_of_neg (by simpa using hs)]
theorem gvn_on {xs sk : List Int} {ms : List (Int × Int)} {l x : Int} (h : x ≤ l) (hs : x ∉ sk) : gvn (x :: xs) sk ms l = mvd ms x :: gvn xs sk ms l := by
  unfold gvn; rw [List.takeWhile_cons_of_pos (by simpa using h), List.filter_cons_of_pos (by simpa using hs), List.map_cons]
theorem gvn_nil (sk : List Int) (ms : List (Int × Int)) (l : Int) : gvn [] sk ms l = [] := rfl

theorem daysUpTo_any (E : EV) (sl skv mvv : Value) (b : Int) (w : World) : Calls Tryz.prog 77 #[ev E sl skv mvv, .int .i64 b] w fun r w' =>
    r = .returned (.func (.func 117) #[] #[.pointer (some ⟨w.heap.size, 0, none⟩), .pointer (some ⟨w.heap.size + 1, 0, none⟩)]) ∧
      w' = (w.alloc (.cells #[.string E.id, .string E.ti, .int .i64 E.st, .int .i64 E.lg, .string E.f, .int .i64 E.e, sl, .int .i64 E.c, .int .i64 E.u, skv, mvv] 44)).alloc (.cells #[.int .i64 b] 3) := by
  unfold ev
  go_enter Tryz.func77, Tryz.ntmps77
  go_wp2
  go_ret
  exact ⟨rfl, rfl⟩

set_option maxHeartbeats 4000000 in
theorem upTo_iter {aa bb : Nat} (hab : bb + 12 ≤ aa) (E : EV) (sl skv mvv : Value) (b : Int) (xs : List Int) (hx : IsDays E.f E.e E.ds E.c E.u E.st xs) (hw : EW E)
    (Be Bl : Nat) (O : Nat → Prop) (hO1 : O Be) (hO2 : O Bl) (hne : Be ≠ Bl) (W0 : World) (b1 : EB W0 Be E sl skv mvv) (b2 : Boxed W0 Bl 3 (.int .i64 b)) :
    Gives aa bb 117 #[.pointer (some ⟨Be, 0, none⟩), .pointer (some ⟨Bl, 0, none⟩)] O (RdE E sl skv mvv) (gvn xs E.sk E.mv (lastOf E.mv b)) W0 := by
  intro n l J0 J Jx hna hJ0 h01 hJ hJx hRd0 hRd hY h00
  have h1 : 1 ≤ n := by omega
  obtain ⟨k20, m20, kr, mr, _, _, _⟩ := lk_of hw.ls
  have hsk := rise_pair kr
  obtain ⟨hg, hd, hs, hm⟩ := hRd0 _ h00
  obtain ⟨idn, ti, st, lg, f, e, ds, c, u, sk, mv⟩ := E
  dsimp only at *
  obtain ⟨ra, rc, rfl, r20, rcap, rcell⟩ := id hd
  obtain ⟨sa, sc, rfl, _, scap, scell⟩ := id hs
  obtain ⟨ma, mc, rfl, _, mcap, mcell⟩ := id hm
  have hA := below_alloc W0 (.cells #[.func (.yield l) #[] #[]] 94)
  have hz1 : (W0.alloc (.cells #[.func (.yield l) #[] #[]] 94)).heap.size = W0.heap.size + 1 := World.size_alloc _ _
  have bY : Boxed (W0.alloc (.cells #[.func (.yield l) #[] #[]] 94)) W0.heap.size 94 (.func (.yield l) #[] #[]) := boxed_at _ _ rfl
  have b1' : EB (W0.alloc (.cells #[.func (.yield l) #[] #[]] 94)) Be ⟨idn, ti, st, lg, f, e, ds, c, u, sk, mv⟩ _ _ _ := b1.step hA
  have b2' : Boxed (W0.alloc (.cells #[.func (.yield l) #[] #[]] 94)) Bl 3 (.int .i64 b) := Boxed.alloc b2 _
  have hBe := b1.lt
  have hBl := Boxed.lt b2
  have HM : Hid (Movs (W0.alloc (.cells #[.func (.yield l) #[] #[]] 94)) (.slice ma mv.length mc) mv) := hm.step hA
  have HX : Hid (_) := hx
  have HW : Hid (_) := hw
  have HSK : Hid (_) := hsk
  have HMR : Hid (_) := mr
  have HA : Hid (_) := hA
  have HD : Hid (Days W0 (.slice ra ds.length rc) ds) := hd
  have G0 : Hid (_) := h00
  have K0 : Hid (_) := hJ0
  have K1 : Hid (_) := h01
  have K2 : Hid (_) := hJ
  have K3 : Hid (_) := hJx
  have K4 : Hid (_) := hRd
  have K5 : Hid (_) := hRd0
  have HY : Hid (_) := hY
  clear h00 hJ0 h01 hJ hJx hRd0 hRd hY hx hw hsk mr kr hd hs hm hg rcell scell mcell hA b1 b2
  refine callsIn_of_wp_marks Tryz.func117 rfl trivial ?_ rfl
  simp only [Tryz.ntmps117, List.size_toArray, List.length_cons, List.length_nil, Nat.reduceAdd, Nat.reduceSub, Array.replicate_succ, Array.replicate_zero, List.push_toArray, List.append_toArray, List.nil_append, List.cons_append]
  generalize hW1 : W0.alloc (.cells #[.func (.yield l) #[] #[]] 94) = W1 at hz1 bY b1' b2' HM HA
  have hsz : Hid (W1.heap.size = W0.heap.size + 1) := hz1
  obtain ⟨x0, x1, x2, x3, x4, x5, x6, x7, x8, x9, x10⟩ := blk11 (show W1.heap[Be]? = _ from b1')
  have cl := Boxed.cell b2'
  have B1 : Hid (EB W1 Be ⟨idn, ti, st, lg, f, e, ds, c, u, sk, mv⟩ (.slice ra ds.length rc) (.slice sa sk.length sc) (.slice ma mv.length mc)) := b1'
  have B2 : Hid (_) := b2'
  have BY : Hid (_) := bY
  clear hz1 b1' b2' bY
  by_cases hmv : 0 < mv.length
  · obtain ⟨blk, rfl, hblk, hcell, hcell'⟩ : ∃ blk, ma = some ⟨blk, 0, none⟩ ∧ blk < W1.heap.size ∧ W1.cell? ⟨blk, (mv.length - 1) * 2, none⟩ = some (.int .i64 (mv[mv.length - 1]'(by omega)).1) ∧ W1.cell? ⟨blk, (mv.length - 1) * 2 + 1, none⟩ = some (.int .i64 (mv[mv.length - 1]'(by omega)).2) := by
      obtain ⟨a', c', e1, _, _, h4⟩ := HM.out
      obtain ⟨blk, e2, h5, h6, h7⟩ := h4 (mv.length - 1) (by omega)
      cases e1
      exact ⟨blk, e2, h5, h6, h7⟩
    have LO : Hid (lastOf mv b = if b < (mv[mv.length - 1]'(by omega)).1 then (mv[mv.length - 1]'(by omega)).1 else b) := by
      show _ = _
      unfold lastOf
      rw [dif_neg (fun q => by rw [q] at hmv; simp at hmv), List.getLast_eq_getElem]
      split <;> omega
    generalize mv[mv.length - 1]'(by omega) = y at hcell hcell' LO
    have fl := Boxed.frozen B2.out
    gi_wp2
    gi_region
    have HL0 : Hid (lastOf mv b = if b < y.1 then y.1 else b) := LO.out
    generalize hL : (if b < y.1 then y.1 else b) = L at HL0
    clear hL LO
    have E2 : Hid (EB (W1.setCell ⟨Bl, 0, none⟩ (.int .i64 L)).drew Be ⟨idn, ti, st, lg, f, e, ds, c, u, sk, mv⟩ (.slice ra ds.length rc) (.slice sa sk.length sc) (.slice (some ⟨blk, 0, none⟩) mv.length mc)) := (Below.heap_setCell W1 ⟨Bl, 0, none⟩ (.int .i64 L) Be (fun q => hne q)).trans B1.out
    have L2 : Hid (Boxed (W1.setCell ⟨Bl, 0, none⟩ (.int .i64 L)).drew Bl 3 (.int .i64 L)) := Boxed.set _ B2.out
    have Y2 : Hid (Boxed (W1.setCell ⟨Bl, 0, none⟩ (.int .i64 L)).drew W0.heap.size 94 (.func (.yield l) #[] #[])) := Boxed.other BY.out (by omega) _
    have HZ2 : Hid ((W1.setCell ⟨Bl, 0, none⟩ (.int .i64 L)).drew.heap.size = W0.heap.size + 1) := (set_size W1 ⟨Bl, 0, none⟩ (.int .i64 L)).trans hsz.out
    have ST : Hid (Steps (itO O W0.heap.size) W0 (W1.setCell ⟨Bl, 0, none⟩ (.int .i64 L)).drew) := Steps.trans ((Steps.below HA.out).mono (fun k hk => hk.2)) (Steps.trans (Steps.set W1 ⟨Bl, 0, none⟩ (.int .i64 L) (fun q => q.1 hO2)) ⟨rfl, rfl, rfl, Nat.le_refl _, fun _ _ _ => rfl⟩)
    clear B1 B2 BY hsz HA x0 x1 x2 x3 x4 x5 x6 x7 x8 x9 x10 cl hcell hcell' fl hblk HM hW1
    generalize (W1.setCell ⟨Bl, 0, none⟩ (.int .i64 L)).drew = W2 at E2 L2 Y2 HZ2 ST ⊢
    have hz2 := HZ2.out
    have hj2 : J0 W2 := K0.out _ _ G0.out ST.out
    have hd2 := (K5.out _ hj2).2.1
    have DA : Hid (_) := days_any f e _ ds c u st W2 hd2
    obtain ⟨x0, x1, x2, x3, x4, x5, x6, x7, x8, x9, x10⟩ := blk11 (show W2.heap[Be]? = _ from E2.out)
    clear hd2 hz2 hj2
    unfold rv at DA
    gi_wp2_with (refine ⟨trivial, ?_⟩; gi_at_call 118; refine (callsIn_wide.2 DA.out).mono ?_; rintro r W3 ⟨rfl, hb3, hs3, sl', hmk⟩)
    have HR3 : Hid (DaysIn (W2.heap.size + 2) W3.heap.size W3 sl' ds) := hmk.row
    have MK : Hid (Made f e ds c u st W2.heap.size W3 sl') := hmk
    have HB3 : Hid (_) := hb3
    have hzz1 : W0.heap.size + 1 ≤ W2.heap.size := by rw [HZ2.out]; exact Nat.le_refl _
    have hzz2 : W2.heap.size ≤ W0.heap.size + 1 := by rw [HZ2.out]; exact Nat.le_refl _
    clear DA hmk x0 x1 x2 x3 x4 x5 x6 x7 x8 x9 x10
    have EK3 : Hid (EB W3 Be ⟨idn, ti, st, lg, f, e, ds, c, u, sk, mv⟩ (.slice ra ds.length rc) (.slice sa sk.length sc) (.slice (some ⟨blk, 0, none⟩) mv.length mc)) := E2.out.step hb3
    have LB3 : Hid (Boxed W3 Bl 3 (.int .i64 L)) := (hb3.block _ (Boxed.lt L2.out)).trans L2.out
    have YB3 : Hid (Boxed W3 W0.heap.size 94 (.func (.yield l) #[] #[])) := (hb3.block _ (Boxed.lt Y2.out)).trans Y2.out
    have ST3 : Hid (Steps (itO O W0.heap.size) W0 W3) := ST.out.trans ((Steps.below hb3).mono (fun k hk => by have := hk.2; omega))
    clear hb3 E2 L2 Y2
    clear HZ2 ST
    generalize W2.heap.size = z at hs3 hzz1 hzz2 HR3 MK HB3
    refine range_gives (aa := bb + 8) (bb := bb + 2) (by omega) rfl (enters_of Tryz.func161 (by kernel_rfl) rfl) rfl (fun W hW => (MK.out.step hW).gives (by omega) HX.out (fun k => z ≤ k ∧ k < z + 2) (by omega)) (fun k hk => by omega)
      (fun h r W => Hid (J h (gvn r sk mv L) W) ∧ Hid (Boxed W W0.heap.size 94 (.func (.yield l) #[] #[])) ∧ Hid (EB W Be ⟨idn, ti, st, lg, f, e, ds, c, u, sk, mv⟩ (.slice ra ds.length rc) (.slice sa sk.length sc) (.slice (some ⟨blk, 0, none⟩) mv.length mc)) ∧ Hid (Boxed W Bl 3 (.int .i64 L)) ∧ Hid (DaysIn (z + 2) W3.heap.size W sl' ds))
      (fun cd h W => cd = .ret ∧ (J h [] W ∨ Jx h W))
      ?i0 ?i ?ix ?r0 ?r
      (fun x => { tmps := #[.func (.yield l) #[] #[], .pointer (some ⟨Be, 0, none⟩), .pointer (some ⟨Bl, 0, none⟩), .pointer (some ⟨W0.heap.size, 0, none⟩), .int .i64 mv.length, .int .i64 x, undef, undef, .pointer (some ⟨Be, 10, none⟩), .slice (some ⟨blk, 0, none⟩) mv.length mc, .int .i64 mv.length, .int .i64 mv.length, .bool true, .int .i64 b, .pointer (some ⟨Be, 10, none⟩), .slice (some ⟨blk, 0, none⟩) mv.length mc, .int .i64 mv.length, .int .i64 (mv.length - 1), .pointer (some ⟨blk, (mv.length - 1) * 2, none⟩), .pointer (some ⟨blk, (mv.length - 1) * 2, none⟩), .int .i64 y.1, .int .i64 L, .pointer (some ⟨Be, 2, none⟩), .int .i64 st, .pointer (some ⟨Be, 4, none⟩), .agg #[.string f, .int .i64 e, .slice ra ds.length rc, .int .i64 c, .int .i64 u], .func (.func 161) #[] #[.pointer (some ⟨z, 0, none⟩), .pointer (some ⟨z + 1, 0, none⟩)], .int .i64 x, undef, undef, undef, undef, undef, undef, undef, undef, undef, undef, undef, undef, undef, undef, undef, undef, undef, undef], defers := [] })
      ?assign ?body ?done ?stop
    case i0 =>
      intro W hS hsz
      have hj0 : J0 W := K0.out _ _ G0.out (ST3.out.trans (hS.mono (fun k hk => ⟨fun q => by have := hk.2; omega, by have := hk.2; omega⟩)))
      exact ⟨HL0.out ▸ K1.out W hj0 (by omega), hS.box YB3.out ⟨fun q => by omega, by omega⟩, hS.obj EK3.out ⟨fun q => by omega, by omega⟩, hS.box LB3.out ⟨fun q => by omega, by omega⟩, HR3.out.steps (fun k h1 h2 h3 => hS.block k ⟨fun q => by omega, by omega⟩ h3)⟩
    case i =>
      rintro h r W W' hh ⟨q1, q2, q3, q4, q5⟩ hS
      exact ⟨K2.out h _ W W' (by omega) q1.out (hS.mono (fun k hk => ⟨fun q => by rcases hk.2 with p | p <;> omega, by rcases hk.2 with p | p <;> omega⟩)), hS.box q2.out ⟨fun q => by omega, .inl (by omega)⟩, hS.obj q3.out ⟨fun q => by omega, .inl (by omega)⟩, hS.box q4.out ⟨fun q => by omega, .inl (by omega)⟩, q5.out.steps (fun k h1 h2 h3 => hS.block k ⟨fun q => by omega, .inl h2⟩ h3)⟩
    case ix =>
      rintro cd h W W' hh ⟨rfl, q⟩ hS
      have hS' : Steps (itK O W0.heap.size h) W W' := hS.mono (fun k hk => ⟨fun q => by rcases hk.2 with p | p <;> omega, by rcases hk.2 with p | p <;> omega⟩)
      rcases q with q | q
      · exact ⟨rfl, .inl (K2.out h _ W W' (by omega) q hS')⟩
      · exact ⟨rfl, .inr (K3.out h W W' (by omega) q hS')⟩
    case r0 =>
      intro W hS
      have hj0 : J0 W := K0.out _ _ G0.out (ST3.out.trans (hS.mono (fun k hk => ⟨fun q => by have := hk.2; omega, by have := hk.2; omega⟩)))
      exact ⟨(K5.out W hj0).1, (HR3.out.steps (fun k h1 h2 h3 => hS.block k ⟨fun q => by omega, by omega⟩ h3)).days⟩
    case r =>
      rintro h r W ⟨q1, _, _, _, q5⟩
      exact ⟨(K4.out h _ W q1.out).1, q5.out.days⟩
    case assign =>
      intro l' m x W K hK
      gi_wp2
      exact hK
    case body =>
      rintro l' m h x r W hm hh hhW ⟨q1, q2, q3, q4, q5⟩
      have h1m : 1 ≤ m := by omega
      have cL := Boxed.cell q4.out
      by_cases hov : L < x
      · have HJ : Hid (J h [] W) := by have := q1.out; rw [gvn_over hov] at this; exact this
        clear q1 q2 q3 q4 q5
        gi_wp2
        exact ⟨Steps.refl _ _, rfl, .inl HJ.out⟩
      · have hxl : x ≤ L := by omega
        have hrd := K4.out h _ W q1.out
        have BS : Hid (_) := binSearch_any sk _ x W hrd.2.2.1 HSK.out
        obtain ⟨x0, x1, x2, x3, x4, x5, x6, x7, x8, x9, x10⟩ := blk11 (show W.heap[Be]? = _ from q3.out)
        by_cases hin : x ∈ sk
        · have HJ : Hid (J h (gvn r sk mv L) W) := by have := q1.out; rw [gvn_skip hxl hin] at this; exact this
          rw [decide_eq_true hin] at BS
          clear hrd hin q1
          gi_wp2_with (refine ⟨trivial, ?_⟩; gi_at_call 119; refine (CallsIn.inRound l' (callsIn_wide.2 BS.out)).mono ?_; rintro r3 W' ⟨k, rfl, hbw⟩)
          have hS : ∀ p, Steps p W W' := fun p => Steps.of_below hbw
          exact ⟨hS _, K2.out h _ W W' (by omega) HJ.out (hS _), (hbw.block _ (Boxed.lt q2.out)).trans q2.out, q3.out.step hbw, (hbw.block _ (Boxed.lt q4.out)).trans q4.out, q5.out.steps (fun k h1 h2 h3 => hbw.block k h3)⟩
        · have HJ : Hid (J h (mvd mv x :: gvn r sk mv L) W) := by have := q1.out; rw [gvn_on hxl hin] at this; exact this
          rw [decide_eq_false hin] at BS
          clear hrd hin q1
          gi_wp2_with (refine ⟨trivial, ?_⟩; gi_at_call 119; refine (CallsIn.inRound l' (callsIn_wide.2 BS.out)).mono ?_; rintro r3 W' ⟨k, rfl, hbw⟩)
          have hS : ∀ p, Steps p W W' := fun p => Steps.of_below hbw
          have SS : Hid (∀ p, Steps p W W') := hS
          have J1 : Hid (J h (mvd mv x :: gvn r sk mv L) W') := K2.out h _ W W' (by omega) HJ.out (hS _)
          have Q2 : Hid (Boxed W' W0.heap.size 94 (.func (.yield l) #[] #[])) := (hbw.block _ (Boxed.lt q2.out)).trans q2.out
          have Q3 : Hid (EB W' Be ⟨idn, ti, st, lg, f, e, ds, c, u, sk, mv⟩ (.slice ra ds.length rc) (.slice sa sk.length sc) (.slice (some ⟨blk, 0, none⟩) mv.length mc)) := q3.out.step hbw
          have Q4 : Hid (Boxed W' Bl 3 (.int .i64 L)) := (hbw.block _ (Boxed.lt q4.out)).trans q4.out
          have Q5 : Hid (DaysIn (z + 2) W3.heap.size W' sl' ds) := q5.out.steps (fun k h1 h2 h3 => hbw.block k h3)
          have hhW' : h ≤ W'.heap.size := Nat.le_trans hhW hbw.size
          clear hS hbw HJ BS x0 x1 x2 x3 x4 x5 x6 x7 x8 x9 x10 cL
          have hmix : Tryz.prog.follows .mixedOrders = true := by kernel_rfl
          have Y3 : Boxed W'.drew W0.heap.size 94 (.func (.yield l) #[] #[]) := Q2.out
          have cY := Boxed.cell Y3
          obtain ⟨x0, x1, x2, x3, x4, x5, x6, x7, x8, x9, x10⟩ := blk11 (show W'.drew.heap[Be]? = _ from Q3.out)
          clear x0 x1 x2 x3 x4 x5 x6 x7 x8 x9 Y3
          have J2 : Hid (J h (mvd mv x :: gvn r sk mv L) W'.drew) := K2.out h _ _ _ (by omega) J1.out ⟨rfl, rfl, rfl, Nat.le_refl _, fun _ _ _ => rfl⟩
          have MT : Hid (_) := movedTo_any mv _ x W'.drew (K4.out h _ _ J2.out).2.2.2 HMR.out
          have SW : ∀ p W4, Below W'.drew.heap.size W'.drew W4 → Steps p W W4 := fun p W4 hb => (SS.out p).trans (Steps.trans (B := W'.drew) ⟨rfl, rfl, rfl, Nat.le_refl _, fun _ _ _ => rfl⟩ (Steps.of_below hb))
          have AT4 : Hid (∀ W4, Below W'.drew.heap.size W'.drew W4 → YieldAt Fence.wide (m - 1) Tryz.prog l #[.int .i64 (mvd mv x)] W4 fun e5 W5 => Steps (roK O W0.heap.size h) W W5 ∧ ((e5 = .returned (.bool true) ∧ J h (gvn r sk mv L) W5) ∨ (e5 = .returned (.bool false) ∧ Jx h W5))) := fun W4 hb => by
            obtain ⟨fn, tmps, assign, body, hy, hR⟩ := HY.out (m - 1) h (mvd mv x) (gvn r sk mv L) W4 (by omega) (by omega) (Nat.le_trans hhW' hb.size) (K2.out h _ W'.drew W4 (by omega) J2.out (Steps.of_below hb))
            exact ⟨fn, tmps, assign, body, hy, hR.mono (fun e5 W5 hh5 => ⟨(SW _ _ hb).trans hh5.1, hh5.2⟩)⟩
          have FIN : Hid (∀ W5, Steps (roK O W0.heap.size h) W W5 → Steps (roK (fun k => z ≤ k ∧ k < z + 2) W3.heap.size h) W W5) := fun W5 hS => hS.mono (fun k hk => by
            rcases hk with p | p
            · exact .inr (by omega)
            · exact .inr (by omega))
          have FB : Hid (∀ W5, Steps (roK O W0.heap.size h) W W5 → Hid (Boxed W5 W0.heap.size 94 (.func (.yield l) #[] #[])) ∧ Hid (EB W5 Be ⟨idn, ti, st, lg, f, e, ds, c, u, sk, mv⟩ (.slice ra ds.length rc) (.slice sa sk.length sc) (.slice (some ⟨blk, 0, none⟩) mv.length mc)) ∧ Hid (Boxed W5 Bl 3 (.int .i64 L)) ∧ Hid (DaysIn (z + 2) W3.heap.size W5 sl' ds)) := fun W5 hS =>
            ⟨hS.box q2.out (.inr (by omega)), hS.obj q3.out (.inl hO1), hS.box q4.out (.inl hO2), q5.out.steps (fun k h1 h2 h3 => hS.block k (.inr (by omega)) h3)⟩
          generalize mvd mv x = v at MT AT4
          clear J1 J2 SW SS Q2 Q3 Q4 Q5 q2 q3 q4 q5 hxl hov
          refine wpIn_region_any hmix ?_
          change wpAnyIn _ _ _ _ _ _ _ _ _ (World.drew _)
          refine wpAnyIn_ready (rs := [0, 1, 3]) (by kernel_rfl) (by simp) (AllReadyIn.cons rfl (fun K hK => ?_) (AllReadyIn.cons rfl (fun K hK => ?_) (AllReadyIn.cons rfl (fun K hK => ?_) AllReadyIn.nil)))
          · go_simp
            refine hK _ _ ?_
            clear hK K
            refine wpAnyIn_ready (rs := [1, 3]) (by kernel_rfl) (by simp) (AllReadyIn.cons rfl (fun K hK => ?_) (AllReadyIn.cons rfl (fun K hK => ?_) AllReadyIn.nil))
            · go_simp
              refine hK _ _ ?_
              clear hK K
              refine wpAnyIn_ready (rs := [2, 3]) (by kernel_rfl) (by simp) (AllReadyIn.cons rfl (fun K hK => ?_) (AllReadyIn.cons rfl (fun K hK => ?_) AllReadyIn.nil))
              · go_simp
                refine hK _ _ ?_
                clear hK K
                refine wpAnyIn_ready (rs := [3]) (by kernel_rfl) (by simp) (AllReadyIn.cons rfl (fun K hK => ?_) AllReadyIn.nil)
                go_simp
                refine hK _ _ ?_
                clear hK K
                refine wpAnyIn_ready (rs := [4]) (by kernel_rfl) (by simp) (AllReadyIn.cons rfl (fun K hK => ?_) AllReadyIn.nil)
                go_simp
                refine ⟨trivial, (CallsIn.inRound l' (callsIn_wide.2 MT.out)).mono ?_⟩
                rintro r4 W4 ⟨rfl, hb4⟩
                obtain ⟨fn, tmps, assign, body, hy, hR⟩ := AT4.out W4 hb4
                have cY4 := cell_step cY hb4
                clear hb4
                refine hK _ _ ?_
                clear hK K
                refine wpAnyIn_ready (rs := [5]) (by kernel_rfl) (by simp) (AllReadyIn.cons rfl (fun K hK => ?_) AllReadyIn.nil)
                go_simp
                refine RoundIn.mono (show RoundIn (Fence.wide.inRound l') _ _ _ _ _ _ _ _ _ from hR) ?_
                rintro r5 W5 ⟨hS5, (⟨rfl, hJ5⟩ | ⟨rfl, hJx5⟩)⟩
                · refine hK _ _ ?_
                  clear hK K
                  refine wpAnyIn_ready (rs := [6]) (by kernel_rfl) (by simp) (AllReadyIn.cons rfl (fun K hK => ?_) AllReadyIn.nil)
                  go_simp
                  refine hK _ _ ?_
                  clear hK K
                  refine wpAnyIn_done (by kernel_rfl) ?_ _
                  gi_wp2
                  exact ⟨FIN.out W5 hS5, hJ5, FB.out W5 hS5⟩
                · refine hK _ _ ?_
                  clear hK K
                  refine wpAnyIn_ready (rs := [6]) (by kernel_rfl) (by simp) (AllReadyIn.cons rfl (fun K hK => ?_) AllReadyIn.nil)
                  go_simp
                  refine hK _ _ ?_
                  clear hK K
                  refine wpAnyIn_done (by kernel_rfl) ?_ _
                  gi_wp2
                  exact ⟨FIN.out W5 hS5, rfl, .inr hJx5⟩
              · go_simp
                refine hK _ _ ?_
                clear hK K
                refine wpAnyIn_ready (rs := [2]) (by kernel_rfl) (by simp) (AllReadyIn.cons rfl (fun K hK => ?_) AllReadyIn.nil)
                go_simp
                refine hK _ _ ?_
                clear hK K
                refine wpAnyIn_ready (rs := [4]) (by kernel_rfl) (by simp) (AllReadyIn.cons rfl (fun K hK => ?_) AllReadyIn.nil)
                go_simp
                refine ⟨trivial, (CallsIn.inRound l' (callsIn_wide.2 MT.out)).mono ?_⟩
                rintro r4 W4 ⟨rfl, hb4⟩
                obtain ⟨fn, tmps, assign, body, hy, hR⟩ := AT4.out W4 hb4
                have cY4 := cell_step cY hb4
                clear hb4
                refine hK _ _ ?_
                clear hK K
                refine wpAnyIn_ready (rs := [5]) (by kernel_rfl) (by simp) (AllReadyIn.cons rfl (fun K hK => ?_) AllReadyIn.nil)
                go_simp
                refine RoundIn.mono (show RoundIn (Fence.wide.inRound l') _ _ _ _ _ _ _ _ _ from hR) ?_
                rintro r5 W5 ⟨hS5, (⟨rfl, hJ5⟩ | ⟨rfl, hJx5⟩)⟩
                · refine hK _ _ ?_
                  clear hK K
                  refine wpAnyIn_ready (rs := [6]) (by kernel_rfl) (by simp) (AllReadyIn.cons rfl (fun K hK => ?_) AllReadyIn.nil)
                  go_simp
                  refine hK _ _ ?_
                  clear hK K
                  refine wpAnyIn_done (by kernel_rfl) ?_ _
                  gi_wp2
                  exact ⟨FIN.out W5 hS5, hJ5, FB.out W5 hS5⟩
                · refine hK _ _ ?_
                  clear hK K
                  refine wpAnyIn_ready (rs := [6]) (by kernel_rfl) (by simp) (AllReadyIn.cons rfl (fun K hK => ?_) AllReadyIn.nil)
                  go_simp
                  refine hK _ _ ?_
                  clear hK K
                  refine wpAnyIn_done (by kernel_rfl) ?_ _
                  gi_wp2
                  exact ⟨FIN.out W5 hS5, rfl, .inr hJx5⟩
            · go_simp
              refine hK _ _ ?_
              clear hK K
              refine wpAnyIn_ready (rs := [1]) (by kernel_rfl) (by simp) (AllReadyIn.cons rfl (fun K hK => ?_) AllReadyIn.nil)
              go_simp
              refine hK _ _ ?_
              clear hK K
              refine wpAnyIn_ready (rs := [2]) (by kernel_rfl) (by simp) (AllReadyIn.cons rfl (fun K hK => ?_) AllReadyIn.nil)
              go_simp
              refine hK _ _ ?_
              clear hK K
              refine wpAnyIn_ready (rs := [4]) (by kernel_rfl) (by simp) (AllReadyIn.cons rfl (fun K hK => ?_) AllReadyIn.nil)
              go_simp
              refine ⟨trivial, (CallsIn.inRound l' (callsIn_wide.2 MT.out)).mono ?_⟩
              rintro r4 W4 ⟨rfl, hb4⟩
              obtain ⟨fn, tmps, assign, body, hy, hR⟩ := AT4.out W4 hb4
              have cY4 := cell_step cY hb4
              clear hb4
              refine hK _ _ ?_
              clear hK K
              refine wpAnyIn_ready (rs := [5]) (by kernel_rfl) (by simp) (AllReadyIn.cons rfl (fun K hK => ?_) AllReadyIn.nil)
              go_simp
              refine RoundIn.mono (show RoundIn (Fence.wide.inRound l') _ _ _ _ _ _ _ _ _ from hR) ?_
              rintro r5 W5 ⟨hS5, (⟨rfl, hJ5⟩ | ⟨rfl, hJx5⟩)⟩
              · refine hK _ _ ?_
                clear hK K
                refine wpAnyIn_ready (rs := [6]) (by kernel_rfl) (by simp) (AllReadyIn.cons rfl (fun K hK => ?_) AllReadyIn.nil)
                go_simp
                refine hK _ _ ?_
                clear hK K
                refine wpAnyIn_done (by kernel_rfl) ?_ _
                gi_wp2
                exact ⟨FIN.out W5 hS5, hJ5, FB.out W5 hS5⟩
              · refine hK _ _ ?_
                clear hK K
                refine wpAnyIn_ready (rs := [6]) (by kernel_rfl) (by simp) (AllReadyIn.cons rfl (fun K hK => ?_) AllReadyIn.nil)
                go_simp
                refine hK _ _ ?_
                clear hK K
                refine wpAnyIn_done (by kernel_rfl) ?_ _
                gi_wp2
                exact ⟨FIN.out W5 hS5, rfl, .inr hJx5⟩
          · go_simp
            refine hK _ _ ?_
            clear hK K
            refine wpAnyIn_ready (rs := [0, 2, 3]) (by kernel_rfl) (by simp) (AllReadyIn.cons rfl (fun K hK => ?_) (AllReadyIn.cons rfl (fun K hK => ?_) (AllReadyIn.cons rfl (fun K hK => ?_) AllReadyIn.nil)))
            · go_simp
              refine hK _ _ ?_
              clear hK K
              refine wpAnyIn_ready (rs := [2, 3]) (by kernel_rfl) (by simp) (AllReadyIn.cons rfl (fun K hK => ?_) (AllReadyIn.cons rfl (fun K hK => ?_) AllReadyIn.nil))
              · go_simp
                refine hK _ _ ?_
                clear hK K
                refine wpAnyIn_ready (rs := [3]) (by kernel_rfl) (by simp) (AllReadyIn.cons rfl (fun K hK => ?_) AllReadyIn.nil)
                go_simp
                refine hK _ _ ?_
                clear hK K
                refine wpAnyIn_ready (rs := [4]) (by kernel_rfl) (by simp) (AllReadyIn.cons rfl (fun K hK => ?_) AllReadyIn.nil)
                go_simp
                refine ⟨trivial, (CallsIn.inRound l' (callsIn_wide.2 MT.out)).mono ?_⟩
                rintro r4 W4 ⟨rfl, hb4⟩
                obtain ⟨fn, tmps, assign, body, hy, hR⟩ := AT4.out W4 hb4
                have cY4 := cell_step cY hb4
                clear hb4
                refine hK _ _ ?_
                clear hK K
                refine wpAnyIn_ready (rs := [5]) (by kernel_rfl) (by simp) (AllReadyIn.cons rfl (fun K hK => ?_) AllReadyIn.nil)
                go_simp
                refine RoundIn.mono (show RoundIn (Fence.wide.inRound l') _ _ _ _ _ _ _ _ _ from hR) ?_
                rintro r5 W5 ⟨hS5, (⟨rfl, hJ5⟩ | ⟨rfl, hJx5⟩)⟩
                · refine hK _ _ ?_
                  clear hK K
                  refine wpAnyIn_ready (rs := [6]) (by kernel_rfl) (by simp) (AllReadyIn.cons rfl (fun K hK => ?_) AllReadyIn.nil)
                  go_simp
                  refine hK _ _ ?_
                  clear hK K
                  refine wpAnyIn_done (by kernel_rfl) ?_ _
                  gi_wp2
                  exact ⟨FIN.out W5 hS5, hJ5, FB.out W5 hS5⟩
                · refine hK _ _ ?_
                  clear hK K
                  refine wpAnyIn_ready (rs := [6]) (by kernel_rfl) (by simp) (AllReadyIn.cons rfl (fun K hK => ?_) AllReadyIn.nil)
                  go_simp
                  refine hK _ _ ?_
                  clear hK K
                  refine wpAnyIn_done (by kernel_rfl) ?_ _
                  gi_wp2
                  exact ⟨FIN.out W5 hS5, rfl, .inr hJx5⟩
              · go_simp
                refine hK _ _ ?_
                clear hK K
                refine wpAnyIn_ready (rs := [2]) (by kernel_rfl) (by simp) (AllReadyIn.cons rfl (fun K hK => ?_) AllReadyIn.nil)
                go_simp
                refine hK _ _ ?_
                clear hK K
                refine wpAnyIn_ready (rs := [4]) (by kernel_rfl) (by simp) (AllReadyIn.cons rfl (fun K hK => ?_) AllReadyIn.nil)
                go_simp
                refine ⟨trivial, (CallsIn.inRound l' (callsIn_wide.2 MT.out)).mono ?_⟩
                rintro r4 W4 ⟨rfl, hb4⟩
                obtain ⟨fn, tmps, assign, body, hy, hR⟩ := AT4.out W4 hb4
                have cY4 := cell_step cY hb4
                clear hb4
                refine hK _ _ ?_
                clear hK K
                refine wpAnyIn_ready (rs := [5]) (by kernel_rfl) (by simp) (AllReadyIn.cons rfl (fun K hK => ?_) AllReadyIn.nil)
                go_simp
                refine RoundIn.mono (show RoundIn (Fence.wide.inRound l') _ _ _ _ _ _ _ _ _ from hR) ?_
                rintro r5 W5 ⟨hS5, (⟨rfl, hJ5⟩ | ⟨rfl, hJx5⟩)⟩
                · refine hK _ _ ?_
                  clear hK K
                  refine wpAnyIn_ready (rs := [6]) (by kernel_rfl) (by simp) (AllReadyIn.cons rfl (fun K hK => ?_) AllReadyIn.nil)
                  go_simp
                  refine hK _ _ ?_
                  clear hK K
                  refine wpAnyIn_done (by kernel_rfl) ?_ _
                  gi_wp2
                  exact ⟨FIN.out W5 hS5, hJ5, FB.out W5 hS5⟩
                · refine hK _ _ ?_
                  clear hK K
                  refine wpAnyIn_ready (rs := [6]) (by kernel_rfl) (by simp) (AllReadyIn.cons rfl (fun K hK => ?_) AllReadyIn.nil)
                  go_simp
                  refine hK _ _ ?_
                  clear hK K
                  refine wpAnyIn_done (by kernel_rfl) ?_ _
                  gi_wp2
                  exact ⟨FIN.out W5 hS5, rfl, .inr hJx5⟩
            · go_simp
              refine hK _ _ ?_
              clear hK K
              refine wpAnyIn_ready (rs := [0, 3]) (by kernel_rfl) (by simp) (AllReadyIn.cons rfl (fun K hK => ?_) (AllReadyIn.cons rfl (fun K hK => ?_) AllReadyIn.nil))
              · go_simp
                refine hK _ _ ?_
                clear hK K
                refine wpAnyIn_ready (rs := [3]) (by kernel_rfl) (by simp) (AllReadyIn.cons rfl (fun K hK => ?_) AllReadyIn.nil)
                go_simp
                refine hK _ _ ?_
                clear hK K
                refine wpAnyIn_ready (rs := [4]) (by kernel_rfl) (by simp) (AllReadyIn.cons rfl (fun K hK => ?_) AllReadyIn.nil)
                go_simp
                refine ⟨trivial, (CallsIn.inRound l' (callsIn_wide.2 MT.out)).mono ?_⟩
                rintro r4 W4 ⟨rfl, hb4⟩
                obtain ⟨fn, tmps, assign, body, hy, hR⟩ := AT4.out W4 hb4
                have cY4 := cell_step cY hb4
                clear hb4
                refine hK _ _ ?_
                clear hK K
                refine wpAnyIn_ready (rs := [5]) (by kernel_rfl) (by simp) (AllReadyIn.cons rfl (fun K hK => ?_) AllReadyIn.nil)
                go_simp
                refine RoundIn.mono (show RoundIn (Fence.wide.inRound l') _ _ _ _ _ _ _ _ _ from hR) ?_
                rintro r5 W5 ⟨hS5, (⟨rfl, hJ5⟩ | ⟨rfl, hJx5⟩)⟩
                · refine hK _ _ ?_
                  clear hK K
                  refine wpAnyIn_ready (rs := [6]) (by kernel_rfl) (by simp) (AllReadyIn.cons rfl (fun K hK => ?_) AllReadyIn.nil)
                  go_simp
                  refine hK _ _ ?_
                  clear hK K
                  refine wpAnyIn_done (by kernel_rfl) ?_ _
                  gi_wp2
                  exact ⟨FIN.out W5 hS5, hJ5, FB.out W5 hS5⟩
                · refine hK _ _ ?_
                  clear hK K
                  refine wpAnyIn_ready (rs := [6]) (by kernel_rfl) (by simp) (AllReadyIn.cons rfl (fun K hK => ?_) AllReadyIn.nil)
                  go_simp
                  refine hK _ _ ?_
                  clear hK K
                  refine wpAnyIn_done (by kernel_rfl) ?_ _
                  gi_wp2
                  exact ⟨FIN.out W5 hS5, rfl, .inr hJx5⟩
              · go_simp
                refine hK _ _ ?_
                clear hK K
                refine wpAnyIn_ready (rs := [0, 4]) (by kernel_rfl) (by simp) (AllReadyIn.cons rfl (fun K hK => ?_) (AllReadyIn.cons rfl (fun K hK => ?_) AllReadyIn.nil))
                · go_simp
                  refine hK _ _ ?_
                  clear hK K
                  refine wpAnyIn_ready (rs := [4]) (by kernel_rfl) (by simp) (AllReadyIn.cons rfl (fun K hK => ?_) AllReadyIn.nil)
                  go_simp
                  refine ⟨trivial, (CallsIn.inRound l' (callsIn_wide.2 MT.out)).mono ?_⟩
                  rintro r4 W4 ⟨rfl, hb4⟩
                  obtain ⟨fn, tmps, assign, body, hy, hR⟩ := AT4.out W4 hb4
                  have cY4 := cell_step cY hb4
                  clear hb4
                  refine hK _ _ ?_
                  clear hK K
                  refine wpAnyIn_ready (rs := [5]) (by kernel_rfl) (by simp) (AllReadyIn.cons rfl (fun K hK => ?_) AllReadyIn.nil)
                  go_simp
                  refine RoundIn.mono (show RoundIn (Fence.wide.inRound l') _ _ _ _ _ _ _ _ _ from hR) ?_
                  rintro r5 W5 ⟨hS5, (⟨rfl, hJ5⟩ | ⟨rfl, hJx5⟩)⟩
                  · refine hK _ _ ?_
                    clear hK K
                    refine wpAnyIn_ready (rs := [6]) (by kernel_rfl) (by simp) (AllReadyIn.cons rfl (fun K hK => ?_) AllReadyIn.nil)
                    go_simp
                    refine hK _ _ ?_
                    clear hK K
                    refine wpAnyIn_done (by kernel_rfl) ?_ _
                    gi_wp2
                    exact ⟨FIN.out W5 hS5, hJ5, FB.out W5 hS5⟩
                  · refine hK _ _ ?_
                    clear hK K
                    refine wpAnyIn_ready (rs := [6]) (by kernel_rfl) (by simp) (AllReadyIn.cons rfl (fun K hK => ?_) AllReadyIn.nil)
                    go_simp
                    refine hK _ _ ?_
                    clear hK K
                    refine wpAnyIn_done (by kernel_rfl) ?_ _
                    gi_wp2
                    exact ⟨FIN.out W5 hS5, rfl, .inr hJx5⟩
                · go_simp
                  refine ⟨trivial, (CallsIn.inRound l' (callsIn_wide.2 MT.out)).mono ?_⟩
                  rintro r4 W4 ⟨rfl, hb4⟩
                  obtain ⟨fn, tmps, assign, body, hy, hR⟩ := AT4.out W4 hb4
                  have cY4 := cell_step cY hb4
                  clear hb4
                  refine hK _ _ ?_
                  clear hK K
                  refine wpAnyIn_ready (rs := [0]) (by kernel_rfl) (by simp) (AllReadyIn.cons rfl (fun K hK => ?_) AllReadyIn.nil)
                  go_simp
                  refine hK _ _ ?_
                  clear hK K
                  refine wpAnyIn_ready (rs := [5]) (by kernel_rfl) (by simp) (AllReadyIn.cons rfl (fun K hK => ?_) AllReadyIn.nil)
                  go_simp
                  refine RoundIn.mono (show RoundIn (Fence.wide.inRound l') _ _ _ _ _ _ _ _ _ from hR) ?_
                  rintro r5 W5 ⟨hS5, (⟨rfl, hJ5⟩ | ⟨rfl, hJx5⟩)⟩
                  · refine hK _ _ ?_
                    clear hK K
                    refine wpAnyIn_ready (rs := [6]) (by kernel_rfl) (by simp) (AllReadyIn.cons rfl (fun K hK => ?_) AllReadyIn.nil)
                    go_simp
                    refine hK _ _ ?_
                    clear hK K
                    refine wpAnyIn_done (by kernel_rfl) ?_ _
                    gi_wp2
                    exact ⟨FIN.out W5 hS5, hJ5, FB.out W5 hS5⟩
                  · refine hK _ _ ?_
                    clear hK K
                    refine wpAnyIn_ready (rs := [6]) (by kernel_rfl) (by simp) (AllReadyIn.cons rfl (fun K hK => ?_) AllReadyIn.nil)
                    go_simp
                    refine hK _ _ ?_
                    clear hK K
                    refine wpAnyIn_done (by kernel_rfl) ?_ _
                    gi_wp2
                    exact ⟨FIN.out W5 hS5, rfl, .inr hJx5⟩
            · go_simp
              refine hK _ _ ?_
              clear hK K
              refine wpAnyIn_ready (rs := [0, 2]) (by kernel_rfl) (by simp) (AllReadyIn.cons rfl (fun K hK => ?_) (AllReadyIn.cons rfl (fun K hK => ?_) AllReadyIn.nil))
              · go_simp
                refine hK _ _ ?_
                clear hK K
                refine wpAnyIn_ready (rs := [2]) (by kernel_rfl) (by simp) (AllReadyIn.cons rfl (fun K hK => ?_) AllReadyIn.nil)
                go_simp
                refine hK _ _ ?_
                clear hK K
                refine wpAnyIn_ready (rs := [4]) (by kernel_rfl) (by simp) (AllReadyIn.cons rfl (fun K hK => ?_) AllReadyIn.nil)
                go_simp
                refine ⟨trivial, (CallsIn.inRound l' (callsIn_wide.2 MT.out)).mono ?_⟩
                rintro r4 W4 ⟨rfl, hb4⟩
                obtain ⟨fn, tmps, assign, body, hy, hR⟩ := AT4.out W4 hb4
                have cY4 := cell_step cY hb4
                clear hb4
                refine hK _ _ ?_
                clear hK K
                refine wpAnyIn_ready (rs := [5]) (by kernel_rfl) (by simp) (AllReadyIn.cons rfl (fun K hK => ?_) AllReadyIn.nil)
                go_simp
                refine RoundIn.mono (show RoundIn (Fence.wide.inRound l') _ _ _ _ _ _ _ _ _ from hR) ?_
                rintro r5 W5 ⟨hS5, (⟨rfl, hJ5⟩ | ⟨rfl, hJx5⟩)⟩
                · refine hK _ _ ?_
                  clear hK K
                  refine wpAnyIn_ready (rs := [6]) (by kernel_rfl) (by simp) (AllReadyIn.cons rfl (fun K hK => ?_) AllReadyIn.nil)
                  go_simp
                  refine hK _ _ ?_
                  clear hK K
                  refine wpAnyIn_done (by kernel_rfl) ?_ _
                  gi_wp2
                  exact ⟨FIN.out W5 hS5, hJ5, FB.out W5 hS5⟩
                · refine hK _ _ ?_
                  clear hK K
                  refine wpAnyIn_ready (rs := [6]) (by kernel_rfl) (by simp) (AllReadyIn.cons rfl (fun K hK => ?_) AllReadyIn.nil)
                  go_simp
                  refine hK _ _ ?_
                  clear hK K
                  refine wpAnyIn_done (by kernel_rfl) ?_ _
                  gi_wp2
                  exact ⟨FIN.out W5 hS5, rfl, .inr hJx5⟩
              · go_simp
                refine hK _ _ ?_
                clear hK K
                refine wpAnyIn_ready (rs := [0, 4]) (by kernel_rfl) (by simp) (AllReadyIn.cons rfl (fun K hK => ?_) (AllReadyIn.cons rfl (fun K hK => ?_) AllReadyIn.nil))
                · go_simp
                  refine hK _ _ ?_
                  clear hK K
                  refine wpAnyIn_ready (rs := [4]) (by kernel_rfl) (by simp) (AllReadyIn.cons rfl (fun K hK => ?_) AllReadyIn.nil)
                  go_simp
                  refine ⟨trivial, (CallsIn.inRound l' (callsIn_wide.2 MT.out)).mono ?_⟩
                  rintro r4 W4 ⟨rfl, hb4⟩
                  obtain ⟨fn, tmps, assign, body, hy, hR⟩ := AT4.out W4 hb4
                  have cY4 := cell_step cY hb4
                  clear hb4
                  refine hK _ _ ?_
                  clear hK K
                  refine wpAnyIn_ready (rs := [5]) (by kernel_rfl) (by simp) (AllReadyIn.cons rfl (fun K hK => ?_) AllReadyIn.nil)
                  go_simp
                  refine RoundIn.mono (show RoundIn (Fence.wide.inRound l') _ _ _ _ _ _ _ _ _ from hR) ?_
                  rintro r5 W5 ⟨hS5, (⟨rfl, hJ5⟩ | ⟨rfl, hJx5⟩)⟩
                  · refine hK _ _ ?_
                    clear hK K
                    refine wpAnyIn_ready (rs := [6]) (by kernel_rfl) (by simp) (AllReadyIn.cons rfl (fun K hK => ?_) AllReadyIn.nil)
                    go_simp
                    refine hK _ _ ?_
                    clear hK K
                    refine wpAnyIn_done (by kernel_rfl) ?_ _
                    gi_wp2
                    exact ⟨FIN.out W5 hS5, hJ5, FB.out W5 hS5⟩
                  · refine hK _ _ ?_
                    clear hK K
                    refine wpAnyIn_ready (rs := [6]) (by kernel_rfl) (by simp) (AllReadyIn.cons rfl (fun K hK => ?_) AllReadyIn.nil)
                    go_simp
                    refine hK _ _ ?_
                    clear hK K
                    refine wpAnyIn_done (by kernel_rfl) ?_ _
                    gi_wp2
                    exact ⟨FIN.out W5 hS5, rfl, .inr hJx5⟩
                · go_simp
                  refine ⟨trivial, (CallsIn.inRound l' (callsIn_wide.2 MT.out)).mono ?_⟩
                  rintro r4 W4 ⟨rfl, hb4⟩
                  obtain ⟨fn, tmps, assign, body, hy, hR⟩ := AT4.out W4 hb4
                  have cY4 := cell_step cY hb4
                  clear hb4
                  refine hK _ _ ?_
                  clear hK K
                  refine wpAnyIn_ready (rs := [0]) (by kernel_rfl) (by simp) (AllReadyIn.cons rfl (fun K hK => ?_) AllReadyIn.nil)
                  go_simp
                  refine hK _ _ ?_
                  clear hK K
                  refine wpAnyIn_ready (rs := [5]) (by kernel_rfl) (by simp) (AllReadyIn.cons rfl (fun K hK => ?_) AllReadyIn.nil)
                  go_simp
                  refine RoundIn.mono (show RoundIn (Fence.wide.inRound l') _ _ _ _ _ _ _ _ _ from hR) ?_
                  rintro r5 W5 ⟨hS5, (⟨rfl, hJ5⟩ | ⟨rfl, hJx5⟩)⟩
                  · refine hK _ _ ?_
                    clear hK K
                    refine wpAnyIn_ready (rs := [6]) (by kernel_rfl) (by simp) (AllReadyIn.cons rfl (fun K hK => ?_) AllReadyIn.nil)
                    go_simp
                    refine hK _ _ ?_
                    clear hK K
                    refine wpAnyIn_done (by kernel_rfl) ?_ _
                    gi_wp2
                    exact ⟨FIN.out W5 hS5, hJ5, FB.out W5 hS5⟩
                  · refine hK _ _ ?_
                    clear hK K
                    refine wpAnyIn_ready (rs := [6]) (by kernel_rfl) (by simp) (AllReadyIn.cons rfl (fun K hK => ?_) AllReadyIn.nil)
                    go_simp
                    refine hK _ _ ?_
                    clear hK K
                    refine wpAnyIn_done (by kernel_rfl) ?_ _
                    gi_wp2
                    exact ⟨FIN.out W5 hS5, rfl, .inr hJx5⟩
          · go_simp
            refine hK _ _ ?_
            clear hK K
            refine wpAnyIn_ready (rs := [0, 1]) (by kernel_rfl) (by simp) (AllReadyIn.cons rfl (fun K hK => ?_) (AllReadyIn.cons rfl (fun K hK => ?_) AllReadyIn.nil))
            · go_simp
              refine hK _ _ ?_
              clear hK K
              refine wpAnyIn_ready (rs := [1]) (by kernel_rfl) (by simp) (AllReadyIn.cons rfl (fun K hK => ?_) AllReadyIn.nil)
              go_simp
              refine hK _ _ ?_
              clear hK K
              refine wpAnyIn_ready (rs := [2]) (by kernel_rfl) (by simp) (AllReadyIn.cons rfl (fun K hK => ?_) AllReadyIn.nil)
              go_simp
              refine hK _ _ ?_
              clear hK K
              refine wpAnyIn_ready (rs := [4]) (by kernel_rfl) (by simp) (AllReadyIn.cons rfl (fun K hK => ?_) AllReadyIn.nil)
              go_simp
              refine ⟨trivial, (CallsIn.inRound l' (callsIn_wide.2 MT.out)).mono ?_⟩
              rintro r4 W4 ⟨rfl, hb4⟩
              obtain ⟨fn, tmps, assign, body, hy, hR⟩ := AT4.out W4 hb4
              have cY4 := cell_step cY hb4
              clear hb4
              refine hK _ _ ?_
              clear hK K
              refine wpAnyIn_ready (rs := [5]) (by kernel_rfl) (by simp) (AllReadyIn.cons rfl (fun K hK => ?_) AllReadyIn.nil)
              go_simp
              refine RoundIn.mono (show RoundIn (Fence.wide.inRound l') _ _ _ _ _ _ _ _ _ from hR) ?_
              rintro r5 W5 ⟨hS5, (⟨rfl, hJ5⟩ | ⟨rfl, hJx5⟩)⟩
              · refine hK _ _ ?_
                clear hK K
                refine wpAnyIn_ready (rs := [6]) (by kernel_rfl) (by simp) (AllReadyIn.cons rfl (fun K hK => ?_) AllReadyIn.nil)
                go_simp
                refine hK _ _ ?_
                clear hK K
                refine wpAnyIn_done (by kernel_rfl) ?_ _
                gi_wp2
                exact ⟨FIN.out W5 hS5, hJ5, FB.out W5 hS5⟩
              · refine hK _ _ ?_
                clear hK K
                refine wpAnyIn_ready (rs := [6]) (by kernel_rfl) (by simp) (AllReadyIn.cons rfl (fun K hK => ?_) AllReadyIn.nil)
                go_simp
                refine hK _ _ ?_
                clear hK K
                refine wpAnyIn_done (by kernel_rfl) ?_ _
                gi_wp2
                exact ⟨FIN.out W5 hS5, rfl, .inr hJx5⟩
            · go_simp
              refine hK _ _ ?_
              clear hK K
              refine wpAnyIn_ready (rs := [0, 2]) (by kernel_rfl) (by simp) (AllReadyIn.cons rfl (fun K hK => ?_) (AllReadyIn.cons rfl (fun K hK => ?_) AllReadyIn.nil))
              · go_simp
                refine hK _ _ ?_
                clear hK K
                refine wpAnyIn_ready (rs := [2]) (by kernel_rfl) (by simp) (AllReadyIn.cons rfl (fun K hK => ?_) AllReadyIn.nil)
                go_simp
                refine hK _ _ ?_
                clear hK K
                refine wpAnyIn_ready (rs := [4]) (by kernel_rfl) (by simp) (AllReadyIn.cons rfl (fun K hK => ?_) AllReadyIn.nil)
                go_simp
                refine ⟨trivial, (CallsIn.inRound l' (callsIn_wide.2 MT.out)).mono ?_⟩
                rintro r4 W4 ⟨rfl, hb4⟩
                obtain ⟨fn, tmps, assign, body, hy, hR⟩ := AT4.out W4 hb4
                have cY4 := cell_step cY hb4
                clear hb4
                refine hK _ _ ?_
                clear hK K
                refine wpAnyIn_ready (rs := [5]) (by kernel_rfl) (by simp) (AllReadyIn.cons rfl (fun K hK => ?_) AllReadyIn.nil)
                go_simp
                refine RoundIn.mono (show RoundIn (Fence.wide.inRound l') _ _ _ _ _ _ _ _ _ from hR) ?_
                rintro r5 W5 ⟨hS5, (⟨rfl, hJ5⟩ | ⟨rfl, hJx5⟩)⟩
                · refine hK _ _ ?_
                  clear hK K
                  refine wpAnyIn_ready (rs := [6]) (by kernel_rfl) (by simp) (AllReadyIn.cons rfl (fun K hK => ?_) AllReadyIn.nil)
                  go_simp
                  refine hK _ _ ?_
                  clear hK K
                  refine wpAnyIn_done (by kernel_rfl) ?_ _
                  gi_wp2
                  exact ⟨FIN.out W5 hS5, hJ5, FB.out W5 hS5⟩
                · refine hK _ _ ?_
                  clear hK K
                  refine wpAnyIn_ready (rs := [6]) (by kernel_rfl) (by simp) (AllReadyIn.cons rfl (fun K hK => ?_) AllReadyIn.nil)
                  go_simp
                  refine hK _ _ ?_
                  clear hK K
                  refine wpAnyIn_done (by kernel_rfl) ?_ _
                  gi_wp2
                  exact ⟨FIN.out W5 hS5, rfl, .inr hJx5⟩
              · go_simp
                refine hK _ _ ?_
                clear hK K
                refine wpAnyIn_ready (rs := [0, 4]) (by kernel_rfl) (by simp) (AllReadyIn.cons rfl (fun K hK => ?_) (AllReadyIn.cons rfl (fun K hK => ?_) AllReadyIn.nil))
                · go_simp
                  refine hK _ _ ?_
                  clear hK K
                  refine wpAnyIn_ready (rs := [4]) (by kernel_rfl) (by simp) (AllReadyIn.cons rfl (fun K hK => ?_) AllReadyIn.nil)
                  go_simp
                  refine ⟨trivial, (CallsIn.inRound l' (callsIn_wide.2 MT.out)).mono ?_⟩
                  rintro r4 W4 ⟨rfl, hb4⟩
                  obtain ⟨fn, tmps, assign, body, hy, hR⟩ := AT4.out W4 hb4
                  have cY4 := cell_step cY hb4
                  clear hb4
                  refine hK _ _ ?_
                  clear hK K
                  refine wpAnyIn_ready (rs := [5]) (by kernel_rfl) (by simp) (AllReadyIn.cons rfl (fun K hK => ?_) AllReadyIn.nil)
                  go_simp
                  refine RoundIn.mono (show RoundIn (Fence.wide.inRound l') _ _ _ _ _ _ _ _ _ from hR) ?_
                  rintro r5 W5 ⟨hS5, (⟨rfl, hJ5⟩ | ⟨rfl, hJx5⟩)⟩
                  · refine hK _ _ ?_
                    clear hK K
                    refine wpAnyIn_ready (rs := [6]) (by kernel_rfl) (by simp) (AllReadyIn.cons rfl (fun K hK => ?_) AllReadyIn.nil)
                    go_simp
                    refine hK _ _ ?_
                    clear hK K
                    refine wpAnyIn_done (by kernel_rfl) ?_ _
                    gi_wp2
                    exact ⟨FIN.out W5 hS5, hJ5, FB.out W5 hS5⟩
                  · refine hK _ _ ?_
                    clear hK K
                    refine wpAnyIn_ready (rs := [6]) (by kernel_rfl) (by simp) (AllReadyIn.cons rfl (fun K hK => ?_) AllReadyIn.nil)
                    go_simp
                    refine hK _ _ ?_
                    clear hK K
                    refine wpAnyIn_done (by kernel_rfl) ?_ _
                    gi_wp2
                    exact ⟨FIN.out W5 hS5, rfl, .inr hJx5⟩
                · go_simp
                  refine ⟨trivial, (CallsIn.inRound l' (callsIn_wide.2 MT.out)).mono ?_⟩
                  rintro r4 W4 ⟨rfl, hb4⟩
                  obtain ⟨fn, tmps, assign, body, hy, hR⟩ := AT4.out W4 hb4
                  have cY4 := cell_step cY hb4
                  clear hb4
                  refine hK _ _ ?_
                  clear hK K
                  refine wpAnyIn_ready (rs := [0]) (by kernel_rfl) (by simp) (AllReadyIn.cons rfl (fun K hK => ?_) AllReadyIn.nil)
                  go_simp
                  refine hK _ _ ?_
                  clear hK K
                  refine wpAnyIn_ready (rs := [5]) (by kernel_rfl) (by simp) (AllReadyIn.cons rfl (fun K hK => ?_) AllReadyIn.nil)
                  go_simp
                  refine RoundIn.mono (show RoundIn (Fence.wide.inRound l') _ _ _ _ _ _ _ _ _ from hR) ?_
                  rintro r5 W5 ⟨hS5, (⟨rfl, hJ5⟩ | ⟨rfl, hJx5⟩)⟩
                  · refine hK _ _ ?_
                    clear hK K
                    refine wpAnyIn_ready (rs := [6]) (by kernel_rfl) (by simp) (AllReadyIn.cons rfl (fun K hK => ?_) AllReadyIn.nil)
                    go_simp
                    refine hK _ _ ?_
                    clear hK K
                    refine wpAnyIn_done (by kernel_rfl) ?_ _
                    gi_wp2
                    exact ⟨FIN.out W5 hS5, hJ5, FB.out W5 hS5⟩
                  · refine hK _ _ ?_
                    clear hK K
                    refine wpAnyIn_ready (rs := [6]) (by kernel_rfl) (by simp) (AllReadyIn.cons rfl (fun K hK => ?_) AllReadyIn.nil)
                    go_simp
                    refine hK _ _ ?_
                    clear hK K
                    refine wpAnyIn_done (by kernel_rfl) ?_ _
                    gi_wp2
                    exact ⟨FIN.out W5 hS5, rfl, .inr hJx5⟩
    case done =>
      rintro h W hh hhW ⟨q1, _, _, _, _⟩ hK
      rw [gvn_nil] at q1
      gi_wp2
      refine ⟨by simp, .inl ⟨_, _, rfl, run_takeDeferred hK, ?_⟩⟩
      refine ⟨_, results_none rfl _ _ _, ⟨_, rfl⟩, h, by omega, by rw [World.putObj_size]; exact hhW, .inl (K2.out h _ _ _ (by omega) q1.out (Steps.put _ _ _ (fun q => by have q' := q.2; omega)))⟩
    case stop =>
      rintro cd h W hh hhW ⟨rfl, q⟩ hK
      have HQ : Hid (_) := q
      clear q
      gi_wp2
      refine ⟨by simp, .inl ⟨_, _, rfl, run_takeDeferred hK, ?_⟩⟩
      refine ⟨_, results_none rfl _ _ _, ⟨_, rfl⟩, h, by omega, by rw [World.putObj_size]; exact hhW, ?_⟩
      rcases HQ.out with q | q
      · exact .inl (K2.out h _ _ _ (by omega) q (Steps.put _ _ _ (fun q => by have q' := q.2; omega)))
      · exact .inr (K3.out h _ _ (by omega) q (Steps.put _ _ _ (fun q => by have q' := q.2; omega)))
  · have h0 : mv = [] := List.length_eq_zero_iff.1 (by omega)
    obtain ⟨L, hL⟩ : ∃ L, L = b := ⟨b, rfl⟩
    have HL0 : Hid (lastOf mv b = L) := by show _ = _; unfold lastOf; rw [dif_pos h0, hL]
    rw [← hL] at B2 cl
    clear h0 hL
    gi_wp2_with (fail)
    have E2 : Hid (EB W1 Be ⟨idn, ti, st, lg, f, e, ds, c, u, sk, mv⟩ (.slice ra ds.length rc) (.slice sa sk.length sc) (.slice ma mv.length mc)) := B1.out
    have L2 : Hid (Boxed W1 Bl 3 (.int .i64 L)) := B2.out
    have Y2 : Hid (_) := BY.out
    have HZ2 : Hid (W1.heap.size = W0.heap.size + 1) := hsz.out
    have ST : Hid (Steps (itO O W0.heap.size) W0 W1) := (Steps.below HA.out).mono (fun k hk => hk.2)
    clear B1 B2 BY hsz HA x0 x1 x2 x3 x4 x5 x6 x7 x8 x9 x10 cl HM hW1
    generalize W1 = W2 at E2 L2 Y2 HZ2 ST ⊢
    have hz2 := HZ2.out
    have hj2 : J0 W2 := K0.out _ _ G0.out ST.out
    have hd2 := (K5.out _ hj2).2.1
    have DA : Hid (_) := days_any f e _ ds c u st W2 hd2
    obtain ⟨x0, x1, x2, x3, x4, x5, x6, x7, x8, x9, x10⟩ := blk11 (show W2.heap[Be]? = _ from E2.out)
    clear hd2 hz2 hj2
    unfold rv at DA
    refine ⟨trivial, (callsIn_wide.2 DA.out).mono ?_⟩
    rintro r W3 ⟨rfl, hb3, hs3, sl', hmk⟩
    gi_wp2
    have HR3 : Hid (DaysIn (W2.heap.size + 2) W3.heap.size W3 sl' ds) := hmk.row
    have MK : Hid (Made f e ds c u st W2.heap.size W3 sl') := hmk
    have HB3 : Hid (_) := hb3
    have hzz1 : W0.heap.size + 1 ≤ W2.heap.size := by rw [HZ2.out]; exact Nat.le_refl _
    have hzz2 : W2.heap.size ≤ W0.heap.size + 1 := by rw [HZ2.out]; exact Nat.le_refl _
    clear DA hmk x0 x1 x2 x3 x4 x5 x6 x7 x8 x9 x10
    have EK3 : Hid (EB W3 Be ⟨idn, ti, st, lg, f, e, ds, c, u, sk, mv⟩ (.slice ra ds.length rc) (.slice sa sk.length sc) (.slice ma mv.length mc)) := E2.out.step hb3
    have LB3 : Hid (Boxed W3 Bl 3 (.int .i64 L)) := (hb3.block _ (Boxed.lt L2.out)).trans L2.out
    have YB3 : Hid (Boxed W3 W0.heap.size 94 (.func (.yield l) #[] #[])) := (hb3.block _ (Boxed.lt Y2.out)).trans Y2.out
    have ST3 : Hid (Steps (itO O W0.heap.size) W0 W3) := ST.out.trans ((Steps.below hb3).mono (fun k hk => by have := hk.2; omega))
    clear hb3 E2 L2 Y2
    clear HZ2 ST
    generalize W2.heap.size = z at hs3 hzz1 hzz2 HR3 MK HB3
    refine range_gives (aa := bb + 8) (bb := bb + 2) (by omega) rfl (enters_of Tryz.func161 (by kernel_rfl) rfl) rfl (fun W hW => (MK.out.step hW).gives (by omega) HX.out (fun k => z ≤ k ∧ k < z + 2) (by omega)) (fun k hk => by omega)
      (fun h r W => Hid (J h (gvn r sk mv L) W) ∧ Hid (Boxed W W0.heap.size 94 (.func (.yield l) #[] #[])) ∧ Hid (EB W Be ⟨idn, ti, st, lg, f, e, ds, c, u, sk, mv⟩ (.slice ra ds.length rc) (.slice sa sk.length sc) (.slice ma mv.length mc)) ∧ Hid (Boxed W Bl 3 (.int .i64 L)) ∧ Hid (DaysIn (z + 2) W3.heap.size W sl' ds))
      (fun cd h W => cd = .ret ∧ (J h [] W ∨ Jx h W))
      ?i0 ?i ?ix ?r0 ?r
      (fun x => { tmps := #[.func (.yield l) #[] #[], .pointer (some ⟨Be, 0, none⟩), .pointer (some ⟨Bl, 0, none⟩), .pointer (some ⟨W0.heap.size, 0, none⟩), .int .i64 mv.length, .int .i64 x, undef, undef, .pointer (some ⟨Be, 10, none⟩), .slice ma mv.length mc, .int .i64 mv.length, .int .i64 mv.length, .bool false, undef, undef, undef, undef, undef, undef, undef, undef, undef, .pointer (some ⟨Be, 2, none⟩), .int .i64 st, .pointer (some ⟨Be, 4, none⟩), .agg #[.string f, .int .i64 e, .slice ra ds.length rc, .int .i64 c, .int .i64 u], .func (.func 161) #[] #[.pointer (some ⟨z, 0, none⟩), .pointer (some ⟨z + 1, 0, none⟩)], .int .i64 x, undef, undef, undef, undef, undef, undef, undef, undef, undef, undef, undef, undef, undef, undef, undef, undef, undef, undef], defers := [] })
      ?assign ?body ?done ?stop
    case i0 =>
      intro W hS hsz
      have hj0 : J0 W := K0.out _ _ G0.out (ST3.out.trans (hS.mono (fun k hk => ⟨fun q => by have := hk.2; omega, by have := hk.2; omega⟩)))
      exact ⟨HL0.out ▸ K1.out W hj0 (by omega), hS.box YB3.out ⟨fun q => by omega, by omega⟩, hS.obj EK3.out ⟨fun q => by omega, by omega⟩, hS.box LB3.out ⟨fun q => by omega, by omega⟩, HR3.out.steps (fun k h1 h2 h3 => hS.block k ⟨fun q => by omega, by omega⟩ h3)⟩
    case i =>
      rintro h r W W' hh ⟨q1, q2, q3, q4, q5⟩ hS
      exact ⟨K2.out h _ W W' (by omega) q1.out (hS.mono (fun k hk => ⟨fun q => by rcases hk.2 with p | p <;> omega, by rcases hk.2 with p | p <;> omega⟩)), hS.box q2.out ⟨fun q => by omega, .inl (by omega)⟩, hS.obj q3.out ⟨fun q => by omega, .inl (by omega)⟩, hS.box q4.out ⟨fun q => by omega, .inl (by omega)⟩, q5.out.steps (fun k h1 h2 h3 => hS.block k ⟨fun q => by omega, .inl h2⟩ h3)⟩
    case ix =>
      rintro cd h W W' hh ⟨rfl, q⟩ hS
      have hS' : Steps (itK O W0.heap.size h) W W' := hS.mono (fun k hk => ⟨fun q => by rcases hk.2 with p | p <;> omega, by rcases hk.2 with p | p <;> omega⟩)
      rcases q with q | q
      · exact ⟨rfl, .inl (K2.out h _ W W' (by omega) q hS')⟩
      · exact ⟨rfl, .inr (K3.out h W W' (by omega) q hS')⟩
    case r0 =>
      intro W hS
      have hj0 : J0 W := K0.out _ _ G0.out (ST3.out.trans (hS.mono (fun k hk => ⟨fun q => by have := hk.2; omega, by have := hk.2; omega⟩)))
      exact ⟨(K5.out W hj0).1, (HR3.out.steps (fun k h1 h2 h3 => hS.block k ⟨fun q => by omega, by omega⟩ h3)).days⟩
    case r =>
      rintro h r W ⟨q1, _, _, _, q5⟩
      exact ⟨(K4.out h _ W q1.out).1, q5.out.days⟩
    case assign =>
      intro l' m x W K hK
      gi_wp2
      exact hK
    case body =>
      rintro l' m h x r W hm hh hhW ⟨q1, q2, q3, q4, q5⟩
      have h1m : 1 ≤ m := by omega
      have cL := Boxed.cell q4.out
      by_cases hov : L < x
      · have HJ : Hid (J h [] W) := by have := q1.out; rw [gvn_over hov] at this; exact this
        clear q1 q2 q3 q4 q5
        gi_wp2
        exact ⟨Steps.refl _ _, rfl, .inl HJ.out⟩
      · have hxl : x ≤ L := by omega
        have hrd := K4.out h _ W q1.out
        have BS : Hid (_) := binSearch_any sk _ x W hrd.2.2.1 HSK.out
        obtain ⟨x0, x1, x2, x3, x4, x5, x6, x7, x8, x9, x10⟩ := blk11 (show W.heap[Be]? = _ from q3.out)
        by_cases hin : x ∈ sk
        · have HJ : Hid (J h (gvn r sk mv L) W) := by have := q1.out; rw [gvn_skip hxl hin] at this; exact this
          rw [decide_eq_true hin] at BS
          clear hrd hin q1
          gi_wp2_with (refine ⟨trivial, ?_⟩; gi_at_call 119; refine (CallsIn.inRound l' (callsIn_wide.2 BS.out)).mono ?_; rintro r3 W' ⟨k, rfl, hbw⟩)
          have hS : ∀ p, Steps p W W' := fun p => Steps.of_below hbw
          exact ⟨hS _, K2.out h _ W W' (by omega) HJ.out (hS _), (hbw.block _ (Boxed.lt q2.out)).trans q2.out, q3.out.step hbw, (hbw.block _ (Boxed.lt q4.out)).trans q4.out, q5.out.steps (fun k h1 h2 h3 => hbw.block k h3)⟩
        · have HJ : Hid (J h (mvd mv x :: gvn r sk mv L) W) := by have := q1.out; rw [gvn_on hxl hin] at this; exact this
          rw [decide_eq_false hin] at BS
          clear hrd hin q1
          gi_wp2_with (refine ⟨trivial, ?_⟩; gi_at_call 119; refine (CallsIn.inRound l' (callsIn_wide.2 BS.out)).mono ?_; rintro r3 W' ⟨k, rfl, hbw⟩)
          have hS : ∀ p, Steps p W W' := fun p => Steps.of_below hbw
          have SS : Hid (∀ p, Steps p W W') := hS
          have J1 : Hid (J h (mvd mv x :: gvn r sk mv L) W') := K2.out h _ W W' (by omega) HJ.out (hS _)
          have Q2 : Hid (Boxed W' W0.heap.size 94 (.func (.yield l) #[] #[])) := (hbw.block _ (Boxed.lt q2.out)).trans q2.out
          have Q3 : Hid (EB W' Be ⟨idn, ti, st, lg, f, e, ds, c, u, sk, mv⟩ (.slice ra ds.length rc) (.slice sa sk.length sc) (.slice ma mv.length mc)) := q3.out.step hbw
          have Q4 : Hid (Boxed W' Bl 3 (.int .i64 L)) := (hbw.block _ (Boxed.lt q4.out)).trans q4.out
          have Q5 : Hid (DaysIn (z + 2) W3.heap.size W' sl' ds) := q5.out.steps (fun k h1 h2 h3 => hbw.block k h3)
          have hhW' : h ≤ W'.heap.size := Nat.le_trans hhW hbw.size
          clear hS hbw HJ BS x0 x1 x2 x3 x4 x5 x6 x7 x8 x9 x10 cL
          have hmix : Tryz.prog.follows .mixedOrders = true := by kernel_rfl
          have Y3 : Boxed W'.drew W0.heap.size 94 (.func (.yield l) #[] #[]) := Q2.out
          have cY := Boxed.cell Y3
          obtain ⟨x0, x1, x2, x3, x4, x5, x6, x7, x8, x9, x10⟩ := blk11 (show W'.drew.heap[Be]? = _ from Q3.out)
          clear x0 x1 x2 x3 x4 x5 x6 x7 x8 x9 Y3
          have J2 : Hid (J h (mvd mv x :: gvn r sk mv L) W'.drew) := K2.out h _ _ _ (by omega) J1.out ⟨rfl, rfl, rfl, Nat.le_refl _, fun _ _ _ => rfl⟩
          have MT : Hid (_) := movedTo_any mv _ x W'.drew (K4.out h _ _ J2.out).2.2.2 HMR.out
          have SW : ∀ p W4, Below W'.drew.heap.size W'.drew W4 → Steps p W W4 := fun p W4 hb => (SS.out p).trans (Steps.trans (B := W'.drew) ⟨rfl, rfl, rfl, Nat.le_refl _, fun _ _ _ => rfl⟩ (Steps.of_below hb))
          have AT4 : Hid (∀ W4, Below W'.drew.heap.size W'.drew W4 → YieldAt Fence.wide (m - 1) Tryz.prog l #[.int .i64 (mvd mv x)] W4 fun e5 W5 => Steps (roK O W0.heap.size h) W W5 ∧ ((e5 = .returned (.bool true) ∧ J h (gvn r sk mv L) W5) ∨ (e5 = .returned (.bool false) ∧ Jx h W5))) := fun W4 hb => by
            obtain ⟨fn, tmps, assign, body, hy, hR⟩ := HY.out (m - 1) h (mvd mv x) (gvn r sk mv L) W4 (by omega) (by omega) (Nat.le_trans hhW' hb.size) (K2.out h _ W'.drew W4 (by omega) J2.out (Steps.of_below hb))
            exact ⟨fn, tmps, assign, body, hy, hR.mono (fun e5 W5 hh5 => ⟨(SW _ _ hb).trans hh5.1, hh5.2⟩)⟩
          have FIN : Hid (∀ W5, Steps (roK O W0.heap.size h) W W5 → Steps (roK (fun k => z ≤ k ∧ k < z + 2) W3.heap.size h) W W5) := fun W5 hS => hS.mono (fun k hk => by
            rcases hk with p | p
            · exact .inr (by omega)
            · exact .inr (by omega))
          have FB : Hid (∀ W5, Steps (roK O W0.heap.size h) W W5 → Hid (Boxed W5 W0.heap.size 94 (.func (.yield l) #[] #[])) ∧ Hid (EB W5 Be ⟨idn, ti, st, lg, f, e, ds, c, u, sk, mv⟩ (.slice ra ds.length rc) (.slice sa sk.length sc) (.slice ma mv.length mc)) ∧ Hid (Boxed W5 Bl 3 (.int .i64 L)) ∧ Hid (DaysIn (z + 2) W3.heap.size W5 sl' ds)) := fun W5 hS =>
            ⟨hS.box q2.out (.inr (by omega)), hS.obj q3.out (.inl hO1), hS.box q4.out (.inl hO2), q5.out.steps (fun k h1 h2 h3 => hS.block k (.inr (by omega)) h3)⟩
          generalize mvd mv x = v at MT AT4
          clear J1 J2 SW SS Q2 Q3 Q4 Q5 q2 q3 q4 q5 hxl hov
          refine wpIn_region_any hmix ?_
          change wpAnyIn _ _ _ _ _ _ _ _ _ (World.drew _)
          refine wpAnyIn_ready (rs := [0, 1, 3]) (by kernel_rfl) (by simp) (AllReadyIn.cons rfl (fun K hK => ?_) (AllReadyIn.cons rfl (fun K hK => ?_) (AllReadyIn.cons rfl (fun K hK => ?_) AllReadyIn.nil)))
          · go_simp
            refine hK _ _ ?_
            clear hK K
            refine wpAnyIn_ready (rs := [1, 3]) (by kernel_rfl) (by simp) (AllReadyIn.cons rfl (fun K hK => ?_) (AllReadyIn.cons rfl (fun K hK => ?_) AllReadyIn.nil))
            · go_simp
              refine hK _ _ ?_
              clear hK K
              refine wpAnyIn_ready (rs := [2, 3]) (by kernel_rfl) (by simp) (AllReadyIn.cons rfl (fun K hK => ?_) (AllReadyIn.cons rfl (fun K hK => ?_) AllReadyIn.nil))
              · go_simp
                refine hK _ _ ?_
                clear hK K
                refine wpAnyIn_ready (rs := [3]) (by kernel_rfl) (by simp) (AllReadyIn.cons rfl (fun K hK => ?_) AllReadyIn.nil)
                go_simp
                refine hK _ _ ?_
                clear hK K
                refine wpAnyIn_ready (rs := [4]) (by kernel_rfl) (by simp) (AllReadyIn.cons rfl (fun K hK => ?_) AllReadyIn.nil)
                go_simp
                refine ⟨trivial, (CallsIn.inRound l' (callsIn_wide.2 MT.out)).mono ?_⟩
                rintro r4 W4 ⟨rfl, hb4⟩
                obtain ⟨fn, tmps, assign, body, hy, hR⟩ := AT4.out W4 hb4
                have cY4 := cell_step cY hb4
                clear hb4
                refine hK _ _ ?_
                clear hK K
                refine wpAnyIn_ready (rs := [5]) (by kernel_rfl) (by simp) (AllReadyIn.cons rfl (fun K hK => ?_) AllReadyIn.nil)
                go_simp
                refine RoundIn.mono (show RoundIn (Fence.wide.inRound l') _ _ _ _ _ _ _ _ _ from hR) ?_
                rintro r5 W5 ⟨hS5, (⟨rfl, hJ5⟩ | ⟨rfl, hJx5⟩)⟩
                · refine hK _ _ ?_
                  clear hK K
                  refine wpAnyIn_ready (rs := [6]) (by kernel_rfl) (by simp) (AllReadyIn.cons rfl (fun K hK => ?_) AllReadyIn.nil)
                  go_simp
                  refine hK _ _ ?_
                  clear hK K
                  refine wpAnyIn_done (by kernel_rfl) ?_ _
                  gi_wp2
                  exact ⟨FIN.out W5 hS5, hJ5, FB.out W5 hS5⟩
                · refine hK _ _ ?_
                  clear hK K
                  refine wpAnyIn_ready (rs := [6]) (by kernel_rfl) (by simp) (AllReadyIn.cons rfl (fun K hK => ?_) AllReadyIn.nil)
                  go_simp
                  refine hK _ _ ?_
                  clear hK K
                  refine wpAnyIn_done (by kernel_rfl) ?_ _
                  gi_wp2
                  exact ⟨FIN.out W5 hS5, rfl, .inr hJx5⟩
              · go_simp
                refine hK _ _ ?_
                clear hK K
                refine wpAnyIn_ready (rs := [2]) (by kernel_rfl) (by simp) (AllReadyIn.cons rfl (fun K hK => ?_) AllReadyIn.nil)
                go_simp
                refine hK _ _ ?_
                clear hK K
                refine wpAnyIn_ready (rs := [4]) (by kernel_rfl) (by simp) (AllReadyIn.cons rfl (fun K hK => ?_) AllReadyIn.nil)
                go_simp
                refine ⟨trivial, (CallsIn.inRound l' (callsIn_wide.2 MT.out)).mono ?_⟩
                rintro r4 W4 ⟨rfl, hb4⟩
                obtain ⟨fn, tmps, assign, body, hy, hR⟩ := AT4.out W4 hb4
                have cY4 := cell_step cY hb4
                clear hb4
                refine hK _ _ ?_
                clear hK K
                refine wpAnyIn_ready (rs := [5]) (by kernel_rfl) (by simp) (AllReadyIn.cons rfl (fun K hK => ?_) AllReadyIn.nil)
                go_simp
                refine RoundIn.mono (show RoundIn (Fence.wide.inRound l') _ _ _ _ _ _ _ _ _ from hR) ?_
                rintro r5 W5 ⟨hS5, (⟨rfl, hJ5⟩ | ⟨rfl, hJx5⟩)⟩
                · refine hK _ _ ?_
                  clear hK K
                  refine wpAnyIn_ready (rs := [6]) (by kernel_rfl) (by simp) (AllReadyIn.cons rfl (fun K hK => ?_) AllReadyIn.nil)
                  go_simp
                  refine hK _ _ ?_
                  clear hK K
                  refine wpAnyIn_done (by kernel_rfl) ?_ _
                  gi_wp2
                  exact ⟨FIN.out W5 hS5, hJ5, FB.out W5 hS5⟩
                · refine hK _ _ ?_
                  clear hK K
                  refine wpAnyIn_ready (rs := [6]) (by kernel_rfl) (by simp) (AllReadyIn.cons rfl (fun K hK => ?_) AllReadyIn.nil)
                  go_simp
                  refine hK _ _ ?_
                  clear hK K
                  refine wpAnyIn_done (by kernel_rfl) ?_ _
                  gi_wp2
                  exact ⟨FIN.out W5 hS5, rfl, .inr hJx5⟩
            · go_simp
              refine hK _ _ ?_
              clear hK K
              refine wpAnyIn_ready (rs := [1]) (by kernel_rfl) (by simp) (AllReadyIn.cons rfl (fun K hK => ?_) AllReadyIn.nil)
              go_simp
              refine hK _ _ ?_
              clear hK K
              refine wpAnyIn_ready (rs := [2]) (by kernel_rfl) (by simp) (AllReadyIn.cons rfl (fun K hK => ?_) AllReadyIn.nil)
              go_simp
              refine hK _ _ ?_
              clear hK K
              refine wpAnyIn_ready (rs := [4]) (by kernel_rfl) (by simp) (AllReadyIn.cons rfl (fun K hK => ?_) AllReadyIn.nil)
              go_simp
              refine ⟨trivial, (CallsIn.inRound l' (callsIn_wide.2 MT.out)).mono ?_⟩
              rintro r4 W4 ⟨rfl, hb4⟩
              obtain ⟨fn, tmps, assign, body, hy, hR⟩ := AT4.out W4 hb4
              have cY4 := cell_step cY hb4
              clear hb4
              refine hK _ _ ?_
              clear hK K
              refine wpAnyIn_ready (rs := [5]) (by kernel_rfl) (by simp) (AllReadyIn.cons rfl (fun K hK => ?_) AllReadyIn.nil)
              go_simp
              refine RoundIn.mono (show RoundIn (Fence.wide.inRound l') _ _ _ _ _ _ _ _ _ from hR) ?_
              rintro r5 W5 ⟨hS5, (⟨rfl, hJ5⟩ | ⟨rfl, hJx5⟩)⟩
              · refine hK _ _ ?_
                clear hK K
                refine wpAnyIn_ready (rs := [6]) (by kernel_rfl) (by simp) (AllReadyIn.cons rfl (fun K hK => ?_) AllReadyIn.nil)
                go_simp
                refine hK _ _ ?_
                clear hK K
                refine wpAnyIn_done (by kernel_rfl) ?_ _
                gi_wp2
                exact ⟨FIN.out W5 hS5, hJ5, FB.out W5 hS5⟩
              · refine hK _ _ ?_
                clear hK K
                refine wpAnyIn_ready (rs := [6]) (by kernel_rfl) (by simp) (AllReadyIn.cons rfl (fun K hK => ?_) AllReadyIn.nil)
                go_simp
                refine hK _ _ ?_
                clear hK K
                refine wpAnyIn_done (by kernel_rfl) ?_ _
                gi_wp2
                exact ⟨FIN.out W5 hS5, rfl, .inr hJx5⟩
          · go_simp
            refine hK _ _ ?_
            clear hK K
            refine wpAnyIn_ready (rs := [0, 2, 3]) (by kernel_rfl) (by simp) (AllReadyIn.cons rfl (fun K hK => ?_) (AllReadyIn.cons rfl (fun K hK => ?_) (AllReadyIn.cons rfl (fun K hK => ?_) AllReadyIn.nil)))
            · go_simp
              refine hK _ _ ?_
              clear hK K
              refine wpAnyIn_ready (rs := [2, 3]) (by kernel_rfl) (by simp) (AllReadyIn.cons rfl (fun K hK => ?_) (AllReadyIn.cons rfl (fun K hK => ?_) AllReadyIn.nil))
              · go_simp
                refine hK _ _ ?_
                clear hK K
                refine wpAnyIn_ready (rs := [3]) (by kernel_rfl) (by simp) (AllReadyIn.cons rfl (fun K hK => ?_) AllReadyIn.nil)
                go_simp
                refine hK _ _ ?_
                clear hK K
                refine wpAnyIn_ready (rs := [4]) (by kernel_rfl) (by simp) (AllReadyIn.cons rfl (fun K hK => ?_) AllReadyIn.nil)
                go_simp
                refine ⟨trivial, (CallsIn.inRound l' (callsIn_wide.2 MT.out)).mono ?_⟩
                rintro r4 W4 ⟨rfl, hb4⟩
                obtain ⟨fn, tmps, assign, body, hy, hR⟩ := AT4.out W4 hb4
                have cY4 := cell_step cY hb4
                clear hb4
                refine hK _ _ ?_
                clear hK K
                refine wpAnyIn_ready (rs := [5]) (by kernel_rfl) (by simp) (AllReadyIn.cons rfl (fun K hK => ?_) AllReadyIn.nil)
                go_simp
                refine RoundIn.mono (show RoundIn (Fence.wide.inRound l') _ _ _ _ _ _ _ _ _ from hR) ?_
                rintro r5 W5 ⟨hS5, (⟨rfl, hJ5⟩ | ⟨rfl, hJx5⟩)⟩
                · refine hK _ _ ?_
                  clear hK K
                  refine wpAnyIn_ready (rs := [6]) (by kernel_rfl) (by simp) (AllReadyIn.cons rfl (fun K hK => ?_) AllReadyIn.nil)
                  go_simp
                  refine hK _ _ ?_
                  clear hK K
                  refine wpAnyIn_done (by kernel_rfl) ?_ _
                  gi_wp2
                  exact ⟨FIN.out W5 hS5, hJ5, FB.out W5 hS5⟩
                · refine hK _ _ ?_
                  clear hK K
                  refine wpAnyIn_ready (rs := [6]) (by kernel_rfl) (by simp) (AllReadyIn.cons rfl (fun K hK => ?_) AllReadyIn.nil)
                  go_simp
                  refine hK _ _ ?_
                  clear hK K
                  refine wpAnyIn_done (by kernel_rfl) ?_ _
                  gi_wp2
                  exact ⟨FIN.out W5 hS5, rfl, .inr hJx5⟩
              · go_simp
                refine hK _ _ ?_
                clear hK K
                refine wpAnyIn_ready (rs := [2]) (by kernel_rfl) (by simp) (AllReadyIn.cons rfl (fun K hK => ?_) AllReadyIn.nil)
                go_simp
                refine hK _ _ ?_
                clear hK K
                refine wpAnyIn_ready (rs := [4]) (by kernel_rfl) (by simp) (AllReadyIn.cons rfl (fun K hK => ?_) AllReadyIn.nil)
                go_simp
                refine ⟨trivial, (CallsIn.inRound l' (callsIn_wide.2 MT.out)).mono ?_⟩
                rintro r4 W4 ⟨rfl, hb4⟩
                obtain ⟨fn, tmps, assign, body, hy, hR⟩ := AT4.out W4 hb4
                have cY4 := cell_step cY hb4
                clear hb4
                refine hK _ _ ?_
                clear hK K
                refine wpAnyIn_ready (rs := [5]) (by kernel_rfl) (by simp) (AllReadyIn.cons rfl (fun K hK => ?_) AllReadyIn.nil)
                go_simp
                refine RoundIn.mono (show RoundIn (Fence.wide.inRound l') _ _ _ _ _ _ _ _ _ from hR) ?_
                rintro r5 W5 ⟨hS5, (⟨rfl, hJ5⟩ | ⟨rfl, hJx5⟩)⟩
                · refine hK _ _ ?_
                  clear hK K
                  refine wpAnyIn_ready (rs := [6]) (by kernel_rfl) (by simp) (AllReadyIn.cons rfl (fun K hK => ?_) AllReadyIn.nil)
                  go_simp
                  refine hK _ _ ?_
                  clear hK K
                  refine wpAnyIn_done (by kernel_rfl) ?_ _
                  gi_wp2
                  exact ⟨FIN.out W5 hS5, hJ5, FB.out W5 hS5⟩
                · refine hK _ _ ?_
                  clear hK K
                  refine wpAnyIn_ready (rs := [6]) (by kernel_rfl) (by simp) (AllReadyIn.cons rfl (fun K hK => ?_) AllReadyIn.nil)
                  go_simp
                  refine hK _ _ ?_
                  clear hK K
                  refine wpAnyIn_done (by kernel_rfl) ?_ _
                  gi_wp2
                  exact ⟨FIN.out W5 hS5, rfl, .inr hJx5⟩
            · go_simp
              refine hK _ _ ?_
              clear hK K
              refine wpAnyIn_ready (rs := [0, 3]) (by kernel_rfl) (by simp) (AllReadyIn.cons rfl (fun K hK => ?_) (AllReadyIn.cons rfl (fun K hK => ?_) AllReadyIn.nil))
              · go_simp
                refine hK _ _ ?_
                clear hK K
                refine wpAnyIn_ready (rs := [3]) (by kernel_rfl) (by simp) (AllReadyIn.cons rfl (fun K hK => ?_) AllReadyIn.nil)
                go_simp
                refine hK _ _ ?_
                clear hK K
                refine wpAnyIn_ready (rs := [4]) (by kernel_rfl) (by simp) (AllReadyIn.cons rfl (fun K hK => ?_) AllReadyIn.nil)
                go_simp
                refine ⟨trivial, (CallsIn.inRound l' (callsIn_wide.2 MT.out)).mono ?_⟩
                rintro r4 W4 ⟨rfl, hb4⟩
                obtain ⟨fn, tmps, assign, body, hy, hR⟩ := AT4.out W4 hb4
                have cY4 := cell_step cY hb4
                clear hb4
                refine hK _ _ ?_
                clear hK K
                refine wpAnyIn_ready (rs := [5]) (by kernel_rfl) (by simp) (AllReadyIn.cons rfl (fun K hK => ?_) AllReadyIn.nil)
                go_simp
                refine RoundIn.mono (show RoundIn (Fence.wide.inRound l') _ _ _ _ _ _ _ _ _ from hR) ?_
                rintro r5 W5 ⟨hS5, (⟨rfl, hJ5⟩ | ⟨rfl, hJx5⟩)⟩
                · refine hK _ _ ?_
                  clear hK K
                  refine wpAnyIn_ready (rs := [6]) (by kernel_rfl) (by simp) (AllReadyIn.cons rfl (fun K hK => ?_) AllReadyIn.nil)
                  go_simp
                  refine hK _ _ ?_
                  clear hK K
                  refine wpAnyIn_done (by kernel_rfl) ?_ _
                  gi_wp2
                  exact ⟨FIN.out W5 hS5, hJ5, FB.out W5 hS5⟩
                · refine hK _ _ ?_
                  clear hK K
                  refine wpAnyIn_ready (rs := [6]) (by kernel_rfl) (by simp) (AllReadyIn.cons rfl (fun K hK => ?_) AllReadyIn.nil)
                  go_simp
                  refine hK _ _ ?_
                  clear hK K
                  refine wpAnyIn_done (by kernel_rfl) ?_ _
                  gi_wp2
                  exact ⟨FIN.out W5 hS5, rfl, .inr hJx5⟩
              · go_simp
                refine hK _ _ ?_
                clear hK K
                refine wpAnyIn_ready (rs := [0, 4]) (by kernel_rfl) (by simp) (AllReadyIn.cons rfl (fun K hK => ?_) (AllReadyIn.cons rfl (fun K hK => ?_) AllReadyIn.nil))
                · go_simp
                  refine hK _ _ ?_
                  clear hK K
                  refine wpAnyIn_ready (rs := [4]) (by kernel_rfl) (by simp) (AllReadyIn.cons rfl (fun K hK => ?_) AllReadyIn.nil)
                  go_simp
                  refine ⟨trivial, (CallsIn.inRound l' (callsIn_wide.2 MT.out)).mono ?_⟩
                  rintro r4 W4 ⟨rfl, hb4⟩
                  obtain ⟨fn, tmps, assign, body, hy, hR⟩ := AT4.out W4 hb4
                  have cY4 := cell_step cY hb4
                  clear hb4
                  refine hK _ _ ?_
                  clear hK K
                  refine wpAnyIn_ready (rs := [5]) (by kernel_rfl) (by simp) (AllReadyIn.cons rfl (fun K hK => ?_) AllReadyIn.nil)
                  go_simp
                  refine RoundIn.mono (show RoundIn (Fence.wide.inRound l') _ _ _ _ _ _ _ _ _ from hR) ?_
                  rintro r5 W5 ⟨hS5, (⟨rfl, hJ5⟩ | ⟨rfl, hJx5⟩)⟩
                  · refine hK _ _ ?_
                    clear hK K
                    refine wpAnyIn_ready (rs := [6]) (by kernel_rfl) (by simp) (AllReadyIn.cons rfl (fun K hK => ?_) AllReadyIn.nil)
                    go_simp
                    refine hK _ _ ?_
                    clear hK K
                    refine wpAnyIn_done (by kernel_rfl) ?_ _
                    gi_wp2
                    exact ⟨FIN.out W5 hS5, hJ5, FB.out W5 hS5⟩
                  · refine hK _ _ ?_
                    clear hK K
                    refine wpAnyIn_ready (rs := [6]) (by kernel_rfl) (by simp) (AllReadyIn.cons rfl (fun K hK => ?_) AllReadyIn.nil)
                    go_simp
                    refine hK _ _ ?_
                    clear hK K
                    refine wpAnyIn_done (by kernel_rfl) ?_ _
                    gi_wp2
                    exact ⟨FIN.out W5 hS5, rfl, .inr hJx5⟩
                · go_simp
                  refine ⟨trivial, (CallsIn.inRound l' (callsIn_wide.2 MT.out)).mono ?_⟩
                  rintro r4 W4 ⟨rfl, hb4⟩
                  obtain ⟨fn, tmps, assign, body, hy, hR⟩ := AT4.out W4 hb4
                  have cY4 := cell_step cY hb4
                  clear hb4
                  refine hK _ _ ?_
                  clear hK K
                  refine wpAnyIn_ready (rs := [0]) (by kernel_rfl) (by simp) (AllReadyIn.cons rfl (fun K hK => ?_) AllReadyIn.nil)
                  go_simp
                  refine hK _ _ ?_
                  clear hK K
                  refine wpAnyIn_ready (rs := [5]) (by kernel_rfl) (by simp) (AllReadyIn.cons rfl (fun K hK => ?_) AllReadyIn.nil)
                  go_simp
                  refine RoundIn.mono (show RoundIn (Fence.wide.inRound l') _ _ _ _ _ _ _ _ _ from hR) ?_
                  rintro r5 W5 ⟨hS5, (⟨rfl, hJ5⟩ | ⟨rfl, hJx5⟩)⟩
                  · refine hK _ _ ?_
                    clear hK K
                    refine wpAnyIn_ready (rs := [6]) (by kernel_rfl) (by simp) (AllReadyIn.cons rfl (fun K hK => ?_) AllReadyIn.nil)
                    go_simp
                    refine hK _ _ ?_
                    clear hK K
                    refine wpAnyIn_done (by kernel_rfl) ?_ _
                    gi_wp2
                    exact ⟨FIN.out W5 hS5, hJ5, FB.out W5 hS5⟩
                  · refine hK _ _ ?_
                    clear hK K
                    refine wpAnyIn_ready (rs := [6]) (by kernel_rfl) (by simp) (AllReadyIn.cons rfl (fun K hK => ?_) AllReadyIn.nil)
                    go_simp
                    refine hK _ _ ?_
                    clear hK K
                    refine wpAnyIn_done (by kernel_rfl) ?_ _
                    gi_wp2
                    exact ⟨FIN.out W5 hS5, rfl, .inr hJx5⟩
            · go_simp
              refine hK _ _ ?_
              clear hK K
              refine wpAnyIn_ready (rs := [0, 2]) (by kernel_rfl) (by simp) (AllReadyIn.cons rfl (fun K hK => ?_) (AllReadyIn.cons rfl (fun K hK => ?_) AllReadyIn.nil))
              · go_simp
                refine hK _ _ ?_
                clear hK K
                refine wpAnyIn_ready (rs := [2]) (by kernel_rfl) (by simp) (AllReadyIn.cons rfl (fun K hK => ?_) AllReadyIn.nil)
                go_simp
                refine hK _ _ ?_
                clear hK K
                refine wpAnyIn_ready (rs := [4]) (by kernel_rfl) (by simp) (AllReadyIn.cons rfl (fun K hK => ?_) AllReadyIn.nil)
                go_simp
                refine ⟨trivial, (CallsIn.inRound l' (callsIn_wide.2 MT.out)).mono ?_⟩
                rintro r4 W4 ⟨rfl, hb4⟩
                obtain ⟨fn, tmps, assign, body, hy, hR⟩ := AT4.out W4 hb4
                have cY4 := cell_step cY hb4
                clear hb4
                refine hK _ _ ?_
                clear hK K
                refine wpAnyIn_ready (rs := [5]) (by kernel_rfl) (by simp) (AllReadyIn.cons rfl (fun K hK => ?_) AllReadyIn.nil)
                go_simp
                refine RoundIn.mono (show RoundIn (Fence.wide.inRound l') _ _ _ _ _ _ _ _ _ from hR) ?_
                rintro r5 W5 ⟨hS5, (⟨rfl, hJ5⟩ | ⟨rfl, hJx5⟩)⟩
                · refine hK _ _ ?_
                  clear hK K
                  refine wpAnyIn_ready (rs := [6]) (by kernel_rfl) (by simp) (AllReadyIn.cons rfl (fun K hK => ?_) AllReadyIn.nil)
                  go_simp
                  refine hK _ _ ?_
                  clear hK K
                  refine wpAnyIn_done (by kernel_rfl) ?_ _
                  gi_wp2
                  exact ⟨FIN.out W5 hS5, hJ5, FB.out W5 hS5⟩
                · refine hK _ _ ?_
                  clear hK K
                  refine wpAnyIn_ready (rs := [6]) (by kernel_rfl) (by simp) (AllReadyIn.cons rfl (fun K hK => ?_) AllReadyIn.nil)
                  go_simp
                  refine hK _ _ ?_
                  clear hK K
                  refine wpAnyIn_done (by kernel_rfl) ?_ _
                  gi_wp2
                  exact ⟨FIN.out W5 hS5, rfl, .inr hJx5⟩
              · go_simp
                refine hK _ _ ?_
                clear hK K
                refine wpAnyIn_ready (rs := [0, 4]) (by kernel_rfl) (by simp) (AllReadyIn.cons rfl (fun K hK => ?_) (AllReadyIn.cons rfl (fun K hK => ?_) AllReadyIn.nil))
                · go_simp
                  refine hK _ _ ?_
                  clear hK K
                  refine wpAnyIn_ready (rs := [4]) (by kernel_rfl) (by simp) (AllReadyIn.cons rfl (fun K hK => ?_) AllReadyIn.nil)
                  go_simp
                  refine ⟨trivial, (CallsIn.inRound l' (callsIn_wide.2 MT.out)).mono ?_⟩
                  rintro r4 W4 ⟨rfl, hb4⟩
                  obtain ⟨fn, tmps, assign, body, hy, hR⟩ := AT4.out W4 hb4
                  have cY4 := cell_step cY hb4
                  clear hb4
                  refine hK _ _ ?_
                  clear hK K
                  refine wpAnyIn_ready (rs := [5]) (by kernel_rfl) (by simp) (AllReadyIn.cons rfl (fun K hK => ?_) AllReadyIn.nil)
                  go_simp
                  refine RoundIn.mono (show RoundIn (Fence.wide.inRound l') _ _ _ _ _ _ _ _ _ from hR) ?_
                  rintro r5 W5 ⟨hS5, (⟨rfl, hJ5⟩ | ⟨rfl, hJx5⟩)⟩
                  · refine hK _ _ ?_
                    clear hK K
                    refine wpAnyIn_ready (rs := [6]) (by kernel_rfl) (by simp) (AllReadyIn.cons rfl (fun K hK => ?_) AllReadyIn.nil)
                    go_simp
                    refine hK _ _ ?_
                    clear hK K
                    refine wpAnyIn_done (by kernel_rfl) ?_ _
                    gi_wp2
                    exact ⟨FIN.out W5 hS5, hJ5, FB.out W5 hS5⟩
                  · refine hK _ _ ?_
                    clear hK K
                    refine wpAnyIn_ready (rs := [6]) (by kernel_rfl) (by simp) (AllReadyIn.cons rfl (fun K hK => ?_) AllReadyIn.nil)
                    go_simp
                    refine hK _ _ ?_
                    clear hK K
                    refine wpAnyIn_done (by kernel_rfl) ?_ _
                    gi_wp2
                    exact ⟨FIN.out W5 hS5, rfl, .inr hJx5⟩
                · go_simp
                  refine ⟨trivial, (CallsIn.inRound l' (callsIn_wide.2 MT.out)).mono ?_⟩
                  rintro r4 W4 ⟨rfl, hb4⟩
                  obtain ⟨fn, tmps, assign, body, hy, hR⟩ := AT4.out W4 hb4
                  have cY4 := cell_step cY hb4
                  clear hb4
                  refine hK _ _ ?_
                  clear hK K
                  refine wpAnyIn_ready (rs := [0]) (by kernel_rfl) (by simp) (AllReadyIn.cons rfl (fun K hK => ?_) AllReadyIn.nil)
                  go_simp
                  refine hK _ _ ?_
                  clear hK K
                  refine wpAnyIn_ready (rs := [5]) (by kernel_rfl) (by simp) (AllReadyIn.cons rfl (fun K hK => ?_) AllReadyIn.nil)
                  go_simp
                  refine RoundIn.mono (show RoundIn (Fence.wide.inRound l') _ _ _ _ _ _ _ _ _ from hR) ?_
                  rintro r5 W5 ⟨hS5, (⟨rfl, hJ5⟩ | ⟨rfl, hJx5⟩)⟩
                  · refine hK _ _ ?_
                    clear hK K
                    refine wpAnyIn_ready (rs := [6]) (by kernel_rfl) (by simp) (AllReadyIn.cons rfl (fun K hK => ?_) AllReadyIn.nil)
                    go_simp
                    refine hK _ _ ?_
                    clear hK K
                    refine wpAnyIn_done (by kernel_rfl) ?_ _
                    gi_wp2
                    exact ⟨FIN.out W5 hS5, hJ5, FB.out W5 hS5⟩
                  · refine hK _ _ ?_
                    clear hK K
                    refine wpAnyIn_ready (rs := [6]) (by kernel_rfl) (by simp) (AllReadyIn.cons rfl (fun K hK => ?_) AllReadyIn.nil)
                    go_simp
                    refine hK _ _ ?_
                    clear hK K
                    refine wpAnyIn_done (by kernel_rfl) ?_ _
                    gi_wp2
                    exact ⟨FIN.out W5 hS5, rfl, .inr hJx5⟩
          · go_simp
            refine hK _ _ ?_
            clear hK K
            refine wpAnyIn_ready (rs := [0, 1]) (by kernel_rfl) (by simp) (AllReadyIn.cons rfl (fun K hK => ?_) (AllReadyIn.cons rfl (fun K hK => ?_) AllReadyIn.nil))
            · go_simp
              refine hK _ _ ?_
              clear hK K
              refine wpAnyIn_ready (rs := [1]) (by kernel_rfl) (by simp) (AllReadyIn.cons rfl (fun K hK => ?_) AllReadyIn.nil)
              go_simp
              refine hK _ _ ?_
              clear hK K
              refine wpAnyIn_ready (rs := [2]) (by kernel_rfl) (by simp) (AllReadyIn.cons rfl (fun K hK => ?_) AllReadyIn.nil)
              go_simp
              refine hK _ _ ?_
              clear hK K
              refine wpAnyIn_ready (rs := [4]) (by kernel_rfl) (by simp) (AllReadyIn.cons rfl (fun K hK => ?_) AllReadyIn.nil)
              go_simp
              refine ⟨trivial, (CallsIn.inRound l' (callsIn_wide.2 MT.out)).mono ?_⟩
              rintro r4 W4 ⟨rfl, hb4⟩
              obtain ⟨fn, tmps, assign, body, hy, hR⟩ := AT4.out W4 hb4
              have cY4 := cell_step cY hb4
              clear hb4
              refine hK _ _ ?_
              clear hK K
              refine wpAnyIn_ready (rs := [5]) (by kernel_rfl) (by simp) (AllReadyIn.cons rfl (fun K hK => ?_) AllReadyIn.nil)
              go_simp
              refine RoundIn.mono (show RoundIn (Fence.wide.inRound l') _ _ _ _ _ _ _ _ _ from hR) ?_
              rintro r5 W5 ⟨hS5, (⟨rfl, hJ5⟩ | ⟨rfl, hJx5⟩)⟩
              · refine hK _ _ ?_
                clear hK K
                refine wpAnyIn_ready (rs := [6]) (by kernel_rfl) (by simp) (AllReadyIn.cons rfl (fun K hK => ?_) AllReadyIn.nil)
                go_simp
                refine hK _ _ ?_
                clear hK K
                refine wpAnyIn_done (by kernel_rfl) ?_ _
                gi_wp2
                exact ⟨FIN.out W5 hS5, hJ5, FB.out W5 hS5⟩
              · refine hK _ _ ?_
                clear hK K
                refine wpAnyIn_ready (rs := [6]) (by kernel_rfl) (by simp) (AllReadyIn.cons rfl (fun K hK => ?_) AllReadyIn.nil)
                go_simp
                refine hK _ _ ?_
                clear hK K
                refine wpAnyIn_done (by kernel_rfl) ?_ _
                gi_wp2
                exact ⟨FIN.out W5 hS5, rfl, .inr hJx5⟩
            · go_simp
              refine hK _ _ ?_
              clear hK K
              refine wpAnyIn_ready (rs := [0, 2]) (by kernel_rfl) (by simp) (AllReadyIn.cons rfl (fun K hK => ?_) (AllReadyIn.cons rfl (fun K hK => ?_) AllReadyIn.nil))
              · go_simp
                refine hK _ _ ?_
                clear hK K
                refine wpAnyIn_ready (rs := [2]) (by kernel_rfl) (by simp) (AllReadyIn.cons rfl (fun K hK => ?_) AllReadyIn.nil)
                go_simp
                refine hK _ _ ?_
                clear hK K
                refine wpAnyIn_ready (rs := [4]) (by kernel_rfl) (by simp) (AllReadyIn.cons rfl (fun K hK => ?_) AllReadyIn.nil)
                go_simp
                refine ⟨trivial, (CallsIn.inRound l' (callsIn_wide.2 MT.out)).mono ?_⟩
                rintro r4 W4 ⟨rfl, hb4⟩
                obtain ⟨fn, tmps, assign, body, hy, hR⟩ := AT4.out W4 hb4
                have cY4 := cell_step cY hb4
                clear hb4
                refine hK _ _ ?_
                clear hK K
                refine wpAnyIn_ready (rs := [5]) (by kernel_rfl) (by simp) (AllReadyIn.cons rfl (fun K hK => ?_) AllReadyIn.nil)
                go_simp
                refine RoundIn.mono (show RoundIn (Fence.wide.inRound l') _ _ _ _ _ _ _ _ _ from hR) ?_
                rintro r5 W5 ⟨hS5, (⟨rfl, hJ5⟩ | ⟨rfl, hJx5⟩)⟩
                · refine hK _ _ ?_
                  clear hK K
                  refine wpAnyIn_ready (rs := [6]) (by kernel_rfl) (by simp) (AllReadyIn.cons rfl (fun K hK => ?_) AllReadyIn.nil)
                  go_simp
                  refine hK _ _ ?_
                  clear hK K
                  refine wpAnyIn_done (by kernel_rfl) ?_ _
                  gi_wp2
                  exact ⟨FIN.out W5 hS5, hJ5, FB.out W5 hS5⟩
                · refine hK _ _ ?_
                  clear hK K
                  refine wpAnyIn_ready (rs := [6]) (by kernel_rfl) (by simp) (AllReadyIn.cons rfl (fun K hK => ?_) AllReadyIn.nil)
                  go_simp
                  refine hK _ _ ?_
                  clear hK K
                  refine wpAnyIn_done (by kernel_rfl) ?_ _
                  gi_wp2
                  exact ⟨FIN.out W5 hS5, rfl, .inr hJx5⟩
              · go_simp
                refine hK _ _ ?_
                clear hK K
                refine wpAnyIn_ready (rs := [0, 4]) (by kernel_rfl) (by simp) (AllReadyIn.cons rfl (fun K hK => ?_) (AllReadyIn.cons rfl (fun K hK => ?_) AllReadyIn.nil))
                · go_simp
                  refine hK _ _ ?_
                  clear hK K
                  refine wpAnyIn_ready (rs := [4]) (by kernel_rfl) (by simp) (AllReadyIn.cons rfl (fun K hK => ?_) AllReadyIn.nil)
                  go_simp
                  refine ⟨trivial, (CallsIn.inRound l' (callsIn_wide.2 MT.out)).mono ?_⟩
                  rintro r4 W4 ⟨rfl, hb4⟩
                  obtain ⟨fn, tmps, assign, body, hy, hR⟩ := AT4.out W4 hb4
                  have cY4 := cell_step cY hb4
                  clear hb4
                  refine hK _ _ ?_
                  clear hK K
                  refine wpAnyIn_ready (rs := [5]) (by kernel_rfl) (by simp) (AllReadyIn.cons rfl (fun K hK => ?_) AllReadyIn.nil)
                  go_simp
                  refine RoundIn.mono (show RoundIn (Fence.wide.inRound l') _ _ _ _ _ _ _ _ _ from hR) ?_
                  rintro r5 W5 ⟨hS5, (⟨rfl, hJ5⟩ | ⟨rfl, hJx5⟩)⟩
                  · refine hK _ _ ?_
                    clear hK K
                    refine wpAnyIn_ready (rs := [6]) (by kernel_rfl) (by simp) (AllReadyIn.cons rfl (fun K hK => ?_) AllReadyIn.nil)
                    go_simp
                    refine hK _ _ ?_
                    clear hK K
                    refine wpAnyIn_done (by kernel_rfl) ?_ _
                    gi_wp2
                    exact ⟨FIN.out W5 hS5, hJ5, FB.out W5 hS5⟩
                  · refine hK _ _ ?_
                    clear hK K
                    refine wpAnyIn_ready (rs := [6]) (by kernel_rfl) (by simp) (AllReadyIn.cons rfl (fun K hK => ?_) AllReadyIn.nil)
                    go_simp
                    refine hK _ _ ?_
                    clear hK K
                    refine wpAnyIn_done (by kernel_rfl) ?_ _
                    gi_wp2
                    exact ⟨FIN.out W5 hS5, rfl, .inr hJx5⟩
                · go_simp
                  refine ⟨trivial, (CallsIn.inRound l' (callsIn_wide.2 MT.out)).mono ?_⟩
                  rintro r4 W4 ⟨rfl, hb4⟩
                  obtain ⟨fn, tmps, assign, body, hy, hR⟩ := AT4.out W4 hb4
                  have cY4 := cell_step cY hb4
                  clear hb4
                  refine hK _ _ ?_
                  clear hK K
                  refine wpAnyIn_ready (rs := [0]) (by kernel_rfl) (by simp) (AllReadyIn.cons rfl (fun K hK => ?_) AllReadyIn.nil)
                  go_simp
                  refine hK _ _ ?_
                  clear hK K
                  refine wpAnyIn_ready (rs := [5]) (by kernel_rfl) (by simp) (AllReadyIn.cons rfl (fun K hK => ?_) AllReadyIn.nil)
                  go_simp
                  refine RoundIn.mono (show RoundIn (Fence.wide.inRound l') _ _ _ _ _ _ _ _ _ from hR) ?_
                  rintro r5 W5 ⟨hS5, (⟨rfl, hJ5⟩ | ⟨rfl, hJx5⟩)⟩
                  · refine hK _ _ ?_
                    clear hK K
                    refine wpAnyIn_ready (rs := [6]) (by kernel_rfl) (by simp) (AllReadyIn.cons rfl (fun K hK => ?_) AllReadyIn.nil)
                    go_simp
                    refine hK _ _ ?_
                    clear hK K
                    refine wpAnyIn_done (by kernel_rfl) ?_ _
                    gi_wp2
                    exact ⟨FIN.out W5 hS5, hJ5, FB.out W5 hS5⟩
                  · refine hK _ _ ?_
                    clear hK K
                    refine wpAnyIn_ready (rs := [6]) (by kernel_rfl) (by simp) (AllReadyIn.cons rfl (fun K hK => ?_) AllReadyIn.nil)
                    go_simp
                    refine hK _ _ ?_
                    clear hK K
                    refine wpAnyIn_done (by kernel_rfl) ?_ _
                    gi_wp2
                    exact ⟨FIN.out W5 hS5, rfl, .inr hJx5⟩
    case done =>
      rintro h W hh hhW ⟨q1, _, _, _, _⟩ hK
      rw [gvn_nil] at q1
      gi_wp2
      refine ⟨by simp, .inl ⟨_, _, rfl, run_takeDeferred hK, ?_⟩⟩
      refine ⟨_, results_none rfl _ _ _, ⟨_, rfl⟩, h, by omega, by rw [World.putObj_size]; exact hhW, .inl (K2.out h _ _ _ (by omega) q1.out (Steps.put _ _ _ (fun q => by have q' := q.2; omega)))⟩
    case stop =>
      rintro cd h W hh hhW ⟨rfl, q⟩ hK
      have HQ : Hid (_) := q
      clear q
      gi_wp2
      refine ⟨by simp, .inl ⟨_, _, rfl, run_takeDeferred hK, ?_⟩⟩
      refine ⟨_, results_none rfl _ _ _, ⟨_, rfl⟩, h, by omega, by rw [World.putObj_size]; exact hhW, ?_⟩
      rcases HQ.out with q | q
      · exact .inl (K2.out h _ _ _ (by omega) q (Steps.put _ _ _ (fun q => by have q' := q.2; omega)))
      · exact .inr (K3.out h _ _ (by omega) q (Steps.put _ _ _ (fun q => by have q' := q.2; omega)))
end Go.Proofs.YtnpecjccajebiaaGreatDoor
