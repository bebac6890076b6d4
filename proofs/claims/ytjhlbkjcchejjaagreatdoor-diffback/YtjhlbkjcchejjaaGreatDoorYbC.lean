/- Proved: the law DiffBack returns true for every two lists of events, and each argument reads afterwards as it read before; the listed package-level variables hold what the program's own text lays in them (the card's tie). -/
/- The law's own sameChanges: two rows of changes with the same texts are the same. -/
import Derived.Test.YtjhlbkjcchejjaaGreatDoorYbB
import Derived.Laws.StructEq
import Derived.Test.YtjhlbkjcchejjaaGreatDoorRows
import Derived.JoinedOf
import Derived.Test.YtjhlbkjcchejjaaGreatDoorCards
import Derived.Test.YtjhlbkjcchejjaaGreatDoorTie
import Derived.Test.YtjhlbkjcchejjaaGreatDoorYaR
import Derived.Test.YtjhlbkjcchejjaaGreatDoorYaK
namespace Go.Proofs.YtjhlbkjcchejjaaGreatDoor
open Go Go.RowKit Go.Shelf Cal
attribute [local go_sem] Oper.semAt_some

theorem turn_turn (c : DC) : c.turn.turn = c := rfl
theorem back_back (l : List DC) : ((l.reverse.map DC.turn).reverse.map DC.turn) = l := by
  rw [← List.map_reverse, List.reverse_reverse, List.map_map]
  exact List.map_id'' turn_turn l

set_option maxRecDepth 100000 in
theorem sameChanges_any (b1 b2 : Nat) (v u : Value) (l : List DC) (hl : l.length ≤ 5000) (w : World) (h1 : ChR b1 w v l) (h2 : ChR b2 w u l) :
    Calls Tryz.prog 21 #[v, u] w fun r w' => r = .returned (.bool true) ∧ Below w.heap.size w w' := by
  obtain ⟨a, ca, rfl, hca, hA⟩ := h1.form
  obtain ⟨b, cb, rfl, hcb, hB⟩ := h2.form
  have HA : Hid (_) := hA
  have HB : Hid (_) := hB
  clear hA hB h1 h2
  generalize hL : l.length = L at hl hca hcb ⊢
  have HL : Hid (l.length = L) := hL
  clear hL
  go_enter Tryz.func21, Tryz.ntmps21
  go_wp2
  go_loopw [5] (fun i wr => ∃ k q : Nat, k ≤ L ∧ i = .int .i64 k ∧ wr = w.drewN q) (fun i _ => L - (intOf i).toNat)
  case atStart => exact ⟨0, 0, Nat.zero_le _, rfl, rfl⟩
  case round =>
    obtain ⟨k, q, hk, rfl, rfl⟩ := hrel
    by_cases hlt : k < L
    · have hkl : k < l.length := by rw [HL.out]; exact hlt
      obtain ⟨x, rfl, _, p0, p1, p2, p3⟩ := HA.out k hkl
      obtain ⟨y, rfl, _, q0, q1, q2, q3⟩ := HB.out k hkl
      have hlt' : (k : Int) < (L : Int) := by omega
      generalize l[k].id = ci at p0 q0
      generalize fieldB l[k].k = cf at p1 q1
      generalize bs (oT l[k].k l[k].a) = co at p2 q2
      generalize bs (oT l[k].k l[k].b) = cn at p3 q3
      clear HA HB
      go_wp2
      go_quiet (fail)
      go_wp2
      go_roundw
      case rel => exact ⟨k + 1, _, by omega, by go_num, rfl⟩
      case measure => simp [intOf]; omega
    · go_wp2
      go_ret
      exact ⟨rfl, drewN_below _ _⟩
end Go.Proofs.YtjhlbkjcchejjaaGreatDoor

/- The law DiffBack. -/
namespace Go.Proofs.YtjhlbkjcchejjaaGreatDoor
open Go Go.RowKit Go.Shelf Cal
attribute [local go_sem] Oper.semAt_some

theorem ChR.long {base N : Nat} {W : World} {v : Value} {l : List DC} (h : ChR base W v l) (hn : l.length = N) : ∃ a cap, v = .slice a N cap := by
  obtain ⟨a, cap, hv, _, _⟩ := h.form
  exact ⟨a, cap, by rw [hv, hn]⟩
/-- the changes turned round, applied: the first calendar, or an error and none -/
theorem apply_back (lx xb xn : Nat) (xm : Option Nat) (X : List EV) (ly yb yn : Nat) (ym : Option Nat) (Y : List EV) (base : Nat) (vl : Value) (s : Nat → Addr) (w : World) (g : GlobD s w) (hX : BookAt lx w xb xm xn X) (hY : BookAt ly w yb ym yn Y) (hx : X.length ≤ 60) (hy : Y.length ≤ 60) (hL : ChR base w vl ((dif X Y).reverse.map DC.turn)) :
    Calls Tryz.prog 22 #[.pointer (some ⟨yb, 0, none⟩), vl] w fun r w' => (∃ lp pb pm pn, r = .returned (.tuple #[.pointer (some ⟨pb, 0, none⟩), .nilIface]) ∧ BookAt lp w' pb pm pn X ∧ pn ≤ 100000 ∧ Below w.heap.size w w') ∨ (∃ T x, r = .returned (.tuple #[.pointer none, .iface T x]) ∧ Below w.heap.size w w') := by
  refine Calls.mono (applyAll_C ly yb yn ym Y base vl ((dif X Y).reverse.map DC.turn) (fun c hc => ?_) ?_ s w g hY hy hL) ?_
  · obtain ⟨d, hd, rfl⟩ := List.mem_map.1 hc
    exact turn_ok (dif_ok hX.ook hY.ook d (List.mem_reverse.1 hd))
  · have h1 := dif_len hx hy
    rw [List.length_map, List.length_reverse]
    omega
  · rintro r w' (⟨C', mo', n', hr, rfl, hB, hn, _, hb⟩ | ⟨_, ⟨T, x, rfl⟩, hb⟩)
    · have e := dif_back hX.rises.1 hY.rises.1 hX.ook hY.ook hr
      subst e
      exact .inl ⟨_, _, _, _, rfl, hB, Nat.le_trans hn (by decide), hb⟩
    · exact .inr ⟨T, x, rfl, hb⟩

set_option maxHeartbeats 4000000 in
set_option maxRecDepth 100000 in
theorem dback_all (E1 E2 : List EV) (v1 v2 : Value) (s : Nat → Addr) (w : World) (g : GlobD s w) (h1 : EvsL w v1 E1) (h2 : EvsL w v2 E2) :
    Calls Tryz.prog 4 #[v1, v2] w fun r w' => r = .returned (.bool true) ∧ Below w.heap.size w w' := by
  have DF : Hid (Calls _ _ _ _ _) := differed_any s w g
  have HG : Hid (GlobD s w) := g
  have LE : Hid (∀ (v : Value) (E : List EV) W, EvsL w v E → Below w.heap.size w W → Calls Tryz.prog 17 #[v] W fun r w' => ∃ k : Int, r = .returned (.int .i64 k) ∧ (k = 1 ∨ (k = 0 ∧ E.length ≤ 70 ∧ ∀ F ∈ E, lngE F = 0)) ∧ Below W.heap.size W w') := fun v E W h hW => longEvents_any E v W (h.step hW)
  have HV1 : Hid (EvsL w v1 E1) := h1
  have HV2 : Hid (EvsL w v2 E2) := h2
  clear g h1 h2
  go_enter Tryz.func4, Tryz.ntmps4
  go_upto_region 2 with (go_at_call 16; refine Calls.mono DF.out ?_; rintro r w1 ⟨rfl, hb1⟩)
  have B1 : Hid (Below w.heap.size w w1) := hb1
  clear hb1 DF
  go_upto_if 25 with (first
    | (go_at_call_of 17 v1; refine Calls.mono (LE.out v1 E1 _ HV1.out B1.out) ?_; rintro r w2 ⟨k1, rfl, hk1, hb2⟩; have B2 : Hid (Below w.heap.size w w2) := below_then B1.out hb2; have HK1 : Hid (k1 = 1 ∨ (k1 = 0 ∧ E1.length ≤ 70 ∧ ∀ F ∈ E1, lngE F = 0)) := hk1; have p1 : 0 ≤ k1 ∧ k1 ≤ 1 := (by rcases hk1 with rfl | ⟨rfl, _⟩ <;> decide); clear hk1 hb2)
    | (go_at_call_of 17 v2; refine Calls.mono (LE.out v2 E2 _ HV2.out B2.out) ?_; rintro r w3 ⟨k2, rfl, hk2, hb3⟩; have B3 : Hid (Below w.heap.size w w3) := below_then B2.out hb3; have HK2 : Hid (k2 = 1 ∨ (k2 = 0 ∧ E2.length ≤ 70 ∧ ∀ F ∈ E2, lngE F = 0)) := hk2; have p2 : 0 ≤ k2 ∧ k2 ≤ 1 := (by rcases hk2 with rfl | ⟨rfl, _⟩ <;> decide); clear hk2 hb3))
  by_cases hz : 0 < k1 + k2
  · go_wp2
    go_ret
    exact ⟨rfl, B3.out⟩
  · obtain ⟨a1, b1⟩ : E1.length ≤ 70 ∧ ∀ F ∈ E1, lngE F = 0 := by
      rcases HK1.out with q | ⟨_, q⟩
      · omega
      · exact q
    obtain ⟨a2, b2⟩ : E2.length ≤ 70 ∧ ∀ F ∈ E2, lngE F = 0 := by
      rcases HK2.out with q | ⟨_, q⟩
      · omega
      · exact q
    have BO1 : Hid (∀ W, Below w.heap.size w W → _) := fun W hW => bookOf_C E1 v1 s W (HG.out.step hW).gk (HV1.out.step hW) a1 b1
    have BO2 : Hid (∀ W, Below w.heap.size w W → _) := fun W hW => bookOf_C E2 v2 s W (HG.out.step hW).gk (HV2.out.step hW) a2 b2
    have HX60 : Hid ((calOf E1).length ≤ 60) := (calOf_ok E1).2
    have HY60 : Hid ((calOf E2).length ≤ 60) := (calOf_ok E2).2
    clear a1 b1 a2 b2 HK1 HK2 p1 p2 LE HV1 HV2
    generalize calOf E1 = X at BO1 HX60
    generalize calOf E2 = Y at BO2 HY60
    obtain ⟨N, hN⟩ : ∃ N, (dif X Y).length = N := ⟨_, rfl⟩
    have HN : Hid ((dif X Y).length = N) := hN
    have HN5 : Hid ((dif X Y).length ≤ 5000) := Nat.le_trans (dif_len HX60.out HY60.out) (by decide)
    have HM : Hid (((dif X Y).reverse.map DC.turn).length = N) := by
      show _ = _
      rw [List.length_map, List.length_reverse]
      exact hN
    have HM5 : Hid (((dif X Y).reverse.map DC.turn).length ≤ 5000) := by
      show _ ≤ _
      rw [List.length_map, List.length_reverse]
      exact HN5.out
    clear hN
    go_wp2_with (first
      | (go_at_call_of 18 v1; refine Calls.mono (BO1.out _ B3.out) ?_; rintro r w5 ⟨lx, xb, xm, xn, xa, xl, xc, rfl, hX, hxn, hb5⟩; have B5 : Hid (Below w.heap.size w (w5.alloc (.cells #[.slice xa xl xc] 46))) := below_then (below_then B3.out hb5) (below_alloc _ _); have X5 : Hid (BookAt lx (w5.alloc (.cells #[.slice xa xl xc] 46)) xb xm xn X) := hX.step (below_alloc _ _); have NX : Hid (xn ≤ 70) := hxn; clear hX hxn hb5)
      | (go_at_call_of 18 v2; refine Calls.mono (BO2.out _ B5.out) ?_; rintro r w6 ⟨ly, yb, ym, yn, ya, yl, yc, rfl, hY, hyn, hb6⟩; have B6 : Hid (Below w.heap.size w (w6.alloc (.cells #[.slice ya yl yc] 46))) := below_then (below_then B5.out hb6) (below_alloc _ _); have X6 : Hid (BookAt lx (w6.alloc (.cells #[.slice ya yl yc] 46)) xb xm xn X) := X5.out.step (below_then hb6 (below_alloc _ _)); have Y6 : Hid (BookAt ly (w6.alloc (.cells #[.slice ya yl yc] 46)) yb ym yn Y) := hY.step (below_alloc _ _); have NY : Hid (yn ≤ 70) := hyn; clear hY hyn hb6)
      | (go_at_call_of 19 (Value.pointer (some ⟨yb, 0, none⟩)); refine Calls.mono (diff_C lx xb xn xm X ly yb yn ym Y s (w6.alloc (.cells #[.slice ya yl yc] 46)) (HG.out.step B6.out) X6.out Y6.out (Nat.le_trans NX.out (by decide)) (Nat.le_trans NY.out (by decide)) HX60.out HY60.out) ?_; rintro r w8 ⟨vl, rfl, hL, hb8⟩; have B8 : Hid (Below w.heap.size w w8) := below_then B6.out hb8; have X8 : Hid (BookAt lx w8 xb xm xn X) := X6.out.step hb8; have Y8 : Hid (BookAt ly w8 yb ym yn Y) := Y6.out.step hb8; obtain ⟨la, lc, rfl⟩ := ChR.long hL HN.out; have L8 : Hid (ChR (w6.alloc (.cells #[.slice ya yl yc] 46)).heap.size w8 (.slice la N lc) (dif X Y)) := hL; clear hL hb8)
      | (go_at_call 20; refine Calls.mono (back_C (w6.alloc (.cells #[.slice ya yl yc] 46)).heap.size (.slice la N lc) (dif X Y) HN5.out w8 L8.out) ?_; rintro r w9 ⟨vm, rfl, hM, hb9⟩; have B9 : Hid (Below w.heap.size w w9) := below_then B8.out hb9; have X9 : Hid (BookAt lx w9 xb xm xn X) := X8.out.step hb9; have Y9 : Hid (BookAt ly w9 yb ym yn Y) := Y8.out.step hb9; have L9 : Hid (ChR (w6.alloc (.cells #[.slice ya yl yc] 46)).heap.size w9 (.slice la N lc) (dif X Y)) := L8.out.step hb9; obtain ⟨ma, mc, rfl⟩ := ChR.long hM HM.out; have M9 : Hid (ChR w8.heap.size w9 (.slice ma N mc) ((dif X Y).reverse.map DC.turn)) := hM; clear hM hb9))
    refine Calls.mono (diff_C lx xb xn xm X lx xb xn xm X s w9 (HG.out.step B9.out) X9.out X9.out (Nat.le_trans NX.out (by decide)) (Nat.le_trans NX.out (by decide)) HX60.out HX60.out) ?_
    rintro r w10 ⟨vs, rfl, hS, hb10⟩
    have hS0 : ChR w9.heap.size w10 vs (dif X X) := hS
    rw [dif_self] at hS0
    obtain ⟨sa, sc, rfl⟩ := ChR.long (N := 0) hS0 rfl
    have B10 : Hid (Below w.heap.size w w10) := below_then B9.out hb10
    have X10 : Hid (BookAt lx w10 xb xm xn X) := X9.out.step hb10
    have Y10 : Hid (BookAt ly w10 yb ym yn Y) := Y9.out.step hb10
    have L10 : Hid (ChR (w6.alloc (.cells #[.slice ya yl yc] 46)).heap.size w10 (.slice la N lc) (dif X Y)) := L9.out.step hb10
    have M10 : Hid (ChR w8.heap.size w10 (.slice ma N mc) ((dif X Y).reverse.map DC.turn)) := M9.out.step hb10
    clear hS hS0 hb10 B1 B2 B3 B5 B6 B8 B9 X5 X6 X8 X9 Y6 Y8 Y9 L8 L9 M9 BO1 BO2
    go_wp2_with (first
      | (go_at_call 20; refine Calls.mono (back_C w8.heap.size (.slice ma N mc) ((dif X Y).reverse.map DC.turn) HM5.out w10 M10.out) ?_; rintro r w11 ⟨vb, rfl, hBk, hb11⟩; have K11 : Hid (ChR w10.heap.size w11 vb (dif X Y)) := (by rw [back_back] at hBk; exact hBk); have B11 : Hid (Below w10.heap.size w10 w11) := hb11; clear hBk hb11)
      | (go_at_call 21; refine Calls.mono (sameChanges_any _ _ vb (.slice la N lc) (dif X Y) HN5.out w11 K11.out (L10.out.step B11.out)) ?_; rintro r w12 ⟨rfl, hb12⟩; have B12 : Hid (Below w10.heap.size w10 w12) := below_then B11.out hb12; clear hb12))
    have X12 : Hid (BookAt lx w12 xb xm xn X) := X10.out.step B12.out
    have Y12 : Hid (BookAt ly w12 yb ym yn Y) := Y10.out.step B12.out
    have AP1 : Hid (Calls _ _ _ _ _) := apply_dif lx xb xn xm X ly yb yn ym Y _ (.slice la N lc) s w12 (HG.out.step (below_then B10.out B12.out)) X12.out Y12.out HX60.out HY60.out (L10.out.step B12.out)
    refine Calls.mono AP1.out ?_
    rintro r w13 (⟨lp, pb, pm, pn, rfl, hP, hpn, _, hb13⟩ | ⟨T1, x1, rfl, hb13⟩)
    · have B13 : Hid (Below w12.heap.size w12 w13) := hb13
      have P13 : Hid (BookAt lp w13 pb pm pn Y) := hP
      have NP : Hid (pn ≤ 100000) := hpn
      clear hb13 hP hpn AP1
      go_wp2_with (go_at_call_of 23 (Value.pointer (some ⟨pb, 0, none⟩)); refine Calls.mono (same_ok lp pb pn pm ly yb yn ym Y s w13 (HG.out.step (below_then (below_then B10.out B12.out) B13.out)) P13.out (Y12.out.step B13.out) NP.out (Nat.le_trans NY.out (by decide)) HY60.out) ?_; rintro r w14 ⟨rfl, hb14⟩; have B14 : Hid (Below w12.heap.size w12 w14) := below_then B13.out hb14; clear hb14)
      have AP2 : Hid (Calls _ _ _ _ _) := apply_back lx xb xn xm X ly yb yn ym Y _ (.slice ma N mc) s w14 (HG.out.step (below_then (below_then B10.out B12.out) B14.out)) (X12.out.step B14.out) (Y12.out.step B14.out) HX60.out HY60.out ((M10.out.step B12.out).step B14.out)
      refine Calls.mono AP2.out ?_
      rintro r w15 (⟨lq, qb, qm, qn, rfl, hQ, hqn, hb15⟩ | ⟨T2, x2, rfl, hb15⟩)
      · have B15 : Hid (Below w12.heap.size w12 w15) := below_then B14.out hb15
        have Q15 : Hid (BookAt lq w15 qb qm qn X) := hQ
        have NQ : Hid (qn ≤ 100000) := hqn
        clear hb15 hQ hqn AP2
        go_wp2_with (go_at_call_of 23 (Value.pointer (some ⟨qb, 0, none⟩)); refine Calls.mono (same_ok lq qb qn qm lx xb xn xm X s w15 (HG.out.step (below_then (below_then B10.out B12.out) B15.out)) Q15.out (X12.out.step B15.out) NQ.out (Nat.le_trans NX.out (by decide)) HX60.out) ?_; rintro r w16 ⟨rfl, hb16⟩)
        go_ret
        exact ⟨rfl, below_then (below_then (below_then B10.out B12.out) B15.out) hb16⟩
      · go_wp2
        go_ret
        exact ⟨rfl, below_then (below_then (below_then B10.out B12.out) B14.out) hb15⟩
    · go_wp2
      go_ret
      exact ⟨rfl, below_then (below_then B10.out B12.out) hb13⟩
end Go.Proofs.YtjhlbkjcchejjaaGreatDoor

/- The closed facts of the law DiffBack's row, one by one. -/
namespace Go.Proofs.YtjhlbkjcchejjaaGreatDoor

theorem dbk_z1 : Rows.diffBackRow.wf (OpenSpec.ofChange Rows.diffBackSpec) = true := by kernel_rfl
theorem dbk_z2 : laidOutB Tryz.prog = true := by kernel_rfl
theorem dbk_z3 : mapsRowed Tryz.prog = true := by kernel_rfl
theorem dbk_z4 : Tryz.f4.params.all (Tryz.prog.readableRec ·) = true := by kernel_rfl
theorem dbk_z5 : namedTie Tryz.prog Rows.diffBackRow.named Rows.diffBackSpec.vars = true := by kernel_rfl
theorem dbk_z6 : (Rows.diffBackRow.inPlace == Tryz.prog.inPlace 4) = true := by kernel_rfl
theorem dbk_z7 : (Rows.diffBackRow.unfollowed == Tryz.prog.unfollowed 4) = true := by kernel_rfl
theorem dbk_z8 : (Rows.diffBackRow.recurses == Tryz.prog.recurses 4) = true := by kernel_rfl
theorem dbk_z9 : (Rows.diffBackRow.named == Tryz.prog.varsNamed 4) = true := by kernel_rfl
theorem dbk_z10 : (Rows.diffBackRow.plainKeys == Tryz.prog.plainKeys) = true := by kernel_rfl
theorem dbk_z11 : Tryz.prog.stopsHeard = true := by kernel_rfl
theorem dbk_z12 : Tryz.prog.mayEnter = true := by kernel_rfl
theorem dbk_z13 : (Rows.diffBackRow.lifted == Tryz.prog.liftsFinal) = true := by kernel_rfl
theorem dbk_z14 : (Tryz.prog.make == some Rows.diffBackRow.make) = true := by kernel_rfl
theorem dbk_closed : joinedFacts Tryz.prog 4 Tryz.f4 Rows.diffBackSpec Rows.diffBackRow = true := by
  unfold joinedFacts
  rw [dbk_z1, dbk_z2, dbk_z3, dbk_z4, dbk_z5, dbk_z6, dbk_z7, dbk_z8, dbk_z9, dbk_z10, dbk_z11, dbk_z12, dbk_z13, dbk_z14]
  kernel_rfl
end Go.Proofs.YtjhlbkjcchejjaaGreatDoor

namespace Go.Proofs.YtjhlbkjcchejjaaGreatDoor
open Go.ChangeShapes Go.WideShapes Go.ChangeAt Go.RowKit Cal

theorem gNone : Tryz.prog.globalNamed "lammastide/api.ErrNone" = some 8 := by kernel_rfl
theorem tNone : (Tryz.prog.globals[8]?).map (·.type) = some 32 := by kernel_rfl
theorem dbk_plainly : laidMetH Tryz.prog Rows.diffBackRow.laid = laidMet Tryz.prog Rows.diffBackRow.laid := by
  funext W
  exact MakeChecks.laidMetH_plain _ _ _ (by kernel_rfl)

theorem gStale : Tryz.prog.globalNamed "lammastide/api.ErrStale" = some 9 := by kernel_rfl
theorem tStale : (Tryz.prog.globals[9]?).map (·.type) = some 32 := by kernel_rfl
theorem dbk_glob {W : World} (h : laidMetH Tryz.prog Rows.diffBackRow.laid W) : ∃ s, GlobD s W := by
  rw [dbk_plainly] at h
  have h0 : laidMet Tryz.prog Rows.diffBackRow.laid W := h
  have ht : Tab W := table h0.tail.tail
  have h3 := h0.tail.tail.tail.tail
  obtain ⟨a0, c0⟩ := sentinel h3 gText tText
  obtain ⟨a1, c1⟩ := sentinel h3.tail gBound tBound
  obtain ⟨a2, c2⟩ := sentinel h3.tail.tail gShape tShape
  obtain ⟨a3, c3⟩ := sentinel h3.tail.tail.tail gName tName
  obtain ⟨a4, c4⟩ := sentinel h3.tail.tail.tail.tail gNone tNone
  obtain ⟨a5, c5⟩ := sentinel h3.tail.tail.tail.tail.tail gExist tExist
  obtain ⟨a6, c6⟩ := sentinel h3.tail.tail.tail.tail.tail.tail gFull tFull
  obtain ⟨a7, c7⟩ := sentinel h3.tail.tail.tail.tail.tail.tail.tail gOrder tOrder
  obtain ⟨a8, c8⟩ := sentinel h3.tail.tail.tail.tail.tail.tail.tail.tail gStale tStale
  exact ⟨seven a0 a1 a2 a3 a5 a6 a7, ⟨c0, c1, c2, c3, c5, c6, c7⟩, ⟨⟨a3, c3⟩, ⟨a1, c1⟩, ⟨a2, c2⟩, ⟨a7, c7⟩, ⟨a0, c0⟩, names_of h3.tail.tail.tail.tail.tail.tail.tail.tail.tail.tail.tail, ht⟩, ⟨a4, c4⟩, ⟨a8, c8⟩⟩

set_option maxRecDepth 100000 in
theorem dbk_lifted (os : Os) (started : os.Started) (H : Type) (enc : TypeId × Value → H) :
    ReturnsInHanded {} Tryz.checked os 4 .any (fun w args => (Rows.diffBackSpec.pre enc Tryz.prog Tryz.f4 [] false w args ∧ laidMetH Tryz.prog Rows.diffBackRow.laid w) ∧ sizedMet enc Tryz.prog Tryz.f4 (OpenSpec.ofChange Rows.diffBackSpec) false w args)
      (Rows.diffBackSpec.post enc Tryz.prog Tryz.f4 false true false false) := by
  refine returnsInHanded_of_change_and (C := Tryz.checked) (X := fun w _ => laidMetH Tryz.prog Rows.diffBackRow.laid w) (fun _ _ _ hh h => h.of_heap hh) own started (by kernel_rfl) Tryz.func4
    (ChangeSpec.witness_shaped (enc := enc) (C := Tryz.checked) (os := os) (X := fun w _ => laidMetH Tryz.prog Rows.diffBackRow.laid w) false (World.laidAll Tryz.prog os Rows.diffBackRow.laid)
      #[.slice none 0 0, .slice none 0 0] 8 (World.laidAll_os _ _ _)
      (World.shaped_of_ZipB (by kernel_rfl) (by kernel_rfl)) (by kernel_rfl) (by kernel_rfl) (by kernel_rfl)
      (by rw [MakeChecks.laidMetH_plain _ _ _ (by kernel_rfl)]; exact laidMet_laidAll _ (by kernel_rfl) (by kernel_rfl))) ?_
  intro W base args ds gs before hval0 hW _ hZ hL _
  have hval : ∀ (j : Nat) t v, Tryz.f4.params[j]? = some t → args[j]? = some v → Value.okWide Tryz.prog W .any base t v := hval0
  have hZ' : (DataW.weightsEach Tryz.prog (Tryz.f4.params.toList ++ Rows.diffBackSpec.plain.varTypes Tryz.prog) (ds ++ gs)).all (· ≤ reachBytes) = true := hZ
  have hW' := hW
  obtain ⟨p, q, hA0, hV, rfl, hfz, hnd⟩ := hW
  have hA : DataW.TrodAll enc Tryz.prog W 0 (fun _ => true) true Tryz.f4.params.toList args.toList ds p := hA0
  rw [Tryz.params4] at hA hval hZ'
  obtain ⟨v0, v1, d0, d1, p0, p1, rfl, rfl, rfl, h0, h1⟩ := trodAll_two hA
  obtain ⟨rfl, rfl⟩ := trodVars_none hV
  have k0 := h0
  have k1 := h1
  have hw0 : ∀ k ∈ d0.weights Tryz.prog 42, k ≤ reachBytes := fun k hk => by
    have := List.all_eq_true.1 hZ' k (DataW.weights_mem_each (j := 0) rfl rfl k hk)
    simpa using this
  have hw1 : ∀ k ∈ d1.weights Tryz.prog 42, k ≤ reachBytes := fun k hk => by
    have := List.all_eq_true.1 hZ' k (DataW.weights_mem_each (j := 1) rfl rfl k hk)
    simpa using this
  obtain ⟨sa0, sn0, sc0, rfl⟩ := okWide_slice Tryz.underlying42 (hval 0 42 v0 rfl rfl)
  obtain ⟨sa1, sn1, sc1, rfl⟩ := okWide_slice Tryz.underlying42 (hval 1 42 v1 rfl rfl)
  obtain ⟨fuel0, hf0⟩ := h0
  obtain ⟨fuel1, hf1⟩ := h1
  obtain ⟨E0, hE0⟩ := open_events hf0 hw0
  obtain ⟨E1, hE1⟩ := open_events hf1 hw1
  clear hA0 hval0
  simp only [List.append_nil] at hW'
  have hlt : ∀ x ∈ p0 ++ p1, x.block < W.heap.size := fun x hx => hW'.lt x hx
  have hlt0 : ∀ x ∈ p0, x.block < W.heap.size := fun x hx => hlt x (List.mem_append.2 (.inl hx))
  have hlt1 : ∀ x ∈ p1, x.block < W.heap.size := fun x hx => hlt x (List.mem_append.2 (.inr hx))
  obtain ⟨s, hg⟩ := dbk_glob hL
  refine (dback_all E0 E1 _ _ s W hg hE0 hE1).mono fun r W' ⟨he, hb⟩ => ?_
  subst he
  have z1 : laidOutB Tryz.prog = true := dbk_z2
  refine ⟨_, rfl, _, _, _, [], p0 ++ p1, [], hW', ?_, ?_, ?_, hb.frame _, fun h => by cases h⟩
  · exact trodAll_mk1 (shut_bool Tryz.underlying4 true)
  · exact trodAll_mk2 (WideElems.Trod_stays (P := Tryz.prog) z1 (by kernel_rfl) (of_decide_eq_true (by kernel_rfl)) k0 (fun x hx => hb.same (hlt0 x hx)) (fun x hx => by simpa using hlt0 x hx))
      (WideElems.Trod_stays (P := Tryz.prog) z1 (by kernel_rfl) (of_decide_eq_true (by kernel_rfl)) k1 (fun x hx => hb.same (hlt1 x hx)) (fun x hx => by simpa using hlt1 x hx))
  · rfl

theorem dbk_said : Rows.DiffBackSaid :=
  OpenClaim.holds_of_wide 4 Tryz.f4 rfl rfl rfl rfl rfl rfl rfl ⟨rfl, rfl, rfl, rfl, rfl⟩ rfl rfl rfl rfl rfl (by kernel_rfl) Tryz.func4 dbk_closed
    (of_decide_eq_true (by kernel_rfl)) (by unfold Func.isWrapper; rw [if_neg (of_decide_eq_false (by kernel_rfl))]; exact ⟨rfl, rfl⟩)
    (fun os started H enc _ => dbk_lifted os started H enc)

/-- no parameter wants a stand-in -/
theorem dbk_plain (f : FuncId) (fn : Func) (hf : Tryz.pinned.checked.prog.funcNamed "lammastide/lammastidelaw2.DiffBack" = some f) (hfn : Tryz.pinned.checked.prog.funcs[f]? = some fn) :
    true = Tryz.pinned.checked.prog.looks [] ∧ ∀ (j : Nat) t, fn.params[j]? = some t → Tryz.pinned.checked.prog.wantsStandIn t = false := by
  obtain rfl : f = 4 := Option.some.inj ((show Tryz.prog.funcNamed "lammastide/lammastidelaw2.DiffBack" = some 4 by kernel_rfl).symm.trans hf) |>.symm
  obtain rfl : fn = Tryz.f4 := (Option.some.inj (Tryz.func4.symm.trans hfn)).symm
  refine ⟨by kernel_rfl, fun j t ht => ?_⟩
  rw [Tryz.params4] at ht
  have hm := Array.mem_of_getElem? ht
  obtain rfl : t = 42 := by simpa using hm
  exact (show Tryz.prog.wantsStandIn 42 = false by kernel_rfl)

/-- The law's card. -/
theorem diffBack_card : Rows.DiffBackCardSaid :=
  Claim7.holds_tied_plain_at .later [] _ _ _ _ dbk_said (fun _ h => by cases h) (by kernel_rfl) (fun _ h => by cases h) diffBack_row_tie rfl ⟨rfl, rfl⟩ (by kernel_rfl) rfl dbk_plain (by kernel_rfl)
end Go.Proofs.YtjhlbkjcchejjaaGreatDoor
