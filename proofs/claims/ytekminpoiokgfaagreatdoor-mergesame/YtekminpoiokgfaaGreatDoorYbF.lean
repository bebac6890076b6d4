/- Proved: the law MergeSame returns true for every three lists of events, and each argument reads afterwards as it read before; the listed package-level variables hold what the program's own text lays in them (the card's tie). -/
/- The law MergeSame. -/
import Derived.Test.YtekminpoiokgfaaGreatDoorYbE
import Derived.Laws.StructEq
import Derived.Test.YtekminpoiokgfaaGreatDoorRows
import Derived.JoinedOf
import Derived.Test.YtekminpoiokgfaaGreatDoorCards
import Derived.Test.YtekminpoiokgfaaGreatDoorTie
import Derived.Test.YtekminpoiokgfaaGreatDoorYaL
import Derived.Test.YtekminpoiokgfaaGreatDoorYaM
namespace Go.Proofs.YtekminpoiokgfaaGreatDoor
open Go Go.RowKit Go.Maps Go.Sort Cal
attribute [local go_sem] Oper.semAt_some

set_option maxHeartbeats 4000000 in
set_option maxRecDepth 100000 in
theorem msame_all (E1 E2 E3 : List EV) (v1 v2 v3 : Value) (s : Nat → Addr) (w : World) (g : GlobM s w) (h1 : EvsL w v1 E1) (h2 : EvsL w v2 E2) (h3 : EvsL w v3 E3) :
    Calls Tryz.prog 3 #[v1, v2, v3] w fun r w' => r = .returned (.bool true) ∧ Below w.heap.size w w' := by
  have DF : Hid (Calls _ _ _ _ _) := merged_any s w g
  have HG : Hid (GlobM s w) := g
  have LE : Hid (∀ (v : Value) (E : List EV) W, EvsL w v E → Below w.heap.size w W → Calls Tryz.prog 6 #[v] W fun r w' => ∃ k : Int, r = .returned (.int .i64 k) ∧ (k = 1 ∨ (k = 0 ∧ E.length ≤ 70 ∧ ∀ F ∈ E, lngE F = 0)) ∧ Below W.heap.size W w') := fun v E W h hW => longEvents_any E v W (h.step hW)
  have HV1 : Hid (EvsL w v1 E1) := h1
  have HV2 : Hid (EvsL w v2 E2) := h2
  have HV3 : Hid (EvsL w v3 E3) := h3
  clear g h1 h2 h3
  go_enter Tryz.func3, Tryz.ntmps3
  go_upto_region 2 with (go_at_call 5; refine Calls.mono DF.out ?_; rintro r w1 ⟨rfl, hb1⟩)
  have B1 : Hid (Below w.heap.size w w1) := hb1
  clear hb1 DF
  go_upto_if 38 with (first
    | (go_at_call_of 6 v1; refine Calls.mono (LE.out v1 E1 _ HV1.out B1.out) ?_; rintro r w2 ⟨k1, rfl, hk1, hb2⟩; have B2 : Hid (Below w.heap.size w w2) := below_then B1.out hb2; have HK1 : Hid (k1 = 1 ∨ (k1 = 0 ∧ E1.length ≤ 70 ∧ ∀ F ∈ E1, lngE F = 0)) := hk1; have p1 : 0 ≤ k1 ∧ k1 ≤ 1 := (by rcases hk1 with rfl | ⟨rfl, _⟩ <;> decide); clear hk1 hb2)
    | (go_at_call_of 6 v2; refine Calls.mono (LE.out v2 E2 _ HV2.out B2.out) ?_; rintro r w3 ⟨k2, rfl, hk2, hb3⟩; have B3 : Hid (Below w.heap.size w w3) := below_then B2.out hb3; have HK2 : Hid (k2 = 1 ∨ (k2 = 0 ∧ E2.length ≤ 70 ∧ ∀ F ∈ E2, lngE F = 0)) := hk2; have p2 : 0 ≤ k2 ∧ k2 ≤ 1 := (by rcases hk2 with rfl | ⟨rfl, _⟩ <;> decide); clear hk2 hb3)
    | (go_at_call_of 6 v3; refine Calls.mono (LE.out v3 E3 _ HV3.out B3.out) ?_; rintro r w4 ⟨k3, rfl, hk3, hb4⟩; have B4 : Hid (Below w.heap.size w w4) := below_then B3.out hb4; have HK3 : Hid (k3 = 1 ∨ (k3 = 0 ∧ E3.length ≤ 70 ∧ ∀ F ∈ E3, lngE F = 0)) := hk3; have p3 : 0 ≤ k3 ∧ k3 ≤ 1 := (by rcases hk3 with rfl | ⟨rfl, _⟩ <;> decide); clear hk3 hb4))
  by_cases hz : 0 < k1 + k2 + k3
  · go_wp2
    go_ret
    exact ⟨rfl, B4.out⟩
  · obtain ⟨a1, b1⟩ : E1.length ≤ 70 ∧ ∀ F ∈ E1, lngE F = 0 := by
      rcases HK1.out with q | ⟨_, q⟩
      · omega
      · exact q
    obtain ⟨a2, b2⟩ : E2.length ≤ 70 ∧ ∀ F ∈ E2, lngE F = 0 := by
      rcases HK2.out with q | ⟨_, q⟩
      · omega
      · exact q
    obtain ⟨a3, b3⟩ : E3.length ≤ 70 ∧ ∀ F ∈ E3, lngE F = 0 := by
      rcases HK3.out with q | ⟨_, q⟩
      · omega
      · exact q
    have BO1 : Hid (∀ W, Below w.heap.size w W → _) := fun W hW => bookOf_C E1 v1 s W (HG.out.step hW).gk (HV1.out.step hW) a1 b1
    have BO2 : Hid (∀ W, Below w.heap.size w W → _) := fun W hW => bookOf_C E2 v2 s W (HG.out.step hW).gk (HV2.out.step hW) a2 b2
    have BO3 : Hid (∀ W, Below w.heap.size w W → _) := fun W hW => bookOf_C E3 v3 s W (HG.out.step hW).gk (HV3.out.step hW) a3 b3
    have HX60 : Hid ((calOf E1).length ≤ 60) := (calOf_ok E1).2
    have HY60 : Hid ((calOf E2).length ≤ 60) := (calOf_ok E2).2
    have HZ60 : Hid ((calOf E3).length ≤ 60) := (calOf_ok E3).2
    clear a1 b1 a2 b2 a3 b3 HK1 HK2 HK3 p1 p2 p3 LE HV1 HV2 HV3
    generalize calOf E1 = X at BO1 HX60
    generalize calOf E2 = Y at BO2 HY60
    generalize calOf E3 = Z at BO3 HZ60
    go_upto_region 7 with (first
      | (go_at_call_of 7 v1; refine Calls.mono (BO1.out _ B4.out) ?_; rintro r w5 ⟨lx, xb, xm, xn, xa, xl, xc, rfl, hX, hxn, hb5⟩; have B5 : Hid (Below w.heap.size w (w5.alloc (.cells #[.slice xa xl xc] 27))) := below_then (below_then B4.out hb5) (below_alloc _ _); have X5 : Hid (BookAt lx (w5.alloc (.cells #[.slice xa xl xc] 27)) xb xm xn X) := hX.step (below_alloc _ _); have NX : Hid (xn ≤ 70) := hxn; clear hX hxn hb5)
      | (go_at_call_of 7 v2; refine Calls.mono (BO2.out _ B5.out) ?_; rintro r w6 ⟨ly, yb, ym, yn, ya, yl, yc, rfl, hY, hyn, hb6⟩; have B6 : Hid (Below w.heap.size w (w6.alloc (.cells #[.slice ya yl yc] 27))) := below_then (below_then B5.out hb6) (below_alloc _ _); have X6 : Hid (BookAt lx (w6.alloc (.cells #[.slice ya yl yc] 27)) xb xm xn X) := X5.out.step (below_then hb6 (below_alloc _ _)); have Y6 : Hid (BookAt ly (w6.alloc (.cells #[.slice ya yl yc] 27)) yb ym yn Y) := hY.step (below_alloc _ _); have NY : Hid (yn ≤ 70) := hyn; clear hY hyn hb6)
      | (go_at_call_of 7 v3; refine Calls.mono (BO3.out _ B6.out) ?_; rintro r w7 ⟨lz, zb, zm, zn, za, zl, zc, rfl, hZ, hzn, hb7⟩; have B7 : Hid (Below w.heap.size w (w7.alloc (.cells #[.slice za zl zc] 27))) := below_then (below_then B6.out hb7) (below_alloc _ _); have X7 : Hid (BookAt lx (w7.alloc (.cells #[.slice za zl zc] 27)) xb xm xn X) := X6.out.step (below_then hb7 (below_alloc _ _)); have Y7 : Hid (BookAt ly (w7.alloc (.cells #[.slice za zl zc] 27)) yb ym yn Y) := Y6.out.step (below_then hb7 (below_alloc _ _)); have Z7 : Hid (BookAt lz (w7.alloc (.cells #[.slice za zl zc] 27)) zb zm zn Z) := hZ.step (below_alloc _ _); have NZ : Hid (zn ≤ 70) := hzn; clear hZ hzn hb7))
    generalize w7.alloc (.cells #[.slice za zl zc] 27) = w8 at *
    generalize w7.heap.size = c7 at *
    generalize w6.heap.size = c6 at *
    generalize w5.heap.size = c5 at *
    clear B1 B2 B3 B4 B5 B6 X5 X6 Y6 BO1 BO2 BO3
    have G8 : Hid (GlobM s w8) := HG.out.step B7.out
    have T1 : Hid (Calls _ _ _ _ _) := three_one (some ⟨xb, 0, none⟩) X ly yb yn ym Y ly yb yn ym Y Y s w8 G8.out (getC_book X7.out) (book_ok X7.out) Y7.out Y7.out NY.out NY.out HY60.out HY60.out (thr_same Y7.out.rises.1 HY60.out)
    have T2 : Hid (∀ W, Below w8.heap.size w8 W → Calls _ _ _ _ _) := fun W hW => three_one (some ⟨xb, 0, none⟩) X ly yb yn ym Y lx xb xn xm X Y s W (G8.out.step hW) (getC_book (X7.out.step hW)) (book_ok X7.out) (Y7.out.step hW) (X7.out.step hW) NY.out NX.out HY60.out HX60.out (thr_left Y7.out.rises.1 HY60.out)
    have T3 : Hid (∀ W, Below w8.heap.size w8 W → Calls _ _ _ _ _) := fun W hW => three_one (some ⟨xb, 0, none⟩) X lx xb xn xm X ly yb yn ym Y Y s W (G8.out.step hW) (getC_book (X7.out.step hW)) (book_ok X7.out) (X7.out.step hW) (Y7.out.step hW) NX.out NY.out HX60.out HY60.out (thr_right X7.out.allw Y7.out.allw Y7.out.rises.1 HY60.out)
    have T4 : Hid (∀ W, Below w8.heap.size w8 W → Calls Tryz.prog 8 #[.pointer (some ⟨xb, 0, none⟩), .pointer (some ⟨yb, 0, none⟩), .pointer (some ⟨zb, 0, none⟩)] W fun r w' => Below W.heap.size W w' ∧ ThrIs W.heap.size (thr X Y Z (idsU Y Z)) r w') := fun W hW => three_C (some ⟨xb, 0, none⟩) X ly yb yn ym Y lz zb zn zm Z s W (G8.out.step hW).gk (G8.out.step hW).gr (getC_book (X7.out.step hW)) (book_ok X7.out) (Y7.out.step hW) (Z7.out.step hW) (Nat.le_trans NY.out (by decide)) (Nat.le_trans NZ.out (by decide)) HY60.out HZ60.out
    have T5 : Hid (∀ W, Below w8.heap.size w8 W → Calls Tryz.prog 8 #[.pointer (some ⟨xb, 0, none⟩), .pointer (some ⟨zb, 0, none⟩), .pointer (some ⟨yb, 0, none⟩)] W fun r w' => Below W.heap.size W w' ∧ ThrIs W.heap.size (thr X Y Z (idsU Y Z)) r w') := fun W hW => by
      rw [thr_swap X7.out.allw Y7.out.allw Z7.out.allw]
      exact three_C (some ⟨xb, 0, none⟩) X lz zb zn zm Z ly yb yn ym Y s W (G8.out.step hW).gk (G8.out.step hW).gr (getC_book (X7.out.step hW)) (book_ok X7.out) (Z7.out.step hW) (Y7.out.step hW) (Nat.le_trans NZ.out (by decide)) (Nat.le_trans NY.out (by decide)) HZ60.out HY60.out
    have HTL : Hid ((thr X Y Z (idsU Y Z)).2.length ≤ 1000 ∧ (thr X Y Z (idsU Y Z)).1.length ≤ 60) := thr_len X Y Z _ (idsU_len Y Z HY60.out HZ60.out)
    clear HX60 HZ60 X7 Z7 NX NZ
    generalize thr X Y Z (idsU Y Z) = a at T4 T5 HTL
    obtain ⟨C, cl⟩ := a
    go_upto_region 8 with (go_at_call 8; refine Calls.mono T1.out ?_; rintro r w9 ⟨lp, pb, pm, pn, rfl, hP, hpn, hb9⟩)
    have B9 : Hid (Below w8.heap.size w8 w9) := hb9
    have P9 : Hid (BookAt lp w9 pb pm pn Y) := hP
    have NP : Hid (pn ≤ 1000) := hpn
    clear hP hb9 T1 hpn
    go_upto_region 9 with (go_at_call 8; refine Calls.mono (T2.out w9 B9.out) ?_; rintro r w10 ⟨lq, qb, qm, qn, rfl, hQ, hqn, hb10⟩)
    have B10 : Hid (Below w8.heap.size w8 w10) := below_then B9.out hb10
    have P10 : Hid (BookAt lp w10 pb pm pn Y) := P9.out.step hb10
    have Q10 : Hid (BookAt lq w10 qb qm qn Y) := hQ
    have NQ : Hid (qn ≤ 1000) := hqn
    clear hQ hb10 T2 P9 B9 hqn
    go_upto_region 10 with (go_at_call 8; refine Calls.mono (T3.out w10 B10.out) ?_; rintro r w11 ⟨lr, rb, rm, rn, rfl, hR, hrn, hb11⟩)
    have B11 : Hid (Below w8.heap.size w8 w11) := below_then B10.out hb11
    have P11 : Hid (BookAt lp w11 pb pm pn Y) := P10.out.step hb11
    have Q11 : Hid (BookAt lq w11 qb qm qn Y) := Q10.out.step hb11
    have R11 : Hid (BookAt lr w11 rb rm rn Y) := hR
    have NR : Hid (rn ≤ 1000) := hrn
    clear hR hb11 T3 P10 Q10 B10 hrn
    have SP : Hid (Calls _ _ _ _ _) := same_okM lp pb pn pm ly yb yn ym Y s w11 (G8.out.step B11.out) P11.out (Y7.out.step B11.out) (Nat.le_trans NP.out (by decide)) (Nat.le_trans NY.out (by decide)) HY60.out
    have SQ : Hid (∀ W, Below w11.heap.size w11 W → Calls _ _ _ _ _) := fun W hW => same_okM lq qb qn qm ly yb yn ym Y s W (G8.out.step (below_then B11.out hW)) (Q11.out.step hW) (Y7.out.step (below_then B11.out hW)) (Nat.le_trans NQ.out (by decide)) (Nat.le_trans NY.out (by decide)) HY60.out
    have SR : Hid (∀ W, Below w11.heap.size w11 W → Calls _ _ _ _ _) := fun W hW => same_okM lr rb rn rm ly yb yn ym Y s W (G8.out.step (below_then B11.out hW)) (R11.out.step hW) (Y7.out.step (below_then B11.out hW)) (Nat.le_trans NR.out (by decide)) (Nat.le_trans NY.out (by decide)) HY60.out
    clear P11 Q11 R11 NP NQ NR Y7 NY HY60
    go_upto_region 12 with (first
      | (go_at_call_of 9 (Value.pointer (some ⟨pb, 0, none⟩)); refine Calls.mono SP.out ?_; rintro r w12 ⟨rfl, hb12⟩; have B12 : Hid (Below w11.heap.size w11 w12) := hb12; clear hb12)
      | (go_at_call_of 9 (Value.pointer (some ⟨qb, 0, none⟩)); refine Calls.mono (SQ.out w12 B12.out) ?_; rintro r w13 ⟨rfl, hb13⟩; have B13 : Hid (Below w11.heap.size w11 w13) := below_then B12.out hb13; clear hb13)
      | (go_at_call_of 9 (Value.pointer (some ⟨rb, 0, none⟩)); refine Calls.mono (SR.out w13 B13.out) ?_; rintro r w14 ⟨rfl, hb14⟩; have B14 : Hid (Below w11.heap.size w11 w14) := below_then B13.out hb14; clear hb14))
    have B15 : Hid (Below w8.heap.size w8 w14) := below_then B11.out B14.out
    clear SP SQ SR B12 B13 B14 B11
    go_wp2_with fail
    go_at_call 8
    refine Calls.mono (T4.out w14 B15.out) ?_
    rintro r w15 ⟨hb15, ⟨hc0, mo5, n5, rfl, hS, hn5⟩ | ⟨hc0, vs, rfl, hS⟩⟩
    · have hcl : cl = [] := hc0
      subst hcl
      have B16 : Hid (Below w8.heap.size w8 w15) := below_then B15.out hb15
      have T5' : Hid (Calls _ _ _ _ _) := T5.out w15 B16.out
      have HS : Hid (BookAt w14.heap.size w15 w14.heap.size mo5 n5 C) := hS
      have N5 : Hid (n5 ≤ 1000) := hn5
      clear hc0 hb15 B15 T4 T5 hS hn5
      generalize w14.heap.size = sb at *
      go_wp2_with fail
      go_at_call 8
      refine Calls.mono T5'.out ?_
      rintro r w16 ⟨hb16, ⟨_, mo6, n6, rfl, hT, hn6⟩ | ⟨q, _⟩⟩
      · have SS : Hid (Calls _ _ _ _ _) := same_okM _ _ _ _ _ _ _ _ C s w16 (G8.out.step (below_then B16.out hb16)) (HS.out.step hb16) hT (Nat.le_trans N5.out (by decide)) (Nat.le_trans hn6 (by decide)) HTL.out.2
        have B17 : Hid (Below w.heap.size w w16) := below_then B7.out (below_then B16.out hb16)
        clear hb16 hT hn6 HS N5 T5' B16
        generalize w15.heap.size = tb at *
        go_wp2
        go_loopw [24] (fun i wr => i = .int .i64 0 ∧ wr = w16) (fun _ _ => 0)
        case atStart => exact ⟨rfl, rfl⟩
        case round =>
          obtain ⟨rfl, rfl⟩ := hrel
          go_wp2_with (go_at_call 9; refine Calls.mono SS.out ?_; rintro r w17 ⟨rfl, hb17⟩)
          go_ret
          exact ⟨rfl, below_then B17.out hb17⟩
      · exact absurd rfl q
    · have B16 : Hid (Below w8.heap.size w8 w15) := below_then B15.out hb15
      have T5' : Hid (Calls _ _ _ _ _) := T5.out w15 B16.out
      have HS : Hid (ClR w14.heap.size w15 vs cl) := hS
      have hcl : cl ≠ [] := hc0
      obtain ⟨sa, sc, rfl, hsc, _⟩ := hS.cells
      clear hc0 hb15 B15 T4 T5
      go_wp2_with fail
      go_at_call 8
      refine Calls.mono T5'.out ?_
      rintro r w16 ⟨hb16, ⟨q, _⟩ | ⟨_, vt, rfl, hT⟩⟩
      · exact absurd q hcl
      · obtain ⟨ta, tc, rfl, htc, hct⟩ := hT.cells
        have HA : Hid (∀ (j : Nat) (hj : j < cl.length), ∃ b : Nat, sa = some ⟨b, 0, none⟩ ∧ b < w16.heap.size ∧ w16.cell? ⟨b, j * 2, none⟩ = some (.string cl[j].1) ∧ w16.cell? ⟨b, j * 2 + 1, none⟩ = some (.string cl[j].2)) := by
          obtain ⟨sa', sc', q, _, hcs⟩ := (HS.out.step hb16).cells
          injection q with q1 q2 q3
          rw [q1]
          exact hcs
        have HB : Hid (∀ (j : Nat) (hj : j < cl.length), ∃ b : Nat, ta = some ⟨b, 0, none⟩ ∧ b < w16.heap.size ∧ w16.cell? ⟨b, j * 2, none⟩ = some (.string cl[j].1) ∧ w16.cell? ⟨b, j * 2 + 1, none⟩ = some (.string cl[j].2)) := hct
        have B17 : Hid (Below w.heap.size w w16) := below_then B7.out (below_then B16.out hb16)
        have hcp : 0 < cl.length := List.length_pos_iff.2 hcl
        have h1000 : cl.length ≤ 1000 := HTL.out.1
        obtain ⟨L, hL⟩ : ∃ L, cl.length = L := ⟨_, rfl⟩
        rw [hL] at hcp hsc htc h1000 ⊢
        have HL : Hid (cl.length = L) := hL
        clear hL hb16 hT HS T5' B16 hct HTL hS hcl
        have hcpi : (0 : Int) < (L : Int) := by omega
        go_wp2
        go_loopw [24] (fun i wr => ∃ k q : Nat, k ≤ L ∧ i = .int .i64 k ∧ wr = w16.drewN q) (fun i _ => L - (intOf i).toNat)
        case atStart => exact ⟨0, 0, Nat.zero_le _, rfl, rfl⟩
        case round =>
          obtain ⟨k, q, hk, rfl, rfl⟩ := hrel
          by_cases hlt : k < L
          · have hkl : k < cl.length := by rw [HL.out]; exact hlt
            obtain ⟨x, rfl, _, p0, p1⟩ := HA.out k hkl
            obtain ⟨y, rfl, _, q0, q1⟩ := HB.out k hkl
            have hlt' : (k : Int) < (L : Int) := by omega
            generalize cl[k].1 = ci at p0 q0
            generalize cl[k].2 = cf at p1 q1
            clear HA HB
            go_wp2
            go_quiet (fail)
            go_wp2
            go_roundw
            case rel => exact ⟨k + 1, _, by omega, by go_num, rfl⟩
            case measure => simp [intOf]; omega
          · clear HA HB
            go_wp2
            go_ret
            exact ⟨rfl, below_then B17.out (drewN_below _ _)⟩
end Go.Proofs.YtekminpoiokgfaaGreatDoor

/- The closed facts of the law MergeSame's row, one by one. -/
namespace Go.Proofs.YtekminpoiokgfaaGreatDoor

theorem msm_z1 : Rows.mergeSameRow.wf (OpenSpec.ofChange Rows.mergeSameSpec) = true := by kernel_rfl
theorem msm_z2 : laidOutB Tryz.prog = true := by kernel_rfl
theorem msm_z3 : mapsRowed Tryz.prog = true := by kernel_rfl
theorem msm_z4 : Tryz.f3.params.all (Tryz.prog.readableRec ·) = true := by kernel_rfl
theorem msm_z5 : namedTie Tryz.prog Rows.mergeSameRow.named Rows.mergeSameSpec.vars = true := by kernel_rfl
theorem msm_z6 : (Rows.mergeSameRow.inPlace == Tryz.prog.inPlace 3) = true := by kernel_rfl
theorem msm_z7 : (Rows.mergeSameRow.unfollowed == Tryz.prog.unfollowed 3) = true := by kernel_rfl
theorem msm_z8 : (Rows.mergeSameRow.recurses == Tryz.prog.recurses 3) = true := by kernel_rfl
theorem msm_z9 : (Rows.mergeSameRow.named == Tryz.prog.varsNamed 3) = true := by kernel_rfl
theorem msm_z10 : (Rows.mergeSameRow.plainKeys == Tryz.prog.plainKeys) = true := by kernel_rfl
theorem msm_z11 : Tryz.prog.stopsHeard = true := by kernel_rfl
theorem msm_z12 : Tryz.prog.mayEnter = true := by kernel_rfl
theorem msm_z13 : (Rows.mergeSameRow.lifted == Tryz.prog.liftsFinal) = true := by kernel_rfl
theorem msm_z14 : (Tryz.prog.make == some Rows.mergeSameRow.make) = true := by kernel_rfl
theorem msm_closed : joinedFacts Tryz.prog 3 Tryz.f3 Rows.mergeSameSpec Rows.mergeSameRow = true := by
  unfold joinedFacts
  rw [msm_z1, msm_z2, msm_z3, msm_z4, msm_z5, msm_z6, msm_z7, msm_z8, msm_z9, msm_z10, msm_z11, msm_z12, msm_z13, msm_z14]
  kernel_rfl
end Go.Proofs.YtekminpoiokgfaaGreatDoor

namespace Go.Proofs.YtekminpoiokgfaaGreatDoor
open Go.ChangeShapes Go.WideShapes Go.ChangeAt Go.RowKit Cal

theorem msm_plainly : laidMetH Tryz.prog Rows.mergeSameRow.laid = laidMet Tryz.prog Rows.mergeSameRow.laid := by
  funext W
  exact MakeChecks.laidMetH_plain _ _ _ (by kernel_rfl)

theorem msm_glob {W : World} (h : laidMetH Tryz.prog Rows.mergeSameRow.laid W) : ∃ s, GlobM s W := by
  rw [msm_plainly] at h
  have h0 : laidMet Tryz.prog Rows.mergeSameRow.laid W := h
  have ht : Tab W := table h0.tail.tail
  have h3 := h0.tail.tail.tail.tail
  obtain ⟨a0, c0⟩ := sentinel h3 gText tText
  obtain ⟨a1, c1⟩ := sentinel h3.tail gBound tBound
  obtain ⟨a2, c2⟩ := sentinel h3.tail.tail gShape tShape
  obtain ⟨a3, c3⟩ := sentinel h3.tail.tail.tail gName tName
  obtain ⟨a5, c5⟩ := sentinel h3.tail.tail.tail.tail gExist tExist
  obtain ⟨a6, c6⟩ := sentinel h3.tail.tail.tail.tail.tail gFull tFull
  obtain ⟨a7, c7⟩ := sentinel h3.tail.tail.tail.tail.tail.tail gOrder tOrder
  exact ⟨seven a0 a1 a2 a3 a5 a6 a7, ⟨c0, c1, c2, c3, c5, c6, c7⟩, ⟨⟨a3, c3⟩, ⟨a1, c1⟩, ⟨a2, c2⟩, ⟨a7, c7⟩, ⟨a0, c0⟩, names_of h3.tail.tail.tail.tail.tail.tail.tail.tail.tail, ht⟩⟩

set_option maxRecDepth 100000 in
theorem msm_lifted (os : Os) (started : os.Started) (H : Type) (enc : TypeId × Value → H) :
    ReturnsInHanded {} Tryz.checked os 3 .any (fun w args => (Rows.mergeSameSpec.pre enc Tryz.prog Tryz.f3 [] false w args ∧ laidMetH Tryz.prog Rows.mergeSameRow.laid w) ∧ sizedMet enc Tryz.prog Tryz.f3 (OpenSpec.ofChange Rows.mergeSameSpec) false w args)
      (Rows.mergeSameSpec.post enc Tryz.prog Tryz.f3 false true false false) := by
  refine returnsInHanded_of_change_and (C := Tryz.checked) (X := fun w _ => laidMetH Tryz.prog Rows.mergeSameRow.laid w) (fun _ _ _ hh h => h.of_heap hh) own started (by kernel_rfl) Tryz.func3
    (ChangeSpec.witness_shaped (enc := enc) (C := Tryz.checked) (os := os) (X := fun w _ => laidMetH Tryz.prog Rows.mergeSameRow.laid w) false (World.laidAll Tryz.prog os Rows.mergeSameRow.laid)
      #[.slice none 0 0, .slice none 0 0, .slice none 0 0] 8 (World.laidAll_os _ _ _)
      (World.shaped_of_ZipB (by kernel_rfl) (by kernel_rfl)) (by kernel_rfl) (by kernel_rfl) (by kernel_rfl)
      (by rw [MakeChecks.laidMetH_plain _ _ _ (by kernel_rfl)]; exact laidMet_laidAll _ (by kernel_rfl) (by kernel_rfl))) ?_
  intro W base args ds gs before hval0 hW _ hZ hL _
  have hval : ∀ (j : Nat) t v, Tryz.f3.params[j]? = some t → args[j]? = some v → Value.okWide Tryz.prog W .any base t v := hval0
  have hZ' : (DataW.weightsEach Tryz.prog (Tryz.f3.params.toList ++ Rows.mergeSameSpec.plain.varTypes Tryz.prog) (ds ++ gs)).all (· ≤ reachBytes) = true := hZ
  have hW' := hW
  obtain ⟨p, q, hA0, hV, rfl, hfz, hnd⟩ := hW
  have hA : DataW.TrodAll enc Tryz.prog W 0 (fun _ => true) true Tryz.f3.params.toList args.toList ds p := hA0
  rw [Tryz.params3] at hA hval hZ'
  obtain ⟨v0, v1, v2, d0, d1, d2, p0, p1, p2, rfl, rfl, rfl, h0, h1, h2⟩ := trodAll_three hA
  obtain ⟨rfl, rfl⟩ := trodVars_none hV
  have k0 := h0
  have k1 := h1
  have k2 := h2
  have hw0 : ∀ k ∈ d0.weights Tryz.prog 22, k ≤ reachBytes := fun k hk => by
    have := List.all_eq_true.1 hZ' k (DataW.weights_mem_each (j := 0) rfl rfl k hk)
    simpa using this
  have hw1 : ∀ k ∈ d1.weights Tryz.prog 22, k ≤ reachBytes := fun k hk => by
    have := List.all_eq_true.1 hZ' k (DataW.weights_mem_each (j := 1) rfl rfl k hk)
    simpa using this
  have hw2 : ∀ k ∈ d2.weights Tryz.prog 22, k ≤ reachBytes := fun k hk => by
    have := List.all_eq_true.1 hZ' k (DataW.weights_mem_each (j := 2) rfl rfl k hk)
    simpa using this
  obtain ⟨sa0, sn0, sc0, rfl⟩ := okWide_slice Tryz.underlying22 (hval 0 22 v0 rfl rfl)
  obtain ⟨sa1, sn1, sc1, rfl⟩ := okWide_slice Tryz.underlying22 (hval 1 22 v1 rfl rfl)
  obtain ⟨sa2, sn2, sc2, rfl⟩ := okWide_slice Tryz.underlying22 (hval 2 22 v2 rfl rfl)
  obtain ⟨fuel0, hf0⟩ := h0
  obtain ⟨fuel1, hf1⟩ := h1
  obtain ⟨fuel2, hf2⟩ := h2
  obtain ⟨E0, hE0⟩ := open_events hf0 hw0
  obtain ⟨E1, hE1⟩ := open_events hf1 hw1
  obtain ⟨E2, hE2⟩ := open_events hf2 hw2
  clear hA0 hval0
  simp only [List.append_nil] at hW'
  have hlt : ∀ x ∈ p0 ++ (p1 ++ p2), x.block < W.heap.size := fun x hx => hW'.lt x (by rw [List.append_assoc]; exact hx)
  have hlt0 : ∀ x ∈ p0, x.block < W.heap.size := fun x hx => hlt x (List.mem_append.2 (.inl hx))
  have hlt1 : ∀ x ∈ p1, x.block < W.heap.size := fun x hx => hlt x (List.mem_append.2 (.inr (List.mem_append.2 (.inl hx))))
  have hlt2 : ∀ x ∈ p2, x.block < W.heap.size := fun x hx => hlt x (List.mem_append.2 (.inr (List.mem_append.2 (.inr hx))))
  obtain ⟨s, hg⟩ := msm_glob hL
  refine (msame_all E0 E1 E2 _ _ _ s W hg hE0 hE1 hE2).mono fun r W' ⟨he, hb⟩ => ?_
  subst he
  have z1 : laidOutB Tryz.prog = true := msm_z2
  rw [List.append_assoc] at hW'
  refine ⟨_, rfl, _, _, _, [], p0 ++ (p1 ++ p2), [], hW', ?_, ?_, ?_, hb.frame _, fun h => by cases h⟩
  · exact trodAll_mk1 (shut_bool Tryz.underlying4 true)
  · exact trodAll_mk3 (WideElems.Trod_stays (P := Tryz.prog) z1 (by kernel_rfl) (of_decide_eq_true (by kernel_rfl)) k0 (fun x hx => hb.same (hlt0 x hx)) (fun x hx => by simpa using hlt0 x hx))
      (WideElems.Trod_stays (P := Tryz.prog) z1 (by kernel_rfl) (of_decide_eq_true (by kernel_rfl)) k1 (fun x hx => hb.same (hlt1 x hx)) (fun x hx => by simpa using hlt1 x hx))
      (WideElems.Trod_stays (P := Tryz.prog) z1 (by kernel_rfl) (of_decide_eq_true (by kernel_rfl)) k2 (fun x hx => hb.same (hlt2 x hx)) (fun x hx => by simpa using hlt2 x hx))
  · rfl

theorem msm_said : Rows.MergeSameSaid :=
  OpenClaim.holds_of_wide 3 Tryz.f3 rfl rfl rfl rfl rfl rfl rfl ⟨rfl, rfl, rfl, rfl, rfl⟩ rfl rfl rfl rfl rfl (by kernel_rfl) Tryz.func3 msm_closed
    (of_decide_eq_true (by kernel_rfl)) (by unfold Func.isWrapper; rw [if_neg (of_decide_eq_false (by kernel_rfl))]; exact ⟨rfl, rfl⟩)
    (fun os started H enc _ => msm_lifted os started H enc)

/-- no parameter wants a stand-in -/
theorem msm_plain (f : FuncId) (fn : Func) (hf : Tryz.pinned.checked.prog.funcNamed "lammastide/lammastidelaw2.MergeSame" = some f) (hfn : Tryz.pinned.checked.prog.funcs[f]? = some fn) :
    true = Tryz.pinned.checked.prog.looks [] ∧ ∀ (j : Nat) t, fn.params[j]? = some t → Tryz.pinned.checked.prog.wantsStandIn t = false := by
  obtain rfl : f = 3 := Option.some.inj ((show Tryz.prog.funcNamed "lammastide/lammastidelaw2.MergeSame" = some 3 by kernel_rfl).symm.trans hf) |>.symm
  obtain rfl : fn = Tryz.f3 := (Option.some.inj (Tryz.func3.symm.trans hfn)).symm
  refine ⟨by kernel_rfl, fun j t ht => ?_⟩
  rw [Tryz.params3] at ht
  have hm := Array.mem_of_getElem? ht
  obtain rfl : t = 22 := by simpa using hm
  exact (show Tryz.prog.wantsStandIn 22 = false by kernel_rfl)

/-- The law's card. -/
theorem mergeSame_card : Rows.MergeSameCardSaid :=
  Claim7.holds_tied_plain_at .later [] _ _ _ _ msm_said (fun _ h => by cases h) (by kernel_rfl) (fun _ h => by cases h) mergeSame_row_tie rfl ⟨rfl, rfl⟩ (by kernel_rfl) rfl msm_plain (by kernel_rfl)
end Go.Proofs.YtekminpoiokgfaaGreatDoor
