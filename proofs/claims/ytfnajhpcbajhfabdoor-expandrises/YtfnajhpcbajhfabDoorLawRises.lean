/- The law ExpandRises, walked: days rise, from the start on; a count more adds one at the end; with Every doubled each day is one of those without. -/
import Derived.Test.YtfnajhpcbajhfabDoorLawCounts
import Derived.Test.YtfnajhpcbajhfabDoorExpN2
namespace Go.Proofs.YtfnajhpcbajhfabDoor
open Go.RowKit Cal

theorem half_mod {x e : Int} (h : x % (2 * e) = 0) : x % e = 0 := by
  have h1 : (2 * e) ∣ x := Int.dvd_of_emod_eq_zero h
  exact Int.emod_eq_zero_of_dvd (Int.dvd_trans ⟨2, Int.mul_comm _ _⟩ h1)
theorem wide_pM {s e d : Int} (h : pM s (2 * e) d = true) : pM s e d = true := by
  obtain ⟨j, i, dd, h1, h2, h3, h4⟩ := pM_iff.1 h
  obtain ⟨q1, q2, q3, q4, q5, q6, q7⟩ := isM_iff.1 h4
  exact pM_iff.2 ⟨j, i, dd, h1, h2, h3, isM_iff.2 ⟨q1, q2, q3, q4, half_mod q5, q6, q7⟩⟩
/-- with Every doubled a day is one of those without -/
theorem wide_in {f : List UInt8} {s e : Int} {ds : List Int} {d : Int} (h : d ∈ cds f s (2 * e) ds) : d ∈ cds f s e ds := by
  unfold cds at h ⊢
  rw [mem_From] at h ⊢
  refine ⟨h.1, h.2.1, ?_⟩
  have h3 := h.2.2
  clear h
  unfold cnd at h3 ⊢
  by_cases g1 : f = dailyW
  · rw [if_pos g1] at h3 ⊢
    unfold pD at h3 ⊢
    rw [decide_eq_true_iff] at h3 ⊢
    exact ⟨h3.1, half_mod h3.2⟩
  rw [if_neg g1] at h3 ⊢
  by_cases g2 : f = weeklyW
  · rw [if_pos g2] at h3 ⊢
    unfold pW at h3 ⊢
    rw [decide_eq_true_iff] at h3 ⊢
    exact ⟨h3.1, half_mod h3.2.1, h3.2.2⟩
  rw [if_neg g2] at h3 ⊢
  by_cases g3 : f = monthlyW
  · rw [if_pos g3] at h3 ⊢
    exact wide_pM h3
  rw [if_neg g3] at h3 ⊢
  by_cases g4 : f = yearlyW
  · rw [if_pos g4] at h3 ⊢
    rw [Int.mul_assoc] at h3
    exact wide_pM h3
  rw [if_neg g4] at h3 ⊢
  exact h3
theorem well_wide {f : ByteArray} {e c u : Int} {ds : List Int} (h : Well (rd f e ds c u)) (hf : f.toList ≠ onceW) (he : e ≤ 50) (c' u' : Int) (h1 : 0 ≤ c' ∧ c' ≤ 1000) (h2 : -1 ≤ u' ∧ u' ≤ 73048) (h3 : c' = 0 ∨ u' = -1) : Well (rd f (2 * e) ds c' u') :=
  ⟨h.fr, h.ds, by have := h.ev; show 1 ≤ 2 * e ∧ 2 * e ≤ 100; have h4 : 1 ≤ e ∧ e ≤ 100 := h.ev; omega, h1, h2, fun q => absurd q hf, h.wk, h3, h.ri⟩
/-- the k-th one stands above the one ahead of it, and is one -/
theorem rises_case {xs : List Int} (hr : xs.Pairwise (· < ·)) (k : Nat) :
    (nthB xs k = false ∧ nthD xs k = 0) ∨ (∃ x, xs[k]? = some x ∧ nthB xs k = true ∧ nthD xs k = x ∧ isB xs x = true ∧ ∀ y, xs[k + 1]? = some y → x < y) := by
  cases hc : xs[k]? with
  | none => exact .inl (nth_none hc)
  | some x =>
    right
    obtain ⟨a1, a2⟩ := nth_get hc
    refine ⟨x, rfl, a1, a2, isB_iff.2 (List.mem_of_getElem? hc), fun y hy => ?_⟩
    obtain ⟨hk, hx⟩ := List.getElem?_eq_some_iff.1 hc
    obtain ⟨hk', hy'⟩ := List.getElem?_eq_some_iff.1 hy
    have := List.pairwise_iff_getElem.1 hr k (k + 1) hk hk' (by omega)
    rw [hx, hy'] at this
    exact this

set_option maxHeartbeats 2000000 in
set_option maxRecDepth 100000 in
theorem rises_all (f : ByteArray) (e : Int) (sl : Value) (c u : Int) (ds : List Int) (s n : Int) (w : World) (g : Glob w) (hd : Got w sl ds) :
    Calls Tryd.prog 4 #[.int .i64 s, rv f e sl c u, .int .i64 n] w fun r w' => r = .returned (.bool true) ∧ Below w.heap.size w w' := by
  have D : Hid (Got w sl ds) := hd
  have G : Hid (Glob w) := g
  obtain ⟨a, cap, rfl, _, _⟩ := hd
  obtain ⟨hl0, hl1⟩ := lng_01 f ds.length
  have EX : Hid (_) := expanded_any _ (g.step (below_alloc w (.cells #[.string f, .int .i64 e, .slice a ds.length cap, .int .i64 c, .int .i64 u] 24)))
  have LR : Hid (∀ w, Calls Tryd.prog 7 #[.agg #[.string f, .int .i64 e, .slice a ds.length cap, .int .i64 c, .int .i64 u]] w fun r w' => r = .returned (.int .i64 (lng f ds.length)) ∧ Below w.heap.size w w') := fun w => longRule_any f e a ds.length cap c u w _ rfl
  have H1 : Hid (lng f ds.length = 0 → ds.length ≤ 20) := lng_0
  generalize lng f ds.length = k at hl0 hl1 LR H1
  have hcases : 0 < k ∨ (k = 0 ∧ n < 1) ∨ (k = 0 ∧ 1 ≤ n ∧ 40 < n) ∨ (k = 0 ∧ 1 ≤ n ∧ n ≤ 40) := by omega
  unfold rv
  clear g
  rcases hcases with h | ⟨rfl, h1⟩ | ⟨rfl, h1, h2⟩ | ⟨rfl, h1, h2⟩
  case inr.inr.inr =>
    have h20 : ds.length ≤ 20 := H1.out rfl
    clear H1 hl0 hl1
    go_enter Tryd.func4, Tryd.ntmps4
    go_upto_region 4 with (first
      | (go_at_call 6; refine Calls.mono EX.out ?_; rintro r w1 ⟨rfl, hb1⟩; have k0 : RB w1 w.heap.size f e (.slice a ds.length cap) c u := (hb1.block _ (by simp)).trans (block_at _ rfl); obtain ⟨x0, x1, x2, x3, x4⟩ := blk5 k0)
      | (go_at_call 7; refine (LR.out _).mono ?_; rintro r w2 ⟨rfl, hb2⟩))
    have BW2 : Hid (Below w.heap.size w w2) := below_then (below_alloc _ _) (below_then hb1 hb2)
    obtain ⟨y0, y1, y2, y3, y4⟩ := blk5 (k0.step hb2)
    have O1 : Hid (_) := ownRule_any f e _ c u ds w2 (D.out.step BW2.out) h20
    clear x0 x1 x2 x3 x4 k0 hb1 hb2 D EX LR
    go_upto_region 5 with (go_at_call 8; refine Calls.mono O1.out ?_; rintro r w3 ⟨sx, rfl, hdx, hgx, hb3⟩; obtain ⟨sa, sc, rfl, hx1, hx2, hx3⟩ := id hdx; clear hx1 hx2 hx3; dsimp only [rv])
    have hR : RB (w3.alloc (.cells #[.string f, .int .i64 e, .slice sa ds.length sc, .int .i64 c, .int .i64 u] 24)) w3.heap.size f e (.slice sa ds.length sc) c u := block_at _ rfl
    have h34 : Below w3.heap.size w3 (w3.alloc (.cells #[.string f, .int .i64 e, .slice sa ds.length sc, .int .i64 c, .int .i64 u] 24)) := below_alloc _ _
    have L3 : Hid (∀ W, Below w3.heap.size w3 W → Days W (.slice sa ds.length sc) ds ∧ Got W (.slice sa ds.length sc) ds) := fun W h => ⟨hdx.step h, hgx.step h⟩
    have BW4 : Hid (Below w.heap.size w (w3.alloc (.cells #[.string f, .int .i64 e, .slice sa ds.length sc, .int .i64 c, .int .i64 u] 24))) := below_then BW2.out (below_then hb3 (below_alloc _ _))
    have hws : w.heap.size ≤ w3.heap.size := Nat.le_trans BW2.out.size hb3.size
    clear hdx hgx hb3 y0 y1 y2 y3 y4 O1 BW2
    generalize w3.alloc (.cells #[.string f, .int .i64 e, .slice sa ds.length sc, .int .i64 c, .int .i64 u] 24) = w4 at hR h34 BW4
    generalize hbx : w3.heap.size = bx at hR h34 L3 hws
    have H34 : Hid (_) := h34
    have HR : Hid (RB w4 bx f e (.slice sa ds.length sc) c u) := hR
    have D4 := (L3.out w4 h34).1
    obtain ⟨y0, y1, y2, y3, y4⟩ := blk5 hR
    clear h34 hR hbx
    by_cases wx : Well (rd f e ds c u)
    · have CX : Hid (Calls Tryd.prog 19 #[.agg #[.string f, .int .i64 e, .slice sa ds.length sc, .int .i64 c, .int .i64 u]] w4 fun r w' => r = .returned .nilIface ∧ Below w4.heap.size w4 w') := check_ok f e _ c u ds w4 D4 wx
      have WX : Hid (Well (rd f e ds c u)) := wx
      clear wx D4
      cases ho : (f.toList == [111, 110, 99, 101]) with
      | true =>
        go_wp2_with (go_at_call 19; refine Calls.mono CX.out ?_; rintro r w5 ⟨rfl, hb5⟩; obtain ⟨z0, z1, z2, z3, z4⟩ := blk5 (HR.out.step hb5))
        go_ret
        exact ⟨rfl, below_then BW4.out hb5⟩
      | false =>
        have HO : Hid (f.toList ≠ onceW) := by show _ ≠ _; rw [beq_eq_false_iff_ne] at ho; exact ho
        have hs3 : s < 0 ∨ (0 ≤ s ∧ 73048 < s) ∨ (0 ≤ s ∧ s ≤ 73048) := by omega
        rcases hs3 with h4 | ⟨h4, h5⟩ | ⟨h4, h5⟩
        · go_wp2_with (go_at_call 19; refine Calls.mono CX.out ?_; rintro r w5 ⟨rfl, hb5⟩; obtain ⟨z0, z1, z2, z3, z4⟩ := blk5 (HR.out.step hb5))
          go_ret
          exact ⟨rfl, below_then BW4.out hb5⟩
        · go_wp2_with (go_at_call 19; refine Calls.mono CX.out ?_; rintro r w5 ⟨rfl, hb5⟩; obtain ⟨z0, z1, z2, z3, z4⟩ := blk5 (HR.out.step hb5))
          go_ret
          exact ⟨rfl, below_then BW4.out hb5⟩
        · go_upto_region 7 with (go_at_call 19; refine Calls.mono CX.out ?_; rintro r w5 ⟨rfl, hb5⟩; obtain ⟨z0, z1, z2, z3, z4⟩ := blk5 (HR.out.step hb5))
          have b5 : Below w.heap.size w w5 := below_then BW4.out hb5
          have r5 := HR.out.step hb5
          have h35 : Below bx w3 w5 := H34.out.trans (hb5.mono (Nat.le_of_lt HR.out.lt))
          have fz3 := blk5_frozen r5 3
          have fz4 := blk5_frozen r5 4
          have RW : Hid (RB ((w5.setCell ⟨bx, 4, none⟩ (.int .i64 (-1))).setCell ⟨bx, 3, none⟩ (.int .i64 n)) bx f e (.slice sa ds.length sc) n (-1)) := set_rb3 (set_rb4 r5 (-1)) n
          have WW : Hid (Below w.heap.size w ((w5.setCell ⟨bx, 4, none⟩ (.int .i64 (-1))).setCell ⟨bx, 3, none⟩ (.int .i64 n))) := (b5.setCell (p := ⟨bx, 4, none⟩) hws _).setCell (p := ⟨bx, 3, none⟩) hws _
          have HW : Hid (Below bx w3 ((w5.setCell ⟨bx, 4, none⟩ (.int .i64 (-1))).setCell ⟨bx, 3, none⟩ (.int .i64 n))) := (h35.setCell (p := ⟨bx, 4, none⟩) (Nat.le_refl _) _).setCell (p := ⟨bx, 3, none⟩) (Nat.le_refl _) _
          clear b5 r5 h35 hb5 BW4 H34 HR CX y0 y1 y2 y3 y4
          go_upto_region 9 with (fail)
          generalize (w5.setCell ⟨bx, 4, none⟩ (.int .i64 (-1))).setCell ⟨bx, 3, none⟩ (.int .i64 n) = W at RW WW HW
          clear z0 z1 z2 z3 z4 fz3 fz4
          have i1 : IsDays f e ds n (-1) s ((cds f.toList s e ds).take n.toNat) := .inl ⟨well_with WX.out HO.out n (-1) (by omega) (by omega) (.inr rfl), h4, h5, (cut_count (by omega) _).symm⟩
          have i2 : IsDays f e ds (n + 1) (-1) s ((cds f.toList s e ds).take (n + 1).toNat) := .inl ⟨well_with WX.out HO.out (n + 1) (-1) (by omega) (by omega) (.inr rfl), h4, h5, (cut_count (by omega) _).symm⟩
          have i3 : e ≤ 50 → IsDays f (2 * e) ds n (-1) s ((cds f.toList s (2 * e) ds).take n.toNat) := fun he => .inl ⟨well_wide WX.out HO.out he n (-1) (by omega) (by omega) (.inr rfl), h4, h5, (cut_count (by omega) _).symm⟩
          have i4 : IsDays f e ds 0 (-1) s (cds f.toList s e ds) := .inl ⟨well_with WX.out HO.out 0 (-1) (by omega) (by omega) (.inl rfl), h4, h5, (cut_none _).symm⟩
          have he1 : 1 ≤ e ∧ e ≤ 100 := WX.out.ev
          obtain ⟨he1, he2⟩ := he1
          have LO : Hid (∀ x, ((cds f.toList s e ds).take n.toNat)[0]? = some x → s - 1 < x) := fun x hx => by
            have hm := List.mem_of_mem_take (List.mem_of_getElem? hx)
            have := (mem_From.1 hm).1
            omega
          have RC : Hid (∀ k, _) := fun k => rises_case (i1.rise) k
          have RD : Hid (e ≤ 50 → ∀ k, _) := fun he k => rises_case ((i3 he).rise) k
          have SUB : Hid (∀ k x, ((cds f.toList s (2 * e) ds).take n.toNat)[k]? = some x → isB (cds f.toList s e ds) x = true) := fun k x hx => isB_iff.2 (wide_in (List.mem_of_mem_take (List.mem_of_getElem? hx)))
          have LEN : Hid ((((cds f.toList s e ds).take n.toNat).length : Int) ≤ n ∧ (((cds f.toList s e ds).take (n + 1).toNat).length : Int) ≤ n + 1 ∧ ((cds f.toList s e ds).take n.toNat).length ≤ ((cds f.toList s e ds).take (n + 1).toNat).length ∧ ((((cds f.toList s e ds).take n.toNat).length : Int) < n → ((cds f.toList s e ds).take n.toNat).length = ((cds f.toList s e ds).take (n + 1).toNat).length)) := by
            show _ ∧ _
            rw [List.length_take, List.length_take]
            omega
          have I1 : Hid (IsDays f e ds n (-1) s ((cds f.toList s e ds).take n.toNat)) := i1
          have I2 : Hid (IsDays f e ds (n + 1) (-1) s ((cds f.toList s e ds).take (n + 1).toNat)) := i2
          have I3 : Hid (e ≤ 50 → IsDays f (2 * e) ds n (-1) s ((cds f.toList s (2 * e) ds).take n.toNat)) := i3
          have I4 : Hid (IsDays f e ds 0 (-1) s (cds f.toList s e ds)) := i4
          clear i1 i2 i3 i4 WX HO ho
          generalize (cds f.toList s e ds).take n.toNat = X at I1 LO RC LEN
          generalize (cds f.toList s e ds).take (n + 1).toNat = Y at I2 LEN
          generalize (cds f.toList s (2 * e) ds).take n.toNat = Z at I3 RD SUB
          generalize cds f.toList s e ds = C at I4 SUB
          go_wp2
          go_loopw [9, 10] (fun la i wr => ∃ (k : Nat) (L : Int), la = .int .i64 L ∧ i = .int .i64 k ∧ (k : Int) ≤ n ∧ Hid (∀ x, X[k]? = some x → L < x) ∧ Hid (Below W.heap.size W wr)) (fun _ i _ => (n - intOf i).toNat)
          case atStart => exact ⟨0, s - 1, rfl, rfl, by omega, LO.out, Below.refl _ _⟩
          case' round =>
            obtain ⟨k, L, rfl, rfl, hk, hL, hb⟩ := hrel
            have RV : Hid (RB wr bx f e (.slice sa ds.length sc) n (-1)) := RW.out.step hb.out
            have DV := (L3.out wr (HW.out.trans (hb.out.mono (Nat.le_of_lt RW.out.lt)))).1
            have NT : Hid (Calls Tryd.prog 12 #[.int .i64 s, .agg #[.string f, .int .i64 e, .slice sa ds.length sc, .int .i64 n, .int .i64 (-1)], .int .i64 k] wr fun r w' => r = .returned (.tuple #[.int .i64 (nthD X k), .bool (nthB X k)]) ∧ Below wr.heap.size wr w') := nth_any f e _ n (-1) ds s k X wr (G.out.step (below_then WW.out hb.out)) DV I1.out
            have IT : Hid (∀ w', Below wr.heap.size wr w' → ∀ x, Calls Tryd.prog 13 #[.int .i64 s, .agg #[.string f, .int .i64 e, .slice sa ds.length sc, .int .i64 n, .int .i64 (-1)], .int .i64 x] w' fun r w'' => r = .returned (.bool (isB X x)) ∧ Below w'.heap.size w' w'') := fun w' h' x => is_any f e _ n (-1) ds s x X w' (G.out.step (below_then WW.out (below_then hb.out h'))) (DV.step h') I1.out
            clear DV
            by_cases hlt : (k : Int) < n
            case' pos =>
              rcases RC.out k with ⟨a1, a2⟩ | ⟨x, a0, a1, a2, a3, a4⟩
              case' inr =>
                have hLx := hL.out x a0
                have HN : Hid (∀ y, X[k + 1]? = some y → x < y) := a4
                have nt := NT.out
                rw [a1, a2] at nt
                have it := fun w' h' => IT.out w' h' x
                rw [a3] at it
                have HNT : Hid (_) := nt
                have HIT : Hid (_) := it
                obtain ⟨z0, z1, z2, z3, z4⟩ := blk5 RV.out
                clear nt it a0 a1 a2 a3 a4 hL NT IT
                go_upto_region 15 with (go_at_call 12; refine Calls.mono HNT.out ?_; rintro r wr1 ⟨rfl, hb1⟩)
                clear z0 z1 z2 z3 z4
                obtain ⟨z0, z1, z2, z3, z4⟩ := blk5 (RV.out.step hb1)
                go_wp2_with (go_at_call 13; refine Calls.mono (HIT.out wr1 hb1) ?_; rintro r wr2 ⟨rfl, hb2⟩)
                go_roundw
                case rel => exact ⟨k + 1, x, rfl, by go_num, by omega, HN.out, below_then hb.out (below_then hb1 hb2)⟩
                case measure => simp [intOf]; omega
              case' inl =>
                have nt := NT.out
                rw [a1, a2] at nt
                have HNT : Hid (_) := nt
                obtain ⟨z0, z1, z2, z3, z4⟩ := blk5 RV.out
                clear nt a1 a2 hL NT IT
                go_upto_region 19 with (go_at_call 12; refine Calls.mono HNT.out ?_; rintro r wr1 ⟨rfl, hb1⟩)
                clear z0 z1 z2 z3 z4
                have WV : Hid (Below w.heap.size w wr1) := below_then WW.out (below_then hb.out hb1)
                have HV : Hid (Below bx w3 wr1) := HW.out.trans ((below_then hb.out hb1).mono (Nat.le_of_lt RW.out.lt))
                have RV1 : Hid (RB wr1 bx f e (.slice sa ds.length sc) n (-1)) := RV.out.step hb1
                clear HNT hb1 hb RV hlt
                generalize wr1 = V at WV HV RV1
            case' neg =>
              clear NT IT hL
              go_upto_region 19 with (fail)
              have WV : Hid (Below w.heap.size w wr) := below_then WW.out hb.out
              have HV : Hid (Below bx w3 wr) := HW.out.trans (hb.out.mono (Nat.le_of_lt RW.out.lt))
              have RV1 : Hid (RB wr bx f e (.slice sa ds.length sc) n (-1)) := RV.out
              clear hb RV hlt
              generalize wr = V at WV HV RV1
          all_goals
            clear RW WW HW RC LO
            have RV := RV1
            clear RV1
            obtain ⟨z0, z1, z2, z3, z4⟩ := blk5 RV.out
            have Oa : Hid (_) := ownRule_any f e _ n (-1) ds V (L3.out V HV.out).2 h20
            go_upto_region 20 with (go_at_call 8; refine Calls.mono Oa.out ?_; rintro r w7 ⟨sx, rfl, hdx, _, hb7⟩; obtain ⟨ta, tc, rfl, hx1, hx2, hx3⟩ := id hdx; clear hx1 hx2 hx3; dsimp only [rv])
            have q1 : RB (w7.alloc (.cells #[.string f, .int .i64 e, .slice ta ds.length tc, .int .i64 n, .int .i64 (-1)] 24)) w7.heap.size f e (.slice ta ds.length tc) n (-1) := block_at _ rfl
            have b68 := below_then hb7 (below_alloc w7 (.cells #[.string f, .int .i64 e, .slice ta ds.length tc, .int .i64 n, .int .i64 (-1)] 24))
            have b78 := below_alloc w7 (.cells #[.string f, .int .i64 e, .slice ta ds.length tc, .int .i64 n, .int .i64 (-1)] 24)
            have L7 : Hid (∀ W, Below w7.heap.size w7 W → Days W (.slice ta ds.length tc) ds) := fun W h => hdx.step h
            have hxy : V.heap.size ≤ w7.heap.size := hb7.size
            clear hdx hb7 Oa z0 z1 z2 z3 z4
            generalize w7.alloc (.cells #[.string f, .int .i64 e, .slice ta ds.length tc, .int .i64 n, .int .i64 (-1)] 24) = w8 at q1 b68 b78
            generalize hby : w7.heap.size = bY at q1 b78 L7 hxy
            clear hby
            have fzs := blk5_frozen q1 3
            obtain ⟨z0, z1, z2, z3, z4⟩ := blk5 q1
            have BP : Hid (Below V.heap.size V (w8.setCell ⟨bY, 3, none⟩ (.int .i64 (n + 1)))) := b68.setCell (p := ⟨bY, 3, none⟩) hxy _
            have SP : Hid (RB (w8.setCell ⟨bY, 3, none⟩ (.int .i64 (n + 1))) bY f e (.slice ta ds.length tc) (n + 1) (-1)) := set_rb3 q1 _
            have DP : Hid (Days (w8.setCell ⟨bY, 3, none⟩ (.int .i64 (n + 1))) (.slice ta ds.length tc) ds) := L7.out _ (b78.setCell (p := ⟨bY, 3, none⟩) (Nat.le_refl _) _)
            clear q1 b68 b78 L7 hxy
            go_upto_region 21 with (fail)
            generalize w8.setCell ⟨bY, 3, none⟩ (.int .i64 (n + 1)) = P at BP SP DP
            clear z0 z1 z2 z3 z4 fzs
            have RP : Hid (RB P bx f e (.slice sa ds.length sc) n (-1)) := RV.out.step BP.out
            have HP : Hid (Below bx w3 P) := HV.out.trans (BP.out.mono (Nat.le_of_lt RV.out.lt))
            have WP : Hid (Below w.heap.size w P) := below_then WV.out BP.out
            have MA : Hid (Calls Tryd.prog 15 #[.int .i64 s, .agg #[.string f, .int .i64 e, .slice sa ds.length sc, .int .i64 n, .int .i64 (-1)]] P fun r w' => r = .returned (.int .i64 X.length) ∧ Below P.heap.size P w') := many_any f e _ n (-1) ds s X P (G.out.step WP.out) (L3.out P HP.out).1 I1.out
            obtain ⟨z0, z1, z2, z3, z4⟩ := blk5 RP.out
            go_upto_region 22 with (go_at_call 15; refine Calls.mono MA.out ?_; rintro r P1 ⟨rfl, hp1⟩)
            clear z0 z1 z2 z3 z4 MA
            have MB : Hid (Calls Tryd.prog 15 #[.int .i64 s, .agg #[.string f, .int .i64 e, .slice ta ds.length tc, .int .i64 (n + 1), .int .i64 (-1)]] P1 fun r w' => r = .returned (.int .i64 Y.length) ∧ Below P1.heap.size P1 w') := many_any f e _ (n + 1) (-1) ds s Y P1 (G.out.step (below_then WP.out hp1)) (DP.out.step hp1) I2.out
            obtain ⟨z0, z1, z2, z3, z4⟩ := blk5 (SP.out.step hp1)
            go_upto_region 23 with (go_at_call 15; refine Calls.mono MB.out ?_; rintro r U ⟨rfl, hp2⟩)
            clear z0 z1 z2 z3 z4 MB
            have RU : Hid (RB U bx f e (.slice sa ds.length sc) n (-1)) := RP.out.step (below_then hp1 hp2)
            have HU : Hid (Below bx w3 U) := HP.out.trans ((below_then hp1 hp2).mono (Nat.le_of_lt RP.out.lt))
            have WU : Hid (Below w.heap.size w U) := below_then WP.out (below_then hp1 hp2)
            obtain ⟨l1, l2, l3, l4⟩ := LEN.out
            have hXY : (X.length : Int) < n → ((Y.length : Int) != X.length) = false := fun q => by
              have := l4 q
              rw [this]; simp
            have l3' : (X.length : Int) ≤ Y.length := by omega
            clear RP HP WP BP SP DP hp1 hp2 RV HV WV l3 l4 LEN
            have hXn : (X.length : Int) < n ∨ ¬ (X.length : Int) < n := by omega
            rcases hXn with hXn | hXn
            case' inl => have hne := hXY hXn
            all_goals
              clear hXY
              go_upto_region 25 with (fail)
              clear hXn
              obtain ⟨z0, z1, z2, z3, z4⟩ := blk5 RU.out
              have Ob : Hid (_) := ownRule_any f e _ n (-1) ds U (L3.out U HU.out).2 h20
              go_upto_region 26 with (go_at_call 8; refine Calls.mono Ob.out ?_; rintro r wc ⟨sx, rfl, hdx, _, hb7⟩; obtain ⟨va, vc, rfl, hx1, hx2, hx3⟩ := id hdx; clear hx1 hx2 hx3; dsimp only [rv])
              have q1 : RB (wc.alloc (.cells #[.string f, .int .i64 e, .slice va ds.length vc, .int .i64 n, .int .i64 (-1)] 24)) wc.heap.size f e (.slice va ds.length vc) n (-1) := block_at _ rfl
              have b68 := below_then hb7 (below_alloc wc (.cells #[.string f, .int .i64 e, .slice va ds.length vc, .int .i64 n, .int .i64 (-1)] 24))
              have b78 := below_alloc wc (.cells #[.string f, .int .i64 e, .slice va ds.length vc, .int .i64 n, .int .i64 (-1)] 24)
              have L7 : Hid (∀ W, Below wc.heap.size wc W → Days W (.slice va ds.length vc) ds) := fun W h => hdx.step h
              have hxy : U.heap.size ≤ wc.heap.size := hb7.size
              clear hdx hb7 Ob z0 z1 z2 z3 z4
              generalize wc.alloc (.cells #[.string f, .int .i64 e, .slice va ds.length vc, .int .i64 n, .int .i64 (-1)] 24) = wd at q1 b68 b78
              generalize hby : wc.heap.size = bz at q1 b78 L7 hxy
              clear hby
              by_cases he : 50 < e
              · obtain ⟨z0, z1, z2, z3, z4⟩ := blk5 q1
                go_wp2
                go_ret
                exact ⟨rfl, below_then WU.out b68⟩
              · have he3 : e ≤ 50 := by omega
                have IZ : Hid (_) := I3.out he3
                have RZ : Hid (∀ k, _) := RD.out he3
                clear I3 RD I1 I2
                have fzs := blk5_frozen q1 1
                obtain ⟨z0, z1, z2, z3, z4⟩ := blk5 q1
                have BQ : Hid (Below U.heap.size U (wd.setCell ⟨bz, 1, none⟩ (.int .i64 (2 * e)))) := b68.setCell (p := ⟨bz, 1, none⟩) hxy _
                have SQ : Hid (RB (wd.setCell ⟨bz, 1, none⟩ (.int .i64 (2 * e))) bz f (2 * e) (.slice va ds.length vc) n (-1)) := set_rb1 q1 _
                have DQ : Hid (Days (wd.setCell ⟨bz, 1, none⟩ (.int .i64 (2 * e))) (.slice va ds.length vc) ds) := L7.out _ (b78.setCell (p := ⟨bz, 1, none⟩) (Nat.le_refl _) _)
                clear q1 b68 b78 L7 hxy
                go_upto_region 29 with (fail)
                generalize wd.setCell ⟨bz, 1, none⟩ (.int .i64 (2 * e)) = Q at BQ SQ DQ
                clear z0 z1 z2 z3 z4 fzs
                have RQ : Hid (RB Q bx f e (.slice sa ds.length sc) n (-1)) := RU.out.step BQ.out
                have HQ : Hid (Below bx w3 Q) := HU.out.trans (BQ.out.mono (Nat.le_of_lt RU.out.lt))
                have WQ : Hid (Below w.heap.size w Q) := below_then WU.out BQ.out
                obtain ⟨z0, z1, z2, z3, z4⟩ := blk5 RQ.out
                have Oc : Hid (_) := ownRule_any f e _ n (-1) ds Q (L3.out Q HQ.out).2 h20
                go_upto_region 30 with (go_at_call 8; refine Calls.mono Oc.out ?_; rintro r wg ⟨sx, rfl, hdx, _, hb7⟩; obtain ⟨fa, fc, rfl, hx1, hx2, hx3⟩ := id hdx; clear hx1 hx2 hx3; dsimp only [rv])
                have q1 : RB (wg.alloc (.cells #[.string f, .int .i64 e, .slice fa ds.length fc, .int .i64 n, .int .i64 (-1)] 24)) wg.heap.size f e (.slice fa ds.length fc) n (-1) := block_at _ rfl
                have b68 := below_then hb7 (below_alloc wg (.cells #[.string f, .int .i64 e, .slice fa ds.length fc, .int .i64 n, .int .i64 (-1)] 24))
                have b78 := below_alloc wg (.cells #[.string f, .int .i64 e, .slice fa ds.length fc, .int .i64 n, .int .i64 (-1)] 24)
                have L7 : Hid (∀ W, Below wg.heap.size wg W → Days W (.slice fa ds.length fc) ds) := fun W h => hdx.step h
                have hxy : Q.heap.size ≤ wg.heap.size := hb7.size
                clear hdx hb7 Oc z0 z1 z2 z3 z4
                generalize wg.alloc (.cells #[.string f, .int .i64 e, .slice fa ds.length fc, .int .i64 n, .int .i64 (-1)] 24) = wh at q1 b68 b78
                generalize hby : wg.heap.size = bf at q1 b78 L7 hxy
                clear hby
                have fzs := blk5_frozen q1 3
                obtain ⟨z0, z1, z2, z3, z4⟩ := blk5 q1
                have BA : Hid (Below Q.heap.size Q (wh.setCell ⟨bf, 3, none⟩ (.int .i64 0))) := b68.setCell (p := ⟨bf, 3, none⟩) hxy _
                have SA : Hid (RB (wh.setCell ⟨bf, 3, none⟩ (.int .i64 0)) bf f e (.slice fa ds.length fc) 0 (-1)) := set_rb3 q1 _
                have DA : Hid (Days (wh.setCell ⟨bf, 3, none⟩ (.int .i64 0)) (.slice fa ds.length fc) ds) := L7.out _ (b78.setCell (p := ⟨bf, 3, none⟩) (Nat.le_refl _) _)
                clear q1 b68 b78 L7 hxy
                go_upto_region 31 with (fail)
                generalize wh.setCell ⟨bf, 3, none⟩ (.int .i64 0) = A at BA SA DA
                clear z0 z1 z2 z3 z4 fzs
                have RA : Hid (RB A bx f e (.slice sa ds.length sc) n (-1)) := RQ.out.step BA.out
                have HA : Hid (Below bx w3 A) := HQ.out.trans (BA.out.mono (Nat.le_of_lt RQ.out.lt))
                have WA : Hid (Below w.heap.size w A) := below_then WQ.out BA.out
                have SZ : Hid (RB A bz f (2 * e) (.slice va ds.length vc) n (-1)) := SQ.out.step BA.out
                have DZ : Hid (Days A (.slice va ds.length vc) ds) := DQ.out.step BA.out
                clear RU HU WU RQ HQ WQ BQ BA SQ DQ RA HA
                go_wp2
                go_loopw [19] (fun i wr => ∃ k : Nat, i = .int .i64 k ∧ (k : Int) ≤ n ∧ Hid (Below A.heap.size A wr)) (fun i _ => (n - intOf i).toNat)
                case atStart => exact ⟨0, rfl, by omega, Below.refl _ _⟩
                case round =>
                  obtain ⟨k, rfl, hk, hb⟩ := hrel
                  by_cases hlt : (k : Int) < n
                  · have NT := nth_any f (2 * e) _ n (-1) ds s k Z wr (G.out.step (below_then WA.out hb.out)) (DZ.out.step hb.out) IZ.out
                    unfold rv at NT
                    obtain ⟨z0, z1, z2, z3, z4⟩ := blk5 (SZ.out.step hb.out)
                    rcases RZ.out k with ⟨a1, a2⟩ | ⟨x, a0, a1, a2, a3, a4⟩
                    · rw [a1, a2] at NT
                      have HNT : Hid (_) := NT
                      clear NT a1 a2
                      go_wp2_with (go_at_call 12; refine Calls.mono HNT.out ?_; rintro r wr1 ⟨rfl, hb1⟩)
                      go_ret
                      exact ⟨rfl, below_then WA.out (below_then hb.out hb1)⟩
                    · rw [a1, a2] at NT
                      have HNT : Hid (_) := NT
                      have IT := fun w' h' => is_any f e _ 0 (-1) ds s x C w' (G.out.step (below_then WA.out h')) (DA.out.step h') I4.out
                      rw [SUB.out k x a0] at IT
                      unfold rv at IT
                      have HIT : Hid (_) := IT
                      clear NT IT a0 a1 a2 a3 a4
                      go_upto_region 36 with (go_at_call 12; refine Calls.mono HNT.out ?_; rintro r wr1 ⟨rfl, hb1⟩)
                      clear z0 z1 z2 z3 z4
                      obtain ⟨z0, z1, z2, z3, z4⟩ := blk5 (SA.out.step (below_then hb.out hb1))
                      go_wp2_with (go_at_call 13; refine Calls.mono (HIT.out wr1 (below_then hb.out hb1)) ?_; rintro r wr2 ⟨rfl, hb2⟩)
                      go_roundw
                      case rel => exact ⟨k + 1, by go_num, by omega, below_then hb.out (below_then hb1 hb2)⟩
                      case measure => simp [intOf]; omega
                  · go_wp2
                    go_ret
                    exact ⟨rfl, below_then WA.out hb.out⟩
    · have CX : Hid (Calls Tryd.prog 19 #[.agg #[.string f, .int .i64 e, .slice sa ds.length sc, .int .i64 c, .int .i64 u]] w4 fun r w' => (∃ p, r = .returned (.iface 103 (.pointer (some p)))) ∧ Below w4.heap.size w4 w') := check_no f e _ c u ds w4 (G.out.step BW4.out) D4 wx
      clear wx D4
      go_wp2_with (go_at_call 19; refine Calls.mono CX.out ?_; rintro r w5 ⟨⟨p, rfl⟩, hb5⟩)
      go_ret
      exact ⟨rfl, below_then BW4.out hb5⟩
  all_goals
    go_enter Tryd.func4, Tryd.ntmps4
    go_wp2_with (first
      | (go_at_call 6; refine Calls.mono EX.out ?_; rintro r w1 ⟨rfl, hb1⟩; have k0 : RB w1 w.heap.size f e (.slice a ds.length cap) c u := (hb1.block _ (by simp)).trans (block_at _ rfl); obtain ⟨x0, x1, x2, x3, x4⟩ := blk5 k0)
      | (go_at_call 7; refine (LR.out _).mono ?_; rintro r w2 ⟨rfl, hb2⟩))
    go_ret
    exact ⟨rfl, below_then (below_alloc _ _) (below_then hb1 hb2)⟩
end Go.Proofs.YtfnajhpcbajhfabDoor
