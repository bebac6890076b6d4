/- The law EventSkips, walked: a span cut in two; one day skipped, one day moved. -/
import Derived.Test.YtijdnmkkdofbeaaGreatDoorEvD
import Derived.Test.YtijdnmkkdofbeaaGreatDoorEvL2
import Derived.Test.YtijdnmkkdofbeaaGreatDoorEvM2
import Derived.Test.YtijdnmkkdofbeaaGreatDoorExpQ
namespace Go.Proofs.YtijdnmkkdofbeaaGreatDoor
open Go Go.RowKit Cal
attribute [local go_sem] Oper.semAt_some

/-- an event with no lists -/
def bare (E : EV) : EV := { E with sk := [], mv := [] }
/-- one with one day skipped -/
def lessOf (E : EV) (x : Int) : EV := { E with sk := [x], mv := [] }
/-- one with one day moved -/
def movedOf (E : EV) (x c : Int) : EV := { E with sk := [], mv := [(x, c)] }
theorem noDay_no {x : Int} (h0 : 0 ≤ x) (h1 : x ≤ 73048) : noDay x = false := by
  unfold noDay
  simp
  omega
theorem less_well {E : EV} {x : Int} (h : EW (bare E)) (h0 : 0 ≤ x) (h1 : x ≤ 73048) : EW (lessOf E x) := by
  refine ⟨h.id, h.ti, h.bd, h.rl, ?_⟩
  show lk [x] [] = 0
  unfold lk
  simp [riseB, noDay_no h0 h1]
theorem moved_well {E : EV} {x c : Int} (h : EW (bare E)) (h0 : 0 ≤ x) (h1 : x ≤ 73048) (h2 : 0 ≤ c) (h3 : c ≤ 73048) : EW (movedOf E x c) := by
  refine ⟨h.id, h.ti, h.bd, h.rl, ?_⟩
  show lk [] [(x, c)] = 0
  unfold lk
  simp [riseB, noDay_no h0 h1, noDay_no h2 h3]
theorem dys_less (E : EV) (x : Int) : dys (lessOf E x) = dys (bare E) := rfl
theorem dys_moved (E : EV) (x c : Int) : dys (movedOf E x c) = dys (bare E) := rfl
theorem ints_one {W : World} {b : Nat} {x : Int} (h : Boxed W b 3 (.int .i64 x)) (hb : b < W.heap.size) : Ints W (.slice (some ⟨b, 0, none⟩) 1 1) [x] :=
  ⟨_, 1, rfl, by simp, by simp, fun j hj => ⟨b, rfl, hb, by
    have : j = 0 := by simpa using hj
    subst this; exact h.cell⟩⟩
theorem movs_one {W : World} {b : Nat} {x c : Int} (h : W.heap[b]? = some (.cells #[.int .i64 x, .int .i64 c] 44 (0, 0))) : Movs W (.slice (some ⟨b, 0, none⟩) 1 1) [(x, c)] :=
  ⟨_, 1, rfl, by simp, by simp, fun j hj => ⟨b, rfl, (Array.getElem?_eq_some_iff.1 h).1, by
    have : j = 0 := by simpa using hj
    subst this; simp [World.cell?, h], by
    have : j = 0 := by simpa using hj
    subst this; simp [World.cell?, h]⟩⟩

set_option maxHeartbeats 4000000 in
set_option maxRecDepth 100000 in
theorem skips_all (E : EV) (sl skv mvv : Value) (fr0 to0 ct : Int) (s : Nat → Addr) (w : World) (g : GlobK s w) (ht : Tab w) (hd : Got w sl E.ds) (hs : Got w skv E.sk) (hm : GotM w mvv E.mv) :
    Calls Tryz.prog 4 #[ev E sl skv mvv, .int .i64 fr0, .int .i64 to0, .int .i64 ct] w fun r w' => r = .returned (.bool true) ∧ Below w.heap.size w w' := by
  have hA := below_alloc w (.cells #[.string E.id, .string E.ti, .int .i64 E.st, .int .i64 E.lg, .string E.f, .int .i64 E.e, sl, .int .i64 E.c, .int .i64 E.u, skv, mvv] 27)
  have hB := EB.new w E sl skv mvv
  have EVD : Hid (_) := evented_any s _ (g.step hA) (ht.step hA)
  have G : Hid (GlobK s w) := g
  have GD : Hid (Got w sl E.ds) := hd
  have GS : Hid (Got w skv E.sk) := hs
  have GM : Hid (GotM w mvv E.mv) := hm
  obtain ⟨ra, rc, rfl⟩ := got_form hd
  obtain ⟨sa, sc, rfl⟩ := got_form hs
  obtain ⟨ma, mc, rfl⟩ := gotM_form hm
  have LE : Hid (∀ W, Calls Tryz.prog 7 #[ev E (.slice ra E.ds.length rc) (.slice sa E.sk.length sc) (.slice ma E.mv.length mc)] W fun r w' => r = .returned (.int .i64 (lngE E)) ∧ Below W.heap.size W w') := fun W => longEvent_any E ra rc sa sc ma mc W
  have L0 : Hid (lngE E = 0 → _) := fun h => lngE_0 h
  obtain ⟨l0, l1⟩ := lngE_01 E
  generalize lngE E = k at LE L0 l0 l1
  have BX : Hid (∀ W, Below (w.alloc (.cells #[.string E.id, .string E.ti, .int .i64 E.st, .int .i64 E.lg, .string E.f, .int .i64 E.e, .slice ra E.ds.length rc, .int .i64 E.c, .int .i64 E.u, .slice sa E.sk.length sc, .slice ma E.mv.length mc] 27)).heap.size (w.alloc (.cells #[.string E.id, .string E.ti, .int .i64 E.st, .int .i64 E.lg, .string E.f, .int .i64 E.e, .slice ra E.ds.length rc, .int .i64 E.c, .int .i64 E.u, .slice sa E.sk.length sc, .slice ma E.mv.length mc] 27)) W → EB W w.heap.size E (.slice ra E.ds.length rc) (.slice sa E.sk.length sc) (.slice ma E.mv.length mc)) := fun W h => hB.step h
  have HA : Hid (_) := hA
  clear hd hs hm g ht hB hA
  generalize hw0 : w.alloc (.cells #[.string E.id, .string E.ti, .int .i64 E.st, .int .i64 E.lg, .string E.f, .int .i64 E.e, .slice ra E.ds.length rc, .int .i64 E.c, .int .i64 E.u, .slice sa E.sk.length sc, .slice ma E.mv.length mc] 27) = w0 at BX HA EVD
  have hcase : 0 < k ∨ (k = 0 ∧ (fr0 < 0 ∨ (0 ≤ fr0 ∧ 73048 < to0) ∨ (0 ≤ fr0 ∧ to0 ≤ 73048 ∧ to0 < fr0) ∨ (0 ≤ fr0 ∧ to0 ≤ 73048 ∧ fr0 ≤ to0 ∧ ct < fr0) ∨ (0 ≤ fr0 ∧ to0 ≤ 73048 ∧ fr0 ≤ to0 ∧ fr0 ≤ ct ∧ to0 < ct))) ∨ (k = 0 ∧ 0 ≤ fr0 ∧ to0 ≤ 73048 ∧ fr0 ≤ to0 ∧ fr0 ≤ ct ∧ ct ≤ to0) := by omega
  unfold ev at *
  rcases hcase with hk | ⟨hk, hdd⟩ | ⟨hk, hf0, ht0, hft, hfc, hct⟩
  case inl =>
    go_enter Tryz.func4, Tryz.ntmps4
    go_wp2_with (first
      | (go_at_call 6; refine Calls.mono EVD.out ?_; rintro r w1 ⟨rfl, hb1⟩; obtain ⟨x0, x1, x2, x3, x4, x5, x6, x7, x8, x9, x10⟩ := blk11 (show w1.heap[w.heap.size]? = _ from BX.out _ hb1))
      | (go_at_call 7; refine (LE.out _).mono ?_; rintro r w2 ⟨rfl, hb2⟩))
    go_ret
    exact ⟨rfl, below_then HA.out (below_then hb1 hb2)⟩
  case inr.inl =>
    rw [hk] at LE
    clear hk l0 l1 L0
    rcases hdd with c1 | ⟨c1, c2⟩ | ⟨c1, c2, c3⟩ | ⟨c1, c2, c3, c4⟩ | ⟨c1, c2, c3, c4, c5⟩
    all_goals
      go_enter Tryz.func4, Tryz.ntmps4
      go_wp2_with (first
        | (go_at_call 6; refine Calls.mono EVD.out ?_; rintro r w1 ⟨rfl, hb1⟩; obtain ⟨x0, x1, x2, x3, x4, x5, x6, x7, x8, x9, x10⟩ := blk11 (show w1.heap[w.heap.size]? = _ from BX.out _ hb1))
        | (go_at_call 7; refine (LE.out _).mono ?_; rintro r w2 ⟨rfl, hb2⟩))
      go_ret
      exact ⟨rfl, below_then HA.out (below_then hb1 hb2)⟩
  case inr.inr =>
    rw [hk] at LE
    obtain ⟨f20, d20, i30, t60, s25, m25⟩ := L0.out hk
    clear hk l0 l1 L0
    go_enter Tryz.func4, Tryz.ntmps4
    go_upto_region 4 with (first
      | (go_at_call 6; refine Calls.mono EVD.out ?_; rintro r w1 ⟨rfl, hb1⟩; obtain ⟨x0, x1, x2, x3, x4, x5, x6, x7, x8, x9, x10⟩ := blk11 (show w1.heap[w.heap.size]? = _ from BX.out _ hb1))
      | (go_at_call 7; refine (LE.out _).mono ?_; rintro r w2 ⟨rfl, hb2⟩))
    have BW2 : Hid (Below w.heap.size w w2) := below_then HA.out (below_then hb1 hb2)
    clear x0 x1 x2 x3 x4 x5 x6 x7 x8 x9 x10
    obtain ⟨x0, x1, x2, x3, x4, x5, x6, x7, x8, x9, x10⟩ := blk11 (show w2.heap[w.heap.size]? = _ from BX.out _ (below_then hb1 hb2))
    have O1 : Hid (_) := ownEvent_any E _ _ _ w2 (GD.out.step BW2.out) (GS.out.step BW2.out) (GM.out.step BW2.out) d20 (by omega) (by omega)
    unfold ev at O1
    clear hb1 hb2 EVD LE BX
    go_upto_region 7 with (go_at_call 8; refine Calls.mono O1.out ?_; rintro r w3 ⟨sl', sk', mv', rfl, hl3, hb3⟩; obtain ⟨ra', rc', rfl⟩ := got_form hl3.gd; obtain ⟨sa', sc', rfl⟩ := got_form hl3.gs; obtain ⟨ma', mc', rfl⟩ := gotM_form hl3.gm)
    have E4 : EB (w3.alloc (.cells #[.string E.id, .string E.ti, .int .i64 E.st, .int .i64 E.lg, .string E.f, .int .i64 E.e, .slice ra' E.ds.length rc', .int .i64 E.c, .int .i64 E.u, .slice none 0 0, .slice none 0 0] 27)) w3.heap.size (bare E) (.slice ra' E.ds.length rc') (.slice none 0 0) (.slice none 0 0) := EB.new w3 (bare E) _ _ _
    have B34 : Hid (Below w3.heap.size w3 (w3.alloc (.cells #[.string E.id, .string E.ti, .int .i64 E.st, .int .i64 E.lg, .string E.f, .int .i64 E.e, .slice ra' E.ds.length rc', .int .i64 E.c, .int .i64 E.u, .slice none 0 0, .slice none 0 0] 27))) := below_alloc _ _
    have BW4 : Hid (Below w.heap.size w (w3.alloc (.cells #[.string E.id, .string E.ti, .int .i64 E.st, .int .i64 E.lg, .string E.f, .int .i64 E.e, .slice ra' E.ds.length rc', .int .i64 E.c, .int .i64 E.u, .slice none 0 0, .slice none 0 0] 27))) := below_then BW2.out (below_then hb3 (below_alloc _ _))
    have G4 : Hid (GlobK s (w3.alloc (.cells #[.string E.id, .string E.ti, .int .i64 E.st, .int .i64 E.lg, .string E.f, .int .i64 E.e, .slice ra' E.ds.length rc', .int .i64 E.c, .int .i64 E.u, .slice none 0 0, .slice none 0 0] 27))) := G.out.step BW4.out
    have D4 : Days (w3.alloc (.cells #[.string E.id, .string E.ti, .int .i64 E.st, .int .i64 E.lg, .string E.f, .int .i64 E.e, .slice ra' E.ds.length rc', .int .i64 E.c, .int .i64 E.u, .slice none 0 0, .slice none 0 0] 27)) (.slice ra' E.ds.length rc') E.ds := hl3.d.step B34.out
    have GD4 : Got (w3.alloc (.cells #[.string E.id, .string E.ti, .int .i64 E.st, .int .i64 E.lg, .string E.f, .int .i64 E.e, .slice ra' E.ds.length rc', .int .i64 E.c, .int .i64 E.u, .slice none 0 0, .slice none 0 0] 27)) (.slice ra' E.ds.length rc') E.ds := hl3.gd.step B34.out
    clear hl3 hb3 BW2 O1 G GD GS GM hw0 HA x0 x1 x2 x3 x4 x5 x6 x7 x8 x9 x10 B34
    generalize w3.alloc (.cells #[.string E.id, .string E.ti, .int .i64 E.st, .int .i64 E.lg, .string E.f, .int .i64 E.e, .slice ra' E.ds.length rc', .int .i64 E.c, .int .i64 E.u, .slice none 0 0, .slice none 0 0] 27) = w4 at E4 D4 GD4 BW4 G4 ⊢
    generalize w3.heap.size = bx at E4 ⊢
    obtain ⟨kk, hkk⟩ := evK_ex (bare E)
    have CK : Hid (Calls Tryz.prog 17 #[.agg #[.string E.id, .string E.ti, .int .i64 E.st, .int .i64 E.lg, .string E.f, .int .i64 E.e, .slice ra' E.ds.length rc', .int .i64 E.c, .int .i64 E.u, .slice none 0 0, .slice none 0 0]] w4 fun r w' => r = .returned (errV s kk) ∧ Below w4.heap.size w4 w') := evCheck_k (bare E) _ _ _ kk s w4 G4.out D4 (Ints.nil _ _) (Movs.nil _ _) (show E.id.size ≤ 60 by omega) t60 hkk
    have BX : Hid (∀ W, Below w4.heap.size w4 W → EB W bx (bare E) (.slice ra' E.ds.length rc') (.slice none 0 0) (.slice none 0 0)) := fun W h => E4.step h
    obtain ⟨x0, x1, x2, x3, x4, x5, x6, x7, x8, x9, x10⟩ := blk11 (show w4.heap[bx]? = some (.cells #[.string E.id, .string E.ti, .int .i64 E.st, .int .i64 E.lg, .string E.f, .int .i64 E.e, .slice ra' E.ds.length rc', .int .i64 E.c, .int .i64 E.u, .slice none 0 0, .slice none 0 0] 27 (0, 0)) from E4)
    by_cases hw : EW (bare E)
    case neg =>
      have hk0 : kk ≠ 0 := fun q => hw ((evK_0 hkk).1 q)
      obtain ⟨p, hp⟩ := errV_ne (s := s) hk0
      rw [hp] at CK
      clear hw hk0 hp hkk E4 D4 GD4
      go_wp2_with (go_at_call 17; refine Calls.mono CK.out ?_; rintro r w5 ⟨rfl, hb5⟩)
      go_ret
      exact ⟨rfl, below_then BW4.out hb5⟩
    case pos =>
      have hk0 : kk = 0 := (evK_0 hkk).2 hw
      rw [hk0, errV_0] at CK
      have HW : Hid (EW (bare E)) := hw
      have HD : Hid (Days w4 (.slice ra' E.ds.length rc') E.ds) := D4
      have HG : Hid (Got w4 (.slice ra' E.ds.length rc') E.ds) := GD4
      have DY : Hid (∀ (a b : Int) W, Below w4.heap.size w4 W → Calls Tryz.prog 9 #[.agg #[.string E.id, .string E.ti, .int .i64 E.st, .int .i64 E.lg, .string E.f, .int .i64 E.e, .slice ra' E.ds.length rc', .int .i64 E.c, .int .i64 E.u, .slice none 0 0, .slice none 0 0], .int .i64 a, .int .i64 b] W fun r w' => Below W.heap.size W w' ∧
          (((eds (bare E) a b).length ≤ 1000 ∧ ∃ v, r = .returned (.tuple #[v, .nilIface]) ∧ Ow W.heap.size w' v (eds (bare E) a b)) ∨ (1000 < (eds (bare E) a b).length ∧ r = .returned (.tuple #[.slice none 0 0, .iface 181 (.pointer (some (s 6)))])))) := fun a b W h => edays_ok (bare E) _ _ _ a b s W (G4.out.step h) (D4.step h) (Ints.nil _ _) (Movs.nil _ _) (show E.id.size ≤ 60 by omega) t60 hw
      have SPL : Hid (eds (bare E) fr0 ct ++ eds (bare E) (ct + 1) to0 = eds (bare E) fr0 to0) := evs_split hfc hct
      have SPN : Hid (((eds (bare E) fr0 ct).length : Int) + (eds (bare E) (ct + 1) to0).length = (eds (bare E) fr0 to0).length) := by
        have := congrArg List.length SPL.out
        rw [List.length_append] at this
        show _ = _
        omega
      clear hk0 hkk hw E4 D4 GD4
      by_cases hfull : 1000 < (eds (bare E) fr0 to0).length
      · have D1 : Hid (∀ W, Below w4.heap.size w4 W → Calls Tryz.prog 9 #[.agg #[.string E.id, .string E.ti, .int .i64 E.st, .int .i64 E.lg, .string E.f, .int .i64 E.e, .slice ra' E.ds.length rc', .int .i64 E.c, .int .i64 E.u, .slice none 0 0, .slice none 0 0], .int .i64 fr0, .int .i64 to0] W fun r w' => r = .returned (.tuple #[.slice none 0 0, .iface 181 (.pointer (some (s 6)))]) ∧ Below W.heap.size W w') := fun W h => by
          refine (DY.out fr0 to0 W h).mono ?_
          rintro r w' ⟨hbw, (⟨q, _⟩ | ⟨_, q⟩)⟩
          · omega
          · exact ⟨q, hbw⟩
        have D2 : Hid (∀ (a b : Int) W, Below w4.heap.size w4 W → Calls Tryz.prog 9 #[.agg #[.string E.id, .string E.ti, .int .i64 E.st, .int .i64 E.lg, .string E.f, .int .i64 E.e, .slice ra' E.ds.length rc', .int .i64 E.c, .int .i64 E.u, .slice none 0 0, .slice none 0 0], .int .i64 a, .int .i64 b] W fun r w' => (∃ v x, r = .returned (.tuple #[v, x])) ∧ Below W.heap.size W w') := fun a b W h => by
          refine (DY.out a b W h).mono ?_
          rintro r w' ⟨hbw, (⟨_, v, q, _⟩ | ⟨_, q⟩)⟩
          · exact ⟨⟨_, _, q⟩, hbw⟩
          · exact ⟨⟨_, _, q⟩, hbw⟩
        clear DY SPL SPN hfull
        go_wp2_with (first
          | (go_at_call 17; refine Calls.mono CK.out ?_; rintro r w5 ⟨rfl, hb5⟩; clear x0 x1 x2 x3 x4 x5 x6 x7 x8 x9 x10; obtain ⟨x0, x1, x2, x3, x4, x5, x6, x7, x8, x9, x10⟩ := blk11 (show w5.heap[bx]? = some (.cells #[.string E.id, .string E.ti, .int .i64 E.st, .int .i64 E.lg, .string E.f, .int .i64 E.e, .slice ra' E.ds.length rc', .int .i64 E.c, .int .i64 E.u, .slice none 0 0, .slice none 0 0] 27 (0, 0)) from BX.out _ hb5))
          | (go_at_call 9; refine (D2.out _ _ _ h7).mono ?_; rintro r w8 ⟨⟨v8, e8, rfl⟩, hb8⟩)
          | (go_at_call 9; refine (D2.out _ _ _ h6).mono ?_; rintro r w7 ⟨⟨v7, e7, rfl⟩, hb7⟩; have h7 := below_then h6 hb7; clear x0 x1 x2 x3 x4 x5 x6 x7 x8 x9 x10; obtain ⟨x0, x1, x2, x3, x4, x5, x6, x7, x8, x9, x10⟩ := blk11 (show w7.heap[bx]? = some (.cells #[.string E.id, .string E.ti, .int .i64 E.st, .int .i64 E.lg, .string E.f, .int .i64 E.e, .slice ra' E.ds.length rc', .int .i64 E.c, .int .i64 E.u, .slice none 0 0, .slice none 0 0] 27 (0, 0)) from BX.out _ h7))
          | (go_at_call 9; refine (D1.out _ hb5).mono ?_; rintro r w6 ⟨rfl, hb6⟩; have h6 := below_then hb5 hb6; clear x0 x1 x2 x3 x4 x5 x6 x7 x8 x9 x10; obtain ⟨x0, x1, x2, x3, x4, x5, x6, x7, x8, x9, x10⟩ := blk11 (show w6.heap[bx]? = some (.cells #[.string E.id, .string E.ti, .int .i64 E.st, .int .i64 E.lg, .string E.f, .int .i64 E.e, .slice ra' E.ds.length rc', .int .i64 E.c, .int .i64 E.u, .slice none 0 0, .slice none 0 0] 27 (0, 0)) from BX.out _ h6)))
        go_ret
        exact ⟨rfl, below_then BW4.out (below_then h7 hb8)⟩
      · have D1 : Hid (∀ (a b : Int), (eds (bare E) a b).length ≤ 1000 → ∀ W, Below w4.heap.size w4 W → Calls Tryz.prog 9 #[.agg #[.string E.id, .string E.ti, .int .i64 E.st, .int .i64 E.lg, .string E.f, .int .i64 E.e, .slice ra' E.ds.length rc', .int .i64 E.c, .int .i64 E.u, .slice none 0 0, .slice none 0 0], .int .i64 a, .int .i64 b] W fun r w' => ∃ va vc, r = .returned (.tuple #[.slice va (eds (bare E) a b).length vc, .nilIface]) ∧ Ow W.heap.size w' (.slice va (eds (bare E) a b).length vc) (eds (bare E) a b) ∧ Below W.heap.size W w') := fun a b hl W h => by
          refine (DY.out a b W h).mono ?_
          rintro r w' ⟨hbw, (⟨_, v, rfl, ho⟩ | ⟨q, _⟩)⟩
          · obtain ⟨va, vc, rfl⟩ := ow_form ho
            exact ⟨va, vc, rfl, ho, hbw⟩
          · omega
        have n0 : (eds (bare E) fr0 to0).length ≤ 1000 := by omega
        have n1 : (eds (bare E) fr0 ct).length ≤ 1000 := by have := SPN.out; omega
        have n2 : (eds (bare E) (ct + 1) to0).length ≤ 1000 := by have := SPN.out; omega
        have DA : Hid (_) := D1.out fr0 to0 n0
        have DB : Hid (_) := D1.out fr0 ct n1
        have DC : Hid (_) := D1.out (ct + 1) to0 n2
        have MX : Hid (∀ x ∈ eds (bare E) fr0 to0, 0 ≤ x ∧ x ≤ 73048) := fun x hx => by have := mem_evs.1 hx; exact ⟨this.1, this.2.1⟩
        have MS : Hid (∀ x ∈ eds (bare E) fr0 to0, (eds (lessOf E x) fr0 to0).length + 1 = (eds (bare E) fr0 to0).length) := fun x hx => evs_skip hx
        have MM : Hid (∀ x ∈ eds (bare E) fr0 to0, ct ∈ eds (movedOf E x ct) fr0 to0 ∧ (∀ y ∈ eds (movedOf E x ct) fr0 to0, y = x → x = ct) ∧ (eds (movedOf E x ct) fr0 to0).length ≤ (eds (bare E) fr0 to0).length) := fun x hx => evs_move hx hfc hct (by omega) (by omega)
        clear DY SPN hfull D1
        generalize eds (bare E) fr0 to0 = A at DA SPL MX MS MM n0
        generalize eds (bare E) fr0 ct = A1 at DB SPL n1
        generalize eds (bare E) (ct + 1) to0 = A2 at DC SPL n2
        go_upto_region 14 with (first
          | (go_at_call 17; refine Calls.mono CK.out ?_; rintro r w5 ⟨rfl, hb5⟩; clear x0 x1 x2 x3 x4 x5 x6 x7 x8 x9 x10; obtain ⟨x0, x1, x2, x3, x4, x5, x6, x7, x8, x9, x10⟩ := blk11 (show w5.heap[bx]? = some (.cells #[.string E.id, .string E.ti, .int .i64 E.st, .int .i64 E.lg, .string E.f, .int .i64 E.e, .slice ra' E.ds.length rc', .int .i64 E.c, .int .i64 E.u, .slice none 0 0, .slice none 0 0] 27 (0, 0)) from BX.out _ hb5))
          | (go_at_call 9; refine (DC.out _ h7).mono ?_; rintro r w8 ⟨vc, cc, rfl, hoc, hb8⟩)
          | (go_at_call 9; refine (DB.out _ h6).mono ?_; rintro r w7 ⟨vb, cb, rfl, hob, hb7⟩; have h7 := below_then h6 hb7; clear x0 x1 x2 x3 x4 x5 x6 x7 x8 x9 x10; obtain ⟨x0, x1, x2, x3, x4, x5, x6, x7, x8, x9, x10⟩ := blk11 (show w7.heap[bx]? = some (.cells #[.string E.id, .string E.ti, .int .i64 E.st, .int .i64 E.lg, .string E.f, .int .i64 E.e, .slice ra' E.ds.length rc', .int .i64 E.c, .int .i64 E.u, .slice none 0 0, .slice none 0 0] 27 (0, 0)) from BX.out _ h7))
          | (go_at_call 9; refine (DA.out _ hb5).mono ?_; rintro r w6 ⟨va, ca, rfl, hoa, hb6⟩; have h6 := below_then hb5 hb6; clear x0 x1 x2 x3 x4 x5 x6 x7 x8 x9 x10; obtain ⟨x0, x1, x2, x3, x4, x5, x6, x7, x8, x9, x10⟩ := blk11 (show w6.heap[bx]? = some (.cells #[.string E.id, .string E.ti, .int .i64 E.st, .int .i64 E.lg, .string E.f, .int .i64 E.e, .slice ra' E.ds.length rc', .int .i64 E.c, .int .i64 E.u, .slice none 0 0, .slice none 0 0] 27 (0, 0)) from BX.out _ h6)))
        have H8 : Hid (Below w4.heap.size w4 w8) := below_then h7 hb8
        have OA : Hid (Ow w5.heap.size w8 (.slice va A.length ca) A) := (hoa.step hb7).step hb8
        have OB : Hid (Got w8 (.slice vb A1.length cb) A1) := ow_got (hob.step hb8)
        have OC : Hid (Got w8 (.slice vc A2.length cc) A2) := ow_got hoc
        clear hb5 hb6 h6 hb7 h7 hb8 hoa hob hoc DA DB DC CK x0 x1 x2 x3 x4 x5 x6 x7 x8 x9 x10
        go_upto_region 17 with (first
          | (at_builtin; refine app_ow rfl _ _ rfl w8.heap.size ([] ++ A1) A2 _ _ rfl ho9 rfl (OC.out.step hb9) (by simp; omega) hb9.size ?_; intro v10 w10 ho10 hb10)
          | (at_builtin; refine app_ow rfl _ _ rfl w8.heap.size [] A1 _ _ rfl (Ow.nil _ _) rfl OB.out (by simp; omega) (Nat.le_refl _) ?_; intro v9 w9 ho9 hb9; obtain ⟨v9a, v9c, rfl⟩ := ow_form ho9))
        have hb810 : Below w8.heap.size w8 w10 := hb9.trans hb10
        have O10 : Ow w5.heap.size w10 (.slice va A.length ca) A := OA.out.step hb810
        have e10 : [] ++ A1 ++ A2 = A := by rw [List.nil_append]; exact SPL.out
        rw [e10] at ho10
        have SI : Hid (_) := same_ow ho10 O10 (by omega)
        have H10 : Hid (Below w4.heap.size w4 w10) := below_then H8.out hb810
        have OA10 : Hid (Ow w5.heap.size w10 (.slice va A.length ca) A) := O10
        clear hb810 O10 e10 ho10 ho9 hb9 hb10 OA OB OC H8 SPL n1 n2
        go_wp2_with (go_at_call 14; refine Calls.mono SI.out ?_; rintro r w11 ⟨rfl, hb11⟩)
        have H11 : Hid (Below w4.heap.size w4 w11) := below_then H10.out hb11
        have IA : Hid (Ints w11 (.slice va A.length ca) A) := ow_ints (OA10.out.step hb11) (by omega)
        clear SI H10 OA10 hb11
        go_loopw [18, 19, 20, 21, 22, 23, 24, 25] (fun i _ _ _ _ _ _ _ wr => ∃ m : Nat, i = .int .i64 m ∧ m ≤ A.length ∧ m ≤ 20 ∧ Hid (Below w11.heap.size w11 wr)) (fun i _ _ _ _ _ _ _ _ => (20 - intOf i).toNat)
        case atStart => exact ⟨0, rfl, Nat.zero_le _, by omega, Below.refl _ _⟩
        case round =>
          obtain ⟨m, rfl, hmA, hm20, hB⟩ := hrel
          have H0 : Hid (Below w4.heap.size w4 wr) := below_then H11.out hB.out
          obtain ⟨x0, x1, x2, x3, x4, x5, x6, x7, x8, x9, x10⟩ := blk11 (show wr.heap[bx]? = some (.cells #[.string E.id, .string E.ti, .int .i64 E.st, .int .i64 E.lg, .string E.f, .int .i64 E.e, .slice ra' E.ds.length rc', .int .i64 E.c, .int .i64 E.u, .slice none 0 0, .slice none 0 0] 27 (0, 0)) from BX.out _ H0.out)
          by_cases hlt : m < A.length ∧ m < 20
          case neg =>
            rcases (show A.length ≤ m ∨ (m < A.length ∧ 20 ≤ m) by omega) with q | ⟨q, q'⟩
            all_goals
              go_wp2
              go_ret
              exact ⟨rfl, below_then BW4.out H0.out⟩
          case pos =>
            obtain ⟨hl1, hl2⟩ := hlt
            obtain ⟨aI, cI, eI, hI1, hI2, hI3⟩ := IA.out.step hB.out
            cases eI
            obtain ⟨ga, rfl, hga, hxc⟩ := hI3 m hl1
            have XM : Hid (A[m] ∈ A) := List.getElem_mem hl1
            generalize A[m] = x at hxc XM
            have XC : Hid (∀ W, Below wr.heap.size wr W → W.cell? ⟨ga, m, none⟩ = some (.int .i64 x)) := fun W h => (h.cell (p := ⟨ga, m, none⟩) hga).trans hxc
            have O2 : Hid (Calls Tryz.prog 8 #[.agg #[.string E.id, .string E.ti, .int .i64 E.st, .int .i64 E.lg, .string E.f, .int .i64 E.e, .slice ra' E.ds.length rc', .int .i64 E.c, .int .i64 E.u, .slice none 0 0, .slice none 0 0]] wr fun r w' => ∃ rb rd' sb sd mb md, r = .returned (.agg #[.string E.id, .string E.ti, .int .i64 E.st, .int .i64 E.lg, .string E.f, .int .i64 E.e, .slice rb E.ds.length rd', .int .i64 E.c, .int .i64 E.u, .slice sb 0 sd, .slice mb 0 md]) ∧ Days w' (.slice rb E.ds.length rd') E.ds ∧ Movs w' (.slice mb 0 md) [] ∧ Below wr.heap.size wr w') := by
              refine Calls.mono (ownEvent_any (bare E) _ _ _ wr (HG.out.step H0.out) (⟨none, 0, rfl, fun _ => ⟨rfl, rfl⟩, fun ad q => by cases q⟩) (⟨none, 0, rfl, fun _ => ⟨rfl, rfl⟩, fun ad q => by cases q⟩) d20 (Nat.zero_le _) (Nat.zero_le _)) ?_
              rintro r w12 ⟨sl2, sk2, mv2, rfl, hl12, hb12⟩
              obtain ⟨rb, rd', rfl⟩ := got_form hl12.gd
              obtain ⟨sb, sd, rfl⟩ := got_form hl12.gs
              obtain ⟨mb, md, rfl⟩ := gotM_form hl12.gm
              exact ⟨rb, rd', sb, sd, mb, md, rfl, hl12.d, hl12.m, hb12⟩
            clear hI1 hI2 hI3
            go_upto_region 23 with (go_at_call 8; refine Calls.mono O2.out ?_; rintro r w12 ⟨rb, rd', sb, sd, mb, md, rfl, hd12, hm12, hb12⟩)
            have Y13 : (w12.alloc (.cells #[.string E.id, .string E.ti, .int .i64 E.st, .int .i64 E.lg, .string E.f, .int .i64 E.e, .slice rb E.ds.length rd', .int .i64 E.c, .int .i64 E.u, .slice sb 0 sd, .slice mb 0 md] 27)).heap[w12.heap.size]? = some (.cells #[.string E.id, .string E.ti, .int .i64 E.st, .int .i64 E.lg, .string E.f, .int .i64 E.e, .slice rb E.ds.length rd', .int .i64 E.c, .int .i64 E.u, .slice sb 0 sd, .slice mb 0 md] 27 (0, 0)) := block_at _ rfl
            have B13 : Hid (Below w12.heap.size w12 (w12.alloc (.cells #[.string E.id, .string E.ti, .int .i64 E.st, .int .i64 E.lg, .string E.f, .int .i64 E.e, .slice rb E.ds.length rd', .int .i64 E.c, .int .i64 E.u, .slice sb 0 sd, .slice mb 0 md] 27))) := below_alloc _ _
            have D12 : Hid (∀ W, Below w12.heap.size w12 W → Days W (.slice rb E.ds.length rd') E.ds) := fun W h => hd12.step h
            have M12 : Hid (∀ W, Below w12.heap.size w12 W → Movs W (.slice mb 0 md) []) := fun W h => hm12.step h
            have X12 : Hid (∀ W, Below w12.heap.size w12 W → W.cell? ⟨ga, m, none⟩ = some (.int .i64 x)) := fun W h => XC.out W (below_then hb12 h)
            have H12 : Hid (Below w4.heap.size w4 w12) := below_then H0.out hb12
            have HB12 : Hid (Below w11.heap.size w11 w12) := below_then hB.out hb12
            clear hd12 hm12 hb12 O2 hxc XC hga x0 x1 x2 x3 x4 x5 x6 x7 x8 x9 x10
            generalize w12.alloc (.cells #[.string E.id, .string E.ti, .int .i64 E.st, .int .i64 E.lg, .string E.f, .int .i64 E.e, .slice rb E.ds.length rd', .int .i64 E.c, .int .i64 E.u, .slice sb 0 sd, .slice mb 0 md] 27) = w13 at Y13 B13 ⊢
            have hby : w12.heap.size < w13.heap.size := (Array.getElem?_eq_some_iff.1 Y13).1
            have hx0 := X12.out w13 B13.out
            obtain ⟨y0, y1, y2, y3, y4, y5, y6, y7, y8, y9, y10⟩ := blk11 Y13
            have z9 := blk11_frozen Y13 9
            go_upto_region 24 with (fail)
            have hsz : (w13.setCell ⟨w12.heap.size, 9, none⟩ (.slice (some ⟨w13.heap.size, 0, none⟩) 1 1)).heap.size = w13.heap.size := by simp
            have Y14 := block_alloc (.cells #[.int .i64 x] 3) (set11_9 (.slice (some ⟨w13.heap.size, 0, none⟩) 1 1) Y13)
            have BX14 : Boxed ((w13.setCell ⟨w12.heap.size, 9, none⟩ (.slice (some ⟨w13.heap.size, 0, none⟩) 1 1)).alloc (.cells #[.int .i64 x] 3)) w13.heap.size 3 (.int .i64 x) := by
              have := Boxed.new (w13.setCell ⟨w12.heap.size, 9, none⟩ (.slice (some ⟨w13.heap.size, 0, none⟩) 1 1)) 3 (.int .i64 x)
              rwa [hsz] at this
            have I14 : Hid (Ints ((w13.setCell ⟨w12.heap.size, 9, none⟩ (.slice (some ⟨w13.heap.size, 0, none⟩) 1 1)).alloc (.cells #[.int .i64 x] 3)) (.slice (some ⟨w13.heap.size, 0, none⟩) 1 1) [x]) := ints_one BX14 (by simp)
            have B14 : Hid (Below w12.heap.size w12 ((w13.setCell ⟨w12.heap.size, 9, none⟩ (.slice (some ⟨w13.heap.size, 0, none⟩) 1 1)).alloc (.cells #[.int .i64 x] 3))) := (B13.out.setCell (p := ⟨w12.heap.size, 9, none⟩) (Nat.le_refl _) _).trans ((below_alloc _ _).mono (by rw [hsz]; omega))
            clear y0 y1 y2 y3 y4 y5 y6 y7 y8 y9 y10 z9 hx0 BX14 hsz Y13 B13
            generalize (w13.setCell ⟨w12.heap.size, 9, none⟩ (.slice (some ⟨w13.heap.size, 0, none⟩) 1 1)).alloc (.cells #[.int .i64 x] 3) = w14 at Y14 I14 B14 ⊢
            generalize w13.heap.size = bs at Y14 I14 hby ⊢
            obtain ⟨x0', x1'⟩ := MX.out x XM.out
            have lenS := MS.out x XM.out
            have DL : Hid (Calls Tryz.prog 9 #[.agg #[.string E.id, .string E.ti, .int .i64 E.st, .int .i64 E.lg, .string E.f, .int .i64 E.e, .slice rb E.ds.length rd', .int .i64 E.c, .int .i64 E.u, .slice (some ⟨bs, 0, none⟩) 1 1, .slice mb 0 md], .int .i64 fr0, .int .i64 to0] w14 fun r w' => ∃ va vc, r = .returned (.tuple #[.slice va (eds (lessOf E x) fr0 to0).length vc, .nilIface]) ∧ Below w14.heap.size w14 w') := by
              refine Calls.mono (edays_ok (lessOf E x) _ _ _ fr0 to0 s w14 (G4.out.step (below_then H12.out B14.out)) (D12.out _ B14.out) I14.out (M12.out _ B14.out) (show E.id.size ≤ 60 by omega) t60 (less_well HW.out x0' x1')) ?_
              rintro r w' ⟨hbw, (⟨_, v, rfl, ho⟩ | ⟨q, _⟩)⟩
              · obtain ⟨va, vc, rfl⟩ := ow_form ho
                exact ⟨va, vc, rfl, hbw⟩
              · omega
            generalize (eds (lessOf E x) fr0 to0).length = nx at DL lenS
            obtain ⟨y0, y1, y2, y3, y4, y5, y6, y7, y8, y9, y10⟩ := blk11 Y14
            go_upto_region 25 with (go_at_call 9; refine Calls.mono DL.out ?_; rintro r w15 ⟨xa, xc, rfl, hb15⟩)
            have Y15 := (hb15.block _ (Array.getElem?_eq_some_iff.1 Y14).1).trans Y14
            have B15 : Hid (Below w12.heap.size w12 w15) := below_then B14.out hb15
            clear y0 y1 y2 y3 y4 y5 y6 y7 y8 y9 y10 hb15 Y14 B14 I14 DL
            obtain ⟨y0, y1, y2, y3, y4, y5, y6, y7, y8, y9, y10⟩ := blk11 Y15
            have z9 := blk11_frozen Y15 9
            go_upto_region 26 with (fail)
            have Y16 := set11_9 (.slice none 0 0) Y15
            have B16 : Hid (Below w12.heap.size w12 (w15.setCell ⟨w12.heap.size, 9, none⟩ (.slice none 0 0))) := B15.out.setCell (p := ⟨w12.heap.size, 9, none⟩) (Nat.le_refl _) _
            clear y0 y1 y2 y3 y4 y5 y6 y7 y8 y9 y10 z9 B15 Y15
            generalize w15.setCell ⟨w12.heap.size, 9, none⟩ (.slice none 0 0) = w16 at Y16 B16 ⊢
            obtain ⟨y0, y1, y2, y3, y4, y5, y6, y7, y8, y9, y10⟩ := blk11 Y16
            have z10 := blk11_frozen Y16 10
            have hx0 := X12.out w16 B16.out
            have hby6 : w12.heap.size < w16.heap.size := (Array.getElem?_eq_some_iff.1 Y16).1
            go_upto_region 27 with (fail)
            have hsz : (w16.setCell ⟨w12.heap.size, 10, none⟩ (.slice (some ⟨w16.heap.size, 0, none⟩) 1 1)).heap.size = w16.heap.size := by simp
            have Y17 := block_alloc (.cells #[.int .i64 x, .int .i64 ct] 44) (set11_10 (.slice (some ⟨w16.heap.size, 0, none⟩) 1 1) Y16)
            have M17 : Hid (Movs ((w16.setCell ⟨w12.heap.size, 10, none⟩ (.slice (some ⟨w16.heap.size, 0, none⟩) 1 1)).alloc (.cells #[.int .i64 x, .int .i64 ct] 44)) (.slice (some ⟨w16.heap.size, 0, none⟩) 1 1) [(x, ct)]) := by
              have hb : ((w16.setCell ⟨w12.heap.size, 10, none⟩ (.slice (some ⟨w16.heap.size, 0, none⟩) 1 1)).alloc (.cells #[.int .i64 x, .int .i64 ct] 44)).heap[w16.heap.size]? = some (.cells #[.int .i64 x, .int .i64 ct] 44 (0, 0)) := block_at _ hsz
              exact movs_one hb
            have B17 : Hid (Below w12.heap.size w12 ((w16.setCell ⟨w12.heap.size, 10, none⟩ (.slice (some ⟨w16.heap.size, 0, none⟩) 1 1)).alloc (.cells #[.int .i64 x, .int .i64 ct] 44))) := (B16.out.setCell (p := ⟨w12.heap.size, 10, none⟩) (Nat.le_refl _) _).trans ((below_alloc _ _).mono (by rw [hsz]; omega))
            clear y0 y1 y2 y3 y4 y5 y6 y7 y8 y9 y10 z10 hx0 hsz Y16 B16
            generalize (w16.setCell ⟨w12.heap.size, 10, none⟩ (.slice (some ⟨w16.heap.size, 0, none⟩) 1 1)).alloc (.cells #[.int .i64 x, .int .i64 ct] 44) = w17 at Y17 M17 B17 ⊢
            generalize w16.heap.size = bm at Y17 M17 hby6 ⊢
            obtain ⟨mm1, mm2, mm3⟩ := MM.out x XM.out
            have DM : Hid (Calls Tryz.prog 9 #[.agg #[.string E.id, .string E.ti, .int .i64 E.st, .int .i64 E.lg, .string E.f, .int .i64 E.e, .slice rb E.ds.length rd', .int .i64 E.c, .int .i64 E.u, .slice none 0 0, .slice (some ⟨bm, 0, none⟩) 1 1], .int .i64 fr0, .int .i64 to0] w17 fun r w' => ∃ va vc, r = .returned (.tuple #[.slice va (eds (movedOf E x ct) fr0 to0).length vc, .nilIface]) ∧ Ow w17.heap.size w' (.slice va (eds (movedOf E x ct) fr0 to0).length vc) (eds (movedOf E x ct) fr0 to0) ∧ Below w17.heap.size w17 w') := by
              refine Calls.mono (edays_ok (movedOf E x ct) _ _ _ fr0 to0 s w17 (G4.out.step (below_then H12.out B17.out)) (D12.out _ B17.out) (Ints.nil _ _) M17.out (show E.id.size ≤ 60 by omega) t60 (moved_well HW.out x0' x1' (by omega) (by omega))) ?_
              rintro r w' ⟨hbw, (⟨_, v, rfl, ho⟩ | ⟨q, _⟩)⟩
              · obtain ⟨va, vc, rfl⟩ := ow_form ho
                exact ⟨va, vc, rfl, ho, hbw⟩
              · omega
            have MM1 : Hid (ct ∈ eds (movedOf E x ct) fr0 to0) := mm1
            have MM2 : Hid (∀ y ∈ eds (movedOf E x ct) fr0 to0, y = x → x = ct) := mm2
            clear mm1 mm2
            generalize eds (movedOf E x ct) fr0 to0 = Y at DM MM1 MM2 mm3
            obtain ⟨y0, y1, y2, y3, y4, y5, y6, y7, y8, y9, y10⟩ := blk11 Y17
            go_upto_region 28 with (go_at_call 9; refine Calls.mono DM.out ?_; rintro r w18 ⟨ya, yc, rfl, hoy, hb18⟩)
            have B18 : Hid (Below w12.heap.size w12 w18) := below_then B17.out hb18
            have IY : Hid (Ints w18 (.slice ya Y.length yc) Y) := ow_ints hoy (by omega)
            clear y0 y1 y2 y3 y4 y5 y6 y7 y8 y9 y10 hb18 Y17 B17 M17 DM hoy
            have hnx : (nx : Int) = (A.length : Int) - 1 := by omega
            clear lenS
            go_cut [163] (fun v wx => v = .bool false ∧ Hid (Below w18.heap.size w18 wx))
            case first =>
              go_wp2
              go_meet
              case rel => exact ⟨rfl, by first | exact Below.refl _ _ | exact drewN_below _ _⟩
            case rest =>
            obtain ⟨e163, B18c⟩ := hcut
            cases e163
            have B18' : Hid (Below w12.heap.size w12 wc) := below_then B18.out B18c.out
            have IYc : Hid (Ints wc (.slice ya Y.length yc) Y) := IY.out.step B18c.out
            clear B18 IY B18c hnx
            go_wp2
            go_loopw [24, 25] (fun tv kv wq => ∃ (k : Nat) (t : Bool), kv = .int .i64 k ∧ tv = .bool t ∧ k ≤ Y.length ∧ Hid (t = true ↔ ct ∈ Y.take k) ∧ Hid (Below wc.heap.size wc wq)) (fun _ kv _ => (1000 - intOf kv).toNat)
            case atStart => exact ⟨0, false, rfl, rfl, Nat.zero_le _, ⟨fun q => absurd q (by decide), fun q => by simp at q⟩, Below.refl _ _⟩
            case round =>
              obtain ⟨kk, t, rfl, rfl, hk1, HT, hBq⟩ := hrel
              by_cases hltk : kk < Y.length
              · obtain ⟨aI, cI, eI, hI1, hI2, hI3⟩ := IYc.out.step hBq.out
                cases eI
                obtain ⟨gy, rfl, hgy, hyc⟩ := hI3 kk hltk
                have YM := MM2.out Y[kk] (List.getElem_mem hltk)
                have HT2 : Hid (∀ t' : Bool, (t' = true ↔ (t = true ∨ Y[kk] = ct)) → (t' = true ↔ ct ∈ Y.take (kk + 1))) := fun t' h => by
                  rw [h, HT.out, List.take_add_one, List.getElem?_eq_getElem hltk, List.mem_append]
                  simp [eq_comm]
                generalize Y[kk] = y at hyc YM HT2
                have hxq := X12.out _ (below_then B18'.out hBq.out)
                clear hI1 hI2 hI3 HT
                rcases (show (y = ct ∧ x = ct) ∨ (y = ct ∧ x ≠ ct) ∨ (y ≠ ct ∧ y ≠ x) by omega) with ⟨q1, q2⟩ | ⟨q1, q2⟩ | ⟨q1, q2⟩
                · have HT3 : Hid (ct ∈ Y.take (kk + 1)) := (HT2.out true (by simp [q1])).1 rfl
                  rw [q1] at hyc
                  rw [q2] at hxq
                  clear YM HT2 q1 q2
                  go_wp2_with (fail)
                  go_quiet (fail)
                  go_wp2
                  go_roundw
                  case rel => exact ⟨kk + 1, true, by go_num, rfl, by omega, ⟨fun _ => HT3.out, fun _ => rfl⟩, below_then hBq.out (by first | exact Below.refl _ _ | exact drewN_below _ _)⟩
                  case measure => simp [intOf]; omega
                · have HT3 : Hid (ct ∈ Y.take (kk + 1)) := (HT2.out true (by simp [q1])).1 rfl
                  rw [q1] at hyc
                  have hd : (ct == x) = false := by rw [beq_eq_false_iff_ne]; exact fun q => q2 q.symm
                  clear YM HT2 q1 q2
                  go_wp2_with (fail)
                  go_quiet (fail)
                  go_wp2
                  go_roundw
                  case rel => exact ⟨kk + 1, true, by go_num, rfl, by omega, ⟨fun _ => HT3.out, fun _ => rfl⟩, below_then hBq.out (by first | exact Below.refl _ _ | exact drewN_below _ _)⟩
                  case measure => simp [intOf]; omega
                · have HT3 : Hid (_) := HT2.out t (by simp [q1])
                  have hd : (y == x) = false := by rw [beq_eq_false_iff_ne]; exact q2
                  have hd' : (y == ct) = false := by rw [beq_eq_false_iff_ne]; exact q1
                  clear YM HT2 q2
                  go_wp2_with (fail)
                  go_quiet (fail)
                  go_wp2
                  go_roundw
                  case rel => exact ⟨kk + 1, t, by go_num, rfl, by omega, HT3.out, below_then hBq.out (by first | exact Below.refl _ _ | exact drewN_below _ _)⟩
                  case measure => simp [intOf]; omega
              · have hkY : kk = Y.length := by omega
                have ht : t = true := HT.out.2 (by rw [hkY, List.take_length]; exact MM1.out)
                subst ht
                have hB18 := below_then HB12.out (below_then B18'.out hBq.out)
                go_wp2
                go_roundw
                case rel => exact ⟨m + 1, by go_num, by omega, by omega, hB18⟩
                case measure => simp [intOf]; omega
end Go.Proofs.YtijdnmkkdofbeaaGreatDoor
