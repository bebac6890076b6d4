/- The law EventDays, walked: days of any event in any span; what is covered. -/
import Derived.Test.YtijdnmkkdofbeaaGreatDoorEvL2
import Derived.Test.YtijdnmkkdofbeaaGreatDoorEvR6
import Derived.Test.YtijdnmkkdofbeaaGreatDoorExpE2
import Derived.Test.YtijdnmkkdofbeaaGreatDoorExpQ
namespace Go.Proofs.YtijdnmkkdofbeaaGreatDoor
open Go Go.RowKit Cal
attribute [local go_sem] Oper.semAt_some

set_option maxHeartbeats 4000000 in
set_option maxRecDepth 100000 in
theorem edays_all (E : EV) (sl skv mvv : Value) (fr0 to0 d : Int) (s : Nat → Addr) (w : World) (gs : Sents s w) (ht : Tab w) (hd : Got w sl E.ds) (hs : Got w skv E.sk) (hm : GotM w mvv E.mv) :
    Calls Tryz.prog 3 #[ev E sl skv mvv, .int .i64 fr0, .int .i64 to0, .int .i64 d] w fun r w' => r = .returned (.bool true) ∧ Below w.heap.size w w' := by
  have hA := below_alloc w (.cells #[.string E.id, .string E.ti, .int .i64 E.st, .int .i64 E.lg, .string E.f, .int .i64 E.e, sl, .int .i64 E.c, .int .i64 E.u, skv, mvv] 27)
  have hB := EB.new w E sl skv mvv
  have EVD : Hid (_) := evented_any s _ (gs.globK.step hA) (ht.step hA)
  have G : Hid (Sents s w) := gs
  have GD : Hid (Got w sl E.ds) := hd
  have GS : Hid (Got w skv E.sk) := hs
  have GM : Hid (GotM w mvv E.mv) := hm
  obtain ⟨ra, rc, rfl⟩ := got_form hd
  obtain ⟨sa, sc, rfl⟩ := got_form hs
  obtain ⟨ma, mc, rfl⟩ := gotM_form hm
  have LE : Hid (∀ W, Calls Tryz.prog 7 #[ev E (.slice ra E.ds.length rc) (.slice sa E.sk.length sc) (.slice ma E.mv.length mc)] W fun r w' => r = .returned (.int .i64 (lngE E)) ∧ Below W.heap.size W w') := fun W => longEvent_any E ra rc sa sc ma mc W
  have L0 : Hid (lngE E = 0 → _) := fun h => lngE_0 h
  obtain ⟨l0, l1⟩ := lngE_01 E
  generalize lngE E = k at LE L0 l0 l1
  have BX : Hid (∀ W, Below (w.alloc (.cells #[.string E.id, .string E.ti, .int .i64 E.st, .int .i64 E.lg, .string E.f, .int .i64 E.e, .slice ra E.ds.length rc, .int .i64 E.c, .int .i64 E.u, .slice sa E.sk.length sc, .slice ma E.mv.length mc] 27)).heap.size (w.alloc (.cells #[.string E.id, .string E.ti, .int .i64 E.st, .int .i64 E.lg, .string E.f, .int .i64 E.e, .slice ra E.ds.length rc, .int .i64 E.c, .int .i64 E.u, .slice sa E.sk.length sc, .slice ma E.mv.length mc] 27)) W → EB W w.heap.size E (.slice ra E.ds.length rc) (.slice sa E.sk.length sc) (.slice ma E.mv.length mc)) := fun W h => hB.step h
  have HA : Hid (_) := hA
  clear hd hs hm gs ht hB hA
  unfold ev at *
  generalize hw0 : w.alloc (.cells #[.string E.id, .string E.ti, .int .i64 E.st, .int .i64 E.lg, .string E.f, .int .i64 E.e, .slice ra E.ds.length rc, .int .i64 E.c, .int .i64 E.u, .slice sa E.sk.length sc, .slice ma E.mv.length mc] 27) = w0 at BX HA EVD
  rcases (show 0 < k ∨ k = 0 by omega) with hk | hk
  case inl =>
    go_enter Tryz.func3, Tryz.ntmps3
    go_wp2_with (first
      | (go_at_call 6; refine Calls.mono EVD.out ?_; rintro r w1 ⟨rfl, hb1⟩; obtain ⟨x0, x1, x2, x3, x4, x5, x6, x7, x8, x9, x10⟩ := blk11 (show w1.heap[w.heap.size]? = some (.cells #[.string E.id, .string E.ti, .int .i64 E.st, .int .i64 E.lg, .string E.f, .int .i64 E.e, .slice ra E.ds.length rc, .int .i64 E.c, .int .i64 E.u, .slice sa E.sk.length sc, .slice ma E.mv.length mc] 27 (0, 0)) from BX.out _ hb1))
      | (go_at_call 7; refine (LE.out _).mono ?_; rintro r w2 ⟨rfl, hb2⟩))
    go_ret
    exact ⟨rfl, below_then HA.out (below_then hb1 hb2)⟩
  case inr =>
    rw [hk] at LE
    obtain ⟨f20, d20, i30, t60, s25, m25⟩ := L0.out hk
    clear hk l0 l1 L0
    go_enter Tryz.func3, Tryz.ntmps3
    go_upto_region 4 with (first
      | (go_at_call 6; refine Calls.mono EVD.out ?_; rintro r w1 ⟨rfl, hb1⟩; obtain ⟨x0, x1, x2, x3, x4, x5, x6, x7, x8, x9, x10⟩ := blk11 (show w1.heap[w.heap.size]? = some (.cells #[.string E.id, .string E.ti, .int .i64 E.st, .int .i64 E.lg, .string E.f, .int .i64 E.e, .slice ra E.ds.length rc, .int .i64 E.c, .int .i64 E.u, .slice sa E.sk.length sc, .slice ma E.mv.length mc] 27 (0, 0)) from BX.out _ hb1))
      | (go_at_call 7; refine (LE.out _).mono ?_; rintro r w2 ⟨rfl, hb2⟩))
    have B02 : Hid (Below w0.heap.size w0 w2) := below_then hb1 hb2
    have BW2 : Hid (Below w.heap.size w w2) := below_then HA.out B02.out
    clear x0 x1 x2 x3 x4 x5 x6 x7 x8 x9 x10
    obtain ⟨x0, x1, x2, x3, x4, x5, x6, x7, x8, x9, x10⟩ := blk11 (show w2.heap[w.heap.size]? = some (.cells #[.string E.id, .string E.ti, .int .i64 E.st, .int .i64 E.lg, .string E.f, .int .i64 E.e, .slice ra E.ds.length rc, .int .i64 E.c, .int .i64 E.u, .slice sa E.sk.length sc, .slice ma E.mv.length mc] 27 (0, 0)) from BX.out _ B02.out)
    have O1 : Hid (_) := ownEvent_any E _ _ _ w2 (GD.out.step BW2.out) (GS.out.step BW2.out) (GM.out.step BW2.out) d20 (by omega) (by omega)
    unfold ev at O1
    clear hb1 hb2 EVD LE
    go_upto_region 5 with (go_at_call 8; refine Calls.mono O1.out ?_; rintro r w3 ⟨sl', sk', mv', rfl, hl3, hb3⟩; obtain ⟨ra', rc', rfl⟩ := got_form hl3.gd; obtain ⟨sa', sc', rfl⟩ := got_form hl3.gs; obtain ⟨ma', mc', rfl⟩ := gotM_form hl3.gm)
    have E4 : EB (w3.alloc (.cells #[.string E.id, .string E.ti, .int .i64 E.st, .int .i64 E.lg, .string E.f, .int .i64 E.e, .slice ra' E.ds.length rc', .int .i64 E.c, .int .i64 E.u, .slice sa' E.sk.length sc', .slice ma' E.mv.length mc'] 27)) w3.heap.size E (.slice ra' E.ds.length rc') (.slice sa' E.sk.length sc') (.slice ma' E.mv.length mc') := EB.new w3 E _ _ _
    have L4 : Lists (w3.alloc (.cells #[.string E.id, .string E.ti, .int .i64 E.st, .int .i64 E.lg, .string E.f, .int .i64 E.e, .slice ra' E.ds.length rc', .int .i64 E.c, .int .i64 E.u, .slice sa' E.sk.length sc', .slice ma' E.mv.length mc'] 27)) E (.slice ra' E.ds.length rc') (.slice sa' E.sk.length sc') (.slice ma' E.mv.length mc') := hl3.step (below_alloc _ _)
    have B04 : Hid (Below w0.heap.size w0 (w3.alloc (.cells #[.string E.id, .string E.ti, .int .i64 E.st, .int .i64 E.lg, .string E.f, .int .i64 E.e, .slice ra' E.ds.length rc', .int .i64 E.c, .int .i64 E.u, .slice sa' E.sk.length sc', .slice ma' E.mv.length mc'] 27))) := below_then B02.out (below_then hb3 (below_alloc _ _))
    clear hl3 hb3 BW2 O1 x0 x1 x2 x3 x4 x5 x6 x7 x8 x9 x10
    generalize w3.alloc (.cells #[.string E.id, .string E.ti, .int .i64 E.st, .int .i64 E.lg, .string E.f, .int .i64 E.e, .slice ra' E.ds.length rc', .int .i64 E.c, .int .i64 E.u, .slice sa' E.sk.length sc', .slice ma' E.mv.length mc'] 27) = w4 at E4 L4 B04 ⊢
    generalize w3.heap.size = bx at E4 ⊢
    have BW4 : Hid (Below w.heap.size w w4) := below_then HA.out B04.out
    have BY : Hid (∀ W, Below w4.heap.size w4 W → EB W bx E (.slice ra' E.ds.length rc') (.slice sa' E.sk.length sc') (.slice ma' E.mv.length mc')) := fun W h => E4.step h
    have B0 : Hid (∀ W, Below w4.heap.size w4 W → Below w0.heap.size w0 W) := fun W h => below_then B04.out h
    have BWx : Hid (∀ W, Below w4.heap.size w4 W → Below w.heap.size w W) := fun W h => below_then BW4.out h
    obtain ⟨kk, hkk⟩ := evK_ex E
    obtain ⟨kr, hkr⟩ := errK_ex E.f E.e E.ds E.c E.u
    have EE : Hid (∀ W, Below w4.heap.size w4 W → Calls Tryz.prog 11 #[.agg #[.string E.id, .string E.ti, .int .i64 E.st, .int .i64 E.lg, .string E.f, .int .i64 E.e, .slice ra E.ds.length rc, .int .i64 E.c, .int .i64 E.u, .slice sa E.sk.length sc, .slice ma E.mv.length mc]] W fun r w' => r = .returned (.int .i64 kk) ∧ Below W.heap.size W w') := fun W h => eventError_k E _ _ _ kk kr W (GD.out.step (BWx.out W h)) (GS.out.step (BWx.out W h)) (GM.out.step (BWx.out W h)) (by omega) t60 (by omega) (by omega) hkr hkk (fun W' hg => ruleError_k E.f E.e _ E.c E.u E.ds kr W' hg d20 hkr)
    obtain ⟨cb, hcb⟩ := bool_of' (covers E d)
    have CV : Hid (∀ W, Below w4.heap.size w4 W → Calls Tryz.prog 10 #[.agg #[.string E.id, .string E.ti, .int .i64 E.st, .int .i64 E.lg, .string E.f, .int .i64 E.e, .slice ra' E.ds.length rc', .int .i64 E.c, .int .i64 E.u, .slice sa' E.sk.length sc', .slice ma' E.mv.length mc'], .int .i64 d] W fun r w' => r = .returned (.bool cb) ∧ Below W.heap.size W w') := fun W h => covers_any E _ _ _ d s W (G.out.globK.step (BWx.out W h)) (L4.d.step h) (L4.s.step h) (L4.m.step h) (by omega) t60 cb hcb
    obtain ⟨y0, y1, y2, y3, y4, y5, y6, y7, y8, y9, y10⟩ := blk11 (show w4.heap[bx]? = some (.cells #[.string E.id, .string E.ti, .int .i64 E.st, .int .i64 E.lg, .string E.f, .int .i64 E.e, .slice ra' E.ds.length rc', .int .i64 E.c, .int .i64 E.u, .slice sa' E.sk.length sc', .slice ma' E.mv.length mc'] 27 (0, 0)) from E4)
    by_cases hw : EW E
    case neg =>
      have hk0 : kk ≠ 0 := fun q => hw ((evK_0 hkk).1 q)
      have hkb := evK_bd hkk
      have DB : Hid (Calls Tryz.prog 9 #[.agg #[.string E.id, .string E.ti, .int .i64 E.st, .int .i64 E.lg, .string E.f, .int .i64 E.e, .slice ra' E.ds.length rc', .int .i64 E.c, .int .i64 E.u, .slice sa' E.sk.length sc', .slice ma' E.mv.length mc'], .int .i64 fr0, .int .i64 to0] w4 fun r w' => r = .returned (.tuple #[.slice none 0 0, errV s kk]) ∧ Below w4.heap.size w4 w') := edays_bad E _ _ _ fr0 to0 kk s w4 (G.out.globK.step BW4.out) L4.d L4.s L4.m (by omega) t60 hkk hk0
      obtain ⟨j, hj⟩ : ∃ j : Nat, kk = (j : Int) + 1 := ⟨(kk - 1).toNat, by omega⟩
      have ej : errV s kk = .iface 181 (.pointer (some (s j))) := by
        unfold errV
        rw [if_neg hk0, show (kk - 1).toNat = j by omega]
      have hj11 : j < 11 := by omega
      have hcf : cb = false := by
        cases hq : cb with
        | false => rfl
        | true => exact absurd (hcb.1 hq).2.1 hw
      rw [ej] at DB
      rw [hj] at EE
      rw [hcf] at CV
      have hpos : 0 < (j : Int) + 1 := by omega
      have CE : Hid (∀ W, Below w4.heap.size w4 W → Calls Tryz.prog 12 #[.iface 181 (.pointer (some (s j))), .int .i64 ((j : Int) + 1)] W fun r w' => r = .returned (.bool true) ∧ Below W.heap.size W w') := fun W h => coded_err s j W (G.out.step (BWx.out W h)) hj11
      clear hw hk0 hkb hkk ej hcf hcb hj L4 E4 GD GS GM
      go_wp2_with (first
        | (go_at_call 9; refine Calls.mono DB.out ?_; rintro r w5 ⟨rfl, hb5⟩; clear y0 y1 y2 y3 y4 y5 y6 y7 y8 y9 y10; obtain ⟨y0, y1, y2, y3, y4, y5, y6, y7, y8, y9, y10⟩ := blk11 (show w5.heap[bx]? = some (.cells #[.string E.id, .string E.ti, .int .i64 E.st, .int .i64 E.lg, .string E.f, .int .i64 E.e, .slice ra' E.ds.length rc', .int .i64 E.c, .int .i64 E.u, .slice sa' E.sk.length sc', .slice ma' E.mv.length mc'] 27 (0, 0)) from BY.out _ hb5))
        | (go_at_call 10; refine (CV.out _ hb5).mono ?_; rintro r w6 ⟨rfl, hb6⟩; have h6 := below_then hb5 hb6; obtain ⟨x0, x1, x2, x3, x4, x5, x6, x7, x8, x9, x10⟩ := blk11 (show w6.heap[w.heap.size]? = some (.cells #[.string E.id, .string E.ti, .int .i64 E.st, .int .i64 E.lg, .string E.f, .int .i64 E.e, .slice ra E.ds.length rc, .int .i64 E.c, .int .i64 E.u, .slice sa E.sk.length sc, .slice ma E.mv.length mc] 27 (0, 0)) from BX.out _ (B0.out _ h6)))
        | (go_at_call 11; refine (EE.out _ h6).mono ?_; rintro r w7 ⟨rfl, hb7⟩; have h7 := below_then h6 hb7)
        | (go_at_call 12; refine (CE.out _ h7).mono ?_; rintro r w8 ⟨rfl, hb8⟩))
      go_ret
      exact ⟨rfl, below_then BW4.out (below_then h7 hb8)⟩
    case pos =>
      have hk0 : kk = 0 := (evK_0 hkk).2 hw
      rw [hk0] at EE
      have DY : Hid (Calls Tryz.prog 9 #[.agg #[.string E.id, .string E.ti, .int .i64 E.st, .int .i64 E.lg, .string E.f, .int .i64 E.e, .slice ra' E.ds.length rc', .int .i64 E.c, .int .i64 E.u, .slice sa' E.sk.length sc', .slice ma' E.mv.length mc'], .int .i64 fr0, .int .i64 to0] w4 fun r w' => Below w4.heap.size w4 w' ∧ (((eds E fr0 to0).length ≤ 1000 ∧ ∃ v, r = .returned (.tuple #[v, .nilIface]) ∧ Ow w4.heap.size w' v (eds E fr0 to0)) ∨ (1000 < (eds E fr0 to0).length ∧ r = .returned (.tuple #[.slice none 0 0, .iface 181 (.pointer (some (s 6)))])))) := edays_ok E _ _ _ fr0 to0 s w4 (G.out.globK.step BW4.out) L4.d L4.s L4.m (by omega) t60 hw
      have DO : Hid (∀ W, Below w4.heap.size w4 W → Calls Tryz.prog 13 #[.agg #[.string E.id, .string E.ti, .int .i64 E.st, .int .i64 E.lg, .string E.f, .int .i64 E.e, .slice ra E.ds.length rc, .int .i64 E.c, .int .i64 E.u, .slice sa E.sk.length sc, .slice ma E.mv.length mc], .int .i64 fr0, .int .i64 to0] W fun r w' => Below W.heap.size W w' ∧ (((eds E fr0 to0).length ≤ 1000 ∧ ∃ v, r = .returned (.tuple #[v, .bool false]) ∧ Ow W.heap.size w' v (eds E fr0 to0)) ∨ (1000 < (eds E fr0 to0).length ∧ r = .returned (.tuple #[.slice none 0 0, .bool true])))) := fun W h => daysOf_any E _ _ _ fr0 to0 W (GD.out.step (BWx.out W h)) (GS.out.step (BWx.out W h)) (GM.out.step (BWx.out W h)) d20 (by omega) (by omega) hw
      obtain ⟨bd, hbd⟩ := bool_of' (dayP d)
      have ID : Hid (∀ W, Calls Tryz.prog 15 #[.int .i64 d] W fun r w' => r = .returned (.bool bd) ∧ w' = W) := fun W => isDayR_any d bd hbd W
      have IC : Hid (bd = true → ∀ W, Below w4.heap.size w4 W → Calls Tryz.prog 16 #[.agg #[.string E.id, .string E.ti, .int .i64 E.st, .int .i64 E.lg, .string E.f, .int .i64 E.e, .slice ra E.ds.length rc, .int .i64 E.c, .int .i64 E.u, .slice sa E.sk.length sc, .slice ma E.mv.length mc], .int .i64 d] W fun r w' => r = .returned (.bool cb) ∧ Below W.heap.size W w') := fun hq W h => isCovered_any E _ _ _ d W (GD.out.step (BWx.out W h)) (GS.out.step (BWx.out W h)) (GM.out.step (BWx.out W h)) d20 (by omega) (by omega) hw (hbd.1 hq).1 (hbd.1 hq).2 cb hcb
      have CBF : Hid (bd = false → cb = false) := fun hq => by
        cases hc : cb with
        | false => rfl
        | true => have := hbd.2 (hcb.1 hc).1; rw [hq] at this; exact absurd this (by decide)
      have CF : Hid (∀ W, Below w4.heap.size w4 W → Calls Tryz.prog 12 #[.iface 181 (.pointer (some (s 6))), .int .i64 7] W fun r w' => r = .returned (.bool true) ∧ Below W.heap.size W w') := fun W h => coded_err s 6 W (G.out.step (BWx.out W h)) (by decide)
      clear hw hk0 hkk hcb hbd L4 E4 GD GS GM
      generalize eds E fr0 to0 = Y at DY DO
      by_cases hfull : 1000 < Y.length
      · have D1 : Hid (Calls Tryz.prog 9 #[.agg #[.string E.id, .string E.ti, .int .i64 E.st, .int .i64 E.lg, .string E.f, .int .i64 E.e, .slice ra' E.ds.length rc', .int .i64 E.c, .int .i64 E.u, .slice sa' E.sk.length sc', .slice ma' E.mv.length mc'], .int .i64 fr0, .int .i64 to0] w4 fun r w' => r = .returned (.tuple #[.slice none 0 0, .iface 181 (.pointer (some (s 6)))]) ∧ Below w4.heap.size w4 w') := by
          refine Calls.mono DY.out ?_
          rintro r w' ⟨hbw, (⟨q, _⟩ | ⟨_, q⟩)⟩
          · omega
          · exact ⟨q, hbw⟩
        have D2 : Hid (∀ W, Below w4.heap.size w4 W → Calls Tryz.prog 13 #[.agg #[.string E.id, .string E.ti, .int .i64 E.st, .int .i64 E.lg, .string E.f, .int .i64 E.e, .slice ra E.ds.length rc, .int .i64 E.c, .int .i64 E.u, .slice sa E.sk.length sc, .slice ma E.mv.length mc], .int .i64 fr0, .int .i64 to0] W fun r w' => r = .returned (.tuple #[.slice none 0 0, .bool true]) ∧ Below W.heap.size W w') := fun W h => by
          refine (DO.out W h).mono ?_
          rintro r w' ⟨hbw, (⟨q, _⟩ | ⟨_, q⟩)⟩
          · omega
          · exact ⟨q, hbw⟩
        clear DY DO hfull
        cases bd with
        | false =>
          have hcf := CBF.out rfl
          subst hcf
          clear CBF IC
          go_wp2_with (first
            | (go_at_call 9; refine Calls.mono D1.out ?_; rintro r w5 ⟨rfl, hb5⟩; clear y0 y1 y2 y3 y4 y5 y6 y7 y8 y9 y10; obtain ⟨y0, y1, y2, y3, y4, y5, y6, y7, y8, y9, y10⟩ := blk11 (show w5.heap[bx]? = some (.cells #[.string E.id, .string E.ti, .int .i64 E.st, .int .i64 E.lg, .string E.f, .int .i64 E.e, .slice ra' E.ds.length rc', .int .i64 E.c, .int .i64 E.u, .slice sa' E.sk.length sc', .slice ma' E.mv.length mc'] 27 (0, 0)) from BY.out _ hb5))
            | (go_at_call 10; refine (CV.out _ hb5).mono ?_; rintro r w6 ⟨rfl, hb6⟩; have h6 := below_then hb5 hb6; obtain ⟨x0, x1, x2, x3, x4, x5, x6, x7, x8, x9, x10⟩ := blk11 (show w6.heap[w.heap.size]? = some (.cells #[.string E.id, .string E.ti, .int .i64 E.st, .int .i64 E.lg, .string E.f, .int .i64 E.e, .slice ra E.ds.length rc, .int .i64 E.c, .int .i64 E.u, .slice sa E.sk.length sc, .slice ma E.mv.length mc] 27 (0, 0)) from BX.out _ (B0.out _ h6)))
            | (go_at_call 11; refine (EE.out _ h6).mono ?_; rintro r w7 ⟨rfl, hb7⟩; have h7 := below_then h6 hb7; clear x0 x1 x2 x3 x4 x5 x6 x7 x8 x9 x10; obtain ⟨x0, x1, x2, x3, x4, x5, x6, x7, x8, x9, x10⟩ := blk11 (show w7.heap[w.heap.size]? = some (.cells #[.string E.id, .string E.ti, .int .i64 E.st, .int .i64 E.lg, .string E.f, .int .i64 E.e, .slice ra E.ds.length rc, .int .i64 E.c, .int .i64 E.u, .slice sa E.sk.length sc, .slice ma E.mv.length mc] 27 (0, 0)) from BX.out _ (B0.out _ h7)))
            | (go_at_call 13; refine (D2.out _ h7).mono ?_; rintro r w8 ⟨rfl, hb8⟩; have h8 := below_then h7 hb8)
            | (go_at_call 12; refine (CF.out _ h8).mono ?_; rintro r w9 ⟨rfl, hb9⟩; have h9 := below_then h8 hb9)
            | (go_at_call 15; refine (ID.out _).mono ?_; rintro r wz ⟨rfl, rfl⟩))
          go_ret
          exact ⟨rfl, BWx.out _ h9⟩
        | true =>
          have ICd : Hid (_) := IC.out rfl
          clear CBF IC
          cases cb
          all_goals
            go_wp2_with (first
              | (go_at_call 9; refine Calls.mono D1.out ?_; rintro r w5 ⟨rfl, hb5⟩; clear y0 y1 y2 y3 y4 y5 y6 y7 y8 y9 y10; obtain ⟨y0, y1, y2, y3, y4, y5, y6, y7, y8, y9, y10⟩ := blk11 (show w5.heap[bx]? = some (.cells #[.string E.id, .string E.ti, .int .i64 E.st, .int .i64 E.lg, .string E.f, .int .i64 E.e, .slice ra' E.ds.length rc', .int .i64 E.c, .int .i64 E.u, .slice sa' E.sk.length sc', .slice ma' E.mv.length mc'] 27 (0, 0)) from BY.out _ hb5))
              | (go_at_call 10; refine (CV.out _ hb5).mono ?_; rintro r w6 ⟨rfl, hb6⟩; have h6 := below_then hb5 hb6; obtain ⟨x0, x1, x2, x3, x4, x5, x6, x7, x8, x9, x10⟩ := blk11 (show w6.heap[w.heap.size]? = some (.cells #[.string E.id, .string E.ti, .int .i64 E.st, .int .i64 E.lg, .string E.f, .int .i64 E.e, .slice ra E.ds.length rc, .int .i64 E.c, .int .i64 E.u, .slice sa E.sk.length sc, .slice ma E.mv.length mc] 27 (0, 0)) from BX.out _ (B0.out _ h6)))
              | (go_at_call 11; refine (EE.out _ h6).mono ?_; rintro r w7 ⟨rfl, hb7⟩; have h7 := below_then h6 hb7; clear x0 x1 x2 x3 x4 x5 x6 x7 x8 x9 x10; obtain ⟨x0, x1, x2, x3, x4, x5, x6, x7, x8, x9, x10⟩ := blk11 (show w7.heap[w.heap.size]? = some (.cells #[.string E.id, .string E.ti, .int .i64 E.st, .int .i64 E.lg, .string E.f, .int .i64 E.e, .slice ra E.ds.length rc, .int .i64 E.c, .int .i64 E.u, .slice sa E.sk.length sc, .slice ma E.mv.length mc] 27 (0, 0)) from BX.out _ (B0.out _ h7)))
              | (go_at_call 13; refine (D2.out _ h7).mono ?_; rintro r w8 ⟨rfl, hb8⟩; have h8 := below_then h7 hb8)
              | (go_at_call 12; refine (CF.out _ h8).mono ?_; rintro r w9 ⟨rfl, hb9⟩; have h9 := below_then h8 hb9; clear x0 x1 x2 x3 x4 x5 x6 x7 x8 x9 x10; obtain ⟨x0, x1, x2, x3, x4, x5, x6, x7, x8, x9, x10⟩ := blk11 (show w9.heap[w.heap.size]? = some (.cells #[.string E.id, .string E.ti, .int .i64 E.st, .int .i64 E.lg, .string E.f, .int .i64 E.e, .slice ra E.ds.length rc, .int .i64 E.c, .int .i64 E.u, .slice sa E.sk.length sc, .slice ma E.mv.length mc] 27 (0, 0)) from BX.out _ (B0.out _ h9)))
              | (go_at_call 15; refine (ID.out _).mono ?_; rintro r wz ⟨rfl, ez⟩; subst ez)
              | (go_at_call 16; refine (ICd.out _ h9).mono ?_; rintro r wa ⟨rfl, hba⟩; have ha := below_then h9 hba))
            go_ret
            exact ⟨rfl, BWx.out _ ha⟩
      · have D1 : Hid (Calls Tryz.prog 9 #[.agg #[.string E.id, .string E.ti, .int .i64 E.st, .int .i64 E.lg, .string E.f, .int .i64 E.e, .slice ra' E.ds.length rc', .int .i64 E.c, .int .i64 E.u, .slice sa' E.sk.length sc', .slice ma' E.mv.length mc'], .int .i64 fr0, .int .i64 to0] w4 fun r w' => ∃ va vc, r = .returned (.tuple #[.slice va Y.length vc, .nilIface]) ∧ Ow w4.heap.size w' (.slice va Y.length vc) Y ∧ Below w4.heap.size w4 w') := by
          refine Calls.mono DY.out ?_
          rintro r w' ⟨hbw, (⟨_, v, rfl, ho⟩ | ⟨q, _⟩)⟩
          · obtain ⟨va, vc, rfl⟩ := ow_form ho
            exact ⟨va, vc, rfl, ho, hbw⟩
          · omega
        have D2 : Hid (∀ W, Below w4.heap.size w4 W → Calls Tryz.prog 13 #[.agg #[.string E.id, .string E.ti, .int .i64 E.st, .int .i64 E.lg, .string E.f, .int .i64 E.e, .slice ra E.ds.length rc, .int .i64 E.c, .int .i64 E.u, .slice sa E.sk.length sc, .slice ma E.mv.length mc], .int .i64 fr0, .int .i64 to0] W fun r w' => ∃ va vc, r = .returned (.tuple #[.slice va Y.length vc, .bool false]) ∧ Ow W.heap.size w' (.slice va Y.length vc) Y ∧ Below W.heap.size W w') := fun W h => by
          refine (DO.out W h).mono ?_
          rintro r w' ⟨hbw, (⟨_, v, rfl, ho⟩ | ⟨q, _⟩)⟩
          · obtain ⟨va, vc, rfl⟩ := ow_form ho
            exact ⟨va, vc, rfl, ho, hbw⟩
          · omega
        have hY : Y.length ≤ 100000 := by omega
        clear DY DO hfull
        go_upto_region 14 with (first
          | (go_at_call 9; refine Calls.mono D1.out ?_; rintro r w5 ⟨va, vc, rfl, hoa, hb5⟩; clear y0 y1 y2 y3 y4 y5 y6 y7 y8 y9 y10; obtain ⟨y0, y1, y2, y3, y4, y5, y6, y7, y8, y9, y10⟩ := blk11 (show w5.heap[bx]? = some (.cells #[.string E.id, .string E.ti, .int .i64 E.st, .int .i64 E.lg, .string E.f, .int .i64 E.e, .slice ra' E.ds.length rc', .int .i64 E.c, .int .i64 E.u, .slice sa' E.sk.length sc', .slice ma' E.mv.length mc'] 27 (0, 0)) from BY.out _ hb5))
          | (go_at_call 10; refine (CV.out _ hb5).mono ?_; rintro r w6 ⟨rfl, hb6⟩; have h6 := below_then hb5 hb6; obtain ⟨x0, x1, x2, x3, x4, x5, x6, x7, x8, x9, x10⟩ := blk11 (show w6.heap[w.heap.size]? = some (.cells #[.string E.id, .string E.ti, .int .i64 E.st, .int .i64 E.lg, .string E.f, .int .i64 E.e, .slice ra E.ds.length rc, .int .i64 E.c, .int .i64 E.u, .slice sa E.sk.length sc, .slice ma E.mv.length mc] 27 (0, 0)) from BX.out _ (B0.out _ h6)))
          | (go_at_call 11; refine (EE.out _ h6).mono ?_; rintro r w7 ⟨rfl, hb7⟩; have h7 := below_then h6 hb7; clear x0 x1 x2 x3 x4 x5 x6 x7 x8 x9 x10; obtain ⟨x0, x1, x2, x3, x4, x5, x6, x7, x8, x9, x10⟩ := blk11 (show w7.heap[w.heap.size]? = some (.cells #[.string E.id, .string E.ti, .int .i64 E.st, .int .i64 E.lg, .string E.f, .int .i64 E.e, .slice ra E.ds.length rc, .int .i64 E.c, .int .i64 E.u, .slice sa E.sk.length sc, .slice ma E.mv.length mc] 27 (0, 0)) from BX.out _ (B0.out _ h7)))
          | (go_at_call 13; refine (D2.out _ h7).mono ?_; rintro r w8 ⟨va', vc', rfl, hob, hb8⟩; have h8 := below_then h7 hb8))
        have SI : Hid (_) := same_ow (((hoa.step hb6).step hb7).step hb8) hob hY
        clear hoa hob hb5 hb6 hb7 hb8 h6 h7 D1 D2 x0 x1 x2 x3 x4 x5 x6 x7 x8 x9 x10 y0 y1 y2 y3 y4 y5 y6 y7 y8 y9 y10
        cases bd with
        | false =>
          have hcf := CBF.out rfl
          subst hcf
          clear CBF IC
          go_wp2_with (first
            | (go_at_call 14; refine Calls.mono SI.out ?_; rintro r w9 ⟨rfl, hb9⟩; have h9 := below_then h8 hb9)
            | (go_at_call 15; refine (ID.out _).mono ?_; rintro r wz ⟨rfl, rfl⟩))
          go_ret
          exact ⟨rfl, BWx.out _ h9⟩
        | true =>
          have ICd : Hid (_) := IC.out rfl
          clear CBF IC
          cases cb
          all_goals
            go_wp2_with (first
              | (go_at_call 14; refine Calls.mono SI.out ?_; rintro r w9 ⟨rfl, hb9⟩; have h9 := below_then h8 hb9; obtain ⟨x0, x1, x2, x3, x4, x5, x6, x7, x8, x9, x10⟩ := blk11 (show w9.heap[w.heap.size]? = some (.cells #[.string E.id, .string E.ti, .int .i64 E.st, .int .i64 E.lg, .string E.f, .int .i64 E.e, .slice ra E.ds.length rc, .int .i64 E.c, .int .i64 E.u, .slice sa E.sk.length sc, .slice ma E.mv.length mc] 27 (0, 0)) from BX.out _ (B0.out _ h9)))
              | (go_at_call 15; refine (ID.out _).mono ?_; rintro r wz ⟨rfl, ez⟩; subst ez)
              | (go_at_call 16; refine (ICd.out _ h9).mono ?_; rintro r wa ⟨rfl, hba⟩; have ha := below_then h9 hba))
            go_ret
            exact ⟨rfl, BWx.out _ ha⟩
end Go.Proofs.YtijdnmkkdofbeaaGreatDoor
