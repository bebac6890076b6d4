/- The law EventLong, walked: what one of Long days covers is what one of a day covers, and the days behind each of these. -/
import Derived.Test.YtijdnmkkdofbeaaGreatDoorEvG
import Derived.Test.YtijdnmkkdofbeaaGreatDoorEvL2
import Derived.Test.YtijdnmkkdofbeaaGreatDoorRefE
namespace Go.Proofs.YtijdnmkkdofbeaaGreatDoor
open Go Go.RowKit Cal
attribute [local go_sem] Oper.semAt_some

/-- an event of one day -/
def one1 (E : EV) : EV := { E with lg := 1 }
theorem one1_well {E : EV} (h : EW E) : EW (one1 E) := ⟨h.id, h.ti, ⟨h.bd.1, by show (1 : Int) ≤ 1; omega, by show (1 : Int) ≤ 60; omega⟩, h.rl, h.ls⟩
theorem covers_one {E : EV} (h : EW E) {x : Int} (h0 : 0 ≤ x) (h1 : x ≤ 73048) : covers (one1 E) x ↔ eds E x x ≠ [] := by
  unfold covers
  have e : x - (one1 E).lg + 1 = x := by show x - 1 + 1 = x; omega
  rw [e]
  exact ⟨fun q => q.2.2, fun q => ⟨⟨h0, h1⟩, one1_well h, q⟩⟩
theorem eds_ne {E : EV} {a b : Int} : eds E a b ≠ [] ↔ ∃ x, 0 ≤ x ∧ x ≤ 73048 ∧ a ≤ x ∧ x ≤ b ∧ ∃ y ∈ dys E, y ∉ E.sk ∧ mvd E.mv y = x := by
  rw [ne_eq, List.eq_nil_iff_forall_not_mem]
  constructor
  · intro h
    refine Classical.byContradiction (fun q => h (fun x hx => q ⟨x, mem_evs.1 hx⟩))
  · rintro ⟨x, hx⟩ h
    exact h x (mem_evs.2 hx)
theorem covers_long {E : EV} (h : EW E) {d : Int} (h0 : 0 ≤ d) (h1 : d ≤ 73048) : covers E d ↔ ∃ k : Nat, (k : Int) < E.lg ∧ (k : Int) ≤ d ∧ covers (one1 E) (d - k) := by
  have e1 : covers E d ↔ eds E (d - E.lg + 1) d ≠ [] := ⟨fun q => q.2.2, fun q => ⟨⟨h0, h1⟩, h, q⟩⟩
  rw [e1, eds_ne]
  constructor
  · rintro ⟨x, p1, p2, p3, p4, p5⟩
    refine ⟨(d - x).toNat, by omega, by omega, ?_⟩
    have e2 : d - ((d - x).toNat : Int) = x := by omega
    rw [e2, covers_one h p1 p2, eds_ne]
    exact ⟨x, p1, p2, Int.le_refl _, Int.le_refl _, p5⟩
  · rintro ⟨k, p1, p2, p3⟩
    rw [covers_one h (by omega) (by omega), eds_ne] at p3
    obtain ⟨x, q1, q2, q3, q4, q5⟩ := p3
    exact ⟨x, q1, q2, by omega, by omega, q5⟩
theorem bool_of (P : Prop) : ∃ b : Bool, b = true ↔ P := by
  by_cases h : P
  · exact ⟨true, fun _ => h, fun _ => rfl⟩
  · exact ⟨false, fun q => absurd q (by decide), fun q => absurd q h⟩

set_option maxHeartbeats 4000000 in
set_option maxRecDepth 100000 in
theorem long_all (E : EV) (sl skv mvv : Value) (d : Int) (s : Nat → Addr) (w : World) (g : GlobK s w) (ht : Tab w) (hd : Got w sl E.ds) (hs : Got w skv E.sk) (hm : GotM w mvv E.mv) :
    Calls Tryz.prog 5 #[ev E sl skv mvv, .int .i64 d] w fun r w' => r = .returned (.bool true) ∧ Below w.heap.size w w' := by
  have hA := below_alloc w (.cells #[.string E.id, .string E.ti, .int .i64 E.st, .int .i64 E.lg, .string E.f, .int .i64 E.e, sl, .int .i64 E.c, .int .i64 E.u, skv, mvv] 27)
  have hB := EB.new w E sl skv mvv
  have EVD : Hid (_) := evented_any s _ (g.step hA) (ht.step hA)
  have G : Hid (GlobK s w) := g
  have GD : Hid (Got w sl E.ds) := hd
  have GS : Hid (Got w skv E.sk) := hs
  have GM : Hid (GotM w mvv E.mv) := hm
  obtain ⟨ra, rc, rfl⟩ := got_form hd
  obtain ⟨sa, sc, rfl⟩ := got_form hs
  obtain ⟨ma, mc, rfl⟩ := gotM_form hm
  have LE : Hid (∀ W, Calls Tryz.prog 7 #[ev E (.slice ra E.ds.length rc) (.slice sa E.sk.length sc) (.slice ma E.mv.length mc)] W fun r w' => r = .returned (.int .i64 (lngE E)) ∧ Below W.heap.size W w') := fun W => longEvent_any E ra rc sa sc ma mc W
  have L0 : Hid (lngE E = 0 → _) := fun h => lngE_0 h
  obtain ⟨l0, l1⟩ := lngE_01 E
  generalize lngE E = k at LE L0 l0 l1
  have BX : Hid (∀ W, Below (w.alloc (.cells #[.string E.id, .string E.ti, .int .i64 E.st, .int .i64 E.lg, .string E.f, .int .i64 E.e, .slice ra E.ds.length rc, .int .i64 E.c, .int .i64 E.u, .slice sa E.sk.length sc, .slice ma E.mv.length mc] 27)).heap.size (w.alloc (.cells #[.string E.id, .string E.ti, .int .i64 E.st, .int .i64 E.lg, .string E.f, .int .i64 E.e, .slice ra E.ds.length rc, .int .i64 E.c, .int .i64 E.u, .slice sa E.sk.length sc, .slice ma E.mv.length mc] 27)) W → EB W w.heap.size E (.slice ra E.ds.length rc) (.slice sa E.sk.length sc) (.slice ma E.mv.length mc)) := fun W h => hB.step h
  have HA : Hid (_) := hA
  clear hd hs hm g ht hB hA
  generalize hw0 : w.alloc (.cells #[.string E.id, .string E.ti, .int .i64 E.st, .int .i64 E.lg, .string E.f, .int .i64 E.e, .slice ra E.ds.length rc, .int .i64 E.c, .int .i64 E.u, .slice sa E.sk.length sc, .slice ma E.mv.length mc] 27) = w0 at BX HA EVD
  have hcase : 0 < k ∨ (k = 0 ∧ (d < 0 ∨ 73048 < d)) ∨ (k = 0 ∧ 0 ≤ d ∧ d ≤ 73048) := by omega
  unfold ev at *
  rcases hcase with hk | ⟨hk, hdd⟩ | ⟨hk, hd0, hd1⟩
  case inl =>
    go_enter Tryz.func5, Tryz.ntmps5
    go_wp2_with (first
      | (go_at_call 6; refine Calls.mono EVD.out ?_; rintro r w1 ⟨rfl, hb1⟩; obtain ⟨x0, x1, x2, x3, x4, x5, x6, x7, x8, x9, x10⟩ := blk11 (show w1.heap[w.heap.size]? = _ from BX.out _ hb1))
      | (go_at_call 7; refine (LE.out _).mono ?_; rintro r w2 ⟨rfl, hb2⟩))
    go_ret
    exact ⟨rfl, below_then HA.out (below_then hb1 hb2)⟩
  case inr.inl =>
    rw [hk] at LE
    clear hk l0 l1 L0
    rcases hdd with hdd | hdd
    all_goals
      go_enter Tryz.func5, Tryz.ntmps5
      go_wp2_with (first
        | (go_at_call 6; refine Calls.mono EVD.out ?_; rintro r w1 ⟨rfl, hb1⟩; obtain ⟨x0, x1, x2, x3, x4, x5, x6, x7, x8, x9, x10⟩ := blk11 (show w1.heap[w.heap.size]? = _ from BX.out _ hb1))
        | (go_at_call 7; refine (LE.out _).mono ?_; rintro r w2 ⟨rfl, hb2⟩))
      go_ret
      exact ⟨rfl, below_then HA.out (below_then hb1 hb2)⟩
  case inr.inr =>
    rw [hk] at LE
    obtain ⟨f20, d20, i30, t60, s25, m25⟩ := L0.out hk
    clear hk l0 l1 L0
    go_enter Tryz.func5, Tryz.ntmps5
    go_upto_region 4 with (first
      | (go_at_call 6; refine Calls.mono EVD.out ?_; rintro r w1 ⟨rfl, hb1⟩; obtain ⟨x0, x1, x2, x3, x4, x5, x6, x7, x8, x9, x10⟩ := blk11 (show w1.heap[w.heap.size]? = _ from BX.out _ hb1))
      | (go_at_call 7; refine (LE.out _).mono ?_; rintro r w2 ⟨rfl, hb2⟩))
    have BW2 : Hid (Below w.heap.size w w2) := below_then HA.out (below_then hb1 hb2)
    clear x0 x1 x2 x3 x4 x5 x6 x7 x8 x9 x10
    obtain ⟨x0, x1, x2, x3, x4, x5, x6, x7, x8, x9, x10⟩ := blk11 (show w2.heap[w.heap.size]? = _ from BX.out _ (below_then hb1 hb2))
    have O1 : Hid (_) := ownEvent_any E _ _ _ w2 (GD.out.step BW2.out) (GS.out.step BW2.out) (GM.out.step BW2.out) d20 (by omega) (by omega)
    unfold ev at O1
    clear hb1 hb2 EVD LE BX
    go_upto_region 5 with (go_at_call 8; refine Calls.mono O1.out ?_; rintro r w3 ⟨sl', sk', mv', rfl, hl3, hb3⟩; obtain ⟨ra', rc', rfl⟩ := got_form hl3.gd; obtain ⟨sa', sc', rfl⟩ := got_form hl3.gs; obtain ⟨ma', mc', rfl⟩ := gotM_form hl3.gm)
    have E4 : EB (w3.alloc (.cells #[.string E.id, .string E.ti, .int .i64 E.st, .int .i64 E.lg, .string E.f, .int .i64 E.e, .slice ra' E.ds.length rc', .int .i64 E.c, .int .i64 E.u, .slice sa' E.sk.length sc', .slice ma' E.mv.length mc'] 27)) w3.heap.size E (.slice ra' E.ds.length rc') (.slice sa' E.sk.length sc') (.slice ma' E.mv.length mc') := EB.new w3 E _ _ _
    have L4 : Lists (w3.alloc (.cells #[.string E.id, .string E.ti, .int .i64 E.st, .int .i64 E.lg, .string E.f, .int .i64 E.e, .slice ra' E.ds.length rc', .int .i64 E.c, .int .i64 E.u, .slice sa' E.sk.length sc', .slice ma' E.mv.length mc'] 27)) E (.slice ra' E.ds.length rc') (.slice sa' E.sk.length sc') (.slice ma' E.mv.length mc') := hl3.step (below_alloc _ _)
    have BW4 : Hid (Below w.heap.size w (w3.alloc (.cells #[.string E.id, .string E.ti, .int .i64 E.st, .int .i64 E.lg, .string E.f, .int .i64 E.e, .slice ra' E.ds.length rc', .int .i64 E.c, .int .i64 E.u, .slice sa' E.sk.length sc', .slice ma' E.mv.length mc'] 27))) := below_then BW2.out (below_then hb3 (below_alloc _ _))
    have G4 : Hid (GlobK s (w3.alloc (.cells #[.string E.id, .string E.ti, .int .i64 E.st, .int .i64 E.lg, .string E.f, .int .i64 E.e, .slice ra' E.ds.length rc', .int .i64 E.c, .int .i64 E.u, .slice sa' E.sk.length sc', .slice ma' E.mv.length mc'] 27))) := G.out.step BW4.out
    clear hl3 hb3 BW2 O1 G GD GS GM hw0 HA x0 x1 x2 x3 x4 x5 x6 x7 x8 x9 x10
    generalize w3.alloc (.cells #[.string E.id, .string E.ti, .int .i64 E.st, .int .i64 E.lg, .string E.f, .int .i64 E.e, .slice ra' E.ds.length rc', .int .i64 E.c, .int .i64 E.u, .slice sa' E.sk.length sc', .slice ma' E.mv.length mc'] 27) = w4 at E4 L4 BW4 G4 ⊢
    generalize w3.heap.size = bx at E4 ⊢
    obtain ⟨kk, hkk⟩ := evK_ex E
    have CK : Hid (Calls Tryz.prog 17 #[.agg #[.string E.id, .string E.ti, .int .i64 E.st, .int .i64 E.lg, .string E.f, .int .i64 E.e, .slice ra' E.ds.length rc', .int .i64 E.c, .int .i64 E.u, .slice sa' E.sk.length sc', .slice ma' E.mv.length mc']] w4 fun r w' => r = .returned (errV s kk) ∧ Below w4.heap.size w4 w') := evCheck_k E _ _ _ kk s w4 G4.out L4.d L4.s L4.m (by omega) t60 hkk
    have EB4 : Hid (EB w4 bx E (.slice ra' E.ds.length rc') (.slice sa' E.sk.length sc') (.slice ma' E.mv.length mc')) := E4
    have LI4 : Hid (Lists w4 E (.slice ra' E.ds.length rc') (.slice sa' E.sk.length sc') (.slice ma' E.mv.length mc')) := L4
    have BX : Hid (∀ W, Below w4.heap.size w4 W → EB W bx E (.slice ra' E.ds.length rc') (.slice sa' E.sk.length sc') (.slice ma' E.mv.length mc')) := fun W h => E4.step h
    obtain ⟨x0, x1, x2, x3, x4, x5, x6, x7, x8, x9, x10⟩ := blk11 (show w4.heap[bx]? = _ from E4)
    have CV : Hid (∀ (b : Bool), (b = true ↔ covers E d) → ∀ W, Below w4.heap.size w4 W → Calls Tryz.prog 10 #[.agg #[.string E.id, .string E.ti, .int .i64 E.st, .int .i64 E.lg, .string E.f, .int .i64 E.e, .slice ra' E.ds.length rc', .int .i64 E.c, .int .i64 E.u, .slice sa' E.sk.length sc', .slice ma' E.mv.length mc'], .int .i64 d] W fun r w' => r = .returned (.bool b) ∧ Below W.heap.size W w') := fun b hb W h => covers_any E _ _ _ d s W (G4.out.step h) (L4.d.step h) (L4.s.step h) (L4.m.step h) (by omega) t60 b hb
    clear E4 L4
    by_cases hw : EW E
    case neg =>
      have hk0 : kk ≠ 0 := fun q => hw ((evK_0 hkk).1 q)
      obtain ⟨p, hp⟩ := errV_ne (s := s) hk0
      rw [hp] at CK
      have CV0 : Hid (_) := CV.out false ⟨fun q => absurd q (by decide), fun q => absurd q.2.1 hw⟩
      clear CV hw hk0 hp hkk LI4
      go_wp2_with (first
        | (go_at_call 17; refine Calls.mono CK.out ?_; rintro r w5 ⟨rfl, hb5⟩; clear x0 x1 x2 x3 x4 x5 x6 x7 x8 x9 x10; obtain ⟨x0, x1, x2, x3, x4, x5, x6, x7, x8, x9, x10⟩ := blk11 (show w5.heap[bx]? = _ from BX.out _ hb5))
        | (go_at_call 10; refine (CV0.out _ hb5).mono ?_; rintro r w6 ⟨rfl, hb6⟩))
      go_ret
      exact ⟨rfl, below_then BW4.out (below_then hb5 hb6)⟩
    case pos =>
      have hk0 : kk = 0 := (evK_0 hkk).2 hw
      rw [hk0, errV_0] at CK
      have HW : Hid (EW E) := hw
      obtain ⟨lg1, lg2⟩ : 1 ≤ E.lg ∧ E.lg ≤ 60 := hw.bd.2
      have O2 : Hid (∀ W, Below w4.heap.size w4 W → _) := fun W h => ownEvent_any E _ _ _ W (LI4.out.gd.step h) (LI4.out.gs.step h) (LI4.out.gm.step h) d20 (by omega) (by omega)
      unfold ev at O2
      clear hk0 hkk hw
      go_upto_region 9 with (first
        | (go_at_call 17; refine Calls.mono CK.out ?_; rintro r w5 ⟨rfl, hb5⟩; clear x0 x1 x2 x3 x4 x5 x6 x7 x8 x9 x10; obtain ⟨x0, x1, x2, x3, x4, x5, x6, x7, x8, x9, x10⟩ := blk11 (show w5.heap[bx]? = _ from BX.out _ hb5))
        | (go_at_call 8; refine (O2.out _ hb5).mono ?_; rintro r w6 ⟨sl2, sk2, mv2, rfl, hl6, hb6⟩; obtain ⟨rb, rd', rfl⟩ := got_form hl6.gd; obtain ⟨sb, sd, rfl⟩ := got_form hl6.gs; obtain ⟨mb, md, rfl⟩ := gotM_form hl6.gm))
      have E7 : EB (w6.alloc (.cells #[.string E.id, .string E.ti, .int .i64 E.st, .int .i64 1, .string E.f, .int .i64 E.e, .slice rb E.ds.length rd', .int .i64 E.c, .int .i64 E.u, .slice sb E.sk.length sd, .slice mb E.mv.length md] 27)) w6.heap.size (one1 E) (.slice rb E.ds.length rd') (.slice sb E.sk.length sd) (.slice mb E.mv.length md) := EB.new w6 (one1 E) _ _ _
      have L7 : Lists (w6.alloc (.cells #[.string E.id, .string E.ti, .int .i64 E.st, .int .i64 1, .string E.f, .int .i64 E.e, .slice rb E.ds.length rd', .int .i64 E.c, .int .i64 E.u, .slice sb E.sk.length sd, .slice mb E.mv.length md] 27)) E (.slice rb E.ds.length rd') (.slice sb E.sk.length sd) (.slice mb E.mv.length md) := hl6.step (below_alloc _ _)
      have B47 : Hid (Below w4.heap.size w4 (w6.alloc (.cells #[.string E.id, .string E.ti, .int .i64 E.st, .int .i64 1, .string E.f, .int .i64 E.e, .slice rb E.ds.length rd', .int .i64 E.c, .int .i64 E.u, .slice sb E.sk.length sd, .slice mb E.mv.length md] 27))) := below_then hb5 (below_then hb6 (below_alloc _ _))
      clear hl6 hb5 hb6 O2 CK x0 x1 x2 x3 x4 x5 x6 x7 x8 x9 x10
      generalize w6.alloc (.cells #[.string E.id, .string E.ti, .int .i64 E.st, .int .i64 1, .string E.f, .int .i64 E.e, .slice rb E.ds.length rd', .int .i64 E.c, .int .i64 E.u, .slice sb E.sk.length sd, .slice mb E.mv.length md] 27) = w7 at E7 L7 B47 ⊢
      generalize w6.heap.size = by' at E7 ⊢
      have G7 : Hid (GlobK s w7) := G4.out.step B47.out
      have BY : Hid (∀ W, Below w7.heap.size w7 W → EB W by' (one1 E) (.slice rb E.ds.length rd') (.slice sb E.sk.length sd) (.slice mb E.mv.length md)) := fun W h => E7.step h
      have BX7 : Hid (∀ W, Below w7.heap.size w7 W → EB W bx E (.slice ra' E.ds.length rc') (.slice sa' E.sk.length sc') (.slice ma' E.mv.length mc')) := fun W h => BX.out W (below_then B47.out h)
      have C1 : Hid (∀ (x : Int) (b : Bool), (b = true ↔ covers (one1 E) x) → ∀ W, Below w7.heap.size w7 W → Calls Tryz.prog 10 #[.agg #[.string E.id, .string E.ti, .int .i64 E.st, .int .i64 1, .string E.f, .int .i64 E.e, .slice rb E.ds.length rd', .int .i64 E.c, .int .i64 E.u, .slice sb E.sk.length sd, .slice mb E.mv.length md], .int .i64 x] W fun r w' => r = .returned (.bool b) ∧ Below W.heap.size W w') := fun x b hb W h => covers_any (one1 E) _ _ _ x s W (G7.out.step h) (L7.d.step h) (L7.s.step h) (L7.m.step h) (show E.id.size ≤ 60 by omega) t60 b hb
      have DY : Hid (∀ W, Below w7.heap.size w7 W → Calls Tryz.prog 9 #[.agg #[.string E.id, .string E.ti, .int .i64 E.st, .int .i64 1, .string E.f, .int .i64 E.e, .slice rb E.ds.length rd', .int .i64 E.c, .int .i64 E.u, .slice sb E.sk.length sd, .slice mb E.mv.length md], .int .i64 d, .int .i64 d] W fun r w' => Below W.heap.size W w' ∧
          (((eds E d d).length ≤ 1000 ∧ ∃ v, r = .returned (.tuple #[v, .nilIface]) ∧ Ow W.heap.size w' v (eds E d d)) ∨ (1000 < (eds E d d).length ∧ r = .returned (.tuple #[.slice none 0 0, .iface 181 (.pointer (some (s 6)))])))) := fun W h => edays_ok (one1 E) _ _ _ d d s W (G7.out.step h) (L7.d.step h) (L7.s.step h) (L7.m.step h) (show E.id.size ≤ 60 by omega) t60 (one1_well HW.out)
      have CVO : Hid (∀ (b : Bool), (b = true ↔ covers E d) → ∀ W, Below w7.heap.size w7 W → Calls Tryz.prog 10 #[.agg #[.string E.id, .string E.ti, .int .i64 E.st, .int .i64 E.lg, .string E.f, .int .i64 E.e, .slice ra' E.ds.length rc', .int .i64 E.c, .int .i64 E.u, .slice sa' E.sk.length sc', .slice ma' E.mv.length mc'], .int .i64 d] W fun r w' => r = .returned (.bool b) ∧ Below W.heap.size W w') := fun b hb W h => CV.out b hb W (below_then B47.out h)
      have ID : Hid (∀ W, Calls Tryz.prog 15 #[.int .i64 d] W fun r w' => r = .returned (.bool true) ∧ w' = W) := fun W => isDayR_yes d W hd0 hd1
      clear E7 L7 CV BX LI4 EB4 G4
      go_wp2
      go_loopw [8, 9, 10] (fun wv kv _ wr => ∃ (m : Nat) (t : Bool), kv = .int .i64 m ∧ wv = .bool t ∧ (m : Int) ≤ E.lg ∧ (m : Int) ≤ d + 1 ∧ Hid (t = true ↔ ∃ k : Nat, k < m ∧ covers (one1 E) (d - k)) ∧ Hid (Below w7.heap.size w7 wr)) (fun _ kv _ _ => (61 - intOf kv).toNat)
      case atStart => exact ⟨0, false, rfl, rfl, by omega, by omega, ⟨fun q => absurd q (by decide), fun ⟨k, q, _⟩ => absurd q (Nat.not_lt_zero _)⟩, Below.refl _ _⟩
      case round =>
        obtain ⟨m, t, rfl, rfl, hm1, hm2, HT, hB⟩ := hrel
        obtain ⟨y0, y1, y2, y3, y4, y5, y6, y7, y8, y9, y10⟩ := blk11 (show wr.heap[bx]? = _ from BX7.out _ hB.out)
        obtain ⟨z0, z1, z2, z3, z4, z5, z6, z7, z8, z9, z10⟩ := blk11 (show wr.heap[by']? = some (.cells #[.string E.id, .string E.ti, .int .i64 E.st, .int .i64 1, .string E.f, .int .i64 E.e, .slice rb E.ds.length rd', .int .i64 E.c, .int .i64 E.u, .slice sb E.sk.length sd, .slice mb E.mv.length md] 27 (0, 0)) from BY.out _ hB.out)
        by_cases hlt : (m : Int) < E.lg ∧ (m : Int) ≤ d
        · obtain ⟨b, hb⟩ := bool_of (covers (one1 E) (d - m))
          have CC : Hid (_) := C1.out (d - m) b hb wr hB.out
          have HN : Hid ((t || b) = true ↔ ∃ k : Nat, k < m + 1 ∧ covers (one1 E) (d - k)) := by
            show _ ↔ _
            rw [Bool.or_eq_true, HT.out, hb]
            constructor
            · rintro (⟨k, q1, q2⟩ | q)
              · exact ⟨k, by omega, q2⟩
              · exact ⟨m, by omega, q⟩
            · rintro ⟨k, q1, q2⟩
              rcases Nat.lt_or_ge k m with q | q
              · exact .inl ⟨k, q, q2⟩
              · have : k = m := by omega
                subst this; exact .inr q2
          obtain ⟨hlt1, hlt2⟩ := hlt
          clear HT hb C1 DY CVO
          cases t
          all_goals
            go_wp2_with (go_at_call 10; refine Calls.mono CC.out ?_; rintro r w8 ⟨rfl, hb8⟩)
            go_roundw
            case rel => exact ⟨m + 1, _, by go_num, rfl, by omega, by omega, HN.out, below_then hB.out hb8⟩
            case measure => simp [intOf]; omega
        · have HF : Hid (t = true ↔ covers E d) := by
            show _ ↔ _
            rw [HT.out, covers_long HW.out hd0 hd1]
            constructor
            · rintro ⟨k, q1, q2⟩; exact ⟨k, by omega, by omega, q2⟩
            · rintro ⟨k, q1, q2, q3⟩; exact ⟨k, by omega, q3⟩
          obtain ⟨b2, hb2⟩ := bool_of (covers (one1 E) d)
          have HL : Hid (((eds E d d).length : Int) ≤ 1 ∧ (b2 = decide (((eds E d d).length : Int) = 1))) := by
            have h1 : ((eds E d d).length : Int) ≤ 1 := by have := eds_len E d d; omega
            refine ⟨h1, ?_⟩
            rw [Bool.eq_iff_iff, hb2, covers_one HW.out hd0 hd1, decide_eq_true_iff, ← List.length_pos_iff]
            omega
          have CC2 : Hid (_) := C1.out d b2 hb2
          have CC3 : Hid (_) := CVO.out t HF.out
          have DY2 : Hid (∀ W, Below w7.heap.size w7 W → Calls Tryz.prog 9 #[.agg #[.string E.id, .string E.ti, .int .i64 E.st, .int .i64 1, .string E.f, .int .i64 E.e, .slice rb E.ds.length rd', .int .i64 E.c, .int .i64 E.u, .slice sb E.sk.length sd, .slice mb E.mv.length md], .int .i64 d, .int .i64 d] W fun r w' => ∃ va vc, r = .returned (.tuple #[.slice va (eds E d d).length vc, .nilIface]) ∧ Below W.heap.size W w') := fun W h => by
            refine (DY.out W h).mono ?_
            rintro r w' ⟨hbw, (⟨_, v, rfl, ho⟩ | ⟨q, _⟩)⟩
            · obtain ⟨va, vc, rfl⟩ := ow_form ho
              exact ⟨va, vc, rfl, hbw⟩
            · have := HL.out.1; omega
          have hcase : ((m : Int) < E.lg ∧ d < (m : Int)) ∨ (E.lg ≤ (m : Int)) := by omega
          generalize (eds E d d).length = n1 at DY2 HL
          obtain ⟨n1le, hb2e⟩ := HL.out
          clear HT hb2 C1 DY CVO hlt HF HL
          have hn1 : n1 = 0 ∨ n1 = 1 := by omega
          rcases hcase with ⟨c1, c2⟩ | c1
          all_goals
            rcases hn1 with rfl | rfl
            all_goals
              have hb2' : b2 = _ := hb2e
              simp at hb2'
              subst hb2'
              clear hb2e n1le
              cases t
              all_goals
                go_wp2_with (first
                  | (go_at_call 9; refine (DY2.out _ hB.out).mono ?_; rintro r w8 ⟨va, vc, rfl, hb8⟩; have h8 := below_then hB.out hb8; obtain ⟨u0, u1, u2, u3, u4, u5, u6, u7, u8, u9, u10⟩ := blk11 (show w8.heap[by']? = some (.cells #[.string E.id, .string E.ti, .int .i64 E.st, .int .i64 1, .string E.f, .int .i64 E.e, .slice rb E.ds.length rd', .int .i64 E.c, .int .i64 E.u, .slice sb E.sk.length sd, .slice mb E.mv.length md] 27 (0, 0)) from BY.out _ h8))
                  | (go_at_call 15; refine (ID.out _).mono ?_; rintro r wz ⟨rfl, rfl⟩)
                  | (go_at_call 10; refine (CC3.out _ h9).mono ?_; rintro r wa ⟨rfl, hba⟩)
                  | (go_at_call 10; refine (CC2.out _ h8).mono ?_; rintro r w9 ⟨rfl, hb9⟩; have h9 := below_then h8 hb9; obtain ⟨o0, o1, o2, o3, o4, o5, o6, o7, o8, o9, o10⟩ := blk11 (show w9.heap[bx]? = _ from BX7.out _ h9)))
                go_ret
                exact ⟨rfl, below_then BW4.out (below_then B47.out (below_then h9 hba))⟩
end Go.Proofs.YtijdnmkkdofbeaaGreatDoor
