/- The document's own FieldOf and EventText, of lists at any address. -/
import Derived.Test.YtnpecjccajebiaaGreatDoorRfTW
namespace Go.Proofs.YtnpecjccajebiaaGreatDoor
open Go Go.RowKit Go.Sort Cal
attribute [local go_sem] Oper.semAt_some

theorem fo_title (E : EV) (ra : Option Addr) (rn rc : Nat) (sa : Option Addr) (sn sc : Nat) (ma : Option Addr) (mn mc : Nat) (w : World) :
    Calls Tryz.prog 130 #[ev E (.slice ra rn rc) (.slice sa sn sc) (.slice ma mn mc), .string (fldB 0)] w fun r w' => r = .returned (.string E.ti) ∧ Below w.heap.size w w' := by
  obtain ⟨idn, ti, st, lg, f, e, ds, c, u, sk, mv⟩ := E
  unfold ev fldB
  dsimp only
  go_enter Tryz.func130, Tryz.ntmps130
  go_wp2
  go_ret
  exact ⟨rfl, below_alloc _ _⟩
theorem fo_start (E : EV) (ra : Option Addr) (rn rc : Nat) (sa : Option Addr) (sn sc : Nat) (ma : Option Addr) (mn mc : Nat) (b : ByteArray) (w : World)
    (h : ∀ W, Below w.heap.size w W → Calls Tryz.prog 179 #[.int .i64 E.st] W fun r w' => r = .returned (.string b) ∧ Below W.heap.size W w') :
    Calls Tryz.prog 130 #[ev E (.slice ra rn rc) (.slice sa sn sc) (.slice ma mn mc), .string (fldB 1)] w fun r w' => r = .returned (.string b) ∧ Below w.heap.size w w' := by
  obtain ⟨idn, ti, st, lg, f, e, ds, c, u, sk, mv⟩ := E
  unfold ev fldB
  dsimp only at h ⊢
  have H : Hid (_) := h _ (below_alloc w (.cells #[.string idn, .string ti, .int .i64 st, .int .i64 lg, .string f, .int .i64 e, .slice ra rn rc, .int .i64 c, .int .i64 u, .slice sa sn sc, .slice ma mn mc] 44))
  clear h
  go_enter Tryz.func130, Tryz.ntmps130
  go_wp2_with (go_at_call 179; refine Calls.mono H.out ?_; rintro r w1 ⟨rfl, hb1⟩)
  go_ret
  exact ⟨rfl, below_then (below_alloc _ _) hb1⟩
theorem fo_long (E : EV) (ra : Option Addr) (rn rc : Nat) (sa : Option Addr) (sn sc : Nat) (ma : Option Addr) (mn mc : Nat) (b : ByteArray) (w : World)
    (h : ∀ W, Below w.heap.size w W → Calls Tryz.prog 180 #[.int .i64 E.lg] W fun r w' => r = .returned (.string b) ∧ Below W.heap.size W w') :
    Calls Tryz.prog 130 #[ev E (.slice ra rn rc) (.slice sa sn sc) (.slice ma mn mc), .string (fldB 2)] w fun r w' => r = .returned (.string b) ∧ Below w.heap.size w w' := by
  obtain ⟨idn, ti, st, lg, f, e, ds, c, u, sk, mv⟩ := E
  unfold ev fldB
  dsimp only at h ⊢
  have H : Hid (_) := h _ (below_alloc w (.cells #[.string idn, .string ti, .int .i64 st, .int .i64 lg, .string f, .int .i64 e, .slice ra rn rc, .int .i64 c, .int .i64 u, .slice sa sn sc, .slice ma mn mc] 44))
  clear h
  go_enter Tryz.func130, Tryz.ntmps130
  go_wp2_with (go_at_call 180; refine Calls.mono H.out ?_; rintro r w1 ⟨rfl, hb1⟩)
  go_ret
  exact ⟨rfl, below_then (below_alloc _ _) hb1⟩
theorem fo_rule (E : EV) (ra : Option Addr) (rn rc : Nat) (sa : Option Addr) (sn sc : Nat) (ma : Option Addr) (mn mc : Nat) (b : ByteArray) (w : World)
    (h0 : ∀ W, Below w.heap.size w W → Calls Tryz.prog 83 #[.agg #[.string E.f, .int .i64 E.e, .slice ra rn rc, .int .i64 E.c, .int .i64 E.u]] W fun r w' => r = .returned (.int .i64 0) ∧ Below W.heap.size W w')
    (h : ∀ W, Below w.heap.size w W → Calls Tryz.prog 181 #[.agg #[.string E.f, .int .i64 E.e, .slice ra rn rc, .int .i64 E.c, .int .i64 E.u]] W fun r w' => r = .returned (.string b) ∧ Below W.heap.size W w') :
    Calls Tryz.prog 130 #[ev E (.slice ra rn rc) (.slice sa sn sc) (.slice ma mn mc), .string (fldB 3)] w fun r w' => r = .returned (.string b) ∧ Below w.heap.size w w' := by
  obtain ⟨idn, ti, st, lg, f, e, ds, c, u, sk, mv⟩ := E
  unfold ev fldB
  dsimp only at h h0 ⊢
  have hA := below_alloc w (.cells #[.string idn, .string ti, .int .i64 st, .int .i64 lg, .string f, .int .i64 e, .slice ra rn rc, .int .i64 c, .int .i64 u, .slice sa sn sc, .slice ma mn mc] 44)
  have kE : (w.alloc (.cells #[.string idn, .string ti, .int .i64 st, .int .i64 lg, .string f, .int .i64 e, .slice ra rn rc, .int .i64 c, .int .i64 u, .slice sa sn sc, .slice ma mn mc] 44)).heap[w.heap.size]? = some (.cells #[.string idn, .string ti, .int .i64 st, .int .i64 lg, .string f, .int .i64 e, .slice ra rn rc, .int .i64 c, .int .i64 u, .slice sa sn sc, .slice ma mn mc] 44 (0, 0)) := block_at _ rfl
  have H0 : Hid (_) := h0 _ hA
  have H1 : Hid (∀ W, Below w.heap.size w W → _) := h
  have HA : Hid (_) := hA
  clear h h0 hA
  generalize hw0 : w.alloc (.cells #[.string idn, .string ti, .int .i64 st, .int .i64 lg, .string f, .int .i64 e, .slice ra rn rc, .int .i64 c, .int .i64 u, .slice sa sn sc, .slice ma mn mc] 44) = w0 at H0 HA kE
  obtain ⟨x0, x1, x2, x3, x4, x5, x6, x7, x8, x9, x10⟩ := blk11 kE
  have BX : Hid (∀ W, Below w0.heap.size w0 W → _) := fun W h => blk11 ((h.block _ (Array.getElem?_eq_some_iff.1 kE).1).trans kE)
  clear kE
  go_enter Tryz.func130, Tryz.ntmps130
  go_wp2_with (first
    | (go_at_call 181; refine Calls.mono H2.out ?_; rintro r w2 ⟨rfl, hb2⟩)
    | (go_at_call 83; refine Calls.mono H0.out ?_; rintro r w1 ⟨rfl, hb1⟩; have H2 : Hid (Calls _ _ _ _ _) := H1.out w1 (below_then HA.out hb1); clear x0 x1 x2 x3 x4 x5 x6 x7 x8 x9 x10; obtain ⟨x0, x1, x2, x3, x4, x5, x6, x7, x8, x9, x10⟩ := BX.out _ hb1))
  go_ret
  exact ⟨rfl, below_then HA.out (below_then hb1 hb2)⟩

set_option maxHeartbeats 2000000 in
set_option maxRecDepth 100000 in
theorem fo_skips (E : EV) (sl skv mvv : Value) (w : World) (hd : Got w sl E.ds) (hs : Got w skv E.sk) (hm : GotM w mvv E.mv) (hw : EW E) :
    Calls Tryz.prog 130 #[ev E sl skv mvv, .string (fldB 4)] w fun r w' => r = .returned (.string (bs (fT E 4))) ∧ Below w.heap.size w w' := by
  obtain ⟨k20, m20, _, _, kd, md, _⟩ := lk_of hw.ls
  obtain ⟨ra, rc, rfl⟩ := got_form hd
  obtain ⟨sa, sc, rfl⟩ := got_form hs
  obtain ⟨ma, mc, rfl⟩ := gotM_form hm
  have ZS : Hid (∀ j, j < E.sk.length → ∃ ad, sa = some ad ∧ ∀ W, Below w.heap.size w W → W.cell? (ad.add j) = some (.int .i64 (zS E.sk j))) := got_z hs
  have DT : Hid (∀ j, j < E.sk.length → ∀ W, Calls Tryz.prog 179 #[.int .i64 (zS E.sk j)] W fun r w' => r = .returned (.string (bs (dtx (zS E.sk j)))) ∧ Below W.heap.size W w') := fun j hj W => by
    have := kd _ (List.getElem_mem hj)
    rw [zS_at hj]
    exact dayTextR_any _ W this.1 this.2
  have JT : Hid (∀ j, j < E.sk.length → bs (joinTo (E.sk.map dtx) (j + 1)) = (if j = 0 then bs (joinTo (E.sk.map dtx) j) else bs (joinTo (E.sk.map dtx) j) ++ ⟨#[44]⟩) ++ bs (dtx (zS E.sk j))) := fun j hj => by
    rw [zS_at hj]
    cases j with
    | zero => rw [if_pos rfl, bs_app, joinTo_one _ (by simpa using hj), List.getElem_map]; rfl
    | succ j =>
      rw [if_neg (by omega), joinTo_succ _ (j + 1) (by omega) (by simpa using hj), List.getElem_map]
      show _ = bs _ ++ bs [44] ++ bs _
      rw [bs_app, bs_app]
      simp
  have JL : Hid (∀ j, (bs (joinTo (E.sk.map dtx) j)).size ≤ 10000) := fun j => by
    rw [bs_size]
    have := joinTo_len (E.sk.map dtx) j 10 (fun x hx => by obtain ⟨d, _, rfl⟩ := List.mem_map.1 hx; exact dtx_len d)
    rw [List.length_map] at this
    omega
  have JA : Hid (∀ j, E.sk.length ≤ j → joinTo (E.sk.map dtx) j = fT E 4) := fun j hj => joinTo_all _ _ (by simpa using hj)
  have DL : Hid (∀ x, (bs (dtx x)).size ≤ 10) := fun x => by rw [bs_size]; exact dtx_len x
  have hA := below_alloc w (.cells #[.string E.id, .string E.ti, .int .i64 E.st, .int .i64 E.lg, .string E.f, .int .i64 E.e, .slice ra E.ds.length rc, .int .i64 E.c, .int .i64 E.u, .slice sa E.sk.length sc, .slice ma E.mv.length mc] 44)
  have hB := EB.new w E (.slice ra E.ds.length rc) (.slice sa E.sk.length sc) (.slice ma E.mv.length mc)
  unfold EB at hB
  unfold ev fldB
  have HA : Hid (_) := hA
  clear hA hd hs hm hw kd md
  generalize hw0 : w.alloc (.cells #[.string E.id, .string E.ti, .int .i64 E.st, .int .i64 E.lg, .string E.f, .int .i64 E.e, .slice ra E.ds.length rc, .int .i64 E.c, .int .i64 E.u, .slice sa E.sk.length sc, .slice ma E.mv.length mc] 44) = w0 at HA hB
  generalize hL : E.sk.length = L at ZS DT JT JA hB k20 hw0 ⊢
  have BX : Hid (∀ W, Below w0.heap.size w0 W → _) := fun W h => blk11 ((h.block _ (Array.getElem?_eq_some_iff.1 hB).1).trans hB)
  obtain ⟨x0, x1, x2, x3, x4, x5, x6, x7, x8, x9, x10⟩ := blk11 hB
  clear hB hL
  generalize fT E 4 = fin at JA ⊢
  go_enter Tryz.func130, Tryz.ntmps130
  go_wp2
  go_loopw [5, 6] (fun o i wr => ∃ (m : Nat) (os : ByteArray), m ≤ L ∧ i = .int .i64 m ∧ o = .string os ∧ os.size ≤ 10000 ∧ Hid (os = bs (joinTo (E.sk.map dtx) m)) ∧ Hid (Below w0.heap.size w0 wr)) (fun _ i _ => L - (intOf i).toNat)
  case atStart => exact ⟨0, ⟨#[]⟩, Nat.zero_le _, rfl, rfl, by show (0:Nat) ≤ _; omega, rfl, Below.refl _ _⟩
  case round =>
    obtain ⟨m, os, hm, rfl, rfl, hos, HO, HBr⟩ := hrel
    clear x0 x1 x2 x3 x4 x5 x6 x7 x8 x9 x10
    obtain ⟨x0, x1, x2, x3, x4, x5, x6, x7, x8, x9, x10⟩ := BX.out wr HBr.out
    by_cases hlt : m < L
    · obtain ⟨ad, rfl, hc⟩ := ZS.out m hlt
      have c1 := hc wr (below_then HA.out HBr.out)
      have D1 : Hid (∀ W, Calls Tryz.prog 179 #[.int .i64 (zS E.sk m)] W fun r w' => r = .returned (.string (bs (dtx (zS E.sk m)))) ∧ Below W.heap.size W w') := DT.out m hlt
      have J1 : Hid (_) := JT.out m hlt
      have JL1 := JL.out (m + 1)
      have dl := DL.out (zS E.sk m)
      generalize zS E.sk m = x at c1 D1 J1 dl
      generalize bs (dtx x) = bx at D1 J1 dl
      have hl0 : (m : Int) < L := by omega
      clear hc
      cases m with
      | zero =>
        have hc0 : wr.cell? ad = some (.int .i64 x) := c1
        have hl1 : 0 < L := by omega
        have q1 : ¬ 9223372036854775807 < os.size + bx.size := by omega
        go_wp2_with (go_at_call 179; refine Calls.mono (D1.out _) ?_; rintro r w2 ⟨rfl, hb2⟩)
        go_roundw
        case rel =>
          have hj : bs (joinTo (E.sk.map dtx) (0 + 1)) = os ++ bx := by
            rw [J1.out, if_pos True.intro, ← HO.out]
          refine ⟨0 + 1, _, by omega, by go_num, rfl, ?_, hj.symm, below_then HBr.out hb2⟩
          rw [← hj]; exact JL1
        case measure => simp [intOf]; omega
      | succ m =>
        have hc0 : wr.cell? ⟨ad.block, ad.off + (m + 1), none⟩ = some (.int .i64 x) := c1
        have hl1 : (m : Int) + 1 < L := by omega
        have hl2 : m + 1 < L := by omega
        have hq0 : 0 ≤ (m : Int) + 1 := by omega
        have hq1 : ((m : Int) + 1).toNat = m + 1 := by omega
        have q0 : ¬ 9223372036854775807 < os.size + 1 := by omega
        have q1 : ¬ 9223372036854775807 < os.size + 1 + bx.size := by omega
        have hpos : (0 : Int) < (m : Int) + 1 := by omega
        go_wp2_with (go_at_call 179; refine Calls.mono (D1.out _) ?_; rintro r w2 ⟨rfl, hb2⟩)
        go_roundw
        case rel =>
          have hj : bs (joinTo (E.sk.map dtx) (m + 1 + 1)) = os ++ ⟨#[44]⟩ ++ bx := by
            rw [J1.out, if_neg (by omega), ← HO.out]
          refine ⟨m + 1 + 1, _, by omega, by go_num, rfl, ?_, hj.symm, below_then HBr.out hb2⟩
          rw [← hj]; exact JL1
        case measure => simp [intOf]; omega
    · have hml : L ≤ m := by omega
      have J2 : Hid (os = bs fin) := by
        show _ = _
        rw [HO.out, JA.out m hml]
      clear HO
      go_wp2
      go_ret
      exact ⟨ret_str J2.out, below_then HA.out HBr.out⟩

set_option maxHeartbeats 4000000 in
set_option maxRecDepth 100000 in
theorem fo_moves (E : EV) (sl skv mvv : Value) (w : World) (hd : Got w sl E.ds) (hs : Got w skv E.sk) (hm : GotM w mvv E.mv) (hw : EW E) :
    Calls Tryz.prog 130 #[ev E sl skv mvv, .string (fldB 5)] w fun r w' => r = .returned (.string (bs (fT E 5))) ∧ Below w.heap.size w w' := by
  obtain ⟨k20, m20, _, _, kd, md, _⟩ := lk_of hw.ls
  obtain ⟨ra, rc, rfl⟩ := got_form hd
  obtain ⟨sa, sc, rfl⟩ := got_form hs
  obtain ⟨ma, mc, rfl⟩ := gotM_form hm
  have ZM : Hid (∀ j, j < E.mv.length → ∃ ad, ma = some ad ∧ ∀ W, Below w.heap.size w W → W.cell? (ad.add (j * 2)) = some (.int .i64 (pM' E.mv j)) ∧ W.cell? (ad.add (j * 2 + 1)) = some (.int .i64 (qM' E.mv j))) := gotM_z hm
  have DT : Hid (∀ j, j < E.mv.length → (∀ W, Calls Tryz.prog 179 #[.int .i64 (pM' E.mv j)] W fun r w' => r = .returned (.string (bs (dtx (pM' E.mv j)))) ∧ Below W.heap.size W w') ∧ (∀ W, Calls Tryz.prog 179 #[.int .i64 (qM' E.mv j)] W fun r w' => r = .returned (.string (bs (dtx (qM' E.mv j)))) ∧ Below W.heap.size W w')) := fun j hj => by
    have := md _ (List.getElem_mem hj)
    rw [pM_at hj, qM_at hj]
    exact ⟨fun W => dayTextR_any _ W this.1.1 this.1.2, fun W => dayTextR_any _ W this.2.1 this.2.2⟩
  have JT : Hid (∀ j, j < E.mv.length → bs (joinTo (E.mv.map mtx) (j + 1)) = (if j = 0 then bs (joinTo (E.mv.map mtx) j) else bs (joinTo (E.mv.map mtx) j) ++ ⟨#[44]⟩) ++ bs (dtx (pM' E.mv j)) ++ ⟨#[62]⟩ ++ bs (dtx (qM' E.mv j))) := fun j hj => by
    rw [pM_at hj, qM_at hj]
    cases j with
    | zero =>
      rw [if_pos rfl, joinTo_one _ (by simpa using hj), List.getElem_map]
      show _ = bs _ ++ bs _ ++ bs [62] ++ bs _
      rw [bs_app, bs_app, bs_app]
      unfold mtx
      rw [joinTo_zero]
      simp
    | succ j =>
      rw [if_neg (by omega), joinTo_succ _ (j + 1) (by omega) (by simpa using hj), List.getElem_map]
      show _ = bs _ ++ bs [44] ++ bs _ ++ bs [62] ++ bs _
      rw [bs_app, bs_app, bs_app, bs_app]
      unfold mtx
      simp
  have JL : Hid (∀ j, (bs (joinTo (E.mv.map mtx) j)).size ≤ 10000) := fun j => by
    rw [bs_size]
    have := joinTo_len (E.mv.map mtx) j 21 (fun x hx => by obtain ⟨d, _, rfl⟩ := List.mem_map.1 hx; exact mtx_len d)
    rw [List.length_map] at this
    omega
  have JA : Hid (∀ j, E.mv.length ≤ j → joinTo (E.mv.map mtx) j = fT E 5) := fun j hj => joinTo_all _ _ (by simpa using hj)
  have DL : Hid (∀ x, (bs (dtx x)).size ≤ 10) := fun x => by rw [bs_size]; exact dtx_len x
  have hA := below_alloc w (.cells #[.string E.id, .string E.ti, .int .i64 E.st, .int .i64 E.lg, .string E.f, .int .i64 E.e, .slice ra E.ds.length rc, .int .i64 E.c, .int .i64 E.u, .slice sa E.sk.length sc, .slice ma E.mv.length mc] 44)
  have hB := EB.new w E (.slice ra E.ds.length rc) (.slice sa E.sk.length sc) (.slice ma E.mv.length mc)
  unfold EB at hB
  unfold ev fldB
  have HA : Hid (_) := hA
  clear hA hd hs hm hw kd md
  generalize hw0 : w.alloc (.cells #[.string E.id, .string E.ti, .int .i64 E.st, .int .i64 E.lg, .string E.f, .int .i64 E.e, .slice ra E.ds.length rc, .int .i64 E.c, .int .i64 E.u, .slice sa E.sk.length sc, .slice ma E.mv.length mc] 44) = w0 at HA hB
  generalize hL : E.mv.length = L at ZM DT JT JA hB m20 hw0 ⊢
  have BX : Hid (∀ W, Below w0.heap.size w0 W → _) := fun W h => blk11 ((h.block _ (Array.getElem?_eq_some_iff.1 hB).1).trans hB)
  obtain ⟨x0, x1, x2, x3, x4, x5, x6, x7, x8, x9, x10⟩ := blk11 hB
  clear hB hL
  generalize fT E 5 = fin at JA ⊢
  go_enter Tryz.func130, Tryz.ntmps130
  go_wp2
  go_loopw [5, 7] (fun o i wr => ∃ (m : Nat) (os : ByteArray), m ≤ L ∧ i = .int .i64 m ∧ o = .string os ∧ os.size ≤ 10000 ∧ Hid (os = bs (joinTo (E.mv.map mtx) m)) ∧ Hid (Below w0.heap.size w0 wr)) (fun _ i _ => L - (intOf i).toNat)
  case atStart => exact ⟨0, ⟨#[]⟩, Nat.zero_le _, rfl, rfl, by show (0:Nat) ≤ _; omega, rfl, Below.refl _ _⟩
  case round =>
    obtain ⟨m, os, hm, rfl, rfl, hos, HO, HBr⟩ := hrel
    clear x0 x1 x2 x3 x4 x5 x6 x7 x8 x9 x10
    obtain ⟨x0, x1, x2, x3, x4, x5, x6, x7, x8, x9, x10⟩ := BX.out wr HBr.out
    by_cases hlt : m < L
    · obtain ⟨ad, rfl, hc⟩ := ZM.out m hlt
      obtain ⟨c1, c2⟩ := hc wr (below_then HA.out HBr.out)
      have D1 : Hid (_) := DT.out m hlt
      have J1 : Hid (_) := JT.out m hlt
      have JL1 := JL.out (m + 1)
      have dl1 := DL.out (pM' E.mv m)
      have dl2 := DL.out (qM' E.mv m)
      generalize pM' E.mv m = d1 at c1 D1 J1 dl1
      generalize qM' E.mv m = d2 at c2 D1 J1 dl2
      have T1 : Hid (∀ d oo, Calls Tryz.prog 179 #[.int .i64 d1] (grow (redrawn wr d) oo) fun r w'' => r = .returned (.string (bs (dtx d1))) ∧ ∃ p : Regrown, w'' = grow (redrawn wr p.d) p.os) := fun d oo => Calls.regrown_of (D1.out.1 _)
      have T2 : Hid (∀ d oo, Calls Tryz.prog 179 #[.int .i64 d2] (grow (redrawn wr d) oo) fun r w'' => r = .returned (.string (bs (dtx d2))) ∧ ∃ p : Regrown, w'' = grow (redrawn wr p.d) p.os) := fun d oo => Calls.regrown_of (D1.out.2 _)
      generalize bs (dtx d1) = b1 at T1 J1 dl1
      generalize bs (dtx d2) = b2 at T2 J1 dl2
      have hl0 : (m : Int) < L := by omega
      clear hc D1
      cases m with
      | zero =>
        have hc0 : wr.cell? ad = some (.int .i64 d1) := c1
        have hc1 : wr.cell? ⟨ad.block, ad.off + 1, none⟩ = some (.int .i64 d2) := c2
        have hl1 : 0 < L := by omega
        have X10 := cell_regrown x10
        have Xc0 := cell_regrown hc0
        have Xc1 := cell_regrown hc1
        have q1 : ¬ 9223372036854775807 < os.size + b1.size := by omega
        have q2 : ¬ 9223372036854775807 < os.size + b1.size + 1 := by omega
        have q3 : ¬ 9223372036854775807 < os.size + b1.size + 1 + b2.size := by omega
        go_wp2_with (fail)
        refine wp_region_quiet_below (by kernel_rfl) (by kernel_rfl) ?_
        repeat (quiet_step (first | (go_at_call_of 179 (Value.int .i64 d1); exact T1.out _ _) | (go_at_call_of 179 (Value.int .i64 d2); exact T2.out _ _)))
        refine wpQuiet_nil ?_
        intro w2 hw'
        have hb2 : Below wr.heap.size wr w2 := by
          obtain ⟨⟨dq, osq⟩, hw''⟩ := hw'
          subst hw''
          exact below_regrown _ _ _
        clear hw' X10 Xc0 Xc1
        go_wp2
        go_roundw
        case rel =>
          have hj : bs (joinTo (E.mv.map mtx) (0 + 1)) = os ++ b1 ++ ⟨#[62]⟩ ++ b2 := by
            rw [J1.out, if_pos True.intro, ← HO.out]
          refine ⟨0 + 1, _, by omega, by go_num, rfl, ?_, hj.symm, below_then HBr.out hb2⟩
          rw [← hj]; exact JL1
        case measure => simp [intOf]; omega
      | succ m =>
        have hc0 : wr.cell? ⟨ad.block, ad.off + (m + 1) * 2, none⟩ = some (.int .i64 d1) := c1
        have hc1 : wr.cell? ((ad.add ((m + 1) * 2)).add 1) = some (.int .i64 d2) := by
          have e : (ad.add ((m + 1) * 2)).add 1 = ad.add ((m + 1) * 2 + 1) := Deep.add_add _ _ _
          rw [e]; exact c2
        have hc2 : wr.cell? ⟨ad.block, ad.off + (m + 1) * 2 + 1, none⟩ = some (.int .i64 d2) := hc1
        have hc3 : wr.cell? ⟨(ad.add ((m + 1) * 2)).block, (ad.add ((m + 1) * 2)).off + 1, none⟩ = some (.int .i64 d2) := hc1
        have hl1 : (m : Int) + 1 < L := by omega
        have hl2 : m + 1 < L := by omega
        have hq0 : 0 ≤ (m : Int) + 1 := by omega
        have hq1 : ((m : Int) + 1).toNat = m + 1 := by omega
        have hpos : (0 : Int) < (m : Int) + 1 := by omega
        have X10 := cell_regrown x10
        have Xc0 := cell_regrown hc0
        have Xc4 := cell_regrown c1
        have Xc1 := cell_regrown hc1
        have Xc2 := cell_regrown hc2
        have Xc3 := cell_regrown hc3
        have q0 : ¬ 9223372036854775807 < os.size + 1 := by omega
        have q1 : ¬ 9223372036854775807 < os.size + 1 + b1.size := by omega
        have q2 : ¬ 9223372036854775807 < os.size + 1 + b1.size + 1 := by omega
        have q3 : ¬ 9223372036854775807 < os.size + 1 + b1.size + 1 + b2.size := by omega
        go_wp2_with (fail)
        refine wp_region_quiet_below (by kernel_rfl) (by kernel_rfl) ?_
        repeat (quiet_step (first | (go_at_call_of 179 (Value.int .i64 d1); exact T1.out _ _) | (go_at_call_of 179 (Value.int .i64 d2); exact T2.out _ _)))
        refine wpQuiet_nil ?_
        intro w2 hw'
        have hb2 : Below wr.heap.size wr w2 := by
          obtain ⟨⟨dq, osq⟩, hw''⟩ := hw'
          subst hw''
          exact below_regrown _ _ _
        clear hw' X10 Xc0 Xc1 Xc2 Xc3 Xc4
        go_wp2
        go_roundw
        case rel =>
          have hj : bs (joinTo (E.mv.map mtx) (m + 1 + 1)) = os ++ ⟨#[44]⟩ ++ b1 ++ ⟨#[62]⟩ ++ b2 := by
            rw [J1.out, if_neg (by omega), ← HO.out]
          refine ⟨m + 1 + 1, _, by omega, by go_num, rfl, ?_, hj.symm, below_then HBr.out hb2⟩
          rw [← hj]; exact JL1
        case measure => simp [intOf]; omega
    · have hml : L ≤ m := by omega
      have J2 : Hid (os = bs fin) := by
        show _ = _
        rw [HO.out, JA.out m hml]
      clear HO
      go_wp2
      go_ret
      exact ⟨ret_str J2.out, below_then HA.out HBr.out⟩

theorem fieldOf_any (E : EV) (sl skv mvv : Value) (k : Nat) (hk : k < 6) (w : World) (hd : Got w sl E.ds) (hs : Got w skv E.sk) (hm : GotM w mvv E.mv) (h20 : E.ds.length ≤ 20) (hw : EW E) :
    Calls Tryz.prog 130 #[ev E sl skv mvv, .string (fldB k)] w fun r w' => r = .returned (.string (bs (fT E k))) ∧ Below w.heap.size w w' := by
  match k, hk with
  | 4, _ => exact fo_skips E sl skv mvv w hd hs hm hw
  | 5, _ => exact fo_moves E sl skv mvv w hd hs hm hw
  | 0, _ =>
    obtain ⟨ra, rc, rfl⟩ := got_form hd
    obtain ⟨sa, sc, rfl⟩ := got_form hs
    obtain ⟨ma, mc, rfl⟩ := gotM_form hm
    exact fo_title E ra _ rc sa _ sc ma _ mc w
  | 1, _ =>
    obtain ⟨ra, rc, rfl⟩ := got_form hd
    obtain ⟨sa, sc, rfl⟩ := got_form hs
    obtain ⟨ma, mc, rfl⟩ := gotM_form hm
    exact fo_start E ra _ rc sa _ sc ma _ mc _ w (fun W _ => dayTextR_any E.st W hw.bd.1.1 hw.bd.1.2)
  | 2, _ =>
    obtain ⟨ra, rc, rfl⟩ := got_form hd
    obtain ⟨sa, sc, rfl⟩ := got_form hs
    obtain ⟨ma, mc, rfl⟩ := gotM_form hm
    exact fo_long E ra _ rc sa _ sc ma _ mc _ w (fun W _ => decimal_int E.lg W (by have := hw.bd.2.1; omega) (by have := hw.bd.2.2; omega))
  | 3, _ =>
    obtain ⟨ra, rc, rfl⟩ := got_form hd
    obtain ⟨sa, sc, rfl⟩ := got_form hs
    obtain ⟨ma, mc, rfl⟩ := gotM_form hm
    obtain ⟨t, ht, e⟩ := ruT_ok hw.rl
    show Calls _ _ _ _ fun r w' => r = .returned (.string (bs (ruT _))) ∧ _
    rw [e]
    have hk : ErrK E.f E.e E.ds E.c E.u 0 := by
      obtain ⟨k, hk⟩ := errK_ex E.f E.e E.ds E.c E.u
      have := (errK_0 hk).2 hw.rl
      subst this
      exact hk
    exact fo_rule E ra _ rc sa _ sc ma _ mc _ w (fun W hW => ruleError_k E.f E.e _ E.c E.u E.ds 0 W (hd.step hW) h20 hk) (fun W hW => ruleText_any E.f E.e _ E.c E.u E.ds t W (hd.step hW) h20 hw.rl ht)

set_option maxHeartbeats 2000000 in
set_option maxRecDepth 100000 in
theorem eventText_any (E : EV) (sl skv mvv : Value) (w : World) (hd : Got w sl E.ds) (hs : Got w skv E.sk) (hm : GotM w mvv E.mv) (h20 : E.ds.length ≤ 20) (hw : EW E) :
    Calls Tryz.prog 87 #[ev E sl skv mvv] w fun r w' => r = .returned (.string (bs (eT E))) ∧ Below w.heap.size w w' := by
  obtain ⟨i12, t40, k20, m20⟩ : E.id.size ≤ 12 ∧ E.ti.size ≤ 40 ∧ E.sk.length ≤ 20 ∧ E.mv.length ≤ 20 := ⟨hw.id.2.2, hw.ti.2, (lk_of hw.ls).1, (lk_of hw.ls).2.1⟩
  have hk : ErrK E.f E.e E.ds E.c E.u 0 := by
    obtain ⟨k, hk⟩ := errK_ex E.f E.e E.ds E.c E.u
    have := (errK_0 hk).2 hw.rl
    subst this
    exact hk
  have hk0 : EvK E 0 := by
    obtain ⟨k, hk⟩ := evK_ex E
    have := (evK_0 hk).2 hw
    subst this
    exact hk
  have EE : Hid (∀ W, Below w.heap.size w W → Calls Tryz.prog 48 #[ev E sl skv mvv] W fun r w' => r = .returned (.int .i64 0) ∧ Below W.heap.size W w') := fun W hW => eventError_k E sl skv mvv 0 0 W (hd.step hW) (hs.step hW) (hm.step hW) (by omega) (by omega) (by omega) (by omega) hk hk0 (fun W' hG => ruleError_k E.f E.e _ E.c E.u E.ds 0 W' hG h20 hk)
  have FO : Hid (∀ k, k < 6 → ∀ W, Below w.heap.size w W → Calls Tryz.prog 130 #[ev E sl skv mvv, .string (fldB k)] W fun r w' => r = .returned (.string (bs (fT E k))) ∧ Below W.heap.size W w') := fun k hk W hW => fieldOf_any E sl skv mvv k hk W (hd.step hW) (hs.step hW) (hm.step hW) h20 hw
  have FL : Hid (∀ k, (bs (fT E k)).size ≤ 1000) := fun k => by rw [bs_size]; exact fT_len hw h20 k
  have TL : Hid (∀ k, k ≤ 6 → (bs (eTo E k)).size ≤ 10000) := fun k hk => by rw [bs_size]; exact eTo_len hw h20 k hk
  have T0 : Hid (E.id = bs (eTo E 0)) := by
    show _ = _
    rw [eTo_zero]
    rfl
  have TS : Hid (∀ k, k < 6 → bs (eTo E (k + 1)) = bs (eTo E k) ++ ⟨#[124]⟩ ++ bs (fT E k)) := fun k hk => by
    rw [eTo_succ E k hk]
    show _ = bs _ ++ bs [124] ++ bs _
    rw [bs_app, bs_app]
    simp
  rw [← eTo_all]
  obtain ⟨ra, rc, rfl⟩ := got_form hd
  obtain ⟨sa, sc, rfl⟩ := got_form hs
  obtain ⟨ma, mc, rfl⟩ := gotM_form hm
  have hA := below_alloc w (.cells #[.string E.id, .string E.ti, .int .i64 E.st, .int .i64 E.lg, .string E.f, .int .i64 E.e, .slice ra E.ds.length rc, .int .i64 E.c, .int .i64 E.u, .slice sa E.sk.length sc, .slice ma E.mv.length mc] 44)
  have hB := EB.new w E (.slice ra E.ds.length rc) (.slice sa E.sk.length sc) (.slice ma E.mv.length mc)
  unfold EB at hB
  unfold ev at EE FO ⊢
  have HA : Hid (_) := hA
  have EE1 : Hid (Calls _ _ _ _ _) := EE.out _ hA
  clear hA hd hs hm hw hk hk0 EE
  generalize hw0 : w.alloc (.cells #[.string E.id, .string E.ti, .int .i64 E.st, .int .i64 E.lg, .string E.f, .int .i64 E.e, .slice ra E.ds.length rc, .int .i64 E.c, .int .i64 E.u, .slice sa E.sk.length sc, .slice ma E.mv.length mc] 44) = w0 at HA hB EE1
  have BX : Hid (∀ W, Below w0.heap.size w0 W → _) := fun W h => blk11 ((h.block _ (Array.getElem?_eq_some_iff.1 hB).1).trans hB)
  obtain ⟨x0, x1, x2, x3, x4, x5, x6, x7, x8, x9, x10⟩ := blk11 hB
  clear hB
  go_enter Tryz.func87, Tryz.ntmps87
  go_wp2_with (first
    | (go_at_call 129; refine (rfields_any _).mono ?_; rintro r w' ⟨rfl, rfl⟩)
    | (go_at_call 48; refine Calls.mono EE1.out ?_; rintro r w1 ⟨rfl, hb1⟩; clear x0 x1 x2 x3 x4 x5 x6 x7 x8 x9 x10; obtain ⟨x0, x1, x2, x3, x4, x5, x6, x7, x8, x9, x10⟩ := BX.out _ hb1))
  have FC : Hid (∀ (i : Nat), i < 6 → (w1.alloc fldO).cell? ⟨w1.heap.size, i, none⟩ = some (.string (fldB i))) := fun i hi => fld_cell w1 i hi
  have B3 : Hid (Below w0.heap.size w0 (w1.alloc fldO)) := below_then hb1 (below_alloc _ _)
  clear x0 x1 x2 x3 x4 x5 x6 x7 x8 x9 x10
  generalize w1.alloc fldO = w3 at FC B3 ⊢
  generalize w1.heap.size = nf at FC ⊢
  go_loopw [3, 5] (fun o i wr => ∃ (m : Nat) (os : ByteArray), m ≤ 6 ∧ i = .int .i64 m ∧ o = .string os ∧ os.size ≤ 10000 ∧ Hid (os = bs (eTo E m)) ∧ Hid (Below w3.heap.size w3 wr)) (fun _ i _ => 6 - (intOf i).toNat)
  case atStart => exact ⟨0, E.id, Nat.zero_le _, rfl, rfl, by omega, T0.out, Below.refl _ _⟩
  case round =>
    obtain ⟨m, os, hm, rfl, rfl, hos, HO, HBr⟩ := hrel
    by_cases hlt : m < 6
    · obtain ⟨x0, x1, x2, x3, x4, x5, x6, x7, x8, x9, x10⟩ := BX.out wr (below_then B3.out HBr.out)
      have hc1 := cell_step (FC.out m hlt) HBr.out
      have J1 : Hid (_) := TS.out m hlt
      have JL1 := TL.out (m + 1) (by omega)
      have dl := FL.out m
      have T1 : Hid (∀ d oo, Calls Tryz.prog 130 #[.agg #[.string E.id, .string E.ti, .int .i64 E.st, .int .i64 E.lg, .string E.f, .int .i64 E.e, .slice ra E.ds.length rc, .int .i64 E.c, .int .i64 E.u, .slice sa E.sk.length sc, .slice ma E.mv.length mc], .string (fldB m)] (grow (redrawn wr d) oo) fun r w'' => r = .returned (.string (bs (fT E m))) ∧ ∃ p : Regrown, w'' = grow (redrawn wr p.d) p.os) := fun d oo => Calls.regrown_of (FO.out m hlt _ (below_then HA.out (below_then B3.out (below_then HBr.out (below_regrown _ _ _)))))
      generalize bs (fT E m) = b1 at T1 J1 dl
      generalize fldB m = fb at hc1 T1
      have X0 := cell_regrown x0
      have X1 := cell_regrown x1
      have X2 := cell_regrown x2
      have X3 := cell_regrown x3
      have X4 := cell_regrown x4
      have X5 := cell_regrown x5
      have X6 := cell_regrown x6
      have X7 := cell_regrown x7
      have X8 := cell_regrown x8
      have X9 := cell_regrown x9
      have X10 := cell_regrown x10
      have Xc := cell_regrown hc1
      have q0 : ¬ 9223372036854775807 < os.size + 1 := by omega
      have q1 : ¬ 9223372036854775807 < os.size + 1 + b1.size := by omega
      clear x0 x1 x2 x3 x4 x5 x6 x7 x8 x9 x10 hc1
      go_wp2_with (fail)
      refine wp_region_quiet_below (by kernel_rfl) (by kernel_rfl) ?_
      repeat (quiet_step ((go_at_call 130; exact T1.out _ _)))
      refine wpQuiet_nil ?_
      intro w2 hw'
      have hb2 : Below wr.heap.size wr w2 := by
        obtain ⟨⟨dq, osq⟩, hw''⟩ := hw'
        subst hw''
        exact below_regrown _ _ _
      clear hw' X0 X1 X2 X3 X4 X5 X6 X7 X8 X9 X10 Xc
      go_wp2
      go_roundw
      case rel =>
        have hj : bs (eTo E (m + 1)) = os ++ ⟨#[124]⟩ ++ b1 := by
          rw [J1.out, ← HO.out]
        refine ⟨m + 1, _, by omega, by go_num, rfl, ?_, hj.symm, below_then HBr.out hb2⟩
        rw [← hj]; exact JL1
      case measure => simp [intOf]; omega
    · have hm6 : m = 6 := by omega
      have J2 : Hid (os = bs (eTo E 6)) := by
        show _ = _
        rw [HO.out, hm6]
      clear HO
      go_wp2
      go_ret
      exact ⟨ret_str J2.out, below_then HA.out (below_then B3.out HBr.out)⟩
end Go.Proofs.YtnpecjccajebiaaGreatDoor
