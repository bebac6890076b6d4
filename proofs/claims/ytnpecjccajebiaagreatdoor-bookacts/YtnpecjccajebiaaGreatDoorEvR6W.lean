/- The document's own isOwn, IsCovered and DaysOf -/
import Derived.Test.YtnpecjccajebiaaGreatDoorEvR3W
import Derived.Test.YtnpecjccajebiaaGreatDoorYaAQ
import Derived.Test.YtnpecjccajebiaaGreatDoorExpA2W
import Derived.Lib.QuietBelow
import Derived.Deep.CutBlock
namespace Go.Proofs.YtnpecjccajebiaaGreatDoor
open Go Go.RowKit Go.Sort Cal
attribute [local go_sem] Oper.semAt_some

theorem ew_parts {E : EV} (h : EW E) : upM E.mv ∧ (∀ j, j < E.mv.length → inB E.sk (pM' E.mv j) = false) := by
  have L := lkf E.sk E.mv
  rw [h.ls] at L
  have hno : ¬ (20 < E.sk.length ∨ 20 < E.mv.length) := fun q => absurd (L.full q) (by decide)
  have u1 : upS E.sk := fun m hm => by
    rcases (show zS E.sk m < zS E.sk (m + 1) ∨ zS E.sk (m + 1) ≤ zS E.sk m by omega) with q | q
    · exact q
    · exact absurd (L.f1 hno m hm q) (by decide)
  have u2 : upM E.mv := fun m hm => by
    rcases (show pM' E.mv m < pM' E.mv (m + 1) ∨ pM' E.mv (m + 1) ≤ pM' E.mv m by omega) with q | q
    · exact q
    · exact absurd (L.f2 hno m hm q) (by decide)
  have u3 : ∀ j, j < E.sk.length → dayP (zS E.sk j) := fun j hj => Classical.byContradiction (fun q => absurd (L.f3 hno u1 u2 j hj q) (by decide))
  have u4 : ∀ j, j < E.mv.length → dayP (pM' E.mv j) ∧ dayP (qM' E.mv j) := fun j hj => Classical.byContradiction (fun q => absurd (L.f4 hno u1 u2 u3 j hj (Classical.not_and_iff_not_or_not.1 q)) (by decide))
  refine ⟨u2, fun j hj => ?_⟩
  cases hq : inB E.sk (pM' E.mv j) with
  | false => rfl
  | true => exact absurd (L.f5 hno u1 u2 u3 u4 j hj hq) (by decide)
theorem mem_at {mv : List (Int × Int)} {x : Int × Int} (h : x ∈ mv) : ∃ j, j < mv.length ∧ pM' mv j = x.1 ∧ qM' mv j = x.2 := by
  obtain ⟨j, hj, rfl⟩ := List.mem_iff_getElem.1 h
  exact ⟨j, hj, pM_at hj, qM_at hj⟩
theorem at_mem {mv : List (Int × Int)} {j : Nat} (h : j < mv.length) : (pM' mv j, qM' mv j) ∈ mv := by
  rw [pM_at h, qM_at h]; exact List.getElem_mem h
theorem own_a {E : EV} {d : Int} (h : EW E) {j : Nat} (hj : j < E.mv.length) (hq : qM' E.mv j = d) (hi : inB (dys E) (pM' E.mv j) = true) : ownB (dys E) E.sk E.mv d = true := by
  obtain ⟨u2, u5⟩ := ew_parts h
  rw [ownB_iff]
  refine ⟨pM' E.mv j, by unfold inB at hi; rwa [List.contains_iff_mem] at hi, fun q => ?_, ?_⟩
  · have := u5 j hj
    unfold inB at this
    rw [List.contains_iff_mem.2 q] at this
    exact absurd this (by decide)
  · refine mvd_of ?_ (by rw [← hq]; exact at_mem hj)
    exact rise_pair ((riseB_iff _).1 ((upM_iff _).2 u2))
theorem own_not {E : EV} {d : Int} (hA : ∀ j, j < E.mv.length → qM' E.mv j = d → inB (dys E) (pM' E.mv j) = false) :
    ownB (dys E) E.sk E.mv d = true ↔ d ∈ dys E ∧ d ∉ E.sk ∧ ∀ j, j < E.mv.length → pM' E.mv j ≠ d := by
  rw [ownB_iff]
  constructor
  · rintro ⟨x, h1, h2, h3⟩
    rcases mvd_cases E.mv x with ⟨q, q'⟩ | q
    · rw [q] at h3
      subst h3
      refine ⟨h1, h2, fun j hj e => q' _ (at_mem hj) e⟩
    · rw [h3] at q
      obtain ⟨j, hj, e1, e2⟩ := mem_at q
      have := hA j hj e2
      rw [e1] at this
      unfold inB at this
      rw [List.contains_iff_mem.2 h1] at this
      exact absurd this (by decide)
  · rintro ⟨h1, h2, h3⟩
    refine ⟨d, h1, h2, ?_⟩
    rcases mvd_cases E.mv d with ⟨q, _⟩ | q
    · exact q
    · obtain ⟨j, hj, e1, _⟩ := mem_at q
      exact absurd e1 (h3 j hj)

set_option maxHeartbeats 4000000 in
set_option maxRecDepth 100000 in
theorem isOwn_any (E : EV) (sl skv mvv : Value) (d : Int) (w : World) (hd : Got w sl E.ds) (hs : Got w skv E.sk) (hm : GotM w mvv E.mv) (d20 : E.ds.length ≤ 20) (hs25 : E.sk.length ≤ 30) (hm25 : E.mv.length ≤ 30) (hw : EW E) :
    Calls Tryz.prog 88 #[ev E sl skv mvv, .int .i64 d] w fun r w' => r = .returned (.bool (ownB (dys E) E.sk E.mv d)) ∧ Below w.heap.size w w' := by
  obtain ⟨ra, rc, rfl⟩ := got_form hd
  obtain ⟨sa, sc, rfl⟩ := got_form hs
  obtain ⟨ma, mc, rfl⟩ := gotM_form hm
  have ZM : Hid (_) := gotM_z hm
  have IX : Hid (∀ (x : Int) W, Below w.heap.size w W → Calls Tryz.prog 84 #[.int .i64 x, .slice sa E.sk.length sc] W fun r w' => r = .returned (.bool (inB E.sk x)) ∧ w' = W) := fun x W h => isIn_got x (hs.step h) (by omega)
  have IO : Hid (∀ (x : Int) W, Below w.heap.size w W → Calls Tryz.prog 131 #[.int .i64 E.st, .agg #[.string E.f, .int .i64 E.e, .slice ra E.ds.length rc, .int .i64 E.c, .int .i64 E.u], .int .i64 x] W fun r w' => r = .returned (.bool (inB (dys E) x)) ∧ Below W.heap.size W w') := fun x W h => isOne_any E.f E.e _ E.c E.u E.ds E.st x W (hd.step h) hw.rl d20 hw.bd.1.1 hw.bd.1.2
  have hA := below_alloc w (.cells #[.string E.id, .string E.ti, .int .i64 E.st, .int .i64 E.lg, .string E.f, .int .i64 E.e, .slice ra E.ds.length rc, .int .i64 E.c, .int .i64 E.u, .slice sa E.sk.length sc, .slice ma E.mv.length mc] 44)
  have hB := EB.new w E (.slice ra E.ds.length rc) (.slice sa E.sk.length sc) (.slice ma E.mv.length mc)
  unfold EB at hB
  unfold ev
  have OA : Hid (∀ j, j < E.mv.length → qM' E.mv j = d → inB (dys E) (pM' E.mv j) = true → ownB (dys E) E.sk E.mv d = true) := fun j hj hq hi => own_a hw hj hq hi
  have ON : Hid ((∀ j, j < E.mv.length → qM' E.mv j = d → inB (dys E) (pM' E.mv j) = false) → (ownB (dys E) E.sk E.mv d = true ↔ (inB (dys E) d = true ∧ inB E.sk d = false ∧ ∀ j, j < E.mv.length → pM' E.mv j ≠ d))) := fun h => by
    rw [own_not h]
    unfold inB
    rw [List.contains_iff_mem, ← Bool.not_eq_true, List.contains_iff_mem]
  generalize ownB (dys E) E.sk E.mv d = ob at OA ON ⊢
  clear hd hs hm hw
  have hl1 : E.sk.length = E.sk.length := rfl
  generalize hL : E.sk.length = L at IX hA hB hs25 ⊢
  generalize hM : E.mv.length = M at ZM OA ON hA hB hm25 ⊢
  clear hL hM hl1
  have BX : Hid (∀ W, Below (w.alloc (.cells #[.string E.id, .string E.ti, .int .i64 E.st, .int .i64 E.lg, .string E.f, .int .i64 E.e, .slice ra E.ds.length rc, .int .i64 E.c, .int .i64 E.u, .slice sa L sc, .slice ma M mc] 44)).heap.size (w.alloc (.cells #[.string E.id, .string E.ti, .int .i64 E.st, .int .i64 E.lg, .string E.f, .int .i64 E.e, .slice ra E.ds.length rc, .int .i64 E.c, .int .i64 E.u, .slice sa L sc, .slice ma M mc] 44)) W → W.heap[w.heap.size]? = some (.cells #[.string E.id, .string E.ti, .int .i64 E.st, .int .i64 E.lg, .string E.f, .int .i64 E.e, .slice ra E.ds.length rc, .int .i64 E.c, .int .i64 E.u, .slice sa L sc, .slice ma M mc] 44 (0, 0))) := fun W h => (h.block _ (Array.getElem?_eq_some_iff.1 hB).1).trans hB
  have base : Hid (∀ W, Below (w.alloc (.cells #[.string E.id, .string E.ti, .int .i64 E.st, .int .i64 E.lg, .string E.f, .int .i64 E.e, .slice ra E.ds.length rc, .int .i64 E.c, .int .i64 E.u, .slice sa L sc, .slice ma M mc] 44)).heap.size (w.alloc (.cells #[.string E.id, .string E.ti, .int .i64 E.st, .int .i64 E.lg, .string E.f, .int .i64 E.e, .slice ra E.ds.length rc, .int .i64 E.c, .int .i64 E.u, .slice sa L sc, .slice ma M mc] 44)) W → Below w.heap.size w W) := fun W h => below_then hA h
  obtain ⟨x0, x1, x2, x3, x4, x5, x6, x7, x8, x9, x10⟩ := blk11 hB
  clear hA hB
  generalize inB (dys E) = one at IO OA ON
  generalize inB E.sk = skd at IX ON
  go_enter Tryz.func88, Tryz.ntmps88
  go_wp2
  go_loopw [5, 6] (fun i _ wr => ∃ m : Nat, m ≤ M ∧ i = .int .i64 m ∧ Hid (∀ (j : Nat), j < m → qM' E.mv j = d → one (pM' E.mv j) = false) ∧ Hid (Below (w.alloc (.cells #[.string E.id, .string E.ti, .int .i64 E.st, .int .i64 E.lg, .string E.f, .int .i64 E.e, .slice ra E.ds.length rc, .int .i64 E.c, .int .i64 E.u, .slice sa L sc, .slice ma M mc] 44)).heap.size (w.alloc (.cells #[.string E.id, .string E.ti, .int .i64 E.st, .int .i64 E.lg, .string E.f, .int .i64 E.e, .slice ra E.ds.length rc, .int .i64 E.c, .int .i64 E.u, .slice sa L sc, .slice ma M mc] 44)) wr)) (fun i _ _ => M - (intOf i).toNat)
  case atStart => exact ⟨0, Nat.zero_le _, rfl, fun j h => absurd h (by omega), Below.refl _ _⟩
  case round =>
  obtain ⟨m, hk, rfl, HA1, hB1⟩ := hrel
  have h6 := hB1.out
  clear x0 x1 x2 x3 x4 x5 x6 x7 x8 x9 x10
  obtain ⟨x0, x1, x2, x3, x4, x5, x6, x7, x8, x9, x10⟩ := blk11 (show wr.heap[w.heap.size]? = _ from BX.out _ h6)
  by_cases hlt : m < M
  case pos =>
    obtain ⟨ad, rfl, hc⟩ := ZM.out m hlt
    obtain ⟨c1, c2⟩ := hc _ (base.out _ h6)
    have HF : Hid (qM' E.mv m = d → one (pM' E.mv m) = true → ob = true) := fun q q' => OA.out m hlt q q'
    have HN : Hid ((qM' E.mv m = d → one (pM' E.mv m) = false) → ∀ (j : Nat), j < m + 1 → qM' E.mv j = d → one (pM' E.mv j) = false) := fun q j hj => by
      by_cases ej : j = m
      · subst ej; exact q
      · exact HA1.out j (by omega)
    have IOz : Hid (_) := IO.out (pM' E.mv m)
    generalize one (pM' E.mv m) = b at HF HN IOz
    generalize pM' E.mv m = d1 at c1 IOz
    generalize qM' E.mv m = d2 at c2 HF HN
    have IOq : Hid (∀ dd os, Calls Tryz.prog 131 #[.int .i64 E.st, .agg #[.string E.f, .int .i64 E.e, .slice ra E.ds.length rc, .int .i64 E.c, .int .i64 E.u], .int .i64 d1] (grow (redrawn wr dd) os) fun r w'' => r = .returned (.bool b) ∧ ∃ p : Regrown, w'' = grow (redrawn wr p.d) p.os) := fun dd os => Calls.regrown_of (IOz.out _ (below_then (base.out _ h6) (below_regrown _ _ _)))
    clear hc HA1
    have hl0 : (m : Int) < M := by omega
    cases m with
    | zero =>
      have hc0 : wr.cell? ad = some (.int .i64 d1) := c1
      have hc1 : wr.cell? ⟨ad.block, ad.off + 1, none⟩ = some (.int .i64 d2) := c2
      have hl1 : 0 < M := by omega
      have X0 := cell_regrown x0
      have X2 := cell_regrown x2
      have X4 := cell_regrown x4
      have X5 := cell_regrown x5
      have X6 := cell_regrown x6
      have X7 := cell_regrown x7
      have X8 := cell_regrown x8
      have X10 := cell_regrown x10
      have Xc0 := cell_regrown hc0
      have Xc1 := cell_regrown c1
      by_cases hx : d2 = d
      · have e1 : (d2 == d) = true := by rw [beq_iff_eq]; exact hx
        cases b with
        | true =>
          have HF' : Hid (ob = true) := HF.out hx rfl
          clear HF HN hx
          go_wp2_with (fail)
          refine wp_region_quiet_below (by kernel_rfl) (by kernel_rfl) ?_
          repeat (quiet_step (first | (go_at_call 131; exact IOq.out _ _)))
          refine wpQuiet_nil ?_
          intro w2 hw'
          have hb2 : Below wr.heap.size wr w2 := by
            obtain ⟨⟨dq, osq⟩, hw''⟩ := hw'
            subst hw''
            exact below_regrown _ _ _
          clear hw' IOq
          go_wp2
          go_ret
          exact ⟨ret_bool HF'.out.symm, below_then (base.out _ h6) hb2⟩
        | false =>
          have HN' : Hid (_) := HN.out (fun _ => rfl)
          clear HF HN hx
          go_wp2_with (fail)
          refine wp_region_quiet_below (by kernel_rfl) (by kernel_rfl) ?_
          repeat (quiet_step (first | (go_at_call 131; exact IOq.out _ _)))
          refine wpQuiet_nil ?_
          intro w2 hw'
          have hb2 : Below wr.heap.size wr w2 := by
            obtain ⟨⟨dq, osq⟩, hw''⟩ := hw'
            subst hw''
            exact below_regrown _ _ _
          clear hw' IOq
          go_wp2
          go_roundw
          case rel => exact ⟨0 + 1, by omega, by go_num, HN'.out, below_then hB1.out hb2⟩
          case measure => simp [intOf]; omega
      · have e1 : (d2 == d) = false := by rw [beq_eq_false_iff_ne]; exact hx
        have HN' : Hid (_) := HN.out (fun q => absurd q hx)
        clear HF HN hx X0 X2 X4 X5 X6 X7 X8 X10 Xc0 Xc1
        go_wp2
        go_roundw
        case rel => exact ⟨0 + 1, by omega, by go_num, HN'.out, hB1.out⟩
        case measure => simp [intOf]; omega
    | succ m =>
      have hc0 : wr.cell? ⟨ad.block, ad.off + (m + 1) * 2, none⟩ = some (.int .i64 d1) := c1
      have hc1 : wr.cell? ((ad.add ((m + 1) * 2)).add 1) = some (.int .i64 d2) := by
        have e : (ad.add ((m + 1) * 2)).add 1 = ad.add ((m + 1) * 2 + 1) := Deep.add_add _ _ _
        rw [e]; exact c2
      have hc2 : wr.cell? ⟨ad.block, ad.off + (m + 1) * 2 + 1, none⟩ = some (.int .i64 d2) := hc1
      have hc3 : wr.cell? ⟨(ad.add ((m + 1) * 2)).block, (ad.add ((m + 1) * 2)).off + 1, none⟩ = some (.int .i64 d2) := hc1
      have hl1 : (m : Int) + 1 < M := by omega
      have hl2 : m + 1 < M := by omega
      have hq0 : 0 ≤ (m : Int) + 1 := by omega
      have hq1 : ((m : Int) + 1).toNat = m + 1 := by omega
      have X0 := cell_regrown x0
      have X2 := cell_regrown x2
      have X4 := cell_regrown x4
      have X5 := cell_regrown x5
      have X6 := cell_regrown x6
      have X7 := cell_regrown x7
      have X8 := cell_regrown x8
      have X10 := cell_regrown x10
      have Xc0 := cell_regrown hc0
      have Xc1 := cell_regrown c1
      by_cases hx : d2 = d
      · have e1 : (d2 == d) = true := by rw [beq_iff_eq]; exact hx
        cases b with
        | true =>
          have HF' : Hid (ob = true) := HF.out hx rfl
          clear HF HN hx
          go_wp2_with (fail)
          refine wp_region_quiet_below (by kernel_rfl) (by kernel_rfl) ?_
          repeat (quiet_step (first | (go_at_call 131; exact IOq.out _ _)))
          refine wpQuiet_nil ?_
          intro w2 hw'
          have hb2 : Below wr.heap.size wr w2 := by
            obtain ⟨⟨dq, osq⟩, hw''⟩ := hw'
            subst hw''
            exact below_regrown _ _ _
          clear hw' IOq
          go_wp2
          go_ret
          exact ⟨ret_bool HF'.out.symm, below_then (base.out _ h6) hb2⟩
        | false =>
          have HN' : Hid (_) := HN.out (fun _ => rfl)
          clear HF HN hx
          go_wp2_with (fail)
          refine wp_region_quiet_below (by kernel_rfl) (by kernel_rfl) ?_
          repeat (quiet_step (first | (go_at_call 131; exact IOq.out _ _)))
          refine wpQuiet_nil ?_
          intro w2 hw'
          have hb2 : Below wr.heap.size wr w2 := by
            obtain ⟨⟨dq, osq⟩, hw''⟩ := hw'
            subst hw''
            exact below_regrown _ _ _
          clear hw' IOq
          go_wp2
          go_roundw
          case rel => exact ⟨m + 1 + 1, by omega, by go_num, HN'.out, below_then hB1.out hb2⟩
          case measure => simp [intOf]; omega
      · have e1 : (d2 == d) = false := by rw [beq_eq_false_iff_ne]; exact hx
        have HN' : Hid (_) := HN.out (fun q => absurd q hx)
        clear HF HN hx X0 X2 X4 X5 X6 X7 X8 X10 Xc0 Xc1
        go_wp2
        go_roundw
        case rel => exact ⟨m + 1 + 1, by omega, by go_num, HN'.out, hB1.out⟩
        case measure => simp [intOf]; omega
  case neg =>
  have HO : Hid (_) := ON.out (fun j hj => HA1.out j (by omega))
  have hlt' : ¬ (m : Int) < M := by omega
  clear HA1 hk OA ON
  have H7 : Hid (_) := h6
  go_wp2
  clear hlt hlt' h6
  rename World => w7
  go_loopw [7] (fun i wr => ∃ m : Nat, m ≤ M ∧ i = .int .i64 m ∧ Hid (∀ (j : Nat), j < m → pM' E.mv j ≠ d) ∧ Hid (Below w7.heap.size w7 wr)) (fun i _ => M - (intOf i).toNat)
  case atStart => exact ⟨0, Nat.zero_le _, rfl, fun j h => absurd h (by omega), Below.refl _ _⟩
  case round =>
  obtain ⟨m, hk, rfl, HA2, hB2⟩ := hrel
  have h6 := below_then H7.out hB2.out
  clear x0 x1 x2 x3 x4 x5 x6 x7 x8 x9 x10
  obtain ⟨x0, x1, x2, x3, x4, x5, x6, x7, x8, x9, x10⟩ := blk11 (show wr.heap[w.heap.size]? = _ from BX.out _ h6)
  by_cases hlt : m < M
  case pos =>
    obtain ⟨ad, rfl, hc⟩ := ZM.out m hlt
    obtain ⟨c1, c2⟩ := hc _ (base.out _ h6)
    have HF : Hid (pM' E.mv m = d → ob = false) := fun q => by
      cases ob with
      | false => rfl
      | true => exact absurd q ((HO.out.1 rfl).2.2 m hlt)
    have HN : Hid (pM' E.mv m ≠ d → ∀ (j : Nat), j < m + 1 → pM' E.mv j ≠ d) := fun q j hj => by
      by_cases ej : j = m
      · subst ej; exact q
      · exact HA2.out j (by omega)
    generalize pM' E.mv m = d1 at c1 HF HN
    clear hc HA2 c2 HO
    have hl0 : (m : Int) < M := by omega
    cases m with
    | zero =>
      have hc0 : wr.cell? ad = some (.int .i64 d1) := c1
      have hl1 : 0 < M := by omega
      by_cases hx : d1 = d
      · have e1 : (d1 == d) = true := by rw [beq_iff_eq]; exact hx
        have HF' : Hid (ob = false) := HF.out hx
        clear HF HN hx
        go_wp2
        go_ret
        exact ⟨ret_bool HF'.out.symm, base.out _ h6⟩
      · have e1 : (d1 == d) = false := by rw [beq_eq_false_iff_ne]; exact hx
        have HN' : Hid (_) := HN.out hx
        clear HF HN hx
        go_wp2
        go_roundw
        case rel => exact ⟨0 + 1, by omega, by go_num, HN'.out, hB2.out⟩
        case measure => simp [intOf]; omega
    | succ m =>
      have hc0 : wr.cell? ⟨ad.block, ad.off + (m + 1) * 2, none⟩ = some (.int .i64 d1) := c1
      have hl1 : (m : Int) + 1 < M := by omega
      have hl2 : m + 1 < M := by omega
      by_cases hx : d1 = d
      · have e1 : (d1 == d) = true := by rw [beq_iff_eq]; exact hx
        have HF' : Hid (ob = false) := HF.out hx
        clear HF HN hx
        go_wp2
        go_ret
        exact ⟨ret_bool HF'.out.symm, base.out _ h6⟩
      · have e1 : (d1 == d) = false := by rw [beq_eq_false_iff_ne]; exact hx
        have HN' : Hid (_) := HN.out hx
        clear HF HN hx
        go_wp2
        go_roundw
        case rel => exact ⟨m + 1 + 1, by omega, by go_num, HN'.out, hB2.out⟩
        case measure => simp [intOf]; omega
  case neg =>
  have HO' : Hid (ob = true ↔ (one d = true ∧ skd d = false)) := ⟨fun q => ⟨(HO.out.1 q).1, (HO.out.1 q).2.1⟩, fun q => HO.out.2 ⟨q.1, q.2, fun j hj => HA2.out j (by omega)⟩⟩
  have hlt' : ¬ (m : Int) < M := by omega
  have IXd : Hid (_) := IX.out d
  have IOd : Hid (_) := IO.out d
  clear HA2 hk HO IX IO
  generalize skd d = sb at HO' IXd
  generalize one d = b1 at HO' IOd
  have hbw := base.out _ h6
  cases sb with
  | true =>
    have HF' : Hid (ob = false) := by
      cases ob with
      | false => trivial
      | true => exact absurd (HO'.out.1 rfl).2 (by decide)
    clear HO'
    go_wp2_with (go_at_call 84; refine (IXd.out _ hbw).mono ?_; rintro r wz ⟨rfl, rfl⟩)
    go_ret
    exact ⟨ret_bool HF'.out.symm, hbw⟩
  | false =>
    have HF' : Hid (ob = b1) := by
      show _ = _
      rw [Bool.eq_iff_iff, HO'.out]
      exact ⟨fun q => q.1, fun q => ⟨q, rfl⟩⟩
    clear HO'
    go_wp2_with (first | (go_at_call 84; refine (IXd.out _ hbw).mono ?_; rintro r wz ⟨rfl, rfl⟩) | (go_at_call 131; refine (IOd.out _ hbw).mono ?_; rintro r wy ⟨rfl, hby⟩))
    go_ret
    exact ⟨ret_bool HF'.out.symm, below_then hbw hby⟩

set_option maxHeartbeats 4000000 in
set_option maxRecDepth 100000 in
theorem isCovered_any (E : EV) (sl skv mvv : Value) (d : Int) (w : World) (hd : Got w sl E.ds) (hs : Got w skv E.sk) (hm : GotM w mvv E.mv) (d20 : E.ds.length ≤ 20) (hs25 : E.sk.length ≤ 30) (hm25 : E.mv.length ≤ 30) (hw : EW E) (hd0 : 0 ≤ d) (hd1 : d ≤ 73048) (cb : Bool) (hcb : cb = true ↔ covers E d) :
    Calls Tryz.prog 57 #[ev E sl skv mvv, .int .i64 d] w fun r w' => r = .returned (.bool cb) ∧ Below w.heap.size w w' := by
  obtain ⟨ra, rc, rfl⟩ := got_form hd
  obtain ⟨sa, sc, rfl⟩ := got_form hs
  obtain ⟨ma, mc, rfl⟩ := gotM_form hm
  have IO : Hid (∀ (x : Int) W, Below w.heap.size w W → Calls Tryz.prog 88 #[.agg #[.string E.id, .string E.ti, .int .i64 E.st, .int .i64 E.lg, .string E.f, .int .i64 E.e, .slice ra E.ds.length rc, .int .i64 E.c, .int .i64 E.u, .slice sa E.sk.length sc, .slice ma E.mv.length mc], .int .i64 x] W fun r w' => r = .returned (.bool (ownB (dys E) E.sk E.mv x)) ∧ Below W.heap.size W w') := fun x W h => isOwn_any E _ _ _ x W (hd.step h) (hs.step h) (hm.step h) d20 hs25 hm25 hw
  have CB : Hid (cb = true ↔ ∃ k : Nat, (k : Int) < E.lg ∧ (k : Int) ≤ d ∧ ownB (dys E) E.sk E.mv (d - k) = true) := by
    show _ ↔ _
    rw [hcb]
    unfold covers
    constructor
    · rintro ⟨_, _, h⟩
      obtain ⟨x, hx⟩ := List.exists_mem_of_ne_nil _ h
      obtain ⟨p1, p2, p3, p4, p5⟩ := mem_evs.1 hx
      refine ⟨(d - x).toNat, by omega, by omega, ?_⟩
      have e2 : d - ((d - x).toNat : Int) = x := by omega
      rw [e2, ownB_iff]; exact p5
    · rintro ⟨k, p1, p2, p3⟩
      refine ⟨⟨hd0, hd1⟩, hw, List.ne_nil_of_mem (a := d - k) (mem_evs.2 ⟨by omega, by omega, by omega, by omega, ownB_iff.1 p3⟩)⟩
  obtain ⟨lg1, lg2⟩ : 1 ≤ E.lg ∧ E.lg ≤ 60 := hw.bd.2
  have hA := below_alloc w (.cells #[.string E.id, .string E.ti, .int .i64 E.st, .int .i64 E.lg, .string E.f, .int .i64 E.e, .slice ra E.ds.length rc, .int .i64 E.c, .int .i64 E.u, .slice sa E.sk.length sc, .slice ma E.mv.length mc] 44)
  have hB := EB.new w E (.slice ra E.ds.length rc) (.slice sa E.sk.length sc) (.slice ma E.mv.length mc)
  unfold EB at hB
  unfold ev
  clear hd hs hm hw hcb
  have BX : Hid (∀ W, Below (w.alloc (.cells #[.string E.id, .string E.ti, .int .i64 E.st, .int .i64 E.lg, .string E.f, .int .i64 E.e, .slice ra E.ds.length rc, .int .i64 E.c, .int .i64 E.u, .slice sa E.sk.length sc, .slice ma E.mv.length mc] 44)).heap.size (w.alloc (.cells #[.string E.id, .string E.ti, .int .i64 E.st, .int .i64 E.lg, .string E.f, .int .i64 E.e, .slice ra E.ds.length rc, .int .i64 E.c, .int .i64 E.u, .slice sa E.sk.length sc, .slice ma E.mv.length mc] 44)) W → W.heap[w.heap.size]? = some (.cells #[.string E.id, .string E.ti, .int .i64 E.st, .int .i64 E.lg, .string E.f, .int .i64 E.e, .slice ra E.ds.length rc, .int .i64 E.c, .int .i64 E.u, .slice sa E.sk.length sc, .slice ma E.mv.length mc] 44 (0, 0))) := fun W h => (h.block _ (Array.getElem?_eq_some_iff.1 hB).1).trans hB
  have base : Hid (∀ W, Below (w.alloc (.cells #[.string E.id, .string E.ti, .int .i64 E.st, .int .i64 E.lg, .string E.f, .int .i64 E.e, .slice ra E.ds.length rc, .int .i64 E.c, .int .i64 E.u, .slice sa E.sk.length sc, .slice ma E.mv.length mc] 44)).heap.size (w.alloc (.cells #[.string E.id, .string E.ti, .int .i64 E.st, .int .i64 E.lg, .string E.f, .int .i64 E.e, .slice ra E.ds.length rc, .int .i64 E.c, .int .i64 E.u, .slice sa E.sk.length sc, .slice ma E.mv.length mc] 44)) W → Below w.heap.size w W) := fun W h => below_then hA h
  obtain ⟨x0, x1, x2, x3, x4, x5, x6, x7, x8, x9, x10⟩ := blk11 hB
  clear hA hB
  generalize ownB (dys E) E.sk E.mv = own at IO CB
  go_enter Tryz.func57, Tryz.ntmps57
  go_wp2
  go_loopw [5, 6] (fun i _ wr => ∃ m : Nat, i = .int .i64 (d - (m : Int)) ∧ (m : Int) ≤ E.lg ∧ (m : Int) ≤ d + 1 ∧ Hid (∀ (j : Nat), j < m → own (d - j) = false) ∧ Hid (Below (w.alloc (.cells #[.string E.id, .string E.ti, .int .i64 E.st, .int .i64 E.lg, .string E.f, .int .i64 E.e, .slice ra E.ds.length rc, .int .i64 E.c, .int .i64 E.u, .slice sa E.sk.length sc, .slice ma E.mv.length mc] 44)).heap.size (w.alloc (.cells #[.string E.id, .string E.ti, .int .i64 E.st, .int .i64 E.lg, .string E.f, .int .i64 E.e, .slice ra E.ds.length rc, .int .i64 E.c, .int .i64 E.u, .slice sa E.sk.length sc, .slice ma E.mv.length mc] 44)) wr)) (fun i _ _ => (intOf i + 1).toNat)
  case atStart => exact ⟨0, by simp, by omega, by omega, fun j h => absurd h (by omega), Below.refl _ _⟩
  case round =>
  obtain ⟨m, rfl, hm1, hm2, HA1, hB1⟩ := hrel
  have h6 := hB1.out
  clear x0 x1 x2 x3 x4 x5 x6 x7 x8 x9 x10
  obtain ⟨x0, x1, x2, x3, x4, x5, x6, x7, x8, x9, x10⟩ := blk11 (show wr.heap[w.heap.size]? = _ from BX.out _ h6)
  have hbw := base.out _ h6
  by_cases hlt : (m : Int) < E.lg ∧ (m : Int) ≤ d
  · obtain ⟨q1, q2⟩ := hlt
    have HF : Hid (own (d - m) = true → cb = true) := fun q => CB.out.2 ⟨m, q1, q2, q⟩
    have HN : Hid (own (d - m) = false → ∀ (j : Nat), j < m + 1 → own (d - j) = false) := fun q j hj => by
      by_cases ej : j = m
      · subst ej; exact q
      · exact HA1.out j (by omega)
    have IOz : Hid (_) := IO.out (d - m)
    generalize own (d - m) = b at HF HN IOz
    clear HA1 CB
    have g1 : d - E.lg < d - (m : Int) := by omega
    have g2 : 0 ≤ d - (m : Int) := by omega
    cases b with
    | true =>
      have HF' : Hid (cb = true) := HF.out rfl
      clear HF HN
      go_wp2_with (go_at_call 88; refine (IOz.out _ hbw).mono ?_; rintro r wz ⟨rfl, hbz⟩)
      go_ret
      exact ⟨ret_bool HF'.out.symm, below_then hbw hbz⟩
    | false =>
      have HN' : Hid (_) := HN.out rfl
      clear HF HN
      go_wp2_with (go_at_call 88; refine (IOz.out _ hbw).mono ?_; rintro r wz ⟨rfl, hbz⟩)
      go_roundw
      case rel => exact ⟨m + 1, by congr 1; omega, by omega, by omega, HN'.out, below_then hB1.out hbz⟩
      case measure => simp [intOf]; omega
  · have HF' : Hid (cb = false) := by
      cases hc : cb with
      | false => trivial
      | true =>
        obtain ⟨j, p1, p2, p3⟩ := CB.out.1 hc
        rw [HA1.out j (by omega)] at p3
        exact absurd p3 (by decide)
    clear HA1 CB
    rcases (show (d - (m : Int) ≤ d - E.lg) ∨ (d - E.lg < d - (m : Int) ∧ d - (m : Int) < 0) by omega) with g1 | ⟨g1, g2⟩
    all_goals
      clear hlt
      go_wp2
      go_ret
      exact ⟨ret_bool HF'.out.symm, hbw⟩
end Go.Proofs.YtnpecjccajebiaaGreatDoor
namespace Go.Proofs.YtnpecjccajebiaaGreatDoor
open Go Go.RowKit Cal

/-- the rule's days up to b -/
def allDy (E : EV) (b : Int) : List Int := cut E.c E.u (upTo (cnd E.f.toList E.st E.e E.ds) E.st b)
theorem upTo_rise (p : Int → Bool) (a b : Int) (hb : b ≤ 73048) : (upTo p a b).Pairwise (· < ·) := by
  rcases (show a ≤ b ∨ b < a by omega) with h | h
  · have := From_rise p a
    rw [From_split h hb] at this
    exact (List.pairwise_append.1 this).1
  · rw [upTo_end h]; exact List.Pairwise.nil
theorem allB_rise (E : EV) {b : Int} (hb : b ≤ 73048) : (allDy E b).Pairwise (· < ·) := cut_rise (upTo_rise _ _ _ hb)
theorem mem_cutU {u : Int} {l : List Int} (h : l.Pairwise (· < ·)) {x : Int} : x ∈ cutU u l ↔ x ∈ l ∧ (0 ≤ u → x ≤ u) := by
  unfold cutU
  split
  · rename_i q
    rw [mem_takeWhile_rise h]
    exact ⟨fun r => ⟨r.1, fun _ => r.2⟩, fun r => ⟨r.1, r.2 q⟩⟩
  · rename_i q
    exact ⟨fun r => ⟨r, fun q' => absurd q' q⟩, fun r => r.1⟩
theorem cutU_append {u : Int} {A B : List Int} (h : (A ++ B).Pairwise (· < ·)) : cutU u (A ++ B) = cutU u A ++ cutU u B := by
  obtain ⟨h1, h2, h3⟩ := List.pairwise_append.1 h
  refine rise_ext (cutU_rise h) ?_ (fun x => ?_)
  · refine List.pairwise_append.2 ⟨cutU_rise h1, cutU_rise h2, fun x hx y hy => h3 x ((mem_cutU h1).1 hx).1 y ((mem_cutU h2).1 hy).1⟩
  · rw [mem_cutU h, List.mem_append, List.mem_append, mem_cutU h1, mem_cutU h2]
    constructor
    · rintro ⟨q | q, r⟩
      · exact .inl ⟨q, r⟩
      · exact .inr ⟨q, r⟩
    · rintro (⟨q, r⟩ | ⟨q, r⟩)
      · exact ⟨.inl q, r⟩
      · exact ⟨.inr q, r⟩
theorem cut_append {c u : Int} {A B : List Int} (h : (A ++ B).Pairwise (· < ·)) : ∃ R, cut c u (A ++ B) = cut c u A ++ R ∧ ∀ x ∈ R, x ∈ B := by
  obtain ⟨h1, h2, h3⟩ := List.pairwise_append.1 h
  unfold cut
  rw [cutU_append h]
  split
  · rw [List.take_append]
    exact ⟨_, rfl, fun x hx => ((mem_cutU h2).1 (List.mem_of_mem_take hx)).1⟩
  · exact ⟨_, rfl, fun x hx => ((mem_cutU h2).1 hx).1⟩
theorem mem_allB {E : EV} {b d : Int} (hb : b ≤ 73048) (hd : d ≤ b) : d ∈ allDy E b ↔ d ∈ dys E := by
  unfold allDy dys cds
  rcases (show E.st ≤ b ∨ b < E.st by omega) with h | h
  · have hr := From_rise (cnd E.f.toList E.st E.e E.ds) E.st
    have e := From_split (p := cnd E.f.toList E.st E.e E.ds) h hb
    rw [e] at hr ⊢
    obtain ⟨R, h1, h2⟩ := cut_append (c := E.c) (u := E.u) hr
    rw [h1, List.mem_append]
    constructor
    · exact fun q => .inl q
    · rintro (q | q)
      · exact q
      · have := (mem_From.1 (h2 _ q)).1; omega
  · rw [upTo_end h]
    constructor
    · intro q
      have : cut E.c E.u [] = [] := List.length_eq_zero_iff.1 (by have := cut_lenA E.c E.u []; simpa using this)
      rw [this] at q; cases q
    · intro q
      have h1 : d ∈ From (cnd E.f.toList E.st E.e E.ds) E.st := by
        unfold cut at q
        have hU : d ∈ cutU E.u (From (cnd E.f.toList E.st E.e E.ds) E.st) := by
          split at q
          · exact List.mem_of_mem_take q
          · exact q
        exact ((mem_cutU (From_rise _ _)).1 hU).1
      have := (mem_From.1 h1).1
      omega
/-- an event's days from a to b, as they are asked: day by day -/
theorem eds_upTo (E : EV) {fr0 to0 a b : Int} (ha : a = max fr0 0) (hb : b = min to0 73048) : eds E fr0 to0 = upTo (ownB (dys E) E.sk E.mv) a b := by
  refine rise_ext (evs_rise ..) (upTo_rise _ _ _ (by omega)) (fun x => ?_)
  unfold eds
  rw [mem_evs, mem_upTo, ownB_iff]
  constructor
  · rintro ⟨p1, p2, p3, p4, p5⟩; exact ⟨by omega, by omega, p5⟩
  · rintro ⟨p1, p2, p3⟩; exact ⟨by omega, by omega, by omega, by omega, p3⟩
/-- where the list of days is not below d any more, its next one tells -/
theorem ptr_tells {l : List Int} (hl : l.Pairwise (· < ·)) {k : Nat} {d : Int} (h1 : ∀ (j : Nat) (h : j < l.length), j < k → l[j] < d) (h2 : ∀ (h : k < l.length), d ≤ l[k]) : d ∈ l ↔ ∃ h : k < l.length, l[k] = d := by
  constructor
  · intro h
    obtain ⟨j, hj, e⟩ := List.mem_iff_getElem.1 h
    have hjk : k ≤ j := by
      rcases Nat.lt_or_ge j k with q | q
      · have := h1 j hj q; omega
      · exact q
    have hk : k < l.length := by omega
    refine ⟨hk, ?_⟩
    have := h2 hk
    rcases Nat.lt_or_ge k j with q | q
    · have := List.pairwise_iff_getElem.1 hl k j hk hj q; omega
    · have : j = k := by omega
      subst this; exact e
  · rintro ⟨h, e⟩
    rw [← e]; exact List.getElem_mem h
/-- is a day an event's? as the document asks -/
theorem own_doc {E : EV} {d : Int} (h : EW E) : ownB (dys E) E.sk E.mv d = true ↔
    (∃ j, j < E.mv.length ∧ qM' E.mv j = d ∧ inB (dys E) (pM' E.mv j) = true) ∨ (d ∈ dys E ∧ inB E.sk d = false ∧ ∀ j, j < E.mv.length → pM' E.mv j ≠ d) := by
  by_cases hA : ∃ j, j < E.mv.length ∧ qM' E.mv j = d ∧ inB (dys E) (pM' E.mv j) = true
  · obtain ⟨j, h1, h2, h3⟩ := hA
    exact ⟨fun _ => .inl ⟨j, h1, h2, h3⟩, fun _ => own_a h h1 h2 h3⟩
  · have hN : ∀ j, j < E.mv.length → qM' E.mv j = d → inB (dys E) (pM' E.mv j) = false := fun j hj hq => by
      cases hi : inB (dys E) (pM' E.mv j) with
      | false => rfl
      | true => exact absurd ⟨j, hj, hq, hi⟩ hA
    rw [own_not hN]
    have e : (d ∉ E.sk) ↔ inB E.sk d = false := by
      unfold inB
      rw [← Bool.not_eq_true, List.contains_iff_mem]
    constructor
    · rintro ⟨p1, p2, p3⟩; exact .inr ⟨p1, e.1 p2, p3⟩
    · rintro (q | ⟨p1, p2, p3⟩)
      · exact absurd q hA
      · exact ⟨p1, e.2 p2, p3⟩
end Go.Proofs.YtnpecjccajebiaaGreatDoor
namespace Go.Proofs.YtnpecjccajebiaaGreatDoor
open Go Go.RowKit Go.Sort Cal
attribute [local go_sem] Oper.semAt_some

end Go.Proofs.YtnpecjccajebiaaGreatDoor
