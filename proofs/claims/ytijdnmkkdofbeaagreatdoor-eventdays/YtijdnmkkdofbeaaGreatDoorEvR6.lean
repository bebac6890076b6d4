/- The document's own isOwn, IsCovered and DaysOf -/
import Derived.Test.YtijdnmkkdofbeaaGreatDoorEvR3
import Derived.Test.YtijdnmkkdofbeaaGreatDoorEvG
import Derived.Test.YtijdnmkkdofbeaaGreatDoorExpA2
import Derived.Lib.QuietBelow
import Derived.Deep.CutBlock
namespace Go.Proofs.YtijdnmkkdofbeaaGreatDoor
open Go Go.RowKit Go.Sort Cal
attribute [local go_sem] Oper.semAt_some

theorem ew_parts {E : EV} (h : EW E) : upM E.mv ∧ (∀ j, j < E.mv.length → inB E.sk (pM' E.mv j) = false) := by
  have L := lkf E.sk E.mv
  rw [h.ls] at L
  have hno : ¬ (20 < E.sk.length ∨ 20 < E.mv.length) := fun q => absurd (L.full q) (by decide)
  have u1 : upS E.sk := fun m hm => by
    rcases (show zS E.sk m < zS E.sk (m + 1) ∨ zS E.sk (m + 1) ≤ zS E.sk m by omega) with q | q
    · exact q
    · exact absurd (L.f1 hno m hm q) (by decide)
  have u2 : upM E.mv := fun m hm => by
    rcases (show pM' E.mv m < pM' E.mv (m + 1) ∨ pM' E.mv (m + 1) ≤ pM' E.mv m by omega) with q | q
    · exact q
    · exact absurd (L.f2 hno m hm q) (by decide)
  have u3 : ∀ j, j < E.sk.length → dayP (zS E.sk j) := fun j hj => Classical.byContradiction (fun q => absurd (L.f3 hno u1 u2 j hj q) (by decide))
  have u4 : ∀ j, j < E.mv.length → dayP (pM' E.mv j) ∧ dayP (qM' E.mv j) := fun j hj => Classical.byContradiction (fun q => absurd (L.f4 hno u1 u2 u3 j hj (Classical.not_and_iff_not_or_not.1 q)) (by decide))
  refine ⟨u2, fun j hj => ?_⟩
  cases hq : inB E.sk (pM' E.mv j) with
  | false => rfl
  | true => exact absurd (L.f5 hno u1 u2 u3 u4 j hj hq) (by decide)
theorem mem_at {mv : List (Int × Int)} {x : Int × Int} (h : x ∈ mv) : ∃ j, j < mv.length ∧ pM' mv j = x.1 ∧ qM' mv j = x.2 := by
  obtain ⟨j, hj, rfl⟩ := List.mem_iff_getElem.1 h
  exact ⟨j, hj, pM_at hj, qM_at hj⟩
theorem at_mem {mv : List (Int × Int)} {j : Nat} (h : j < mv.length) : (pM' mv j, qM' mv j) ∈ mv := by
  rw [pM_at h, qM_at h]; exact List.getElem_mem h
theorem own_a {E : EV} {d : Int} (h : EW E) {j : Nat} (hj : j < E.mv.length) (hq : qM' E.mv j = d) (hi : inB (dys E) (pM' E.mv j) = true) : ownB (dys E) E.sk E.mv d = true := by
  obtain ⟨u2, u5⟩ := ew_parts h
  rw [ownB_iff]
  refine ⟨pM' E.mv j, by unfold inB at hi; rwa [List.contains_iff_mem] at hi, fun q => ?_, ?_⟩
  · have := u5 j hj
    unfold inB at this
    rw [List.contains_iff_mem.2 q] at this
    exact absurd this (by decide)
  · refine mvd_of ?_ (by rw [← hq]; exact at_mem hj)
    exact rise_pair ((riseB_iff _).1 ((upM_iff _).2 u2))
theorem own_not {E : EV} {d : Int} (hA : ∀ j, j < E.mv.length → qM' E.mv j = d → inB (dys E) (pM' E.mv j) = false) :
    ownB (dys E) E.sk E.mv d = true ↔ d ∈ dys E ∧ d ∉ E.sk ∧ ∀ j, j < E.mv.length → pM' E.mv j ≠ d := by
  rw [ownB_iff]
  constructor
  · rintro ⟨x, h1, h2, h3⟩
    rcases mvd_cases E.mv x with ⟨q, q'⟩ | q
    · rw [q] at h3
      subst h3
      refine ⟨h1, h2, fun j hj e => q' _ (at_mem hj) e⟩
    · rw [h3] at q
      obtain ⟨j, hj, e1, e2⟩ := mem_at q
      have := hA j hj e2
      rw [e1] at this
      unfold inB at this
      rw [List.contains_iff_mem.2 h1] at this
      exact absurd this (by decide)
  · rintro ⟨h1, h2, h3⟩
    refine ⟨d, h1, h2, ?_⟩
    rcases mvd_cases E.mv d with ⟨q, _⟩ | q
    · exact q
    · obtain ⟨j, hj, e1, _⟩ := mem_at q
      exact absurd e1 (h3 j hj)

set_option maxHeartbeats 4000000 in
set_option maxRecDepth 100000 in
theorem isOwn_any (E : EV) (sl skv mvv : Value) (d : Int) (w : World) (hd : Got w sl E.ds) (hs : Got w skv E.sk) (hm : GotM w mvv E.mv) (d20 : E.ds.length ≤ 20) (hs25 : E.sk.length ≤ 30) (hm25 : E.mv.length ≤ 30) (hw : EW E) :
    Calls Tryz.prog 33 #[ev E sl skv mvv, .int .i64 d] w fun r w' => r = .returned (.bool (ownB (dys E) E.sk E.mv d)) ∧ Below w.heap.size w w' := by
  obtain ⟨ra, rc, rfl⟩ := got_form hd
  obtain ⟨sa, sc, rfl⟩ := got_form hs
  obtain ⟨ma, mc, rfl⟩ := gotM_form hm
  have ZM : Hid (_) := gotM_z hm
  have IX : Hid (∀ (x : Int) W, Below w.heap.size w W → Calls Tryz.prog 29 #[.int .i64 x, .slice sa E.sk.length sc] W fun r w' => r = .returned (.bool (inB E.sk x)) ∧ w' = W) := fun x W h => isIn_got x (hs.step h) (by omega)
  have IO : Hid (∀ (x : Int) W, Below w.heap.size w W → Calls Tryz.prog 32 #[.int .i64 E.st, .agg #[.string E.f, .int .i64 E.e, .slice ra E.ds.length rc, .int .i64 E.c, .int .i64 E.u], .int .i64 x] W fun r w' => r = .returned (.bool (inB (dys E) x)) ∧ Below W.heap.size W w') := fun x W h => isOne_any E.f E.e _ E.c E.u E.ds E.st x W (hd.step h) hw.rl d20 hw.bd.1.1 hw.bd.1.2
  have hA := below_alloc w (.cells #[.string E.id, .string E.ti, .int .i64 E.st, .int .i64 E.lg, .string E.f, .int .i64 E.e, .slice ra E.ds.length rc, .int .i64 E.c, .int .i64 E.u, .slice sa E.sk.length sc, .slice ma E.mv.length mc] 27)
  have hB := EB.new w E (.slice ra E.ds.length rc) (.slice sa E.sk.length sc) (.slice ma E.mv.length mc)
  unfold EB at hB
  unfold ev
  have OA : Hid (∀ j, j < E.mv.length → qM' E.mv j = d → inB (dys E) (pM' E.mv j) = true → ownB (dys E) E.sk E.mv d = true) := fun j hj hq hi => own_a hw hj hq hi
  have ON : Hid ((∀ j, j < E.mv.length → qM' E.mv j = d → inB (dys E) (pM' E.mv j) = false) → (ownB (dys E) E.sk E.mv d = true ↔ (inB (dys E) d = true ∧ inB E.sk d = false ∧ ∀ j, j < E.mv.length → pM' E.mv j ≠ d))) := fun h => by
    rw [own_not h]
    unfold inB
    rw [List.contains_iff_mem, ← Bool.not_eq_true, List.contains_iff_mem]
  generalize ownB (dys E) E.sk E.mv d = ob at OA ON ⊢
  clear hd hs hm hw
  have hl1 : E.sk.length = E.sk.length := rfl
  generalize hL : E.sk.length = L at IX hA hB hs25 ⊢
  generalize hM : E.mv.length = M at ZM OA ON hA hB hm25 ⊢
  clear hL hM hl1
  have BX : Hid (∀ W, Below (w.alloc (.cells #[.string E.id, .string E.ti, .int .i64 E.st, .int .i64 E.lg, .string E.f, .int .i64 E.e, .slice ra E.ds.length rc, .int .i64 E.c, .int .i64 E.u, .slice sa L sc, .slice ma M mc] 27)).heap.size (w.alloc (.cells #[.string E.id, .string E.ti, .int .i64 E.st, .int .i64 E.lg, .string E.f, .int .i64 E.e, .slice ra E.ds.length rc, .int .i64 E.c, .int .i64 E.u, .slice sa L sc, .slice ma M mc] 27)) W → W.heap[w.heap.size]? = some (.cells #[.string E.id, .string E.ti, .int .i64 E.st, .int .i64 E.lg, .string E.f, .int .i64 E.e, .slice ra E.ds.length rc, .int .i64 E.c, .int .i64 E.u, .slice sa L sc, .slice ma M mc] 27 (0, 0))) := fun W h => (h.block _ (Array.getElem?_eq_some_iff.1 hB).1).trans hB
  have base : Hid (∀ W, Below (w.alloc (.cells #[.string E.id, .string E.ti, .int .i64 E.st, .int .i64 E.lg, .string E.f, .int .i64 E.e, .slice ra E.ds.length rc, .int .i64 E.c, .int .i64 E.u, .slice sa L sc, .slice ma M mc] 27)).heap.size (w.alloc (.cells #[.string E.id, .string E.ti, .int .i64 E.st, .int .i64 E.lg, .string E.f, .int .i64 E.e, .slice ra E.ds.length rc, .int .i64 E.c, .int .i64 E.u, .slice sa L sc, .slice ma M mc] 27)) W → Below w.heap.size w W) := fun W h => below_then hA h
  obtain ⟨x0, x1, x2, x3, x4, x5, x6, x7, x8, x9, x10⟩ := blk11 hB
  clear hA hB
  generalize inB (dys E) = one at IO OA ON
  generalize inB E.sk = skd at IX ON
  go_enter Tryz.func33, Tryz.ntmps33
  go_wp2
  go_loopw [5, 6] (fun i _ wr => ∃ m : Nat, m ≤ M ∧ i = .int .i64 m ∧ Hid (∀ (j : Nat), j < m → qM' E.mv j = d → one (pM' E.mv j) = false) ∧ Hid (Below (w.alloc (.cells #[.string E.id, .string E.ti, .int .i64 E.st, .int .i64 E.lg, .string E.f, .int .i64 E.e, .slice ra E.ds.length rc, .int .i64 E.c, .int .i64 E.u, .slice sa L sc, .slice ma M mc] 27)).heap.size (w.alloc (.cells #[.string E.id, .string E.ti, .int .i64 E.st, .int .i64 E.lg, .string E.f, .int .i64 E.e, .slice ra E.ds.length rc, .int .i64 E.c, .int .i64 E.u, .slice sa L sc, .slice ma M mc] 27)) wr)) (fun i _ _ => M - (intOf i).toNat)
  case atStart => exact ⟨0, Nat.zero_le _, rfl, fun j h => absurd h (by omega), Below.refl _ _⟩
  case round =>
  obtain ⟨m, hk, rfl, HA1, hB1⟩ := hrel
  have h6 := hB1.out
  clear x0 x1 x2 x3 x4 x5 x6 x7 x8 x9 x10
  obtain ⟨x0, x1, x2, x3, x4, x5, x6, x7, x8, x9, x10⟩ := blk11 (show wr.heap[w.heap.size]? = _ from BX.out _ h6)
  by_cases hlt : m < M
  case pos =>
    obtain ⟨ad, rfl, hc⟩ := ZM.out m hlt
    obtain ⟨c1, c2⟩ := hc _ (base.out _ h6)
    have HF : Hid (qM' E.mv m = d → one (pM' E.mv m) = true → ob = true) := fun q q' => OA.out m hlt q q'
    have HN : Hid ((qM' E.mv m = d → one (pM' E.mv m) = false) → ∀ (j : Nat), j < m + 1 → qM' E.mv j = d → one (pM' E.mv j) = false) := fun q j hj => by
      by_cases ej : j = m
      · subst ej; exact q
      · exact HA1.out j (by omega)
    have IOz : Hid (_) := IO.out (pM' E.mv m)
    generalize one (pM' E.mv m) = b at HF HN IOz
    generalize pM' E.mv m = d1 at c1 IOz
    generalize qM' E.mv m = d2 at c2 HF HN
    have IOq : Hid (∀ dd os, Calls Tryz.prog 32 #[.int .i64 E.st, .agg #[.string E.f, .int .i64 E.e, .slice ra E.ds.length rc, .int .i64 E.c, .int .i64 E.u], .int .i64 d1] (grow (redrawn wr dd) os) fun r w'' => r = .returned (.bool b) ∧ ∃ p : Regrown, w'' = grow (redrawn wr p.d) p.os) := fun dd os => Calls.regrown_of (IOz.out _ (below_then (base.out _ h6) (below_regrown _ _ _)))
    clear hc HA1
    have hl0 : (m : Int) < M := by omega
    cases m with
    | zero =>
      have hc0 : wr.cell? ad = some (.int .i64 d1) := c1
      have hc1 : wr.cell? ⟨ad.block, ad.off + 1, none⟩ = some (.int .i64 d2) := c2
      have hl1 : 0 < M := by omega
      have X0 := cell_regrown x0
      have X2 := cell_regrown x2
      have X4 := cell_regrown x4
      have X5 := cell_regrown x5
      have X6 := cell_regrown x6
      have X7 := cell_regrown x7
      have X8 := cell_regrown x8
      have X10 := cell_regrown x10
      have Xc0 := cell_regrown hc0
      have Xc1 := cell_regrown c1
      by_cases hx : d2 = d
      · have e1 : (d2 == d) = true := by rw [beq_iff_eq]; exact hx
        cases b with
        | true =>
          have HF' : Hid (ob = true) := HF.out hx rfl
          clear HF HN hx
          go_wp2_with (fail)
          refine wp_region_quiet_below (by kernel_rfl) (by kernel_rfl) ?_
          repeat (quiet_step (first | (go_at_call 32; exact IOq.out _ _)))
          refine wpQuiet_nil ?_
          intro w2 hw'
          have hb2 : Below wr.heap.size wr w2 := by
            obtain ⟨⟨dq, osq⟩, hw''⟩ := hw'
            subst hw''
            exact below_regrown _ _ _
          clear hw' IOq
          go_wp2
          go_ret
          exact ⟨ret_bool HF'.out.symm, below_then (base.out _ h6) hb2⟩
        | false =>
          have HN' : Hid (_) := HN.out (fun _ => rfl)
          clear HF HN hx
          go_wp2_with (fail)
          refine wp_region_quiet_below (by kernel_rfl) (by kernel_rfl) ?_
          repeat (quiet_step (first | (go_at_call 32; exact IOq.out _ _)))
          refine wpQuiet_nil ?_
          intro w2 hw'
          have hb2 : Below wr.heap.size wr w2 := by
            obtain ⟨⟨dq, osq⟩, hw''⟩ := hw'
            subst hw''
            exact below_regrown _ _ _
          clear hw' IOq
          go_wp2
          go_roundw
          case rel => exact ⟨0 + 1, by omega, by go_num, HN'.out, below_then hB1.out hb2⟩
          case measure => simp [intOf]; omega
      · have e1 : (d2 == d) = false := by rw [beq_eq_false_iff_ne]; exact hx
        have HN' : Hid (_) := HN.out (fun q => absurd q hx)
        clear HF HN hx X0 X2 X4 X5 X6 X7 X8 X10 Xc0 Xc1
        go_wp2
        go_roundw
        case rel => exact ⟨0 + 1, by omega, by go_num, HN'.out, hB1.out⟩
        case measure => simp [intOf]; omega
    | succ m =>
      have hc0 : wr.cell? ⟨ad.block, ad.off + (m + 1) * 2, none⟩ = some (.int .i64 d1) := c1
      have hc1 : wr.cell? ((ad.add ((m + 1) * 2)).add 1) = some (.int .i64 d2) := by
        have e : (ad.add ((m + 1) * 2)).add 1 = ad.add ((m + 1) * 2 + 1) := Deep.add_add _ _ _
        rw [e]; exact c2
      have hc2 : wr.cell? ⟨ad.block, ad.off + (m + 1) * 2 + 1, none⟩ = some (.int .i64 d2) := hc1
      have hc3 : wr.cell? ⟨(ad.add ((m + 1) * 2)).block, (ad.add ((m + 1) * 2)).off + 1, none⟩ = some (.int .i64 d2) := hc1
      have hl1 : (m : Int) + 1 < M := by omega
      have hl2 : m + 1 < M := by omega
      have hq0 : 0 ≤ (m : Int) + 1 := by omega
      have hq1 : ((m : Int) + 1).toNat = m + 1 := by omega
      have X0 := cell_regrown x0
      have X2 := cell_regrown x2
      have X4 := cell_regrown x4
      have X5 := cell_regrown x5
      have X6 := cell_regrown x6
      have X7 := cell_regrown x7
      have X8 := cell_regrown x8
      have X10 := cell_regrown x10
      have Xc0 := cell_regrown hc0
      have Xc1 := cell_regrown c1
      by_cases hx : d2 = d
      · have e1 : (d2 == d) = true := by rw [beq_iff_eq]; exact hx
        cases b with
        | true =>
          have HF' : Hid (ob = true) := HF.out hx rfl
          clear HF HN hx
          go_wp2_with (fail)
          refine wp_region_quiet_below (by kernel_rfl) (by kernel_rfl) ?_
          repeat (quiet_step (first | (go_at_call 32; exact IOq.out _ _)))
          refine wpQuiet_nil ?_
          intro w2 hw'
          have hb2 : Below wr.heap.size wr w2 := by
            obtain ⟨⟨dq, osq⟩, hw''⟩ := hw'
            subst hw''
            exact below_regrown _ _ _
          clear hw' IOq
          go_wp2
          go_ret
          exact ⟨ret_bool HF'.out.symm, below_then (base.out _ h6) hb2⟩
        | false =>
          have HN' : Hid (_) := HN.out (fun _ => rfl)
          clear HF HN hx
          go_wp2_with (fail)
          refine wp_region_quiet_below (by kernel_rfl) (by kernel_rfl) ?_
          repeat (quiet_step (first | (go_at_call 32; exact IOq.out _ _)))
          refine wpQuiet_nil ?_
          intro w2 hw'
          have hb2 : Below wr.heap.size wr w2 := by
            obtain ⟨⟨dq, osq⟩, hw''⟩ := hw'
            subst hw''
            exact below_regrown _ _ _
          clear hw' IOq
          go_wp2
          go_roundw
          case rel => exact ⟨m + 1 + 1, by omega, by go_num, HN'.out, below_then hB1.out hb2⟩
          case measure => simp [intOf]; omega
      · have e1 : (d2 == d) = false := by rw [beq_eq_false_iff_ne]; exact hx
        have HN' : Hid (_) := HN.out (fun q => absurd q hx)
        clear HF HN hx X0 X2 X4 X5 X6 X7 X8 X10 Xc0 Xc1
        go_wp2
        go_roundw
        case rel => exact ⟨m + 1 + 1, by omega, by go_num, HN'.out, hB1.out⟩
        case measure => simp [intOf]; omega
  case neg =>
  have HO : Hid (_) := ON.out (fun j hj => HA1.out j (by omega))
  have hlt' : ¬ (m : Int) < M := by omega
  clear HA1 hk OA ON
  have H7 : Hid (_) := h6
  go_wp2
  clear hlt hlt' h6
  rename World => w7
  go_loopw [7] (fun i wr => ∃ m : Nat, m ≤ M ∧ i = .int .i64 m ∧ Hid (∀ (j : Nat), j < m → pM' E.mv j ≠ d) ∧ Hid (Below w7.heap.size w7 wr)) (fun i _ => M - (intOf i).toNat)
  case atStart => exact ⟨0, Nat.zero_le _, rfl, fun j h => absurd h (by omega), Below.refl _ _⟩
  case round =>
  obtain ⟨m, hk, rfl, HA2, hB2⟩ := hrel
  have h6 := below_then H7.out hB2.out
  clear x0 x1 x2 x3 x4 x5 x6 x7 x8 x9 x10
  obtain ⟨x0, x1, x2, x3, x4, x5, x6, x7, x8, x9, x10⟩ := blk11 (show wr.heap[w.heap.size]? = _ from BX.out _ h6)
  by_cases hlt : m < M
  case pos =>
    obtain ⟨ad, rfl, hc⟩ := ZM.out m hlt
    obtain ⟨c1, c2⟩ := hc _ (base.out _ h6)
    have HF : Hid (pM' E.mv m = d → ob = false) := fun q => by
      cases ob with
      | false => rfl
      | true => exact absurd q ((HO.out.1 rfl).2.2 m hlt)
    have HN : Hid (pM' E.mv m ≠ d → ∀ (j : Nat), j < m + 1 → pM' E.mv j ≠ d) := fun q j hj => by
      by_cases ej : j = m
      · subst ej; exact q
      · exact HA2.out j (by omega)
    generalize pM' E.mv m = d1 at c1 HF HN
    clear hc HA2 c2 HO
    have hl0 : (m : Int) < M := by omega
    cases m with
    | zero =>
      have hc0 : wr.cell? ad = some (.int .i64 d1) := c1
      have hl1 : 0 < M := by omega
      by_cases hx : d1 = d
      · have e1 : (d1 == d) = true := by rw [beq_iff_eq]; exact hx
        have HF' : Hid (ob = false) := HF.out hx
        clear HF HN hx
        go_wp2
        go_ret
        exact ⟨ret_bool HF'.out.symm, base.out _ h6⟩
      · have e1 : (d1 == d) = false := by rw [beq_eq_false_iff_ne]; exact hx
        have HN' : Hid (_) := HN.out hx
        clear HF HN hx
        go_wp2
        go_roundw
        case rel => exact ⟨0 + 1, by omega, by go_num, HN'.out, hB2.out⟩
        case measure => simp [intOf]; omega
    | succ m =>
      have hc0 : wr.cell? ⟨ad.block, ad.off + (m + 1) * 2, none⟩ = some (.int .i64 d1) := c1
      have hl1 : (m : Int) + 1 < M := by omega
      have hl2 : m + 1 < M := by omega
      by_cases hx : d1 = d
      · have e1 : (d1 == d) = true := by rw [beq_iff_eq]; exact hx
        have HF' : Hid (ob = false) := HF.out hx
        clear HF HN hx
        go_wp2
        go_ret
        exact ⟨ret_bool HF'.out.symm, base.out _ h6⟩
      · have e1 : (d1 == d) = false := by rw [beq_eq_false_iff_ne]; exact hx
        have HN' : Hid (_) := HN.out hx
        clear HF HN hx
        go_wp2
        go_roundw
        case rel => exact ⟨m + 1 + 1, by omega, by go_num, HN'.out, hB2.out⟩
        case measure => simp [intOf]; omega
  case neg =>
  have HO' : Hid (ob = true ↔ (one d = true ∧ skd d = false)) := ⟨fun q => ⟨(HO.out.1 q).1, (HO.out.1 q).2.1⟩, fun q => HO.out.2 ⟨q.1, q.2, fun j hj => HA2.out j (by omega)⟩⟩
  have hlt' : ¬ (m : Int) < M := by omega
  have IXd : Hid (_) := IX.out d
  have IOd : Hid (_) := IO.out d
  clear HA2 hk HO IX IO
  generalize skd d = sb at HO' IXd
  generalize one d = b1 at HO' IOd
  have hbw := base.out _ h6
  cases sb with
  | true =>
    have HF' : Hid (ob = false) := by
      cases ob with
      | false => trivial
      | true => exact absurd (HO'.out.1 rfl).2 (by decide)
    clear HO'
    go_wp2_with (go_at_call 29; refine (IXd.out _ hbw).mono ?_; rintro r wz ⟨rfl, rfl⟩)
    go_ret
    exact ⟨ret_bool HF'.out.symm, hbw⟩
  | false =>
    have HF' : Hid (ob = b1) := by
      show _ = _
      rw [Bool.eq_iff_iff, HO'.out]
      exact ⟨fun q => q.1, fun q => ⟨q, rfl⟩⟩
    clear HO'
    go_wp2_with (first | (go_at_call 29; refine (IXd.out _ hbw).mono ?_; rintro r wz ⟨rfl, rfl⟩) | (go_at_call 32; refine (IOd.out _ hbw).mono ?_; rintro r wy ⟨rfl, hby⟩))
    go_ret
    exact ⟨ret_bool HF'.out.symm, below_then hbw hby⟩

set_option maxHeartbeats 4000000 in
set_option maxRecDepth 100000 in
theorem isCovered_any (E : EV) (sl skv mvv : Value) (d : Int) (w : World) (hd : Got w sl E.ds) (hs : Got w skv E.sk) (hm : GotM w mvv E.mv) (d20 : E.ds.length ≤ 20) (hs25 : E.sk.length ≤ 30) (hm25 : E.mv.length ≤ 30) (hw : EW E) (hd0 : 0 ≤ d) (hd1 : d ≤ 73048) (cb : Bool) (hcb : cb = true ↔ covers E d) :
    Calls Tryz.prog 16 #[ev E sl skv mvv, .int .i64 d] w fun r w' => r = .returned (.bool cb) ∧ Below w.heap.size w w' := by
  obtain ⟨ra, rc, rfl⟩ := got_form hd
  obtain ⟨sa, sc, rfl⟩ := got_form hs
  obtain ⟨ma, mc, rfl⟩ := gotM_form hm
  have IO : Hid (∀ (x : Int) W, Below w.heap.size w W → Calls Tryz.prog 33 #[.agg #[.string E.id, .string E.ti, .int .i64 E.st, .int .i64 E.lg, .string E.f, .int .i64 E.e, .slice ra E.ds.length rc, .int .i64 E.c, .int .i64 E.u, .slice sa E.sk.length sc, .slice ma E.mv.length mc], .int .i64 x] W fun r w' => r = .returned (.bool (ownB (dys E) E.sk E.mv x)) ∧ Below W.heap.size W w') := fun x W h => isOwn_any E _ _ _ x W (hd.step h) (hs.step h) (hm.step h) d20 hs25 hm25 hw
  have CB : Hid (cb = true ↔ ∃ k : Nat, (k : Int) < E.lg ∧ (k : Int) ≤ d ∧ ownB (dys E) E.sk E.mv (d - k) = true) := by
    show _ ↔ _
    rw [hcb]
    unfold covers
    constructor
    · rintro ⟨_, _, h⟩
      obtain ⟨x, hx⟩ := List.exists_mem_of_ne_nil _ h
      obtain ⟨p1, p2, p3, p4, p5⟩ := mem_evs.1 hx
      refine ⟨(d - x).toNat, by omega, by omega, ?_⟩
      have e2 : d - ((d - x).toNat : Int) = x := by omega
      rw [e2, ownB_iff]; exact p5
    · rintro ⟨k, p1, p2, p3⟩
      refine ⟨⟨hd0, hd1⟩, hw, List.ne_nil_of_mem (a := d - k) (mem_evs.2 ⟨by omega, by omega, by omega, by omega, ownB_iff.1 p3⟩)⟩
  obtain ⟨lg1, lg2⟩ : 1 ≤ E.lg ∧ E.lg ≤ 60 := hw.bd.2
  have hA := below_alloc w (.cells #[.string E.id, .string E.ti, .int .i64 E.st, .int .i64 E.lg, .string E.f, .int .i64 E.e, .slice ra E.ds.length rc, .int .i64 E.c, .int .i64 E.u, .slice sa E.sk.length sc, .slice ma E.mv.length mc] 27)
  have hB := EB.new w E (.slice ra E.ds.length rc) (.slice sa E.sk.length sc) (.slice ma E.mv.length mc)
  unfold EB at hB
  unfold ev
  clear hd hs hm hw hcb
  have BX : Hid (∀ W, Below (w.alloc (.cells #[.string E.id, .string E.ti, .int .i64 E.st, .int .i64 E.lg, .string E.f, .int .i64 E.e, .slice ra E.ds.length rc, .int .i64 E.c, .int .i64 E.u, .slice sa E.sk.length sc, .slice ma E.mv.length mc] 27)).heap.size (w.alloc (.cells #[.string E.id, .string E.ti, .int .i64 E.st, .int .i64 E.lg, .string E.f, .int .i64 E.e, .slice ra E.ds.length rc, .int .i64 E.c, .int .i64 E.u, .slice sa E.sk.length sc, .slice ma E.mv.length mc] 27)) W → W.heap[w.heap.size]? = some (.cells #[.string E.id, .string E.ti, .int .i64 E.st, .int .i64 E.lg, .string E.f, .int .i64 E.e, .slice ra E.ds.length rc, .int .i64 E.c, .int .i64 E.u, .slice sa E.sk.length sc, .slice ma E.mv.length mc] 27 (0, 0))) := fun W h => (h.block _ (Array.getElem?_eq_some_iff.1 hB).1).trans hB
  have base : Hid (∀ W, Below (w.alloc (.cells #[.string E.id, .string E.ti, .int .i64 E.st, .int .i64 E.lg, .string E.f, .int .i64 E.e, .slice ra E.ds.length rc, .int .i64 E.c, .int .i64 E.u, .slice sa E.sk.length sc, .slice ma E.mv.length mc] 27)).heap.size (w.alloc (.cells #[.string E.id, .string E.ti, .int .i64 E.st, .int .i64 E.lg, .string E.f, .int .i64 E.e, .slice ra E.ds.length rc, .int .i64 E.c, .int .i64 E.u, .slice sa E.sk.length sc, .slice ma E.mv.length mc] 27)) W → Below w.heap.size w W) := fun W h => below_then hA h
  obtain ⟨x0, x1, x2, x3, x4, x5, x6, x7, x8, x9, x10⟩ := blk11 hB
  clear hA hB
  generalize ownB (dys E) E.sk E.mv = own at IO CB
  go_enter Tryz.func16, Tryz.ntmps16
  go_wp2
  go_loopw [5, 6] (fun i _ wr => ∃ m : Nat, i = .int .i64 (d - (m : Int)) ∧ (m : Int) ≤ E.lg ∧ (m : Int) ≤ d + 1 ∧ Hid (∀ (j : Nat), j < m → own (d - j) = false) ∧ Hid (Below (w.alloc (.cells #[.string E.id, .string E.ti, .int .i64 E.st, .int .i64 E.lg, .string E.f, .int .i64 E.e, .slice ra E.ds.length rc, .int .i64 E.c, .int .i64 E.u, .slice sa E.sk.length sc, .slice ma E.mv.length mc] 27)).heap.size (w.alloc (.cells #[.string E.id, .string E.ti, .int .i64 E.st, .int .i64 E.lg, .string E.f, .int .i64 E.e, .slice ra E.ds.length rc, .int .i64 E.c, .int .i64 E.u, .slice sa E.sk.length sc, .slice ma E.mv.length mc] 27)) wr)) (fun i _ _ => (intOf i + 1).toNat)
  case atStart => exact ⟨0, by simp, by omega, by omega, fun j h => absurd h (by omega), Below.refl _ _⟩
  case round =>
  obtain ⟨m, rfl, hm1, hm2, HA1, hB1⟩ := hrel
  have h6 := hB1.out
  clear x0 x1 x2 x3 x4 x5 x6 x7 x8 x9 x10
  obtain ⟨x0, x1, x2, x3, x4, x5, x6, x7, x8, x9, x10⟩ := blk11 (show wr.heap[w.heap.size]? = _ from BX.out _ h6)
  have hbw := base.out _ h6
  by_cases hlt : (m : Int) < E.lg ∧ (m : Int) ≤ d
  · obtain ⟨q1, q2⟩ := hlt
    have HF : Hid (own (d - m) = true → cb = true) := fun q => CB.out.2 ⟨m, q1, q2, q⟩
    have HN : Hid (own (d - m) = false → ∀ (j : Nat), j < m + 1 → own (d - j) = false) := fun q j hj => by
      by_cases ej : j = m
      · subst ej; exact q
      · exact HA1.out j (by omega)
    have IOz : Hid (_) := IO.out (d - m)
    generalize own (d - m) = b at HF HN IOz
    clear HA1 CB
    have g1 : d - E.lg < d - (m : Int) := by omega
    have g2 : 0 ≤ d - (m : Int) := by omega
    cases b with
    | true =>
      have HF' : Hid (cb = true) := HF.out rfl
      clear HF HN
      go_wp2_with (go_at_call 33; refine (IOz.out _ hbw).mono ?_; rintro r wz ⟨rfl, hbz⟩)
      go_ret
      exact ⟨ret_bool HF'.out.symm, below_then hbw hbz⟩
    | false =>
      have HN' : Hid (_) := HN.out rfl
      clear HF HN
      go_wp2_with (go_at_call 33; refine (IOz.out _ hbw).mono ?_; rintro r wz ⟨rfl, hbz⟩)
      go_roundw
      case rel => exact ⟨m + 1, by congr 1; omega, by omega, by omega, HN'.out, below_then hB1.out hbz⟩
      case measure => simp [intOf]; omega
  · have HF' : Hid (cb = false) := by
      cases hc : cb with
      | false => trivial
      | true =>
        obtain ⟨j, p1, p2, p3⟩ := CB.out.1 hc
        rw [HA1.out j (by omega)] at p3
        exact absurd p3 (by decide)
    clear HA1 CB
    rcases (show (d - (m : Int) ≤ d - E.lg) ∨ (d - E.lg < d - (m : Int) ∧ d - (m : Int) < 0) by omega) with g1 | ⟨g1, g2⟩
    all_goals
      clear hlt
      go_wp2
      go_ret
      exact ⟨ret_bool HF'.out.symm, hbw⟩
end Go.Proofs.YtijdnmkkdofbeaaGreatDoor
namespace Go.Proofs.YtijdnmkkdofbeaaGreatDoor
open Go Go.RowKit Cal

/-- the rule's days up to b -/
def allDy (E : EV) (b : Int) : List Int := cut E.c E.u (upTo (cnd E.f.toList E.st E.e E.ds) E.st b)
theorem upTo_rise (p : Int → Bool) (a b : Int) (hb : b ≤ 73048) : (upTo p a b).Pairwise (· < ·) := by
  rcases (show a ≤ b ∨ b < a by omega) with h | h
  · have := From_rise p a
    rw [From_split h hb] at this
    exact (List.pairwise_append.1 this).1
  · rw [upTo_end h]; exact List.Pairwise.nil
theorem allB_rise (E : EV) {b : Int} (hb : b ≤ 73048) : (allDy E b).Pairwise (· < ·) := cut_rise (upTo_rise _ _ _ hb)
theorem mem_cutU {u : Int} {l : List Int} (h : l.Pairwise (· < ·)) {x : Int} : x ∈ cutU u l ↔ x ∈ l ∧ (0 ≤ u → x ≤ u) := by
  unfold cutU
  split
  · rename_i q
    rw [mem_takeWhile_rise h]
    exact ⟨fun r => ⟨r.1, fun _ => r.2⟩, fun r => ⟨r.1, r.2 q⟩⟩
  · rename_i q
    exact ⟨fun r => ⟨r, fun q' => absurd q' q⟩, fun r => r.1⟩
theorem cutU_append {u : Int} {A B : List Int} (h : (A ++ B).Pairwise (· < ·)) : cutU u (A ++ B) = cutU u A ++ cutU u B := by
  obtain ⟨h1, h2, h3⟩ := List.pairwise_append.1 h
  refine rise_ext (cutU_rise h) ?_ (fun x => ?_)
  · refine List.pairwise_append.2 ⟨cutU_rise h1, cutU_rise h2, fun x hx y hy => h3 x ((mem_cutU h1).1 hx).1 y ((mem_cutU h2).1 hy).1⟩
  · rw [mem_cutU h, List.mem_append, List.mem_append, mem_cutU h1, mem_cutU h2]
    constructor
    · rintro ⟨q | q, r⟩
      · exact .inl ⟨q, r⟩
      · exact .inr ⟨q, r⟩
    · rintro (⟨q, r⟩ | ⟨q, r⟩)
      · exact ⟨.inl q, r⟩
      · exact ⟨.inr q, r⟩
theorem cut_append {c u : Int} {A B : List Int} (h : (A ++ B).Pairwise (· < ·)) : ∃ R, cut c u (A ++ B) = cut c u A ++ R ∧ ∀ x ∈ R, x ∈ B := by
  obtain ⟨h1, h2, h3⟩ := List.pairwise_append.1 h
  unfold cut
  rw [cutU_append h]
  split
  · rw [List.take_append]
    exact ⟨_, rfl, fun x hx => ((mem_cutU h2).1 (List.mem_of_mem_take hx)).1⟩
  · exact ⟨_, rfl, fun x hx => ((mem_cutU h2).1 hx).1⟩
theorem mem_allB {E : EV} {b d : Int} (hb : b ≤ 73048) (hd : d ≤ b) : d ∈ allDy E b ↔ d ∈ dys E := by
  unfold allDy dys cds
  rcases (show E.st ≤ b ∨ b < E.st by omega) with h | h
  · have hr := From_rise (cnd E.f.toList E.st E.e E.ds) E.st
    have e := From_split (p := cnd E.f.toList E.st E.e E.ds) h hb
    rw [e] at hr ⊢
    obtain ⟨R, h1, h2⟩ := cut_append (c := E.c) (u := E.u) hr
    rw [h1, List.mem_append]
    constructor
    · exact fun q => .inl q
    · rintro (q | q)
      · exact q
      · have := (mem_From.1 (h2 _ q)).1; omega
  · rw [upTo_end h]
    constructor
    · intro q
      have : cut E.c E.u [] = [] := List.length_eq_zero_iff.1 (by have := cut_lenA E.c E.u []; simpa using this)
      rw [this] at q; cases q
    · intro q
      have h1 : d ∈ From (cnd E.f.toList E.st E.e E.ds) E.st := by
        unfold cut at q
        have hU : d ∈ cutU E.u (From (cnd E.f.toList E.st E.e E.ds) E.st) := by
          split at q
          · exact List.mem_of_mem_take q
          · exact q
        exact ((mem_cutU (From_rise _ _)).1 hU).1
      have := (mem_From.1 h1).1
      omega
/-- an event's days from a to b, as they are asked: day by day -/
theorem eds_upTo (E : EV) {fr0 to0 a b : Int} (ha : a = max fr0 0) (hb : b = min to0 73048) : eds E fr0 to0 = upTo (ownB (dys E) E.sk E.mv) a b := by
  refine rise_ext (evs_rise ..) (upTo_rise _ _ _ (by omega)) (fun x => ?_)
  unfold eds
  rw [mem_evs, mem_upTo, ownB_iff]
  constructor
  · rintro ⟨p1, p2, p3, p4, p5⟩; exact ⟨by omega, by omega, p5⟩
  · rintro ⟨p1, p2, p3⟩; exact ⟨by omega, by omega, by omega, by omega, p3⟩
/-- where the list of days is not below d any more, its next one tells -/
theorem ptr_tells {l : List Int} (hl : l.Pairwise (· < ·)) {k : Nat} {d : Int} (h1 : ∀ (j : Nat) (h : j < l.length), j < k → l[j] < d) (h2 : ∀ (h : k < l.length), d ≤ l[k]) : d ∈ l ↔ ∃ h : k < l.length, l[k] = d := by
  constructor
  · intro h
    obtain ⟨j, hj, e⟩ := List.mem_iff_getElem.1 h
    have hjk : k ≤ j := by
      rcases Nat.lt_or_ge j k with q | q
      · have := h1 j hj q; omega
      · exact q
    have hk : k < l.length := by omega
    refine ⟨hk, ?_⟩
    have := h2 hk
    rcases Nat.lt_or_ge k j with q | q
    · have := List.pairwise_iff_getElem.1 hl k j hk hj q; omega
    · have : j = k := by omega
      subst this; exact e
  · rintro ⟨h, e⟩
    rw [← e]; exact List.getElem_mem h
/-- is a day an event's? as the document asks -/
theorem own_doc {E : EV} {d : Int} (h : EW E) : ownB (dys E) E.sk E.mv d = true ↔
    (∃ j, j < E.mv.length ∧ qM' E.mv j = d ∧ inB (dys E) (pM' E.mv j) = true) ∨ (d ∈ dys E ∧ inB E.sk d = false ∧ ∀ j, j < E.mv.length → pM' E.mv j ≠ d) := by
  by_cases hA : ∃ j, j < E.mv.length ∧ qM' E.mv j = d ∧ inB (dys E) (pM' E.mv j) = true
  · obtain ⟨j, h1, h2, h3⟩ := hA
    exact ⟨fun _ => .inl ⟨j, h1, h2, h3⟩, fun _ => own_a h h1 h2 h3⟩
  · have hN : ∀ j, j < E.mv.length → qM' E.mv j = d → inB (dys E) (pM' E.mv j) = false := fun j hj hq => by
      cases hi : inB (dys E) (pM' E.mv j) with
      | false => rfl
      | true => exact absurd ⟨j, hj, hq, hi⟩ hA
    rw [own_not hN]
    have e : (d ∉ E.sk) ↔ inB E.sk d = false := by
      unfold inB
      rw [← Bool.not_eq_true, List.contains_iff_mem]
    constructor
    · rintro ⟨p1, p2, p3⟩; exact .inr ⟨p1, e.1 p2, p3⟩
    · rintro (q | ⟨p1, p2, p3⟩)
      · exact absurd q hA
      · exact ⟨p1, e.2 p2, p3⟩
end Go.Proofs.YtijdnmkkdofbeaaGreatDoor
namespace Go.Proofs.YtijdnmkkdofbeaaGreatDoor
open Go Go.RowKit Go.Sort Cal
attribute [local go_sem] Oper.semAt_some

set_option maxHeartbeats 4000000 in
set_option maxRecDepth 100000 in
theorem daysOf_any (E : EV) (sl skv mvv : Value) (fr0 to0 : Int) (w : World) (hd : Got w sl E.ds) (hs : Got w skv E.sk) (hm : GotM w mvv E.mv) (d20 : E.ds.length ≤ 20) (hs25 : E.sk.length ≤ 30) (hm25 : E.mv.length ≤ 30) (hw : EW E) :
    Calls Tryz.prog 13 #[ev E sl skv mvv, .int .i64 fr0, .int .i64 to0] w fun r w' => Below w.heap.size w w' ∧
      (((eds E fr0 to0).length ≤ 1000 ∧ ∃ v, r = .returned (.tuple #[v, .bool false]) ∧ Ow w.heap.size w' v (eds E fr0 to0)) ∨ (1000 < (eds E fr0 to0).length ∧ r = .returned (.tuple #[.slice none 0 0, .bool true]))) := by
  obtain ⟨ra, rc, rfl⟩ := got_form hd
  obtain ⟨sa, sc, rfl⟩ := got_form hs
  obtain ⟨ma, mc, rfl⟩ := gotM_form hm
  obtain ⟨a, ha⟩ : ∃ a, a = max fr0 0 := ⟨_, rfl⟩
  obtain ⟨b, hb⟩ : ∃ b, b = min to0 73048 := ⟨_, rfl⟩
  have hb7 : b ≤ 73048 := by omega
  have EQ := eds_upTo E ha hb
  have ZM : Hid (_) := gotM_z hm
  have IX : Hid (∀ (x : Int) W, Below w.heap.size w W → Calls Tryz.prog 29 #[.int .i64 x, .slice sa E.sk.length sc] W fun r w' => r = .returned (.bool (inB E.sk x)) ∧ w' = W) := fun x W h => isIn_got x (hs.step h) (by omega)
  have IO : Hid (∀ (x : Int) W, Below w.heap.size w W → Calls Tryz.prog 32 #[.int .i64 E.st, .agg #[.string E.f, .int .i64 E.e, .slice ra E.ds.length rc, .int .i64 E.c, .int .i64 E.u], .int .i64 x] W fun r w' => r = .returned (.bool (inB (dys E) x)) ∧ Below W.heap.size W w') := fun x W h => isOne_any E.f E.e _ E.c E.u E.ds E.st x W (hd.step h) hw.rl d20 hw.bd.1.1 hw.bd.1.2
  have AL : Hid (∀ W, Below w.heap.size w W → Calls Tryz.prog 31 #[.int .i64 E.st, .agg #[.string E.f, .int .i64 E.e, .slice ra E.ds.length rc, .int .i64 E.c, .int .i64 E.u], .int .i64 to0] W fun r w' => ∃ v, r = .returned v ∧ Ow W.heap.size w' v (allDy E b) ∧ Below W.heap.size W w') := fun W h => allDays_to E.f E.e _ E.c E.u E.ds E.st b to0 W (hd.step h) hw.rl d20 hw.bd.1.1 hw.bd.1.2 hb7 (by omega)
  have AR : Hid ((allDy E b).Pairwise (· < ·)) := allB_rise E hb7
  have ALEN : (allDy E b).length ≤ 80000 := by
    have h1 := cut_lenA E.c E.u (upTo (cnd E.f.toList E.st E.e E.ds) E.st b)
    have h2 := upTo_len (p := cnd E.f.toList E.st E.e E.ds) hw.bd.1.1 hb7
    unfold allDy
    omega
  have OD : Hid (∀ d, d ≤ b → (ownB (dys E) E.sk E.mv d = true ↔ (∃ j, j < E.mv.length ∧ qM' E.mv j = d ∧ inB (dys E) (pM' E.mv j) = true) ∨ (d ∈ allDy E b ∧ inB E.sk d = false ∧ ∀ j, j < E.mv.length → pM' E.mv j ≠ d))) := fun d hdb => by rw [mem_allB hb7 hdb]; exact own_doc hw
  have hA := below_alloc w (.cells #[.string E.id, .string E.ti, .int .i64 E.st, .int .i64 E.lg, .string E.f, .int .i64 E.e, .slice ra E.ds.length rc, .int .i64 E.c, .int .i64 E.u, .slice sa E.sk.length sc, .slice ma E.mv.length mc] 27)
  have hB := EB.new w E (.slice ra E.ds.length rc) (.slice sa E.sk.length sc) (.slice ma E.mv.length mc)
  unfold EB at hB
  unfold ev
  have HA0 : Hid (a = max fr0 0) := ha
  have HB0 : Hid (b = min to0 73048) := hb
  have ha0 : 0 ≤ a := by omega
  clear hd hs hm hw ha hb
  generalize eds E fr0 to0 = Y at EQ ⊢
  generalize ownB (dys E) E.sk E.mv = own at EQ OD
  generalize inB (dys E) = one at IO OD
  generalize allDy E b = A at AL AR ALEN OD
  generalize inB E.sk = skd at IX OD
  generalize hM : E.mv.length = M at ZM OD hA hB hm25 ⊢
  clear hM
  have EY : Hid (Y = upTo own a b) := EQ
  clear EQ
  have BX : Hid (∀ W, Below (w.alloc (.cells #[.string E.id, .string E.ti, .int .i64 E.st, .int .i64 E.lg, .string E.f, .int .i64 E.e, .slice ra E.ds.length rc, .int .i64 E.c, .int .i64 E.u, .slice sa E.sk.length sc, .slice ma M mc] 27)).heap.size (w.alloc (.cells #[.string E.id, .string E.ti, .int .i64 E.st, .int .i64 E.lg, .string E.f, .int .i64 E.e, .slice ra E.ds.length rc, .int .i64 E.c, .int .i64 E.u, .slice sa E.sk.length sc, .slice ma M mc] 27)) W → W.heap[w.heap.size]? = some (.cells #[.string E.id, .string E.ti, .int .i64 E.st, .int .i64 E.lg, .string E.f, .int .i64 E.e, .slice ra E.ds.length rc, .int .i64 E.c, .int .i64 E.u, .slice sa E.sk.length sc, .slice ma M mc] 27 (0, 0))) := fun W h => (h.block _ (Array.getElem?_eq_some_iff.1 hB).1).trans hB
  have base : Hid (∀ W, Below (w.alloc (.cells #[.string E.id, .string E.ti, .int .i64 E.st, .int .i64 E.lg, .string E.f, .int .i64 E.e, .slice ra E.ds.length rc, .int .i64 E.c, .int .i64 E.u, .slice sa E.sk.length sc, .slice ma M mc] 27)).heap.size (w.alloc (.cells #[.string E.id, .string E.ti, .int .i64 E.st, .int .i64 E.lg, .string E.f, .int .i64 E.e, .slice ra E.ds.length rc, .int .i64 E.c, .int .i64 E.u, .slice sa E.sk.length sc, .slice ma M mc] 27)) W → Below w.heap.size w W) := fun W h => below_then hA h
  obtain ⟨x0, x1, x2, x3, x4, x5, x6, x7, x8, x9, x10⟩ := blk11 hB
  have hA' : Hid (Below w.heap.size w (w.alloc (.cells #[.string E.id, .string E.ti, .int .i64 E.st, .int .i64 E.lg, .string E.f, .int .i64 E.e, .slice ra E.ds.length rc, .int .i64 E.c, .int .i64 E.u, .slice sa E.sk.length sc, .slice ma M mc] 27))) := hA
  clear hA hB
  obtain ⟨i0, hi, hz0, hz1, hz2⟩ := info_parts info_int
  go_enter Tryz.func13, Tryz.ntmps13
  go_upto_if 17 with (fail)
  go_cut [1] (fun v wx => v = .int .i64 a ∧ wx = (w.alloc (.cells #[.string E.id, .string E.ti, .int .i64 E.st, .int .i64 E.lg, .string E.f, .int .i64 E.e, .slice ra E.ds.length rc, .int .i64 E.c, .int .i64 E.u, .slice sa E.sk.length sc, .slice ma M mc] 27)))
  case first =>
    have hc : (fr0 < 0 ∧ a ≤ 0) ∨ (0 ≤ fr0 ∧ a ≤ fr0 ∧ fr0 ≤ a) := by have := HA0.out; omega
    rcases hc with ⟨q1, q2⟩ | ⟨q1, q2, q3⟩
    · go_wp2
      go_meet
      case rel => exact ⟨by rw [show a = 0 by omega], rfl⟩
    · go_wp2
      go_meet
      case rel => exact ⟨by rw [show a = fr0 by omega], rfl⟩
  case rest =>
  obtain ⟨e1, e2⟩ := hcut
  cases e1
  cases e2
  have ALz : Hid (_) := AL.out _ hA'.out
  go_wp2_with (go_at_call 31; refine Calls.mono ALz.out ?_; rintro r w1 ⟨v1, rfl, ho1, hb1⟩; obtain ⟨va, ca, rfl⟩ := ow_form ho1)
  have IA : Hid (Ints w1 (.slice va A.length ca) A) := ow_ints ho1 ALEN
  have H1 : Hid (Below (w.alloc (.cells #[.string E.id, .string E.ti, .int .i64 E.st, .int .i64 E.lg, .string E.f, .int .i64 E.e, .slice ra E.ds.length rc, .int .i64 E.c, .int .i64 E.u, .slice sa E.sk.length sc, .slice ma M mc] 27)).heap.size (w.alloc (.cells #[.string E.id, .string E.ti, .int .i64 E.st, .int .i64 E.lg, .string E.f, .int .i64 E.e, .slice ra E.ds.length rc, .int .i64 E.c, .int .i64 E.u, .slice sa E.sk.length sc, .slice ma M mc] 27)) w1) := hb1
  clear ALz AL ho1 hb1 x0 x1 x2 x3 x4 x5 x6 x7 x8 x9 x10
  go_loopw [8, 10, 11, 12, 13, 14, 15] (fun ov kv dv _ _ _ _ wr => ∃ (o : List Int) (k : Nat) (d : Int), kv = .int .i64 k ∧ dv = .int .i64 d ∧ a ≤ d ∧ (d ≤ b + 1 ∨ d ≤ a) ∧ k ≤ A.length ∧ o.length ≤ 1000 ∧ Hid (Ow w1.heap.size wr ov o) ∧ Hid (Y = o ++ upTo own d b) ∧ Hid (∀ (j : Nat) (h : j < A.length), j < k → A[j] < d) ∧ Hid (Below w1.heap.size w1 wr)) (fun _ _ dv _ _ _ _ _ => (73060 - intOf dv).toNat)
  case atStart => exact ⟨[], 0, a, rfl, rfl, by omega, by omega, Nat.zero_le _, by simp, Ow.nil _ _, EY.out, fun j _ h => absurd h (by omega), Below.refl _ _⟩
  case round =>
  obtain ⟨o, k, d, rfl, rfl, hda, hdb, hkA, ho1k, HO, HY, HK, hB1⟩ := hrel
  obtain ⟨oa, oc, rfl⟩ := ow_form HO.out
  have h6 := below_then H1.out hB1.out
  obtain ⟨x0, x1, x2, x3, x4, x5, x6, x7, x8, x9, x10⟩ := blk11 (show wr.heap[w.heap.size]? = _ from BX.out _ h6)
  by_cases hin : d ≤ b
  case neg =>
    have hfin : Hid (Y = o) := by
      show _ = _
      rw [HY.out, upTo_end (by omega), List.append_nil]
    have hO2 : Hid (Ow w.heap.size wr (.slice oa o.length oc) o) := own_base HO.out (by have := (base.out _ H1.out).size; omega)
    have hc : to0 < d ∨ (d ≤ to0 ∧ 73048 < d) := by have := HB0.out; omega
    clear HY HK
    rcases hc with q | ⟨q, q'⟩
    all_goals
      go_wp2
      exact bodyPost_ret (v := .tuple #[.slice oa o.length oc, .bool false]) (by simp [results, Tryz.f13, go_sem]) rfl ⟨base.out _ h6, .inl ⟨by rw [hfin.out]; exact ho1k, _, rfl, by rw [hfin.out]; exact hO2.out⟩⟩
  case pos =>
  have hd7 : d ≤ 73048 := by omega
  have hdt : d ≤ to0 := by have := HB0.out; omega
  go_upto_block 2 with (fail)
  go_cut [10] (fun v wx => ∃ k' : Nat, v = .int .i64 k' ∧ k' ≤ A.length ∧ Hid (∀ (j : Nat) (h : j < A.length), j < k' → A[j] < d) ∧ Hid (∀ h : k' < A.length, d ≤ A[k']) ∧ Hid (Below wr.heap.size wr wx))
  case first =>
    clear x0 x1 x2 x3 x4 x5 x6 x7 x8 x9 x10 HY HO
    go_wp2_with (fail)
    go_loopw [10] (fun kv wq => ∃ k' : Nat, kv = .int .i64 k' ∧ k' ≤ A.length ∧ Hid (∀ (j : Nat) (h : j < A.length), j < k' → A[j] < d) ∧ Hid (Below wr.heap.size wr wq)) (fun kv _ => A.length - (intOf kv).toNat)
    case atStart => exact ⟨k, rfl, hkA, HK.out, Below.refl _ _⟩
    case round =>
      obtain ⟨k', rfl, hk', HK', hBq⟩ := hrel
      by_cases hlt : k' < A.length
      · obtain ⟨aI, cI, eI, hI1, hI2, hI3⟩ := IA.out.step (below_then hB1.out hBq.out)
        cases eI
        obtain ⟨ga, rfl, hga, hxc⟩ := hI3 k' hlt
        have HN : Hid (A[k'] < d → ∀ (j : Nat) (h : j < A.length), j < k' + 1 → A[j] < d) := fun q j hj hjk => by
          by_cases ej : j = k'
          · subst ej; exact q
          · exact HK'.out j hj (by omega)
        have HX : Hid (¬ A[k'] < d → ∀ h : k' < A.length, d ≤ A[k']) := fun q _ => by omega
        generalize A[k'] = x at hxc HN HX
        clear hI1 hI2 hI3
        have hlt' : (k' : Int) < A.length := by omega
        by_cases hx : x < d
        · have HN' : Hid (_) := HN.out hx
          clear HN HX HK' HK
          go_wp2
          go_roundw
          case rel => exact ⟨k' + 1, by go_num, by omega, HN'.out, hBq.out⟩
          case measure => simp [intOf]; omega
        · have HX' : Hid (_) := HX.out hx
          have hx' : d ≤ x := by omega
          clear HN HX
          go_wp2
          go_meet
          case rel => exact ⟨k', rfl, hk', HK'.out, HX'.out, hBq.out⟩
      · have hlt' : ¬ (k' : Int) < A.length := by omega
        go_wp2
        go_meet
        case rel => exact ⟨k', rfl, hk', HK'.out, fun h => absurd h hlt, hBq.out⟩
  case rest =>
  obtain ⟨k', e10, hk', HK', HD', hBc⟩ := hcut
  cases e10
  have h7 := below_then h6 hBc.out
  clear x0 x1 x2 x3 x4 x5 x6 x7 x8 x9 x10
  obtain ⟨x0, x1, x2, x3, x4, x5, x6, x7, x8, x9, x10⟩ := blk11 (show wc.heap[w.heap.size]? = _ from BX.out _ h7)
  have PT : Hid (d ∈ A ↔ ∃ h : k' < A.length, A[k'] = d) := ptr_tells AR.out HK'.out HD'.out
  have IAc : Hid (Ints wc (.slice va A.length ca) A) := IA.out.step (below_then hB1.out hBc.out)
  obtain ⟨m0, hm0⟩ := bool_of' (d ∈ A)
  have M0 : Hid (m0 = true ↔ d ∈ A) := hm0
  clear hm0
  go_upto_if 52 with (fail)
  go_cut [12] (fun v wx => v = .bool m0 ∧ Hid (Below wc.heap.size wc wx))
  case first =>
    clear HY HO HK HK' HD'
    by_cases hlt : k' < A.length
    · obtain ⟨aI, cI, eI, hI1, hI2, hI3⟩ := IAc.out
      cases eI
      obtain ⟨ga, rfl, hga, hxc⟩ := hI3 k' hlt
      have HM : Hid (m0 = true ↔ A[k'] = d) := by
        show _ ↔ _
        rw [M0.out, PT.out]
        exact ⟨fun ⟨_, q⟩ => q, fun q => ⟨hlt, q⟩⟩
      generalize A[k'] = x at hxc HM
      clear hI1 hI2 hI3
      have hlt' : (k' : Int) < A.length := by omega
      by_cases hx : x = d
      · have e1 : (x == d) = true := by rw [beq_iff_eq]; exact hx
        have HM' : Hid (m0 = true) := HM.out.2 hx
        clear HM hx
        go_wp2
        go_meet
        case rel => exact ⟨by rw [HM'.out], Below.refl _ _⟩
      · have e1 : (x == d) = false := by rw [beq_eq_false_iff_ne]; exact hx
        have HM' : Hid (m0 = false) := by
          cases hq : m0 with
          | false => trivial
          | true => exact absurd (HM.out.1 hq) hx
        clear HM hx
        go_wp2
        go_meet
        case rel => exact ⟨by rw [HM'.out], Below.refl _ _⟩
    · have hlt' : ¬ (k' : Int) < A.length := by omega
      have HM' : Hid (m0 = false) := by
        cases hq : m0 with
        | false => trivial
        | true => obtain ⟨q, _⟩ := PT.out.1 (M0.out.1 hq); exact absurd q hlt
      go_wp2
      go_meet
      case rel => exact ⟨by rw [HM'.out], Below.refl _ _⟩
  case rest =>
  rename World => w2
  obtain ⟨e12, hB2⟩ := hcut
  cases e12
  have h8 := below_then h7 hB2.out
  clear x0 x1 x2 x3 x4 x5 x6 x7 x8 x9 x10
  obtain ⟨x0, x1, x2, x3, x4, x5, x6, x7, x8, x9, x10⟩ := blk11 (show w2.heap[w.heap.size]? = _ from BX.out _ h8)
  have OD' : Hid (_) := OD.out d hin
  have IXd : Hid (_) := IX.out d _ (base.out _ h8)
  obtain ⟨m1, hm1⟩ := bool_of' (m0 = true ∧ skd d = false)
  have M1 : Hid (m1 = true ↔ d ∈ A ∧ skd d = false) := by
    show _ ↔ _
    rw [hm1, M0.out]
  have M1' : Hid (m1 = true ↔ m0 = true ∧ skd d = false) := hm1
  clear hm1 PT IAc HD'
  generalize skd d = sd at IXd OD' M1 M1'
  go_upto_if 62 with (go_at_call 29; refine Calls.mono IXd.out ?_; rintro r wz ⟨rfl, rfl⟩)
  rename World => w2
  go_cut [12] (fun v wx => v = .bool m1 ∧ wx = w2)
  case first =>
    clear HY HO HK HK'
    cases sd with
    | true =>
      have HM' : Hid (m1 = false) := by
        cases hq : m1 with
        | false => trivial
        | true => exact absurd (M1'.out.1 hq).2 (by decide)
      go_wp2
      go_meet
      case rel => exact ⟨by rw [HM'.out], rfl⟩
    | false =>
      have HM' : Hid (m1 = m0) := by
        show _ = _
        rw [Bool.eq_iff_iff, M1'.out]; exact ⟨fun q => q.1, fun q => ⟨q, rfl⟩⟩
      go_wp2
      go_meet
      case rel => exact ⟨by rw [HM'.out], rfl⟩
  case rest =>
  obtain ⟨e12, e13⟩ := hcut
  cases e12
  cases e13
  clear M1' M0 IXd
  go_wp2
  go_loopw [12, 13] (fun ov iv wq => ∃ (i : Nat) (t : Bool), iv = .int .i64 i ∧ ov = .bool t ∧ i ≤ M ∧ Hid (t = true ↔ m1 = true ∧ ∀ (j : Nat), j < i → pM' E.mv j ≠ d) ∧ Hid (Below w2.heap.size w2 wq)) (fun _ iv _ => M - (intOf iv).toNat)
  case atStart => exact ⟨0, m1, rfl, rfl, Nat.zero_le _, ⟨fun q => ⟨q, fun j h => absurd h (by omega)⟩, fun q => q.1⟩, Below.refl _ _⟩
  case round =>
  obtain ⟨m, t, rfl, rfl, hmM, HT, hB3⟩ := hrel
  have h9 := below_then h8 hB3.out
  clear x0 x1 x2 x3 x4 x5 x6 x7 x8 x9 x10
  obtain ⟨x0, x1, x2, x3, x4, x5, x6, x7, x8, x9, x10⟩ := blk11 (show wr.heap[w.heap.size]? = _ from BX.out _ h9)
  by_cases hlt : m < M
  case pos =>
    obtain ⟨ad, rfl, hc⟩ := ZM.out m hlt
    obtain ⟨c1, c2⟩ := hc _ (base.out _ h9)
    have HN : Hid (∀ t' : Bool, (t' = true ↔ t = true ∧ pM' E.mv m ≠ d) → (t' = true ↔ m1 = true ∧ ∀ (j : Nat), j < m + 1 → pM' E.mv j ≠ d)) := fun t' h => by
      rw [h, HT.out]
      constructor
      · rintro ⟨⟨q1, q2⟩, q3⟩
        refine ⟨q1, fun j hj => ?_⟩
        by_cases ej : j = m
        · subst ej; exact q3
        · exact q2 j (by omega)
      · rintro ⟨q1, q2⟩
        exact ⟨⟨q1, fun j hj => q2 j (by omega)⟩, q2 m (by omega)⟩
    generalize pM' E.mv m = d1 at c1 HN
    clear hc c2 HT HY HO HK HK' OD' M1 OD
    have hl0 : (m : Int) < M := by omega
    cases m with
    | zero =>
      have hc0 : wr.cell? ad = some (.int .i64 d1) := c1
      have hl1 : 0 < M := by omega
      by_cases hx : d1 = d
      · have e1 : (d1 == d) = true := by rw [beq_iff_eq]; exact hx
        have HN' : Hid (_) := HN.out false (by simp [hx])
        clear HN hx
        go_wp2
        go_roundw
        case rel => exact ⟨0 + 1, false, by go_num, rfl, by omega, HN'.out, hB3.out⟩
        case measure => simp [intOf]; omega
      · have e1 : (d1 == d) = false := by rw [beq_eq_false_iff_ne]; exact hx
        have HN' : Hid (_) := HN.out t (by simp [hx])
        clear HN hx
        go_wp2
        go_roundw
        case rel => exact ⟨0 + 1, t, by go_num, rfl, by omega, HN'.out, hB3.out⟩
        case measure => simp [intOf]; omega
    | succ m =>
      have hc0 : wr.cell? ⟨ad.block, ad.off + (m + 1) * 2, none⟩ = some (.int .i64 d1) := c1
      have hl1 : (m : Int) + 1 < M := by omega
      have hl2 : m + 1 < M := by omega
      by_cases hx : d1 = d
      · have e1 : (d1 == d) = true := by rw [beq_iff_eq]; exact hx
        have HN' : Hid (_) := HN.out false (by simp [hx])
        clear HN hx
        go_wp2
        go_roundw
        case rel => exact ⟨m + 1 + 1, false, by go_num, rfl, by omega, HN'.out, hB3.out⟩
        case measure => simp [intOf]; omega
      · have e1 : (d1 == d) = false := by rw [beq_eq_false_iff_ne]; exact hx
        have HN' : Hid (_) := HN.out t (by simp [hx])
        clear HN hx
        go_wp2
        go_roundw
        case rel => exact ⟨m + 1 + 1, t, by go_num, rfl, by omega, HN'.out, hB3.out⟩
        case measure => simp [intOf]; omega
  case neg =>
  have T3 : Hid (t = true ↔ m1 = true ∧ ∀ (j : Nat), j < M → pM' E.mv j ≠ d) := by
    show _ ↔ _
    rw [HT.out]
    exact ⟨fun q => ⟨q.1, fun j hj => q.2 j (by omega)⟩, fun q => ⟨q.1, fun j hj => q.2 j (by omega)⟩⟩
  have hlt' : ¬ (m : Int) < M := by omega
  have H9 : Hid (_) := h9
  have HB3 : Hid (Below w1.heap.size w1 wr) := below_then hB1.out (below_then hBc.out (below_then hB2.out hB3.out))
  clear HT
  go_wp2
  clear hlt hlt' h9
  rename World => w3
  go_loopw [12, 14, 15] (fun ov iv _ wq => ∃ (i : Nat) (t' : Bool), iv = .int .i64 i ∧ ov = .bool t' ∧ i ≤ M ∧ Hid (t' = true ↔ t = true ∨ ∃ j, j < i ∧ qM' E.mv j = d ∧ one (pM' E.mv j) = true) ∧ Hid (Below w3.heap.size w3 wq)) (fun _ iv _ _ => M - (intOf iv).toNat)
  case atStart => exact ⟨0, t, rfl, rfl, Nat.zero_le _, ⟨fun q => .inl q, fun q => by rcases q with q | ⟨j, hj, _⟩; exact q; exact absurd hj (by omega)⟩, Below.refl _ _⟩
  case round =>
  obtain ⟨m, t4, rfl, rfl, hmM4, HT4, hB4⟩ := hrel
  have h10 := below_then H9.out hB4.out
  clear x0 x1 x2 x3 x4 x5 x6 x7 x8 x9 x10
  obtain ⟨x0, x1, x2, x3, x4, x5, x6, x7, x8, x9, x10⟩ := blk11 (show wr.heap[w.heap.size]? = _ from BX.out _ h10)
  by_cases hlt : m < M
  case pos =>
    obtain ⟨ad, rfl, hc⟩ := ZM.out m hlt
    obtain ⟨c1, c2⟩ := hc _ (base.out _ h10)
    have HN : Hid (∀ t' : Bool, (t' = true ↔ t4 = true ∨ (qM' E.mv m = d ∧ one (pM' E.mv m) = true)) → (t' = true ↔ t = true ∨ ∃ j, j < m + 1 ∧ qM' E.mv j = d ∧ one (pM' E.mv j) = true)) := fun t' h => by
      rw [h, HT4.out]
      constructor
      · rintro ((q | ⟨j, q1, q2⟩) | q)
        · exact .inl q
        · exact .inr ⟨j, by omega, q2⟩
        · exact .inr ⟨m, by omega, q⟩
      · rintro (q | ⟨j, q1, q2⟩)
        · exact .inl (.inl q)
        · by_cases ej : j = m
          · subst ej; exact .inr q2
          · exact .inl (.inr ⟨j, by omega, q2⟩)
    have IOz : Hid (_) := IO.out (pM' E.mv m)
    generalize one (pM' E.mv m) = b1 at HN IOz
    generalize pM' E.mv m = d1 at c1 IOz
    generalize qM' E.mv m = d2 at c2 HN
    have IOq : Hid (∀ dd os, Calls Tryz.prog 32 #[.int .i64 E.st, .agg #[.string E.f, .int .i64 E.e, .slice ra E.ds.length rc, .int .i64 E.c, .int .i64 E.u], .int .i64 d1] (grow (redrawn wr dd) os) fun r w'' => r = .returned (.bool b1) ∧ ∃ p : Regrown, w'' = grow (redrawn wr p.d) p.os) := fun dd os => Calls.regrown_of (IOz.out _ (below_then (base.out _ h10) (below_regrown _ _ _)))
    clear hc HT4 HY HO HK HK' OD' M1 OD T3 IOz
    have hl0 : (m : Int) < M := by omega
    cases m with
    | zero =>
      have hc0 : wr.cell? ad = some (.int .i64 d1) := c1
      have hc1 : wr.cell? ⟨ad.block, ad.off + 1, none⟩ = some (.int .i64 d2) := c2
      have hl1 : 0 < M := by omega
      have X0 := cell_regrown x0
      have X2 := cell_regrown x2
      have X4 := cell_regrown x4
      have X5 := cell_regrown x5
      have X6 := cell_regrown x6
      have X7 := cell_regrown x7
      have X8 := cell_regrown x8
      have X10 := cell_regrown x10
      have Xc0 := cell_regrown hc0
      have Xc1 := cell_regrown c1
      by_cases hx : d2 = d
      · have e1 : (d2 == d) = true := by rw [beq_iff_eq]; exact hx
        cases b1 with
        | true =>
          have HN' : Hid (t = true ∨ ∃ j, j < 0 + 1 ∧ qM' E.mv j = d ∧ one (pM' E.mv j) = true) := (HN.out true (by simp [hx])).1 rfl
          clear HN hx
          go_wp2_with (fail)
          refine wp_region_quiet_below (by kernel_rfl) (by kernel_rfl) ?_
          repeat (quiet_step (first | (go_at_call 32; exact IOq.out _ _)))
          refine wpQuiet_nil ?_
          intro wn hw'
          have hbn : Below wr.heap.size wr wn := by
            obtain ⟨⟨dq, osq⟩, hw''⟩ := hw'
            subst hw''
            exact below_regrown _ _ _
          clear hw' IOq
          go_wp2
          go_roundw
          case rel => exact ⟨0 + 1, true, by go_num, rfl, by omega, ⟨fun _ => HN'.out, fun _ => rfl⟩, below_then hB4.out hbn⟩
          case measure => simp [intOf]; omega
        | false =>
          have HN' : Hid (_) := HN.out t4 (by simp)
          clear HN hx
          go_wp2_with (fail)
          refine wp_region_quiet_below (by kernel_rfl) (by kernel_rfl) ?_
          repeat (quiet_step (first | (go_at_call 32; exact IOq.out _ _)))
          refine wpQuiet_nil ?_
          intro wn hw'
          have hbn : Below wr.heap.size wr wn := by
            obtain ⟨⟨dq, osq⟩, hw''⟩ := hw'
            subst hw''
            exact below_regrown _ _ _
          clear hw' IOq
          go_wp2
          go_roundw
          case rel => exact ⟨0 + 1, t4, by go_num, rfl, by omega, HN'.out, below_then hB4.out hbn⟩
          case measure => simp [intOf]; omega
      · have e1 : (d2 == d) = false := by rw [beq_eq_false_iff_ne]; exact hx
        have HN' : Hid (_) := HN.out t4 (by simp [hx])
        clear HN hx X0 X2 X4 X5 X6 X7 X8 X10 Xc0 Xc1
        go_wp2
        go_roundw
        case rel => exact ⟨0 + 1, t4, by go_num, rfl, by omega, HN'.out, hB4.out⟩
        case measure => simp [intOf]; omega
    | succ m =>
      have hc0 : wr.cell? ⟨ad.block, ad.off + (m + 1) * 2, none⟩ = some (.int .i64 d1) := c1
      have hc1 : wr.cell? ((ad.add ((m + 1) * 2)).add 1) = some (.int .i64 d2) := by
        have e : (ad.add ((m + 1) * 2)).add 1 = ad.add ((m + 1) * 2 + 1) := Deep.add_add _ _ _
        rw [e]; exact c2
      have hc2 : wr.cell? ⟨ad.block, ad.off + (m + 1) * 2 + 1, none⟩ = some (.int .i64 d2) := hc1
      have hc3 : wr.cell? ⟨(ad.add ((m + 1) * 2)).block, (ad.add ((m + 1) * 2)).off + 1, none⟩ = some (.int .i64 d2) := hc1
      have hl1 : (m : Int) + 1 < M := by omega
      have hl2 : m + 1 < M := by omega
      have hq0 : 0 ≤ (m : Int) + 1 := by omega
      have hq1 : ((m : Int) + 1).toNat = m + 1 := by omega
      have X0 := cell_regrown x0
      have X2 := cell_regrown x2
      have X4 := cell_regrown x4
      have X5 := cell_regrown x5
      have X6 := cell_regrown x6
      have X7 := cell_regrown x7
      have X8 := cell_regrown x8
      have X10 := cell_regrown x10
      have Xc0 := cell_regrown hc0
      have Xc1 := cell_regrown c1
      by_cases hx : d2 = d
      · have e1 : (d2 == d) = true := by rw [beq_iff_eq]; exact hx
        cases b1 with
        | true =>
          have HN' : Hid (t = true ∨ ∃ j, j < m + 1 + 1 ∧ qM' E.mv j = d ∧ one (pM' E.mv j) = true) := (HN.out true (by simp [hx])).1 rfl
          clear HN hx
          go_wp2_with (fail)
          refine wp_region_quiet_below (by kernel_rfl) (by kernel_rfl) ?_
          repeat (quiet_step (first | (go_at_call 32; exact IOq.out _ _)))
          refine wpQuiet_nil ?_
          intro wn hw'
          have hbn : Below wr.heap.size wr wn := by
            obtain ⟨⟨dq, osq⟩, hw''⟩ := hw'
            subst hw''
            exact below_regrown _ _ _
          clear hw' IOq
          go_wp2
          go_roundw
          case rel => exact ⟨m + 1 + 1, true, by go_num, rfl, by omega, ⟨fun _ => HN'.out, fun _ => rfl⟩, below_then hB4.out hbn⟩
          case measure => simp [intOf]; omega
        | false =>
          have HN' : Hid (_) := HN.out t4 (by simp)
          clear HN hx
          go_wp2_with (fail)
          refine wp_region_quiet_below (by kernel_rfl) (by kernel_rfl) ?_
          repeat (quiet_step (first | (go_at_call 32; exact IOq.out _ _)))
          refine wpQuiet_nil ?_
          intro wn hw'
          have hbn : Below wr.heap.size wr wn := by
            obtain ⟨⟨dq, osq⟩, hw''⟩ := hw'
            subst hw''
            exact below_regrown _ _ _
          clear hw' IOq
          go_wp2
          go_roundw
          case rel => exact ⟨m + 1 + 1, t4, by go_num, rfl, by omega, HN'.out, below_then hB4.out hbn⟩
          case measure => simp [intOf]; omega
      · have e1 : (d2 == d) = false := by rw [beq_eq_false_iff_ne]; exact hx
        have HN' : Hid (_) := HN.out t4 (by simp [hx])
        clear HN hx X0 X2 X4 X5 X6 X7 X8 X10 Xc0 Xc1
        go_wp2
        go_roundw
        case rel => exact ⟨m + 1 + 1, t4, by go_num, rfl, by omega, HN'.out, hB4.out⟩
        case measure => simp [intOf]; omega
  case neg =>
  have HOWN : Hid (own d = t4) := by
    show _ = _
    rw [Bool.eq_iff_iff, OD'.out, HT4.out, T3.out, M1.out]
    constructor
    · rintro (⟨j, q1, q2⟩ | ⟨q1, q2, q3⟩)
      · exact .inr ⟨j, by omega, q2⟩
      · exact .inl ⟨⟨q1, q2⟩, q3⟩
    · rintro (⟨⟨q1, q2⟩, q3⟩ | ⟨j, q1, q2⟩)
      · exact .inr ⟨q1, q2, q3⟩
      · exact .inl ⟨j, by omega, q2⟩
  have hlt' : ¬ (m : Int) < M := by omega
  have HO4 : Hid (Ow w1.heap.size wr (.slice oa o.length oc) o) := HO.out.step (below_then hBc.out (below_then hB2.out (below_then hB3.out hB4.out)))
  have HBr : Hid (Below w1.heap.size w1 wr) := below_then HB3.out hB4.out
  have HYs : Hid (Y = o ++ (if own d = true then d :: upTo own (d + 1) b else upTo own (d + 1) b)) := by
    show _ = _
    rw [HY.out, upTo_step hin]
  have HKn : Hid (∀ (j : Nat) (h : j < A.length), j < k' → A[j] < d + 1) := fun j h hj => by have := HK'.out j h hj; omega
  clear HT4 T3 M1 OD' HY HK HK' HO
  cases t4 with
  | false =>
    have HYn : Hid (Y = o ++ upTo own (d + 1) b) := by
      show _ = _
      rw [HYs.out, HOWN.out]; rfl
    have hle : ¬ (1000 : Int) < o.length := by omega
    clear HYs HOWN
    go_wp2
    go_roundw
    case rel => exact ⟨o, k', d + 1, rfl, by go_num, by omega, by omega, hk', ho1k, HO4.out, HYn.out, HKn.out, HBr.out⟩
    case measure => simp [intOf]; omega
  | true =>
    have HYn : Hid (Y = (o ++ [d]) ++ upTo own (d + 1) b) := by
      show _ = _
      rw [HYs.out, HOWN.out, List.append_assoc]; rfl
    clear HYs HOWN
    have OW1 : Hid (Ow w1.heap.size (wr.alloc (.cells #[.int .i64 d] 3)) (.slice oa o.length oc) o) := Ow.step HO4.out (below_alloc _ _)
    have NC : Hid (∀ j v, [Value.int .i64 d][j]? = some v → (wr.alloc (.cells #[.int .i64 d] 3)).cell? ((⟨wr.heap.size, 0, none⟩ : Addr).add j) = some v) := one_cell wr d
    have hbi1 : Hid (Below w1.heap.size w1 (wr.alloc (.cells #[.int .i64 d] 3))) := below_then HBr.out (below_alloc _ _)
    have hsz1 : w1.heap.size ≤ wr.heap.size := HBr.out.size
    go_upto_region 30 with (first
      | (at_builtin; refine wpList_append_own _ rfl _ _ 22 rfl w1.heap.size 3 i0 (.int .i64 0) 1 8 Tryz.underlying22 hi hz0 hz1 hz2 rfl (by decide) _ _ _ rfl OW1.out ⟨wr.heap.size, 0, none⟩ 1 1 [.int .i64 d] rfl rfl NC.out (fun v hv => by rw [List.mem_singleton.1 hv]; rfl) (by unfold maxLen; omega) (by omega) (by rw [World.size_alloc]; omega) ?_; intro v' w5 hown' hgrow _; obtain ⟨g', cap', rfl⟩ := ownsRow_succ hown')
      | go_in)
    have HB5 : Hid (Below w1.heap.size w1 w5) := hbi1.out.grown (show (wr.alloc (.cells #[.int .i64 d] 3)).grownBy w5 (Value.slice oa o.length oc).ownBlock from hgrow) hbi1.out.size (fun k q => (World.ownsRow.lt OW1.out k q).1)
    have HO5 : Hid (Ow w1.heap.size w5 (.slice (some ⟨g', 0, none⟩) (o.length + 1) cap') (o ++ [d])) := by
      show World.ownsRow _ _ _ _ _ _ _
      rw [List.length_append, List.map_append]; exact hown'
    clear hown' hgrow OW1 NC hbi1
    by_cases hfull : (1000 : Int) < (o.length : Int) + 1
    · have HYl : Hid (1000 < Y.length) := by
        show _ < _
        rw [HYn.out, List.length_append, List.length_append]
        simp
        omega
      go_wp2
      exact bodyPost_ret (v := .tuple #[.slice none 0 0, .bool true]) (by simp [results, Tryz.f13, go_sem]) rfl ⟨below_then (base.out _ H1.out) HB5.out, .inr ⟨HYl.out, rfl⟩⟩
    · go_wp2
      go_roundw
      case rel => exact ⟨o ++ [d], k', d + 1, rfl, by go_num, by omega, by omega, hk', by rw [List.length_append]; show o.length + 1 ≤ 1000; omega, HO5.out, HYn.out, HKn.out, HB5.out⟩
      case measure => simp [intOf]; omega
end Go.Proofs.YtijdnmkkdofbeaaGreatDoor
