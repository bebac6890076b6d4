/- The iterators of package expand that go by months, and the one of a single day. -/
import Derived.Test.YtfnajhpcbajhfabDoorExpI
import Derived.Test.YtfnajhpcbajhfabDoorExpM2
namespace Go.Proofs.YtfnajhpcbajhfabDoor
open Go Go.RowKit Go.Shelf Cal
attribute [local go_sem] Oper.semAt_some

theorem monthsLeft_any (n y m d : Int) (w : World) (h : vld y m d) (hn : num y m d = n) :
    Calls Tryd.prog 53 #[.int .i64 n] w fun e w' => e = .returned (.int .i64 (2399 - atM y m)) ∧ w' = w := by
  have hh := h
  obtain ⟨hy0, hy1, hm0, hm1, hd0, hd1⟩ := hh
  clear hd1
  go_enter Tryd.func53, Tryd.ntmps53
  go_wp2_with (go_at_call 57; refine (date_ok n y m d _ h hn).mono ?_; rintro e w' ⟨rfl, rfl⟩)
  go_ret
  exact ⟨ret_int (by unfold atM; omega), rfl⟩

/-- where the months' walk stands -/
def mpos (j mo : Int) : Int := F (min (j + mo) 2400)
theorem mpos_zero {j : Int} (h : j < 2400) : mpos j 0 = F j := by unfold mpos; rw [Int.add_zero, show min j 2400 = j by omega]
theorem mpos_in {j mo : Int} (h : j + mo < 2400) : mpos j mo = F (j + mo) := by unfold mpos; rw [show min (j + mo) 2400 = j + mo by omega]
theorem mpos_out {j mo : Int} (h : 2400 ≤ j + mo) : mpos j mo = 73049 := by unfold mpos; rw [show min (j + mo) 2400 = 2400 by omega, F_last]
theorem mpos_on {j mo e : Int} : mpos j (mo + e) = F (min (j + mo + e) 2400) := by unfold mpos; rw [Int.add_assoc]

set_option maxHeartbeats 2000000 in
theorem byMonths_iter {a b : Nat} (hab : b + 2 ≤ a) (s e y m dd : Int) (hv : vld y m dd) (hn : num y m dd = s) (he0 : 1 ≤ e) (he1 : e ≤ 1200) (Bs Be : Nat) (O : Nat → Prop) (Rd : World → Prop)
    (hR : ∀ W, Rd W → ∃ ev, W.cell? ⟨2, 0, none⟩ = some (.iface 103 (.pointer (some ev)))) (hO1 : O Bs) (hO2 : O Be) (W0 : World)
    (b1 : Boxed W0 Bs 3 (.int .i64 s)) (b2 : Boxed W0 Be 3 (.int .i64 e)) :
    Gives a b 52 #[.pointer (some ⟨Bs, 0, none⟩), .pointer (some ⟨Be, 0, none⟩)] O Rd (From (pM s e) s) W0 := by
  intro n l J0 J Jx hna hJ0 h01 hJ hJx hRd0 hRd hY h00
  have h0 := h01 _ h00 (Nat.le_refl _)
  have h1 : 1 ≤ n := by omega
  have hj := atM_bd hv
  have hyj := yM_atM hv
  have hda : 1 ≤ dd := hv.2.2.2.2.1
  have hdb : dd ≤ dim (yA (atM y m)) (mA (atM y m)) := by
    have e1 : yA (atM y m) = y := hyj.1
    have e2 : mA (atM y m) = m := hyj.2
    rw [e1, e2]; exact hv.2.2.2.2.2
  have hsn : num (yA (atM y m)) (mA (atM y m)) dd = s := by
    have e1 : yA (atM y m) = y := hyj.1
    have e2 : mA (atM y m) = m := hyj.2
    rw [e1, e2]; exact hn
  have hst : From (pM s e) s = From (pM s e) (mpos (atM y m) 0) := by
    rw [mpos_zero hj.2, ← hsn]; exact month_start hj.1 hj.2 hda hdb
  rw [hst] at h0
  have c1 := b1.cell
  have ML : Hid (∀ w, _) := fun w => monthsLeft_any s y m dd w hv hn
  have HIT : Hid (∀ mo : Int, 0 ≤ mo → atM y m + mo < 2400 → mo % e = 0 → dd ≤ dim (yM (atM y m + mo)) (mM (atM y m + mo)) → From (pM s e) (mpos (atM y m) mo) = num (yM (atM y m + mo)) (mM (atM y m + mo)) dd :: From (pM s e) (mpos (atM y m) (mo + e))) := fun mo q0 q1 q2 q3 => by
    rw [mpos_in q1, mpos_on, ← hsn]
    exact month_hit hj.1 hda hdb he0 (by omega) q1 (by rw [show atM y m + mo - atM y m = mo by omega]; exact q2) q3
  have MISS : Hid (∀ mo : Int, 0 ≤ mo → atM y m + mo < 2400 → mo % e = 0 → dim (yM (atM y m + mo)) (mM (atM y m + mo)) < dd → From (pM s e) (mpos (atM y m) mo) = From (pM s e) (mpos (atM y m) (mo + e))) := fun mo q0 q1 q2 q3 => by
    rw [mpos_in q1, mpos_on, ← hsn]
    exact month_miss hj.1 hda hdb he0 (by omega) q1 (by rw [show atM y m + mo - atM y m = mo by omega]; exact q2) q3
  have AOK : Hid (∀ (mo : Int) (w : World), 0 ≤ mo → atM y m + mo < 2400 → dd ≤ dim (yM (atM y m + mo)) (mM (atM y m + mo)) → _) := fun mo w q0 q1 q2 => add_ok s mo y m dd w hv hn (by omega) q1 q2
  have ABAD : Hid (∀ (mo : Int) (w : World) (ev : Addr), 0 ≤ mo → atM y m + mo < 2400 → dim (yM (atM y m + mo)) (mM (atM y m + mo)) < dd → w.cell? ⟨2, 0, none⟩ = some (.iface 103 (.pointer (some ev))) → _) := fun mo w ev q0 q1 q2 q3 => add_bad s mo y m dd ev w hv hn (by omega) q1 q2 q3
  have HY : Hid (_) := hY
  have HJ : Hid (_) := hJ
  have HR : Hid (∀ h r W, J h r W → _) := fun h r W q => hR W (hRd h r W q)
  have B1 : Hid (_) := b1
  have B2 : Hid (_) := b2
  have H0 : Hid (_) := h0
  have hj0 := hj.1
  have hj1 := hj.2
  generalize atM y m = j at ML HIT MISS AOK ABAD H0 hj0 hj1
  clear hY hJ hJx hRd b1 b2 h0 hR hJ0 h01 hRd0 h00 hst hsn hda hdb hyj hj hv hn
  refine callsIn_of_wp Tryd.func52 rfl trivial ?_ rfl
  simp only [Tryd.ntmps52, List.size_toArray, List.length_cons, List.length_nil, Nat.reduceAdd, Nat.reduceSub, Array.replicate_succ, Array.replicate_zero, List.push_toArray, List.append_toArray, List.nil_append, List.cons_append]
  gi_wp2_with (refine ⟨trivial, ?_⟩; gi_at_call 53; refine (callsIn_wide.2 (ML.out _)).mono ?_; rintro r w' ⟨rfl, rfl⟩)
  clear c1
  gi_loopw [5] (fun d wr => ∃ v : Int, d = .int .i64 v ∧ 0 ≤ v ∧ v ≤ 3600 ∧ Hid (v % e = 0) ∧ Hid (J w'.heap.size (From (pM s e) (mpos j v)) wr) ∧ Hid (Boxed wr Bs 3 (.int .i64 s)) ∧ Hid (Boxed wr Be 3 (.int .i64 e)) ∧ w'.heap.size ≤ wr.heap.size) (fun d _ => (3601 - intOf d).toNat)
  case atStart => exact ⟨0, rfl, Int.le_refl _, by omega, show (0 : Int) % e = 0 by simp, H0.out, B1.out, B2.out, Nat.le_refl _⟩
  case round =>
    obtain ⟨v, rfl, hv0, hv1, hm, hJ, hB1, hB2, hsz⟩ := hrel
    by_cases hv : v ≤ 2399 - j
    · have hc := hB1.out.cell
      by_cases hd : dd ≤ dim (yM (j + v)) (mM (j + v))
      · have hJ' := hJ.out
        rw [HIT.out v hv0 (by omega) hm.out hd] at hJ'
        have A : Hid (_) := AOK.out v wr hv0 (by omega) hd
        have HJ' : Hid (_) := hJ'
        clear hJ' hd HIT MISS AOK ABAD
        generalize num (yM (j + v)) (mM (j + v)) dd = x at HJ' A
        gi_wp2_with (refine ⟨trivial, ?_⟩; gi_at_call 54; refine (callsIn_wide.2 A.out).mono ?_; rintro r w2 ⟨rfl, hb2⟩; obtain ⟨fn, tmps, assign, body, hy, hR⟩ := HY.out (n - 1) w'.heap.size x _ w2 (by omega) (Nat.le_refl _) (Nat.le_trans hsz hb2.size) (HJ.out _ _ _ _ (Nat.le_refl _) HJ'.out (Steps.of_below hb2)))
        refine hR.mono ?_
        rintro r W3 ⟨hS, (⟨rfl, hJ3⟩ | ⟨rfl, hJx3⟩)⟩
        · have q1 : Boxed W3 Bs 3 (.int .i64 s) := hS.box ((Steps.of_below (p := fun _ => True) hb2).box hB1.out trivial) (.inl hO1)
          have q2 : Boxed W3 Be 3 (.int .i64 e) := hS.box ((Steps.of_below (p := fun _ => True) hb2).box hB2.out trivial) (.inl hO2)
          have c3 := q2.cell
          have hsz3 := Nat.le_trans hsz (Nat.le_trans hb2.size hS.size)
          have HJ3 : Hid (_) := hJ3
          have Q1 : Hid (_) := q1
          have Q2 : Hid (_) := q2
          have HM : Hid ((v + e) % e = 0) := mod_on hm.out
          clear q1 q2 hJ3 hS
          gi_wp2
          go_roundw
          case rel => exact ⟨v + e, by go_num, by omega, by omega, HM, HJ3, Q1, Q2, hsz3⟩
          case measure => simp [intOf]; omega
        · gi_wp2
          refine bodyPost_ret (results_none rfl _ _ _) rfl ?_
          exact ⟨⟨_, rfl⟩, w'.heap.size, Nat.le_refl _, Nat.le_trans hsz (Nat.le_trans hb2.size hS.size), .inr hJx3⟩
      · have hJ' := hJ.out
        rw [MISS.out v hv0 (by omega) hm.out (by omega)] at hJ'
        obtain ⟨ev, hev⟩ := HR.out _ _ _ hJ'
        have A : Hid (_) := ABAD.out v wr ev hv0 (by omega) (by omega) hev
        have HJ' : Hid (_) := hJ'
        clear hJ' hd HIT MISS AOK ABAD hev
        gi_wp2_with (first
          | (refine ⟨trivial, ?_⟩; gi_at_call 54; refine (callsIn_wide.2 A.out).mono ?_; rintro r w2 ⟨rfl, hb2⟩; have q1 : Boxed w2 Bs 3 (.int .i64 s) := ((Steps.of_below (p := fun _ => True) hb2).box hB1.out trivial); have q2 : Boxed w2 Be 3 (.int .i64 e) := ((Steps.of_below (p := fun _ => True) hb2).box hB2.out trivial); have c3 := q2.cell; have Q1 : Hid (_) := q1; have Q2 : Hid (_) := q2; clear q1 q2)
          | fail)
        refine ⟨fun _ h => (by cases h), ?_⟩
        have HM : Hid ((v + e) % e = 0) := mod_on hm.out
        gi_wp2
        go_roundw
        case rel => exact ⟨v + e, by go_num, by omega, by omega, HM, HJ.out _ _ _ _ (Nat.le_refl _) HJ'.out (Steps.of_below hb2), Q1, Q2, Nat.le_trans hsz hb2.size⟩
        case measure => simp [intOf]; omega
    · have hJ' := hJ.out
      rw [mpos_out (by omega), From_end (by omega)] at hJ'
      have HJ' : Hid (_) := hJ'
      clear hJ'
      gi_wp2
      go_end0
      exact ⟨⟨_, rfl⟩, w'.heap.size, Nat.le_refl _, hsz, .inl HJ'.out⟩

theorem once_iter {a b : Nat} (hab : b + 2 ≤ a) (s : Int) (Bs : Nat) (O : Nat → Prop) (Rd : World → Prop) (hs : s ≤ 73048) (W0 : World) (b1 : Boxed W0 Bs 3 (.int .i64 s)) :
    Gives a b 42 #[.pointer (some ⟨Bs, 0, none⟩)] O Rd (From (fun d => decide (d = s)) s) W0 := by
  intro n l J0 J Jx hna hJ0 h01 hJ hJx hRd0 hRd hY h00
  have h0 := h01 _ h00 (Nat.le_refl _)
  have h1 : 1 ≤ n := by omega
  rw [From_hit hs (by simp), From_to (b := max 73049 (s + 1)) (by omega) (fun x h1 h2 => by simp; omega), From_end (by omega)] at h0
  have c1 := b1.cell
  obtain ⟨fn, tmps, assign, body, hy, hR⟩ := hY (n - 1) W0.heap.size s _ W0 (by omega) (Nat.le_refl _) (Nat.le_refl _) h0
  clear hY hJ hJx hRd h0 hJ0 h01 hRd0 h00
  refine callsIn_of_wp Tryd.func42 rfl trivial ?_ rfl
  simp only [Tryd.ntmps42, List.size_toArray, List.length_cons, List.length_nil, Nat.reduceAdd, Nat.reduceSub, Array.replicate_succ, Array.replicate_zero, List.push_toArray, List.append_toArray, List.nil_append, List.cons_append]
  gi_wp2
  refine hR.mono ?_
  rintro r W3 ⟨hS, (⟨rfl, hJ3⟩ | ⟨rfl, hJx3⟩)⟩
  · gi_wp2
    go_end0
    exact ⟨⟨_, rfl⟩, W0.heap.size, Nat.le_refl _, hS.size, .inl hJ3⟩
  · gi_wp2
    go_end0
    exact ⟨⟨_, rfl⟩, W0.heap.size, Nat.le_refl _, hS.size, .inr hJx3⟩
end Go.Proofs.YtfnajhpcbajhfabDoor
