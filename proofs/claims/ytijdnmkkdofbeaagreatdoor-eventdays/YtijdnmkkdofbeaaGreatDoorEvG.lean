/- Package event's Covers: is a day within an event? -/
import Derived.Test.YtijdnmkkdofbeaaGreatDoorEvD
namespace Go.Proofs.YtijdnmkkdofbeaaGreatDoor
open Go Go.RowKit Cal
attribute [local go_sem] Oper.semAt_some

/-- numbers that rise from a to b: at most so many -/
theorem rise_len : ∀ {l : List Int} {a b : Int}, l.Pairwise (· < ·) → (∀ x ∈ l, a ≤ x ∧ x ≤ b) → (l.length : Int) ≤ max 0 (b - a + 1)
  | [], _, _, _, _ => by simp; omega
  | x :: r, a, b, hp, hb => by
    rw [List.pairwise_cons] at hp
    have hx := hb x (List.mem_cons_self ..)
    have ih := rise_len (l := r) (a := x + 1) (b := b) hp.2 (fun y hy => ⟨by have := hp.1 y hy; omega, (hb y (List.mem_cons_of_mem _ hy)).2⟩)
    rw [List.length_cons]
    omega
theorem eds_len (E : EV) (a b : Int) : ((eds E a b).length : Int) ≤ max 0 (b - a + 1) :=
  rise_len (evs_rise ..) (fun x hx => by have := mem_evs.1 hx; exact ⟨this.2.2.1, this.2.2.2.1⟩)
/-- is a day covered? -/
def covers (E : EV) (d : Int) : Prop := (0 ≤ d ∧ d ≤ 73048) ∧ EW E ∧ eds E (d - E.lg + 1) d ≠ []

set_option maxHeartbeats 1000000 in
theorem covers_any (E : EV) (sl skv mvv : Value) (d : Int) (s : Nat → Addr) (w : World) (g : GlobK s w) (hd : Days w sl E.ds) (hs : Ints w skv E.sk) (hm : Movs w mvv E.mv) (h30 : E.id.size ≤ 60) (h60 : E.ti.size ≤ 60) (b : Bool) (hb : b = true ↔ covers E d) :
    Calls Tryz.prog 10 #[ev E sl skv mvv, .int .i64 d] w fun r w' => r = .returned (.bool b) ∧ Below w.heap.size w w' := by
  have HB : Hid (b = true ↔ (0 ≤ d ∧ d ≤ 73048) ∧ EW E ∧ eds E (d - E.lg + 1) d ≠ []) := hb
  clear hb
  have hA := below_alloc w (.cells #[.string E.id, .string E.ti, .int .i64 E.st, .int .i64 E.lg, .string E.f, .int .i64 E.e, sl, .int .i64 E.c, .int .i64 E.u, skv, mvv] 27)
  have hB := EB.new w E sl skv mvv
  have ID : Hid (∀ W, Calls Tryz.prog 24 #[.int .i64 d] W fun r w' => r = .returned (.bool (decide (0 ≤ d ∧ d ≤ 73048))) ∧ w' = W) := fun W => eisDay_any d W _ (by simp)
  obtain ⟨k, hk⟩ := evK_ex E
  have CK : Hid (∀ W, Below w.heap.size w W → Calls Tryz.prog 17 #[ev E sl skv mvv] W fun r w' => r = .returned (errV s k) ∧ Below W.heap.size W w') := fun W h => evCheck_k E sl skv mvv k s W (g.step h) (hd.step h) (hs.step h) (hm.step h) h30 h60 hk
  have DY : Hid (EW E → ∀ W, Below w.heap.size w W → Calls Tryz.prog 9 #[ev E sl skv mvv, .int .i64 (d - E.lg + 1), .int .i64 d] W fun r w' => Below W.heap.size W w' ∧
      (((eds E (d - E.lg + 1) d).length ≤ 1000 ∧ ∃ v, r = .returned (.tuple #[v, .nilIface]) ∧ Ow W.heap.size w' v (eds E (d - E.lg + 1) d)) ∨ (1000 < (eds E (d - E.lg + 1) d).length ∧ r = .returned (.tuple #[.slice none 0 0, .iface 181 (.pointer (some (s 6)))])))) := fun hw W h => edays_ok E sl skv mvv _ _ s W (g.step h) (hd.step h) (hs.step h) (hm.step h) h30 h60 hw
  have KW : Hid (k = 0 ↔ EW E) := evK_0 hk
  have HLN : Hid (EW E → (eds E (d - E.lg + 1) d).length ≤ 60) := fun hw => by
    have := eds_len E (d - E.lg + 1) d
    have := hw.bd.2
    omega
  have LB : Hid (EW E → 1 ≤ E.lg ∧ E.lg ≤ 60) := fun hw => hw.bd.2
  obtain ⟨ra, rc, rfl, _⟩ := hd
  obtain ⟨sa, sc, rfl, _⟩ := hs
  obtain ⟨ma, mc, rfl, _⟩ := hm
  have HA : Hid (_) := hA
  clear hA hk g
  generalize hR : eds E (d - E.lg + 1) d = R at HB DY HLN
  clear hR
  generalize EW E = P at HB DY KW HLN LB
  obtain ⟨idn, ti, st, lg, f, e, ds, c, u, sk, mv⟩ := E
  unfold ev EB at *
  dsimp only at *
  generalize hw0 : w.alloc (.cells #[.string idn, .string ti, .int .i64 st, .int .i64 lg, .string f, .int .i64 e, .slice ra ds.length rc, .int .i64 c, .int .i64 u, .slice sa sk.length sc, .slice ma mv.length mc] 27) = w0 at HA hB
  obtain ⟨x0, x1, x2, x3, x4, x5, x6, x7, x8, x9, x10⟩ := blk11 hB
  have BX : Hid (∀ W, Below w0.heap.size w0 W → _) := fun W h => blk11 ((h.block _ (Array.getElem?_eq_some_iff.1 hB).1).trans hB)
  clear hB
  by_cases hdd : 0 ≤ d ∧ d ≤ 73048
  case neg =>
    have hb : b = false := by
      cases b with
      | false => rfl
      | true => exact absurd (HB.out.1 rfl).1 hdd
    rw [decide_eq_false hdd] at ID
    subst hb
    clear HB DY HLN CK BX KW
    go_enter Tryz.func10, Tryz.ntmps10
    go_wp2_with (go_at_call 24; refine (ID.out _).mono ?_; rintro r w1 ⟨rfl, rfl⟩)
    go_ret
    exact ⟨rfl, HA.out⟩
  case pos =>
  rw [decide_eq_true hdd] at ID
  by_cases hP : P
  case neg =>
    have hb : b = false := by
      cases b with
      | false => rfl
      | true => exact absurd (HB.out.1 rfl).2.1 hP
    have hk0 : k ≠ 0 := fun q => hP (KW.out.1 q)
    obtain ⟨p, hp⟩ := errV_ne (s := s) hk0
    rw [hp] at CK
    subst hb
    clear HB DY HLN BX KW hk0 hp LB
    go_enter Tryz.func10, Tryz.ntmps10
    go_wp2_with (first
      | (go_at_call 24; refine (ID.out _).mono ?_; rintro r w1 ⟨rfl, rfl⟩)
      | (go_at_call 17; refine (CK.out _ HA.out).mono ?_; rintro r w1 ⟨rfl, hb1⟩))
    go_ret
    exact ⟨rfl, below_then HA.out hb1⟩
  case pos =>
    have hk0 : k = 0 := KW.out.2 hP
    rw [hk0, errV_0] at CK
    have HR : Hid (b = decide (0 < R.length)) := by
      show _ = _
      rw [Bool.eq_iff_iff, HB.out, decide_eq_true_iff]
      constructor
      · intro q; exact List.length_pos_iff.2 q.2.2
      · intro q; exact ⟨hdd, hP, List.length_pos_iff.1 q⟩
    have hl60 := HLN.out hP
    obtain ⟨hl1, hl2⟩ := LB.out hP
    have DY2 : Hid (∀ W, Below w.heap.size w W → Calls Tryz.prog 9 #[.agg #[.string idn, .string ti, .int .i64 st, .int .i64 lg, .string f, .int .i64 e, .slice ra ds.length rc, .int .i64 c, .int .i64 u, .slice sa sk.length sc, .slice ma mv.length mc], .int .i64 (d - lg + 1), .int .i64 d] W fun r w' => ∃ va vc, r = .returned (.tuple #[.slice va R.length vc, .nilIface]) ∧ Below W.heap.size W w') := fun W h => by
      refine (DY.out hP W h).mono ?_
      rintro r w' ⟨hbw, (⟨_, v, rfl, ho⟩ | ⟨q, _⟩)⟩
      · obtain ⟨va, vc, rfl⟩ := ow_form ho
        exact ⟨va, vc, rfl, hbw⟩
      · omega
    obtain ⟨hd1, hd2⟩ := hdd
    clear HB DY HLN KW hk0 LB hP
    go_enter Tryz.func10, Tryz.ntmps10
    go_wp2_with (first
      | (go_at_call 24; refine (ID.out _).mono ?_; rintro r w1 ⟨rfl, rfl⟩)
      | (go_at_call 17; refine (CK.out _ HA.out).mono ?_; rintro r w1 ⟨rfl, hb1⟩; obtain ⟨y0, y1, y2, y3, y4, y5, y6, y7, y8, y9, y10⟩ := BX.out _ hb1)
      | (go_at_call 9; refine (DY2.out _ (below_then HA.out hb1)).mono ?_; rintro r w2 ⟨va, vc, rfl, hb2⟩))
    all_goals
      go_ret
      refine ⟨ret_bool ?_, below_then HA.out (below_then hb1 hb2)⟩
      rw [HR.out]
end Go.Proofs.YtijdnmkkdofbeaaGreatDoor
