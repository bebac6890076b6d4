/- Contracts of package expand's makers of iterators, of its check, and of the candidates: an iterator that gives the candidates of a start and a rule that are well. -/
import Derived.Test.YtfnajhpcbajhfabDoorExpI3
import Derived.Test.YtfnajhpcbajhfabDoorExpG
namespace Go.Proofs.YtfnajhpcbajhfabDoor
open Go Go.RowKit Go.Shelf Cal

theorem byDays_any (s e : Int) (w : World) : Calls Tryd.prog 39 #[.int .i64 s, .int .i64 e] w fun r w' =>
    r = .returned (.func (.func 50) #[] #[.pointer (some ⟨w.heap.size, 0, none⟩), .pointer (some ⟨w.heap.size + 1, 0, none⟩)]) ∧ w' = (w.alloc (.cells #[.int .i64 s] 3)).alloc (.cells #[.int .i64 e] 3) := by
  go_enter Tryd.func39, Tryd.ntmps39
  go_wp2
  go_ret
  exact ⟨rfl, rfl⟩
theorem byMonths_any (s e : Int) (w : World) : Calls Tryd.prog 41 #[.int .i64 s, .int .i64 e] w fun r w' =>
    r = .returned (.func (.func 52) #[] #[.pointer (some ⟨w.heap.size, 0, none⟩), .pointer (some ⟨w.heap.size + 1, 0, none⟩)]) ∧ w' = (w.alloc (.cells #[.int .i64 s] 3)).alloc (.cells #[.int .i64 e] 3) := by
  go_enter Tryd.func41, Tryd.ntmps41
  go_wp2
  go_ret
  exact ⟨rfl, rfl⟩
theorem byWeeks_any (s e : Int) (a : Option Addr) (n cap : Nat) (w : World) : Calls Tryd.prog 40 #[.int .i64 s, .int .i64 e, .slice a n cap] w fun r w' =>
    r = .returned (.func (.func 51) #[] #[.pointer (some ⟨w.heap.size, 0, none⟩), .pointer (some ⟨w.heap.size + 2, 0, none⟩), .pointer (some ⟨w.heap.size + 1, 0, none⟩)]) ∧ w' = ((w.alloc (.cells #[.int .i64 s] 3)).alloc (.cells #[.int .i64 e] 3)).alloc (.cells #[.slice a n cap] 22) := by
  go_enter Tryd.func40, Tryd.ntmps40
  go_wp2
  go_ret
  exact ⟨rfl, rfl⟩

/-- what an iterator of candidates reads -/
def RdC (sl : Value) (ds : List Int) (W : World) : Prop := Glob W ∧ Days W sl ds
/-- a maker has handed back an iterator that gives these days -/
def Cand (sl : Value) (ds cs : List Int) (w : World) (g : Nat) (lb : Array Value) (w' : World) : Prop :=
  Below w.heap.size w w' ∧ (∀ args v, (callFunc g args).run Tryd.prog v = .ok (.enter g args) v) ∧
    ∀ (aa bb : Nat) (W : World), bb + 2 ≤ aa → Below w'.heap.size w' W → Gives aa bb g lb (fun k => w.heap.size ≤ k ∧ k < w'.heap.size) (RdC sl ds) cs W

theorem cand_daily {sl : Value} {ds : List Int} {s e : Int} (hs0 : 0 ≤ s) (hs1 : s ≤ 73048) (he0 : 1 ≤ e) (he1 : e ≤ 100) {w w1 : World} (hb : Below w.heap.size w w1) :
    Cand sl ds (From (pD s e) s) w 50 #[.pointer (some ⟨w1.heap.size, 0, none⟩), .pointer (some ⟨w1.heap.size + 1, 0, none⟩)] ((w1.alloc (.cells #[.int .i64 s] 3)).alloc (.cells #[.int .i64 e] 3)) := by
  refine ⟨below_then hb (below_box2 _ _ _), enters_of Tryd.func50 (by kernel_rfl) rfl, fun aa bb W hab hB => ?_⟩
  have hs := hb.size
  have b1 : Boxed W w1.heap.size 3 (.int .i64 s) := (hB.block _ (by simp; omega)).trans (block_alloc _ (block_at _ rfl))
  have b2 : Boxed W (w1.heap.size + 1) 3 (.int .i64 e) := (hB.block _ (by simp)).trans (block_at _ (by simp))
  exact byDays_iter hab s e hs0 hs1 he0 he1 _ _ _ _ ⟨by omega, by simp⟩ W b1 b2
theorem cand_monthly {sl : Value} {ds : List Int} {s e : Int} (hs0 : 0 ≤ s) (hs1 : s ≤ 73048) (he0 : 1 ≤ e) (he1 : e ≤ 1200) {w w1 : World} (hb : Below w.heap.size w w1) :
    Cand sl ds (From (pM s e) s) w 52 #[.pointer (some ⟨w1.heap.size, 0, none⟩), .pointer (some ⟨w1.heap.size + 1, 0, none⟩)] ((w1.alloc (.cells #[.int .i64 s] 3)).alloc (.cells #[.int .i64 e] 3)) := by
  refine ⟨below_then hb (below_box2 _ _ _), enters_of Tryd.func52 (by kernel_rfl) rfl, fun aa bb W hab hB => ?_⟩
  have hs := hb.size
  have b1 : Boxed W w1.heap.size 3 (.int .i64 s) := (hB.block _ (by simp; omega)).trans (block_alloc _ (block_at _ rfl))
  have b2 : Boxed W (w1.heap.size + 1) 3 (.int .i64 e) := (hB.block _ (by simp)).trans (block_at _ (by simp))
  obtain ⟨y, m, d, hv, hn⟩ := exists_date s hs0 hs1
  exact byMonths_iter hab s e y m d hv hn he0 he1 _ _ _ _ (fun W h => h.1.bound) ⟨by omega, by simp; omega⟩ ⟨by omega, by simp⟩ W b1 b2
theorem cand_weekly {a : Option Addr} {cap : Nat} {ds : List Int} {s e : Int} (hs0 : 0 ≤ s) (hs1 : s ≤ 73048) (he0 : 1 ≤ e) (he1 : e ≤ 100) (hD : bD ds) (hR : Rise ds) {w w1 : World} (hb : Below w.heap.size w w1) :
    Cand (.slice a ds.length cap) ds (From (pW s e (wds s ds)) s) w 51 #[.pointer (some ⟨w1.heap.size, 0, none⟩), .pointer (some ⟨w1.heap.size + 2, 0, none⟩), .pointer (some ⟨w1.heap.size + 1, 0, none⟩)]
      (((w1.alloc (.cells #[.int .i64 s] 3)).alloc (.cells #[.int .i64 e] 3)).alloc (.cells #[.slice a ds.length cap] 22)) := by
  refine ⟨below_then hb (below_then (below_box2 _ _ _) (below_alloc _ _)), enters_of Tryd.func51 (by kernel_rfl) rfl, fun aa bb W hab hB => ?_⟩
  have hs := hb.size
  have b1 : Boxed W w1.heap.size 3 (.int .i64 s) := (hB.block _ (by simp; omega)).trans (block_alloc _ (block_alloc _ (block_at _ rfl)))
  have b2 : Boxed W (w1.heap.size + 1) 3 (.int .i64 e) := (hB.block _ (by simp)).trans (block_alloc _ (block_at _ (by simp)))
  have b3 : Boxed W (w1.heap.size + 2) 22 (.slice a ds.length cap) := (hB.block _ (by simp)).trans (block_at _ (by simp))
  exact byWeeks_iter hab s e ds _ hs0 hs1 he0 he1 hD hR _ _ _ (by omega) (by omega) _ _ (fun W h => h.2) ⟨by omega, by simp; omega⟩ ⟨by omega, by simp⟩ ⟨by omega, by simp⟩ W b1 b3 b2
theorem cand_once {sl : Value} {ds : List Int} {s : Int} (hs1 : s ≤ 73048) {w : World} {o : Obj} :
    Cand sl ds (From (fun d => decide (d = s)) s) w 42 #[.pointer (some ⟨w.heap.size, 0, none⟩)] ((w.alloc (.cells #[.int .i64 s] 3)).alloc o) := by
  refine ⟨below_box2 _ _ _, enters_of Tryd.func42 (by kernel_rfl) rfl, fun aa bb W hab hB => ?_⟩
  have b1 : Boxed W w.heap.size 3 (.int .i64 s) := (hB.block _ (by simp; omega)).trans (block_alloc _ (block_at _ rfl))
  exact once_iter hab s _ _ _ hs1 W b1

set_option maxHeartbeats 1000000 in
theorem candidates_any (f : ByteArray) (e : Int) (sl : Value) (c u : Int) (ds : List Int) (s : Int) (w : World) (hd : Days w sl ds) (hw : Well (rd f e ds c u)) (hs0 : 0 ≤ s) (hs1 : s ≤ 73048) :
    Calls Tryd.prog 34 #[.int .i64 s, rv f e sl c u] w fun r w' => ∃ g lb, r = .returned (.func (.func g) #[] lb) ∧ Cand sl ds (cds f.toList s e ds) w g lb w' := by
  obtain ⟨a, cap, rfl, h20, hcap, _⟩ := hd
  have he0 : 1 ≤ e := hw.ev.1
  have he1 : e ≤ 100 := hw.ev.2
  have hD : bD ds := hw.ds
  have hR : Rise ds := hw.ri
  have hB2 : Below w.heap.size w ((w.alloc (.cells #[.int .i64 s] 3)).alloc (.cells #[.string f, .int .i64 e, .slice a ds.length cap, .int .i64 c, .int .i64 u] 24)) := below_box2 _ _ _
  have HB2 : Hid (_) := hB2
  have HDD : Hid (bD ds) := hD
  have HRR : Hid (Rise ds) := hR
  clear hw hD hR hB2
  unfold rv
  cases h1 : (f.toList == [100, 97, 105, 108, 121]) with
  | true =>
    have E : Hid (cds f.toList s e ds = From (pD s e) s) := by
      show _ = _
      rw [beq_iff_eq] at h1; unfold cds cnd; rw [if_pos (show f.toList = dailyW from h1)]
    have CB : Hid (Calls Tryd.prog 39 #[.int .i64 s, .int .i64 e] ((w.alloc (.cells #[.int .i64 s] 3)).alloc (.cells #[.string f, .int .i64 e, .slice a ds.length cap, .int .i64 c, .int .i64 u] 24)) fun r w' => ∃ g lb, r = .returned (.func (.func g) #[] lb) ∧ Cand (.slice a ds.length cap) ds (cds f.toList s e ds) w g lb w') := by
      have hb := HB2.out
      rw [E.out]
      generalize ((w.alloc (.cells #[.int .i64 s] 3)).alloc (.cells #[.string f, .int .i64 e, .slice a ds.length cap, .int .i64 c, .int .i64 u] 24)) = w1 at hb ⊢
      refine Calls.mono (byDays_any _ _ _) ?_
      rintro r w' ⟨rfl, rfl⟩
      exact ⟨_, _, rfl, cand_daily hs0 hs1 he0 he1 hb⟩
    clear E
    go_enter Tryd.func34, Tryd.ntmps34
    go_wp2_with (go_at_call 39; refine Calls.mono CB.out ?_; rintro r w' ⟨g, lb, rfl, hC⟩)
    go_ret
    exact ⟨g, lb, rfl, hC⟩
  | false =>
  have n1 : Hid (f.toList ≠ dailyW) := by show _ ≠ _; rw [beq_eq_false_iff_ne] at h1; exact h1
  cases h2 : (f.toList == [119, 101, 101, 107, 108, 121]) with
  | true =>
    have E : Hid (cds f.toList s e ds = From (pW s e (wds s ds)) s) := by
      show _ = _
      rw [beq_iff_eq] at h2; unfold cds cnd; rw [if_neg n1.out, if_pos (show f.toList = weeklyW from h2)]
    have CB : Hid (Calls Tryd.prog 40 #[.int .i64 s, .int .i64 e, .slice a ds.length cap] ((w.alloc (.cells #[.int .i64 s] 3)).alloc (.cells #[.string f, .int .i64 e, .slice a ds.length cap, .int .i64 c, .int .i64 u] 24)) fun r w' => ∃ g lb, r = .returned (.func (.func g) #[] lb) ∧ Cand (.slice a ds.length cap) ds (cds f.toList s e ds) w g lb w') := by
      have hb := HB2.out
      rw [E.out]
      generalize ((w.alloc (.cells #[.int .i64 s] 3)).alloc (.cells #[.string f, .int .i64 e, .slice a ds.length cap, .int .i64 c, .int .i64 u] 24)) = w1 at hb ⊢
      refine Calls.mono (byWeeks_any _ _ _ _ _ _) ?_
      rintro r w' ⟨rfl, rfl⟩
      exact ⟨_, _, rfl, cand_weekly hs0 hs1 he0 he1 HDD.out HRR.out hb⟩
    clear E
    go_enter Tryd.func34, Tryd.ntmps34
    go_wp2_with (go_at_call 40; refine Calls.mono CB.out ?_; rintro r w' ⟨g, lb, rfl, hC⟩)
    go_ret
    exact ⟨g, lb, rfl, hC⟩
  | false =>
  have n2 : Hid (f.toList ≠ weeklyW) := by show _ ≠ _; rw [beq_eq_false_iff_ne] at h2; exact h2
  cases h3 : (f.toList == [109, 111, 110, 116, 104, 108, 121]) with
  | true =>
    have E : Hid (cds f.toList s e ds = From (pM s e) s) := by
      show _ = _
      rw [beq_iff_eq] at h3; unfold cds cnd; rw [if_neg n1.out, if_neg n2.out, if_pos (show f.toList = monthlyW from h3)]
    have CB : Hid (Calls Tryd.prog 41 #[.int .i64 s, .int .i64 e] ((w.alloc (.cells #[.int .i64 s] 3)).alloc (.cells #[.string f, .int .i64 e, .slice a ds.length cap, .int .i64 c, .int .i64 u] 24)) fun r w' => ∃ g lb, r = .returned (.func (.func g) #[] lb) ∧ Cand (.slice a ds.length cap) ds (cds f.toList s e ds) w g lb w') := by
      have hb := HB2.out
      rw [E.out]
      generalize ((w.alloc (.cells #[.int .i64 s] 3)).alloc (.cells #[.string f, .int .i64 e, .slice a ds.length cap, .int .i64 c, .int .i64 u] 24)) = w1 at hb ⊢
      refine Calls.mono (byMonths_any _ _ _) ?_
      rintro r w' ⟨rfl, rfl⟩
      exact ⟨_, _, rfl, cand_monthly hs0 hs1 he0 (by omega) hb⟩
    clear E
    go_enter Tryd.func34, Tryd.ntmps34
    go_wp2_with (go_at_call 41; refine Calls.mono CB.out ?_; rintro r w' ⟨g, lb, rfl, hC⟩)
    go_ret
    exact ⟨g, lb, rfl, hC⟩
  | false =>
  have n3 : Hid (f.toList ≠ monthlyW) := by show _ ≠ _; rw [beq_eq_false_iff_ne] at h3; exact h3
  cases h4 : (f.toList == [121, 101, 97, 114, 108, 121]) with
  | true =>
    have E : Hid (cds f.toList s e ds = From (pM s (e * 12)) s) := by
      show _ = _
      rw [beq_iff_eq] at h4; unfold cds cnd; rw [if_neg n1.out, if_neg n2.out, if_neg n3.out, if_pos (show f.toList = yearlyW from h4)]
    have CB : Hid (Calls Tryd.prog 41 #[.int .i64 s, .int .i64 (e * 12)] ((w.alloc (.cells #[.int .i64 s] 3)).alloc (.cells #[.string f, .int .i64 e, .slice a ds.length cap, .int .i64 c, .int .i64 u] 24)) fun r w' => ∃ g lb, r = .returned (.func (.func g) #[] lb) ∧ Cand (.slice a ds.length cap) ds (cds f.toList s e ds) w g lb w') := by
      have hb := HB2.out
      rw [E.out]
      generalize ((w.alloc (.cells #[.int .i64 s] 3)).alloc (.cells #[.string f, .int .i64 e, .slice a ds.length cap, .int .i64 c, .int .i64 u] 24)) = w1 at hb ⊢
      refine Calls.mono (byMonths_any _ _ _) ?_
      rintro r w' ⟨rfl, rfl⟩
      exact ⟨_, _, rfl, cand_monthly hs0 hs1 (by omega) (by omega) hb⟩
    clear E
    go_enter Tryd.func34, Tryd.ntmps34
    go_wp2_with (go_at_call 41; refine Calls.mono CB.out ?_; rintro r w' ⟨g, lb, rfl, hC⟩)
    go_ret
    exact ⟨g, lb, rfl, hC⟩
  | false =>
    have n4 : Hid (f.toList ≠ yearlyW) := by show _ ≠ _; rw [beq_eq_false_iff_ne] at h4; exact h4
    have E : Hid (cds f.toList s e ds = From (fun d => decide (d = s)) s) := by
      show _ = _
      unfold cds cnd; rw [if_neg n1.out, if_neg n2.out, if_neg n3.out, if_neg n4.out]
    have C1 : Hid (Cand (.slice a ds.length cap) ds (cds f.toList s e ds) w 42 #[.pointer (some ⟨w.heap.size, 0, none⟩)] ((w.alloc (.cells #[.int .i64 s] 3)).alloc (.cells #[.string f, .int .i64 e, .slice a ds.length cap, .int .i64 c, .int .i64 u] 24))) := by
      show Cand _ _ _ _ _ _ _
      rw [E.out]; exact cand_once hs1
    clear E
    go_enter Tryd.func34, Tryd.ntmps34
    go_wp2
    go_ret
    exact ⟨_, _, rfl, C1.out⟩

theorem echeck_ok (f : ByteArray) (e : Int) (sl : Value) (c u : Int) (ds : List Int) (s : Int) (w : World) (hd : Days w sl ds) (hw : Well (rd f e ds c u)) (hs0 : 0 ≤ s) (hs1 : s ≤ 73048) :
    Calls Tryd.prog 20 #[.int .i64 s, rv f e sl c u] w fun r w' => r = .returned .nilIface ∧ Below w.heap.size w w' := by
  have CK : Hid (_) := check_ok f e sl c u ds _ (hd.step (below_alloc w (.cells #[.string f, .int .i64 e, sl, .int .i64 c, .int .i64 u] 24))) hw
  obtain ⟨a, cap, rfl, _, _, _⟩ := hd
  clear hw
  unfold rv at CK ⊢
  go_enter Tryd.func20, Tryd.ntmps20
  go_wp2_with (first
    | (go_at_call 19; refine Calls.mono CK.out ?_; rintro r w1 ⟨rfl, hb1⟩)
    | (go_at_call 31; refine (week_ok s _ hs0 hs1).mono ?_; rintro r w2 ⟨rfl, rfl⟩))
  go_ret
  exact ⟨rfl, below_then (below_alloc _ _) hb1⟩
theorem echeck_no (f : ByteArray) (e : Int) (sl : Value) (c u : Int) (ds : List Int) (s : Int) (w : World) (g : Glob w) (hd : Days w sl ds) (hn : ¬ (Well (rd f e ds c u) ∧ 0 ≤ s ∧ s ≤ 73048)) :
    Calls Tryd.prog 20 #[.int .i64 s, rv f e sl c u] w fun r w' => (∃ p, r = .returned (.iface 103 (.pointer (some p)))) ∧ Below w.heap.size w w' := by
  by_cases hw : Well (rd f e ds c u)
  · have hs : s < 0 ∨ 73048 < s := by
      rcases Int.lt_or_le s 0 with h | h
      · exact .inl h
      · right
        rcases Int.lt_or_le 73048 s with h' | h'
        · exact h'
        · exact absurd ⟨hw, h, h'⟩ hn
    have CK : Hid (_) := check_ok f e sl c u ds _ (hd.step (below_alloc w (.cells #[.string f, .int .i64 e, sl, .int .i64 c, .int .i64 u] 24))) hw
    have g1 := g.step (below_alloc w (.cells #[.string f, .int .i64 e, sl, .int .i64 c, .int .i64 u] 24))
    have G1 : Hid (_) := g1
    obtain ⟨a, cap, rfl, _, _, _⟩ := hd
    clear hw hn g g1
    unfold rv at CK ⊢
    go_enter Tryd.func20, Tryd.ntmps20
    go_wp2_with (first
      | (go_at_call 19; refine Calls.mono CK.out ?_; rintro r w1 ⟨rfl, hb1⟩; obtain ⟨ev, hev⟩ := (G1.out.step hb1).bound)
      | (go_at_call 31; refine (week_no s ev _ hs hev).mono ?_; rintro r w2 ⟨rfl, hb2⟩))
    go_ret
    exact ⟨⟨_, rfl⟩, below_then (below_alloc _ _) (below_then hb1 hb2)⟩
  · have CK : Hid (_) := check_no f e sl c u ds _ (g.step (below_alloc w (.cells #[.string f, .int .i64 e, sl, .int .i64 c, .int .i64 u] 24))) (hd.step (below_alloc w (.cells #[.string f, .int .i64 e, sl, .int .i64 c, .int .i64 u] 24))) hw
    obtain ⟨a, cap, rfl, _, _, _⟩ := hd
    clear hw hn g
    unfold rv at CK ⊢
    go_enter Tryd.func20, Tryd.ntmps20
    go_wp2_with (go_at_call 19; refine Calls.mono CK.out ?_; rintro r w1 ⟨⟨p, rfl⟩, hb1⟩)
    go_ret
    exact ⟨⟨_, rfl⟩, below_then (below_alloc _ _) hb1⟩
end Go.Proofs.YtfnajhpcbajhfabDoor
