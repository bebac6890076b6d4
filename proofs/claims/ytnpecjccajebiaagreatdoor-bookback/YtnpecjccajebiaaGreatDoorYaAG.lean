/- Contracts of package expand's makers of iterators, of its check, and of the candidates: an iterator that gives the candidates of a start and a rule that are well. -/
import Derived.Test.YtnpecjccajebiaaGreatDoorYaAF
namespace Go.Proofs.YtnpecjccajebiaaGreatDoor
open Go Go.RowKit Go.Shelf Cal

theorem byDays_any (s e : Int) (w : World) : Calls Tryz.prog 208 #[.int .i64 s, .int .i64 e] w fun r w' =>
    r = .returned (.func (.func 239) #[] #[.pointer (some ⟨w.heap.size, 0, none⟩), .pointer (some ⟨w.heap.size + 1, 0, none⟩)]) ∧ w' = (w.alloc (.cells #[.int .i64 s] 3)).alloc (.cells #[.int .i64 e] 3) := by
  go_enter Tryz.func208, Tryz.ntmps208
  go_wp2
  go_ret
  exact ⟨rfl, rfl⟩
theorem byMonths_any (s e : Int) (w : World) : Calls Tryz.prog 210 #[.int .i64 s, .int .i64 e] w fun r w' =>
    r = .returned (.func (.func 241) #[] #[.pointer (some ⟨w.heap.size, 0, none⟩), .pointer (some ⟨w.heap.size + 1, 0, none⟩)]) ∧ w' = (w.alloc (.cells #[.int .i64 s] 3)).alloc (.cells #[.int .i64 e] 3) := by
  go_enter Tryz.func210, Tryz.ntmps210
  go_wp2
  go_ret
  exact ⟨rfl, rfl⟩
theorem byWeeks_any (s e : Int) (a : Option Addr) (n cap : Nat) (w : World) : Calls Tryz.prog 209 #[.int .i64 s, .int .i64 e, .slice a n cap] w fun r w' =>
    r = .returned (.func (.func 240) #[] #[.pointer (some ⟨w.heap.size, 0, none⟩), .pointer (some ⟨w.heap.size + 2, 0, none⟩), .pointer (some ⟨w.heap.size + 1, 0, none⟩)]) ∧ w' = ((w.alloc (.cells #[.int .i64 s] 3)).alloc (.cells #[.int .i64 e] 3)).alloc (.cells #[.slice a n cap] 39) := by
  go_enter Tryz.func209, Tryz.ntmps209
  go_wp2
  go_ret
  exact ⟨rfl, rfl⟩

/-- what an iterator of candidates reads -/
def RdC (sl : Value) (ds : List Int) (W : World) : Prop := Glob W ∧ Days W sl ds
/-- a maker has handed back an iterator that gives these days -/
def Cand (sl : Value) (ds cs : List Int) (w : World) (g : Nat) (lb : Array Value) (w' : World) : Prop :=
  Below w.heap.size w w' ∧ (∀ args v, (callFunc g args).run Tryz.prog v = .ok (.enter g args) v) ∧
    ∀ (aa bb : Nat) (W : World), bb + 2 ≤ aa → Below w'.heap.size w' W → Gives aa bb g lb (fun k => w.heap.size ≤ k ∧ k < w'.heap.size) (RdC sl ds) cs W

theorem cand_daily {sl : Value} {ds : List Int} {s e : Int} (hs0 : 0 ≤ s) (hs1 : s ≤ 73048) (he0 : 1 ≤ e) (he1 : e ≤ 100) {w w1 : World} (hb : Below w.heap.size w w1) :
    Cand sl ds (From (pD s e) s) w 239 #[.pointer (some ⟨w1.heap.size, 0, none⟩), .pointer (some ⟨w1.heap.size + 1, 0, none⟩)] ((w1.alloc (.cells #[.int .i64 s] 3)).alloc (.cells #[.int .i64 e] 3)) := by
  refine ⟨below_then hb (below_box2 _ _ _), enters_of Tryz.func239 (by kernel_rfl) rfl, fun aa bb W hab hB => ?_⟩
  have hs := hb.size
  have b1 : Boxed W w1.heap.size 3 (.int .i64 s) := (hB.block _ (by simp; omega)).trans (block_alloc _ (block_at _ rfl))
  have b2 : Boxed W (w1.heap.size + 1) 3 (.int .i64 e) := (hB.block _ (by simp)).trans (block_at _ (by simp))
  exact byDays_iter hab s e hs0 hs1 he0 he1 _ _ _ _ ⟨by omega, by simp⟩ W b1 b2
theorem cand_monthly {sl : Value} {ds : List Int} {s e : Int} (hs0 : 0 ≤ s) (hs1 : s ≤ 73048) (he0 : 1 ≤ e) (he1 : e ≤ 1200) {w w1 : World} (hb : Below w.heap.size w w1) :
    Cand sl ds (From (pM s e) s) w 241 #[.pointer (some ⟨w1.heap.size, 0, none⟩), .pointer (some ⟨w1.heap.size + 1, 0, none⟩)] ((w1.alloc (.cells #[.int .i64 s] 3)).alloc (.cells #[.int .i64 e] 3)) := by
  refine ⟨below_then hb (below_box2 _ _ _), enters_of Tryz.func241 (by kernel_rfl) rfl, fun aa bb W hab hB => ?_⟩
  have hs := hb.size
  have b1 : Boxed W w1.heap.size 3 (.int .i64 s) := (hB.block _ (by simp; omega)).trans (block_alloc _ (block_at _ rfl))
  have b2 : Boxed W (w1.heap.size + 1) 3 (.int .i64 e) := (hB.block _ (by simp)).trans (block_at _ (by simp))
  obtain ⟨y, m, d, hv, hn⟩ := exists_date s hs0 hs1
  exact byMonths_iter hab s e y m d hv hn he0 he1 _ _ _ _ (fun W h => h.1.bound) ⟨by omega, by simp; omega⟩ ⟨by omega, by simp⟩ W b1 b2
theorem cand_weekly {a : Option Addr} {cap : Nat} {ds : List Int} {s e : Int} (hs0 : 0 ≤ s) (hs1 : s ≤ 73048) (he0 : 1 ≤ e) (he1 : e ≤ 100) (hD : bD ds) (hR : Rise ds) {w w1 : World} (hb : Below w.heap.size w w1) :
    Cand (.slice a ds.length cap) ds (From (pW s e (wds s ds)) s) w 240 #[.pointer (some ⟨w1.heap.size, 0, none⟩), .pointer (some ⟨w1.heap.size + 2, 0, none⟩), .pointer (some ⟨w1.heap.size + 1, 0, none⟩)]
      (((w1.alloc (.cells #[.int .i64 s] 3)).alloc (.cells #[.int .i64 e] 3)).alloc (.cells #[.slice a ds.length cap] 39)) := by
  refine ⟨below_then hb (below_then (below_box2 _ _ _) (below_alloc _ _)), enters_of Tryz.func240 (by kernel_rfl) rfl, fun aa bb W hab hB => ?_⟩
  have hs := hb.size
  have b1 : Boxed W w1.heap.size 3 (.int .i64 s) := (hB.block _ (by simp; omega)).trans (block_alloc _ (block_alloc _ (block_at _ rfl)))
  have b2 : Boxed W (w1.heap.size + 1) 3 (.int .i64 e) := (hB.block _ (by simp)).trans (block_alloc _ (block_at _ (by simp)))
  have b3 : Boxed W (w1.heap.size + 2) 39 (.slice a ds.length cap) := (hB.block _ (by simp)).trans (block_at _ (by simp))
  exact byWeeks_iter hab s e ds _ hs0 hs1 he0 he1 hD hR _ _ _ (by omega) (by omega) _ _ (fun W h => h.2) ⟨by omega, by simp; omega⟩ ⟨by omega, by simp⟩ ⟨by omega, by simp⟩ W b1 b3 b2
theorem cand_once {sl : Value} {ds : List Int} {s : Int} (hs1 : s ≤ 73048) {w : World} {o : Obj} :
    Cand sl ds (From (fun d => decide (d = s)) s) w 211 #[.pointer (some ⟨w.heap.size, 0, none⟩)] ((w.alloc (.cells #[.int .i64 s] 3)).alloc o) := by
  refine ⟨below_box2 _ _ _, enters_of Tryz.func211 (by kernel_rfl) rfl, fun aa bb W hab hB => ?_⟩
  have b1 : Boxed W w.heap.size 3 (.int .i64 s) := (hB.block _ (by simp; omega)).trans (block_alloc _ (block_at _ rfl))
  exact once_iter hab s _ _ _ hs1 W b1

set_option maxHeartbeats 1000000 in
theorem candidates_any (f : ByteArray) (e : Int) (sl : Value) (c u : Int) (ds : List Int) (s : Int) (w : World) (hd : Days w sl ds) (hw : Well (rd f e ds c u)) (hs0 : 0 ≤ s) (hs1 : s ≤ 73048) :
    Calls Tryz.prog 163 #[.int .i64 s, rv f e sl c u] w fun r w' => ∃ g lb, r = .returned (.func (.func g) #[] lb) ∧ Cand sl ds (cds f.toList s e ds) w g lb w' := by
  obtain ⟨a, cap, rfl, h20, hcap, _⟩ := hd
  have he0 : 1 ≤ e := hw.ev.1
  have he1 : e ≤ 100 := hw.ev.2
  have hD : bD ds := hw.ds
  have hR : Rise ds := hw.ri
  have hB2 : Below w.heap.size w ((w.alloc (.cells #[.int .i64 s] 3)).alloc (.cells #[.string f, .int .i64 e, .slice a ds.length cap, .int .i64 c, .int .i64 u] 41)) := below_box2 _ _ _
  have HB2 : Hid (_) := hB2
  have HDD : Hid (bD ds) := hD
  have HRR : Hid (Rise ds) := hR
  clear hw hD hR hB2
  unfold rv
  cases h1 : (f.toList == [100, 97, 105, 108, 121]) with
  | true =>
    have E : Hid (cds f.toList s e ds = From (pD s e) s) := by
      show _ = _
      rw [beq_iff_eq] at h1; unfold cds cnd; rw [if_pos (show f.toList = dailyW from h1)]
    have CB : Hid (Calls Tryz.prog 208 #[.int .i64 s, .int .i64 e] ((w.alloc (.cells #[.int .i64 s] 3)).alloc (.cells #[.string f, .int .i64 e, .slice a ds.length cap, .int .i64 c, .int .i64 u] 41)) fun r w' => ∃ g lb, r = .returned (.func (.func g) #[] lb) ∧ Cand (.slice a ds.length cap) ds (cds f.toList s e ds) w g lb w') := by
      have hb := HB2.out
      rw [E.out]
      generalize ((w.alloc (.cells #[.int .i64 s] 3)).alloc (.cells #[.string f, .int .i64 e, .slice a ds.length cap, .int .i64 c, .int .i64 u] 41)) = w1 at hb ⊢
      refine Calls.mono (byDays_any _ _ _) ?_
      rintro r w' ⟨rfl, rfl⟩
      exact ⟨_, _, rfl, cand_daily hs0 hs1 he0 he1 hb⟩
    clear E
    go_enter Tryz.func163, Tryz.ntmps163
    go_wp2_with (go_at_call 208; refine Calls.mono CB.out ?_; rintro r w' ⟨g, lb, rfl, hC⟩)
    go_ret
    exact ⟨g, lb, rfl, hC⟩
  | false =>
  have n1 : Hid (f.toList ≠ dailyW) := by show _ ≠ _; rw [beq_eq_false_iff_ne] at h1; exact h1
  cases h2 : (f.toList == [119, 101, 101, 107, 108, 121]) with
  | true =>
    have E : Hid (cds f.toList s e ds = From (pW s e (wds s ds)) s) := by
      show _ = _
      rw [beq_iff_eq] at h2; unfold cds cnd; rw [if_neg n1.out, if_pos (show f.toList = weeklyW from h2)]
    have CB : Hid (Calls Tryz.prog 209 #[.int .i64 s, .int .i64 e, .slice a ds.length cap] ((w.alloc (.cells #[.int .i64 s] 3)).alloc (.cells #[.string f, .int .i64 e, .slice a ds.length cap, .int .i64 c, .int .i64 u] 41)) fun r w' => ∃ g lb, r = .returned (.func (.func g) #[] lb) ∧ Cand (.slice a ds.length cap) ds (cds f.toList s e ds) w g lb w') := by
      have hb := HB2.out
      rw [E.out]
      generalize ((w.alloc (.cells #[.int .i64 s] 3)).alloc (.cells #[.string f, .int .i64 e, .slice a ds.length cap, .int .i64 c, .int .i64 u] 41)) = w1 at hb ⊢
      refine Calls.mono (byWeeks_any _ _ _ _ _ _) ?_
      rintro r w' ⟨rfl, rfl⟩
      exact ⟨_, _, rfl, cand_weekly hs0 hs1 he0 he1 HDD.out HRR.out hb⟩
    clear E
    go_enter Tryz.func163, Tryz.ntmps163
    go_wp2_with (go_at_call 209; refine Calls.mono CB.out ?_; rintro r w' ⟨g, lb, rfl, hC⟩)
    go_ret
    exact ⟨g, lb, rfl, hC⟩
  | false =>
  have n2 : Hid (f.toList ≠ weeklyW) := by show _ ≠ _; rw [beq_eq_false_iff_ne] at h2; exact h2
  cases h3 : (f.toList == [109, 111, 110, 116, 104, 108, 121]) with
  | true =>
    have E : Hid (cds f.toList s e ds = From (pM s e) s) := by
      show _ = _
      rw [beq_iff_eq] at h3; unfold cds cnd; rw [if_neg n1.out, if_neg n2.out, if_pos (show f.toList = monthlyW from h3)]
    have CB : Hid (Calls Tryz.prog 210 #[.int .i64 s, .int .i64 e] ((w.alloc (.cells #[.int .i64 s] 3)).alloc (.cells #[.string f, .int .i64 e, .slice a ds.length cap, .int .i64 c, .int .i64 u] 41)) fun r w' => ∃ g lb, r = .returned (.func (.func g) #[] lb) ∧ Cand (.slice a ds.length cap) ds (cds f.toList s e ds) w g lb w') := by
      have hb := HB2.out
      rw [E.out]
      generalize ((w.alloc (.cells #[.int .i64 s] 3)).alloc (.cells #[.string f, .int .i64 e, .slice a ds.length cap, .int .i64 c, .int .i64 u] 41)) = w1 at hb ⊢
      refine Calls.mono (byMonths_any _ _ _) ?_
      rintro r w' ⟨rfl, rfl⟩
      exact ⟨_, _, rfl, cand_monthly hs0 hs1 he0 (by omega) hb⟩
    clear E
    go_enter Tryz.func163, Tryz.ntmps163
    go_wp2_with (go_at_call 210; refine Calls.mono CB.out ?_; rintro r w' ⟨g, lb, rfl, hC⟩)
    go_ret
    exact ⟨g, lb, rfl, hC⟩
  | false =>
  have n3 : Hid (f.toList ≠ monthlyW) := by show _ ≠ _; rw [beq_eq_false_iff_ne] at h3; exact h3
  cases h4 : (f.toList == [121, 101, 97, 114, 108, 121]) with
  | true =>
    have E : Hid (cds f.toList s e ds = From (pM s (e * 12)) s) := by
      show _ = _
      rw [beq_iff_eq] at h4; unfold cds cnd; rw [if_neg n1.out, if_neg n2.out, if_neg n3.out, if_pos (show f.toList = yearlyW from h4)]
    have CB : Hid (Calls Tryz.prog 210 #[.int .i64 s, .int .i64 (e * 12)] ((w.alloc (.cells #[.int .i64 s] 3)).alloc (.cells #[.string f, .int .i64 e, .slice a ds.length cap, .int .i64 c, .int .i64 u] 41)) fun r w' => ∃ g lb, r = .returned (.func (.func g) #[] lb) ∧ Cand (.slice a ds.length cap) ds (cds f.toList s e ds) w g lb w') := by
      have hb := HB2.out
      rw [E.out]
      generalize ((w.alloc (.cells #[.int .i64 s] 3)).alloc (.cells #[.string f, .int .i64 e, .slice a ds.length cap, .int .i64 c, .int .i64 u] 41)) = w1 at hb ⊢
      refine Calls.mono (byMonths_any _ _ _) ?_
      rintro r w' ⟨rfl, rfl⟩
      exact ⟨_, _, rfl, cand_monthly hs0 hs1 (by omega) (by omega) hb⟩
    clear E
    go_enter Tryz.func163, Tryz.ntmps163
    go_wp2_with (go_at_call 210; refine Calls.mono CB.out ?_; rintro r w' ⟨g, lb, rfl, hC⟩)
    go_ret
    exact ⟨g, lb, rfl, hC⟩
  | false =>
    have n4 : Hid (f.toList ≠ yearlyW) := by show _ ≠ _; rw [beq_eq_false_iff_ne] at h4; exact h4
    have E : Hid (cds f.toList s e ds = From (fun d => decide (d = s)) s) := by
      show _ = _
      unfold cds cnd; rw [if_neg n1.out, if_neg n2.out, if_neg n3.out, if_neg n4.out]
    have C1 : Hid (Cand (.slice a ds.length cap) ds (cds f.toList s e ds) w 211 #[.pointer (some ⟨w.heap.size, 0, none⟩)] ((w.alloc (.cells #[.int .i64 s] 3)).alloc (.cells #[.string f, .int .i64 e, .slice a ds.length cap, .int .i64 c, .int .i64 u] 41))) := by
      show Cand _ _ _ _ _ _ _
      rw [E.out]; exact cand_once hs1
    clear E
    go_enter Tryz.func163, Tryz.ntmps163
    go_wp2
    go_ret
    exact ⟨_, _, rfl, C1.out⟩

theorem echeck_ok (f : ByteArray) (e : Int) (sl : Value) (c u : Int) (ds : List Int) (s : Int) (w : World) (hd : Days w sl ds) (hw : Well (rd f e ds c u)) (hs0 : 0 ≤ s) (hs1 : s ≤ 73048) :
    Calls Tryz.prog 162 #[.int .i64 s, rv f e sl c u] w fun r w' => r = .returned .nilIface ∧ Below w.heap.size w w' := by
  have CK : Hid (_) := check_ok f e sl c u ds _ (hd.step (below_alloc w (.cells #[.string f, .int .i64 e, sl, .int .i64 c, .int .i64 u] 41))) hw
  obtain ⟨a, cap, rfl, _, _, _⟩ := hd
  clear hw
  unfold rv at CK ⊢
  go_enter Tryz.func162, Tryz.ntmps162
  go_wp2_with (first
    | (go_at_call 74; refine Calls.mono CK.out ?_; rintro r w1 ⟨rfl, hb1⟩)
    | (go_at_call 207; refine (week_ok s _ hs0 hs1).mono ?_; rintro r w2 ⟨rfl, rfl⟩))
  go_ret
  exact ⟨rfl, below_then (below_alloc _ _) hb1⟩
theorem echeck_no (f : ByteArray) (e : Int) (sl : Value) (c u : Int) (ds : List Int) (s : Int) (w : World) (g : Glob w) (hd : Days w sl ds) (hn : ¬ (Well (rd f e ds c u) ∧ 0 ≤ s ∧ s ≤ 73048)) :
    Calls Tryz.prog 162 #[.int .i64 s, rv f e sl c u] w fun r w' => (∃ p, r = .returned (.iface 288 (.pointer (some p)))) ∧ Below w.heap.size w w' := by
  by_cases hw : Well (rd f e ds c u)
  · have hs : s < 0 ∨ 73048 < s := by
      rcases Int.lt_or_le s 0 with h | h
      · exact .inl h
      · right
        rcases Int.lt_or_le 73048 s with h' | h'
        · exact h'
        · exact absurd ⟨hw, h, h'⟩ hn
    have CK : Hid (_) := check_ok f e sl c u ds _ (hd.step (below_alloc w (.cells #[.string f, .int .i64 e, sl, .int .i64 c, .int .i64 u] 41))) hw
    have g1 := g.step (below_alloc w (.cells #[.string f, .int .i64 e, sl, .int .i64 c, .int .i64 u] 41))
    have G1 : Hid (_) := g1
    obtain ⟨a, cap, rfl, _, _, _⟩ := hd
    clear hw hn g g1
    unfold rv at CK ⊢
    go_enter Tryz.func162, Tryz.ntmps162
    go_wp2_with (first
      | (go_at_call 74; refine Calls.mono CK.out ?_; rintro r w1 ⟨rfl, hb1⟩; obtain ⟨ev, hev⟩ := (G1.out.step hb1).bound)
      | (go_at_call 207; refine (week_no s ev _ hs hev).mono ?_; rintro r w2 ⟨rfl, hb2⟩))
    go_ret
    exact ⟨⟨_, rfl⟩, below_then (below_alloc _ _) (below_then hb1 hb2)⟩
  · have CK : Hid (_) := check_no f e sl c u ds _ (g.step (below_alloc w (.cells #[.string f, .int .i64 e, sl, .int .i64 c, .int .i64 u] 41))) (hd.step (below_alloc w (.cells #[.string f, .int .i64 e, sl, .int .i64 c, .int .i64 u] 41))) hw
    obtain ⟨a, cap, rfl, _, _, _⟩ := hd
    clear hw hn g
    unfold rv at CK ⊢
    go_enter Tryz.func162, Tryz.ntmps162
    go_wp2_with (go_at_call 74; refine Calls.mono CK.out ?_; rintro r w1 ⟨⟨p, rfl⟩, hb1⟩)
    go_ret
    exact ⟨⟨_, rfl⟩, below_then (below_alloc _ _) hb1⟩
end Go.Proofs.YtnpecjccajebiaaGreatDoor

/- Which error a rule has: the numbers of errors, and package rule's Check. -/
namespace Go.Proofs.YtnpecjccajebiaaGreatDoor
open Go.RowKit Cal

/-- where the errors lie that packages rule and event tell -/
structure GlobK (s : Nat → Addr) (w : World) : Prop where
  c0 : w.cell? ⟨4, 0, none⟩ = some (.iface 288 (.pointer (some (s 0))))
  c1 : w.cell? ⟨0, 0, none⟩ = some (.iface 288 (.pointer (some (s 1))))
  c2 : w.cell? ⟨1, 0, none⟩ = some (.iface 288 (.pointer (some (s 2))))
  c3 : w.cell? ⟨6, 0, none⟩ = some (.iface 288 (.pointer (some (s 3))))
  c5 : w.cell? ⟨7, 0, none⟩ = some (.iface 288 (.pointer (some (s 5))))
  c6 : w.cell? ⟨2, 0, none⟩ = some (.iface 288 (.pointer (some (s 6))))
  c7 : w.cell? ⟨5, 0, none⟩ = some (.iface 288 (.pointer (some (s 7))))
theorem GlobK.step {s : Nat → Addr} {w w' : World} (g : GlobK s w) (hb : Below w.heap.size w w') : GlobK s w' :=
  ⟨cell_step g.c0 hb, cell_step g.c1 hb, cell_step g.c2 hb, cell_step g.c3 hb, cell_step g.c5 hb, cell_step g.c6 hb, cell_step g.c7 hb⟩
theorem GlobK.glob {s : Nat → Addr} {w : World} (g : GlobK s w) : Glob w := ⟨⟨_, g.c3⟩, ⟨_, g.c1⟩, ⟨_, g.c2⟩, ⟨_, g.c7⟩⟩
/-- the number of a rule's error -/
def ErrK (f : ByteArray) (e : Int) (ds : List Int) (c u k : Int) : Prop :=
  (isF f = false ∧ k = 4) ∨ (isF f = true ∧ ¬ (bN e c u = true ∧ bD ds) ∧ k = 2) ∨ (isF f = true ∧ (bN e c u = true ∧ bD ds) ∧ ¬ shp (f.toList == [111, 110, 99, 101]) (f.toList == [119, 101, 101, 107, 108, 121]) e c u ds.length ∧ k = 3) ∨
    (isF f = true ∧ (bN e c u = true ∧ bD ds) ∧ shp (f.toList == [111, 110, 99, 101]) (f.toList == [119, 101, 101, 107, 108, 121]) e c u ds.length ∧ ¬ Rise ds ∧ k = 8) ∨ (Well (rd f e ds c u) ∧ k = 0)
theorem errK_ex (f : ByteArray) (e : Int) (ds : List Int) (c u : Int) : ∃ k, ErrK f e ds c u k := by
  cases h1 : isF f with
  | false => exact ⟨4, .inl ⟨h1, rfl⟩⟩
  | true =>
    by_cases h2 : bN e c u = true ∧ bD ds
    · by_cases h3 : shp (f.toList == [111, 110, 99, 101]) (f.toList == [119, 101, 101, 107, 108, 121]) e c u ds.length
      · by_cases h4 : Rise ds
        · exact ⟨0, .inr (.inr (.inr (.inr ⟨well_of h1 h2.1 h2.2 h3 h4, rfl⟩)))⟩
        · exact ⟨8, .inr (.inr (.inr (.inl ⟨h1, h2, h3, h4, rfl⟩)))⟩
      · exact ⟨3, .inr (.inr (.inl ⟨h1, h2, h3, rfl⟩))⟩
    · exact ⟨2, .inr (.inl ⟨h1, h2, rfl⟩)⟩
theorem errK_1 {f : ByteArray} {e : Int} {ds : List Int} {c u k : Int} (h : ErrK f e ds c u k) (h1 : isF f = false) : k = 4 := by
  rcases h with h | h | h | h | h
  · exact h.2
  · rw [h1] at h; exact absurd h.1 (by decide)
  · rw [h1] at h; exact absurd h.1 (by decide)
  · rw [h1] at h; exact absurd h.1 (by decide)
  · have := (of_well h.1).1; rw [h1] at this; exact absurd this (by decide)
theorem errK_2 {f : ByteArray} {e : Int} {ds : List Int} {c u k : Int} (h : ErrK f e ds c u k) (h1 : isF f = true) (h2 : ¬ (bN e c u = true ∧ bD ds)) : k = 2 := by
  rcases h with h | h | h | h | h
  · rw [h1] at h; exact absurd h.1 (by decide)
  · exact h.2.2
  · exact absurd h.2.1 h2
  · exact absurd h.2.1 h2
  · have := of_well h.1; exact absurd ⟨this.2.1, this.2.2.1⟩ h2
theorem errK_3 {f : ByteArray} {e : Int} {ds : List Int} {c u k : Int} (h : ErrK f e ds c u k) (h1 : isF f = true) (h2 : bN e c u = true ∧ bD ds) (h3 : ¬ shp (f.toList == [111, 110, 99, 101]) (f.toList == [119, 101, 101, 107, 108, 121]) e c u ds.length) : k = 3 := by
  rcases h with h | h | h | h | h
  · rw [h1] at h; exact absurd h.1 (by decide)
  · exact absurd h2 h.2.1
  · exact h.2.2.2
  · exact absurd h.2.2.1 h3
  · have := of_well h.1; exact absurd this.2.2.2.1 h3
theorem errK_4 {f : ByteArray} {e : Int} {ds : List Int} {c u k : Int} (h : ErrK f e ds c u k) (h1 : isF f = true) (h2 : bN e c u = true ∧ bD ds) (h3 : shp (f.toList == [111, 110, 99, 101]) (f.toList == [119, 101, 101, 107, 108, 121]) e c u ds.length) (h4 : ¬ Rise ds) : k = 8 := by
  rcases h with h | h | h | h | h
  · rw [h1] at h; exact absurd h.1 (by decide)
  · exact absurd h2 h.2.1
  · exact absurd h3 h.2.2.1
  · exact h.2.2.2.2
  · have := of_well h.1; exact absurd this.2.2.2.2 h4
theorem errK_0 {f : ByteArray} {e : Int} {ds : List Int} {c u k : Int} (h : ErrK f e ds c u k) : k = 0 ↔ Well (rd f e ds c u) := by
  constructor
  · intro hk
    rcases h with h | h | h | h | h
    · omega
    · omega
    · omega
    · omega
    · exact h.1
  · intro hw
    obtain ⟨w1, w2, w3, w4, w5⟩ := of_well hw
    rcases h with h | h | h | h | h
    · rw [w1] at h; exact absurd h.1 (by decide)
    · exact absurd ⟨w2, w3⟩ h.2.1
    · exact absurd w4 h.2.2.1
    · exact absurd w5 h.2.2.2.1
    · exact h.2
theorem errK_bd {f : ByteArray} {e : Int} {ds : List Int} {c u k : Int} (h : ErrK f e ds c u k) : k = 0 ∨ k = 2 ∨ k = 3 ∨ k = 4 ∨ k = 8 := by
  rcases h with h | h | h | h | h
  · exact .inr (.inr (.inr (.inl h.2)))
  · exact .inr (.inl h.2.2)
  · exact .inr (.inr (.inl h.2.2.2))
  · exact .inr (.inr (.inr (.inr h.2.2.2.2)))
  · exact .inl h.2
/-- the error of a number -/
def errV (s : Nat → Addr) (k : Int) : Value := if k = 0 then .nilIface else .iface 288 (.pointer (some (s (k - 1).toNat)))
theorem errV_of {s : Nat → Addr} {k m : Int} {n : Nat} (h : k = m) (hm : m ≠ 0 ∧ (m - 1).toNat = n) : errV s k = .iface 288 (.pointer (some (s n))) := by
  unfold errV
  rw [h, if_neg hm.1, hm.2]

set_option maxHeartbeats 400000 in
theorem check_k (f : ByteArray) (e : Int) (sl : Value) (c u : Int) (ds : List Int) (k : Int) (s : Nat → Addr) (w : World) (g : GlobK s w) (hd : Days w sl ds) (hk : ErrK f e ds c u k) (hw : ¬ Well (rd f e ds c u)) :
    Calls Tryz.prog 74 #[rv f e sl c u] w fun r w' => r = .returned (errV s k) ∧ Below w.heap.size w w' := by
  have hd' := hd
  obtain ⟨a, cap, rfl, h20, hcap, hc⟩ := hd'
  have D : Hid (Days w (.slice a ds.length cap) ds) := hd
  have c1 := fun w => isFreq_any f w
  have HW : Hid (¬ Well (rd f e ds c u)) := hw
  have q1 := g.c3
  have q2 := g.c1
  have q3 := g.c2
  have q4 := g.c7
  have HK : Hid (ErrK f e ds c u k) := hk
  clear hc hd hw hk g
  unfold rv
  cases h1 : isF f with
  | false =>
    rw [h1] at c1
    have C1 : Hid (_) := c1
    have EV : Hid (errV s k = .iface 288 (.pointer (some (s 3)))) := errV_of (errK_1 HK.out h1) (by decide)
    have r1 := cell_alloc (.cells #[.string f, .int .i64 e, .slice a ds.length cap, .int .i64 c, .int .i64 u] 41) q1
    clear c1 q2 q3 q4 HK
    go_enter Tryz.func74, Tryz.ntmps74
    go_wp2_with (go_at_call 105; refine (C1.out _).mono ?_; rintro r w' ⟨rfl, rfl⟩)
    go_ret
    exact ⟨(by rw [EV.out]; rfl), below_alloc _ _⟩
  | true =>
  rw [h1] at c1
  have C1 : Hid (_) := c1
  clear c1
  by_cases h2 : bN e c u = true ∧ bD ds
  · by_cases h4 : shp (f.toList == [111, 110, 99, 101]) (f.toList == [119, 101, 101, 107, 108, 121]) e c u ds.length
    · have h5 : ¬ Rise ds := fun h5 => HW.out (well_of h1 h2.1 h2.2 h4 h5)
      have C2 : Hid (bN e c u = true ∧ bD ds) := h2
      have C3 : Hid (shp (f.toList == [111, 110, 99, 101]) (f.toList == [119, 101, 101, 107, 108, 121]) e c u ds.length) := h4
      have C4 : Hid (¬ Rise ds) := h5
      have EV : Hid (errV s k = .iface 288 (.pointer (some (s 7)))) := errV_of (errK_4 HK.out h1 h2 h4 h5) (by decide)
      have r4 := cell_alloc (.cells #[.string f, .int .i64 e, .slice a ds.length cap, .int .i64 c, .int .i64 u] 41) q4
      clear h1 h2 h4 h5 HW HK q1 q2 q3
      go_enter Tryz.func74, Tryz.ntmps74
      go_wp2_with (first
        | (go_at_call 105; refine (C1.out _).mono ?_; rintro r w' ⟨rfl, rfl⟩)
        | (go_at_call 106; refine (inBounds_any f e _ c u ds _ (D.out.step (below_alloc _ _)) true ⟨fun _ => C2.out, fun _ => rfl⟩).mono ?_; rintro r w1 ⟨rfl, hb1⟩; obtain ⟨x0, x1, x2, x3, x4⟩ := box5 hb1)
        | (go_at_call 107; refine (isShaped_any f e a ds.length cap c u _ h20 _ _ rfl rfl true ⟨fun _ => C3.out, fun _ => rfl⟩).mono ?_; rintro r w2 ⟨rfl, hb2⟩; have y2 := cell_step x2 hb2)
        | (go_at_call 108; refine (rises_any ds _ _ (D.out.step (below_then (below_alloc _ _) (below_then hb1 hb2))) false ⟨fun h => absurd h (by decide), fun h => absurd h C4.out⟩).mono ?_; rintro r w3 ⟨rfl, hb3⟩; have z4 := cell_step (cell_step (cell_step r4 hb1) hb2) hb3))
      go_ret
      exact ⟨(by rw [EV.out]; rfl), below_then (below_alloc _ _) (below_then hb1 (below_then hb2 hb3))⟩
    · have C2 : Hid (bN e c u = true ∧ bD ds) := h2
      have C3 : Hid (¬ shp (f.toList == [111, 110, 99, 101]) (f.toList == [119, 101, 101, 107, 108, 121]) e c u ds.length) := h4
      have EV : Hid (errV s k = .iface 288 (.pointer (some (s 2)))) := errV_of (errK_3 HK.out h1 h2 h4) (by decide)
      have r3 := cell_alloc (.cells #[.string f, .int .i64 e, .slice a ds.length cap, .int .i64 c, .int .i64 u] 41) q3
      clear h1 h2 h4 HW HK q1 q2 q4
      go_enter Tryz.func74, Tryz.ntmps74
      go_wp2_with (first
        | (go_at_call 105; refine (C1.out _).mono ?_; rintro r w' ⟨rfl, rfl⟩)
        | (go_at_call 106; refine (inBounds_any f e _ c u ds _ (D.out.step (below_alloc _ _)) true ⟨fun _ => C2.out, fun _ => rfl⟩).mono ?_; rintro r w1 ⟨rfl, hb1⟩; obtain ⟨x0, x1, x2, x3, x4⟩ := box5 hb1)
        | (go_at_call 107; refine (isShaped_any f e a ds.length cap c u _ h20 _ _ rfl rfl false ⟨fun h => absurd h (by decide), fun h => absurd h C3.out⟩).mono ?_; rintro r w2 ⟨rfl, hb2⟩; have z3 := cell_step (cell_step r3 hb1) hb2))
      go_ret
      exact ⟨(by rw [EV.out]; rfl), below_then (below_alloc _ _) (below_then hb1 hb2)⟩
  · have C2 : Hid (¬ (bN e c u = true ∧ bD ds)) := h2
    have EV : Hid (errV s k = .iface 288 (.pointer (some (s 1)))) := errV_of (errK_2 HK.out h1 h2) (by decide)
    have r2 := cell_alloc (.cells #[.string f, .int .i64 e, .slice a ds.length cap, .int .i64 c, .int .i64 u] 41) q2
    clear h1 h2 HW HK q1 q3 q4
    go_enter Tryz.func74, Tryz.ntmps74
    go_wp2_with (first
      | (go_at_call 105; refine (C1.out _).mono ?_; rintro r w' ⟨rfl, rfl⟩)
      | (go_at_call 106; refine (inBounds_any f e _ c u ds _ (D.out.step (below_alloc _ _)) false ⟨fun h => absurd h (by decide), fun h => absurd h C2.out⟩).mono ?_; rintro r w1 ⟨rfl, hb1⟩; have z2 := cell_step r2 hb1))
    go_ret
    exact ⟨(by rw [EV.out]; rfl), below_then (below_alloc _ _) hb1⟩

theorem errV_0 (s : Nat → Addr) : errV s 0 = .nilIface := by unfold errV; rw [if_pos rfl]
/-- package rule's Check, whatever it says -/
theorem rcheck_k (f : ByteArray) (e : Int) (sl : Value) (c u : Int) (ds : List Int) (k : Int) (s : Nat → Addr) (w : World) (g : GlobK s w) (hd : Days w sl ds) (hk : ErrK f e ds c u k) :
    Calls Tryz.prog 74 #[rv f e sl c u] w fun r w' => r = .returned (errV s k) ∧ Below w.heap.size w w' := by
  by_cases hw : Well (rd f e ds c u)
  · rw [(errK_0 hk).2 hw, errV_0]
    exact check_ok f e sl c u ds w hd hw
  · exact check_k f e sl c u ds k s w g hd hk hw
end Go.Proofs.YtnpecjccajebiaaGreatDoor
