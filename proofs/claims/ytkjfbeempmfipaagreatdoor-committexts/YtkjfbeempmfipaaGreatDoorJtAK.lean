/- Contract of rule.Check: no error just where the rule is well. -/
import Derived.Test.YtkjfbeempmfipaaGreatDoorJtAJ
import Derived.Laws.AppendOwnNone
import Derived.Test.YtkjfbeempmfipaaGreatDoorJtAG
import Derived.Lib.SlicesCompact
namespace Go.Proofs.YtkjfbeempmfipaaGreatDoor
open Go.RowKit Cal

/-- a rule's value, read -/
def rd (f : ByteArray) (e : Int) (ds : List Int) (c u : Int) : RV := ⟨f.toList, e, ds, c, u⟩
def Rise (ds : List Int) : Prop := ∀ (i : Nat) (h : i + 1 < ds.length), ds[i] < ds[i + 1]

theorem isF_iff (f : ByteArray) : isF f = true ↔ (f.toList = onceW ∨ f.toList = dailyW ∨ f.toList = weeklyW ∨ f.toList = monthlyW ∨ f.toList = yearlyW) := by
  unfold isF onceW dailyW weeklyW monthlyW yearlyW
  simp only [Bool.or_eq_true, beq_iff_eq, or_assoc]
theorem bN_iff (e c u : Int) : bN e c u = true ↔ (1 ≤ e ∧ e ≤ 100 ∧ 0 ≤ c ∧ c ≤ 1000 ∧ -1 ≤ u ∧ u ≤ 73048) := by unfold bN; simp
theorem well_of {f : ByteArray} {e c u : Int} {ds : List Int} (h1 : isF f = true) (h2 : bN e c u = true) (h3 : bD ds) (h4 : shp (f.toList == [111, 110, 99, 101]) (f.toList == [119, 101, 101, 107, 108, 121]) e c u ds.length) (h5 : Rise ds) : Well (rd f e ds c u) := by
  rw [isF_iff] at h1
  rw [bN_iff] at h2
  obtain ⟨s1, s2, s3⟩ := h4
  refine ⟨h1, h3, ⟨h2.1, h2.2.1⟩, ⟨h2.2.2.1, h2.2.2.2.1⟩, ⟨h2.2.2.2.2.1, h2.2.2.2.2.2⟩, fun h => s1 ?_, fun h => ?_, s3, h5⟩
  · rw [beq_iff_eq]; exact h
  · have := s2 (by rw [beq_eq_false_iff_ne]; exact h)
    exact List.length_eq_zero_iff.1 this
theorem of_well {f : ByteArray} {e c u : Int} {ds : List Int} (h : Well (rd f e ds c u)) : isF f = true ∧ bN e c u = true ∧ bD ds ∧ shp (f.toList == [111, 110, 99, 101]) (f.toList == [119, 101, 101, 107, 108, 121]) e c u ds.length ∧ Rise ds := by
  obtain ⟨w1, w2, w3, w4, w5, w6, w7, w8, w9⟩ := h
  refine ⟨(isF_iff f).2 w1, (bN_iff e c u).2 ⟨w3.1, w3.2, w4.1, w4.2, w5.1, w5.2⟩, w2, ⟨fun h => w6 ?_, fun h => ?_, w8⟩, w9⟩
  · rw [beq_iff_eq] at h; exact h
  · rw [beq_eq_false_iff_ne] at h
    have : ds = [] := w7 h
    rw [this]; rfl


theorem check_ok (f : ByteArray) (e : Int) (sl : Value) (c u : Int) (ds : List Int) (w : World) (hd : Days w sl ds) (hw : Well (rd f e ds c u)) :
    Calls Tryz.prog 90 #[rv f e sl c u] w fun r w' => r = .returned .nilIface ∧ Below w.heap.size w w' := by
  obtain ⟨h1, h2, h3, h4, h5⟩ := of_well hw
  have hd' := hd
  obtain ⟨a, cap, rfl, h20, hcap, hc⟩ := hd'
  have c1 := fun w => isFreq_any f w
  rw [h1] at c1
  have C1 : Hid (_) := c1
  have C2 : Hid (bN e c u = true ∧ bD ds) := ⟨h2, h3⟩
  have C3 : Hid (shp (f.toList == [111, 110, 99, 101]) (f.toList == [119, 101, 101, 107, 108, 121]) e c u ds.length) := h4
  have C4 : Hid (Rise ds) := h5
  have D : Hid (Days w (.slice a ds.length cap) ds) := hd
  clear c1 h1 h2 h3 h4 h5 hw hc hd
  unfold rv
  go_enter Tryz.func90, Tryz.ntmps90
  go_wp2_with (first
    | (go_at_call 117; refine (C1.out _).mono ?_; rintro r w' ⟨rfl, rfl⟩)
    | (go_at_call 118; refine (inBounds_any f e _ c u ds _ (D.out.step (below_alloc _ _)) true ⟨fun _ => C2.out, fun _ => rfl⟩).mono ?_; rintro r w1 ⟨rfl, hb1⟩; obtain ⟨x0, x1, x2, x3, x4⟩ := box5 hb1)
    | (go_at_call 119; refine (isShaped_any f e a ds.length cap c u _ h20 _ _ rfl rfl true ⟨fun _ => C3.out, fun _ => rfl⟩).mono ?_; rintro r w2 ⟨rfl, hb2⟩; have y2 := cell_step x2 hb2)
    | (go_at_call 120; refine (rises_any ds _ _ (D.out.step (below_then (below_alloc _ _) (below_then hb1 hb2))) true ⟨fun _ => C4.out, fun _ => rfl⟩).mono ?_; rintro r w3 ⟨rfl, hb3⟩))
  go_ret
  exact ⟨rfl, below_then (below_alloc _ _) (below_then hb1 (below_then hb2 hb3))⟩

set_option maxHeartbeats 400000 in
theorem check_no (f : ByteArray) (e : Int) (sl : Value) (c u : Int) (ds : List Int) (w : World) (g : Glob w) (hd : Days w sl ds) (hw : ¬ Well (rd f e ds c u)) :
    Calls Tryz.prog 90 #[rv f e sl c u] w fun r w' => (∃ p, r = .returned (.iface 221 (.pointer (some p)))) ∧ Below w.heap.size w w' := by
  have hd' := hd
  obtain ⟨a, cap, rfl, h20, hcap, hc⟩ := hd'
  have D : Hid (Days w (.slice a ds.length cap) ds) := hd
  have c1 := fun w => isFreq_any f w
  have HW : Hid (¬ Well (rd f e ds c u)) := hw
  obtain ⟨⟨p1, q1⟩, ⟨p2, q2⟩, ⟨p3, q3⟩, ⟨p4, q4⟩⟩ := g
  clear hc hd hw
  unfold rv
  cases h1 : isF f with
  | false =>
    rw [h1] at c1
    have C1 : Hid (_) := c1
    have r1 := cell_alloc (.cells #[.string f, .int .i64 e, .slice a ds.length cap, .int .i64 c, .int .i64 u] 93) q1
    clear c1 q2 q3 q4
    go_enter Tryz.func90, Tryz.ntmps90
    go_wp2_with (go_at_call 117; refine (C1.out _).mono ?_; rintro r w' ⟨rfl, rfl⟩)
    go_ret
    exact ⟨⟨_, rfl⟩, below_alloc _ _⟩
  | true =>
  rw [h1] at c1
  have C1 : Hid (_) := c1
  clear c1
  by_cases h2 : bN e c u = true ∧ bD ds
  · by_cases h4 : shp (f.toList == [111, 110, 99, 101]) (f.toList == [119, 101, 101, 107, 108, 121]) e c u ds.length
    · have h5 : ¬ Rise ds := fun h5 => HW.out (well_of h1 h2.1 h2.2 h4 h5)
      have C2 : Hid (bN e c u = true ∧ bD ds) := h2
      have C3 : Hid (shp (f.toList == [111, 110, 99, 101]) (f.toList == [119, 101, 101, 107, 108, 121]) e c u ds.length) := h4
      have C4 : Hid (¬ Rise ds) := h5
      have r4 := cell_alloc (.cells #[.string f, .int .i64 e, .slice a ds.length cap, .int .i64 c, .int .i64 u] 93) q4
      clear h1 h2 h4 h5 HW q1 q2 q3
      go_enter Tryz.func90, Tryz.ntmps90
      go_wp2_with (first
        | (go_at_call 117; refine (C1.out _).mono ?_; rintro r w' ⟨rfl, rfl⟩)
        | (go_at_call 118; refine (inBounds_any f e _ c u ds _ (D.out.step (below_alloc _ _)) true ⟨fun _ => C2.out, fun _ => rfl⟩).mono ?_; rintro r w1 ⟨rfl, hb1⟩; obtain ⟨x0, x1, x2, x3, x4⟩ := box5 hb1)
        | (go_at_call 119; refine (isShaped_any f e a ds.length cap c u _ h20 _ _ rfl rfl true ⟨fun _ => C3.out, fun _ => rfl⟩).mono ?_; rintro r w2 ⟨rfl, hb2⟩; have y2 := cell_step x2 hb2)
        | (go_at_call 120; refine (rises_any ds _ _ (D.out.step (below_then (below_alloc _ _) (below_then hb1 hb2))) false ⟨fun h => absurd h (by decide), fun h => absurd h C4.out⟩).mono ?_; rintro r w3 ⟨rfl, hb3⟩; have z4 := cell_step (cell_step (cell_step r4 hb1) hb2) hb3))
      go_ret
      exact ⟨⟨_, rfl⟩, below_then (below_alloc _ _) (below_then hb1 (below_then hb2 hb3))⟩
    · have C2 : Hid (bN e c u = true ∧ bD ds) := h2
      have C3 : Hid (¬ shp (f.toList == [111, 110, 99, 101]) (f.toList == [119, 101, 101, 107, 108, 121]) e c u ds.length) := h4
      have r3 := cell_alloc (.cells #[.string f, .int .i64 e, .slice a ds.length cap, .int .i64 c, .int .i64 u] 93) q3
      clear h1 h2 h4 HW q1 q2 q4
      go_enter Tryz.func90, Tryz.ntmps90
      go_wp2_with (first
        | (go_at_call 117; refine (C1.out _).mono ?_; rintro r w' ⟨rfl, rfl⟩)
        | (go_at_call 118; refine (inBounds_any f e _ c u ds _ (D.out.step (below_alloc _ _)) true ⟨fun _ => C2.out, fun _ => rfl⟩).mono ?_; rintro r w1 ⟨rfl, hb1⟩; obtain ⟨x0, x1, x2, x3, x4⟩ := box5 hb1)
        | (go_at_call 119; refine (isShaped_any f e a ds.length cap c u _ h20 _ _ rfl rfl false ⟨fun h => absurd h (by decide), fun h => absurd h C3.out⟩).mono ?_; rintro r w2 ⟨rfl, hb2⟩; have z3 := cell_step (cell_step r3 hb1) hb2))
      go_ret
      exact ⟨⟨_, rfl⟩, below_then (below_alloc _ _) (below_then hb1 hb2)⟩
  · have C2 : Hid (¬ (bN e c u = true ∧ bD ds)) := h2
    have r2 := cell_alloc (.cells #[.string f, .int .i64 e, .slice a ds.length cap, .int .i64 c, .int .i64 u] 93) q2
    clear h1 h2 HW q1 q3 q4
    go_enter Tryz.func90, Tryz.ntmps90
    go_wp2_with (first
      | (go_at_call 117; refine (C1.out _).mono ?_; rintro r w' ⟨rfl, rfl⟩)
      | (go_at_call 118; refine (inBounds_any f e _ c u ds _ (D.out.step (below_alloc _ _)) false ⟨fun h => absurd h (by decide), fun h => absurd h C2.out⟩).mono ?_; rintro r w1 ⟨rfl, hb1⟩; have z2 := cell_step r2 hb1))
    go_ret
    exact ⟨⟨_, rfl⟩, below_then (below_alloc _ _) hb1⟩
end Go.Proofs.YtkjfbeempmfipaaGreatDoor

/- Contracts of the law's own LongRule and OwnRule. -/
namespace Go.Proofs.YtkjfbeempmfipaaGreatDoor
open Go.RowKit Cal

theorem ow_days {base : Nat} {W : World} {sl : Value} {ds : List Int} (h : Ow base W sl ds) (h20 : ds.length ≤ 20) : Days W sl ds := by
  rcases h.2 with ⟨rfl, h0⟩ | ⟨g, cap, cur, rfl, hb, hg, hcap, hmax, hsz, htake⟩
  · rw [List.length_eq_zero_iff.1 h0]; exact Days.nil W 0
  · refine ⟨_, cap, rfl, h20, hcap, fun j hj => ⟨g, rfl, (Array.getElem?_eq_some_iff.1 hg).1, ?_⟩⟩
    have := World.ownsRow.cellAt h j (by omega)
    rw [this, List.getElem?_map, List.getElem?_eq_getElem hj]; rfl
theorem Ow.step {base : Nat} {W W' : World} {v : Value} {o : List Int} (h : Ow base W v o) (hb : Below W.heap.size W W') : Ow base W' v o :=
  World.ownsRow.kept h (grown_below hb (some W.heap.size)) (.inr (fun he => by have := (World.ownsRow.lt h _ he).2; omega))
theorem ow_form {base : Nat} {W : World} {v : Value} {o : List Int} (h : Ow base W v o) : ∃ a cap, v = .slice a o.length cap := by
  rcases h.2 with ⟨rfl, h0⟩ | ⟨g, cap, cur, rfl, _⟩
  · rw [h0]; exact ⟨none, 0, rfl⟩
  · exact ⟨_, cap, rfl⟩
theorem Ow.steps {base : Nat} {W W' : World} {v : Value} {o : List Int} (h : Ow base W v o) (hk : ∀ k, base ≤ k → k < W.heap.size → W'.heap[k]? = W.heap[k]?) : Ow base W' v o := by
  refine ⟨h.1, ?_⟩
  rcases h.2 with h2 | ⟨g, cap, cur, hv, hb, hg, r⟩
  · exact .inl h2
  · exact .inr ⟨g, cap, cur, hv, hb, (hk g hb (Array.getElem?_eq_some_iff.1 hg).1).trans hg, r⟩
/-- a rule's list of days as it was handed over -/
def Got (w : World) (sl : Value) (ds : List Int) : Prop :=
  ∃ (a : Option Addr) (cap : Nat), sl = .slice a ds.length cap ∧ (a = none → ds.length = 0 ∧ cap = 0) ∧ ∀ ad, a = some ad → ∀ (j : Nat) (h : j < ds.length), ad.block < w.heap.size ∧ w.cell? (ad.add j) = some (.int .i64 ds[j])
theorem addr_add_block (ad : Addr) (j : Nat) : (ad.add j).block = ad.block := by
  unfold Addr.add
  split <;> rfl
theorem Got.step {w w' : World} {sl : Value} {ds : List Int} (h : Got w sl ds) (hb : Below w.heap.size w w') : Got w' sl ds := by
  obtain ⟨a, cap, h1, h2, h3⟩ := h
  refine ⟨a, cap, h1, h2, fun ad e j hj => ?_⟩
  obtain ⟨h4, h5⟩ := h3 ad e j hj
  exact ⟨Nat.lt_of_lt_of_le h4 hb.size, (World.cell?_of_block (a := ad.add j) (hb.block _ (by rw [addr_add_block]; exact h4))).trans h5⟩

theorem ow_got {base : Nat} {W : World} {sl : Value} {ds : List Int} (h : Ow base W sl ds) : Got W sl ds := by
  rcases h.2 with ⟨rfl, h0⟩ | ⟨g, cap, cur, rfl, hb, hg, hcap, hmax, hsz, htake⟩
  · rw [List.length_eq_zero_iff.1 h0]; exact ⟨none, 0, rfl, fun _ => ⟨rfl, rfl⟩, fun ad q => by cases q⟩
  · refine ⟨_, cap, rfl, (fun q => by cases q), fun ad q j hj => ?_⟩
    cases q
    refine ⟨(Array.getElem?_eq_some_iff.1 hg).1, ?_⟩
    have := World.ownsRow.cellAt h j (by omega)
    have e : (⟨g, 0, none⟩ : Addr).add j = ⟨g, j, none⟩ := by
      simp [Addr.add]
      intro hq
      exact hq.symm
    rw [e, this, List.getElem?_map, List.getElem?_eq_getElem hj]; rfl

end Go.Proofs.YtkjfbeempmfipaaGreatDoor

/- Plain mathematics of events (no program text in it): where a day is now, the days of an event in a span; what sorting and dropping what is twice leaves. -/
namespace Go.Proofs.YtkjfbeempmfipaaGreatDoor.Cal

/-- where a day is now: itself, or where the first move from it goes -/
def mvd : List (Int × Int) → Int → Int
  | [], d => d
  | m :: r, d => if m.1 = d then m.2 else mvd r d
/-- is a day one of an event's, whose rule gives xs? -/
def ownB (xs sk : List Int) (ms : List (Int × Int)) (d : Int) : Bool := xs.any fun x => !(sk.contains x) && decide (mvd ms x = d)
/-- the days of an event from a to b -/
def evs (xs sk : List Int) (ms : List (Int × Int)) (a b : Int) : List Int := From (fun d => decide (a ≤ d ∧ d ≤ b) && ownB xs sk ms d) 0
/-- what is given up to a last day: not in order -/
def gvn (xs sk : List Int) (ms : List (Int × Int)) (l : Int) : List Int := ((xs.takeWhile (fun d => decide (d ≤ l))).filter (fun x => !(sk.contains x))).map (mvd ms)
/-- those within a span -/
def spn (a b : Int) (l : List Int) : List Int := l.filter fun d => decide (a ≤ d ∧ d ≤ b)
/-- up to which day one has to go -/
def lastOf (ms : List (Int × Int)) (b : Int) : Int := if h : ms = [] then b else max b (ms.getLast h).1

theorem rise_ext : ∀ {l m : List Int}, l.Pairwise (· < ·) → m.Pairwise (· < ·) → (∀ x, x ∈ l ↔ x ∈ m) → l = m
  | [], [], _, _, _ => rfl
  | [], b :: m, _, _, h => absurd ((h b).2 (List.mem_cons_self ..)) (by simp)
  | a :: l, [], _, _, h => absurd ((h a).1 (List.mem_cons_self ..)) (by simp)
  | a :: l, b :: m, hl, hm, h => by
    rw [List.pairwise_cons] at hl hm
    have hab : a = b := by
      have h1 := (h a).1 (List.mem_cons_self ..)
      have h2 := (h b).2 (List.mem_cons_self ..)
      rw [List.mem_cons] at h1 h2
      rcases h1 with h1 | h1
      · exact h1
      · rcases h2 with h2 | h2
        · exact h2.symm
        · have := hm.1 _ h1; have := hl.1 _ h2; omega
    subst hab
    congr 1
    refine rise_ext hl.2 hm.2 (fun x => ?_)
    have hx := h x
    rw [List.mem_cons, List.mem_cons] at hx
    constructor
    · intro h1
      rcases hx.1 (.inr h1) with h2 | h2
      · subst h2; have := hl.1 _ h1; omega
      · exact h2
    · intro h1
      rcases hx.2 (.inr h1) with h2 | h2
      · subst h2; have := hm.1 _ h1; omega
      · exact h2

open Go.Lib in
theorem compactUpTo_facts (zs : List Int) (hs : zs.Pairwise (· ≤ ·)) : ∀ m, m ≤ zs.length → (compactUpTo zs.toArray m).Pairwise (· < ·) ∧ (∀ x, x ∈ compactUpTo zs.toArray m ↔ ∃ (j : Nat) (h : j < zs.length), j < m ∧ zs[j] = x)
  | 0, _ => ⟨List.Pairwise.nil, fun x => ⟨fun h => absurd h (by simp [compactUpTo]), fun ⟨_, _, h, _⟩ => by omega⟩⟩
  | m + 1, hm => by
    obtain ⟨ih1, ih2⟩ := compactUpTo_facts zs hs m (by omega)
    have hlt : m < zs.length := by omega
    have em : zs.toArray[m]! = zs[m] := by simp [hlt]
    rw [compactUpTo_succ]
    by_cases hk : keeps zs.toArray m = true
    · rw [if_pos hk, em]
      refine ⟨List.pairwise_append.2 ⟨ih1, List.pairwise_singleton _ _, fun x hx y hy => ?_⟩, fun x => ?_⟩
      · rw [List.mem_singleton] at hy
        subst hy
        obtain ⟨j, hj, hjm, rfl⟩ := (ih2 x).1 hx
        unfold keeps at hk
        rw [decide_eq_true_iff] at hk
        have hm0 : m ≠ 0 := by omega
        have e1 : zs.toArray[m - 1]! = zs[m - 1] := by simp [show m - 1 < zs.length by omega]
        have hne : zs[m] ≠ zs[m - 1] := by
          rcases hk with q | q
          · exact absurd q hm0
          · rwa [em, e1] at q
        have p1 : zs[m - 1] ≤ zs[m] := List.pairwise_iff_getElem.1 hs (m - 1) m (by omega) hlt (by omega)
        have p2 : zs[j] ≤ zs[m - 1] := by
          rcases Nat.lt_or_ge j (m - 1) with q | q
          · exact List.pairwise_iff_getElem.1 hs j (m - 1) hj (by omega) q
          · have : j = m - 1 := by omega
            subst this; exact Int.le_refl _
        omega
      · rw [List.mem_append, List.mem_singleton, ih2]
        constructor
        · rintro (⟨j, hj, h1, h2⟩ | rfl)
          · exact ⟨j, hj, by omega, h2⟩
          · exact ⟨m, hlt, by omega, rfl⟩
        · rintro ⟨j, hj, h1, h2⟩
          rcases Nat.lt_or_ge j m with q | q
          · exact .inl ⟨j, hj, q, h2⟩
          · have : j = m := by omega
            subst this; exact .inr h2.symm
    · rw [if_neg hk, List.append_nil]
      refine ⟨ih1, fun x => ?_⟩
      rw [ih2]
      constructor
      · rintro ⟨j, hj, h1, h2⟩; exact ⟨j, hj, by omega, h2⟩
      · rintro ⟨j, hj, h1, h2⟩
        rcases Nat.lt_or_ge j m with q | q
        · exact ⟨j, hj, q, h2⟩
        · have : j = m := by omega
          subst this
          unfold keeps at hk
          rw [decide_eq_true_iff] at hk
          have hm0 : j ≠ 0 := fun q => hk (.inl q)
          have e1 : zs.toArray[j - 1]! = zs[j - 1] := by simp [show j - 1 < zs.length by omega]
          have he : zs[j] = zs[j - 1] := Classical.byContradiction (fun q => hk (.inr (by rw [em, e1]; exact q)))
          exact ⟨j - 1, by omega, by omega, by rw [← he]; exact h2⟩

/-- a list that was sorted, what is twice dropped -/
theorem compact_sort (l m : List Int) (hm : m.Pairwise (· < ·)) (h : ∀ x, x ∈ l ↔ x ∈ m) : Go.Lib.compact (l.mergeSort fun x y => decide (x ≤ y)) = m := by
  have hs : (l.mergeSort fun x y => decide (x ≤ y)).Pairwise (· ≤ ·) := by
    have := List.pairwise_mergeSort (le := fun (x y : Int) => decide (x ≤ y)) (fun a b c h1 h2 => by simp at *; omega) (fun a b => by simp; omega) l
    exact this.imp (fun h => by simpa using h)
  obtain ⟨h1, h2⟩ := compactUpTo_facts _ hs _ (Nat.le_refl _)
  refine rise_ext h1 hm (fun x => ?_)
  have e : x ∈ l ↔ x ∈ l.mergeSort fun x y => decide (x ≤ y) := List.mem_mergeSort.symm
  rw [← h x, e]
  refine (h2 x).trans ?_
  rw [List.mem_iff_getElem]
  constructor
  · rintro ⟨j, hj, _, e⟩; exact ⟨j, hj, e⟩
  · rintro ⟨j, hj, e⟩; exact ⟨j, hj, hj, e⟩

theorem mvd_cases : ∀ (ms : List (Int × Int)) (x : Int), (mvd ms x = x ∧ ∀ m ∈ ms, m.1 ≠ x) ∨ (x, mvd ms x) ∈ ms
  | [], x => .inl ⟨rfl, fun m hm => by cases hm⟩
  | m :: r, x => by
    unfold mvd
    by_cases h : m.1 = x
    · rw [if_pos h]; right; rw [← h]; exact List.mem_cons_self ..
    · rw [if_neg h]
      rcases mvd_cases r x with ⟨h1, h2⟩ | h1
      · refine .inl ⟨h1, fun n hn => ?_⟩
        rcases List.mem_cons.1 hn with rfl | q
        · exact h
        · exact h2 n q
      · exact .inr (List.mem_cons_of_mem _ h1)
theorem mvd_of : ∀ {ms : List (Int × Int)} {x y : Int}, (ms.map Prod.fst).Pairwise (· < ·) → (x, y) ∈ ms → mvd ms x = y
  | [], _, _, _, h => by cases h
  | m :: r, x, y, hp, h => by
    rw [List.map_cons, List.pairwise_cons] at hp
    unfold mvd
    rcases List.mem_cons.1 h with rfl | q
    · rw [if_pos rfl]
    · have : m.1 < x := hp.1 x (List.mem_map.2 ⟨_, q, rfl⟩)
      rw [if_neg (by omega)]
      exact mvd_of hp.2 q
theorem ownB_iff {xs sk : List Int} {ms : List (Int × Int)} {d : Int} : ownB xs sk ms d = true ↔ ∃ x ∈ xs, x ∉ sk ∧ mvd ms x = d := by
  unfold ownB
  rw [List.any_eq_true]
  constructor
  · rintro ⟨x, h1, h2⟩
    simp at h2
    exact ⟨x, h1, h2⟩
  · rintro ⟨x, h1, h2, h3⟩
    exact ⟨x, h1, by simp [h2, h3]⟩
theorem mem_evs {xs sk : List Int} {ms : List (Int × Int)} {a b d : Int} : d ∈ evs xs sk ms a b ↔ 0 ≤ d ∧ d ≤ 73048 ∧ a ≤ d ∧ d ≤ b ∧ ∃ x ∈ xs, x ∉ sk ∧ mvd ms x = d := by
  unfold evs
  rw [mem_From, Bool.and_eq_true, decide_eq_true_iff, ownB_iff]
  constructor
  · rintro ⟨h1, h2, ⟨h3, h4⟩, h5⟩; exact ⟨h1, h2, h3, h4, h5⟩
  · rintro ⟨h1, h2, h3, h4, h5⟩; exact ⟨h1, h2, ⟨h3, h4⟩, h5⟩
theorem evs_rise (xs sk : List Int) (ms : List (Int × Int)) (a b : Int) : (evs xs sk ms a b).Pairwise (· < ·) := From_rise _ _
theorem mem_takeWhile_rise {u : Int} {l : List Int} (h : l.Pairwise (· < ·)) {x : Int} : x ∈ l.takeWhile (fun d => decide (d ≤ u)) ↔ x ∈ l ∧ x ≤ u := by
  rw [take_rise h, List.mem_filter, decide_eq_true_iff]
theorem mem_gvn {xs sk : List Int} {ms : List (Int × Int)} {l d : Int} (h : xs.Pairwise (· < ·)) : d ∈ gvn xs sk ms l ↔ ∃ x ∈ xs, x ≤ l ∧ x ∉ sk ∧ mvd ms x = d := by
  unfold gvn
  rw [List.mem_map]
  constructor
  · rintro ⟨x, h1, h2⟩
    rw [List.mem_filter, mem_takeWhile_rise h] at h1
    exact ⟨x, h1.1.1, h1.1.2, by simpa using h1.2, h2⟩
  · rintro ⟨x, h1, h2, h3, h4⟩
    exact ⟨x, by rw [List.mem_filter, mem_takeWhile_rise h]; exact ⟨⟨h1, h2⟩, by simpa using h3⟩, h4⟩
theorem le_lastOf {ms : List (Int × Int)} (b : Int) (hp : (ms.map Prod.fst).Pairwise (· < ·)) : b ≤ lastOf ms b ∧ ∀ m ∈ ms, m.1 ≤ lastOf ms b := by
  unfold lastOf
  by_cases h : ms = []
  · subst h; simp
  · rw [dif_neg h]
    refine ⟨by omega, fun m hm => ?_⟩
    have : m.1 ≤ (ms.getLast h).1 := by
      obtain ⟨j, hj, rfl⟩ := List.mem_iff_getElem.1 hm
      rw [List.getLast_eq_getElem]
      rcases Nat.lt_or_ge j (ms.length - 1) with q | q
      · have := List.pairwise_iff_getElem.1 hp j (ms.length - 1) (by simpa using hj) (by simp; omega) q
        simp at this
        omega
      · have e : ms.length - 1 = j := by omega
        simp [e]
    omega
/-- the days of an event, as they are collected -/
theorem evs_sorted {xs sk : List Int} {ms : List (Int × Int)} {a b : Int} (hx : xs.Pairwise (· < ·)) (hx0 : ∀ x ∈ xs, 0 ≤ x ∧ x ≤ 73048) (hp : (ms.map Prod.fst).Pairwise (· < ·)) (hm : ∀ m ∈ ms, 0 ≤ m.2 ∧ m.2 ≤ 73048) :
    Go.Lib.compact ((spn a b (gvn xs sk ms (lastOf ms b))).mergeSort fun x y => decide (x ≤ y)) = evs xs sk ms a b := by
  refine compact_sort _ _ (evs_rise ..) (fun d => ?_)
  unfold spn
  rw [List.mem_filter, mem_gvn hx, mem_evs, decide_eq_true_iff]
  obtain ⟨l1, l2⟩ := le_lastOf b hp
  constructor
  · rintro ⟨⟨x, h1, h2, h3, h4⟩, h5, h6⟩
    have : 0 ≤ d ∧ d ≤ 73048 := by
      rcases mvd_cases ms x with ⟨q, _⟩ | q
      · have := hx0 x h1; rw [← h4, q]; exact this
      · have := hm _ q; rw [← h4]; exact this
    exact ⟨this.1, this.2, h5, h6, x, h1, h3, h4⟩
  · rintro ⟨_, _, h5, h6, x, h1, h3, h4⟩
    refine ⟨⟨x, h1, ?_, h3, h4⟩, h5, h6⟩
    rcases mvd_cases ms x with ⟨q, _⟩ | q
    · omega
    · exact l2 _ q
theorem spn_nil (a b : Int) : spn a b [] = [] := rfl
theorem gvn_len {xs sk : List Int} {ms : List (Int × Int)} {l : Int} : (gvn xs sk ms l).length ≤ xs.length := by
  unfold gvn
  rw [List.length_map]
  exact Nat.le_trans (List.length_filter_le _ _) (List.takeWhile_sublist _).length_le
theorem spn_len {a b : Int} {l : List Int} : (spn a b l).length ≤ l.length := List.length_filter_le _ _
end Go.Proofs.YtkjfbeempmfipaaGreatDoor.Cal
