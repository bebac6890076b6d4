/- What an iterator over days owes and is owed: it gives a list's days one by one as long as the round says yes; it writes blocks of its own alone; a round leaves these. The iterator of package expand that goes by days. -/
import Derived.Test.YtnpecjccajebiaaGreatDoorYaAA
import Derived.Test.YtnpecjccajebiaaGreatDoorYaAB
import Derived.Shelf.Abstract
import Derived.Shelf.RegionOpen
import Derived.WalkKit
import Derived.OwnWalkIn
import Derived.TacticsInMore
import Derived.LoopNIn
import Derived.LoopIn
namespace Go.Proofs.YtnpecjccajebiaaGreatDoor
open Go Go.RowKit Go.Shelf Cal
attribute [local go_sem] Oper.semAt_some

/-- the blocks of a kind lie as they lay; streams are as they were; no block has gone -/
structure Steps (keep : Nat → Prop) (W W' : World) : Prop where
  os : W'.os = W.os
  tape : W'.tape = W.tape
  output : W'.output = W.output
  size : W.heap.size ≤ W'.heap.size
  block : ∀ k, keep k → k < W.heap.size → W'.heap[k]? = W.heap[k]?
theorem Steps.refl (p : Nat → Prop) (W : World) : Steps p W W := ⟨rfl, rfl, rfl, Nat.le_refl _, fun _ _ _ => rfl⟩
theorem Steps.trans {p : Nat → Prop} {A B C : World} (h : Steps p A B) (k : Steps p B C) : Steps p A C :=
  ⟨k.os.trans h.os, k.tape.trans h.tape, k.output.trans h.output, Nat.le_trans h.size k.size, fun i hp hi => (k.block i hp (Nat.lt_of_lt_of_le hi h.size)).trans (h.block i hp hi)⟩
theorem Steps.mono {p q : Nat → Prop} {A B : World} (h : Steps p A B) (hq : ∀ k, q k → p k) : Steps q A B := ⟨h.os, h.tape, h.output, h.size, fun k hk hl => h.block k (hq k hk) hl⟩
theorem Steps.below {n : Nat} {A B : World} (h : Below n A B) : Steps (fun k => k < n) A B := ⟨h.os, h.tape, h.output, h.size, fun k hk _ => h.block k hk⟩
theorem Steps.of_below {p : Nat → Prop} {A B : World} (h : Below A.heap.size A B) : Steps p A B := ⟨h.os, h.tape, h.output, h.size, fun k _ hl => h.block k hl⟩
theorem Steps.alloc (p : Nat → Prop) (W : World) (o : Obj) : Steps p W (W.alloc o) := Steps.of_below (below_alloc W o)
theorem Steps.set {p : Nat → Prop} (W : World) (a : Addr) (v : Value) (h : ¬ p a.block) : Steps p W (W.setCell a v) :=
  ⟨rfl, rfl, rfl, by rw [set_size]; exact Nat.le_refl _, fun k hk _ => Below.heap_setCell _ _ _ k (fun e => h (e ▸ hk))⟩
theorem Steps.put {p : Nat → Prop} (W : World) (l : Nat) (o : Obj) (h : ¬ p l) : Steps p W (W.putObj l o) :=
  ⟨rfl, rfl, rfl, by rw [World.putObj_size]; exact Nat.le_refl _, fun k hk _ => World.putObj_heap_other (fun e => h (e ▸ hk))⟩
theorem Steps.box {p : Nat → Prop} {A B : World} (h : Steps p A B) {b : Nat} {t : TypeId} {v : Value} (hb : Boxed A b t v) (hp : p b) : Boxed B b t v :=
  (h.block b hp (Array.getElem?_eq_some_iff.1 hb).1).trans hb
theorem Steps.obj {p : Nat → Prop} {A B : World} (h : Steps p A B) {b : Nat} {o : Obj} (hb : A.heap[b]? = some o) (hp : p b) : B.heap[b]? = some o :=
  (h.block b hp (Array.getElem?_eq_some_iff.1 hb).1).trans hb
theorem Steps.toBelow {p : Nat → Prop} {A B : World} (h : Steps p A B) {n : Nat} (hn : n ≤ A.heap.size) (hp : ∀ k, k < n → p k) : Below n A B :=
  ⟨h.os, h.tape, h.output, h.size, fun k hk => h.block k (hp k hk) (by omega)⟩

/-- what the iterator keeps ahead of its first round (the blocks below n that are not its own), and from then on (those too that were laid by rounds: from h on); what a round keeps (the iterator's own, and those that it has laid) -/
def itO (O : Nat → Prop) (n : Nat) (k : Nat) : Prop := ¬ O k ∧ k < n
def itK (O : Nat → Prop) (n h : Nat) (k : Nat) : Prop := ¬ O k ∧ (k < n ∨ h ≤ k)
def roK (O : Nat → Prop) (n h : Nat) (k : Nat) : Prop := O k ∨ (n ≤ k ∧ k < h)

/-- an iterator gives these days (a, b: how many frames it and a round may want) -/
def Gives (a b : Nat) (g : Nat) (lb : Array Value) (O : Nat → Prop) (Rd : World → Prop) (xs : List Int) (W0 : World) : Prop :=
  ∀ (n l : Nat) (J0 : World → Prop) (J : Nat → List Int → World → Prop) (Jx : Nat → World → Prop), a ≤ n →
    (∀ W W', J0 W → Steps (itO O W0.heap.size) W W' → J0 W') →
    (∀ W, J0 W → W0.heap.size ≤ W.heap.size → J W.heap.size xs W) →
    (∀ h r W W', W0.heap.size ≤ h → J h r W → Steps (itK O W0.heap.size h) W W' → J h r W') →
    (∀ h W W', W0.heap.size ≤ h → Jx h W → Steps (itK O W0.heap.size h) W W' → Jx h W') →
    (∀ W, J0 W → Rd W) → (∀ h r W, J h r W → Rd W) →
    (∀ (m h : Nat) (x : Int) (r : List Int) (W : World), b ≤ m → W0.heap.size ≤ h → h ≤ W.heap.size → J h (x :: r) W → YieldAt Fence.wide m Tryz.prog l #[.int .i64 x] W fun e W' =>
      Steps (roK O W0.heap.size h) W W' ∧ ((e = .returned (.bool true) ∧ J h r W') ∨ (e = .returned (.bool false) ∧ Jx h W'))) →
    J0 W0 →
    CallsIn Fence.wide n Tryz.prog g (#[.func (.yield l) #[] #[]] ++ lb) W0 fun e W' => (∃ v, e = .returned v) ∧ ∃ h, W0.heap.size ≤ h ∧ h ≤ W'.heap.size ∧ (J h [] W' ∨ Jx h W')

theorem daily_step {s e v : Int} (he : 1 ≤ e) (hs : s ≤ v) (hm : (v - s) % e = 0) (hv : v ≤ 73048) : From (pD s e) v = v :: From (pD s e) (v + e) := by
  rw [From_hit hv (by unfold pD; simp; exact ⟨hs, hm⟩)]
  congr 1
  refine From_to (by omega) (fun x h1 h2 => ?_)
  unfold pD
  rw [decide_eq_false_iff_not]
  rintro ⟨_, h4⟩
  have h5 : (x - s) = (v - s) + (x - v) := by omega
  rw [h5, Int.add_emod, hm, Int.zero_add, Int.emod_emod_of_dvd _ (Int.dvd_refl e)] at h4
  rw [Int.emod_eq_of_lt (by omega) (by omega)] at h4
  omega

set_option maxHeartbeats 1000000 in
theorem byDays_iter {a b : Nat} (hab : b + 2 ≤ a) (s e : Int) (hs0 : 0 ≤ s) (hs1 : s ≤ 73048) (he0 : 1 ≤ e) (he1 : e ≤ 100) (Bs Be : Nat) (O : Nat → Prop) (Rd : World → Prop) (hO2 : O Be) (W0 : World)
    (b1 : Boxed W0 Bs 3 (.int .i64 s)) (b2 : Boxed W0 Be 3 (.int .i64 e)) :
    Gives a b 239 #[.pointer (some ⟨Bs, 0, none⟩), .pointer (some ⟨Be, 0, none⟩)] O Rd (From (pD s e) s) W0 := by
  intro n l J0 J Jx hna hJ0 h01 hJ hJx hRd0 hRd hY h00
  have h0 := h01 _ h00 (Nat.le_refl _)
  have h1 : 1 ≤ n := by omega
  have c1 := b1.cell
  refine callsIn_of_wp Tryz.func239 rfl trivial ?_ rfl
  simp only [Tryz.ntmps239, List.size_toArray, List.length_cons, List.length_nil, Nat.reduceAdd, Nat.reduceSub, Array.replicate_succ, Array.replicate_zero, List.push_toArray, List.append_toArray, List.nil_append, List.cons_append]
  have HY : Hid (_) := hY
  have B1 : Hid (_) := b1
  have B2 : Hid (_) := b2
  have H0 : Hid (_) := h0
  clear hY hJ hJx hRd b1 b2 h0 hJ0 h01 hRd0 h00
  gi_wp2
  clear c1
  gi_loopw [4] (fun d wr => ∃ v : Int, d = .int .i64 v ∧ s ≤ v ∧ v ≤ 73148 ∧ Hid ((v - s) % e = 0) ∧ Hid (J W0.heap.size (From (pD s e) v) wr) ∧ Hid (Boxed wr Be 3 (.int .i64 e)) ∧ W0.heap.size ≤ wr.heap.size) (fun d _ => (73149 - intOf d).toNat)
  case atStart => exact ⟨s, rfl, Int.le_refl _, by omega, show (s - s) % e = 0 by simp, H0.out, B2.out, Nat.le_refl _⟩
  case round =>
    obtain ⟨v, rfl, hv0, hv1, hm, hJ, hB, hsz⟩ := hrel
    by_cases hv : v ≤ 73048
    · have hc := hB.out.cell
      have hJ' := hJ.out
      rw [daily_step he0 hv0 hm.out hv] at hJ'
      obtain ⟨fn, tmps, assign, body, hy, hR⟩ := HY.out (n - 1) W0.heap.size v _ wr (by omega) (Nat.le_refl _) hsz hJ'
      clear hJ'
      gi_wp2
      refine hR.mono ?_
      rintro r W3 ⟨hS, (⟨rfl, hJ3⟩ | ⟨rfl, hJx3⟩)⟩
      · have b3 : Boxed W3 Be 3 (.int .i64 e) := hS.box hB.out (.inl hO2)
        have c3 := b3.cell
        have hsz3 := Nat.le_trans hsz hS.size
        have HJ3 : Hid (_) := hJ3
        have B3 : Hid (_) := b3
        have HM : Hid ((v + e - s) % e = 0) := by
          show (v + e - s) % e = 0
          have : v + e - s = (v - s) + e := by omega
          rw [this, Int.add_emod_right]; exact hm.out
        clear b3 hJ3 hS
        gi_wp2
        go_roundw
        case rel => exact ⟨v + e, by go_num, by omega, by omega, HM, HJ3, B3, hsz3⟩
        case measure => simp [intOf]; omega
      · gi_wp2
        refine bodyPost_ret (results_none rfl _ _ _) rfl ?_
        exact ⟨⟨_, rfl⟩, W0.heap.size, Nat.le_refl _, Nat.le_trans hsz hS.size, .inr hJx3⟩
    · have hJ' := hJ.out
      rw [From_end (by omega)] at hJ'
      have HJ' : Hid (_) := hJ'
      clear hJ'
      gi_wp2
      go_end0
      exact ⟨⟨_, rfl⟩, W0.heap.size, Nat.le_refl _, hsz, .inl HJ'.out⟩
end Go.Proofs.YtnpecjccajebiaaGreatDoor

/- Plain mathematics of what comes again: from month to month, from week to week. -/
namespace Go.Proofs.YtnpecjccajebiaaGreatDoor.Cal

theorem mod_between {c c' e : Int} (h : c % e = 0) (h1 : c < c') (h2 : c' < c + e) : c' % e ≠ 0 := by
  intro h4
  have h5 : c' = c + (c' - c) := by omega
  rw [h5, Int.add_emod, h, Int.zero_add, Int.emod_emod_of_dvd _ (Int.dvd_refl e)] at h4
  rw [Int.emod_eq_of_lt (by omega) (by omega)] at h4
  omega
theorem mod_on {c e : Int} (h : c % e = 0) : (c + e) % e = 0 := by rw [Int.add_emod_right]; exact h

/-- no day of the month's stretch but one -/
theorem month_only {j dd e t d : Int} (hj0 : 0 ≤ j) (h1 : 1 ≤ dd) (h2 : dd ≤ dim (yA j) (mA j)) (he : 1 ≤ e) (ht : j ≤ t) (ht1 : t < 2400) (hm : (t - j) % e = 0)
    (hd0 : F t ≤ d) (hd1 : d < F (min (t + e) 2400)) (hp : pM (num (yA j) (mA j) dd) e d = true) : dd ≤ dim (yA t) (mA t) ∧ d = num (yA t) (mA t) dd := by
  obtain ⟨i, hi0, hi1, hi2, hi3, hi4⟩ := (pM_at hj0 (by omega) h1 h2).1 hp
  have hf := F_succ (s := i) (by omega) hi1
  rw [num_F] at hi4
  have a1 : t ≤ i := by
    rcases Int.lt_or_le i t with h | h
    · have := F_le (s := i + 1) (t := t) (by omega) (by omega) (by omega); omega
    · exact h
  have a2 : i < min (t + e) 2400 := by
    rcases Int.lt_or_le i (min (t + e) 2400) with h | h
    · exact h
    · have := F_le (s := min (t + e) 2400) (t := i) (by omega) h (by omega); omega
  have a3 : i = t := by
    rcases Int.lt_or_le t i with h | h
    · exact absurd hi2 (mod_between hm (by omega) (by omega))
    · omega
  subst a3
  exact ⟨hi3, by rw [num_F]; exact hi4⟩
theorem month_hit {j dd e t : Int} (hj0 : 0 ≤ j) (h1 : 1 ≤ dd) (h2 : dd ≤ dim (yA j) (mA j)) (he : 1 ≤ e) (ht : j ≤ t) (ht1 : t < 2400) (hm : (t - j) % e = 0) (hd : dd ≤ dim (yA t) (mA t)) :
    From (pM (num (yA j) (mA j) dd) e) (F t) = num (yA t) (mA t) dd :: From (pM (num (yA j) (mA j) dd) e) (F (min (t + e) 2400)) := by
  have hf := F_succ (s := t) (by omega) ht1
  have hl := F_le (s := t + 1) (t := min (t + e) 2400) (by omega) (by omega) (by omega)
  have hl2 := F_le (s := t + 1) (t := 2400) (by omega) (by omega) (by omega)
  have hn : num (yA t) (mA t) dd = F t + dd - 1 := num_F t dd
  have hlast := F_last
  have only : ∀ x, F t ≤ x → x < F (min (t + e) 2400) → x ≠ num (yA t) (mA t) dd → pM (num (yA j) (mA j) dd) e x = false := fun x q1 q2 q3 => by
    rw [← Bool.not_eq_true]; intro hp
    exact q3 (month_only hj0 h1 h2 he ht ht1 hm q1 q2 hp).2
  rw [From_to (a := F t) (b := num (yA t) (mA t) dd) (by omega) (fun x q1 q2 => only x q1 (by omega) (by omega)), From_hit (by omega) ((pM_at hj0 (by omega) h1 h2).2 ⟨t, ht, ht1, hm, hd, rfl⟩)]
  congr 1
  exact From_to (by omega) (fun x q1 q2 => only x (by omega) q2 (by omega))
theorem month_miss {j dd e t : Int} (hj0 : 0 ≤ j) (h1 : 1 ≤ dd) (h2 : dd ≤ dim (yA j) (mA j)) (he : 1 ≤ e) (ht : j ≤ t) (ht1 : t < 2400) (hm : (t - j) % e = 0) (hd : dim (yA t) (mA t) < dd) :
    From (pM (num (yA j) (mA j) dd) e) (F t) = From (pM (num (yA j) (mA j) dd) e) (F (min (t + e) 2400)) := by
  refine From_to (F_le (by omega) (by omega) (by omega)) (fun x q1 q2 => ?_)
  rw [← Bool.not_eq_true]; intro hp
  have := (month_only hj0 h1 h2 he ht ht1 hm q1 q2 hp).1
  omega
theorem month_start {j dd e : Int} (hj0 : 0 ≤ j) (hj1 : j < 2400) (h1 : 1 ≤ dd) (h2 : dd ≤ dim (yA j) (mA j)) :
    From (pM (num (yA j) (mA j) dd) e) (num (yA j) (mA j) dd) = From (pM (num (yA j) (mA j) dd) e) (F j) := by
  symm
  rw [num_F]
  refine From_to (by omega) (fun x q1 q2 => ?_)
  rw [← Bool.not_eq_true]; intro hp
  rw [← num_F] at hp
  obtain ⟨i, hi0, hi1, hi2, hi3, hi4⟩ := (pM_at hj0 hj1 h1 h2).1 hp
  have := F_le (s := j) (t := i) hj0 hi0 (by omega)
  rw [num_F] at hi4
  omega

/-- of a day of a week that is known -/
theorem pW_at {s e c t : Int} {ds : List Int} (h0 : 0 ≤ t) (h6 : t ≤ 6) : pW s e ds (s - (s + 5) % 7 + 7 * c + t) = true ↔ (s ≤ s - (s + 5) % 7 + 7 * c + t ∧ c % e = 0 ∧ t ∈ ds) := by
  unfold pW
  have e1 : (s - (s + 5) % 7 + 7 * c + t + 5) % 7 = t := by omega
  have e2 : (s - (s + 5) % 7 + 7 * c + t - t - (s - (s + 5) % 7)) / 7 = c := by omega
  rw [decide_eq_true_iff, e1, e2]
theorem rise_lt {ds : List Int} (h : ∀ (i : Nat) (h : i + 1 < ds.length), ds[i] < ds[i + 1]) : ∀ (n i : Nat) (hi : i + n + 1 < ds.length), ds[i] < ds[i + n + 1]
  | 0, i, hi => h i hi
  | n + 1, i, hi => by
    have h1 := rise_lt h n i (by omega)
    have h2 := h (i + n + 1) (by omega)
    have : ds[i + (n + 1) + 1] = ds[i + n + 1 + 1] := rfl
    omega
theorem rise_of {ds : List Int} (h : ∀ (i : Nat) (h : i + 1 < ds.length), ds[i] < ds[i + 1]) {i j : Nat} (hi : i < ds.length) (hj : j < ds.length) (hij : i < j) : ds[i] < ds[j] := by
  have e : j = i + (j - i - 1) + 1 := by omega
  have h1 := rise_lt h (j - i - 1) i (by omega)
  have e2 : ds[j] = ds[i + (j - i - 1) + 1]'(by omega) := by congr 1
  omega
/-- where a week's round stands -/
def wpos (M : Int) (ds : List Int) (q : Nat) : Int := if q = 0 then M else M + ds.getD (q - 1) 0 + 1
theorem getD_at {ds : List Int} {q : Nat} (h : q < ds.length) : ds.getD q 0 = ds[q] := by simp [List.getD, List.getElem?_eq_getElem h]
theorem week_skip {s e c : Int} {ds : List Int} (hD : ∀ d ∈ ds, 0 ≤ d ∧ d ≤ 6) (hR : ∀ (i : Nat) (h : i + 1 < ds.length), ds[i] < ds[i + 1]) (q : Nat) (hq : q < ds.length) :
    From (pW s e ds) (wpos (s - (s + 5) % 7 + 7 * c) ds q) = From (pW s e ds) (s - (s + 5) % 7 + 7 * c + ds[q]) := by
  have hq1 := hD ds[q] (List.getElem_mem hq)
  have hlow : ∀ x, wpos (s - (s + 5) % 7 + 7 * c) ds q ≤ x → x < s - (s + 5) % 7 + 7 * c + ds[q] → s - (s + 5) % 7 + 7 * c ≤ x ∧ ∀ (i : Nat) (h : i < q), ds[i]'(by omega) < x - (s - (s + 5) % 7 + 7 * c) := by
    intro x h1 h2
    unfold wpos at h1
    split at h1
    · exact ⟨by omega, fun i h => by omega⟩
    · have hp := hD (ds[q - 1]'(by omega)) (List.getElem_mem _)
      rw [getD_at (by omega)] at h1
      refine ⟨by omega, fun i h => ?_⟩
      rcases Nat.lt_or_ge i (q - 1) with h3 | h3
      · have := rise_of hR (i := i) (j := q - 1) (by omega) (by omega) h3
        omega
      · have : i = q - 1 := by omega
        subst this
        omega
  have hle : wpos (s - (s + 5) % 7 + 7 * c) ds q ≤ s - (s + 5) % 7 + 7 * c + ds[q] := by
    unfold wpos
    split
    · omega
    · rw [getD_at (by omega)]
      have := rise_of hR (i := q - 1) (j := q) (by omega) hq (by omega)
      omega
  refine From_to hle (fun x h1 h2 => ?_)
  obtain ⟨h3, h4⟩ := hlow x h1 h2
  rw [← Bool.not_eq_true]; intro hp
  have ex : x = s - (s + 5) % 7 + 7 * c + (x - (s - (s + 5) % 7 + 7 * c)) := by omega
  rw [ex, pW_at (by omega) (by omega)] at hp
  obtain ⟨i, hi, hi2⟩ := List.mem_iff_getElem.1 hp.2.2
  rcases Nat.lt_or_ge i q with h5 | h5
  · have := h4 i h5; omega
  · rcases Nat.lt_or_ge q i with h6 | h6
    · have := rise_of hR hq hi h6; omega
    · have : i = q := by omega
      subst this; omega
theorem wpos_succ (M : Int) (ds : List Int) (q : Nat) (hq : q < ds.length) : wpos M ds (q + 1) = M + ds[q] + 1 := by
  unfold wpos
  rw [if_neg (by omega), show q + 1 - 1 = q from rfl, getD_at hq]
theorem week_hit {s e c : Int} {ds : List Int} (hD : ∀ d ∈ ds, 0 ≤ d ∧ d ≤ 6) (hR : ∀ (i : Nat) (h : i + 1 < ds.length), ds[i] < ds[i + 1]) (hc : c % e = 0) (q : Nat) (hq : q < ds.length)
    (h1 : s ≤ s - (s + 5) % 7 + 7 * c + ds[q]) (h2 : s - (s + 5) % 7 + 7 * c + ds[q] ≤ 73048) :
    From (pW s e ds) (wpos (s - (s + 5) % 7 + 7 * c) ds q) = (s - (s + 5) % 7 + 7 * c + ds[q]) :: From (pW s e ds) (wpos (s - (s + 5) % 7 + 7 * c) ds (q + 1)) := by
  have hq1 := hD ds[q] (List.getElem_mem hq)
  rw [week_skip hD hR q hq, From_hit h2 ((pW_at hq1.1 hq1.2).2 ⟨h1, hc, List.getElem_mem hq⟩), wpos_succ _ _ _ hq]
theorem week_low {s e c : Int} {ds : List Int} (hD : ∀ d ∈ ds, 0 ≤ d ∧ d ≤ 6) (hR : ∀ (i : Nat) (h : i + 1 < ds.length), ds[i] < ds[i + 1]) (q : Nat) (hq : q < ds.length)
    (h1 : s - (s + 5) % 7 + 7 * c + ds[q] < s) :
    From (pW s e ds) (wpos (s - (s + 5) % 7 + 7 * c) ds q) = From (pW s e ds) (wpos (s - (s + 5) % 7 + 7 * c) ds (q + 1)) := by
  have hq1 := hD ds[q] (List.getElem_mem hq)
  rw [week_skip hD hR q hq, wpos_succ _ _ _ hq]
  refine From_miss ?_
  rw [← Bool.not_eq_true]; intro hp
  have := (pW_at hq1.1 hq1.2).1 hp
  omega
theorem week_over {s e c : Int} {ds : List Int} (hD : ∀ d ∈ ds, 0 ≤ d ∧ d ≤ 6) (hR : ∀ (i : Nat) (h : i + 1 < ds.length), ds[i] < ds[i + 1]) (q : Nat) (hq : q < ds.length)
    (h1 : 73048 < s - (s + 5) % 7 + 7 * c + ds[q]) : From (pW s e ds) (wpos (s - (s + 5) % 7 + 7 * c) ds q) = [] := by
  rw [week_skip hD hR q hq, From_end h1]
theorem week_next {s e c : Int} {ds : List Int} (hD : ∀ d ∈ ds, 0 ≤ d ∧ d ≤ 6) (hR : ∀ (i : Nat) (h : i + 1 < ds.length), ds[i] < ds[i + 1]) (he : 1 ≤ e) (hc : c % e = 0) :
    From (pW s e ds) (wpos (s - (s + 5) % 7 + 7 * c) ds ds.length) = From (pW s e ds) (s - (s + 5) % 7 + 7 * (c + e)) := by
  have hlow : ∀ x, wpos (s - (s + 5) % 7 + 7 * c) ds ds.length ≤ x → s - (s + 5) % 7 + 7 * c ≤ x ∧ ∀ (i : Nat) (h : i < ds.length), ds[i] < x - (s - (s + 5) % 7 + 7 * c) := by
    intro x h1
    unfold wpos at h1
    split at h1
    · exact ⟨by omega, fun i h => by omega⟩
    · have hp := hD (ds[ds.length - 1]'(by omega)) (List.getElem_mem _)
      rw [getD_at (by omega)] at h1
      refine ⟨by omega, fun i h => ?_⟩
      rcases Nat.lt_or_ge i (ds.length - 1) with h3 | h3
      · have := rise_of hR (i := i) (j := ds.length - 1) (by omega) (by omega) h3
        omega
      · have : i = ds.length - 1 := by omega
        subst this
        omega
  have hle : wpos (s - (s + 5) % 7 + 7 * c) ds ds.length ≤ s - (s + 5) % 7 + 7 * (c + e) := by
    unfold wpos
    split
    · omega
    · rw [getD_at (by omega)]
      have hp := hD (ds[ds.length - 1]'(by omega)) (List.getElem_mem _)
      omega
  refine From_to hle (fun x h1 h2 => ?_)
  obtain ⟨h3, h4⟩ := hlow x h1
  rw [← Bool.not_eq_true]; intro hp
  have ex : x = s - (s + 5) % 7 + 7 * (c + (x - (s - (s + 5) % 7 + 7 * c)) / 7) + (x - (s - (s + 5) % 7 + 7 * c)) % 7 := by omega
  rw [ex, pW_at (by omega) (by omega)] at hp
  obtain ⟨_, p2, p3⟩ := hp
  rcases Int.lt_or_le (x - (s - (s + 5) % 7 + 7 * c)) 7 with h5 | h5
  · obtain ⟨i, hi, hi2⟩ := List.mem_iff_getElem.1 p3
    have := h4 i hi
    omega
  · exact mod_between hc (by omega) (by omega) p2
theorem week_start {s e : Int} {ds : List Int} : From (pW s e ds) s = From (pW s e ds) (wpos (s - (s + 5) % 7 + 7 * 0) ds 0) := by
  symm
  unfold wpos
  rw [if_pos rfl]
  refine From_to (by omega) (fun x h1 h2 => ?_)
  unfold pW
  rw [decide_eq_false_iff_not]
  rintro ⟨h3, _⟩
  omega
end Go.Proofs.YtnpecjccajebiaaGreatDoor.Cal

/- The iterators of package expand that go by months, and the one of a single day. -/
namespace Go.Proofs.YtnpecjccajebiaaGreatDoor
open Go Go.RowKit Go.Shelf Cal
attribute [local go_sem] Oper.semAt_some

theorem monthsLeft_any (n y m d : Int) (w : World) (h : vld y m d) (hn : num y m d = n) :
    Calls Tryz.prog 242 #[.int .i64 n] w fun e w' => e = .returned (.int .i64 (2399 - atM y m)) ∧ w' = w := by
  have hh := h
  obtain ⟨hy0, hy1, hm0, hm1, hd0, hd1⟩ := hh
  clear hd1
  go_enter Tryz.func242, Tryz.ntmps242
  go_wp2_with (go_at_call 132; refine (date_ok n y m d _ h hn).mono ?_; rintro e w' ⟨rfl, rfl⟩)
  go_ret
  exact ⟨ret_int (by unfold atM; omega), rfl⟩

/-- where the months' walk stands -/
def mpos (j mo : Int) : Int := F (min (j + mo) 2400)
theorem mpos_zero {j : Int} (h : j < 2400) : mpos j 0 = F j := by unfold mpos; rw [Int.add_zero, show min j 2400 = j by omega]
theorem mpos_in {j mo : Int} (h : j + mo < 2400) : mpos j mo = F (j + mo) := by unfold mpos; rw [show min (j + mo) 2400 = j + mo by omega]
theorem mpos_out {j mo : Int} (h : 2400 ≤ j + mo) : mpos j mo = 73049 := by unfold mpos; rw [show min (j + mo) 2400 = 2400 by omega, F_last]
theorem mpos_on {j mo e : Int} : mpos j (mo + e) = F (min (j + mo + e) 2400) := by unfold mpos; rw [Int.add_assoc]

set_option maxHeartbeats 2000000 in
theorem byMonths_iter {a b : Nat} (hab : b + 2 ≤ a) (s e y m dd : Int) (hv : vld y m dd) (hn : num y m dd = s) (he0 : 1 ≤ e) (he1 : e ≤ 1200) (Bs Be : Nat) (O : Nat → Prop) (Rd : World → Prop)
    (hR : ∀ W, Rd W → ∃ ev, W.cell? ⟨0, 0, none⟩ = some (.iface 288 (.pointer (some ev)))) (hO1 : O Bs) (hO2 : O Be) (W0 : World)
    (b1 : Boxed W0 Bs 3 (.int .i64 s)) (b2 : Boxed W0 Be 3 (.int .i64 e)) :
    Gives a b 241 #[.pointer (some ⟨Bs, 0, none⟩), .pointer (some ⟨Be, 0, none⟩)] O Rd (From (pM s e) s) W0 := by
  intro n l J0 J Jx hna hJ0 h01 hJ hJx hRd0 hRd hY h00
  have h0 := h01 _ h00 (Nat.le_refl _)
  have h1 : 1 ≤ n := by omega
  have hj := atM_bd hv
  have hyj := yM_atM hv
  have hda : 1 ≤ dd := hv.2.2.2.2.1
  have hdb : dd ≤ dim (yA (atM y m)) (mA (atM y m)) := by
    have e1 : yA (atM y m) = y := hyj.1
    have e2 : mA (atM y m) = m := hyj.2
    rw [e1, e2]; exact hv.2.2.2.2.2
  have hsn : num (yA (atM y m)) (mA (atM y m)) dd = s := by
    have e1 : yA (atM y m) = y := hyj.1
    have e2 : mA (atM y m) = m := hyj.2
    rw [e1, e2]; exact hn
  have hst : From (pM s e) s = From (pM s e) (mpos (atM y m) 0) := by
    rw [mpos_zero hj.2, ← hsn]; exact month_start hj.1 hj.2 hda hdb
  rw [hst] at h0
  have c1 := b1.cell
  have ML : Hid (∀ w, _) := fun w => monthsLeft_any s y m dd w hv hn
  have HIT : Hid (∀ mo : Int, 0 ≤ mo → atM y m + mo < 2400 → mo % e = 0 → dd ≤ dim (yM (atM y m + mo)) (mM (atM y m + mo)) → From (pM s e) (mpos (atM y m) mo) = num (yM (atM y m + mo)) (mM (atM y m + mo)) dd :: From (pM s e) (mpos (atM y m) (mo + e))) := fun mo q0 q1 q2 q3 => by
    rw [mpos_in q1, mpos_on, ← hsn]
    exact month_hit hj.1 hda hdb he0 (by omega) q1 (by rw [show atM y m + mo - atM y m = mo by omega]; exact q2) q3
  have MISS : Hid (∀ mo : Int, 0 ≤ mo → atM y m + mo < 2400 → mo % e = 0 → dim (yM (atM y m + mo)) (mM (atM y m + mo)) < dd → From (pM s e) (mpos (atM y m) mo) = From (pM s e) (mpos (atM y m) (mo + e))) := fun mo q0 q1 q2 q3 => by
    rw [mpos_in q1, mpos_on, ← hsn]
    exact month_miss hj.1 hda hdb he0 (by omega) q1 (by rw [show atM y m + mo - atM y m = mo by omega]; exact q2) q3
  have AOK : Hid (∀ (mo : Int) (w : World), 0 ≤ mo → atM y m + mo < 2400 → dd ≤ dim (yM (atM y m + mo)) (mM (atM y m + mo)) → _) := fun mo w q0 q1 q2 => add_ok s mo y m dd w hv hn (by omega) q1 q2
  have ABAD : Hid (∀ (mo : Int) (w : World) (ev : Addr), 0 ≤ mo → atM y m + mo < 2400 → dim (yM (atM y m + mo)) (mM (atM y m + mo)) < dd → w.cell? ⟨0, 0, none⟩ = some (.iface 288 (.pointer (some ev))) → _) := fun mo w ev q0 q1 q2 q3 => add_bad s mo y m dd ev w hv hn (by omega) q1 q2 q3
  have HY : Hid (_) := hY
  have HJ : Hid (_) := hJ
  have HR : Hid (∀ h r W, J h r W → _) := fun h r W q => hR W (hRd h r W q)
  have B1 : Hid (_) := b1
  have B2 : Hid (_) := b2
  have H0 : Hid (_) := h0
  have hj0 := hj.1
  have hj1 := hj.2
  generalize atM y m = j at ML HIT MISS AOK ABAD H0 hj0 hj1
  clear hY hJ hJx hRd b1 b2 h0 hR hJ0 h01 hRd0 h00 hst hsn hda hdb hyj hj hv hn
  refine callsIn_of_wp Tryz.func241 rfl trivial ?_ rfl
  simp only [Tryz.ntmps241, List.size_toArray, List.length_cons, List.length_nil, Nat.reduceAdd, Nat.reduceSub, Array.replicate_succ, Array.replicate_zero, List.push_toArray, List.append_toArray, List.nil_append, List.cons_append]
  gi_wp2_with (refine ⟨trivial, ?_⟩; gi_at_call 242; refine (callsIn_wide.2 (ML.out _)).mono ?_; rintro r w' ⟨rfl, rfl⟩)
  clear c1
  gi_loopw [5] (fun d wr => ∃ v : Int, d = .int .i64 v ∧ 0 ≤ v ∧ v ≤ 3600 ∧ Hid (v % e = 0) ∧ Hid (J w'.heap.size (From (pM s e) (mpos j v)) wr) ∧ Hid (Boxed wr Bs 3 (.int .i64 s)) ∧ Hid (Boxed wr Be 3 (.int .i64 e)) ∧ w'.heap.size ≤ wr.heap.size) (fun d _ => (3601 - intOf d).toNat)
  case atStart => exact ⟨0, rfl, Int.le_refl _, by omega, show (0 : Int) % e = 0 by simp, H0.out, B1.out, B2.out, Nat.le_refl _⟩
  case round =>
    obtain ⟨v, rfl, hv0, hv1, hm, hJ, hB1, hB2, hsz⟩ := hrel
    by_cases hv : v ≤ 2399 - j
    · have hc := hB1.out.cell
      by_cases hd : dd ≤ dim (yM (j + v)) (mM (j + v))
      · have hJ' := hJ.out
        rw [HIT.out v hv0 (by omega) hm.out hd] at hJ'
        have A : Hid (_) := AOK.out v wr hv0 (by omega) hd
        have HJ' : Hid (_) := hJ'
        clear hJ' hd HIT MISS AOK ABAD
        generalize num (yM (j + v)) (mM (j + v)) dd = x at HJ' A
        gi_wp2_with (refine ⟨trivial, ?_⟩; gi_at_call 243; refine (callsIn_wide.2 A.out).mono ?_; rintro r w2 ⟨rfl, hb2⟩; obtain ⟨fn, tmps, assign, body, hy, hR⟩ := HY.out (n - 1) w'.heap.size x _ w2 (by omega) (Nat.le_refl _) (Nat.le_trans hsz hb2.size) (HJ.out _ _ _ _ (Nat.le_refl _) HJ'.out (Steps.of_below hb2)))
        refine hR.mono ?_
        rintro r W3 ⟨hS, (⟨rfl, hJ3⟩ | ⟨rfl, hJx3⟩)⟩
        · have q1 : Boxed W3 Bs 3 (.int .i64 s) := hS.box ((Steps.of_below (p := fun _ => True) hb2).box hB1.out trivial) (.inl hO1)
          have q2 : Boxed W3 Be 3 (.int .i64 e) := hS.box ((Steps.of_below (p := fun _ => True) hb2).box hB2.out trivial) (.inl hO2)
          have c3 := q2.cell
          have hsz3 := Nat.le_trans hsz (Nat.le_trans hb2.size hS.size)
          have HJ3 : Hid (_) := hJ3
          have Q1 : Hid (_) := q1
          have Q2 : Hid (_) := q2
          have HM : Hid ((v + e) % e = 0) := mod_on hm.out
          clear q1 q2 hJ3 hS
          gi_wp2
          go_roundw
          case rel => exact ⟨v + e, by go_num, by omega, by omega, HM, HJ3, Q1, Q2, hsz3⟩
          case measure => simp [intOf]; omega
        · gi_wp2
          refine bodyPost_ret (results_none rfl _ _ _) rfl ?_
          exact ⟨⟨_, rfl⟩, w'.heap.size, Nat.le_refl _, Nat.le_trans hsz (Nat.le_trans hb2.size hS.size), .inr hJx3⟩
      · have hJ' := hJ.out
        rw [MISS.out v hv0 (by omega) hm.out (by omega)] at hJ'
        obtain ⟨ev, hev⟩ := HR.out _ _ _ hJ'
        have A : Hid (_) := ABAD.out v wr ev hv0 (by omega) (by omega) hev
        have HJ' : Hid (_) := hJ'
        clear hJ' hd HIT MISS AOK ABAD hev
        gi_wp2_with (first
          | (refine ⟨trivial, ?_⟩; gi_at_call 243; refine (callsIn_wide.2 A.out).mono ?_; rintro r w2 ⟨rfl, hb2⟩; have q1 : Boxed w2 Bs 3 (.int .i64 s) := ((Steps.of_below (p := fun _ => True) hb2).box hB1.out trivial); have q2 : Boxed w2 Be 3 (.int .i64 e) := ((Steps.of_below (p := fun _ => True) hb2).box hB2.out trivial); have c3 := q2.cell; have Q1 : Hid (_) := q1; have Q2 : Hid (_) := q2; clear q1 q2)
          | fail)
        refine ⟨fun _ h => (by cases h), ?_⟩
        have HM : Hid ((v + e) % e = 0) := mod_on hm.out
        gi_wp2
        go_roundw
        case rel => exact ⟨v + e, by go_num, by omega, by omega, HM, HJ.out _ _ _ _ (Nat.le_refl _) HJ'.out (Steps.of_below hb2), Q1, Q2, Nat.le_trans hsz hb2.size⟩
        case measure => simp [intOf]; omega
    · have hJ' := hJ.out
      rw [mpos_out (by omega), From_end (by omega)] at hJ'
      have HJ' : Hid (_) := hJ'
      clear hJ'
      gi_wp2
      go_end0
      exact ⟨⟨_, rfl⟩, w'.heap.size, Nat.le_refl _, hsz, .inl HJ'.out⟩

theorem once_iter {a b : Nat} (hab : b + 2 ≤ a) (s : Int) (Bs : Nat) (O : Nat → Prop) (Rd : World → Prop) (hs : s ≤ 73048) (W0 : World) (b1 : Boxed W0 Bs 3 (.int .i64 s)) :
    Gives a b 211 #[.pointer (some ⟨Bs, 0, none⟩)] O Rd (From (fun d => decide (d = s)) s) W0 := by
  intro n l J0 J Jx hna hJ0 h01 hJ hJx hRd0 hRd hY h00
  have h0 := h01 _ h00 (Nat.le_refl _)
  have h1 : 1 ≤ n := by omega
  rw [From_hit hs (by simp), From_to (b := max 73049 (s + 1)) (by omega) (fun x h1 h2 => by simp; omega), From_end (by omega)] at h0
  have c1 := b1.cell
  obtain ⟨fn, tmps, assign, body, hy, hR⟩ := hY (n - 1) W0.heap.size s _ W0 (by omega) (Nat.le_refl _) (Nat.le_refl _) h0
  clear hY hJ hJx hRd h0 hJ0 h01 hRd0 h00
  refine callsIn_of_wp Tryz.func211 rfl trivial ?_ rfl
  simp only [Tryz.ntmps211, List.size_toArray, List.length_cons, List.length_nil, Nat.reduceAdd, Nat.reduceSub, Array.replicate_succ, Array.replicate_zero, List.push_toArray, List.append_toArray, List.nil_append, List.cons_append]
  gi_wp2
  refine hR.mono ?_
  rintro r W3 ⟨hS, (⟨rfl, hJ3⟩ | ⟨rfl, hJx3⟩)⟩
  · gi_wp2
    go_end0
    exact ⟨⟨_, rfl⟩, W0.heap.size, Nat.le_refl _, hS.size, .inl hJ3⟩
  · gi_wp2
    go_end0
    exact ⟨⟨_, rfl⟩, W0.heap.size, Nat.le_refl _, hS.size, .inr hJx3⟩
end Go.Proofs.YtnpecjccajebiaaGreatDoor
