/- What an iterator over days owes and is owed: it gives a list's days one by one as long as the round says yes; it writes blocks of its own alone; a round leaves these. The iterator of package expand that goes by days. -/
import Derived.Test.YtcaeafgkogfgdaaGreatDoorRaAA
import Derived.Test.YtcaeafgkogfgdaaGreatDoorRaAB
import Derived.Shelf.Abstract
import Derived.Shelf.RegionOpen
import Derived.WalkKit
import Derived.OwnWalkIn
import Derived.TacticsInMore
import Derived.LoopNIn
import Derived.LoopIn
import Derived.Test.YtcaeafgkogfgdaaGreatDoorRaAF
namespace Go.Proofs.YtcaeafgkogfgdaaGreatDoor
open Go Go.RowKit Go.Shelf Cal
attribute [local go_sem] Oper.semAt_some

/-- the blocks of a kind lie as they lay; streams are as they were; no block has gone -/
structure Steps (keep : Nat → Prop) (W W' : World) : Prop where
  os : W'.os = W.os
  tape : W'.tape = W.tape
  output : W'.output = W.output
  size : W.heap.size ≤ W'.heap.size
  block : ∀ k, keep k → k < W.heap.size → W'.heap[k]? = W.heap[k]?
theorem Steps.refl (p : Nat → Prop) (W : World) : Steps p W W := ⟨rfl, rfl, rfl, Nat.le_refl _, fun _ _ _ => rfl⟩
theorem Steps.trans {p : Nat → Prop} {A B C : World} (h : Steps p A B) (k : Steps p B C) : Steps p A C :=
  ⟨k.os.trans h.os, k.tape.trans h.tape, k.output.trans h.output, Nat.le_trans h.size k.size, fun i hp hi => (k.block i hp (Nat.lt_of_lt_of_le hi h.size)).trans (h.block i hp hi)⟩
theorem Steps.mono {p q : Nat → Prop} {A B : World} (h : Steps p A B) (hq : ∀ k, q k → p k) : Steps q A B := ⟨h.os, h.tape, h.output, h.size, fun k hk hl => h.block k (hq k hk) hl⟩
theorem Steps.below {n : Nat} {A B : World} (h : Below n A B) : Steps (fun k => k < n) A B := ⟨h.os, h.tape, h.output, h.size, fun k hk _ => h.block k hk⟩
theorem Steps.of_below {p : Nat → Prop} {A B : World} (h : Below A.heap.size A B) : Steps p A B := ⟨h.os, h.tape, h.output, h.size, fun k _ hl => h.block k hl⟩
theorem Steps.alloc (p : Nat → Prop) (W : World) (o : Obj) : Steps p W (W.alloc o) := Steps.of_below (below_alloc W o)
theorem Steps.set {p : Nat → Prop} (W : World) (a : Addr) (v : Value) (h : ¬ p a.block) : Steps p W (W.setCell a v) :=
  ⟨rfl, rfl, rfl, by rw [set_size]; exact Nat.le_refl _, fun k hk _ => Below.heap_setCell _ _ _ k (fun e => h (e ▸ hk))⟩
theorem Steps.put {p : Nat → Prop} (W : World) (l : Nat) (o : Obj) (h : ¬ p l) : Steps p W (W.putObj l o) :=
  ⟨rfl, rfl, rfl, by rw [World.putObj_size]; exact Nat.le_refl _, fun k hk _ => World.putObj_heap_other (fun e => h (e ▸ hk))⟩
theorem Steps.box {p : Nat → Prop} {A B : World} (h : Steps p A B) {b : Nat} {t : TypeId} {v : Value} (hb : Boxed A b t v) (hp : p b) : Boxed B b t v :=
  (h.block b hp (Array.getElem?_eq_some_iff.1 hb).1).trans hb
theorem Steps.obj {p : Nat → Prop} {A B : World} (h : Steps p A B) {b : Nat} {o : Obj} (hb : A.heap[b]? = some o) (hp : p b) : B.heap[b]? = some o :=
  (h.block b hp (Array.getElem?_eq_some_iff.1 hb).1).trans hb
theorem Steps.toBelow {p : Nat → Prop} {A B : World} (h : Steps p A B) {n : Nat} (hn : n ≤ A.heap.size) (hp : ∀ k, k < n → p k) : Below n A B :=
  ⟨h.os, h.tape, h.output, h.size, fun k hk => h.block k (hp k hk) (by omega)⟩

/-- what the iterator keeps ahead of its first round (the blocks below n that are not its own), and from then on (those too that were laid by rounds: from h on); what a round keeps (the iterator's own, and those that it has laid) -/
def itO (O : Nat → Prop) (n : Nat) (k : Nat) : Prop := ¬ O k ∧ k < n
def itK (O : Nat → Prop) (n h : Nat) (k : Nat) : Prop := ¬ O k ∧ (k < n ∨ h ≤ k)
def roK (O : Nat → Prop) (n h : Nat) (k : Nat) : Prop := O k ∨ (n ≤ k ∧ k < h)

/-- an iterator gives these days (a, b: how many frames it and a round may want) -/
def Gives (a b : Nat) (g : Nat) (lb : Array Value) (O : Nat → Prop) (Rd : World → Prop) (xs : List Int) (W0 : World) : Prop :=
  ∀ (n l : Nat) (J0 : World → Prop) (J : Nat → List Int → World → Prop) (Jx : Nat → World → Prop), a ≤ n →
    (∀ W W', J0 W → Steps (itO O W0.heap.size) W W' → J0 W') →
    (∀ W, J0 W → W0.heap.size ≤ W.heap.size → J W.heap.size xs W) →
    (∀ h r W W', W0.heap.size ≤ h → J h r W → Steps (itK O W0.heap.size h) W W' → J h r W') →
    (∀ h W W', W0.heap.size ≤ h → Jx h W → Steps (itK O W0.heap.size h) W W' → Jx h W') →
    (∀ W, J0 W → Rd W) → (∀ h r W, J h r W → Rd W) →
    (∀ (m h : Nat) (x : Int) (r : List Int) (W : World), b ≤ m → W0.heap.size ≤ h → h ≤ W.heap.size → J h (x :: r) W → YieldAt Fence.wide m Tryz.prog l #[.int .i64 x] W fun e W' =>
      Steps (roK O W0.heap.size h) W W' ∧ ((e = .returned (.bool true) ∧ J h r W') ∨ (e = .returned (.bool false) ∧ Jx h W'))) →
    J0 W0 →
    CallsIn Fence.wide n Tryz.prog g (#[.func (.yield l) #[] #[]] ++ lb) W0 fun e W' => (∃ v, e = .returned v) ∧ ∃ h, W0.heap.size ≤ h ∧ h ≤ W'.heap.size ∧ (J h [] W' ∨ Jx h W')

theorem daily_step {s e v : Int} (he : 1 ≤ e) (hs : s ≤ v) (hm : (v - s) % e = 0) (hv : v ≤ 73048) : From (pD s e) v = v :: From (pD s e) (v + e) := by
  rw [From_hit hv (by unfold pD; simp; exact ⟨hs, hm⟩)]
  congr 1
  refine From_to (by omega) (fun x h1 h2 => ?_)
  unfold pD
  rw [decide_eq_false_iff_not]
  rintro ⟨_, h4⟩
  have h5 : (x - s) = (v - s) + (x - v) := by omega
  rw [h5, Int.add_emod, hm, Int.zero_add, Int.emod_emod_of_dvd _ (Int.dvd_refl e)] at h4
  rw [Int.emod_eq_of_lt (by omega) (by omega)] at h4
  omega

end Go.Proofs.YtcaeafgkogfgdaaGreatDoor

/- Plain mathematics of what comes again: from month to month, from week to week. -/
namespace Go.Proofs.YtcaeafgkogfgdaaGreatDoor.Cal

theorem mod_between {c c' e : Int} (h : c % e = 0) (h1 : c < c') (h2 : c' < c + e) : c' % e ≠ 0 := by
  intro h4
  have h5 : c' = c + (c' - c) := by omega
  rw [h5, Int.add_emod, h, Int.zero_add, Int.emod_emod_of_dvd _ (Int.dvd_refl e)] at h4
  rw [Int.emod_eq_of_lt (by omega) (by omega)] at h4
  omega
theorem mod_on {c e : Int} (h : c % e = 0) : (c + e) % e = 0 := by rw [Int.add_emod_right]; exact h

/-- no day of the month's stretch but one -/
theorem month_only {j dd e t d : Int} (hj0 : 0 ≤ j) (h1 : 1 ≤ dd) (h2 : dd ≤ dim (yA j) (mA j)) (he : 1 ≤ e) (ht : j ≤ t) (ht1 : t < 2400) (hm : (t - j) % e = 0)
    (hd0 : F t ≤ d) (hd1 : d < F (min (t + e) 2400)) (hp : pM (num (yA j) (mA j) dd) e d = true) : dd ≤ dim (yA t) (mA t) ∧ d = num (yA t) (mA t) dd := by
  obtain ⟨i, hi0, hi1, hi2, hi3, hi4⟩ := (pM_at hj0 (by omega) h1 h2).1 hp
  have hf := F_succ (s := i) (by omega) hi1
  rw [num_F] at hi4
  have a1 : t ≤ i := by
    rcases Int.lt_or_le i t with h | h
    · have := F_le (s := i + 1) (t := t) (by omega) (by omega) (by omega); omega
    · exact h
  have a2 : i < min (t + e) 2400 := by
    rcases Int.lt_or_le i (min (t + e) 2400) with h | h
    · exact h
    · have := F_le (s := min (t + e) 2400) (t := i) (by omega) h (by omega); omega
  have a3 : i = t := by
    rcases Int.lt_or_le t i with h | h
    · exact absurd hi2 (mod_between hm (by omega) (by omega))
    · omega
  subst a3
  exact ⟨hi3, by rw [num_F]; exact hi4⟩
theorem month_hit {j dd e t : Int} (hj0 : 0 ≤ j) (h1 : 1 ≤ dd) (h2 : dd ≤ dim (yA j) (mA j)) (he : 1 ≤ e) (ht : j ≤ t) (ht1 : t < 2400) (hm : (t - j) % e = 0) (hd : dd ≤ dim (yA t) (mA t)) :
    From (pM (num (yA j) (mA j) dd) e) (F t) = num (yA t) (mA t) dd :: From (pM (num (yA j) (mA j) dd) e) (F (min (t + e) 2400)) := by
  have hf := F_succ (s := t) (by omega) ht1
  have hl := F_le (s := t + 1) (t := min (t + e) 2400) (by omega) (by omega) (by omega)
  have hl2 := F_le (s := t + 1) (t := 2400) (by omega) (by omega) (by omega)
  have hn : num (yA t) (mA t) dd = F t + dd - 1 := num_F t dd
  have hlast := F_last
  have only : ∀ x, F t ≤ x → x < F (min (t + e) 2400) → x ≠ num (yA t) (mA t) dd → pM (num (yA j) (mA j) dd) e x = false := fun x q1 q2 q3 => by
    rw [← Bool.not_eq_true]; intro hp
    exact q3 (month_only hj0 h1 h2 he ht ht1 hm q1 q2 hp).2
  rw [From_to (a := F t) (b := num (yA t) (mA t) dd) (by omega) (fun x q1 q2 => only x q1 (by omega) (by omega)), From_hit (by omega) ((pM_at hj0 (by omega) h1 h2).2 ⟨t, ht, ht1, hm, hd, rfl⟩)]
  congr 1
  exact From_to (by omega) (fun x q1 q2 => only x (by omega) q2 (by omega))
theorem month_miss {j dd e t : Int} (hj0 : 0 ≤ j) (h1 : 1 ≤ dd) (h2 : dd ≤ dim (yA j) (mA j)) (he : 1 ≤ e) (ht : j ≤ t) (ht1 : t < 2400) (hm : (t - j) % e = 0) (hd : dim (yA t) (mA t) < dd) :
    From (pM (num (yA j) (mA j) dd) e) (F t) = From (pM (num (yA j) (mA j) dd) e) (F (min (t + e) 2400)) := by
  refine From_to (F_le (by omega) (by omega) (by omega)) (fun x q1 q2 => ?_)
  rw [← Bool.not_eq_true]; intro hp
  have := (month_only hj0 h1 h2 he ht ht1 hm q1 q2 hp).1
  omega
theorem month_start {j dd e : Int} (hj0 : 0 ≤ j) (hj1 : j < 2400) (h1 : 1 ≤ dd) (h2 : dd ≤ dim (yA j) (mA j)) :
    From (pM (num (yA j) (mA j) dd) e) (num (yA j) (mA j) dd) = From (pM (num (yA j) (mA j) dd) e) (F j) := by
  symm
  rw [num_F]
  refine From_to (by omega) (fun x q1 q2 => ?_)
  rw [← Bool.not_eq_true]; intro hp
  rw [← num_F] at hp
  obtain ⟨i, hi0, hi1, hi2, hi3, hi4⟩ := (pM_at hj0 hj1 h1 h2).1 hp
  have := F_le (s := j) (t := i) hj0 hi0 (by omega)
  rw [num_F] at hi4
  omega

/-- of a day of a week that is known -/
theorem pW_at {s e c t : Int} {ds : List Int} (h0 : 0 ≤ t) (h6 : t ≤ 6) : pW s e ds (s - (s + 5) % 7 + 7 * c + t) = true ↔ (s ≤ s - (s + 5) % 7 + 7 * c + t ∧ c % e = 0 ∧ t ∈ ds) := by
  unfold pW
  have e1 : (s - (s + 5) % 7 + 7 * c + t + 5) % 7 = t := by omega
  have e2 : (s - (s + 5) % 7 + 7 * c + t - t - (s - (s + 5) % 7)) / 7 = c := by omega
  rw [decide_eq_true_iff, e1, e2]
theorem rise_lt {ds : List Int} (h : ∀ (i : Nat) (h : i + 1 < ds.length), ds[i] < ds[i + 1]) : ∀ (n i : Nat) (hi : i + n + 1 < ds.length), ds[i] < ds[i + n + 1]
  | 0, i, hi => h i hi
  | n + 1, i, hi => by
    have h1 := rise_lt h n i (by omega)
    have h2 := h (i + n + 1) (by omega)
    have : ds[i + (n + 1) + 1] = ds[i + n + 1 + 1] := rfl
    omega
theorem rise_of {ds : List Int} (h : ∀ (i : Nat) (h : i + 1 < ds.length), ds[i] < ds[i + 1]) {i j : Nat} (hi : i < ds.length) (hj : j < ds.length) (hij : i < j) : ds[i] < ds[j] := by
  have e : j = i + (j - i - 1) + 1 := by omega
  have h1 := rise_lt h (j - i - 1) i (by omega)
  have e2 : ds[j] = ds[i + (j - i - 1) + 1]'(by omega) := by congr 1
  omega
/-- where a week's round stands -/
def wpos (M : Int) (ds : List Int) (q : Nat) : Int := if q = 0 then M else M + ds.getD (q - 1) 0 + 1
theorem getD_at {ds : List Int} {q : Nat} (h : q < ds.length) : ds.getD q 0 = ds[q] := by simp [List.getD, List.getElem?_eq_getElem h]
theorem week_skip {s e c : Int} {ds : List Int} (hD : ∀ d ∈ ds, 0 ≤ d ∧ d ≤ 6) (hR : ∀ (i : Nat) (h : i + 1 < ds.length), ds[i] < ds[i + 1]) (q : Nat) (hq : q < ds.length) :
    From (pW s e ds) (wpos (s - (s + 5) % 7 + 7 * c) ds q) = From (pW s e ds) (s - (s + 5) % 7 + 7 * c + ds[q]) := by
  have hq1 := hD ds[q] (List.getElem_mem hq)
  have hlow : ∀ x, wpos (s - (s + 5) % 7 + 7 * c) ds q ≤ x → x < s - (s + 5) % 7 + 7 * c + ds[q] → s - (s + 5) % 7 + 7 * c ≤ x ∧ ∀ (i : Nat) (h : i < q), ds[i]'(by omega) < x - (s - (s + 5) % 7 + 7 * c) := by
    intro x h1 h2
    unfold wpos at h1
    split at h1
    · exact ⟨by omega, fun i h => by omega⟩
    · have hp := hD (ds[q - 1]'(by omega)) (List.getElem_mem _)
      rw [getD_at (by omega)] at h1
      refine ⟨by omega, fun i h => ?_⟩
      rcases Nat.lt_or_ge i (q - 1) with h3 | h3
      · have := rise_of hR (i := i) (j := q - 1) (by omega) (by omega) h3
        omega
      · have : i = q - 1 := by omega
        subst this
        omega
  have hle : wpos (s - (s + 5) % 7 + 7 * c) ds q ≤ s - (s + 5) % 7 + 7 * c + ds[q] := by
    unfold wpos
    split
    · omega
    · rw [getD_at (by omega)]
      have := rise_of hR (i := q - 1) (j := q) (by omega) hq (by omega)
      omega
  refine From_to hle (fun x h1 h2 => ?_)
  obtain ⟨h3, h4⟩ := hlow x h1 h2
  rw [← Bool.not_eq_true]; intro hp
  have ex : x = s - (s + 5) % 7 + 7 * c + (x - (s - (s + 5) % 7 + 7 * c)) := by omega
  rw [ex, pW_at (by omega) (by omega)] at hp
  obtain ⟨i, hi, hi2⟩ := List.mem_iff_getElem.1 hp.2.2
  rcases Nat.lt_or_ge i q with h5 | h5
  · have := h4 i h5; omega
  · rcases Nat.lt_or_ge q i with h6 | h6
    · have := rise_of hR hq hi h6; omega
    · have : i = q := by omega
      subst this; omega
theorem wpos_succ (M : Int) (ds : List Int) (q : Nat) (hq : q < ds.length) : wpos M ds (q + 1) = M + ds[q] + 1 := by
  unfold wpos
  rw [if_neg (by omega), show q + 1 - 1 = q from rfl, getD_at hq]
theorem week_hit {s e c : Int} {ds : List Int} (hD : ∀ d ∈ ds, 0 ≤ d ∧ d ≤ 6) (hR : ∀ (i : Nat) (h : i + 1 < ds.length), ds[i] < ds[i + 1]) (hc : c % e = 0) (q : Nat) (hq : q < ds.length)
    (h1 : s ≤ s - (s + 5) % 7 + 7 * c + ds[q]) (h2 : s - (s + 5) % 7 + 7 * c + ds[q] ≤ 73048) :
    From (pW s e ds) (wpos (s - (s + 5) % 7 + 7 * c) ds q) = (s - (s + 5) % 7 + 7 * c + ds[q]) :: From (pW s e ds) (wpos (s - (s + 5) % 7 + 7 * c) ds (q + 1)) := by
  have hq1 := hD ds[q] (List.getElem_mem hq)
  rw [week_skip hD hR q hq, From_hit h2 ((pW_at hq1.1 hq1.2).2 ⟨h1, hc, List.getElem_mem hq⟩), wpos_succ _ _ _ hq]
theorem week_low {s e c : Int} {ds : List Int} (hD : ∀ d ∈ ds, 0 ≤ d ∧ d ≤ 6) (hR : ∀ (i : Nat) (h : i + 1 < ds.length), ds[i] < ds[i + 1]) (q : Nat) (hq : q < ds.length)
    (h1 : s - (s + 5) % 7 + 7 * c + ds[q] < s) :
    From (pW s e ds) (wpos (s - (s + 5) % 7 + 7 * c) ds q) = From (pW s e ds) (wpos (s - (s + 5) % 7 + 7 * c) ds (q + 1)) := by
  have hq1 := hD ds[q] (List.getElem_mem hq)
  rw [week_skip hD hR q hq, wpos_succ _ _ _ hq]
  refine From_miss ?_
  rw [← Bool.not_eq_true]; intro hp
  have := (pW_at hq1.1 hq1.2).1 hp
  omega
theorem week_over {s e c : Int} {ds : List Int} (hD : ∀ d ∈ ds, 0 ≤ d ∧ d ≤ 6) (hR : ∀ (i : Nat) (h : i + 1 < ds.length), ds[i] < ds[i + 1]) (q : Nat) (hq : q < ds.length)
    (h1 : 73048 < s - (s + 5) % 7 + 7 * c + ds[q]) : From (pW s e ds) (wpos (s - (s + 5) % 7 + 7 * c) ds q) = [] := by
  rw [week_skip hD hR q hq, From_end h1]
theorem week_next {s e c : Int} {ds : List Int} (hD : ∀ d ∈ ds, 0 ≤ d ∧ d ≤ 6) (hR : ∀ (i : Nat) (h : i + 1 < ds.length), ds[i] < ds[i + 1]) (he : 1 ≤ e) (hc : c % e = 0) :
    From (pW s e ds) (wpos (s - (s + 5) % 7 + 7 * c) ds ds.length) = From (pW s e ds) (s - (s + 5) % 7 + 7 * (c + e)) := by
  have hlow : ∀ x, wpos (s - (s + 5) % 7 + 7 * c) ds ds.length ≤ x → s - (s + 5) % 7 + 7 * c ≤ x ∧ ∀ (i : Nat) (h : i < ds.length), ds[i] < x - (s - (s + 5) % 7 + 7 * c) := by
    intro x h1
    unfold wpos at h1
    split at h1
    · exact ⟨by omega, fun i h => by omega⟩
    · have hp := hD (ds[ds.length - 1]'(by omega)) (List.getElem_mem _)
      rw [getD_at (by omega)] at h1
      refine ⟨by omega, fun i h => ?_⟩
      rcases Nat.lt_or_ge i (ds.length - 1) with h3 | h3
      · have := rise_of hR (i := i) (j := ds.length - 1) (by omega) (by omega) h3
        omega
      · have : i = ds.length - 1 := by omega
        subst this
        omega
  have hle : wpos (s - (s + 5) % 7 + 7 * c) ds ds.length ≤ s - (s + 5) % 7 + 7 * (c + e) := by
    unfold wpos
    split
    · omega
    · rw [getD_at (by omega)]
      have hp := hD (ds[ds.length - 1]'(by omega)) (List.getElem_mem _)
      omega
  refine From_to hle (fun x h1 h2 => ?_)
  obtain ⟨h3, h4⟩ := hlow x h1
  rw [← Bool.not_eq_true]; intro hp
  have ex : x = s - (s + 5) % 7 + 7 * (c + (x - (s - (s + 5) % 7 + 7 * c)) / 7) + (x - (s - (s + 5) % 7 + 7 * c)) % 7 := by omega
  rw [ex, pW_at (by omega) (by omega)] at hp
  obtain ⟨_, p2, p3⟩ := hp
  rcases Int.lt_or_le (x - (s - (s + 5) % 7 + 7 * c)) 7 with h5 | h5
  · obtain ⟨i, hi, hi2⟩ := List.mem_iff_getElem.1 p3
    have := h4 i hi
    omega
  · exact mod_between hc (by omega) (by omega) p2
theorem week_start {s e : Int} {ds : List Int} : From (pW s e ds) s = From (pW s e ds) (wpos (s - (s + 5) % 7 + 7 * 0) ds 0) := by
  symm
  unfold wpos
  rw [if_pos rfl]
  refine From_to (by omega) (fun x h1 h2 => ?_)
  unfold pW
  rw [decide_eq_false_iff_not]
  rintro ⟨h3, _⟩
  omega
end Go.Proofs.YtcaeafgkogfgdaaGreatDoor.Cal

/- The iterators of package expand that go by months, and the one of a single day. -/
namespace Go.Proofs.YtcaeafgkogfgdaaGreatDoor
open Go Go.RowKit Go.Shelf Cal
attribute [local go_sem] Oper.semAt_some

/-- where the months' walk stands -/
def mpos (j mo : Int) : Int := F (min (j + mo) 2400)
theorem mpos_zero {j : Int} (h : j < 2400) : mpos j 0 = F j := by unfold mpos; rw [Int.add_zero, show min j 2400 = j by omega]
theorem mpos_in {j mo : Int} (h : j + mo < 2400) : mpos j mo = F (j + mo) := by unfold mpos; rw [show min (j + mo) 2400 = j + mo by omega]
theorem mpos_out {j mo : Int} (h : 2400 ≤ j + mo) : mpos j mo = 73049 := by unfold mpos; rw [show min (j + mo) 2400 = 2400 by omega, F_last]
theorem mpos_on {j mo e : Int} : mpos j (mo + e) = F (min (j + mo + e) 2400) := by unfold mpos; rw [Int.add_assoc]

end Go.Proofs.YtcaeafgkogfgdaaGreatDoor

/- The iterator of package expand that goes by weeks. -/
namespace Go.Proofs.YtcaeafgkogfgdaaGreatDoor
open Go Go.RowKit Go.Shelf Cal
attribute [local go_sem] Oper.semAt_some

/-- the cells of a list of days -/
def Cls (w : World) (a : Option Addr) (ds : List Int) : Prop := ∀ (j : Nat) (h : j < ds.length), ∃ b : Nat, a = some ⟨b, 0, none⟩ ∧ b < w.heap.size ∧ w.cell? ⟨b, j, none⟩ = some (.int .i64 ds[j])
theorem Cls.step {w w' : World} {a : Option Addr} {ds : List Int} (h : Cls w a ds) (hb : Below w.heap.size w w') : Cls w' a ds := fun j hj => by
  obtain ⟨b, e, hl, hc⟩ := h j hj
  exact ⟨b, e, Nat.lt_of_lt_of_le hl hb.size, cell_step hc hb⟩

theorem wds_in {s : Int} {ds : List Int} (h : ∀ d ∈ ds, 0 ≤ d ∧ d ≤ 6) : ∀ d ∈ wds s ds, 0 ≤ d ∧ d ≤ 6 := by
  intro d hd
  unfold wds at hd
  split at hd
  · have : d = (s + 5) % 7 := by simpa using hd
    omega
  · exact h d hd
theorem wds_rise {s : Int} {ds : List Int} (h : Rise ds) : Rise (wds s ds) := by
  unfold wds
  split
  · intro i hi
    simp at hi
  · exact h

end Go.Proofs.YtcaeafgkogfgdaaGreatDoor

/- A loop over an iterator of days: one law for those who range over it. The round's body is walked once; the loop's record and the block for deferred calls are kept here. Conditions: a round ends normally, returns or breaks; it leaves the iterator's blocks. -/
namespace Go.Proofs.YtcaeafgkogfgdaaGreatDoor
open Go Go.RowKit Cal

/-- how a round's body may be left -/
def rnd2 (l : Nat) (r : Loop) (R : Ending → World → Prop) : Exit → Act → World → Prop
  | .normal, _, W => W.heap[l]? = some (.loop { r with state := .busy }) ∧ R (.returned (.bool true)) (W.putObj l (.loop { r with state := .ready, pending := none }))
  | .ret, _, W => W.heap[l]? = some (.loop { r with state := .busy }) ∧ R (.returned (.bool false)) (W.putObj l (.loop { r with state := .done, pending := some .ret }))
  | .exit id, _, W => W.heap[l]? = some (.loop { r with state := .busy }) ∧ R (.returned (.bool false)) (W.putObj l (.loop { r with state := .done, pending := some (.exit id) }))
  | _, _, _ => False

theorem yieldAt_of2 {P : Program} {n l : Nat} {r : Loop} {x : Array Value} {W : World} {R : Ending → World → Prop} {tmps : Array Value} {ps : Array Tmp} {assign body : Code} (hR : IsRec r tmps ps assign body) (a₁ : Act)
    (hl : W.heap[l]? = some (.loop r)) (hs : x.size = ps.size)
    (hassign : ∀ K : Act → World → Prop, K a₁ W → assign.wpIn (Fence.wide.inRound l) n P (Exit.then K (fun _ _ _ => False)) { tmps := (ps.zip x).foldl (fun t (p, v) => t.setIfInBounds p v) tmps, defers := [] } W)
    (hbody : body.wpIn (Fence.wide.inRound l) n P (rnd2 l r R) a₁ (W.putObj l (.loop { r with state := .busy }))) :
    YieldAt Fence.wide n P l x W R := by
  obtain ⟨hr, _, rfl, rfl, rfl, rfl⟩ := hR
  refine ⟨r.fn, _, r.assign, r.body, run_yield hl hs, roundIn_of_wpIn trivial (hassign _ ⟨_, run_beginRound hl hr, wpIn_mono hbody ?_⟩)⟩
  intro e a W3 h
  cases e with
  | normal => exact ⟨_, _, run_endRound none h.1, h.2⟩
  | ret => exact ⟨_, _, run_endRound (some .ret) h.1, h.2⟩
  | exit id => exact ⟨_, _, run_endRound (some (.exit id)) h.1, h.2⟩
  | goto t => exact h.elim
  | panic ch => exact h.elim
  | outgrown => exact h.elim

/-- what a round's body leaves -/
def rdPost (keep : Nat → Prop) (IN : World → Prop) (IX : Code → World → Prop) (W : World) : Exit → Act → World → Prop
  | .normal, _, W' => Steps keep W W' ∧ IN W'
  | .ret, _, W' => Steps keep W W' ∧ IX .ret W'
  | .exit id, _, W' => Steps keep W W' ∧ IX (.exit id) W'
  | _, _, _ => False

theorem range_gives {aa bb n : Nat} {g : Operand} {ps : Array Tmp} {assign body : Code} {Q : Exit → Act → World → Prop} {a : Act} {w : World} {gf : Nat} {lb : Array Value} {O : Nat → Prop} {Rd : World → Prop} {xs : List Int}
    (hn : aa + 1 ≤ n) (hg : a.eval g = .func (.func gf) #[] lb) (eg : ∀ args w, (callFunc gf args).run Tryz.prog w = .ok (.enter gf args) w) (hps : ps.size = 1)
    (hG : ∀ W, Below w.heap.size w W → Gives aa bb gf lb O Rd xs W) (hO : ∀ k, O k → k < w.heap.size)
    (I : Nat → List Int → World → Prop) (Ix : Code → Nat → World → Prop)
    (hI0 : ∀ W, Steps (itO O w.heap.size) w W → w.heap.size + 2 ≤ W.heap.size → I W.heap.size xs W)
    (hI : ∀ h r W W', w.heap.size + 2 ≤ h → I h r W → Steps (itK O w.heap.size h) W W' → I h r W')
    (hIx : ∀ c h W W', w.heap.size + 2 ≤ h → Ix c h W → Steps (itK O w.heap.size h) W W' → Ix c h W')
    (hR0 : ∀ W, Steps (itO O w.heap.size) w W → Rd W) (hR : ∀ h r W, I h r W → Rd W)
    (act : Int → Act)
    (hassign : ∀ (l m : Nat) (x : Int) (W : World) (K : Act → World → Prop), K (act x) W → assign.wpIn (Fence.wide.inRound l) m Tryz.prog (Exit.then K (fun _ _ _ => False)) { tmps := (ps.zip #[Value.int .i64 x]).foldl (fun t (p, v) => t.setIfInBounds p v) a.tmps, defers := [] } W)
    (hbody : ∀ (l m h : Nat) (x : Int) (r : List Int) (W : World), bb ≤ m → w.heap.size + 2 ≤ h → h ≤ W.heap.size → I h (x :: r) W →
      body.wpIn (Fence.wide.inRound l) m Tryz.prog (rdPost (roK O w.heap.size h) (I h r) (fun c => Ix c h) W) (act x) W)
    (hdone : ∀ (h : Nat) (W : World), w.heap.size + 2 ≤ h → h ≤ W.heap.size → I h [] W → W.heap[w.heap.size]? = some (.deferred (some [])) → Q .normal { a with defers := { target := .collected w.heap.size, args := #[] } :: a.defers } W)
    (hstop : ∀ (c : Code) (h : Nat) (W : World), w.heap.size + 2 ≤ h → h ≤ W.heap.size → Ix c h W → W.heap[w.heap.size]? = some (.deferred (some [])) → c.wpIn Fence.wide n Tryz.prog Q { a with defers := { target := .collected w.heap.size, args := #[] } :: a.defers } W) :
    (Code.rangeFunc g ps assign body).wpIn Fence.wide n Tryz.prog Q a w := by
  refine rangeFunc_of hg eg (fun r0 hr0 => ?_)
  have hb1 : Below w.heap.size w ((w.alloc (.deferred (some []))).alloc (.loop r0)) := below_then (below_alloc _ _) (below_alloc _ _)
  have hrec1 := rec_start w (.loop r0)
  have hd1 : ((w.alloc (.deferred (some []))).alloc (.loop r0)).heap[w.heap.size]? = some (.deferred (some [])) := block_alloc _ (block_at _ rfl)
  have hsz1 : ((w.alloc (.deferred (some []))).alloc (.loop r0)).heap.size = w.heap.size + 2 := by simp
  generalize (w.alloc (.deferred (some []))).alloc (.loop r0) = W1 at hb1 hrec1 hd1 hsz1
  have nO0 : ¬ O w.heap.size := fun h => by have := hO _ h; omega
  have nO1 : ¬ O (w.heap.size + 1) := fun h => by have := hO _ h; omega
  have nk : ∀ h, ¬ itK O w.heap.size h (w.heap.size + 1) ∨ h ≤ w.heap.size + 1 := fun h => by
    by_cases hh : h ≤ w.heap.size + 1
    · exact .inr hh
    · exact .inl (fun hk => by rcases hk.2 with q | q <;> omega)
  refine (hG W1 hb1 (n - 1) (w.heap.size + 1)
    (fun W => Steps (itO O w.heap.size) w W ∧ W.heap[w.heap.size + 1]? = some (.loop r0) ∧ W.heap[w.heap.size]? = some (.deferred (some [])))
    (fun h r W => I h r W ∧ W.heap[w.heap.size + 1]? = some (.loop r0) ∧ W.heap[w.heap.size]? = some (.deferred (some [])))
    (fun h W => ∃ c, Ix c h W ∧ W.heap[w.heap.size + 1]? = some (.loop { r0 with state := .done, pending := some c }) ∧ W.heap[w.heap.size]? = some (.deferred (some [])))
    (by omega) ?s0 ?s1 ?s2 ?s3 ?s4 ?s5 ?s6 ?s7).mono ?post
  case s0 =>
    rintro W W' ⟨q1, q2, q3⟩ hS
    exact ⟨q1.trans (hS.mono (fun k hk => ⟨hk.1, by have := hk.2; omega⟩)), hS.obj q2 ⟨nO1, by omega⟩, hS.obj q3 ⟨nO0, by omega⟩⟩
  case s1 =>
    rintro W ⟨q1, q2, q3⟩ hs
    exact ⟨hI0 W q1 (by omega), q2, q3⟩
  case s2 =>
    rintro h r W W' hh ⟨q1, q2, q3⟩ hS
    exact ⟨hI h r W W' (by omega) q1 (hS.mono (fun k hk => ⟨hk.1, by rcases hk.2 with q | q <;> omega⟩)), hS.obj q2 ⟨nO1, .inl (by omega)⟩, hS.obj q3 ⟨nO0, .inl (by omega)⟩⟩
  case s3 =>
    rintro h W W' hh ⟨c, q1, q2, q3⟩ hS
    exact ⟨c, hIx c h W W' (by omega) q1 (hS.mono (fun k hk => ⟨hk.1, by rcases hk.2 with q | q <;> omega⟩)), hS.obj q2 ⟨nO1, .inl (by omega)⟩, hS.obj q3 ⟨nO0, .inl (by omega)⟩⟩
  case s4 => exact fun W q => hR0 W q.1
  case s5 => exact fun h r W q => hR h r W q.1
  case s7 => exact ⟨Steps.of_below hb1, hrec1, hd1⟩
  case s6 =>
    rintro m h x r W hm hh hhW ⟨q1, q2, q3⟩
    have hlt : w.heap.size + 1 < W.heap.size := (Array.getElem?_eq_some_iff.1 q2).1
    have hsP : (W.putObj (w.heap.size + 1) (.loop { r0 with state := .busy })).heap.size = W.heap.size := World.putObj_size
    have nkh : ¬ itK O w.heap.size h (w.heap.size + 1) := by
      rcases nk h with q | q
      · exact q
      · omega
    have i1 := hI h (x :: r) W (W.putObj (w.heap.size + 1) (.loop { r0 with state := .busy })) (by omega) q1 (Steps.put _ _ _ nkh)
    have l1 : (W.putObj (w.heap.size + 1) (.loop { r0 with state := .busy })).heap[w.heap.size + 1]? = some (.loop { r0 with state := .busy }) := World.putObj_heap_same hlt
    have d1 : (W.putObj (w.heap.size + 1) (.loop { r0 with state := .busy })).heap[w.heap.size]? = some (.deferred (some [])) := (World.putObj_heap_other (by omega)).trans q3
    have nr : ¬ roK O W1.heap.size h (w.heap.size + 1) := fun hk => by
      rcases hk with q | q
      · exact nO1 q
      · omega
    have st1 : Steps (roK O W1.heap.size h) W (W.putObj (w.heap.size + 1) (.loop { r0 with state := .busy })) := Steps.put _ _ _ nr
    refine yieldAt_of2 hr0 (act x) q2 (by rw [hps]; rfl) (fun K hK => hassign _ m x W K hK) (wpIn_mono (hbody _ m h x r _ hm (by omega) (by omega) i1) ?_)
    have up : ∀ k, roK O W1.heap.size h k → roK O w.heap.size h k := fun k hk => by
      rcases hk with q | q
      · exact .inl q
      · exact .inr (by omega)
    intro e a3 W3 hp
    cases e with
    | normal =>
      obtain ⟨hS, hi⟩ := hp
      have l3 := hS.obj l1 (.inr (by omega))
      have d3 := hS.obj d1 (.inr (by omega))
      refine ⟨l3, (st1.trans (hS.mono up)).trans (Steps.put _ _ _ nr), .inl ⟨rfl, hI h r _ _ (by omega) hi (Steps.put _ _ _ nkh), ?_, (World.putObj_heap_other (by omega)).trans d3⟩⟩
      rw [hr0.again]; exact World.putObj_heap_same (Array.getElem?_eq_some_iff.1 l3).1
    | ret =>
      obtain ⟨hS, hi⟩ := hp
      have l3 := hS.obj l1 (.inr (by omega))
      have d3 := hS.obj d1 (.inr (by omega))
      exact ⟨l3, (st1.trans (hS.mono up)).trans (Steps.put _ _ _ nr), .inr ⟨rfl, .ret, hIx _ h _ _ (by omega) hi (Steps.put _ _ _ nkh), World.putObj_heap_same (Array.getElem?_eq_some_iff.1 l3).1, (World.putObj_heap_other (by omega)).trans d3⟩⟩
    | exit id =>
      obtain ⟨hS, hi⟩ := hp
      have l3 := hS.obj l1 (.inr (by omega))
      have d3 := hS.obj d1 (.inr (by omega))
      exact ⟨l3, (st1.trans (hS.mono up)).trans (Steps.put _ _ _ nr), .inr ⟨rfl, .exit id, hIx _ h _ _ (by omega) hi (Steps.put _ _ _ nkh), World.putObj_heap_same (Array.getElem?_eq_some_iff.1 l3).1, (World.putObj_heap_other (by omega)).trans d3⟩⟩
    | goto t => exact hp.elim
    | panic ch => exact hp.elim
    | outgrown => exact hp.elim
  case post =>
    rintro e W2 ⟨hv, h, hh, hhW, (⟨hi, q2, q3⟩ | ⟨c, hi, q2, q3⟩)⟩
    · have nkh : ¬ itK O w.heap.size h (w.heap.size + 1) := by
        rcases nk h with q | q
        · exact q
        · omega
      exact ⟨hv, _, q2, by rw [hr0.state]; decide, .inl ⟨hr0.pending, hdone h _ (by omega) (by rw [World.putObj_size]; exact hhW) (hI h [] _ _ (by omega) hi (Steps.put _ _ _ nkh)) ((World.putObj_heap_other (by omega)).trans q3)⟩⟩
    · have nkh : ¬ itK O w.heap.size h (w.heap.size + 1) := by
        rcases nk h with q | q
        · exact q
        · omega
      exact ⟨hv, _, q2, by simp, .inr ⟨c, rfl, hstop c h _ (by omega) (by rw [World.putObj_size]; exact hhW) (hIx c h _ _ (by omega) hi (Steps.put _ _ _ nkh)) ((World.putObj_heap_other (by omega)).trans q3)⟩⟩
end Go.Proofs.YtcaeafgkogfgdaaGreatDoor

/- Contracts of package expand's makers of iterators, of its check, and of the candidates: an iterator that gives the candidates of a start and a rule that are well. -/
namespace Go.Proofs.YtcaeafgkogfgdaaGreatDoor
open Go Go.RowKit Go.Shelf Cal

/-- what an iterator of candidates reads -/
def RdC (sl : Value) (ds : List Int) (W : World) : Prop := Glob W ∧ Days W sl ds
/-- a maker has handed back an iterator that gives these days -/
def Cand (sl : Value) (ds cs : List Int) (w : World) (g : Nat) (lb : Array Value) (w' : World) : Prop :=
  Below w.heap.size w w' ∧ (∀ args v, (callFunc g args).run Tryz.prog v = .ok (.enter g args) v) ∧
    ∀ (aa bb : Nat) (W : World), bb + 2 ≤ aa → Below w'.heap.size w' W → Gives aa bb g lb (fun k => w.heap.size ≤ k ∧ k < w'.heap.size) (RdC sl ds) cs W

end Go.Proofs.YtcaeafgkogfgdaaGreatDoor
