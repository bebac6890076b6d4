/- What an iterator over days owes and is owed: it gives a list's days one by one as long as the round says yes; it writes blocks of its own alone; a round leaves these. The iterator of package expand that goes by days. -/
import Derived.Test.YtfnajhpcbajhfabDoorExpL
import Derived.Test.YtfnajhpcbajhfabDoorExpM
import Derived.Shelf.Abstract
import Derived.Shelf.RegionOpen
import Derived.WalkKit
import Derived.OwnWalkIn
import Derived.TacticsInMore
import Derived.LoopNIn
import Derived.LoopIn
namespace Go.Proofs.YtfnajhpcbajhfabDoor
open Go Go.RowKit Go.Shelf Cal
attribute [local go_sem] Oper.semAt_some

/-- the blocks of a kind lie as they lay; streams are as they were; no block has gone -/
structure Steps (keep : Nat → Prop) (W W' : World) : Prop where
  os : W'.os = W.os
  tape : W'.tape = W.tape
  output : W'.output = W.output
  size : W.heap.size ≤ W'.heap.size
  block : ∀ k, keep k → k < W.heap.size → W'.heap[k]? = W.heap[k]?
theorem Steps.refl (p : Nat → Prop) (W : World) : Steps p W W := ⟨rfl, rfl, rfl, Nat.le_refl _, fun _ _ _ => rfl⟩
theorem Steps.trans {p : Nat → Prop} {A B C : World} (h : Steps p A B) (k : Steps p B C) : Steps p A C :=
  ⟨k.os.trans h.os, k.tape.trans h.tape, k.output.trans h.output, Nat.le_trans h.size k.size, fun i hp hi => (k.block i hp (Nat.lt_of_lt_of_le hi h.size)).trans (h.block i hp hi)⟩
theorem Steps.mono {p q : Nat → Prop} {A B : World} (h : Steps p A B) (hq : ∀ k, q k → p k) : Steps q A B := ⟨h.os, h.tape, h.output, h.size, fun k hk hl => h.block k (hq k hk) hl⟩
theorem Steps.below {n : Nat} {A B : World} (h : Below n A B) : Steps (fun k => k < n) A B := ⟨h.os, h.tape, h.output, h.size, fun k hk _ => h.block k hk⟩
theorem Steps.of_below {p : Nat → Prop} {A B : World} (h : Below A.heap.size A B) : Steps p A B := ⟨h.os, h.tape, h.output, h.size, fun k _ hl => h.block k hl⟩
theorem Steps.alloc (p : Nat → Prop) (W : World) (o : Obj) : Steps p W (W.alloc o) := Steps.of_below (below_alloc W o)
theorem Steps.set {p : Nat → Prop} (W : World) (a : Addr) (v : Value) (h : ¬ p a.block) : Steps p W (W.setCell a v) :=
  ⟨rfl, rfl, rfl, by rw [set_size]; exact Nat.le_refl _, fun k hk _ => Below.heap_setCell _ _ _ k (fun e => h (e ▸ hk))⟩
theorem Steps.put {p : Nat → Prop} (W : World) (l : Nat) (o : Obj) (h : ¬ p l) : Steps p W (W.putObj l o) :=
  ⟨rfl, rfl, rfl, by rw [World.putObj_size]; exact Nat.le_refl _, fun k hk _ => World.putObj_heap_other (fun e => h (e ▸ hk))⟩
theorem Steps.box {p : Nat → Prop} {A B : World} (h : Steps p A B) {b : Nat} {t : TypeId} {v : Value} (hb : Boxed A b t v) (hp : p b) : Boxed B b t v :=
  (h.block b hp (Array.getElem?_eq_some_iff.1 hb).1).trans hb
theorem Steps.obj {p : Nat → Prop} {A B : World} (h : Steps p A B) {b : Nat} {o : Obj} (hb : A.heap[b]? = some o) (hp : p b) : B.heap[b]? = some o :=
  (h.block b hp (Array.getElem?_eq_some_iff.1 hb).1).trans hb
theorem Steps.toBelow {p : Nat → Prop} {A B : World} (h : Steps p A B) {n : Nat} (hn : n ≤ A.heap.size) (hp : ∀ k, k < n → p k) : Below n A B :=
  ⟨h.os, h.tape, h.output, h.size, fun k hk => h.block k (hp k hk) (by omega)⟩

/-- what the iterator keeps ahead of its first round (the blocks below n that are not its own), and from then on (those too that were laid by rounds: from h on); what a round keeps (the iterator's own, and those that it has laid) -/
def itO (O : Nat → Prop) (n : Nat) (k : Nat) : Prop := ¬ O k ∧ k < n
def itK (O : Nat → Prop) (n h : Nat) (k : Nat) : Prop := ¬ O k ∧ (k < n ∨ h ≤ k)
def roK (O : Nat → Prop) (n h : Nat) (k : Nat) : Prop := O k ∨ (n ≤ k ∧ k < h)

/-- an iterator gives these days (a, b: how many frames it and a round may want) -/
def Gives (a b : Nat) (g : Nat) (lb : Array Value) (O : Nat → Prop) (Rd : World → Prop) (xs : List Int) (W0 : World) : Prop :=
  ∀ (n l : Nat) (J0 : World → Prop) (J : Nat → List Int → World → Prop) (Jx : Nat → World → Prop), a ≤ n →
    (∀ W W', J0 W → Steps (itO O W0.heap.size) W W' → J0 W') →
    (∀ W, J0 W → W0.heap.size ≤ W.heap.size → J W.heap.size xs W) →
    (∀ h r W W', W0.heap.size ≤ h → J h r W → Steps (itK O W0.heap.size h) W W' → J h r W') →
    (∀ h W W', W0.heap.size ≤ h → Jx h W → Steps (itK O W0.heap.size h) W W' → Jx h W') →
    (∀ W, J0 W → Rd W) → (∀ h r W, J h r W → Rd W) →
    (∀ (m h : Nat) (x : Int) (r : List Int) (W : World), b ≤ m → W0.heap.size ≤ h → h ≤ W.heap.size → J h (x :: r) W → YieldAt Fence.wide m Tryd.prog l #[.int .i64 x] W fun e W' =>
      Steps (roK O W0.heap.size h) W W' ∧ ((e = .returned (.bool true) ∧ J h r W') ∨ (e = .returned (.bool false) ∧ Jx h W'))) →
    J0 W0 →
    CallsIn Fence.wide n Tryd.prog g (#[.func (.yield l) #[] #[]] ++ lb) W0 fun e W' => (∃ v, e = .returned v) ∧ ∃ h, W0.heap.size ≤ h ∧ h ≤ W'.heap.size ∧ (J h [] W' ∨ Jx h W')

theorem daily_step {s e v : Int} (he : 1 ≤ e) (hs : s ≤ v) (hm : (v - s) % e = 0) (hv : v ≤ 73048) : From (pD s e) v = v :: From (pD s e) (v + e) := by
  rw [From_hit hv (by unfold pD; simp; exact ⟨hs, hm⟩)]
  congr 1
  refine From_to (by omega) (fun x h1 h2 => ?_)
  unfold pD
  rw [decide_eq_false_iff_not]
  rintro ⟨_, h4⟩
  have h5 : (x - s) = (v - s) + (x - v) := by omega
  rw [h5, Int.add_emod, hm, Int.zero_add, Int.emod_emod_of_dvd _ (Int.dvd_refl e)] at h4
  rw [Int.emod_eq_of_lt (by omega) (by omega)] at h4
  omega

set_option maxHeartbeats 1000000 in
theorem byDays_iter {a b : Nat} (hab : b + 2 ≤ a) (s e : Int) (hs0 : 0 ≤ s) (hs1 : s ≤ 73048) (he0 : 1 ≤ e) (he1 : e ≤ 100) (Bs Be : Nat) (O : Nat → Prop) (Rd : World → Prop) (hO2 : O Be) (W0 : World)
    (b1 : Boxed W0 Bs 3 (.int .i64 s)) (b2 : Boxed W0 Be 3 (.int .i64 e)) :
    Gives a b 50 #[.pointer (some ⟨Bs, 0, none⟩), .pointer (some ⟨Be, 0, none⟩)] O Rd (From (pD s e) s) W0 := by
  intro n l J0 J Jx hna hJ0 h01 hJ hJx hRd0 hRd hY h00
  have h0 := h01 _ h00 (Nat.le_refl _)
  have h1 : 1 ≤ n := by omega
  have c1 := b1.cell
  refine callsIn_of_wp Tryd.func50 rfl trivial ?_ rfl
  simp only [Tryd.ntmps50, List.size_toArray, List.length_cons, List.length_nil, Nat.reduceAdd, Nat.reduceSub, Array.replicate_succ, Array.replicate_zero, List.push_toArray, List.append_toArray, List.nil_append, List.cons_append]
  have HY : Hid (_) := hY
  have B1 : Hid (_) := b1
  have B2 : Hid (_) := b2
  have H0 : Hid (_) := h0
  clear hY hJ hJx hRd b1 b2 h0 hJ0 h01 hRd0 h00
  gi_wp2
  clear c1
  gi_loopw [4] (fun d wr => ∃ v : Int, d = .int .i64 v ∧ s ≤ v ∧ v ≤ 73148 ∧ Hid ((v - s) % e = 0) ∧ Hid (J W0.heap.size (From (pD s e) v) wr) ∧ Hid (Boxed wr Be 3 (.int .i64 e)) ∧ W0.heap.size ≤ wr.heap.size) (fun d _ => (73149 - intOf d).toNat)
  case atStart => exact ⟨s, rfl, Int.le_refl _, by omega, show (s - s) % e = 0 by simp, H0.out, B2.out, Nat.le_refl _⟩
  case round =>
    obtain ⟨v, rfl, hv0, hv1, hm, hJ, hB, hsz⟩ := hrel
    by_cases hv : v ≤ 73048
    · have hc := hB.out.cell
      have hJ' := hJ.out
      rw [daily_step he0 hv0 hm.out hv] at hJ'
      obtain ⟨fn, tmps, assign, body, hy, hR⟩ := HY.out (n - 1) W0.heap.size v _ wr (by omega) (Nat.le_refl _) hsz hJ'
      clear hJ'
      gi_wp2
      refine hR.mono ?_
      rintro r W3 ⟨hS, (⟨rfl, hJ3⟩ | ⟨rfl, hJx3⟩)⟩
      · have b3 : Boxed W3 Be 3 (.int .i64 e) := hS.box hB.out (.inl hO2)
        have c3 := b3.cell
        have hsz3 := Nat.le_trans hsz hS.size
        have HJ3 : Hid (_) := hJ3
        have B3 : Hid (_) := b3
        have HM : Hid ((v + e - s) % e = 0) := by
          show (v + e - s) % e = 0
          have : v + e - s = (v - s) + e := by omega
          rw [this, Int.add_emod_right]; exact hm.out
        clear b3 hJ3 hS
        gi_wp2
        go_roundw
        case rel => exact ⟨v + e, by go_num, by omega, by omega, HM, HJ3, B3, hsz3⟩
        case measure => simp [intOf]; omega
      · gi_wp2
        refine bodyPost_ret (results_none rfl _ _ _) rfl ?_
        exact ⟨⟨_, rfl⟩, W0.heap.size, Nat.le_refl _, Nat.le_trans hsz hS.size, .inr hJx3⟩
    · have hJ' := hJ.out
      rw [From_end (by omega)] at hJ'
      have HJ' : Hid (_) := hJ'
      clear hJ'
      gi_wp2
      go_end0
      exact ⟨⟨_, rfl⟩, W0.heap.size, Nat.le_refl _, hsz, .inl HJ'.out⟩
end Go.Proofs.YtfnajhpcbajhfabDoor
