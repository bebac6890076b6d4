/- Names of commits in plain words: the entries of a name, what it was at a time; names and entries that are well. -/
import Derived.Test.YtanjgollffkafaaGreatDoorJrAB
import Derived.Test.YtanjgollffkafaaGreatDoorJrAD
import Derived.Shelf.Abstract
import Derived.Test.YtanjgollffkafaaGreatDoorJrAA
import Derived.Shelf.RegionOpen
import Derived.WalkKit
import Derived.OwnWalkIn
import Derived.TacticsInMore
import Derived.LoopNIn
import Derived.LoopIn
namespace Go.Proofs.YtanjgollffkafaaGreatDoor
open Go Go.RowKit Cal

/-- the last entry (of none: dropped at the first time) -/
def lst (l : List (Int × Int)) : Int × Int := match l.getLast? with
  | some e => e
  | none => (0, -1)
theorem lst_nil : lst [] = (0, -1) := rfl
theorem lst_at {l : List (Int × Int)} (h : 0 < l.length) : lst l = l[l.length - 1] := by
  unfold lst
  rw [List.getLast?_eq_getElem?, List.getElem?_eq_getElem (by omega)]
/-- what a name was at a time -/
def asOf (l : List (Int × Int)) (t : Int) : Int := (lst (l.takeWhile fun e => decide (e.1 ≤ t))).2
theorem take_while_of {α : Type} {p : α → Bool} : ∀ {l : List α} {i : Nat}, i ≤ l.length → (∀ (j : Nat) (h : j < l.length), j < i → p l[j] = true) → (∀ h : i < l.length, p l[i] = false) → l.takeWhile p = l.take i
  | [], i, _, _, _ => by simp
  | x :: r, 0, _, _, h2 => by
    have := h2 (by simp)
    simp only [List.getElem_cons_zero] at this
    simp [this]
  | x :: r, i + 1, hi, h1, h2 => by
    have h0 := h1 0 (by simp) (by omega)
    simp only [List.getElem_cons_zero] at h0
    have := take_while_of (p := p) (l := r) (i := i) (by simpa using hi) (fun j hj hji => by have := h1 (j + 1) (by simpa using hj) (by omega); simpa using this) (fun h => by have := h2 (by simpa using h); simpa using this)
    rw [List.takeWhile_cons, if_pos h0, this, List.take_succ_cons]
theorem take_while_snoc {α : Type} {p : α → Bool} {x : α} (hx : p x = false) : ∀ (l : List α), (l ++ [x]).takeWhile p = l.takeWhile p
  | [] => by simp [hx]
  | y :: r => by
    rw [List.cons_append, List.takeWhile_cons, List.takeWhile_cons, take_while_snoc hx r]
theorem asOf_snoc {l : List (Int × Int)} {e : Int × Int} {t : Int} (h : t < e.1) : asOf (l ++ [e]) t = asOf l t := by
  unfold asOf
  rw [take_while_snoc (p := fun e : Int × Int => decide (e.1 ≤ t)) (decide_eq_false (by omega)) l]

/-- entries that are well -/
structure LogOk (l : List (Int × Int)) : Prop where
  up : l.Pairwise (fun a b => a.1 ≤ b.1)
  bd : ∀ e ∈ l, 0 ≤ e.1 ∧ e.1 ≤ 1099511627776 ∧ -1 ≤ e.2 ∧ e.2 ≤ 1099511627776
  dr : ∀ (i : Nat) (h : i < l.length), l[i].2 = -1 → (lst (l.take i)).2 ≠ -1
theorem LogOk.nil : LogOk [] := ⟨List.Pairwise.nil, (fun e h => by cases h), (fun i h => by simp at h)⟩
theorem lst_last {l : List (Int × Int)} (h : l.Pairwise (fun a b => a.1 ≤ b.1)) : ∀ e ∈ l, e.1 ≤ (lst l).1 := fun e he => by
  obtain ⟨i, hi, rfl⟩ := List.mem_iff_getElem.1 he
  rw [lst_at (by omega)]
  rcases Nat.lt_or_ge i (l.length - 1) with q | q
  · exact List.pairwise_iff_getElem.1 h i (l.length - 1) hi (by omega) q
  · have e1 : i = l.length - 1 := by omega
    subst e1
    exact Int.le_refl _
theorem LogOk.last {l : List (Int × Int)} (h : LogOk l) : 0 ≤ (lst l).1 ∧ (lst l).1 ≤ 1099511627776 ∧ -1 ≤ (lst l).2 ∧ (lst l).2 ≤ 1099511627776 := by
  rcases Nat.eq_zero_or_pos l.length with q | q
  · rw [List.length_eq_zero_iff.1 q, lst_nil]
    decide
  · rw [lst_at q]
    exact h.bd _ (List.getElem_mem _)
theorem LogOk.add {l : List (Int × Int)} {e : Int × Int} (h : LogOk l) (h1 : 0 ≤ e.1 ∧ e.1 ≤ 1099511627776 ∧ -1 ≤ e.2 ∧ e.2 ≤ 1099511627776) (h3 : (lst l).1 ≤ e.1) (h4 : e.2 = -1 → (lst l).2 ≠ -1) : LogOk (l ++ [e]) := by
  refine ⟨?_, ?_, ?_⟩
  · rw [List.pairwise_append]
    refine ⟨h.up, List.pairwise_singleton _ _, fun a ha b hb => ?_⟩
    rw [List.mem_singleton.1 hb]
    exact Int.le_trans (lst_last h.up a ha) h3
  · intro x hx
    rcases List.mem_append.1 hx with hx | hx
    · exact h.bd x hx
    · rw [List.mem_singleton.1 hx]; exact h1
  · intro i hi hq
    rcases Nat.lt_or_ge i l.length with q | q
    · rw [List.getElem_append_left q] at hq
      rw [List.take_append_of_le_length (by omega)]
      exact h.dr i q hq
    · have e1 : i = l.length := by simp at hi; omega
      subst e1
      rw [List.take_left]
      rw [List.getElem_append_right (Nat.le_refl _)] at hq
      simp at hq
      exact h4 hq
/-- one name more among rising ones -/
def insN (s : ByteArray) : List ByteArray → List ByteArray
  | [] => [s]
  | x :: r => if s.data.toList < x.data.toList then s :: x :: r else if s = x then x :: r else x :: insN s r
theorem mem_insN (s y : ByteArray) : ∀ l : List ByteArray, y ∈ insN s l ↔ y = s ∨ y ∈ l
  | [] => by simp [insN]
  | x :: r => by
    unfold insN
    split
    · simp
    · split
      · rename_i h
        subst h
        simp
      · rw [List.mem_cons, mem_insN s y r, List.mem_cons]
        constructor
        · rintro (h | h | h)
          · exact .inr (.inl h)
          · exact .inl h
          · exact .inr (.inr h)
        · rintro (h | h | h)
          · exact .inr (.inl h)
          · exact .inl h
          · exact .inr (.inr h)
/-- names rise -/
def Ups (l : List ByteArray) : Prop := l.Pairwise (fun a b => a.data.toList < b.data.toList)
theorem rs_ext {a b : ByteArray} (h : a.data.toList = b.data.toList) : a = b := by
  cases a; cases b
  congr 1
  exact Array.toList_inj.1 h
theorem rs_tri {a b : List UInt8} (h1 : ¬ a < b) (h2 : a ≠ b) : b < a := by
  rcases Decidable.em (b < a) with q | q
  · exact q
  · exact absurd (List.le_antisymm (List.not_lt.1 q) (List.not_lt.1 h1)) h2
theorem insN_up (s : ByteArray) : ∀ {l : List ByteArray}, Ups l → Ups (insN s l)
  | [], _ => List.pairwise_singleton _ _
  | x :: r, h => by
    unfold insN
    obtain ⟨h1, h2⟩ := List.pairwise_cons.1 h
    split
    · rename_i q
      refine List.pairwise_cons.2 ⟨fun y hy => ?_, h⟩
      rcases List.mem_cons.1 hy with rfl | hy
      · exact q
      · exact List.lt_trans q (h1 y hy)
    · split
      · exact h
      · rename_i q1 q2
        refine List.pairwise_cons.2 ⟨fun y hy => ?_, insN_up s h2⟩
        rcases (mem_insN s y r).1 hy with rfl | hy
        · exact rs_tri q1 (fun q => q2 (rs_ext q))
        · exact h1 y hy
theorem insN_same {s : ByteArray} : ∀ {l : List ByteArray}, Ups l → s ∈ l → insN s l = l
  | x :: r, h, hs => by
    unfold insN
    obtain ⟨h1, h2⟩ := List.pairwise_cons.1 h
    rcases List.mem_cons.1 hs with rfl | hs
    · rw [if_neg (List.lt_irrefl _), if_pos rfl]
    · have := h1 s hs
      rw [if_neg (fun q => List.lt_irrefl _ (List.lt_trans q this)), if_neg (fun q => by rw [q] at this; exact List.lt_irrefl _ this), insN_same h2 hs]
theorem insN_len (s : ByteArray) : ∀ l : List ByteArray, (insN s l).length ≤ l.length + 1
  | [] => by simp [insN]
  | x :: r => by
    unfold insN
    have := insN_len s r
    split
    · simp
    · split
      · simp
      · simp; omega
theorem insN_filter (s : ByteArray) (p : ByteArray → Bool) (hp : p s = false) : ∀ l : List ByteArray, (insN s l).filter p = l.filter p
  | [] => by simp [insN, hp]
  | x :: r => by
    unfold insN
    split
    · rw [List.filter_cons, if_neg (by rw [hp]; decide)]
    · split
      · rfl
      · rw [List.filter_cons, List.filter_cons, insN_filter s p hp r]
/-- at most one of rising names is a given one -/
theorem ups_one (s : ByteArray) (p : ByteArray → Bool) : ∀ {l : List ByteArray}, Ups l → (l.filter p).length ≤ (l.filter (fun x => p x && !decide (x = s))).length + 1
  | [], _ => by simp
  | x :: r, h => by
    obtain ⟨h1, h2⟩ := List.pairwise_cons.1 h
    by_cases hx : x = s
    · subst hx
      have e : (r.filter p) = (r.filter (fun y => p y && !decide (y = x))) := by
        refine List.filter_congr (fun y hy => ?_)
        have : y ≠ x := fun q => by have := h1 y hy; rw [q] at this; exact List.lt_irrefl _ this
        simp [this]
      rw [List.filter_cons, List.filter_cons]
      have e2 : (p x && !decide (x = x)) = false := by simp
      rw [if_neg (by rw [e2]; decide : ¬ (p x && !decide (x = x)) = true), ← e]
      split <;> simp
    · have ih := ups_one s p h2
      rw [List.filter_cons, List.filter_cons]
      have e2 : (p x && !decide (x = s)) = p x := by simp [hx]
      rw [e2]
      split
      · simp only [List.length_cons]; omega
      · exact ih

/-- is it dropped? -/
def gn (L : ByteArray → List (Int × Int)) (x : ByteArray) : Bool := decide ((lst (L x)).2 = -1)
/-- the names that are there -/
def lvs (ns : List ByteArray) (L : ByteArray → List (Int × Int)) : List ByteArray := ns.filter fun x => !gn L x
/-- one entry more -/
def setL (L : ByteArray → List (Int × Int)) (s : ByteArray) (e : Int × Int) (x : ByteArray) : List (Int × Int) := if x = s then L x ++ [e] else L x
theorem setL_same (L : ByteArray → List (Int × Int)) (s : ByteArray) (e : Int × Int) : setL L s e s = L s ++ [e] := by unfold setL; rw [if_pos rfl]
theorem setL_other {L : ByteArray → List (Int × Int)} {s x : ByteArray} {e : Int × Int} (h : x ≠ s) : setL L s e x = L x := by unfold setL; rw [if_neg h]
/-- names and entries that are well -/
structure RW (ns : List ByteArray) (L : ByteArray → List (Int × Int)) : Prop where
  up : Ups ns
  mem : ∀ s, s ∈ ns ↔ L s ≠ []
  nm : ∀ s ∈ ns, okID s
  en : ∀ s, LogOk (L s)
  live : (lvs ns L).length ≤ 20
theorem RW.none : RW [] (fun _ => []) := ⟨List.Pairwise.nil, fun s => by simp, (fun s h => by cases h), fun _ => LogOk.nil, by simp [lvs]⟩
theorem RW.add {ns : List ByteArray} {L : ByteArray → List (Int × Int)} {s : ByteArray} {e : Int × Int} (h : RW ns L) (hs : okID s) (h1 : 0 ≤ e.1 ∧ e.1 ≤ 1099511627776 ∧ -1 ≤ e.2 ∧ e.2 ≤ 1099511627776) (h3 : (lst (L s)).1 ≤ e.1) (h4 : e.2 = -1 → (lst (L s)).2 ≠ -1) (h5 : (lst (L s)).2 = -1 → (lvs ns L).length < 20) : RW (insN s ns) (setL L s e) := by
  refine ⟨insN_up s h.up, fun x => ?_, fun x hx => ?_, fun x => ?_, ?_⟩
  · rw [mem_insN]
    by_cases q : x = s
    · subst q; rw [setL_same]; simp
    · rw [setL_other q, h.mem]; simp [q]
  · rcases (mem_insN s x ns).1 hx with rfl | hx
    · exact hs
    · exact h.nm x hx
  · by_cases q : x = s
    · subst q; rw [setL_same]; exact (h.en x).add h1 h3 h4
    · rw [setL_other q]; exact h.en x
  · have key : ∀ x, x ≠ s → gn (setL L s e) x = gn L x := fun x q => by unfold gn; rw [setL_other q]
    have e1 : ((insN s ns).filter (fun x => (!gn (setL L s e) x) && !decide (x = s))) = (ns.filter (fun x => (!gn L x) && !decide (x = s))) := by
      rw [insN_filter s _ (by simp)]
      refine List.filter_congr (fun x _ => ?_)
      by_cases q : x = s
      · simp [q]
      · simp [q, key x q]
    have e2 : (ns.filter (fun x => (!gn L x) && !decide (x = s))).length ≤ (lvs ns L).length := by
      unfold lvs
      rw [← List.countP_eq_length_filter, ← List.countP_eq_length_filter]
      exact List.countP_mono_left (fun x _ q => by simp at q; simp [q])
    by_cases q : (lst (L s)).2 = -1
    · have := ups_one s (fun x => !gn (setL L s e) x) (insN_up s h.up)
      rw [e1] at this
      have h6 := h5 q
      unfold lvs
      omega
    · have hm : s ∈ ns := (h.mem s).2 (fun z => q (by rw [z, lst_nil]))
      rw [insN_same h.up hm]
      have : (lvs ns (setL L s e)).length ≤ (lvs ns L).length := by
        unfold lvs
        rw [← List.countP_eq_length_filter, ← List.countP_eq_length_filter]
        refine List.countP_mono_left (fun x _ z => ?_)
        by_cases w : x = s
        · subst w; unfold gn; simp [q]
        · rw [key x w] at z; exact z
      have := h.live
      omega
theorem setL_len {L : ByteArray → List (Int × Int)} {s : ByteArray} {e : Int × Int} {k : Nat} (h : ∀ x, (L x).length ≤ k) : ∀ x, (setL L s e x).length ≤ k + 1 := fun x => by
  unfold setL
  have := h x
  split
  · simp; omega
  · omega
end Go.Proofs.YtanjgollffkafaaGreatDoor

/- Contracts of slices.ContainsFunc and Contains over an event's lists, of package event's fromsOf and checkLists' own functions. -/
namespace Go.Proofs.YtanjgollffkafaaGreatDoor
open Go Go.RowKit Cal
attribute [local go_sem] Oper.semAt_some

/-- a move as a value -/
def mo (x : Int × Int) : Value := .agg #[.int .i64 x.1, .int .i64 x.2]

/-- no day -/
def noDay (x : Int) : Bool := decide (¬ (0 ≤ x ∧ x ≤ 73048))
end Go.Proofs.YtanjgollffkafaaGreatDoor

/- What an iterator over days owes and is owed: it gives a list's days one by one as long as the round says yes; it writes blocks of its own alone; a round leaves these. The iterator of package expand that goes by days. -/
namespace Go.Proofs.YtanjgollffkafaaGreatDoor
open Go Go.RowKit Go.Shelf Cal
attribute [local go_sem] Oper.semAt_some

/-- the blocks of a kind lie as they lay; streams are as they were; no block has gone -/
structure Steps (keep : Nat → Prop) (W W' : World) : Prop where
  os : W'.os = W.os
  tape : W'.tape = W.tape
  output : W'.output = W.output
  size : W.heap.size ≤ W'.heap.size
  block : ∀ k, keep k → k < W.heap.size → W'.heap[k]? = W.heap[k]?
theorem Steps.refl (p : Nat → Prop) (W : World) : Steps p W W := ⟨rfl, rfl, rfl, Nat.le_refl _, fun _ _ _ => rfl⟩
theorem Steps.trans {p : Nat → Prop} {A B C : World} (h : Steps p A B) (k : Steps p B C) : Steps p A C :=
  ⟨k.os.trans h.os, k.tape.trans h.tape, k.output.trans h.output, Nat.le_trans h.size k.size, fun i hp hi => (k.block i hp (Nat.lt_of_lt_of_le hi h.size)).trans (h.block i hp hi)⟩
theorem Steps.mono {p q : Nat → Prop} {A B : World} (h : Steps p A B) (hq : ∀ k, q k → p k) : Steps q A B := ⟨h.os, h.tape, h.output, h.size, fun k hk hl => h.block k (hq k hk) hl⟩
theorem Steps.below {n : Nat} {A B : World} (h : Below n A B) : Steps (fun k => k < n) A B := ⟨h.os, h.tape, h.output, h.size, fun k hk _ => h.block k hk⟩
theorem Steps.of_below {p : Nat → Prop} {A B : World} (h : Below A.heap.size A B) : Steps p A B := ⟨h.os, h.tape, h.output, h.size, fun k _ hl => h.block k hl⟩
theorem Steps.alloc (p : Nat → Prop) (W : World) (o : Obj) : Steps p W (W.alloc o) := Steps.of_below (below_alloc W o)
theorem Steps.set {p : Nat → Prop} (W : World) (a : Addr) (v : Value) (h : ¬ p a.block) : Steps p W (W.setCell a v) :=
  ⟨rfl, rfl, rfl, by rw [set_size]; exact Nat.le_refl _, fun k hk _ => Below.heap_setCell _ _ _ k (fun e => h (e ▸ hk))⟩
theorem Steps.put {p : Nat → Prop} (W : World) (l : Nat) (o : Obj) (h : ¬ p l) : Steps p W (W.putObj l o) :=
  ⟨rfl, rfl, rfl, by rw [World.putObj_size]; exact Nat.le_refl _, fun k hk _ => World.putObj_heap_other (fun e => h (e ▸ hk))⟩
end Go.Proofs.YtanjgollffkafaaGreatDoor

/- Plain mathematics of what comes again: from month to month, from week to week. -/
namespace Go.Proofs.YtanjgollffkafaaGreatDoor.Cal

end Go.Proofs.YtanjgollffkafaaGreatDoor.Cal

/- The iterators of package expand that go by months, and the one of a single day. -/
namespace Go.Proofs.YtanjgollffkafaaGreatDoor
open Go Go.RowKit Go.Shelf Cal
attribute [local go_sem] Oper.semAt_some

end Go.Proofs.YtanjgollffkafaaGreatDoor

/- The iterator of package expand that goes by weeks. -/
namespace Go.Proofs.YtanjgollffkafaaGreatDoor
open Go Go.RowKit Go.Shelf Cal
attribute [local go_sem] Oper.semAt_some

/-- the cells of a list of days -/
def Cls (w : World) (a : Option Addr) (ds : List Int) : Prop := ∀ (j : Nat) (h : j < ds.length), ∃ b : Nat, a = some ⟨b, 0, none⟩ ∧ b < w.heap.size ∧ w.cell? ⟨b, j, none⟩ = some (.int .i64 ds[j])
theorem Cls.step {w w' : World} {a : Option Addr} {ds : List Int} (h : Cls w a ds) (hb : Below w.heap.size w w') : Cls w' a ds := fun j hj => by
  obtain ⟨b, e, hl, hc⟩ := h j hj
  exact ⟨b, e, Nat.lt_of_lt_of_le hl hb.size, cell_step hc hb⟩

end Go.Proofs.YtanjgollffkafaaGreatDoor

/- A loop over an iterator of days: one law for those who range over it. The round's body is walked once; the loop's record and the block for deferred calls are kept here. Conditions: a round ends normally, returns or breaks; it leaves the iterator's blocks. -/
namespace Go.Proofs.YtanjgollffkafaaGreatDoor
open Go Go.RowKit Cal

end Go.Proofs.YtanjgollffkafaaGreatDoor

/- Contracts of package expand's makers of iterators, of its check, and of the candidates: an iterator that gives the candidates of a start and a rule that are well. -/
namespace Go.Proofs.YtanjgollffkafaaGreatDoor
open Go Go.RowKit Go.Shelf Cal

end Go.Proofs.YtanjgollffkafaaGreatDoor

/- Which error a rule has: the numbers of errors, and package rule's Check. -/
namespace Go.Proofs.YtanjgollffkafaaGreatDoor
open Go.RowKit Cal

end Go.Proofs.YtanjgollffkafaaGreatDoor
