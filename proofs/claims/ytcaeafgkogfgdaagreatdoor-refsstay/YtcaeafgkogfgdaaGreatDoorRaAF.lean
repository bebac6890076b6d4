/- Contracts of the law's own LongRule and OwnRule. -/
import Derived.Test.YtcaeafgkogfgdaaGreatDoorRaAE
import Derived.Laws.AppendOwnNone
import Derived.Test.YtcaeafgkogfgdaaGreatDoorRaAB
import Derived.Lib.SlicesCompact
import Derived.BigQuiet
import Derived.Test.YtcaeafgkogfgdaaGreatDoorRaAC
import Derived.Shelf.Abstract
namespace Go.Proofs.YtcaeafgkogfgdaaGreatDoor
open Go.RowKit Cal

theorem ow_days {base : Nat} {W : World} {sl : Value} {ds : List Int} (h : Ow base W sl ds) (h20 : ds.length ≤ 20) : Days W sl ds := by
  rcases h.2 with ⟨rfl, h0⟩ | ⟨g, cap, cur, rfl, hb, hg, hcap, hmax, hsz, htake⟩
  · rw [List.length_eq_zero_iff.1 h0]; exact Days.nil W 0
  · refine ⟨_, cap, rfl, h20, hcap, fun j hj => ⟨g, rfl, (Array.getElem?_eq_some_iff.1 hg).1, ?_⟩⟩
    have := World.ownsRow.cellAt h j (by omega)
    rw [this, List.getElem?_map, List.getElem?_eq_getElem hj]; rfl
theorem Ow.step {base : Nat} {W W' : World} {v : Value} {o : List Int} (h : Ow base W v o) (hb : Below W.heap.size W W') : Ow base W' v o :=
  World.ownsRow.kept h (grown_below hb (some W.heap.size)) (.inr (fun he => by have := (World.ownsRow.lt h _ he).2; omega))
theorem ow_form {base : Nat} {W : World} {v : Value} {o : List Int} (h : Ow base W v o) : ∃ a cap, v = .slice a o.length cap := by
  rcases h.2 with ⟨rfl, h0⟩ | ⟨g, cap, cur, rfl, _⟩
  · rw [h0]; exact ⟨none, 0, rfl⟩
  · exact ⟨_, cap, rfl⟩
theorem Ow.steps {base : Nat} {W W' : World} {v : Value} {o : List Int} (h : Ow base W v o) (hk : ∀ k, base ≤ k → k < W.heap.size → W'.heap[k]? = W.heap[k]?) : Ow base W' v o := by
  refine ⟨h.1, ?_⟩
  rcases h.2 with h2 | ⟨g, cap, cur, hv, hb, hg, r⟩
  · exact .inl h2
  · exact .inr ⟨g, cap, cur, hv, hb, (hk g hb (Array.getElem?_eq_some_iff.1 hg).1).trans hg, r⟩
/-- a rule's list of days as it was handed over -/
def Got (w : World) (sl : Value) (ds : List Int) : Prop :=
  ∃ (a : Option Addr) (cap : Nat), sl = .slice a ds.length cap ∧ (a = none → ds.length = 0 ∧ cap = 0) ∧ ∀ ad, a = some ad → ∀ (j : Nat) (h : j < ds.length), ad.block < w.heap.size ∧ w.cell? (ad.add j) = some (.int .i64 ds[j])
theorem addr_add_block (ad : Addr) (j : Nat) : (ad.add j).block = ad.block := by
  unfold Addr.add
  split <;> rfl
theorem Got.step {w w' : World} {sl : Value} {ds : List Int} (h : Got w sl ds) (hb : Below w.heap.size w w') : Got w' sl ds := by
  obtain ⟨a, cap, h1, h2, h3⟩ := h
  refine ⟨a, cap, h1, h2, fun ad e j hj => ?_⟩
  obtain ⟨h4, h5⟩ := h3 ad e j hj
  exact ⟨Nat.lt_of_lt_of_le h4 hb.size, (World.cell?_of_block (a := ad.add j) (hb.block _ (by rw [addr_add_block]; exact h4))).trans h5⟩

theorem ow_got {base : Nat} {W : World} {sl : Value} {ds : List Int} (h : Ow base W sl ds) : Got W sl ds := by
  rcases h.2 with ⟨rfl, h0⟩ | ⟨g, cap, cur, rfl, hb, hg, hcap, hmax, hsz, htake⟩
  · rw [List.length_eq_zero_iff.1 h0]; exact ⟨none, 0, rfl, fun _ => ⟨rfl, rfl⟩, fun ad q => by cases q⟩
  · refine ⟨_, cap, rfl, (fun q => by cases q), fun ad q j hj => ?_⟩
    cases q
    refine ⟨(Array.getElem?_eq_some_iff.1 hg).1, ?_⟩
    have := World.ownsRow.cellAt h j (by omega)
    have e : (⟨g, 0, none⟩ : Addr).add j = ⟨g, j, none⟩ := by
      simp [Addr.add]
      intro hq
      exact hq.symm
    rw [e, this, List.getElem?_map, List.getElem?_eq_getElem hj]; rfl

end Go.Proofs.YtcaeafgkogfgdaaGreatDoor

/- Plain mathematics of events (no program text in it): where a day is now, the days of an event in a span; what sorting and dropping what is twice leaves. -/
namespace Go.Proofs.YtcaeafgkogfgdaaGreatDoor.Cal

/-- where a day is now: itself, or where the first move from it goes -/
def mvd : List (Int × Int) → Int → Int
  | [], d => d
  | m :: r, d => if m.1 = d then m.2 else mvd r d
/-- is a day one of an event's, whose rule gives xs? -/
def ownB (xs sk : List Int) (ms : List (Int × Int)) (d : Int) : Bool := xs.any fun x => !(sk.contains x) && decide (mvd ms x = d)
/-- the days of an event from a to b -/
def evs (xs sk : List Int) (ms : List (Int × Int)) (a b : Int) : List Int := From (fun d => decide (a ≤ d ∧ d ≤ b) && ownB xs sk ms d) 0
/-- what is given up to a last day: not in order -/
def gvn (xs sk : List Int) (ms : List (Int × Int)) (l : Int) : List Int := ((xs.takeWhile (fun d => decide (d ≤ l))).filter (fun x => !(sk.contains x))).map (mvd ms)
/-- those within a span -/
def spn (a b : Int) (l : List Int) : List Int := l.filter fun d => decide (a ≤ d ∧ d ≤ b)
/-- up to which day one has to go -/
def lastOf (ms : List (Int × Int)) (b : Int) : Int := if h : ms = [] then b else max b (ms.getLast h).1

theorem rise_ext : ∀ {l m : List Int}, l.Pairwise (· < ·) → m.Pairwise (· < ·) → (∀ x, x ∈ l ↔ x ∈ m) → l = m
  | [], [], _, _, _ => rfl
  | [], b :: m, _, _, h => absurd ((h b).2 (List.mem_cons_self ..)) (by simp)
  | a :: l, [], _, _, h => absurd ((h a).1 (List.mem_cons_self ..)) (by simp)
  | a :: l, b :: m, hl, hm, h => by
    rw [List.pairwise_cons] at hl hm
    have hab : a = b := by
      have h1 := (h a).1 (List.mem_cons_self ..)
      have h2 := (h b).2 (List.mem_cons_self ..)
      rw [List.mem_cons] at h1 h2
      rcases h1 with h1 | h1
      · exact h1
      · rcases h2 with h2 | h2
        · exact h2.symm
        · have := hm.1 _ h1; have := hl.1 _ h2; omega
    subst hab
    congr 1
    refine rise_ext hl.2 hm.2 (fun x => ?_)
    have hx := h x
    rw [List.mem_cons, List.mem_cons] at hx
    constructor
    · intro h1
      rcases hx.1 (.inr h1) with h2 | h2
      · subst h2; have := hl.1 _ h1; omega
      · exact h2
    · intro h1
      rcases hx.2 (.inr h1) with h2 | h2
      · subst h2; have := hm.1 _ h1; omega
      · exact h2

open Go.Lib in
theorem compactUpTo_facts (zs : List Int) (hs : zs.Pairwise (· ≤ ·)) : ∀ m, m ≤ zs.length → (compactUpTo zs.toArray m).Pairwise (· < ·) ∧ (∀ x, x ∈ compactUpTo zs.toArray m ↔ ∃ (j : Nat) (h : j < zs.length), j < m ∧ zs[j] = x)
  | 0, _ => ⟨List.Pairwise.nil, fun x => ⟨fun h => absurd h (by simp [compactUpTo]), fun ⟨_, _, h, _⟩ => by omega⟩⟩
  | m + 1, hm => by
    obtain ⟨ih1, ih2⟩ := compactUpTo_facts zs hs m (by omega)
    have hlt : m < zs.length := by omega
    have em : zs.toArray[m]! = zs[m] := by simp [hlt]
    rw [compactUpTo_succ]
    by_cases hk : keeps zs.toArray m = true
    · rw [if_pos hk, em]
      refine ⟨List.pairwise_append.2 ⟨ih1, List.pairwise_singleton _ _, fun x hx y hy => ?_⟩, fun x => ?_⟩
      · rw [List.mem_singleton] at hy
        subst hy
        obtain ⟨j, hj, hjm, rfl⟩ := (ih2 x).1 hx
        unfold keeps at hk
        rw [decide_eq_true_iff] at hk
        have hm0 : m ≠ 0 := by omega
        have e1 : zs.toArray[m - 1]! = zs[m - 1] := by simp [show m - 1 < zs.length by omega]
        have hne : zs[m] ≠ zs[m - 1] := by
          rcases hk with q | q
          · exact absurd q hm0
          · rwa [em, e1] at q
        have p1 : zs[m - 1] ≤ zs[m] := List.pairwise_iff_getElem.1 hs (m - 1) m (by omega) hlt (by omega)
        have p2 : zs[j] ≤ zs[m - 1] := by
          rcases Nat.lt_or_ge j (m - 1) with q | q
          · exact List.pairwise_iff_getElem.1 hs j (m - 1) hj (by omega) q
          · have : j = m - 1 := by omega
            subst this; exact Int.le_refl _
        omega
      · rw [List.mem_append, List.mem_singleton, ih2]
        constructor
        · rintro (⟨j, hj, h1, h2⟩ | rfl)
          · exact ⟨j, hj, by omega, h2⟩
          · exact ⟨m, hlt, by omega, rfl⟩
        · rintro ⟨j, hj, h1, h2⟩
          rcases Nat.lt_or_ge j m with q | q
          · exact .inl ⟨j, hj, q, h2⟩
          · have : j = m := by omega
            subst this; exact .inr h2.symm
    · rw [if_neg hk, List.append_nil]
      refine ⟨ih1, fun x => ?_⟩
      rw [ih2]
      constructor
      · rintro ⟨j, hj, h1, h2⟩; exact ⟨j, hj, by omega, h2⟩
      · rintro ⟨j, hj, h1, h2⟩
        rcases Nat.lt_or_ge j m with q | q
        · exact ⟨j, hj, q, h2⟩
        · have : j = m := by omega
          subst this
          unfold keeps at hk
          rw [decide_eq_true_iff] at hk
          have hm0 : j ≠ 0 := fun q => hk (.inl q)
          have e1 : zs.toArray[j - 1]! = zs[j - 1] := by simp [show j - 1 < zs.length by omega]
          have he : zs[j] = zs[j - 1] := Classical.byContradiction (fun q => hk (.inr (by rw [em, e1]; exact q)))
          exact ⟨j - 1, by omega, by omega, by rw [← he]; exact h2⟩

/-- a list that was sorted, what is twice dropped -/
theorem compact_sort (l m : List Int) (hm : m.Pairwise (· < ·)) (h : ∀ x, x ∈ l ↔ x ∈ m) : Go.Lib.compact (l.mergeSort fun x y => decide (x ≤ y)) = m := by
  have hs : (l.mergeSort fun x y => decide (x ≤ y)).Pairwise (· ≤ ·) := by
    have := List.pairwise_mergeSort (le := fun (x y : Int) => decide (x ≤ y)) (fun a b c h1 h2 => by simp at *; omega) (fun a b => by simp; omega) l
    exact this.imp (fun h => by simpa using h)
  obtain ⟨h1, h2⟩ := compactUpTo_facts _ hs _ (Nat.le_refl _)
  refine rise_ext h1 hm (fun x => ?_)
  have e : x ∈ l ↔ x ∈ l.mergeSort fun x y => decide (x ≤ y) := List.mem_mergeSort.symm
  rw [← h x, e]
  refine (h2 x).trans ?_
  rw [List.mem_iff_getElem]
  constructor
  · rintro ⟨j, hj, _, e⟩; exact ⟨j, hj, e⟩
  · rintro ⟨j, hj, e⟩; exact ⟨j, hj, hj, e⟩

theorem mvd_cases : ∀ (ms : List (Int × Int)) (x : Int), (mvd ms x = x ∧ ∀ m ∈ ms, m.1 ≠ x) ∨ (x, mvd ms x) ∈ ms
  | [], x => .inl ⟨rfl, fun m hm => by cases hm⟩
  | m :: r, x => by
    unfold mvd
    by_cases h : m.1 = x
    · rw [if_pos h]; right; rw [← h]; exact List.mem_cons_self ..
    · rw [if_neg h]
      rcases mvd_cases r x with ⟨h1, h2⟩ | h1
      · refine .inl ⟨h1, fun n hn => ?_⟩
        rcases List.mem_cons.1 hn with rfl | q
        · exact h
        · exact h2 n q
      · exact .inr (List.mem_cons_of_mem _ h1)
theorem mvd_of : ∀ {ms : List (Int × Int)} {x y : Int}, (ms.map Prod.fst).Pairwise (· < ·) → (x, y) ∈ ms → mvd ms x = y
  | [], _, _, _, h => by cases h
  | m :: r, x, y, hp, h => by
    rw [List.map_cons, List.pairwise_cons] at hp
    unfold mvd
    rcases List.mem_cons.1 h with rfl | q
    · rw [if_pos rfl]
    · have : m.1 < x := hp.1 x (List.mem_map.2 ⟨_, q, rfl⟩)
      rw [if_neg (by omega)]
      exact mvd_of hp.2 q
theorem ownB_iff {xs sk : List Int} {ms : List (Int × Int)} {d : Int} : ownB xs sk ms d = true ↔ ∃ x ∈ xs, x ∉ sk ∧ mvd ms x = d := by
  unfold ownB
  rw [List.any_eq_true]
  constructor
  · rintro ⟨x, h1, h2⟩
    simp at h2
    exact ⟨x, h1, h2⟩
  · rintro ⟨x, h1, h2, h3⟩
    exact ⟨x, h1, by simp [h2, h3]⟩
theorem mem_evs {xs sk : List Int} {ms : List (Int × Int)} {a b d : Int} : d ∈ evs xs sk ms a b ↔ 0 ≤ d ∧ d ≤ 73048 ∧ a ≤ d ∧ d ≤ b ∧ ∃ x ∈ xs, x ∉ sk ∧ mvd ms x = d := by
  unfold evs
  rw [mem_From, Bool.and_eq_true, decide_eq_true_iff, ownB_iff]
  constructor
  · rintro ⟨h1, h2, ⟨h3, h4⟩, h5⟩; exact ⟨h1, h2, h3, h4, h5⟩
  · rintro ⟨h1, h2, h3, h4, h5⟩; exact ⟨h1, h2, ⟨h3, h4⟩, h5⟩
theorem evs_rise (xs sk : List Int) (ms : List (Int × Int)) (a b : Int) : (evs xs sk ms a b).Pairwise (· < ·) := From_rise _ _
theorem mem_takeWhile_rise {u : Int} {l : List Int} (h : l.Pairwise (· < ·)) {x : Int} : x ∈ l.takeWhile (fun d => decide (d ≤ u)) ↔ x ∈ l ∧ x ≤ u := by
  rw [take_rise h, List.mem_filter, decide_eq_true_iff]
theorem mem_gvn {xs sk : List Int} {ms : List (Int × Int)} {l d : Int} (h : xs.Pairwise (· < ·)) : d ∈ gvn xs sk ms l ↔ ∃ x ∈ xs, x ≤ l ∧ x ∉ sk ∧ mvd ms x = d := by
  unfold gvn
  rw [List.mem_map]
  constructor
  · rintro ⟨x, h1, h2⟩
    rw [List.mem_filter, mem_takeWhile_rise h] at h1
    exact ⟨x, h1.1.1, h1.1.2, by simpa using h1.2, h2⟩
  · rintro ⟨x, h1, h2, h3, h4⟩
    exact ⟨x, by rw [List.mem_filter, mem_takeWhile_rise h]; exact ⟨⟨h1, h2⟩, by simpa using h3⟩, h4⟩
theorem le_lastOf {ms : List (Int × Int)} (b : Int) (hp : (ms.map Prod.fst).Pairwise (· < ·)) : b ≤ lastOf ms b ∧ ∀ m ∈ ms, m.1 ≤ lastOf ms b := by
  unfold lastOf
  by_cases h : ms = []
  · subst h; simp
  · rw [dif_neg h]
    refine ⟨by omega, fun m hm => ?_⟩
    have : m.1 ≤ (ms.getLast h).1 := by
      obtain ⟨j, hj, rfl⟩ := List.mem_iff_getElem.1 hm
      rw [List.getLast_eq_getElem]
      rcases Nat.lt_or_ge j (ms.length - 1) with q | q
      · have := List.pairwise_iff_getElem.1 hp j (ms.length - 1) (by simpa using hj) (by simp; omega) q
        simp at this
        omega
      · have e : ms.length - 1 = j := by omega
        simp [e]
    omega
/-- the days of an event, as they are collected -/
theorem evs_sorted {xs sk : List Int} {ms : List (Int × Int)} {a b : Int} (hx : xs.Pairwise (· < ·)) (hx0 : ∀ x ∈ xs, 0 ≤ x ∧ x ≤ 73048) (hp : (ms.map Prod.fst).Pairwise (· < ·)) (hm : ∀ m ∈ ms, 0 ≤ m.2 ∧ m.2 ≤ 73048) :
    Go.Lib.compact ((spn a b (gvn xs sk ms (lastOf ms b))).mergeSort fun x y => decide (x ≤ y)) = evs xs sk ms a b := by
  refine compact_sort _ _ (evs_rise ..) (fun d => ?_)
  unfold spn
  rw [List.mem_filter, mem_gvn hx, mem_evs, decide_eq_true_iff]
  obtain ⟨l1, l2⟩ := le_lastOf b hp
  constructor
  · rintro ⟨⟨x, h1, h2, h3, h4⟩, h5, h6⟩
    have : 0 ≤ d ∧ d ≤ 73048 := by
      rcases mvd_cases ms x with ⟨q, _⟩ | q
      · have := hx0 x h1; rw [← h4, q]; exact this
      · have := hm _ q; rw [← h4]; exact this
    exact ⟨this.1, this.2, h5, h6, x, h1, h3, h4⟩
  · rintro ⟨_, _, h5, h6, x, h1, h3, h4⟩
    refine ⟨⟨x, h1, ?_, h3, h4⟩, h5, h6⟩
    rcases mvd_cases ms x with ⟨q, _⟩ | q
    · omega
    · exact l2 _ q
theorem spn_nil (a b : Int) : spn a b [] = [] := rfl
theorem gvn_len {xs sk : List Int} {ms : List (Int × Int)} {l : Int} : (gvn xs sk ms l).length ≤ xs.length := by
  unfold gvn
  rw [List.length_map]
  exact Nat.le_trans (List.length_filter_le _ _) (List.takeWhile_sublist _).length_le
theorem spn_len {a b : Int} {l : List Int} : (spn a b l).length ≤ l.length := List.length_filter_le _ _
end Go.Proofs.YtcaeafgkogfgdaaGreatDoor.Cal

/- An event as a value, its lists in memory; contracts of package event's isID, isTitle, isDay, rises. -/
namespace Go.Proofs.YtcaeafgkogfgdaaGreatDoor
open Go.RowKit Cal

/-- a list of numbers in memory -/
def Ints (w : World) (sl : Value) (xs : List Int) : Prop :=
  ∃ (a : Option Addr) (c : Nat), sl = .slice a xs.length c ∧ xs.length ≤ 80000 ∧ xs.length ≤ c ∧
    ∀ (j : Nat) (h : j < xs.length), ∃ b : Nat, a = some ⟨b, 0, none⟩ ∧ b < w.heap.size ∧ w.cell? ⟨b, j, none⟩ = some (.int .i64 xs[j])
theorem Ints.step {w w' : World} {sl : Value} {xs : List Int} (h : Ints w sl xs) (hb : Below w.heap.size w w') : Ints w' sl xs := by
  obtain ⟨a, c, h1, h2, h3, h4⟩ := h
  refine ⟨a, c, h1, h2, h3, fun j hj => ?_⟩
  obtain ⟨b, e, hl, hc⟩ := h4 j hj
  exact ⟨b, e, Nat.lt_of_lt_of_le hl hb.size, (hb.cell (p := ⟨b, j, none⟩) hl).trans hc⟩
theorem Ints.nil (w : World) (c : Nat) : Ints w (.slice none 0 c) [] := ⟨none, c, rfl, by simp, by simp, fun j h => absurd h (by simp)⟩
/-- a list of moves in memory -/
def Movs (w : World) (sl : Value) (ms : List (Int × Int)) : Prop :=
  ∃ (a : Option Addr) (c : Nat), sl = .slice a ms.length c ∧ ms.length ≤ 80000 ∧ ms.length ≤ c ∧
    ∀ (j : Nat) (h : j < ms.length), ∃ b : Nat, a = some ⟨b, 0, none⟩ ∧ b < w.heap.size ∧ w.cell? ⟨b, j * 2, none⟩ = some (.int .i64 ms[j].1) ∧ w.cell? ⟨b, j * 2 + 1, none⟩ = some (.int .i64 ms[j].2)
theorem Movs.step {w w' : World} {sl : Value} {ms : List (Int × Int)} (h : Movs w sl ms) (hb : Below w.heap.size w w') : Movs w' sl ms := by
  obtain ⟨a, c, h1, h2, h3, h4⟩ := h
  refine ⟨a, c, h1, h2, h3, fun j hj => ?_⟩
  obtain ⟨b, e, hl, hc, hd⟩ := h4 j hj
  exact ⟨b, e, Nat.lt_of_lt_of_le hl hb.size, (hb.cell (p := ⟨b, j * 2, none⟩) hl).trans hc, (hb.cell (p := ⟨b, j * 2 + 1, none⟩) hl).trans hd⟩
theorem Movs.nil (w : World) (c : Nat) : Movs w (.slice none 0 c) [] := ⟨none, c, rfl, by simp, by simp, fun j h => absurd h (by simp)⟩

/-- a sign of an ID -/
def okc (c : UInt8) : Prop := (97 ≤ (c.toNat : Int) ∧ (c.toNat : Int) ≤ 122) ∨ (48 ≤ (c.toNat : Int) ∧ (c.toNat : Int) ≤ 57)
/-- an ID that is well -/
def okID (s : ByteArray) : Prop := (∀ (j : Nat) (h : j < s.size), okc s[j]) ∧ 1 ≤ s.size ∧ s.size ≤ 12
/-- a sign of a title -/
def okt (c : UInt8) : Prop := 32 ≤ (c.toNat : Int) ∧ (c.toNat : Int) ≤ 126 ∧ (c.toNat : Int) ≠ 124
def okTi (s : ByteArray) : Prop := (∀ (j : Nat) (h : j < s.size), okt s[j]) ∧ s.size ≤ 40

set_option maxHeartbeats 1000000 in
theorem isID_any (s : ByteArray) (w : World) (hs : s.size ≤ 60) (b : Bool) (hb : b = true ↔ okID s) :
    Calls Tryz.prog 21 #[.string s] w fun r w' => r = .returned (.bool b) ∧ w' = w := by
  have HB : Hid (b = true ↔ okID s) := hb
  clear hb
  go_enter Tryz.func21, Tryz.ntmps21
  go_wp2
  go_loop [3, 4, 5, 8] (fun _ _ _ i => ∃ k : Nat, k ≤ s.size ∧ i = .int .i64 k ∧ Hid (∀ (j : Nat) (h : j < s.size), j < k → okc s[j])) (fun _ _ _ i => s.size - (intOf i).toNat)
  case atStart => exact ⟨0, Nat.zero_le _, rfl, fun j _ h => absurd h (Nat.not_lt_zero _)⟩
  case round =>
    obtain ⟨k, hk, rfl, HA⟩ := hrel
    by_cases hlt : k < s.size
    · have HN : Hid (okc s[k] → ∀ (j : Nat) (h : j < s.size), j < k + 1 → okc s[j]) := fun hx j hj hjk => by
        by_cases ej : j = k
        · subst ej; exact hx
        · exact HA.out j hj (by omega)
      have HF : Hid (¬ okc s[k] → b = false) := fun hx => by
        cases b with
        | false => rfl
        | true => exact absurd ((HB.out.1 rfl).1 k hlt) hx
      clear HA HB
      have hok : Hid (okc s[k] ↔ (97 ≤ (s[k].toNat : Int) ∧ (s[k].toNat : Int) ≤ 122) ∨ (48 ≤ (s[k].toNat : Int) ∧ (s[k].toNat : Int) ≤ 57)) := Iff.rfl
      by_cases h1 : 97 ≤ (s[k].toNat : Int) ∧ (s[k].toNat : Int) ≤ 122
      · have HN' : Hid (_) := HN.out (hok.out.2 (.inl h1))
        clear HF HN hok
        obtain ⟨h1, h2⟩ := h1
        go_wp2
        go_round
        case rel => exact ⟨k + 1, by omega, by go_num, HN'.out⟩
        case measure => simp [intOf]; omega
      · by_cases h2 : 48 ≤ (s[k].toNat : Int) ∧ (s[k].toNat : Int) ≤ 57
        · have HN' : Hid (_) := HN.out (hok.out.2 (.inr h2))
          clear HF HN hok h1
          obtain ⟨h1, h2⟩ := h2
          go_wp2
          go_round
          case rel => exact ⟨k + 1, by omega, by go_num, HN'.out⟩
          case measure => simp [intOf]; omega
        · have HF' : Hid (b = false) := HF.out (fun q => by rcases hok.out.1 q with q | q; exact h1 q; exact h2 q)
          clear HF HN hok
          have h3 : (s[k].toNat : Int) < 48 ∨ (57 < (s[k].toNat : Int) ∧ (s[k].toNat : Int) < 97) ∨ 122 < (s[k].toNat : Int) := by omega
          clear h1 h2
          rcases h3 with h3 | ⟨h3, h4⟩ | h3
          · go_wp2
            go_ret
            exact ⟨ret_bool HF'.out.symm, rfl⟩
          · have e1 : decide ((s[k].toNat : Int) ≤ 57) = false := decide_eq_false (by omega)
            go_wp2
            go_ret
            exact ⟨ret_bool HF'.out.symm, rfl⟩
          · have e1 : decide ((s[k].toNat : Int) ≤ 57) = false := decide_eq_false (by omega)
            have e2 : decide ((s[k].toNat : Int) ≤ 122) = false := decide_eq_false (by omega)
            go_wp2
            go_ret
            exact ⟨ret_bool HF'.out.symm, rfl⟩
    · have HR : Hid (b = true ↔ 1 ≤ s.size ∧ s.size ≤ 12) := by
        show _ ↔ _
        rw [HB.out]
        exact ⟨fun q => q.2, fun q => ⟨fun j hj => HA.out j hj (by omega), q⟩⟩
      clear HA HB
      go_wp2
      all_goals
        go_ret
        refine ⟨ret_bool ?_, rfl⟩
        rw [Bool.eq_iff_iff, HR.out]
        simp
        try omega

end Go.Proofs.YtcaeafgkogfgdaaGreatDoor

/- Names of commits in plain words: the entries of a name, what it was at a time; names and entries that are well. -/
namespace Go.Proofs.YtcaeafgkogfgdaaGreatDoor
open Go Go.RowKit Cal

/-- the last entry (of none: dropped at the first time) -/
def lst (l : List (Int × Int)) : Int × Int := match l.getLast? with
  | some e => e
  | none => (0, -1)
theorem lst_nil : lst [] = (0, -1) := rfl
theorem lst_snoc (l : List (Int × Int)) (e : Int × Int) : lst (l ++ [e]) = e := by
  unfold lst
  rw [List.getLast?_concat]
theorem lst_at {l : List (Int × Int)} (h : 0 < l.length) : lst l = l[l.length - 1] := by
  unfold lst
  rw [List.getLast?_eq_getElem?, List.getElem?_eq_getElem (by omega)]
/-- what a name was at a time -/
def asOf (l : List (Int × Int)) (t : Int) : Int := (lst (l.takeWhile fun e => decide (e.1 ≤ t))).2
theorem take_while_of {α : Type} {p : α → Bool} : ∀ {l : List α} {i : Nat}, i ≤ l.length → (∀ (j : Nat) (h : j < l.length), j < i → p l[j] = true) → (∀ h : i < l.length, p l[i] = false) → l.takeWhile p = l.take i
  | [], i, _, _, _ => by simp
  | x :: r, 0, _, _, h2 => by
    have := h2 (by simp)
    simp only [List.getElem_cons_zero] at this
    simp [this]
  | x :: r, i + 1, hi, h1, h2 => by
    have h0 := h1 0 (by simp) (by omega)
    simp only [List.getElem_cons_zero] at h0
    have := take_while_of (p := p) (l := r) (i := i) (by simpa using hi) (fun j hj hji => by have := h1 (j + 1) (by simpa using hj) (by omega); simpa using this) (fun h => by have := h2 (by simpa using h); simpa using this)
    rw [List.takeWhile_cons, if_pos h0, this, List.take_succ_cons]
theorem take_while_snoc {α : Type} {p : α → Bool} {x : α} (hx : p x = false) : ∀ (l : List α), (l ++ [x]).takeWhile p = l.takeWhile p
  | [] => by simp [hx]
  | y :: r => by
    rw [List.cons_append, List.takeWhile_cons, List.takeWhile_cons, take_while_snoc hx r]
theorem asOf_snoc {l : List (Int × Int)} {e : Int × Int} {t : Int} (h : t < e.1) : asOf (l ++ [e]) t = asOf l t := by
  unfold asOf
  rw [take_while_snoc (p := fun e : Int × Int => decide (e.1 ≤ t)) (decide_eq_false (by omega)) l]

/-- entries that are well -/
structure LogOk (l : List (Int × Int)) : Prop where
  up : l.Pairwise (fun a b => a.1 ≤ b.1)
  bd : ∀ e ∈ l, 0 ≤ e.1 ∧ e.1 ≤ 1099511627776 ∧ -1 ≤ e.2 ∧ e.2 ≤ 1099511627776
  dr : ∀ (i : Nat) (h : i < l.length), l[i].2 = -1 → (lst (l.take i)).2 ≠ -1
theorem LogOk.nil : LogOk [] := ⟨List.Pairwise.nil, (fun e h => by cases h), (fun i h => by simp at h)⟩
theorem lst_last {l : List (Int × Int)} (h : l.Pairwise (fun a b => a.1 ≤ b.1)) : ∀ e ∈ l, e.1 ≤ (lst l).1 := fun e he => by
  obtain ⟨i, hi, rfl⟩ := List.mem_iff_getElem.1 he
  rw [lst_at (by omega)]
  rcases Nat.lt_or_ge i (l.length - 1) with q | q
  · exact List.pairwise_iff_getElem.1 h i (l.length - 1) hi (by omega) q
  · have e1 : i = l.length - 1 := by omega
    subst e1
    exact Int.le_refl _
theorem LogOk.last {l : List (Int × Int)} (h : LogOk l) : 0 ≤ (lst l).1 ∧ (lst l).1 ≤ 1099511627776 ∧ -1 ≤ (lst l).2 ∧ (lst l).2 ≤ 1099511627776 := by
  rcases Nat.eq_zero_or_pos l.length with q | q
  · rw [List.length_eq_zero_iff.1 q, lst_nil]
    decide
  · rw [lst_at q]
    exact h.bd _ (List.getElem_mem _)
theorem LogOk.add {l : List (Int × Int)} {e : Int × Int} (h : LogOk l) (h1 : 0 ≤ e.1 ∧ e.1 ≤ 1099511627776 ∧ -1 ≤ e.2 ∧ e.2 ≤ 1099511627776) (h3 : (lst l).1 ≤ e.1) (h4 : e.2 = -1 → (lst l).2 ≠ -1) : LogOk (l ++ [e]) := by
  refine ⟨?_, ?_, ?_⟩
  · rw [List.pairwise_append]
    refine ⟨h.up, List.pairwise_singleton _ _, fun a ha b hb => ?_⟩
    rw [List.mem_singleton.1 hb]
    exact Int.le_trans (lst_last h.up a ha) h3
  · intro x hx
    rcases List.mem_append.1 hx with hx | hx
    · exact h.bd x hx
    · rw [List.mem_singleton.1 hx]; exact h1
  · intro i hi hq
    rcases Nat.lt_or_ge i l.length with q | q
    · rw [List.getElem_append_left q] at hq
      rw [List.take_append_of_le_length (by omega)]
      exact h.dr i q hq
    · have e1 : i = l.length := by simp at hi; omega
      subst e1
      rw [List.take_left]
      rw [List.getElem_append_right (Nat.le_refl _)] at hq
      simp at hq
      exact h4 hq
theorem LogOk.tk {l : List (Int × Int)} (h : LogOk l) (i : Nat) : LogOk (l.take i) := by
  refine ⟨h.up.sublist (List.take_sublist _ _), fun e he => h.bd e (List.mem_of_mem_take he), fun j hj hq => ?_⟩
  rw [List.length_take] at hj
  rw [List.getElem_take] at hq
  rw [List.take_take, Nat.min_eq_left (by omega)]
  exact h.dr j (by omega) hq

/-- one name more among rising ones -/
def insN (s : ByteArray) : List ByteArray → List ByteArray
  | [] => [s]
  | x :: r => if s.data.toList < x.data.toList then s :: x :: r else if s = x then x :: r else x :: insN s r
theorem mem_insN (s y : ByteArray) : ∀ l : List ByteArray, y ∈ insN s l ↔ y = s ∨ y ∈ l
  | [] => by simp [insN]
  | x :: r => by
    unfold insN
    split
    · simp
    · split
      · rename_i h
        subst h
        simp
      · rw [List.mem_cons, mem_insN s y r, List.mem_cons]
        constructor
        · rintro (h | h | h)
          · exact .inr (.inl h)
          · exact .inl h
          · exact .inr (.inr h)
        · rintro (h | h | h)
          · exact .inr (.inl h)
          · exact .inl h
          · exact .inr (.inr h)
/-- names rise -/
def Ups (l : List ByteArray) : Prop := l.Pairwise (fun a b => a.data.toList < b.data.toList)
theorem rs_ext {a b : ByteArray} (h : a.data.toList = b.data.toList) : a = b := by
  cases a; cases b
  congr 1
  exact Array.toList_inj.1 h
theorem rs_tri {a b : List UInt8} (h1 : ¬ a < b) (h2 : a ≠ b) : b < a := by
  rcases Decidable.em (b < a) with q | q
  · exact q
  · exact absurd (List.le_antisymm (List.not_lt.1 q) (List.not_lt.1 h1)) h2
theorem insN_up (s : ByteArray) : ∀ {l : List ByteArray}, Ups l → Ups (insN s l)
  | [], _ => List.pairwise_singleton _ _
  | x :: r, h => by
    unfold insN
    obtain ⟨h1, h2⟩ := List.pairwise_cons.1 h
    split
    · rename_i q
      refine List.pairwise_cons.2 ⟨fun y hy => ?_, h⟩
      rcases List.mem_cons.1 hy with rfl | hy
      · exact q
      · exact List.lt_trans q (h1 y hy)
    · split
      · exact h
      · rename_i q1 q2
        refine List.pairwise_cons.2 ⟨fun y hy => ?_, insN_up s h2⟩
        rcases (mem_insN s y r).1 hy with rfl | hy
        · exact rs_tri q1 (fun q => q2 (rs_ext q))
        · exact h1 y hy
theorem insN_same {s : ByteArray} : ∀ {l : List ByteArray}, Ups l → s ∈ l → insN s l = l
  | x :: r, h, hs => by
    unfold insN
    obtain ⟨h1, h2⟩ := List.pairwise_cons.1 h
    rcases List.mem_cons.1 hs with rfl | hs
    · rw [if_neg (List.lt_irrefl _), if_pos rfl]
    · have := h1 s hs
      rw [if_neg (fun q => List.lt_irrefl _ (List.lt_trans q this)), if_neg (fun q => by rw [q] at this; exact List.lt_irrefl _ this), insN_same h2 hs]
theorem insN_len (s : ByteArray) : ∀ l : List ByteArray, (insN s l).length ≤ l.length + 1
  | [] => by simp [insN]
  | x :: r => by
    unfold insN
    have := insN_len s r
    split
    · simp
    · split
      · simp
      · simp; omega
theorem insN_filter (s : ByteArray) (p : ByteArray → Bool) (hp : p s = false) : ∀ l : List ByteArray, (insN s l).filter p = l.filter p
  | [] => by simp [insN, hp]
  | x :: r => by
    unfold insN
    split
    · rw [List.filter_cons, if_neg (by rw [hp]; decide)]
    · split
      · rfl
      · rw [List.filter_cons, List.filter_cons, insN_filter s p hp r]
/-- at most one of rising names is a given one -/
theorem ups_one (s : ByteArray) (p : ByteArray → Bool) : ∀ {l : List ByteArray}, Ups l → (l.filter p).length ≤ (l.filter (fun x => p x && !decide (x = s))).length + 1
  | [], _ => by simp
  | x :: r, h => by
    obtain ⟨h1, h2⟩ := List.pairwise_cons.1 h
    by_cases hx : x = s
    · subst hx
      have e : (r.filter p) = (r.filter (fun y => p y && !decide (y = x))) := by
        refine List.filter_congr (fun y hy => ?_)
        have : y ≠ x := fun q => by have := h1 y hy; rw [q] at this; exact List.lt_irrefl _ this
        simp [this]
      rw [List.filter_cons, List.filter_cons]
      have e2 : (p x && !decide (x = x)) = false := by simp
      rw [if_neg (by rw [e2]; decide : ¬ (p x && !decide (x = x)) = true), ← e]
      split <;> simp
    · have ih := ups_one s p h2
      rw [List.filter_cons, List.filter_cons]
      have e2 : (p x && !decide (x = s)) = p x := by simp [hx]
      rw [e2]
      split
      · simp only [List.length_cons]; omega
      · exact ih

/-- is it dropped? -/
def gn (L : ByteArray → List (Int × Int)) (x : ByteArray) : Bool := decide ((lst (L x)).2 = -1)
/-- the names that are there -/
def lvs (ns : List ByteArray) (L : ByteArray → List (Int × Int)) : List ByteArray := ns.filter fun x => !gn L x
/-- one entry more -/
def setL (L : ByteArray → List (Int × Int)) (s : ByteArray) (e : Int × Int) (x : ByteArray) : List (Int × Int) := if x = s then L x ++ [e] else L x
theorem setL_same (L : ByteArray → List (Int × Int)) (s : ByteArray) (e : Int × Int) : setL L s e s = L s ++ [e] := by unfold setL; rw [if_pos rfl]
theorem setL_other {L : ByteArray → List (Int × Int)} {s x : ByteArray} {e : Int × Int} (h : x ≠ s) : setL L s e x = L x := by unfold setL; rw [if_neg h]
/-- names and entries that are well -/
structure RW (ns : List ByteArray) (L : ByteArray → List (Int × Int)) : Prop where
  up : Ups ns
  mem : ∀ s, s ∈ ns ↔ L s ≠ []
  nm : ∀ s ∈ ns, okID s
  en : ∀ s, LogOk (L s)
  live : (lvs ns L).length ≤ 20
theorem RW.none : RW [] (fun _ => []) := ⟨List.Pairwise.nil, fun s => by simp, (fun s h => by cases h), fun _ => LogOk.nil, by simp [lvs]⟩
theorem RW.add {ns : List ByteArray} {L : ByteArray → List (Int × Int)} {s : ByteArray} {e : Int × Int} (h : RW ns L) (hs : okID s) (h1 : 0 ≤ e.1 ∧ e.1 ≤ 1099511627776 ∧ -1 ≤ e.2 ∧ e.2 ≤ 1099511627776) (h3 : (lst (L s)).1 ≤ e.1) (h4 : e.2 = -1 → (lst (L s)).2 ≠ -1) (h5 : (lst (L s)).2 = -1 → (lvs ns L).length < 20) : RW (insN s ns) (setL L s e) := by
  refine ⟨insN_up s h.up, fun x => ?_, fun x hx => ?_, fun x => ?_, ?_⟩
  · rw [mem_insN]
    by_cases q : x = s
    · subst q; rw [setL_same]; simp
    · rw [setL_other q, h.mem]; simp [q]
  · rcases (mem_insN s x ns).1 hx with rfl | hx
    · exact hs
    · exact h.nm x hx
  · by_cases q : x = s
    · subst q; rw [setL_same]; exact (h.en x).add h1 h3 h4
    · rw [setL_other q]; exact h.en x
  · have key : ∀ x, x ≠ s → gn (setL L s e) x = gn L x := fun x q => by unfold gn; rw [setL_other q]
    have e1 : ((insN s ns).filter (fun x => (!gn (setL L s e) x) && !decide (x = s))) = (ns.filter (fun x => (!gn L x) && !decide (x = s))) := by
      rw [insN_filter s _ (by simp)]
      refine List.filter_congr (fun x _ => ?_)
      by_cases q : x = s
      · simp [q]
      · simp [q, key x q]
    have e2 : (ns.filter (fun x => (!gn L x) && !decide (x = s))).length ≤ (lvs ns L).length := by
      unfold lvs
      rw [← List.countP_eq_length_filter, ← List.countP_eq_length_filter]
      exact List.countP_mono_left (fun x _ q => by simp at q; simp [q])
    by_cases q : (lst (L s)).2 = -1
    · have := ups_one s (fun x => !gn (setL L s e) x) (insN_up s h.up)
      rw [e1] at this
      have h6 := h5 q
      unfold lvs
      omega
    · have hm : s ∈ ns := (h.mem s).2 (fun z => q (by rw [z, lst_nil]))
      rw [insN_same h.up hm]
      have : (lvs ns (setL L s e)).length ≤ (lvs ns L).length := by
        unfold lvs
        rw [← List.countP_eq_length_filter, ← List.countP_eq_length_filter]
        refine List.countP_mono_left (fun x _ z => ?_)
        by_cases w : x = s
        · subst w; unfold gn; simp [q]
        · rw [key x w] at z; exact z
      have := h.live
      omega
theorem setL_len {L : ByteArray → List (Int × Int)} {s : ByteArray} {e : Int × Int} {k : Nat} (h : ∀ x, (L x).length ≤ k) : ∀ x, (setL L s e x).length ≤ k + 1 := fun x => by
  unfold setL
  have := h x
  split
  · simp; omega
  · omega
end Go.Proofs.YtcaeafgkogfgdaaGreatDoor

/- Contracts of slices.ContainsFunc and Contains over an event's lists, of package event's fromsOf and checkLists' own functions. -/
namespace Go.Proofs.YtcaeafgkogfgdaaGreatDoor
open Go Go.RowKit Cal
attribute [local go_sem] Oper.semAt_some

/-- a move as a value -/
def mo (x : Int × Int) : Value := .agg #[.int .i64 x.1, .int .i64 x.2]

/-- no day -/
def noDay (x : Int) : Bool := decide (¬ (0 ≤ x ∧ x ≤ 73048))
end Go.Proofs.YtcaeafgkogfgdaaGreatDoor
