/- Package book's On. -/
import Derived.Test.YtpdcjnkgkpbdgaaGreatDoorQaC
import Derived.Test.YtpdcjnkgkpbdgaaGreatDoorQaD
import Derived.Test.YtpdcjnkgkpbdgaaGreatDoorQbM
import Derived.Stop.Asserts
import Derived.BigQuiet
import Derived.Deep.DeepCutAuto
import Derived.Test.YtpdcjnkgkpbdgaaGreatDoorQdA
namespace Go.Proofs.YtpdcjnkgkpbdgaaGreatDoor
open Go Go.RowKit Go.Maps Cal
attribute [local go_sem] Oper.semAt_some

theorem look1_eq {bb n : Nat} {mo : Option Nat} {D : DataW Value} {W : World} (h : Bok W bb mo n D) {id : ByteArray} (hid : id.size ≤ 1000) {u : Value} (hat : D.atKey (key id) (.held zV) = .held u) :
    (Instr.lookup 102 (.map mo) (.string id) false).run Tryz.prog W = .ok u W := by
  cases mo with
  | none =>
    have hD : D = .map [] := h.2
    subst hD
    have hu : zV = u := by
      have : (DataW.held zV : DataW Value) = .held u := hat
      cases this; rfl
    rw [← hu]
    exact Maps.look_nil false law Tryz.underlying102 (zeroE W) (key_of hid)
  | some mb =>
    obtain ⟨es, clock, hb, F, _, rfl⟩ := h.2.2
    rcases Maps.fit_look false law Tryz.underlying102 (zeroE W) hb F (key_of hid) with ⟨hrun, _, hq⟩ | ⟨e0, y, _, _, hrun, hRv, hq, _⟩
    · rw [hq] at hat
      have hu : zV = u := by cases hat; rfl
      rw [← hu]
      exact hrun
    · rw [hq] at hat
      have h1 := hld_inv hRv
      rw [hat] at h1
      have hu : e0.val = u := by cases h1; rfl
      rw [← hu]
      exact hrun

set_option maxHeartbeats 2000000 in
set_option maxRecDepth 100000 in
theorem on1_any (bb n be bd : Nat) (mo : Option Nat) (D : DataW Value) (id : ByteArray) (E : EV) (sl skv mvv : Value) (d : Int) (b : Bool) (s : Nat → Addr) (w : World) (g : GlobK s w) (h : Bok w bb mo n D) (hid : id.size ≤ 1000)
    (hat : D.atKey (key id) (.held zV) = .held (ev E sl skv mvv)) (hL : Ls w E sl skv mvv) (h30 : E.id.size ≤ 60) (h60 : E.ti.size ≤ 60) (hb : b = true ↔ covers E d) (ce : w.cell? ⟨be, 0, none⟩ = some (.map mo)) (cd : w.cell? ⟨bd, 0, none⟩ = some (.int .i64 d)) :
    Calls Tryz.prog 112 #[.string id, .pointer (some ⟨be, 0, none⟩), .pointer (some ⟨bd, 0, none⟩)] w fun r w' => r = .returned (.bool (!b)) ∧ Below w.heap.size w w' := by
  have CV : Hid (Calls Tryz.prog 113 #[ev E sl skv mvv, .int .i64 d] w fun r w' => r = .returned (.bool b) ∧ Below w.heap.size w w') := covers_any E sl skv mvv d s w g hL.d hL.s hL.m h30 h60 b hb
  obtain ⟨ra, rc, rfl, _⟩ := hL.d
  obtain ⟨sa, sc, rfl, _⟩ := hL.s
  obtain ⟨ma, mc, rfl, _⟩ := hL.m
  unfold ev at CV hat
  have LK := look1_eq h hid hat
  clear hb hL h g hat
  go_enter Tryz.func112, Tryz.ntmps112
  go_wp2_with (go_at_call 113; refine Calls.mono CV.out ?_; rintro r w5 ⟨rfl, hb5⟩)
  go_ret
  exact ⟨rfl, hb5⟩

/-- a list of texts that a call gave -/
def RowV (base : Nat) (W : World) (v : Value) (l : List ByteArray) : Prop :=
  (v = .slice none 0 0 ∧ l = []) ∨ ∃ B cap, v = .slice (some ⟨B, 0, none⟩) l.length cap ∧ base ≤ B ∧ RowS W B cap l
theorem rowV_own {base : Nat} {W : World} {v : Value} {n : Nat} {xs : List (List UInt8)} (h : W.ownsRow base 9 1 v n (xs.map encStr)) : RowV base W v (xs.map bs) := by
  have hn : xs.length = n := by have := h.1; simpa using this
  rcases h.2 with ⟨rfl, h0⟩ | ⟨B, cap, cur, rfl, hb, hg, hcap, hmax, hsz, htake⟩
  · refine .inl ⟨rfl, ?_⟩
    rw [List.length_eq_zero_iff.1 (hn.trans h0)]; rfl
  · refine .inr ⟨B, cap, by rw [List.length_map, hn], hb, ⟨cur, hg, by omega, fun j hj => ?_⟩, by rw [List.length_map]; omega⟩
    rw [List.length_map] at hj
    have e := congrArg (fun z : List Value => z[j]?) htake
    simp only [List.getElem?_take, List.getElem?_map, Array.getElem?_toList] at e
    rw [if_pos (by omega), List.getElem?_eq_getElem hj] at e
    rw [e, List.getElem_map]; rfl
end Go.Proofs.YtpdcjnkgkpbdgaaGreatDoor

/- Package book's On. -/
namespace Go.Proofs.YtpdcjnkgkpbdgaaGreatDoor
open Go Go.RowKit Go.Maps Go.Sort Cal
attribute [local go_sem] Oper.semAt_some

/-- what a book holds: an event for each of its IDs; c: does it cover day d? -/
def Holds60 (w : World) (D : DataW Value) (d : Int) (c : ByteArray → Bool) : Prop :=
  ∀ k ∈ strKeys D, ∃ E sl skv mvv, D.atKey (key (bs k)) (.held zV) = .held (ev E sl skv mvv) ∧ Ls w E sl skv mvv ∧ E.id.size ≤ 60 ∧ E.ti.size ≤ 60 ∧ (bs k).size ≤ 1000 ∧ (c (bs k) = true ↔ covers E d)

theorem grown_to {w A C : World} {B : Nat} (h : Below w.heap.size w A) (k : A.grownBy C (some B)) (hB : w.heap.size ≤ B) : Below w.heap.size w C :=
  ⟨k.os.trans h.os, k.tape.trans h.tape, k.output.trans h.output, Nat.le_trans h.size k.size, fun i hi => (k.block i (Nat.lt_of_lt_of_le hi h.size) (fun q => by have := Option.some.inj q; omega)).trans (h.block i hi)⟩

theorem cell_of {W : World} {n : Nat} {v : Value} {t : TypeId} (h : W.heap[n]? = some (.cells #[v] t (0, 0))) : W.cell? ⟨n, 0, none⟩ = some v := by simp [World.cell?, h]

theorem deleteV (g : Nat) (lb : Array Value) (p : ByteArray → Bool) (l : List ByteArray) (base : Nat) (v : Value) (w : World) (hR : RowV base w v l) (h8 : l.length ≤ 80000) (eg : ∀ args W, (callFunc g args).run Tryz.prog W = .ok (.enter g args) W)
    (hp : ∀ x ∈ l, ∀ (B : Nat) (W : World), base ≤ B → w.grownBy W (some B) → Calls Tryz.prog g (#[.string x] ++ lb) W fun r w' => r = .returned (.bool (p x)) ∧ Below W.heap.size W w') :
    Calls Tryz.prog 111 #[v, .func (.func g) #[] lb] w fun r w' => ∃ v', r = .returned v' ∧ RowV base w' v' (l.filter fun x => !p x) ∧ ∃ B, base ≤ B ∧ w.grownBy w' (some B) := by
  rcases hR with ⟨rfl, rfl⟩ | ⟨B, cap, rfl, hB, hrow⟩
  · refine Calls.mono (deleteFuncS_nil g lb w) ?_
    rintro r w' ⟨rfl, rfl⟩
    exact ⟨_, rfl, .inl ⟨rfl, rfl⟩, base, Nat.le_refl _, grown_below (Below.refl _ _) _⟩
  · refine Calls.mono (deleteFuncS_any g lb p l B cap w hrow h8 eg (fun x hx W hW => hp x hx B W hB hW)) ?_
    rintro r w' ⟨rfl, h1, h2⟩
    exact ⟨_, rfl, .inr ⟨B, cap, rfl, hB, h1⟩, B, hB, h2⟩
theorem RowV.base {a b : Nat} {W : World} {v : Value} {l : List ByteArray} (h : RowV b W v l) (hab : a ≤ b) : RowV a W v l := by
  rcases h with h | ⟨B, cap, h1, h2, h3⟩
  · exact .inl h
  · exact .inr ⟨B, cap, h1, Nat.le_trans hab h2, h3⟩

set_option maxHeartbeats 2000000 in
set_option maxRecDepth 100000 in
theorem on_any (bb n : Nat) (mo : Option Nat) (D : DataW Value) (d : Int) (c : ByteArray → Bool) (s : Nat → Addr) (w : World) (g : GlobK s w) (h : Bok w bb mo n D) (hn : n ≤ 80000) (hA : Holds60 w D d c) :
    Calls Tryz.prog 69 #[.pointer (some ⟨bb, 0, none⟩), .int .i64 d] w fun r w' => ∃ (v : Value) (ss : List (List UInt8)), r = .returned v ∧ ss.Perm (strKeys D) ∧ RowV w.heap.size w' v (((ss.mergeSort (fun x y => decide (x ≤ y))).map bs).filter c) ∧ Below w.heap.size w w' := by
  have hszD : Maps.size D ≤ 80000 := by
    cases mo with
    | none => have hD : D = .map [] := h.2; subst hD; simp [Maps.size]
    | some mb => have := h.2.2.size_le; omega
  have HSZ : Hid (Maps.size D ≤ 80000) := hszD
  have h1 := below_alloc w (.cells #[.int .i64 d] 3)
  have h2 := below_then h1 (below_alloc (w.alloc (.cells #[.int .i64 d] 3)) (.cells #[.map mo] 102))
  have AL : Hid (Calls _ _ _ _ _) := all_any bb mo n D _ (h.step h1)
  have ID : Hid (Calls _ _ _ _ _) := ids_any bb mo n D _ (h.step h2) (Nat.le_trans hn (by decide))
  have eg : ∀ args W, (callFunc 112 args).run Tryz.prog W = .ok (.enter 112 args) W := enters_of Tryz.func112 (by kernel_rfl) rfl
  have cd : ((w.alloc (.cells #[.int .i64 d] 3)).alloc (.cells #[.map mo] 102)).cell? ⟨w.heap.size, 0, none⟩ = some (.int .i64 d) := cell_alloc _ (cell_of (block_at (W := w) (.cells #[.int .i64 d] 3) rfl))
  have ce : ((w.alloc (.cells #[.int .i64 d] 3)).alloc (.cells #[.map mo] 102)).cell? ⟨w.heap.size + 1, 0, none⟩ = some (.map mo) := cell_of (block_at (W := w.alloc (.cells #[.int .i64 d] 3)) (.cells #[.map mo] 102) (World.size_alloc _ _))
  have hs2 : ((w.alloc (.cells #[.int .i64 d] 3)).alloc (.cells #[.map mo] 102)).heap.size = w.heap.size + 2 := by rw [World.size_alloc, World.size_alloc]
  have HD1 : Hid (_) := cd
  have HE1 : Hid (_) := ce
  have H2 : Hid (_) := h2
  have HS2 : Hid (_) := hs2
  have HB : Hid (Bok w bb mo n D) := h
  have HG : Hid (GlobK s w) := g
  have HA : Hid (Holds60 w D d c) := hA
  have hz1 : (w.alloc (.cells #[.int .i64 d] 3)).heap.size = w.heap.size + 1 := World.size_alloc _ _
  clear h1 h2 cd ce hs2 h g hA hszD
  have DL : Hid (∀ (v : Value) (ss : List (List UInt8)) (w3 : World), ss.Perm (strKeys D) → RowV ((w.alloc (.cells #[.int .i64 d] 3)).alloc (.cells #[.map mo] 102)).heap.size w3 v ((ss.mergeSort (fun x y => decide (x ≤ y))).map bs) → Below ((w.alloc (.cells #[.int .i64 d] 3)).alloc (.cells #[.map mo] 102)).heap.size ((w.alloc (.cells #[.int .i64 d] 3)).alloc (.cells #[.map mo] 102)) w3 →
      Calls Tryz.prog 111 #[v, .func (.func 112) #[] #[.pointer (some ⟨w.heap.size + 1, 0, none⟩), .pointer (some ⟨w.heap.size, 0, none⟩)]] w3 fun r w' => ∃ v', r = .returned v' ∧ RowV w.heap.size w' v' (((ss.mergeSort (fun x y => decide (x ≤ y))).map bs).filter c) ∧ Below w.heap.size w w') := by
    intro v ss w3 hpm hrv hb3
    rw [HS2.out] at hrv
    have hBw := below_then H2.out hb3
    have hlen : ((ss.mergeSort (fun x y => decide (x ≤ y))).map bs).length ≤ 80000 := by
      rw [List.length_map, List.length_mergeSort, hpm.length_eq, size_keys]
      have := HSZ.out
      omega
    refine Calls.mono (deleteV 112 _ (fun x => !c x) _ _ v w3 hrv hlen eg (fun x hx B W hB hW => ?_)) ?_
    · obtain ⟨k, hk, rfl⟩ := List.mem_map.1 hx
      have hk' : k ∈ strKeys D := hpm.subset (List.mem_mergeSort.1 hk)
      obtain ⟨E, sl, skv, mvv, q1, q2, q3, q4, q5, q6⟩ := HA.out k hk'
      have hBW : Below w.heap.size w W := grown_to hBw hW (by omega)
      exact on1_any bb n (w.heap.size + 1) w.heap.size mo D (bs k) E sl skv mvv d (c (bs k)) s W (HG.out.step hBW) (HB.out.step hBW) q5 q1 (q2.step hBW) q3 q4 q6 (grown_cell hW (cell_step HE1.out hb3) (by omega)) (grown_cell hW (cell_step HD1.out hb3) (by omega))
    · rintro r w' ⟨v', rfl, h1, B, hB, h2⟩
      simp only [Bool.not_not] at h1
      exact ⟨v', rfl, h1.base (by omega), grown_to hBw h2 (by omega)⟩
  go_enter Tryz.func69, Tryz.ntmps69
  go_wp2_with (first
    | (go_at_call 71; refine Calls.mono AL.out ?_; rintro r w' ⟨rfl, hq⟩; have hq := hq.symm; subst hq)
    | (go_at_call 31; refine Calls.mono ID.out ?_; rintro r w3 ⟨v, ss, rfl, hperm, hrow, hb3⟩; have HRV : Hid (RowV _ w3 v ((ss.mergeSort (fun x y => decide (x ≤ y))).map bs)) := rowV_own hrow; have HPM : Hid (ss.Perm (strKeys D)) := hperm; have DF : Hid (Calls _ _ _ _ _) := DL.out v ss w3 HPM.out HRV.out hb3; clear hrow hperm)
    | (go_at_call 111; refine Calls.mono DF.out ?_; rintro r w5 ⟨v5, rfl, hrow5, hb5⟩))
  go_ret
  exact ⟨v5, ss, rfl, HPM.out, hrow5, hb5⟩
end Go.Proofs.YtpdcjnkgkpbdgaaGreatDoor

/- The document's IsInTexts and SameTexts. -/
namespace Go.Proofs.YtpdcjnkgkpbdgaaGreatDoor
open Go Go.RowKit Go.Maps Go.Sort Cal
attribute [local go_sem] Oper.semAt_some

/-- a list of texts, to be read -/
def Txs (W : World) (v : Value) (l : List ByteArray) : Prop :=
  ∃ (a : Option Addr) (c : Nat), v = .slice a l.length c ∧ l.length ≤ 80000 ∧ l.length ≤ c ∧
    ∀ (j : Nat) (h : j < l.length), ∃ b : Nat, a = some ⟨b, 0, none⟩ ∧ b < W.heap.size ∧ W.cell? ⟨b, j, none⟩ = some (.string l[j])
theorem Txs.step {w w' : World} {sl : Value} {xs : List ByteArray} (h : Txs w sl xs) (hb : Below w.heap.size w w') : Txs w' sl xs := by
  obtain ⟨a, c, h1, h2, h3, h4⟩ := h
  refine ⟨a, c, h1, h2, h3, fun j hj => ?_⟩
  obtain ⟨b, e, hl, hc⟩ := h4 j hj
  exact ⟨b, e, Nat.lt_of_lt_of_le hl hb.size, (hb.cell (p := ⟨b, j, none⟩) hl).trans hc⟩
theorem RowV.txs {base : Nat} {W : World} {v : Value} {l : List ByteArray} (h : RowV base W v l) (h8 : l.length ≤ 80000) : Txs W v l := by
  rcases h with ⟨rfl, rfl⟩ | ⟨B, cap, rfl, _, h3⟩
  · exact ⟨none, 0, rfl, by simp, by simp, fun j h => absurd h (by simp)⟩
  · exact ⟨_, cap, rfl, h8, h3.le, fun j hj => ⟨B, rfl, h3.lt, h3.cell j hj⟩⟩

theorem txt_ne {x y : ByteArray} (h : y ≠ x) : (y.toList == x.toList) = false := by
  rw [beq_eq_false_iff_ne, ByteArray.toList_eq, ByteArray.toList_eq]
  intro e
  apply h
  cases x; cases y
  simpa [Array.toList_inj] using e

theorem sameTexts_0 (a b : Option Addr) (ca cb : Nat) (w : World) :
    Calls Tryz.prog 68 #[.slice a 0 ca, .slice b 0 cb] w fun e w' => e = .returned (.bool true) ∧ Below w.heap.size w w' := by
  go_enter Tryz.func68, Tryz.ntmps68
  go_wp2
  go_loop [5] (fun i => i = .int .i64 0) (fun _ => 0)
  case atStart => rfl
  case round =>
    subst hrel
    go_wp2
    go_ret
    exact ⟨rfl, Below.refl _ _⟩
theorem sameTexts_1 (ba bb n ca cb : Nat) (z : Nat → ByteArray) (w : World) (hn : n ≤ 100000) (ha : ∀ i, i < n → w.cell? ⟨ba, i, none⟩ = some (.string (z i))) (hb : ∀ i, i < n → w.cell? ⟨bb, i, none⟩ = some (.string (z i))) :
    Calls Tryz.prog 68 #[.slice (some ⟨ba, 0, none⟩) n ca, .slice (some ⟨bb, 0, none⟩) n cb] w fun e w' => e = .returned (.bool true) ∧ Below w.heap.size w w' := by
  have HA : Hid (∀ i, i < n → w.cell? ⟨ba, i, none⟩ = some (.string (z i))) := ha
  have HB : Hid (∀ i, i < n → w.cell? ⟨bb, i, none⟩ = some (.string (z i))) := hb
  clear ha hb
  go_enter Tryz.func68, Tryz.ntmps68
  go_wp2
  go_loopw [5] (fun i wr => ∃ k q : Nat, k ≤ n ∧ i = .int .i64 k ∧ wr = w.drewN q) (fun i _ => n - (intOf i).toNat)
  case atStart => exact ⟨0, 0, Nat.zero_le _, rfl, rfl⟩
  case round =>
    obtain ⟨k, q, hk, rfl, rfl⟩ := hrel
    by_cases hlt : k < n
    · have h1 := HA.out k hlt
      have h2 := HB.out k hlt
      go_wp2
      go_quiet (fail)
      go_wp2
      go_roundw
      case rel => exact ⟨k + 1, _, by omega, by go_num, rfl⟩
      case measure => simp [intOf]; omega
    · go_wp2
      go_ret
      exact ⟨rfl, drewN_below _ _⟩
theorem sameTexts_eq {W : World} {v1 v2 : Value} {l : List ByteArray} (h1 : Txs W v1 l) (h2 : Txs W v2 l) : Calls Tryz.prog 68 #[v1, v2] W fun e w' => e = .returned (.bool true) ∧ Below W.heap.size W w' := by
  obtain ⟨a1, c1, rfl, h8, _, hc1⟩ := h1
  obtain ⟨a2, c2, rfl, _, _, hc2⟩ := h2
  by_cases h0 : l.length = 0
  · rw [h0]; exact sameTexts_0 a1 a2 c1 c2 W
  · obtain ⟨b1, rfl, _⟩ := hc1 0 (by omega)
    obtain ⟨b2, rfl, _⟩ := hc2 0 (by omega)
    refine sameTexts_1 b1 b2 l.length c1 c2 (fun i => l.getD i ⟨#[]⟩) W (by omega) (fun i hi => ?_) (fun i hi => ?_)
    · obtain ⟨b, e, _, hc⟩ := hc1 i hi
      cases e
      rw [hc, List.getD_eq_getElem?_getD, List.getElem?_eq_getElem hi]; rfl
    · obtain ⟨b, e, _, hc⟩ := hc2 i hi
      cases e
      rw [hc, List.getD_eq_getElem?_getD, List.getElem?_eq_getElem hi]; rfl

set_option maxHeartbeats 1000000 in
/-- the law's small: an event that is once -/
theorem small_any (x : ByteArray) (d : Int) (w : World) : Calls Tryz.prog 67 #[.string x, .int .i64 d] w fun r w' => r = .returned (ev ⟨x, ⟨#[]⟩, d, 1, ⟨#[111, 110, 99, 101]⟩, 1, [], 0, -1, [], []⟩ (.slice none 0 0) (.slice none 0 0) (.slice none 0 0)) ∧ Below w.heap.size w w' := by
  unfold ev
  go_enter Tryz.func67, Tryz.ntmps67
  go_wp2
  have n10 := block_at (W := w) (.cells #[.string x, .string ⟨#[]⟩, .int .i64 d, .int .i64 1, .string ⟨#[111, 110, 99, 101]⟩, .int .i64 1, .slice none 0 0, .int .i64 0, .int .i64 (-1), .slice none 0 0, .slice none 0 0] 37) rfl
  obtain ⟨c0, c1, c2, c3, c4, c5, c6, c7, c8, c9, c10⟩ := blk11 n10
  refine bodyPost_ret (v := .agg #[.string x, .string ⟨#[]⟩, .int .i64 d, .int .i64 1, .string ⟨#[111, 110, 99, 101]⟩, .int .i64 1, .slice none 0 0, .int .i64 0, .int .i64 (-1), .slice none 0 0, .slice none 0 0]) (by simp [results, Tryz.f67, go_sem, c0, c1, c2, c3, c4, c5, c6, c7, c8, c9, c10]) rfl ⟨rfl, below_alloc _ _⟩
end Go.Proofs.YtpdcjnkgkpbdgaaGreatDoor

/- The law's booked: the closed calendar. -/
namespace Go.Proofs.YtpdcjnkgkpbdgaaGreatDoor
open Go Go.RowKit Go.Maps Go.Sort Cal
attribute [local go_sem] Oper.semAt_some

def E7 : EV := ⟨⟨#[97]⟩, ⟨#[]⟩, 7, 1, ⟨#[111, 110, 99, 101]⟩, 1, [], 0, -1, [], []⟩
theorem E7_well : EW E7 := by
  refine ⟨⟨fun j h => ?_, by decide, by decide⟩, ⟨fun j h => ?_, by decide⟩, ⟨by decide, by decide⟩, E0_rule, by decide⟩
  · have h' : j < 1 := h
    match j, h' with
    | 0, _ => show okc 97; left; decide
  · exact absurd h (Nat.not_lt_zero _)
theorem E7_days (x : Int) : x ∈ dys E7 ↔ x = 7 := by
  unfold dys
  show x ∈ cut 0 (-1) (cds (⟨#[111, 110, 99, 101]⟩ : ByteArray).toList 7 1 []) ↔ _
  rw [cut_none, ByteArray.toList_eq]
  unfold cds
  rw [mem_From]
  have : cnd [111, 110, 99, 101] 7 1 [] = fun d => decide (d = 7) := by
    unfold cnd
    rw [if_neg (by decide), if_neg (by decide), if_neg (by decide), if_neg (by decide)]
  show _ ∧ _ ∧ cnd [111, 110, 99, 101] 7 1 [] x = true ↔ _
  rw [this, decide_eq_true_iff]
  omega
theorem E7_on : covers E7 7 := by
  refine ⟨by decide, E7_well, ?_⟩
  have : (7 : Int) ∈ eds E7 (7 - E7.lg + 1) 7 := mem_evs.2 ⟨by decide, by decide, by decide, by decide, 7, (E7_days 7).2 rfl, by simp [E7], rfl⟩
  exact List.ne_nil_of_mem this
theorem E7_off : ¬ covers E7 8 := by
  rintro ⟨_, _, h⟩
  obtain ⟨x, hx⟩ := List.exists_mem_of_ne_nil _ h
  obtain ⟨_, _, h1, h2, y, hy, _, e⟩ := mem_evs.1 hx
  have hy' := (E7_days y).1 hy
  have e' : y = x := e
  have h1' : (8 : Int) - 1 + 1 ≤ x := h1
  omega
def Z0 : EV := ⟨⟨#[]⟩, ⟨#[]⟩, 0, 0, ⟨#[]⟩, 0, [], 0, 0, [], []⟩
theorem E7_k : EvK E7 0 := by
  obtain ⟨k, hk⟩ := evK_ex E7
  have := (evK_0 hk).2 E7_well
  rwa [this] at hk
theorem kept_from {w W w' : World} {bb : Nat} {mo : Option Nat} (hb : Below w.heap.size w W) (h : Kept W w' bb mo) : Kept w w' bb mo :=
  ⟨h.os.trans hb.os, h.tape.trans hb.tape, h.output.trans hb.output, Nat.le_trans hb.size h.size, fun k hk h1 h2 => (h.block k (Nat.lt_of_lt_of_le hk hb.size) h1 h2).trans (hb.block k hk)⟩
theorem nilLs (w : World) : Ls w E7 (.slice none 0 0) (.slice none 0 0) (.slice none 0 0) := ⟨Days.nil _ _, Ints.nil _ _, Movs.nil _ _⟩
/-- what Put leaves of the closed event -/
def Put7 (w : World) (bb : Nat) (w' : World) : Prop :=
  ∃ mb, w.heap.size < mb ∧ ∃ sl' skv' mvv', Bok w' bb (some mb) 1 (DataW.put (.map []) (key ⟨#[97]⟩) (.held (ev E7 sl' skv' mvv'))) ∧ Off (fun k => k < w.heap.size ∨ k = mb) w' E7 sl' skv' mvv' ∧ Kept w w' bb none
theorem put7 (bb : Nat) (s : Nat → Addr) (w : World) (g : GlobK s w) (h : Bok w bb none 0 (.map [])) :
    Calls Tryz.prog 34 #[.pointer (some ⟨bb, 0, none⟩), ev E7 (.slice none 0 0) (.slice none 0 0) (.slice none 0 0)] w fun r w' => r = .returned .nilIface ∧ Put7 w bb w' := by
  refine Calls.mono (put_of bb 0 none (.map []) E7 Z0 (.slice none 0 0) (.slice none 0 0) (.slice none 0 0) none 0 0 none 0 0 none 0 0 0 s w g h (by decide) (by decide) (by decide) (nilLs w) E7_k rfl (Put7 w bb) (fun _ W hW => ?_)) ?_
  · refine Calls.mono (keep_none bb E7 _ _ _ 0 W (h.step hW) (by decide) (nilLs W) (by decide) (by decide)) ?_
    rintro r w' ⟨hr, mb, hm, sl', skv', mvv', h1, h2, h3⟩
    exact ⟨hr, mb, Nat.lt_of_le_of_lt hW.size hm, sl', skv', mvv', h1, h2.mono (fun k q => q.imp (fun q => Nat.lt_of_lt_of_le q hW.size) id), kept_from hW h3⟩
  · rintro r w' (⟨h1, _⟩ | ⟨_, ⟨_, h2⟩, _⟩ | ⟨_, _, rfl, hr⟩)
    · exact absurd rfl h1
    · exact absurd h2 (by simp [Maps.size])
    · exact ⟨rfl, hr⟩
end Go.Proofs.YtpdcjnkgkpbdgaaGreatDoor

/- The law's booked. -/
namespace Go.Proofs.YtpdcjnkgkpbdgaaGreatDoor
open Go Go.RowKit Go.Maps Go.Sort Cal
attribute [local go_sem] Oper.semAt_some

/-- the closed calendar's map -/
def D7 (sl skv mvv : Value) : DataW Value := DataW.put (.map []) (key ⟨#[97]⟩) (.held (ev E7 sl skv mvv))
theorem D7_keys (sl skv mvv : Value) : strKeys (D7 sl skv mvv) = [[97]] := rfl
theorem D7_at (sl skv mvv : Value) : (D7 sl skv mvv).atKey (key ⟨#[97]⟩) (.held zV) = .held (ev E7 sl skv mvv) := rfl
theorem off_ls {N : Nat → Prop} {W : World} {sl skv mvv : Value} (h : Off N W E7 sl skv mvv) : Ls W E7 sl skv mvv := ⟨ints_days h.d.ints (by decide), h.s.ints, h.m.movs⟩
theorem D7_holds {W : World} {sl skv mvv : Value} (h : Ls W E7 sl skv mvv) (d : Int) (b : Bool) (hb : b = true ↔ covers E7 d) : Holds60 W (D7 sl skv mvv) d (fun _ => b) := by
  intro k hk
  rw [D7_keys] at hk
  have hk' : k = [97] := List.mem_singleton.1 hk
  subst hk'
  exact ⟨E7, sl, skv, mvv, rfl, h, by decide, by decide, by decide, hb⟩
theorem on7 (bb mb : Nat) (sl skv mvv : Value) (s : Nat → Addr) (w : World) (g : GlobK s w) (h : Bok w bb (some mb) 1 (D7 sl skv mvv)) (hL : Ls w E7 sl skv mvv) :
    Calls Tryz.prog 69 #[.pointer (some ⟨bb, 0, none⟩), .int .i64 7] w fun r w' => ∃ v, r = .returned v ∧ Txs w' v [⟨#[97]⟩] ∧ Below w.heap.size w w' := by
  refine Calls.mono (on_any bb 1 (some mb) _ 7 _ s w g h (by decide) (D7_holds hL 7 true ⟨fun _ => E7_on, fun _ => rfl⟩)) ?_
  rintro r w' ⟨v, ss, rfl, hp, hr, hb⟩
  rw [D7_keys] at hp
  have hs : ss = [[97]] := List.perm_singleton.1 hp
  subst hs
  rw [List.mergeSort_singleton] at hr
  exact ⟨v, rfl, hr.txs (by decide), hb⟩
theorem on8 (bb mb : Nat) (sl skv mvv : Value) (s : Nat → Addr) (w : World) (g : GlobK s w) (h : Bok w bb (some mb) 1 (D7 sl skv mvv)) (hL : Ls w E7 sl skv mvv) :
    Calls Tryz.prog 69 #[.pointer (some ⟨bb, 0, none⟩), .int .i64 8] w fun r w' => (∃ a c, r = .returned (.slice a 0 c)) ∧ Below w.heap.size w w' := by
  refine Calls.mono (on_any bb 1 (some mb) _ 8 _ s w g h (by decide) (D7_holds hL 8 false ⟨fun q => absurd q (by decide), fun q => absurd q E7_off⟩)) ?_
  rintro r w' ⟨v, ss, rfl, hp, hr, hb⟩
  rw [List.filter_eq_nil_iff.2 (fun _ _ q => absurd q (by decide))] at hr
  obtain ⟨a, c, rfl, _⟩ := hr.txs (by decide)
  exact ⟨⟨a, c, rfl⟩, hb⟩

/-- what Get tells of the closed event -/
theorem get7 (bb mb : Nat) (sl skv mvv : Value) (w : World) (h : Bok w bb (some mb) 1 (D7 sl skv mvv)) (hL : Ls w E7 sl skv mvv) :
    Calls Tryz.prog 33 #[.pointer (some ⟨bb, 0, none⟩), .string ⟨#[97]⟩] w fun r w' => (∃ (ra : Option Addr) (rc : Nat) (sa : Option Addr) (sc : Nat) (ma : Option Addr) (mc : Nat), r = .returned (.tuple #[.agg #[.string ⟨#[97]⟩, .string ⟨#[]⟩, .int .i64 7, .int .i64 1, .string ⟨#[111, 110, 99, 101]⟩, .int .i64 1, .slice ra 0 rc, .int .i64 0, .int .i64 (-1), .slice sa 0 sc, .slice ma 0 mc], .bool true])) ∧ Below w.heap.size w w' := by
  refine Calls.mono (bget_any bb mb 1 _ ⟨#[97]⟩ E7 sl skv mvv w h (by decide) (D7_at _ _ _) hL (by decide) (by decide)) ?_
  rintro r w' ⟨sl', skv', mvv', rfl, hL', hb⟩
  obtain ⟨ra, rc, rfl, _⟩ := hL'.d
  obtain ⟨sa, sc, rfl, _⟩ := hL'.s
  obtain ⟨ma, mc, rfl, _⟩ := hL'.m
  exact ⟨⟨ra, rc, sa, sc, ma, mc, rfl⟩, hb⟩

theorem txs_new (w : World) : Txs (w.alloc (.cells #[.string ⟨#[97]⟩] 9)) (.slice (some ⟨w.heap.size, 0, none⟩) 1 1) [⟨#[97]⟩] := by
  refine ⟨_, 1, rfl, by decide, by decide, fun j hj => ⟨w.heap.size, rfl, by rw [World.size_alloc]; omega, ?_⟩⟩
  have hj' : j < 1 := hj
  match j, hj' with
  | 0, _ => exact cell_of (block_at (W := w) (.cells #[.string ⟨#[97]⟩] 9) rfl)

set_option maxHeartbeats 4000000 in
set_option maxRecDepth 100000 in
theorem booked_any (s : Nat → Addr) (w : World) (g : GlobK s w) : Calls Tryz.prog 25 #[] w fun r w' => r = .returned (.bool true) ∧ Below w.heap.size w w' := by
  have NW : Hid (Calls _ _ _ _ _) := new_any w
  have HG : Hid (GlobK s w) := g
  clear g
  go_enter Tryz.func25, Tryz.ntmps25
  go_wp2_with (first
    | (go_at_call 32; refine Calls.mono NW.out ?_; rintro r w1 ⟨rfl, hB1, hb1⟩; have SM : Hid (Calls Tryz.prog 67 #[.string ⟨#[97]⟩, .int .i64 7] w1 fun r w' => r = .returned (ev E7 (.slice none 0 0) (.slice none 0 0) (.slice none 0 0)) ∧ Below w1.heap.size w1 w') := small_any _ _ _; have HB1 : Hid (Bok w1 w.heap.size none 0 (.map [])) := hB1; have BW1 : Hid (Below w.heap.size w w1) := hb1; clear hB1 hb1)
    | (go_at_call 67; refine Calls.mono SM.out ?_; rintro r w2 ⟨rfl, hb2⟩; have BW2 : Hid (Below w.heap.size w w2) := below_then BW1.out hb2; have PT : Hid (Calls _ _ _ _ _) := put7 w.heap.size s w2 (HG.out.step BW2.out) (HB1.out.step hb2); clear hb2)
    | (go_at_call 34; refine Calls.mono PT.out ?_; rintro r w3 ⟨rfl, mb, hmb, sl, skv, mvv, hB3, hO3, hK3⟩; have BW3 : Hid (Below w.heap.size w w3) := hK3.below BW2.out (Nat.le_refl _) (fun m q => by cases q); have HB3 : Hid (Bok w3 w.heap.size (some mb) 1 (D7 sl skv mvv)) := hB3; have HL3 : Hid (Ls w3 E7 sl skv mvv) := off_ls hO3; have GT : Hid (Calls _ _ _ _ _) := get7 w.heap.size mb sl skv mvv w3 HB3.out HL3.out; clear hB3 hO3 hK3 hmb)
    | (go_at_call 33; refine Calls.mono GT.out ?_; rintro r w4 ⟨⟨ra, rc, sa, sc, ma, mc, rfl⟩, hb4⟩; have BW4 : Hid (Below w3.heap.size w3 w4) := hb4; have ON7 : Hid (∀ W, Below w3.heap.size w3 W → _) := fun W hW => on7 w.heap.size mb sl skv mvv s W (HG.out.step (below_then BW3.out hW)) (HB3.out.step hW) (HL3.out.step hW); have ON8 : Hid (∀ W, Below w3.heap.size w3 W → _) := fun W hW => on8 w.heap.size mb sl skv mvv s W (HG.out.step (below_then BW3.out hW)) (HB3.out.step hW) (HL3.out.step hW); clear hb4)
    | (go_at_call_of 69 (Value.int .i64 7); refine Calls.mono (ON7.out _ (below_then BW4.out (below_alloc _ _))) ?_; rintro r w5 ⟨v5, rfl, ht5, hb5⟩; have BW5 : Hid (Below w3.heap.size w3 w5) := below_then (below_then BW4.out (below_alloc _ _)) hb5; have ST : Hid (Calls _ _ _ _ _) := sameTexts_eq (ht5.step (below_alloc _ _)) (txs_new w5); clear ht5 hb5)
    | (go_at_call 68; refine Calls.mono ST.out ?_; rintro r w6 ⟨rfl, hb6⟩; have BW6 : Hid (Below w3.heap.size w3 w6) := below_then (below_then BW5.out (below_alloc _ _)) hb6; clear hb6)
    | (go_at_call 69; refine Calls.mono (ON8.out _ BW6.out) ?_; rintro r w7 ⟨⟨a7, c7, rfl⟩, hb7⟩))
  go_ret
  exact ⟨rfl, below_then BW3.out (below_then BW6.out hb7)⟩
end Go.Proofs.YtpdcjnkgkpbdgaaGreatDoor
