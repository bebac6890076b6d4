/- An event's eleven cells, all written; lists that lie elsewhere. -/
import Derived.Test.YtcaeafgkogfgdaaGreatDoorRaAH
import Derived.Maps.OwnSet
import Derived.Maps.OwnOps
import Derived.Deep.RegionHeld3
import Derived.Carry
import Derived.Deep.DeepCutAuto
import Derived.Lib.SliceRun
import Derived.Shelf.Abstract
namespace Go.Proofs.YtcaeafgkogfgdaaGreatDoor
open Go Go.RowKit Cal

/-- the zero event -/
def zV : Value := .agg #[.string ⟨#[]⟩, .string ⟨#[]⟩, .int .i64 0, .int .i64 0, .string ⟨#[]⟩, .int .i64 0, .slice none 0 0, .int .i64 0, .int .i64 0, .slice none 0 0, .slice none 0 0]
/-- the rule's five cells within an event, all written -/
def put5 (W : World) (B : Nat) (r0 r1 r2 r3 r4 : Value) : World := (((((W.setCell ⟨B, 4, none⟩ r0).setCell ⟨B, 5, none⟩ r1).setCell ⟨B, 6, none⟩ r2).setCell ⟨B, 7, none⟩ r3).setCell ⟨B, 8, none⟩ r4)
theorem put5_fold (W : World) (B : Nat) (r0 r1 r2 r3 r4 : Value) : (((((W.setCell ⟨B, 4, none⟩ r0).setCell ⟨B, 5, none⟩ r1).setCell ⟨B, 6, none⟩ r2).setCell ⟨B, 7, none⟩ r3).setCell ⟨B, 8, none⟩ r4) = put5 W B r0 r1 r2 r3 r4 := rfl
theorem put5_grown (W : World) (B : Nat) (r0 r1 r2 r3 r4 : Value) : W.grownBy (put5 W B r0 r1 r2 r3 r4) (some B) := (grown_then (grown_then (grown_then (grown_then (grown_set _ ⟨B, 4, none⟩ _) (grown_set _ ⟨B, 5, none⟩ _)) (grown_set _ ⟨B, 6, none⟩ _)) (grown_set _ ⟨B, 7, none⟩ _)) (grown_set _ ⟨B, 8, none⟩ _))
theorem put5_blk {W : World} {B : Nat} {u0 u1 u2 u3 u4 u5 u6 u7 u8 u9 u10 : Value} {t : TypeId} {fr : Nat × Nat} (r0 r1 r2 r3 r4 : Value) (h : W.heap[B]? = some (.cells #[u0, u1, u2, u3, u4, u5, u6, u7, u8, u9, u10] t fr)) : (put5 W B r0 r1 r2 r3 r4).heap[B]? = some (.cells #[u0, u1, u2, u3, r0, r1, r2, r3, r4, u9, u10] t fr) :=
  set11_8 r4 (set11_7 r3 (set11_6 r2 (set11_5 r1 (set11_4 r0 h))))

/-- a list of numbers, not in blocks of N -/
def OffI (N : Nat → Prop) (W : World) (v : Value) (xs : List Int) : Prop :=
  ∃ (a : Option Addr) (c : Nat), v = .slice a xs.length c ∧ xs.length ≤ 60 ∧ xs.length ≤ c ∧ ∀ (j : Nat) (h : j < xs.length), ∃ b : Nat, a = some ⟨b, 0, none⟩ ∧ ¬ N b ∧ b < W.heap.size ∧ W.cell? ⟨b, j, none⟩ = some (.int .i64 xs[j])
def OffM (N : Nat → Prop) (W : World) (v : Value) (ms : List (Int × Int)) : Prop :=
  ∃ (a : Option Addr) (c : Nat), v = .slice a ms.length c ∧ ms.length ≤ 60 ∧ ms.length ≤ c ∧ ∀ (j : Nat) (h : j < ms.length), ∃ b : Nat, a = some ⟨b, 0, none⟩ ∧ ¬ N b ∧ b < W.heap.size ∧ W.cell? ⟨b, j * 2, none⟩ = some (.int .i64 ms[j].1) ∧ W.cell? ⟨b, j * 2 + 1, none⟩ = some (.int .i64 ms[j].2)
theorem OffI.grown {N : Nat → Prop} {B : Nat} {W W' : World} {v : Value} {xs : List Int} (h : OffI N W v xs) (hN : N B) (hg : W.grownBy W' (some B)) : OffI N W' v xs := by
  obtain ⟨a, c, h1, h2, h3, h4⟩ := h
  refine ⟨a, c, h1, h2, h3, fun j hj => ?_⟩
  obtain ⟨b, e, hb, hl, hc⟩ := h4 j hj
  exact ⟨b, e, hb, Nat.lt_of_lt_of_le hl hg.size, grown_cell hg hc (fun q => hb (q ▸ hN))⟩
theorem OffM.grown {N : Nat → Prop} {B : Nat} {W W' : World} {v : Value} {xs : List (Int × Int)} (h : OffM N W v xs) (hN : N B) (hg : W.grownBy W' (some B)) : OffM N W' v xs := by
  obtain ⟨a, c, h1, h2, h3, h4⟩ := h
  refine ⟨a, c, h1, h2, h3, fun j hj => ?_⟩
  obtain ⟨b, e, hb, hl, hc, hd⟩ := h4 j hj
  exact ⟨b, e, hb, Nat.lt_of_lt_of_le hl hg.size, grown_cell hg hc (fun q => hb (q ▸ hN)), grown_cell hg hd (fun q => hb (q ▸ hN))⟩
theorem OffI.ints {N : Nat → Prop} {W : World} {v : Value} {xs : List Int} (h : OffI N W v xs) : Ints W v xs := by
  obtain ⟨a, c, h1, h2, h3, h4⟩ := h
  refine ⟨a, c, h1, by omega, h3, fun j hj => ?_⟩
  obtain ⟨b, e, _, hl, hc⟩ := h4 j hj
  exact ⟨b, e, hl, hc⟩
theorem ints_days {W : World} {v : Value} {xs : List Int} (h : Ints W v xs) (h20 : xs.length ≤ 20) : Days W v xs := by
  obtain ⟨a, c, h1, h2, h3, h4⟩ := h
  exact ⟨a, c, h1, h20, h3, h4⟩
theorem days_ints {W : World} {v : Value} {xs : List Int} (h : Days W v xs) : Ints W v xs := by
  obtain ⟨a, c, h1, h2, h3, h4⟩ := h
  exact ⟨a, c, h1, by omega, h3, h4⟩
theorem OffM.movs {N : Nat → Prop} {W : World} {v : Value} {xs : List (Int × Int)} (h : OffM N W v xs) : Movs W v xs := by
  obtain ⟨a, c, h1, h2, h3, h4⟩ := h
  refine ⟨a, c, h1, by omega, h3, fun j hj => ?_⟩
  obtain ⟨b, e, _, hl, hc⟩ := h4 j hj
  exact ⟨b, e, hl, hc⟩
theorem ints_off {W : World} {v : Value} {xs : List Int} (h : Ints W v xs) (h30 : xs.length ≤ 60) {N : Nat → Prop} (hN : ∀ n, N n → W.heap.size ≤ n) : OffI N W v xs := by
  obtain ⟨a, c, h1, h2, h3, h4⟩ := h
  refine ⟨a, c, h1, h30, h3, fun j hj => ?_⟩
  obtain ⟨b, e, hl, hc⟩ := h4 j hj
  exact ⟨b, e, fun q => by have := hN b q; omega, hl, hc⟩
theorem movs_off {W : World} {v : Value} {xs : List (Int × Int)} (h : Movs W v xs) (h30 : xs.length ≤ 60) {N : Nat → Prop} (hN : ∀ n, N n → W.heap.size ≤ n) : OffM N W v xs := by
  obtain ⟨a, c, h1, h2, h3, h4⟩ := h
  refine ⟨a, c, h1, h30, h3, fun j hj => ?_⟩
  obtain ⟨b, e, hl, hc⟩ := h4 j hj
  exact ⟨b, e, fun q => by have := hN b q; omega, hl, hc⟩
theorem OffI.nil (N : Nat → Prop) (W : World) (c : Nat) : OffI N W (.slice none 0 c) [] := ⟨none, c, rfl, by simp, by simp, fun j h => absurd h (by simp)⟩
theorem OffM.nil (N : Nat → Prop) (W : World) (c : Nat) : OffM N W (.slice none 0 c) [] := ⟨none, c, rfl, by simp, by simp, fun j h => absurd h (by simp)⟩
theorem ow_off {N : Nat → Prop} {base : Nat} {W : World} {v : Value} {xs : List Int} (h : Ow base W v xs) (hN : ∀ n, N n → n < base) (h30 : xs.length ≤ 60) : OffI N W v xs := by
  rcases h.2 with ⟨rfl, h0⟩ | ⟨g, cap, cur, rfl, hb, hg, hcap, hmax, hsz, htake⟩
  · rw [List.length_eq_zero_iff.1 h0]; exact OffI.nil N W 0
  · refine ⟨_, cap, rfl, h30, hcap, fun j hj => ⟨g, rfl, fun q => by have := hN g q; omega, (Array.getElem?_eq_some_iff.1 hg).1, ?_⟩⟩
    have := World.ownsRow.cellAt h j (by omega)
    rw [this, List.getElem?_map, List.getElem?_eq_getElem hj]; rfl
/-- an event's lists, not in blocks of N -/
structure Off (N : Nat → Prop) (W : World) (E : EV) (sl skv mvv : Value) : Prop where
  d : OffI N W sl E.ds
  s : OffI N W skv E.sk
  m : OffM N W mvv E.mv
theorem Off.grown {N : Nat → Prop} {B : Nat} {W W' : World} {E : EV} {sl skv mvv : Value} (h : Off N W E sl skv mvv) (hN : N B) (hg : W.grownBy W' (some B)) : Off N W' E sl skv mvv := ⟨h.d.grown hN hg, h.s.grown hN hg, h.m.grown hN hg⟩
end Go.Proofs.YtcaeafgkogfgdaaGreatDoor

/- slices.Clone of moves; package event's Copy. -/
namespace Go.Proofs.YtcaeafgkogfgdaaGreatDoor
open Go Go.RowKit Cal
attribute [local go_sem] Oper.semAt_some

/-- an event's lists, to read -/
structure Ls (W : World) (E : EV) (sl skv mvv : Value) : Prop where
  d : Days W sl E.ds
  s : Ints W skv E.sk
  m : Movs W mvv E.mv
theorem Ls.step {W W' : World} {E : EV} {sl skv mvv : Value} (h : Ls W E sl skv mvv) (hb : Below W.heap.size W W') : Ls W' E sl skv mvv := ⟨h.d.step hb, h.s.step hb, h.m.step hb⟩

end Go.Proofs.YtcaeafgkogfgdaaGreatDoor

/- Calendars: a book's map of events; package book's all, Get and Drop. -/
namespace Go.Proofs.YtcaeafgkogfgdaaGreatDoor
open Go Go.RowKit Go.Maps Cal
attribute [local go_sem] Oper.semAt_some

theorem law : Keyed Tryz.prog 9 := string_keyed Tryz.underlying9
/-- an element of the map, as it is -/
def hld (v : Value) : Option (DataW Value × List MemPlace) := some (.held v, [])
theorem hld_inv {v : Value} {d : DataW Value} {ps : List MemPlace} (h : hld v = some (d, ps)) : d = .held v := by
  unfold hld at h
  cases h
  rfl
/-- the key of an ID -/
def key (s : ByteArray) : Lit := .string s.data.toList
theorem key_of {s : ByteArray} (h : s.size ≤ 1000) : keyOf Tryz.prog 9 (.string s) = some (key s) := Go.WideMaps.keyOf_string_mk Tryz.underlying9 (by unfold maxLen; omega)

end Go.Proofs.YtcaeafgkogfgdaaGreatDoor

/- Package book's New and keep. -/
namespace Go.Proofs.YtcaeafgkogfgdaaGreatDoor
open Go Go.RowKit Go.Maps Cal
attribute [local go_sem] Oper.semAt_some

/-- what a book's writers leave as it was: all but its own block and its map's -/
structure Kept (w w' : World) (bb : Nat) (mo : Option Nat) : Prop where
  os : w'.os = w.os
  tape : w'.tape = w.tape
  output : w'.output = w.output
  size : w.heap.size ≤ w'.heap.size
  block : ∀ k, k < w.heap.size → k ≠ bb → some k ≠ mo → w'.heap[k]? = w.heap[k]?
theorem Kept.below {w w' : World} {bb : Nat} {mo : Option Nat} (h : Kept w w' bb mo) {w0 : World} (hb : Below w0.heap.size w0 w) (h1 : w0.heap.size ≤ bb) (h2 : ∀ m, mo = some m → w0.heap.size ≤ m) : Below w0.heap.size w0 w' :=
  ⟨h.os.trans hb.os, h.tape.trans hb.tape, h.output.trans hb.output, Nat.le_trans hb.size h.size, fun k hk => (h.block k (Nat.lt_of_lt_of_le hk hb.size) (by omega) (fun q => by have := h2 k q.symm; omega)).trans (hb.block k hk)⟩

theorem OffI.mono {N N' : Nat → Prop} {W : World} {v : Value} {xs : List Int} (h : OffI N W v xs) (q : ∀ b, N' b → N b) : OffI N' W v xs := by
  obtain ⟨a, c, h1, h2, h3, h4⟩ := h
  refine ⟨a, c, h1, h2, h3, fun j hj => ?_⟩
  obtain ⟨b, e, hb, hl, hc⟩ := h4 j hj
  exact ⟨b, e, fun k => hb (q b k), hl, hc⟩
theorem OffM.mono {N N' : Nat → Prop} {W : World} {v : Value} {xs : List (Int × Int)} (h : OffM N W v xs) (q : ∀ b, N' b → N b) : OffM N' W v xs := by
  obtain ⟨a, c, h1, h2, h3, h4⟩ := h
  refine ⟨a, c, h1, h2, h3, fun j hj => ?_⟩
  obtain ⟨b, e, hb, hl, hc⟩ := h4 j hj
  exact ⟨b, e, fun k => hb (q b k), hl, hc⟩
theorem Off.mono {N N' : Nat → Prop} {W : World} {E : EV} {sl skv mvv : Value} (h : Off N W E sl skv mvv) (q : ∀ b, N' b → N b) : Off N' W E sl skv mvv := ⟨h.d.mono q, h.s.mono q, h.m.mono q⟩

end Go.Proofs.YtcaeafgkogfgdaaGreatDoor

/- Package book's Put. -/
namespace Go.Proofs.YtcaeafgkogfgdaaGreatDoor
open Go Go.RowKit Go.Maps Cal
attribute [local go_sem] Oper.semAt_some

end Go.Proofs.YtcaeafgkogfgdaaGreatDoor

/- Package book's Drop, where the event is not there. -/
namespace Go.Proofs.YtcaeafgkogfgdaaGreatDoor
open Go Go.RowKit Go.Maps Cal
attribute [local go_sem] Oper.semAt_some

end Go.Proofs.YtcaeafgkogfgdaaGreatDoor

/- slices.IndexFunc and DeleteFunc at texts, with a function that leaves what lay. -/
namespace Go.Proofs.YtcaeafgkogfgdaaGreatDoor
open Go Go.RowKit Go.Maps Cal
attribute [local go_sem] Oper.semAt_some

/-- block B is a row of texts -/
structure RowS (W : World) (B cap : Nat) (l : List ByteArray) : Prop where
  ex : ∃ cur, W.heap[B]? = some (.cells cur 9 (0, 0)) ∧ cur.size = cap ∧ ∀ (j : Nat) (h : j < l.length), cur[j]? = some (.string l[j])
  le : l.length ≤ cap
theorem RowS.lt {W : World} {B cap : Nat} {l : List ByteArray} (h : RowS W B cap l) : B < W.heap.size := by
  obtain ⟨cur, h1, _⟩ := h.ex
  exact (Array.getElem?_eq_some_iff.1 h1).1
theorem RowS.cell {W : World} {B cap : Nat} {l : List ByteArray} (h : RowS W B cap l) (j : Nat) (hj : j < l.length) : W.cell? ⟨B, j, none⟩ = some (.string l[j]) := by
  obtain ⟨cur, h1, _, h3⟩ := h.ex
  simp [World.cell?, h1, h3 j hj]
theorem RowS.cold {W : World} {B cap : Nat} {l : List ByteArray} (h : RowS W B cap l) (j : Nat) : W.frozen? ⟨B, j, none⟩ = false := by
  obtain ⟨cur, h1, _⟩ := h.ex
  exact blk11_frozen h1 j
theorem RowS.step {W W' : World} {B cap : Nat} {l : List ByteArray} (h : RowS W B cap l) (hb : Below W.heap.size W W') : RowS W' B cap l := by
  have hlt := h.lt
  obtain ⟨⟨cur, h1, h2, h3⟩, h4⟩ := h
  exact ⟨⟨cur, (hb.block _ hlt).trans h1, h2, h3⟩, h4⟩
theorem RowS.set {W : World} {B cap : Nat} {l : List ByteArray} (h : RowS W B cap l) (i : Nat) (x : ByteArray) : RowS (W.setCell ⟨B, i, none⟩ (.string x)) B cap (l.set i x) := by
  obtain ⟨⟨cur, h1, h2, h3⟩, h4⟩ := h
  refine ⟨⟨_, set_block (i := i) _ h1, by simp [h2], fun j hj => ?_⟩, by simpa using h4⟩
  have hj' : j < l.length := by simpa using hj
  rw [Array.getElem?_setIfInBounds, List.getElem_set]
  by_cases e : i = j
  · subst e
    have : i < cur.size := by omega
    simp [this]
  · simp [e, h3 j hj']
theorem RowS.far {W : World} {B cap : Nat} {l : List ByteArray} (h : RowS W B cap l) (i : Nat) (hi : l.length ≤ i) (v : Value) : RowS (W.setCell ⟨B, i, none⟩ v) B cap l := by
  obtain ⟨⟨cur, h1, h2, h3⟩, h4⟩ := h
  refine ⟨⟨_, set_block (i := i) _ h1, by simp [h2], fun j hj => ?_⟩, h4⟩
  rw [Array.getElem?_setIfInBounds]
  have : i ≠ j := by omega
  simp [this, h3 j hj]
theorem RowS.fars {B cap : Nat} {l : List ByteArray} : ∀ (vs : List Value) (i : Nat) {W : World}, RowS W B cap l → l.length ≤ i → RowS (W.setCells B i vs) B cap l
  | [], _, _, h, _ => h
  | v :: r, i, _, h, hi => RowS.fars r (i + 1) (h.far i hi v) (by omega)
theorem grown_sets (B : Nat) : ∀ (vs : List Value) (i : Nat) (W : World), W.grownBy (W.setCells B i vs) (some B)
  | [], _, W => grown_below (Below.refl _ W) _
  | v :: r, i, W => grown_then (grown_set W ⟨B, i, none⟩ v) (grown_sets B r (i + 1) _)
theorem RowS.take {W : World} {B cap : Nat} {l : List ByteArray} (h : RowS W B cap l) (i : Nat) : RowS W B cap (l.take i) := by
  obtain ⟨⟨cur, h1, h2, h3⟩, h4⟩ := h
  refine ⟨⟨cur, h1, h2, fun j hj => ?_⟩, by rw [List.length_take]; omega⟩
  have hj' : j < l.length := by rw [List.length_take] at hj; omega
  rw [h3 j hj', List.getElem_take]

set_option maxHeartbeats 1000000 in
theorem indexFuncS_any (g : Nat) (lb : Array Value) (p : ByteArray → Bool) (l : List ByteArray) (B cap : Nat) (w : World) (hR : RowS w B cap l) (h8 : l.length ≤ 80000) (eg : ∀ args W, (callFunc g args).run Tryz.prog W = .ok (.enter g args) W)
    (hp : ∀ x ∈ l, ∀ (W : World), Below w.heap.size w W → Calls Tryz.prog g (#[.string x] ++ lb) W fun r w' => r = .returned (.bool (p x)) ∧ Below W.heap.size W w') :
    Calls Tryz.prog 29 #[.slice (some ⟨B, 0, none⟩) l.length cap, .func (.func g) #[] lb] w fun r w' => Below w.heap.size w w' ∧ ((r = .returned (.int .i64 (-1)) ∧ ∀ x ∈ l, p x = false) ∨ ∃ (k : Nat) (h : k < l.length), r = .returned (.int .i64 k) ∧ p l[k] = true ∧ ∀ (j : Nat) (hj : j < l.length), j < k → p l[j] = false) := by
  have HC : Hid (_) := hR
  have HP : Hid (_) := hp
  have hcap := hR.le
  clear hR hp
  go_enter Tryz.func29, Tryz.ntmps29
  go_wp2
  go_loopw [5, 8] (fun _ i wr => ∃ m : Nat, m ≤ l.length ∧ i = .int .i64 m ∧ Hid (Below w.heap.size w wr) ∧ Hid (∀ (j : Nat) (h : j < l.length), j < m → p l[j] = false)) (fun _ i _ => l.length - (intOf i).toNat)
  case atStart => exact ⟨0, Nat.zero_le _, rfl, Below.refl _ _, fun j _ h => absurd h (Nat.not_lt_zero _)⟩
  case round =>
    obtain ⟨m, hm, rfl, hB, HA⟩ := hrel
    by_cases hlt : m < l.length
    · have hcell2 := (HC.out.step hB.out).cell m hlt
      have hx := HP.out l[m] (List.getElem_mem hlt) wr hB.out
      have HN : Hid (p l[m] = false → ∀ (j : Nat) (h : j < l.length), j < m + 1 → p l[j] = false) := fun q j hj hjk => by
        by_cases ej : j = m
        · subst ej; exact q
        · exact HA.out j hj (by omega)
      have HT : Hid (p l[m] = true → ∃ (k : Nat) (h : k < l.length), (m : Int) = (k : Int) ∧ p l[k] = true ∧ ∀ (j : Nat) (hj : j < l.length), j < k → p l[j] = false) := fun q => ⟨m, hlt, rfl, q, HA.out⟩
      clear HA HC HP
      generalize l[m] = x at hcell2 hx HN HT
      have HX : Hid (_) := hx
      clear hx
      cases hpx : p x with
      | true =>
        have HT' : Hid (_) := HT.out hpx
        have HX' := HX.out
        rw [hpx] at HX'
        have HX2 : Hid (_) := HX'
        clear HT HN HX HX'
        go_wp2_with (go_at_fn g; refine Calls.mono HX2.out ?_; rintro r w1 ⟨rfl, hb1⟩)
        go_ret
        obtain ⟨k, hk, e, q1, q2⟩ := HT'.out
        exact ⟨below_then hB.out hb1, .inr ⟨k, hk, by rw [← e]; rfl, q1, q2⟩⟩
      | false =>
        have HN' : Hid (_) := HN.out hpx
        have HX' := HX.out
        rw [hpx] at HX'
        have HX2 : Hid (_) := HX'
        clear HT HN HX HX'
        go_wp2_with (go_at_fn g; refine Calls.mono HX2.out ?_; rintro r w1 ⟨rfl, hb1⟩)
        go_roundw
        case rel => exact ⟨m + 1, by omega, by go_num, below_then hB.out hb1, HN'.out⟩
        case measure => simp [intOf]; omega
    · have HR : Hid (∀ x ∈ l, p x = false) := fun x hx => by
        obtain ⟨j, hj, rfl⟩ := List.mem_iff_getElem.1 hx
        exact HA.out j hj (by omega)
      clear HA HC HP
      go_wp2
      go_ret
      exact ⟨hB.out, .inl ⟨rfl, HR.out⟩⟩

/-- the row while texts are dropped: what is kept of the first b lies ahead, the rest is as it was -/
structure Inv (l : List ByteArray) (p : ByteArray → Bool) (a b : Nat) (L : List ByteArray) : Prop where
  len : L.length = l.length
  ahead : L.take a = (l.take b).filter fun x => !p x
  rest : L.drop b = l.drop b
  fst : a < b
theorem Inv.get {l : List ByteArray} {p : ByteArray → Bool} {a b : Nat} {L : List ByteArray} (h : Inv l p a b L) (hb : b < l.length) : L[b]'(by rw [h.len]; exact hb) = l[b] := by
  have e := congrArg (fun z : List ByteArray => z[0]?) h.rest
  simp only [List.getElem?_drop, Nat.add_zero] at e
  rw [List.getElem?_eq_getElem hb, List.getElem?_eq_getElem (by rw [h.len]; exact hb)] at e
  exact Option.some.inj e
theorem drop_more {L l : List ByteArray} {b : Nat} (h : L.drop b = l.drop b) : L.drop (b + 1) = l.drop (b + 1) := by
  rw [← List.drop_drop, ← List.drop_drop, h]
theorem Inv.skip {l : List ByteArray} {p : ByteArray → Bool} {a b : Nat} {L : List ByteArray} (h : Inv l p a b L) (hb : b < l.length) (q : p l[b] = true) : Inv l p a (b + 1) L :=
  ⟨h.len, by rw [h.ahead, List.take_succ_eq_append_getElem hb, List.filter_append]; simp [q], drop_more h.rest, by have := h.fst; omega⟩
theorem Inv.keep {l : List ByteArray} {p : ByteArray → Bool} {a b : Nat} {L : List ByteArray} (h : Inv l p a b L) (hb : b < l.length) (q : p l[b] = false) : Inv l p (a + 1) (b + 1) (L.set a l[b]) := by
  have hf := h.fst
  have hl := h.len
  refine ⟨by simpa using hl, ?_, ?_, by omega⟩
  · rw [List.take_succ_eq_append_getElem (by rw [List.length_set]; omega), List.take_set_of_le (Nat.le_refl _), List.getElem_set_self, h.ahead, List.take_succ_eq_append_getElem hb, List.filter_append]
    simp [q]
  · rw [List.drop_set_of_lt (by omega)]
    exact drop_more h.rest
end Go.Proofs.YtcaeafgkogfgdaaGreatDoor

/- slices.DeleteFunc at texts, with a function that leaves what lay. -/
namespace Go.Proofs.YtcaeafgkogfgdaaGreatDoor
open Go Go.RowKit Go.Maps Cal
attribute [local go_sem] Oper.semAt_some

theorem Inv.start {l : List ByteArray} {p : ByteArray → Bool} {k : Nat} (hk : k < l.length) (q : p l[k] = true) (h : ∀ (j : Nat) (hj : j < l.length), j < k → p l[j] = false) : Inv l p k (k + 1) l := by
  refine ⟨rfl, ?_, rfl, Nat.lt_succ_self _⟩
  rw [List.take_succ_eq_append_getElem hk, List.filter_append]
  have : (l.take k).filter (fun x => !p x) = l.take k := by
    rw [List.filter_eq_self]
    intro x hx
    obtain ⟨j, hj, rfl⟩ := List.mem_iff_getElem.1 hx
    rw [List.length_take] at hj
    rw [List.getElem_take, h j (by omega) (by omega)]; rfl
  rw [this]
  simp [q]
theorem Inv.done {l : List ByteArray} {p : ByteArray → Bool} {a b : Nat} {L : List ByteArray} (h : Inv l p a b L) (hb : l.length ≤ b) : L.take a = l.filter fun x => !p x := by
  rw [h.ahead, List.take_of_length_le hb]

theorem zero_str : ∀ w : World, (zeroValue 9).run Tryz.prog w = .ok (.string ⟨#[]⟩) w := fun w => by kernel_rfl

set_option maxHeartbeats 2000000 in
set_option maxRecDepth 100000 in
theorem deleteFuncS_any (g : Nat) (lb : Array Value) (p : ByteArray → Bool) (l : List ByteArray) (B cap : Nat) (w : World) (hR : RowS w B cap l) (h8 : l.length ≤ 80000) (eg : ∀ args W, (callFunc g args).run Tryz.prog W = .ok (.enter g args) W)
    (hp : ∀ x ∈ l, ∀ (W : World), w.grownBy W (some B) → Calls Tryz.prog g (#[.string x] ++ lb) W fun r w' => r = .returned (.bool (p x)) ∧ Below W.heap.size W w') :
    Calls Tryz.prog 14 #[.slice (some ⟨B, 0, none⟩) l.length cap, .func (.func g) #[] lb] w fun r w' => r = .returned (.slice (some ⟨B, 0, none⟩) (l.filter fun x => !p x).length cap) ∧ RowS w' B cap (l.filter fun x => !p x) ∧ w.grownBy w' (some B) := by
  have IX : Hid (Calls _ _ _ _ _) := indexFuncS_any g lb p l B cap w hR h8 eg (fun x hx W hW => hp x hx W (grown_below hW _))
  have HC : Hid (_) := hR
  have HP : Hid (∀ x ∈ l, ∀ (W : World), w.grownBy W (some B) → Calls Tryz.prog g (#[.string x] ++ lb) W fun r w' => r = .returned (.bool (p x)) ∧ Below W.heap.size W w') := hp
  have hcap := hR.le
  clear hR hp
  go_enter Tryz.func14, Tryz.ntmps14
  go_upto_region 2 with (go_at_call 29; refine Calls.mono IX.out ?_; rintro r w1 ⟨hb1, ⟨rfl, hall⟩ | ⟨k, hk, rfl, hpk, hpj⟩⟩)
  · have HALL : Hid (∀ x ∈ l, p x = false) := hall
    clear hall
    go_wp2
    go_ret
    have e : (l.filter fun x => !p x) = l := by
      rw [List.filter_eq_self]
      intro x hx
      rw [HALL.out x hx]; rfl
    rw [e]
    exact ⟨rfl, HC.out.step hb1, grown_below hb1 _⟩
  · have HI : Hid (Inv l p k (k + 1) l) := Inv.start hk hpk hpj
    have HC1 : Hid (RowS w1 B cap l) := HC.out.step hb1
    have HG1 : Hid (w.grownBy w1 (some B)) := grown_below hb1 _
    obtain ⟨ki, hki⟩ : ∃ ki : Int, ki = (k : Int) := ⟨_, rfl⟩
    rw [← hki]
    have hk0 : 0 ≤ ki := by omega
    have hk1 : ki < 80000 := by omega
    have HKI : Hid (ki = (k : Int)) := hki
    clear hpk hpj IX HC hb1 hki
    have hq : (ki == -1) = false := by rw [beq_eq_false_iff_ne]; omega
    go_upto_region 4 with fail
    clear hq
    go_wp2
    go_loopw [5, 6, 7] (fun i j _ wr => ∃ (a b : Nat) (L : List ByteArray), i = .int .i64 a ∧ j = .int .i64 b ∧ a < b ∧ b ≤ l.length ∧ Hid (Inv l p a b L) ∧ Hid (RowS wr B cap L) ∧ Hid (w.grownBy wr (some B))) (fun _ j _ _ => l.length - (intOf j).toNat)
    case atStart => exact ⟨k, k + 1, l, by rw [HKI.out], by rw [HKI.out]; go_num, by omega, by omega, HI.out, HC1.out, HG1.out⟩
    case round =>
      obtain ⟨a, b, L, rfl, rfl, hab, hbl, HI, HRr, HGr⟩ := hrel
      clear HC1 HG1
      by_cases hlt : b < l.length
      · have cb := HRr.out.cell b (by rw [HI.out.len]; exact hlt)
        rw [HI.out.get hlt] at cb
        have hx := HP.out l[b] (List.getElem_mem hlt) wr HGr.out
        have HSK : Hid (p l[b] = true → Inv l p a (b + 1) L) := fun q => HI.out.skip hlt q
        have HKE : Hid (p l[b] = false → Inv l p (a + 1) (b + 1) (L.set a l[b])) := fun q => HI.out.keep hlt q
        have ha : a < L.length := by rw [HI.out.len]; omega
        clear HP HI
        generalize l[b] = x at cb hx HSK HKE
        have HX : Hid (_) := hx
        clear hx
        cases hpx : p x with
        | true =>
          have HI' : Hid (_) := HSK.out hpx
          have HX' := HX.out
          rw [hpx] at HX'
          have HX2 : Hid (Calls _ _ _ _ _) := HX'
          clear HX HX' HSK HKE
          go_wp2_with (go_at_fn g; refine Calls.mono HX2.out ?_; rintro r w2 ⟨rfl, hb2⟩)
          go_roundw
          case rel => exact ⟨a, b + 1, L, rfl, by go_num, by omega, by omega, HI'.out, HRr.out.step hb2, grown_then HGr.out (grown_below hb2 _)⟩
          case measure => simp [intOf]; omega
        | false =>
          have HI' : Hid (_) := HKE.out hpx
          have HX' := HX.out
          rw [hpx] at HX'
          have HX2 : Hid (Calls _ _ _ _ _) := HX'
          clear HX HX' HSK HKE
          go_wp2_with (go_at_fn g; refine Calls.mono HX2.out ?_; rintro r w2 ⟨rfl, hb2⟩; have HR2 : Hid (RowS w2 B cap L) := HRr.out.step hb2; have ca := HR2.out.cell a ha; have fa := HR2.out.cold a)
          go_roundw
          case rel => exact ⟨a + 1, b + 1, L.set a x, by go_num, by go_num, by omega, by omega, HI'.out, HR2.out.set a x, grown_then (grown_then HGr.out (grown_below hb2 _)) (grown_set w2 ⟨B, a, none⟩ _)⟩
          case measure => simp [intOf]; omega
      · have hcl : ∀ ty, (Builtin.clear_ #[26] ty #[.slice (some ⟨B, a, none⟩) (l.length - a) (cap - a)]).run Tryz.prog wr = .ok (.tuple #[]) (wr.setCells B a (List.replicate (l.length - a) (.string ⟨#[]⟩))) :=
          fun ty => Lib.run_clear_slice wr _ _ ty _ Tryz.underlying26 zero_str rfl rfl B a _ _ (by omega) (fun j hj => by rw [HRr.out.cell (a + j) (by rw [HI.out.len]; omega)]; rfl) (fun j hj => HRr.out.cold (a + j))
        have HDN : Hid (L.take a = l.filter fun x => !p x) := HI.out.done (by omega)
        have hla : (l.filter fun x => !p x).length = a := by
          rw [← HDN.out, List.length_take, HI.out.len]; omega
        have HLA : Hid ((l.filter fun x => !p x).length = a) := hla
        clear hla
        clear HP HI
        go_wp2
        go_ret
        refine ⟨by rw [HLA.out]; rfl, ?_, grown_then HGr.out (grown_sets B _ _ _)⟩
        have := (HRr.out.take a).fars (List.replicate (l.length - a) (.string ⟨#[]⟩)) a (by rw [List.length_take]; omega)
        rwa [HDN.out] at this

set_option maxHeartbeats 1000000 in
/-- nothing to drop -/
theorem deleteFuncS_nil (g : Nat) (lb : Array Value) (w : World) :
    Calls Tryz.prog 14 #[.slice none 0 0, .func (.func g) #[] lb] w fun r w' => r = .returned (.slice none 0 0) ∧ w' = w := by
  have IX : Hid (Calls Tryz.prog 29 #[.slice none 0 0, .func (.func g) #[] lb] w fun r w' => r = .returned (.int .i64 (-1)) ∧ w' = w) := by
    show Calls _ _ _ _ _
    go_enter Tryz.func29, Tryz.ntmps29
    go_wp2
    go_loopw [5, 8] (fun _ i wr => i = .int .i64 0 ∧ wr = w) (fun _ _ _ => 0)
    case atStart => exact ⟨rfl, rfl⟩
    case round =>
      obtain ⟨rfl, rfl⟩ := hrel
      go_wp2
      go_ret
      exact ⟨rfl, rfl⟩
  go_enter Tryz.func14, Tryz.ntmps14
  go_wp2_with (go_at_call 29; refine Calls.mono IX.out ?_; rintro r w1 ⟨rfl, rfl⟩)
  go_ret
  exact ⟨rfl, rfl⟩
end Go.Proofs.YtcaeafgkogfgdaaGreatDoor
