/- Package event's Covers: is a day within an event? -/
import Derived.Test.YtjhlbkjcchejjaaGreatDoorYaQ
import Derived.Stop.Asserts
import Derived.BigQuiet
import Derived.Deep.DeepCutAuto
import Derived.Test.YtjhlbkjcchejjaaGreatDoorYaG
import Derived.Test.YtjhlbkjcchejjaaGreatDoorYaH
import Derived.Deep.Slices
import Derived.Sort.Walk0
namespace Go.Proofs.YtjhlbkjcchejjaaGreatDoor
open Go Go.RowKit Cal
attribute [local go_sem] Oper.semAt_some

end Go.Proofs.YtjhlbkjcchejjaaGreatDoor

/- Package book's On. -/
namespace Go.Proofs.YtjhlbkjcchejjaaGreatDoor
open Go Go.RowKit Go.Maps Cal
attribute [local go_sem] Oper.semAt_some

theorem look1_eq {bb n : Nat} {mo : Option Nat} {D : DataW Value} {W : World} (h : Bok W bb mo n D) {id : ByteArray} (hid : id.size ≤ 1000) {u : Value} (hat : D.atKey (key id) (.held zV) = .held u) :
    (Instr.lookup 127 (.map mo) (.string id) false).run Tryz.prog W = .ok u W := by
  cases mo with
  | none =>
    have hD : D = .map [] := h.2
    subst hD
    have hu : zV = u := by
      have : (DataW.held zV : DataW Value) = .held u := hat
      cases this; rfl
    rw [← hu]
    exact Maps.look_nil false law Tryz.underlying127 (zeroE W) (key_of hid)
  | some mb =>
    obtain ⟨es, clock, hb, F, _, rfl⟩ := h.2.2
    rcases Maps.fit_look false law Tryz.underlying127 (zeroE W) hb F (key_of hid) with ⟨hrun, _, hq⟩ | ⟨e0, y, _, _, hrun, hRv, hq, _⟩
    · rw [hq] at hat
      have hu : zV = u := by cases hat; rfl
      rw [← hu]
      exact hrun
    · rw [hq] at hat
      have h1 := hld_inv hRv
      rw [hat] at h1
      have hu : e0.val = u := by cases h1; rfl
      rw [← hu]
      exact hrun

/-- a list of texts that a call gave -/
def RowV (base : Nat) (W : World) (v : Value) (l : List ByteArray) : Prop :=
  (v = .slice none 0 0 ∧ l = []) ∨ ∃ B cap, v = .slice (some ⟨B, 0, none⟩) l.length cap ∧ base ≤ B ∧ RowS W B cap l
theorem rowV_own {base : Nat} {W : World} {v : Value} {n : Nat} {xs : List (List UInt8)} (h : W.ownsRow base 9 1 v n (xs.map encStr)) : RowV base W v (xs.map bs) := by
  have hn : xs.length = n := by have := h.1; simpa using this
  rcases h.2 with ⟨rfl, h0⟩ | ⟨B, cap, cur, rfl, hb, hg, hcap, hmax, hsz, htake⟩
  · refine .inl ⟨rfl, ?_⟩
    rw [List.length_eq_zero_iff.1 (hn.trans h0)]; rfl
  · refine .inr ⟨B, cap, by rw [List.length_map, hn], hb, ⟨cur, hg, by omega, fun j hj => ?_⟩, by rw [List.length_map]; omega⟩
    rw [List.length_map] at hj
    have e := congrArg (fun z : List Value => z[j]?) htake
    simp only [List.getElem?_take, List.getElem?_map, Array.getElem?_toList] at e
    rw [if_pos (by omega), List.getElem?_eq_getElem hj] at e
    rw [e, List.getElem_map]; rfl
end Go.Proofs.YtjhlbkjcchejjaaGreatDoor

/- Package book's On. -/
namespace Go.Proofs.YtjhlbkjcchejjaaGreatDoor
open Go Go.RowKit Go.Maps Go.Sort Cal
attribute [local go_sem] Oper.semAt_some

theorem cell_of {W : World} {n : Nat} {v : Value} {t : TypeId} (h : W.heap[n]? = some (.cells #[v] t (0, 0))) : W.cell? ⟨n, 0, none⟩ = some v := by simp [World.cell?, h]

theorem RowV.base {a b : Nat} {W : World} {v : Value} {l : List ByteArray} (h : RowV b W v l) (hab : a ≤ b) : RowV a W v l := by
  rcases h with h | ⟨B, cap, h1, h2, h3⟩
  · exact .inl h
  · exact .inr ⟨B, cap, h1, Nat.le_trans hab h2, h3⟩

end Go.Proofs.YtjhlbkjcchejjaaGreatDoor

/- The document's IsInTexts and SameTexts. -/
namespace Go.Proofs.YtjhlbkjcchejjaaGreatDoor
open Go Go.RowKit Go.Maps Go.Sort Cal
attribute [local go_sem] Oper.semAt_some

/-- a list of texts, to be read -/
def Txs (W : World) (v : Value) (l : List ByteArray) : Prop :=
  ∃ (a : Option Addr) (c : Nat), v = .slice a l.length c ∧ l.length ≤ 80000 ∧ l.length ≤ c ∧
    ∀ (j : Nat) (h : j < l.length), ∃ b : Nat, a = some ⟨b, 0, none⟩ ∧ b < W.heap.size ∧ W.cell? ⟨b, j, none⟩ = some (.string l[j])
theorem Txs.step {w w' : World} {sl : Value} {xs : List ByteArray} (h : Txs w sl xs) (hb : Below w.heap.size w w') : Txs w' sl xs := by
  obtain ⟨a, c, h1, h2, h3, h4⟩ := h
  refine ⟨a, c, h1, h2, h3, fun j hj => ?_⟩
  obtain ⟨b, e, hl, hc⟩ := h4 j hj
  exact ⟨b, e, Nat.lt_of_lt_of_le hl hb.size, (hb.cell (p := ⟨b, j, none⟩) hl).trans hc⟩
theorem RowV.txs {base : Nat} {W : World} {v : Value} {l : List ByteArray} (h : RowV base W v l) (h8 : l.length ≤ 80000) : Txs W v l := by
  rcases h with ⟨rfl, rfl⟩ | ⟨B, cap, rfl, _, h3⟩
  · exact ⟨none, 0, rfl, by simp, by simp, fun j h => absurd h (by simp)⟩
  · exact ⟨_, cap, rfl, h8, h3.le, fun j hj => ⟨B, rfl, h3.lt, h3.cell j hj⟩⟩

theorem txt_ne {x y : ByteArray} (h : y ≠ x) : (y.toList == x.toList) = false := by
  rw [beq_eq_false_iff_ne, ByteArray.toList_eq, ByteArray.toList_eq]
  intro e
  apply h
  cases x; cases y
  simpa [Array.toList_inj] using e

set_option maxHeartbeats 1000000 in
/-- the law's small: an event that is once -/
theorem small_any (x : ByteArray) (d : Int) (w : World) : Calls Tryz.prog 47 #[.string x, .int .i64 d] w fun r w' => r = .returned (ev ⟨x, ⟨#[]⟩, d, 1, ⟨#[111, 110, 99, 101]⟩, 1, [], 0, -1, [], []⟩ (.slice none 0 0) (.slice none 0 0) (.slice none 0 0)) ∧ Below w.heap.size w w' := by
  unfold ev
  go_enter Tryz.func47, Tryz.ntmps47
  go_wp2
  have n10 := block_at (W := w) (.cells #[.string x, .string ⟨#[]⟩, .int .i64 d, .int .i64 1, .string ⟨#[111, 110, 99, 101]⟩, .int .i64 1, .slice none 0 0, .int .i64 0, .int .i64 (-1), .slice none 0 0, .slice none 0 0] 27) rfl
  obtain ⟨c0, c1, c2, c3, c4, c5, c6, c7, c8, c9, c10⟩ := blk11 n10
  refine bodyPost_ret (v := .agg #[.string x, .string ⟨#[]⟩, .int .i64 d, .int .i64 1, .string ⟨#[111, 110, 99, 101]⟩, .int .i64 1, .slice none 0 0, .int .i64 0, .int .i64 (-1), .slice none 0 0, .slice none 0 0]) (by simp [results, Tryz.f47, go_sem, c0, c1, c2, c3, c4, c5, c6, c7, c8, c9, c10]) rfl ⟨rfl, below_alloc _ _⟩
end Go.Proofs.YtjhlbkjcchejjaaGreatDoor

/- The law's booked: the closed calendar. -/
namespace Go.Proofs.YtjhlbkjcchejjaaGreatDoor
open Go Go.RowKit Go.Maps Go.Sort Cal
attribute [local go_sem] Oper.semAt_some

def E7 : EV := ⟨⟨#[97]⟩, ⟨#[]⟩, 7, 1, ⟨#[111, 110, 99, 101]⟩, 1, [], 0, -1, [], []⟩
theorem E7_well : EW E7 := by
  refine ⟨⟨fun j h => ?_, by decide, by decide⟩, ⟨fun j h => ?_, by decide⟩, ⟨by decide, by decide⟩, E0_rule, by decide⟩
  · have h' : j < 1 := h
    match j, h' with
    | 0, _ => show okc 97; left; decide
  · exact absurd h (Nat.not_lt_zero _)
def Z0 : EV := ⟨⟨#[]⟩, ⟨#[]⟩, 0, 0, ⟨#[]⟩, 0, [], 0, 0, [], []⟩
theorem E7_k : EvK E7 0 := by
  obtain ⟨k, hk⟩ := evK_ex E7
  have := (evK_0 hk).2 E7_well
  rwa [this] at hk
theorem kept_from {w W w' : World} {bb : Nat} {mo : Option Nat} (hb : Below w.heap.size w W) (h : Kept W w' bb mo) : Kept w w' bb mo :=
  ⟨h.os.trans hb.os, h.tape.trans hb.tape, h.output.trans hb.output, Nat.le_trans hb.size h.size, fun k hk h1 h2 => (h.block k (Nat.lt_of_lt_of_le hk hb.size) h1 h2).trans (hb.block k hk)⟩
theorem nilLs (w : World) : Ls w E7 (.slice none 0 0) (.slice none 0 0) (.slice none 0 0) := ⟨Days.nil _ _, Ints.nil _ _, Movs.nil _ _⟩
end Go.Proofs.YtjhlbkjcchejjaaGreatDoor

/- The law's booked. -/
namespace Go.Proofs.YtjhlbkjcchejjaaGreatDoor
open Go Go.RowKit Go.Maps Go.Sort Cal
attribute [local go_sem] Oper.semAt_some

end Go.Proofs.YtjhlbkjcchejjaaGreatDoor

/- A list of events as an argument; the law's LongEvents. -/
namespace Go.Proofs.YtjhlbkjcchejjaaGreatDoor
open Go Go.RowKit Go.Maps Cal
attribute [local go_sem] Oper.semAt_some

/-- an event's eleven cells, from place o of block b on -/
structure EvAt (W : World) (b o : Nat) (E : EV) (sl skv mvv : Value) : Prop where
  c0 : W.cell? ⟨b, o, none⟩ = some (.string E.id)
  c1 : W.cell? ⟨b, o + 1, none⟩ = some (.string E.ti)
  c2 : W.cell? ⟨b, o + 2, none⟩ = some (.int .i64 E.st)
  c3 : W.cell? ⟨b, o + 3, none⟩ = some (.int .i64 E.lg)
  c4 : W.cell? ⟨b, o + 4, none⟩ = some (.string E.f)
  c5 : W.cell? ⟨b, o + 5, none⟩ = some (.int .i64 E.e)
  c6 : W.cell? ⟨b, o + 6, none⟩ = some sl
  c7 : W.cell? ⟨b, o + 7, none⟩ = some (.int .i64 E.c)
  c8 : W.cell? ⟨b, o + 8, none⟩ = some (.int .i64 E.u)
  c9 : W.cell? ⟨b, o + 9, none⟩ = some skv
  c10 : W.cell? ⟨b, o + 10, none⟩ = some mvv
theorem EvAt.step {W W' : World} {b o : Nat} {E : EV} {sl skv mvv : Value} (h : EvAt W b o E sl skv mvv) (hb : Below W.heap.size W W') : EvAt W' b o E sl skv mvv :=
  ⟨cell_step h.c0 hb, cell_step h.c1 hb, cell_step h.c2 hb, cell_step h.c3 hb, cell_step h.c4 hb, cell_step h.c5 hb, cell_step h.c6 hb, cell_step h.c7 hb, cell_step h.c8 hb, cell_step h.c9 hb, cell_step h.c10 hb⟩
/-- an event's eleven cells, from any address on -/
structure EvA (W : World) (A : Addr) (E : EV) (sl skv mvv : Value) : Prop where
  c0 : W.cell? A = some (.string E.id)
  c1 : W.cell? ⟨A.block, A.off + 1, none⟩ = some (.string E.ti)
  c2 : W.cell? ⟨A.block, A.off + 2, none⟩ = some (.int .i64 E.st)
  c3 : W.cell? ⟨A.block, A.off + 3, none⟩ = some (.int .i64 E.lg)
  c4 : W.cell? ⟨A.block, A.off + 4, none⟩ = some (.string E.f)
  c5 : W.cell? ⟨A.block, A.off + 5, none⟩ = some (.int .i64 E.e)
  c6 : W.cell? ⟨A.block, A.off + 6, none⟩ = some sl
  c7 : W.cell? ⟨A.block, A.off + 7, none⟩ = some (.int .i64 E.c)
  c8 : W.cell? ⟨A.block, A.off + 8, none⟩ = some (.int .i64 E.u)
  c9 : W.cell? ⟨A.block, A.off + 9, none⟩ = some skv
  c10 : W.cell? ⟨A.block, A.off + 10, none⟩ = some mvv
theorem cellA_lt {W : World} {A : Addr} {u : Value} (h : W.cell? A = some u) : A.block < W.heap.size := by
  rcases Nat.lt_or_ge A.block W.heap.size with q | q
  · exact q
  · simp [World.cell?, Array.getElem?_eq_none q] at h
theorem cellA_step {W W' : World} {A : Addr} {u : Value} (h : W.cell? A = some u) (hb : Below W.heap.size W W') : W'.cell? A = some u := (World.cell?_of_block (a := A) (hb.block _ (cellA_lt h))).trans h
theorem EvA.step {W W' : World} {A : Addr} {E : EV} {sl skv mvv : Value} (h : EvA W A E sl skv mvv) (hb : Below W.heap.size W W') : EvA W' A E sl skv mvv :=
  ⟨cellA_step h.c0 hb, cellA_step h.c1 hb, cellA_step h.c2 hb, cellA_step h.c3 hb, cellA_step h.c4 hb, cellA_step h.c5 hb, cellA_step h.c6 hb, cellA_step h.c7 hb, cellA_step h.c8 hb, cellA_step h.c9 hb, cellA_step h.c10 hb⟩
/-- a list of events that was handed over: their lists may be as long as they are -/
def EvsL (W : World) (v : Value) (Es : List EV) : Prop :=
  ∃ (a : Option Addr) (c : Nat), v = .slice a Es.length c ∧ Es.length ≤ 1000000000000000 ∧ Es.length ≤ c ∧
    ∀ (j : Nat) (h : j < Es.length), ∃ ad : Addr, a = some ad ∧ Es[j].sk.length ≤ 1000000000000000 ∧ Es[j].mv.length ≤ 1000000000000000 ∧ Es[j].ti.size ≤ 1000000000000000 ∧ ∃ ra rc sa sc ma mc, EvA W (ad.add (j * 11)) Es[j] (.slice ra Es[j].ds.length rc) (.slice sa Es[j].sk.length sc) (.slice ma Es[j].mv.length mc) ∧
      Got W (.slice ra Es[j].ds.length rc) Es[j].ds ∧ Got W (.slice sa Es[j].sk.length sc) Es[j].sk ∧ GotM W (.slice ma Es[j].mv.length mc) Es[j].mv
theorem EvsL.step {W W' : World} {v : Value} {Es : List EV} (h : EvsL W v Es) (hb : Below W.heap.size W W') : EvsL W' v Es := by
  obtain ⟨a, c, h1, h2, h3, h4⟩ := h
  refine ⟨a, c, h1, h2, h3, fun j hj => ?_⟩
  obtain ⟨ad, q1, q2, q3, q4, ra, rc, sa, sc, ma, mc, q5, q6, q7, q8⟩ := h4 j hj
  exact ⟨ad, q1, q2, q3, q4, ra, rc, sa, sc, ma, mc, q5.step hb, q6.step hb, q7.step hb, q8.step hb⟩

theorem lng_01 (E : EV) : lngE E = 0 ∨ lngE E = 1 := by
  unfold lngE
  split
  · exact .inr rfl
  · exact .inl rfl

set_option maxHeartbeats 4000000 in
set_option maxRecDepth 100000 in
theorem longEvents_any (Es : List EV) (v : Value) (w : World) (h : EvsL w v Es) :
    Calls Tryz.prog 17 #[v] w fun r w' => ∃ k : Int, r = .returned (.int .i64 k) ∧ (k = 1 ∨ (k = 0 ∧ Es.length ≤ 70 ∧ ∀ E ∈ Es, lngE E = 0)) ∧ Below w.heap.size w w' := by
  obtain ⟨a, cap, rfl, hl, hcap, hc⟩ := h
  have HC : Hid (_) := hc
  clear hc
  by_cases h70 : 70 < Es.length
  · go_enter Tryz.func17, Tryz.ntmps17
    go_wp2
    go_ret
    exact ⟨1, rfl, .inl rfl, Below.refl _ _⟩
  · go_enter Tryz.func17, Tryz.ntmps17
    go_wp2
    go_loopw [3, 4] (fun n i wr => ∃ (m : Nat) (t : Int), m ≤ Es.length ∧ i = .int .i64 m ∧ n = .int .i64 t ∧ 0 ≤ t ∧ t ≤ 1500 ∧ Hid (Below w.heap.size w wr) ∧ Hid (∀ (j : Nat) (h : j < Es.length), j < m → lngE Es[j] = 0)) (fun _ i _ => Es.length - (intOf i).toNat)
    case atStart => exact ⟨0, 0, Nat.zero_le _, rfl, rfl, by omega, by omega, Below.refl _ _, fun j _ h => absurd h (Nat.not_lt_zero _)⟩
    case round =>
      obtain ⟨m, t, hm, rfl, rfl, ht0, ht1, hB, HA⟩ := hrel
      by_cases hlt : m < Es.length
      · obtain ⟨ad, rfl, k1, k2, k3, ra, rc, sa, sc, ma, mc, hE, _, _, _⟩ := HC.out m hlt
        have HN : Hid (lngE Es[m] = 0 → ∀ (j : Nat) (h : j < Es.length), j < m + 1 → lngE Es[j] = 0) := fun q j hj hjk => by
          by_cases ej : j = m
          · subst ej; exact q
          · exact HA.out j hj (by omega)
        have LE : Hid (∀ W, Calls Tryz.prog 7 #[ev Es[m] (.slice ra Es[m].ds.length rc) (.slice sa Es[m].sk.length sc) (.slice ma Es[m].mv.length mc)] W fun r w' => r = .returned (.int .i64 (lngE Es[m])) ∧ Below W.heap.size W w') := fun W => longEvent_any _ _ _ _ _ _ _ W
        have hE2 := hE.step hB.out
        clear HA HC hE
        generalize Es[m] = E at k1 k2 k3 hE2 HN LE
        obtain ⟨x0, x1, x2, x3, x4, x5, x6, x7, x8, x9, x10⟩ := hE2
        unfold ev at LE
        go_wp2_with fail
        go_quiet (fail)
        rcases lng_01 E with hz | hz
        · have HN' : Hid (_) := HN.out hz
          rw [hz] at LE
          clear HN hz
          by_cases hs : (1500 : Int) < t + (E.sk.length : Int) + (E.mv.length : Int) + (E.ti.size : Int)
          · go_wp2_with (go_at_call 7; refine Calls.mono (LE.out _) ?_; rintro r w5 ⟨rfl, hb5⟩)
            go_ret
            exact ⟨1, rfl, .inl rfl, below_then (below_then hB.out (drewN_below _ _)) hb5⟩
          · go_wp2_with (go_at_call 7; refine Calls.mono (LE.out _) ?_; rintro r w5 ⟨rfl, hb5⟩)
            go_roundw
            case rel => exact ⟨m + 1, t + (E.sk.length : Int) + (E.mv.length : Int) + (E.ti.size : Int), by omega, by go_num, by go_num, by omega, by omega, below_then (below_then hB.out (drewN_below _ _)) hb5, HN'.out⟩
            case measure => simp [intOf]; omega
        · rw [hz] at LE
          clear HN hz
          go_wp2_with (go_at_call 7; refine Calls.mono (LE.out _) ?_; rintro r w5 ⟨rfl, hb5⟩)
          go_ret
          exact ⟨1, rfl, .inl rfl, below_then (below_then hB.out (drewN_below _ _)) hb5⟩
      · have HR : Hid (∀ E ∈ Es, lngE E = 0) := fun E hE => by
          obtain ⟨j, hj, rfl⟩ := List.mem_iff_getElem.1 hE
          exact HA.out j hj (by omega)
        clear HA HC
        go_wp2
        go_ret
        exact ⟨0, rfl, .inr ⟨rfl, by omega, HR.out⟩, hB.out⟩
end Go.Proofs.YtjhlbkjcchejjaaGreatDoor

/- A list of events as an argument, opened. -/
namespace Go.Proofs.YtjhlbkjcchejjaaGreatDoor
open Go.ChangeShapes Go.WideShapes Go.ChangeAt Go.RowKit Cal

section
variable {H : Type} {enc : TypeId × Value → H} {W : World}
theorem bInt : Tryz.prog.bytesOf 3 = 8 := by kernel_rfl
theorem bMove : Tryz.prog.bytesOf 72 = 16 := by kernel_rfl
theorem bEvent : Tryz.prog.bytesOf 27 = 160 := by kernel_rfl
theorem weights_all {P : Program} {e : TypeId} : ∀ {l : List (DataW H)} {d : DataW H}, d ∈ l → ∀ n ∈ d.weights P e, n ∈ DataW.weightsAll P e l
  | x :: r, d, hd, n, hn => by
    rw [DataW.weightsAll, List.mem_append]
    rcases List.mem_cons.1 hd with rfl | hd
    · exact .inl hn
    · exact .inr (weights_all hd n hn)
  | [], _, hd, _, _ => absurd hd (by simp)
/-- a slice's length, by its weight -/
theorem slice_len {t e : TypeId} {fuel : Nat} {a : Option Addr} {n c : Nat} {x : DataW H × List MemPlace} (ht : Tryz.prog.underlying t = some (.slice e)) (hb : 1 ≤ Tryz.prog.bytesOf e)
    (h : DataW.trod enc Tryz.prog W 0 (fun _ => true) true fuel t [.slice a n c] = some x) (hw : ∀ k ∈ x.1.weights Tryz.prog t, k ≤ reachBytes) : n ≤ 1000000000000000 := by
  rcases Deep.open_slice ht h with ⟨e1, _⟩ | ⟨a', len, cap, m, k, D, Pl, e1, _, hlc, _, _, rfl, _⟩
  · cases e1; omega
  · cases e1
    have h1 := hw _ (show (((List.range n).map D).length + ((List.range (m - n)).map fun j => D (n + j)).length) * Tryz.prog.bytesOf e ∈ _ by simp [DataW.weights, ht])
    have h2 : n ≤ (((List.range n).map D).length + ((List.range (m - n)).map fun j => D (n + j)).length) * Tryz.prog.bytesOf e := by
      rw [List.length_map, List.length_range]
      exact Nat.le_trans (Nat.le_add_right _ _) (Nat.le_mul_of_pos_right _ hb)
    have h3 := reachBytes_lt
    omega

set_option maxRecDepth 100000 in
/-- an event of eleven cells: its parts, and their lengths -/
theorem open_event_cells {fuel : Nat} {c0 c1 c2 c3 c4 c5 c6 c7 c8 c9 c10 : Value} {x : DataW H × List MemPlace}
    (hf : DataW.trod enc Tryz.prog W 0 (fun _ => true) true fuel 27 [c0, c1, c2, c3, c4, c5, c6, c7, c8, c9, c10] = some x) (hw : ∀ k ∈ x.1.weights Tryz.prog 27, k ≤ reachBytes) :
    ∃ (E : EV) (ra : Option Addr) (rc : Nat) (sa : Option Addr) (sc : Nat) (ma : Option Addr) (mc : Nat), [c0, c1, c2, c3, c4, c5, c6, c7, c8, c9, c10] = [.string E.id, .string E.ti, .int .i64 E.st, .int .i64 E.lg, .string E.f, .int .i64 E.e, .slice ra E.ds.length rc, .int .i64 E.c, .int .i64 E.u, .slice sa E.sk.length sc, .slice ma E.mv.length mc] ∧
      Got W (.slice ra E.ds.length rc) E.ds ∧ Got W (.slice sa E.sk.length sc) E.sk ∧ GotM W (.slice ma E.mv.length mc) E.mv ∧ E.sk.length ≤ 1000000000000000 ∧ E.mv.length ≤ 1000000000000000 ∧ E.ti.size ≤ 1000000000000000 := by
  obtain ⟨xs, n, _, hx, hl, hlen, hfl⟩ := DataW.trod_struct Tryz.underlying27 hf
  have h0 := hfl 0 _ rfl
  have h1 := hfl 1 _ rfl
  have h2 := hfl 2 _ rfl
  have h3 := hfl 3 _ rfl
  have h4 := hfl 4 _ rfl
  have h5 := hfl 5 _ rfl
  have h6 := hfl 6 _ rfl
  match xs, hlen with
  | [y0, y1, y2, y3, y4, y5, y6], _ =>
  have hwt : x.1.weights Tryz.prog 27 = DataW.weightsEach Tryz.prog [9, 9, 3, 3, 24, 22, 25] [y0.1, y1.1, y2.1, y3.1, y4.1, y5.1, y6.1] := by
    rw [hx]
    simp [DataW.weights, Tryz.underlying27]
  have w1 : ∀ k ∈ y1.1.weights Tryz.prog 9, k ≤ reachBytes := fun k hk => hw k (by rw [hwt]; exact DataW.weights_mem_each (j := 1) rfl rfl k hk)
  have w5 : ∀ k ∈ y5.1.weights Tryz.prog 22, k ≤ reachBytes := fun k hk => hw k (by rw [hwt]; exact DataW.weights_mem_each (j := 5) rfl rfl k hk)
  have w6 : ∀ k ∈ y6.1.weights Tryz.prog 25, k ≤ reachBytes := fun k hk => hw k (by rw [hwt]; exact DataW.weights_mem_each (j := 6) rfl rfl k hk)
  simp [cStr, cInt, cInts, cRule, cMoves] at h0 h1 h2 h3 h4 h5 h6
  obtain ⟨xs', n', _, _, hl', hlen', hfl'⟩ := DataW.trod_struct Tryz.underlying24 h4
  have k0 := hfl' 0 _ rfl
  have k1 := hfl' 1 _ rfl
  have k2 := hfl' 2 _ rfl
  have k3 := hfl' 3 _ rfl
  have k4 := hfl' 4 _ rfl
  match xs', hlen' with
  | [z0, z1, z2, z3, z4], _ =>
  simp [cStr, cInt, cInts] at k0 k1 k2 k3 k4
  obtain ⟨id, e0, _, _⟩ := DataW.trod_string Tryz.underlying9 h0
  obtain ⟨ti, e1, ey1, _⟩ := DataW.trod_string Tryz.underlying9 h1
  obtain ⟨st, e2, _, _⟩ := DataW.trod_int Tryz.underlying3 h2
  obtain ⟨lg, e3, _, _⟩ := DataW.trod_int Tryz.underlying3 h3
  obtain ⟨f, g0, _, _⟩ := DataW.trod_string Tryz.underlying9 k0
  obtain ⟨e, g1, _, _⟩ := DataW.trod_int Tryz.underlying3 k1
  obtain ⟨c, g3, _, _⟩ := DataW.trod_int Tryz.underlying3 k3
  obtain ⟨u, g4, _, _⟩ := DataW.trod_int Tryz.underlying3 k4
  obtain ⟨ds, D⟩ := open_got k2
  obtain ⟨sk, S⟩ := open_got h5
  obtain ⟨mv, M⟩ := open_gotM h6
  cases e0
  cases e1
  cases e2
  cases e3
  cases g0
  cases g1
  cases g3
  cases g4
  obtain ⟨ra, rc, rfl, D'⟩ := D
  obtain ⟨sa, sc, rfl, S'⟩ := S
  obtain ⟨ma, mc, rfl, M'⟩ := M
  have b5 := slice_len Tryz.underlying22 (by rw [bInt]; decide) h5 w5
  have b6 := slice_len Tryz.underlying25 (by rw [bMove]; decide) h6 w6
  have b1 : ti.size ≤ 1000000000000000 := by
    have h1 := w1 ti.data.toList.length (by rw [ey1]; simp [DataW.weights])
    have h3 := reachBytes_lt
    have h2 : ti.data.toList.length = ti.size := by simp
    omega
  exact ⟨⟨id, ti, st, lg, f, e, ds, c, u, sk, mv⟩, ra, rc, sa, sc, ma, mc, rfl, ⟨_, _, rfl, D'⟩, ⟨_, _, rfl, S'⟩, ⟨_, _, rfl, M'⟩, b5, b6, b1⟩

instance : Inhabited EV := ⟨⟨⟨#[]⟩, ⟨#[]⟩, 0, 0, ⟨#[]⟩, 0, [], 0, 0, [], []⟩⟩
theorem eleven {l : List Value} (h : l.length = 11) : ∃ c0 c1 c2 c3 c4 c5 c6 c7 c8 c9 c10, l = [c0, c1, c2, c3, c4, c5, c6, c7, c8, c9, c10] := by
  match l, h with
  | [a, b, c, d, e, f, g, h, i, j, k], _ => exact ⟨a, b, c, d, e, f, g, h, i, j, k, rfl⟩
theorem add_blk (a : Addr) (k : Nat) (hk : k ≠ 0) : a.add k = ⟨a.block, a.off + k, none⟩ := by
  unfold Addr.add
  rw [if_neg hk]

set_option maxRecDepth 100000 in
/-- a list of events that was handed over -/
theorem open_events {fuel : Nat} {v : Value} {x : DataW H × List MemPlace} (h : DataW.trod enc Tryz.prog W 0 (fun _ => true) true fuel 42 [v] = some x) (hw : ∀ k ∈ x.1.weights Tryz.prog 42, k ≤ reachBytes) : ∃ Es : List EV, EvsL W v Es := by
  have h' := h
  rcases Deep.open_slice Tryz.underlying42 h with ⟨e1, _⟩ | ⟨a, len, cap, m, n, D, Pl, e1, _, hlc, _, hm, hx, he⟩
  · cases e1
    exact ⟨[], none, 0, rfl, by simp, by simp, fun j hj => absurd hj (by simp)⟩
  · cases e1
    have hbl := slice_len Tryz.underlying42 (by rw [bEvent]; decide) h' hw
    have hm' : m = cap := by simpa using hm
    have each : ∀ i, i < len → ∃ E : EV, E.sk.length ≤ 1000000000000000 ∧ E.mv.length ≤ 1000000000000000 ∧ E.ti.size ≤ 1000000000000000 ∧ ∃ ra rc sa sc ma mc, EvA W (a.add (i * 11)) E (.slice ra E.ds.length rc) (.slice sa E.sk.length sc) (.slice ma E.mv.length mc) ∧
        Got W (.slice ra E.ds.length rc) E.ds ∧ Got W (.slice sa E.sk.length sc) E.sk ∧ GotM W (.slice ma E.mv.length mc) E.mv := by
      intro i hi
      obtain ⟨cs, q1, q2⟩ := he i (by omega)
      rw [cEvent] at q1
      obtain ⟨_, hlen, hcell⟩ := World.cells?_some q1
      obtain ⟨c0, c1, c2, c3, c4, c5, c6, c7, c8, c9, c10, rfl⟩ := eleven hlen
      have hwi : ∀ k ∈ (D i).weights Tryz.prog 27, k ≤ reachBytes := fun k hk => hw k (by
        rw [hx]
        simp only [DataW.weights, Tryz.underlying42, List.mem_cons, List.mem_append]
        exact .inr (.inl (weights_all (List.mem_map.2 ⟨i, List.mem_range.2 hi, rfl⟩) k hk)))
      obtain ⟨E, ra, rc, sa, sc, ma, mc, hc, d1, d2, d3, b1, b2, b3⟩ := open_event_cells q2 hwi
      have A : ∀ k, k < 11 → k ≠ 0 → W.cell? ⟨(a.add (i * 11)).block, (a.add (i * 11)).off + k, none⟩ = [c0, c1, c2, c3, c4, c5, c6, c7, c8, c9, c10][k]? := fun k hk h0 => by
        rw [← add_blk _ _ h0, hcell k hk]
      have A0 : W.cell? (a.add (i * 11)) = [c0, c1, c2, c3, c4, c5, c6, c7, c8, c9, c10][0]? := by
        have := hcell 0 (by decide)
        rwa [show (a.add (i * 11)).add 0 = a.add (i * 11) from rfl] at this
      rw [hc] at A0
      refine ⟨E, b1, b2, b3, ra, rc, sa, sc, ma, mc, ⟨A0, ?_, ?_, ?_, ?_, ?_, ?_, ?_, ?_, ?_, ?_⟩, d1, d2, d3⟩
      · have := A 1 (by decide) (by decide); rwa [hc] at this
      · have := A 2 (by decide) (by decide); rwa [hc] at this
      · have := A 3 (by decide) (by decide); rwa [hc] at this
      · have := A 4 (by decide) (by decide); rwa [hc] at this
      · have := A 5 (by decide) (by decide); rwa [hc] at this
      · have := A 6 (by decide) (by decide); rwa [hc] at this
      · have := A 7 (by decide) (by decide); rwa [hc] at this
      · have := A 8 (by decide) (by decide); rwa [hc] at this
      · have := A 9 (by decide) (by decide); rwa [hc] at this
      · have := A 10 (by decide) (by decide); rwa [hc] at this
    obtain ⟨q, hq⟩ := Deep.choose_lt each
    refine ⟨(List.range len).map q, some a, cap, by simp, by simpa using hbl, by simpa using hlc, fun j hj => ?_⟩
    have hj' : j < len := by simpa using hj
    have e5 : ((List.range len).map q)[j] = q j := by simp
    obtain ⟨b1, b2, b3, ra, rc, sa, sc, ma, mc, hA, d1, d2, d3⟩ := hq j hj'
    rw [e5]
    exact ⟨a, rfl, b1, b2, b3, ra, rc, sa, sc, ma, mc, hA, d1, d2, d3⟩
end
end Go.Proofs.YtjhlbkjcchejjaaGreatDoor

/- Calendars in plain words: events, rising by their IDs; what a book's map then holds. -/
namespace Go.Proofs.YtjhlbkjcchejjaaGreatDoor
open Go Go.RowKit Go.Maps Go.Sort Cal

/-- an ID's bytes -/
def kb (E : EV) : List UInt8 := E.id.data.toList
theorem id_eq {a b : ByteArray} (h : a.data.toList = b.data.toList) : a = b := by
  cases a; cases b
  simpa [Array.toList_inj] using h
theorem kb_inj {E F : EV} (h : kb E = kb F) : E.id = F.id := id_eq h
def ltE (E F : EV) : Bool := Op.bytesLess E.id.toList F.id.toList
theorem ltE_eq (E F : EV) : ltE E F = decide (kb E < kb F) := by
  unfold ltE kb
  rw [bytesLess_eq, ByteArray.toList_eq, ByteArray.toList_eq]
theorem lt_of_not {x y : List UInt8} (h : ¬ x < y) (hne : y ≠ x) : y < x := by
  by_cases q : y < x
  · exact q
  · exact absurd (List.le_antisymm (List.not_lt.1 h) (List.not_lt.1 q)) hne

/-- E put in ahead of the first one that it stands ahead of -/
def insE (E : EV) : List EV → List EV
  | [] => [E]
  | F :: r => if ltE E F then E :: F :: r else F :: insE E r
def woC (id : ByteArray) (C : List EV) : List EV := C.filter fun F => decide (F.id ≠ id)
def putC (E : EV) (C : List EV) : List EV := insE E (woC E.id C)
/-- they rise -/
def Rises (C : List EV) : Prop := C.Pairwise fun a b => kb a < kb b

theorem insE_mem {E F : EV} : ∀ {C : List EV}, F ∈ insE E C ↔ F = E ∨ F ∈ C
  | [] => by simp [insE]
  | Y :: r => by
    unfold insE
    split
    · simp
    · rw [List.mem_cons, insE_mem, List.mem_cons]
      constructor
      · rintro (h | h | h)
        · exact .inr (.inl h)
        · exact .inl h
        · exact .inr (.inr h)
      · rintro (h | h | h)
        · exact .inr (.inl h)
        · exact .inl h
        · exact .inr (.inr h)
theorem insE_len (E : EV) : ∀ C : List EV, (insE E C).length = C.length + 1
  | [] => rfl
  | Y :: r => by
    unfold insE
    split
    · rfl
    · rw [List.length_cons, insE_len E r]; rfl
theorem insE_rises {E : EV} : ∀ {C : List EV}, Rises C → (∀ F ∈ C, F.id ≠ E.id) → Rises (insE E C)
  | [], _, _ => List.pairwise_singleton _ _
  | Y :: r, h, hn => by
    obtain ⟨h1, h2⟩ := List.pairwise_cons.1 h
    unfold insE
    split
    · rename_i hlt
      rw [ltE_eq, decide_eq_true_iff] at hlt
      refine List.pairwise_cons.2 ⟨fun F hF => ?_, h⟩
      rcases List.mem_cons.1 hF with rfl | hF
      · exact hlt
      · exact List.lt_trans hlt (h1 F hF)
    · rename_i hlt
      rw [ltE_eq, decide_eq_true_iff] at hlt
      have hYE : kb Y < kb E := lt_of_not hlt (fun q => hn Y (List.mem_cons_self) (kb_inj q))
      refine List.pairwise_cons.2 ⟨fun F hF => ?_, insE_rises h2 (fun F hF => hn F (List.mem_cons_of_mem _ hF))⟩
      rcases insE_mem.1 hF with rfl | hF
      · exact hYE
      · exact h1 F hF
theorem woC_mem {id : ByteArray} {C : List EV} {F : EV} : F ∈ woC id C ↔ F ∈ C ∧ F.id ≠ id := by
  unfold woC
  rw [List.mem_filter, decide_eq_true_iff]
theorem woC_rises {id : ByteArray} {C : List EV} (h : Rises C) : Rises (woC id C) := h.filter _
theorem putC_mem {E : EV} {C : List EV} {F : EV} : F ∈ putC E C ↔ F = E ∨ (F ∈ C ∧ F.id ≠ E.id) := by
  unfold putC
  rw [insE_mem, woC_mem]
theorem putC_rises {E : EV} {C : List EV} (h : Rises C) : Rises (putC E C) := insE_rises (woC_rises h) (fun _ hF => (woC_mem.1 hF).2)
theorem Rises.uniq {C : List EV} (h : Rises C) {E F : EV} (hE : E ∈ C) (hF : F ∈ C) (e : E.id = F.id) : E = F := by
  induction C with
  | nil => cases hE
  | cons Y r ih =>
    obtain ⟨h1, h2⟩ := List.pairwise_cons.1 h
    have hk : kb E = kb F := by unfold kb; rw [e]
    rcases List.mem_cons.1 hE with rfl | hE' <;> rcases List.mem_cons.1 hF with rfl | hF'
    · rfl
    · exact absurd (h1 F hF') (by rw [hk]; exact List.lt_irrefl _)
    · exact absurd (h1 E hE') (by rw [hk]; exact List.lt_irrefl _)
    · exact ih h2 hE' hF'
theorem woC_same {id : ByteArray} {C : List EV} (h : ∀ F ∈ C, F.id ≠ id) : woC id C = C := by
  unfold woC
  rw [List.filter_eq_self]
  exact fun F hF => decide_eq_true (h F hF)
theorem woC_len {E : EV} {C : List EV} (h : Rises C) (hE : E ∈ C) : (woC E.id C).length + 1 = C.length := by
  induction C with
  | nil => cases hE
  | cons Y r ih =>
    obtain ⟨h1, h2⟩ := List.pairwise_cons.1 h
    by_cases e : Y.id = E.id
    · have hr : woC E.id r = r := woC_same (fun F hF q => by
        have := h1 F hF
        unfold kb at this
        rw [e, q] at this
        exact List.lt_irrefl _ this)
      have : woC E.id (Y :: r) = woC E.id r := by unfold woC; rw [List.filter_cons_of_neg]; simp [e]
      rw [this, hr]; rfl
    · have hE' : E ∈ r := by
        rcases List.mem_cons.1 hE with rfl | q
        · exact absurd rfl e
        · exact q
      have : woC E.id (Y :: r) = Y :: woC E.id r := by unfold woC; rw [List.filter_cons_of_pos]; simp [e]
      rw [this, List.length_cons, ih h2 hE']; rfl

/-- what a book's map holds: an event of C for each ID, its lists off the blocks of N -/
structure Holds (N : Nat → Prop) (W : World) (D : DataW Value) (C : List EV) : Prop where
  up : Rises C
  tidy : Tidy D
  size : Maps.size D = C.length
  has : ∀ x : List UInt8, Maps.has D (.string x) = true ↔ ∃ E ∈ C, kb E = x
  at_ : ∀ E ∈ C, (EW E ∧ E.ds.length ≤ 20) ∧ ∃ sl skv mvv, D.atKey (key E.id) (.held zV) = .held (ev E sl skv mvv) ∧ Off N W E sl skv mvv
theorem Holds.none (N : Nat → Prop) (W : World) : Holds N W (.map []) [] :=
  ⟨List.Pairwise.nil, ⟨[], rfl, List.Pairwise.nil⟩, rfl, fun x => by simp [has_eq], fun E h => absurd h (by simp)⟩
end Go.Proofs.YtjhlbkjcchejjaaGreatDoor
