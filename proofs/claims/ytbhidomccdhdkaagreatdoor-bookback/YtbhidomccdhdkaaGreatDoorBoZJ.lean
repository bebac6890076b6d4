/- A list of events as an argument; the law's LongEvents. -/
import Derived.Test.YtbhidomccdhdkaaGreatDoorJaF
import Derived.BigQuiet
namespace Go.Proofs.YtbhidomccdhdkaaGreatDoor
open Go Go.RowKit Go.Maps Cal
attribute [local go_sem] Oper.semAt_some

/-- an event's eleven cells, from place o of block b on -/
structure EvAt (W : World) (b o : Nat) (E : EV) (sl skv mvv : Value) : Prop where
  c0 : W.cell? ⟨b, o, none⟩ = some (.string E.id)
  c1 : W.cell? ⟨b, o + 1, none⟩ = some (.string E.ti)
  c2 : W.cell? ⟨b, o + 2, none⟩ = some (.int .i64 E.st)
  c3 : W.cell? ⟨b, o + 3, none⟩ = some (.int .i64 E.lg)
  c4 : W.cell? ⟨b, o + 4, none⟩ = some (.string E.f)
  c5 : W.cell? ⟨b, o + 5, none⟩ = some (.int .i64 E.e)
  c6 : W.cell? ⟨b, o + 6, none⟩ = some sl
  c7 : W.cell? ⟨b, o + 7, none⟩ = some (.int .i64 E.c)
  c8 : W.cell? ⟨b, o + 8, none⟩ = some (.int .i64 E.u)
  c9 : W.cell? ⟨b, o + 9, none⟩ = some skv
  c10 : W.cell? ⟨b, o + 10, none⟩ = some mvv
theorem EvAt.step {W W' : World} {b o : Nat} {E : EV} {sl skv mvv : Value} (h : EvAt W b o E sl skv mvv) (hb : Below W.heap.size W W') : EvAt W' b o E sl skv mvv :=
  ⟨cell_step h.c0 hb, cell_step h.c1 hb, cell_step h.c2 hb, cell_step h.c3 hb, cell_step h.c4 hb, cell_step h.c5 hb, cell_step h.c6 hb, cell_step h.c7 hb, cell_step h.c8 hb, cell_step h.c9 hb, cell_step h.c10 hb⟩
/-- an event's eleven cells, from any address on -/
structure EvA (W : World) (A : Addr) (E : EV) (sl skv mvv : Value) : Prop where
  c0 : W.cell? A = some (.string E.id)
  c1 : W.cell? ⟨A.block, A.off + 1, none⟩ = some (.string E.ti)
  c2 : W.cell? ⟨A.block, A.off + 2, none⟩ = some (.int .i64 E.st)
  c3 : W.cell? ⟨A.block, A.off + 3, none⟩ = some (.int .i64 E.lg)
  c4 : W.cell? ⟨A.block, A.off + 4, none⟩ = some (.string E.f)
  c5 : W.cell? ⟨A.block, A.off + 5, none⟩ = some (.int .i64 E.e)
  c6 : W.cell? ⟨A.block, A.off + 6, none⟩ = some sl
  c7 : W.cell? ⟨A.block, A.off + 7, none⟩ = some (.int .i64 E.c)
  c8 : W.cell? ⟨A.block, A.off + 8, none⟩ = some (.int .i64 E.u)
  c9 : W.cell? ⟨A.block, A.off + 9, none⟩ = some skv
  c10 : W.cell? ⟨A.block, A.off + 10, none⟩ = some mvv
theorem cellA_lt {W : World} {A : Addr} {u : Value} (h : W.cell? A = some u) : A.block < W.heap.size := by
  rcases Nat.lt_or_ge A.block W.heap.size with q | q
  · exact q
  · simp [World.cell?, Array.getElem?_eq_none q] at h
theorem cellA_step {W W' : World} {A : Addr} {u : Value} (h : W.cell? A = some u) (hb : Below W.heap.size W W') : W'.cell? A = some u := (World.cell?_of_block (a := A) (hb.block _ (cellA_lt h))).trans h
theorem EvA.step {W W' : World} {A : Addr} {E : EV} {sl skv mvv : Value} (h : EvA W A E sl skv mvv) (hb : Below W.heap.size W W') : EvA W' A E sl skv mvv :=
  ⟨cellA_step h.c0 hb, cellA_step h.c1 hb, cellA_step h.c2 hb, cellA_step h.c3 hb, cellA_step h.c4 hb, cellA_step h.c5 hb, cellA_step h.c6 hb, cellA_step h.c7 hb, cellA_step h.c8 hb, cellA_step h.c9 hb, cellA_step h.c10 hb⟩
/-- a list of events that was handed over: their lists may be as long as they are -/
def EvsL (W : World) (v : Value) (Es : List EV) : Prop :=
  ∃ (a : Option Addr) (c : Nat), v = .slice a Es.length c ∧ Es.length ≤ 1000000000000000 ∧ Es.length ≤ c ∧
    ∀ (j : Nat) (h : j < Es.length), ∃ ad : Addr, a = some ad ∧ Es[j].sk.length ≤ 1000000000000000 ∧ Es[j].mv.length ≤ 1000000000000000 ∧ Es[j].ti.size ≤ 1000000000000000 ∧ ∃ ra rc sa sc ma mc, EvA W (ad.add (j * 11)) Es[j] (.slice ra Es[j].ds.length rc) (.slice sa Es[j].sk.length sc) (.slice ma Es[j].mv.length mc) ∧
      Got W (.slice ra Es[j].ds.length rc) Es[j].ds ∧ Got W (.slice sa Es[j].sk.length sc) Es[j].sk ∧ GotM W (.slice ma Es[j].mv.length mc) Es[j].mv
theorem EvsL.step {W W' : World} {v : Value} {Es : List EV} (h : EvsL W v Es) (hb : Below W.heap.size W W') : EvsL W' v Es := by
  obtain ⟨a, c, h1, h2, h3, h4⟩ := h
  refine ⟨a, c, h1, h2, h3, fun j hj => ?_⟩
  obtain ⟨ad, q1, q2, q3, q4, ra, rc, sa, sc, ma, mc, q5, q6, q7, q8⟩ := h4 j hj
  exact ⟨ad, q1, q2, q3, q4, ra, rc, sa, sc, ma, mc, q5.step hb, q6.step hb, q7.step hb, q8.step hb⟩

theorem lng_01 (E : EV) : lngE E = 0 ∨ lngE E = 1 := by
  unfold lngE
  split
  · exact .inr rfl
  · exact .inl rfl

set_option maxHeartbeats 4000000 in
set_option maxRecDepth 100000 in
theorem longEvents_any (Es : List EV) (v : Value) (w : World) (h : EvsL w v Es) :
    Calls Tryz.prog 9 #[v] w fun r w' => ∃ k : Int, r = .returned (.int .i64 k) ∧ (k = 1 ∨ (k = 0 ∧ Es.length ≤ 70 ∧ ∀ E ∈ Es, lngE E = 0)) ∧ Below w.heap.size w w' := by
  obtain ⟨a, cap, rfl, hl, hcap, hc⟩ := h
  have HC : Hid (_) := hc
  clear hc
  by_cases h70 : 70 < Es.length
  · go_enter Tryz.func9, Tryz.ntmps9
    go_wp2
    go_ret
    exact ⟨1, rfl, .inl rfl, Below.refl _ _⟩
  · go_enter Tryz.func9, Tryz.ntmps9
    go_wp2
    go_loopw [3, 4] (fun n i wr => ∃ (m : Nat) (t : Int), m ≤ Es.length ∧ i = .int .i64 m ∧ n = .int .i64 t ∧ 0 ≤ t ∧ t ≤ 1500 ∧ Hid (Below w.heap.size w wr) ∧ Hid (∀ (j : Nat) (h : j < Es.length), j < m → lngE Es[j] = 0)) (fun _ i _ => Es.length - (intOf i).toNat)
    case atStart => exact ⟨0, 0, Nat.zero_le _, rfl, rfl, by omega, by omega, Below.refl _ _, fun j _ h => absurd h (Nat.not_lt_zero _)⟩
    case round =>
      obtain ⟨m, t, hm, rfl, rfl, ht0, ht1, hB, HA⟩ := hrel
      by_cases hlt : m < Es.length
      · obtain ⟨ad, rfl, k1, k2, k3, ra, rc, sa, sc, ma, mc, hE, _, _, _⟩ := HC.out m hlt
        have HN : Hid (lngE Es[m] = 0 → ∀ (j : Nat) (h : j < Es.length), j < m + 1 → lngE Es[j] = 0) := fun q j hj hjk => by
          by_cases ej : j = m
          · subst ej; exact q
          · exact HA.out j hj (by omega)
        have LE : Hid (∀ W, Calls Tryz.prog 40 #[ev Es[m] (.slice ra Es[m].ds.length rc) (.slice sa Es[m].sk.length sc) (.slice ma Es[m].mv.length mc)] W fun r w' => r = .returned (.int .i64 (lngE Es[m])) ∧ Below W.heap.size W w') := fun W => longEvent_any _ _ _ _ _ _ _ W
        have hE2 := hE.step hB.out
        clear HA HC hE
        generalize Es[m] = E at k1 k2 k3 hE2 HN LE
        obtain ⟨x0, x1, x2, x3, x4, x5, x6, x7, x8, x9, x10⟩ := hE2
        unfold ev at LE
        go_wp2_with fail
        go_quiet (fail)
        rcases lng_01 E with hz | hz
        · have HN' : Hid (_) := HN.out hz
          rw [hz] at LE
          clear HN hz
          by_cases hs : (1500 : Int) < t + (E.sk.length : Int) + (E.mv.length : Int) + (E.ti.size : Int)
          · go_wp2_with (go_at_call 40; refine Calls.mono (LE.out _) ?_; rintro r w5 ⟨rfl, hb5⟩)
            go_ret
            exact ⟨1, rfl, .inl rfl, below_then (below_then hB.out (drewN_below _ _)) hb5⟩
          · go_wp2_with (go_at_call 40; refine Calls.mono (LE.out _) ?_; rintro r w5 ⟨rfl, hb5⟩)
            go_roundw
            case rel => exact ⟨m + 1, t + (E.sk.length : Int) + (E.mv.length : Int) + (E.ti.size : Int), by omega, by go_num, by go_num, by omega, by omega, below_then (below_then hB.out (drewN_below _ _)) hb5, HN'.out⟩
            case measure => simp [intOf]; omega
        · rw [hz] at LE
          clear HN hz
          go_wp2_with (go_at_call 40; refine Calls.mono (LE.out _) ?_; rintro r w5 ⟨rfl, hb5⟩)
          go_ret
          exact ⟨1, rfl, .inl rfl, below_then (below_then hB.out (drewN_below _ _)) hb5⟩
      · have HR : Hid (∀ E ∈ Es, lngE E = 0) := fun E hE => by
          obtain ⟨j, hj, rfl⟩ := List.mem_iff_getElem.1 hE
          exact HA.out j hj (by omega)
        clear HA HC
        go_wp2
        go_ret
        exact ⟨0, rfl, .inr ⟨rfl, by omega, HR.out⟩, hB.out⟩
end Go.Proofs.YtbhidomccdhdkaaGreatDoor
