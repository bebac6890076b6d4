/- A list of events as an argument; the law's LongEvents. -/
import Derived.Test.YtekminpoiokgfaaGreatDoorYaK
import Derived.BigQuiet
import Derived.Test.YtekminpoiokgfaaGreatDoorYaG
import Derived.Deep.Slices
import Derived.Test.YtekminpoiokgfaaGreatDoorYaE
import Derived.Test.YtekminpoiokgfaaGreatDoorYaA
import Derived.Lib.Strings
import Derived.Lib.IndexBytes
namespace Go.Proofs.YtekminpoiokgfaaGreatDoor
open Go Go.RowKit Go.Maps Cal
attribute [local go_sem] Oper.semAt_some

/-- an event's eleven cells, from place o of block b on -/
structure EvAt (W : World) (b o : Nat) (E : EV) (sl skv mvv : Value) : Prop where
  c0 : W.cell? ⟨b, o, none⟩ = some (.string E.id)
  c1 : W.cell? ⟨b, o + 1, none⟩ = some (.string E.ti)
  c2 : W.cell? ⟨b, o + 2, none⟩ = some (.int .i64 E.st)
  c3 : W.cell? ⟨b, o + 3, none⟩ = some (.int .i64 E.lg)
  c4 : W.cell? ⟨b, o + 4, none⟩ = some (.string E.f)
  c5 : W.cell? ⟨b, o + 5, none⟩ = some (.int .i64 E.e)
  c6 : W.cell? ⟨b, o + 6, none⟩ = some sl
  c7 : W.cell? ⟨b, o + 7, none⟩ = some (.int .i64 E.c)
  c8 : W.cell? ⟨b, o + 8, none⟩ = some (.int .i64 E.u)
  c9 : W.cell? ⟨b, o + 9, none⟩ = some skv
  c10 : W.cell? ⟨b, o + 10, none⟩ = some mvv
theorem EvAt.step {W W' : World} {b o : Nat} {E : EV} {sl skv mvv : Value} (h : EvAt W b o E sl skv mvv) (hb : Below W.heap.size W W') : EvAt W' b o E sl skv mvv :=
  ⟨cell_step h.c0 hb, cell_step h.c1 hb, cell_step h.c2 hb, cell_step h.c3 hb, cell_step h.c4 hb, cell_step h.c5 hb, cell_step h.c6 hb, cell_step h.c7 hb, cell_step h.c8 hb, cell_step h.c9 hb, cell_step h.c10 hb⟩
/-- an event's eleven cells, from any address on -/
structure EvA (W : World) (A : Addr) (E : EV) (sl skv mvv : Value) : Prop where
  c0 : W.cell? A = some (.string E.id)
  c1 : W.cell? ⟨A.block, A.off + 1, none⟩ = some (.string E.ti)
  c2 : W.cell? ⟨A.block, A.off + 2, none⟩ = some (.int .i64 E.st)
  c3 : W.cell? ⟨A.block, A.off + 3, none⟩ = some (.int .i64 E.lg)
  c4 : W.cell? ⟨A.block, A.off + 4, none⟩ = some (.string E.f)
  c5 : W.cell? ⟨A.block, A.off + 5, none⟩ = some (.int .i64 E.e)
  c6 : W.cell? ⟨A.block, A.off + 6, none⟩ = some sl
  c7 : W.cell? ⟨A.block, A.off + 7, none⟩ = some (.int .i64 E.c)
  c8 : W.cell? ⟨A.block, A.off + 8, none⟩ = some (.int .i64 E.u)
  c9 : W.cell? ⟨A.block, A.off + 9, none⟩ = some skv
  c10 : W.cell? ⟨A.block, A.off + 10, none⟩ = some mvv
theorem cellA_lt {W : World} {A : Addr} {u : Value} (h : W.cell? A = some u) : A.block < W.heap.size := by
  rcases Nat.lt_or_ge A.block W.heap.size with q | q
  · exact q
  · simp [World.cell?, Array.getElem?_eq_none q] at h
theorem cellA_step {W W' : World} {A : Addr} {u : Value} (h : W.cell? A = some u) (hb : Below W.heap.size W W') : W'.cell? A = some u := (World.cell?_of_block (a := A) (hb.block _ (cellA_lt h))).trans h
theorem EvA.step {W W' : World} {A : Addr} {E : EV} {sl skv mvv : Value} (h : EvA W A E sl skv mvv) (hb : Below W.heap.size W W') : EvA W' A E sl skv mvv :=
  ⟨cellA_step h.c0 hb, cellA_step h.c1 hb, cellA_step h.c2 hb, cellA_step h.c3 hb, cellA_step h.c4 hb, cellA_step h.c5 hb, cellA_step h.c6 hb, cellA_step h.c7 hb, cellA_step h.c8 hb, cellA_step h.c9 hb, cellA_step h.c10 hb⟩
/-- a list of events that was handed over: their lists may be as long as they are -/
def EvsL (W : World) (v : Value) (Es : List EV) : Prop :=
  ∃ (a : Option Addr) (c : Nat), v = .slice a Es.length c ∧ Es.length ≤ 1000000000000000 ∧ Es.length ≤ c ∧
    ∀ (j : Nat) (h : j < Es.length), ∃ ad : Addr, a = some ad ∧ Es[j].sk.length ≤ 1000000000000000 ∧ Es[j].mv.length ≤ 1000000000000000 ∧ Es[j].ti.size ≤ 1000000000000000 ∧ ∃ ra rc sa sc ma mc, EvA W (ad.add (j * 11)) Es[j] (.slice ra Es[j].ds.length rc) (.slice sa Es[j].sk.length sc) (.slice ma Es[j].mv.length mc) ∧
      Got W (.slice ra Es[j].ds.length rc) Es[j].ds ∧ Got W (.slice sa Es[j].sk.length sc) Es[j].sk ∧ GotM W (.slice ma Es[j].mv.length mc) Es[j].mv
theorem EvsL.step {W W' : World} {v : Value} {Es : List EV} (h : EvsL W v Es) (hb : Below W.heap.size W W') : EvsL W' v Es := by
  obtain ⟨a, c, h1, h2, h3, h4⟩ := h
  refine ⟨a, c, h1, h2, h3, fun j hj => ?_⟩
  obtain ⟨ad, q1, q2, q3, q4, ra, rc, sa, sc, ma, mc, q5, q6, q7, q8⟩ := h4 j hj
  exact ⟨ad, q1, q2, q3, q4, ra, rc, sa, sc, ma, mc, q5.step hb, q6.step hb, q7.step hb, q8.step hb⟩

theorem lng_01 (E : EV) : lngE E = 0 ∨ lngE E = 1 := by
  unfold lngE
  split
  · exact .inr rfl
  · exact .inl rfl

set_option maxHeartbeats 4000000 in
set_option maxRecDepth 100000 in
theorem longEvents_any (Es : List EV) (v : Value) (w : World) (h : EvsL w v Es) :
    Calls Tryz.prog 6 #[v] w fun r w' => ∃ k : Int, r = .returned (.int .i64 k) ∧ (k = 1 ∨ (k = 0 ∧ Es.length ≤ 70 ∧ ∀ E ∈ Es, lngE E = 0)) ∧ Below w.heap.size w w' := by
  obtain ⟨a, cap, rfl, hl, hcap, hc⟩ := h
  have HC : Hid (_) := hc
  clear hc
  by_cases h70 : 70 < Es.length
  · go_enter Tryz.func6, Tryz.ntmps6
    go_wp2
    go_ret
    exact ⟨1, rfl, .inl rfl, Below.refl _ _⟩
  · go_enter Tryz.func6, Tryz.ntmps6
    go_wp2
    go_loopw [3, 4] (fun n i wr => ∃ (m : Nat) (t : Int), m ≤ Es.length ∧ i = .int .i64 m ∧ n = .int .i64 t ∧ 0 ≤ t ∧ t ≤ 1500 ∧ Hid (Below w.heap.size w wr) ∧ Hid (∀ (j : Nat) (h : j < Es.length), j < m → lngE Es[j] = 0)) (fun _ i _ => Es.length - (intOf i).toNat)
    case atStart => exact ⟨0, 0, Nat.zero_le _, rfl, rfl, by omega, by omega, Below.refl _ _, fun j _ h => absurd h (Nat.not_lt_zero _)⟩
    case round =>
      obtain ⟨m, t, hm, rfl, rfl, ht0, ht1, hB, HA⟩ := hrel
      by_cases hlt : m < Es.length
      · obtain ⟨ad, rfl, k1, k2, k3, ra, rc, sa, sc, ma, mc, hE, _, _, _⟩ := HC.out m hlt
        have HN : Hid (lngE Es[m] = 0 → ∀ (j : Nat) (h : j < Es.length), j < m + 1 → lngE Es[j] = 0) := fun q j hj hjk => by
          by_cases ej : j = m
          · subst ej; exact q
          · exact HA.out j hj (by omega)
        have LE : Hid (∀ W, Calls Tryz.prog 17 #[ev Es[m] (.slice ra Es[m].ds.length rc) (.slice sa Es[m].sk.length sc) (.slice ma Es[m].mv.length mc)] W fun r w' => r = .returned (.int .i64 (lngE Es[m])) ∧ Below W.heap.size W w') := fun W => longEvent_any _ _ _ _ _ _ _ W
        have hE2 := hE.step hB.out
        clear HA HC hE
        generalize Es[m] = E at k1 k2 k3 hE2 HN LE
        obtain ⟨x0, x1, x2, x3, x4, x5, x6, x7, x8, x9, x10⟩ := hE2
        unfold ev at LE
        go_wp2_with fail
        go_quiet (fail)
        rcases lng_01 E with hz | hz
        · have HN' : Hid (_) := HN.out hz
          rw [hz] at LE
          clear HN hz
          by_cases hs : (1500 : Int) < t + (E.sk.length : Int) + (E.mv.length : Int) + (E.ti.size : Int)
          · go_wp2_with (go_at_call 17; refine Calls.mono (LE.out _) ?_; rintro r w5 ⟨rfl, hb5⟩)
            go_ret
            exact ⟨1, rfl, .inl rfl, below_then (below_then hB.out (drewN_below _ _)) hb5⟩
          · go_wp2_with (go_at_call 17; refine Calls.mono (LE.out _) ?_; rintro r w5 ⟨rfl, hb5⟩)
            go_roundw
            case rel => exact ⟨m + 1, t + (E.sk.length : Int) + (E.mv.length : Int) + (E.ti.size : Int), by omega, by go_num, by go_num, by omega, by omega, below_then (below_then hB.out (drewN_below _ _)) hb5, HN'.out⟩
            case measure => simp [intOf]; omega
        · rw [hz] at LE
          clear HN hz
          go_wp2_with (go_at_call 17; refine Calls.mono (LE.out _) ?_; rintro r w5 ⟨rfl, hb5⟩)
          go_ret
          exact ⟨1, rfl, .inl rfl, below_then (below_then hB.out (drewN_below _ _)) hb5⟩
      · have HR : Hid (∀ E ∈ Es, lngE E = 0) := fun E hE => by
          obtain ⟨j, hj, rfl⟩ := List.mem_iff_getElem.1 hE
          exact HA.out j hj (by omega)
        clear HA HC
        go_wp2
        go_ret
        exact ⟨0, rfl, .inr ⟨rfl, by omega, HR.out⟩, hB.out⟩
end Go.Proofs.YtekminpoiokgfaaGreatDoor

/- A list of events as an argument, opened. -/
namespace Go.Proofs.YtekminpoiokgfaaGreatDoor
open Go.ChangeShapes Go.WideShapes Go.ChangeAt Go.RowKit Cal

section
variable {H : Type} {enc : TypeId × Value → H} {W : World}
theorem bInt : Tryz.prog.bytesOf 3 = 8 := by kernel_rfl
theorem bMove : Tryz.prog.bytesOf 72 = 16 := by kernel_rfl
theorem bEvent : Tryz.prog.bytesOf 44 = 160 := by kernel_rfl
theorem weights_all {P : Program} {e : TypeId} : ∀ {l : List (DataW H)} {d : DataW H}, d ∈ l → ∀ n ∈ d.weights P e, n ∈ DataW.weightsAll P e l
  | x :: r, d, hd, n, hn => by
    rw [DataW.weightsAll, List.mem_append]
    rcases List.mem_cons.1 hd with rfl | hd
    · exact .inl hn
    · exact .inr (weights_all hd n hn)
  | [], _, hd, _, _ => absurd hd (by simp)
/-- a slice's length, by its weight -/
theorem slice_len {t e : TypeId} {fuel : Nat} {a : Option Addr} {n c : Nat} {x : DataW H × List MemPlace} (ht : Tryz.prog.underlying t = some (.slice e)) (hb : 1 ≤ Tryz.prog.bytesOf e)
    (h : DataW.trod enc Tryz.prog W 0 (fun _ => true) true fuel t [.slice a n c] = some x) (hw : ∀ k ∈ x.1.weights Tryz.prog t, k ≤ reachBytes) : n ≤ 1000000000000000 := by
  rcases Deep.open_slice ht h with ⟨e1, _⟩ | ⟨a', len, cap, m, k, D, Pl, e1, _, hlc, _, _, rfl, _⟩
  · cases e1; omega
  · cases e1
    have h1 := hw _ (show (((List.range n).map D).length + ((List.range (m - n)).map fun j => D (n + j)).length) * Tryz.prog.bytesOf e ∈ _ by simp [DataW.weights, ht])
    have h2 : n ≤ (((List.range n).map D).length + ((List.range (m - n)).map fun j => D (n + j)).length) * Tryz.prog.bytesOf e := by
      rw [List.length_map, List.length_range]
      exact Nat.le_trans (Nat.le_add_right _ _) (Nat.le_mul_of_pos_right _ hb)
    have h3 := reachBytes_lt
    omega

set_option maxRecDepth 100000 in
/-- an event of eleven cells: its parts, and their lengths -/
theorem open_event_cells {fuel : Nat} {c0 c1 c2 c3 c4 c5 c6 c7 c8 c9 c10 : Value} {x : DataW H × List MemPlace}
    (hf : DataW.trod enc Tryz.prog W 0 (fun _ => true) true fuel 44 [c0, c1, c2, c3, c4, c5, c6, c7, c8, c9, c10] = some x) (hw : ∀ k ∈ x.1.weights Tryz.prog 44, k ≤ reachBytes) :
    ∃ (E : EV) (ra : Option Addr) (rc : Nat) (sa : Option Addr) (sc : Nat) (ma : Option Addr) (mc : Nat), [c0, c1, c2, c3, c4, c5, c6, c7, c8, c9, c10] = [.string E.id, .string E.ti, .int .i64 E.st, .int .i64 E.lg, .string E.f, .int .i64 E.e, .slice ra E.ds.length rc, .int .i64 E.c, .int .i64 E.u, .slice sa E.sk.length sc, .slice ma E.mv.length mc] ∧
      Got W (.slice ra E.ds.length rc) E.ds ∧ Got W (.slice sa E.sk.length sc) E.sk ∧ GotM W (.slice ma E.mv.length mc) E.mv ∧ E.sk.length ≤ 1000000000000000 ∧ E.mv.length ≤ 1000000000000000 ∧ E.ti.size ≤ 1000000000000000 := by
  obtain ⟨xs, n, _, hx, hl, hlen, hfl⟩ := DataW.trod_struct Tryz.underlying44 hf
  have h0 := hfl 0 _ rfl
  have h1 := hfl 1 _ rfl
  have h2 := hfl 2 _ rfl
  have h3 := hfl 3 _ rfl
  have h4 := hfl 4 _ rfl
  have h5 := hfl 5 _ rfl
  have h6 := hfl 6 _ rfl
  match xs, hlen with
  | [y0, y1, y2, y3, y4, y5, y6], _ =>
  have hwt : x.1.weights Tryz.prog 44 = DataW.weightsEach Tryz.prog [9, 9, 3, 3, 41, 39, 42] [y0.1, y1.1, y2.1, y3.1, y4.1, y5.1, y6.1] := by
    rw [hx]
    simp [DataW.weights, Tryz.underlying44]
  have w1 : ∀ k ∈ y1.1.weights Tryz.prog 9, k ≤ reachBytes := fun k hk => hw k (by rw [hwt]; exact DataW.weights_mem_each (j := 1) rfl rfl k hk)
  have w5 : ∀ k ∈ y5.1.weights Tryz.prog 39, k ≤ reachBytes := fun k hk => hw k (by rw [hwt]; exact DataW.weights_mem_each (j := 5) rfl rfl k hk)
  have w6 : ∀ k ∈ y6.1.weights Tryz.prog 42, k ≤ reachBytes := fun k hk => hw k (by rw [hwt]; exact DataW.weights_mem_each (j := 6) rfl rfl k hk)
  simp [cStr, cInt, cInts, cRule, cMoves] at h0 h1 h2 h3 h4 h5 h6
  obtain ⟨xs', n', _, _, hl', hlen', hfl'⟩ := DataW.trod_struct Tryz.underlying41 h4
  have k0 := hfl' 0 _ rfl
  have k1 := hfl' 1 _ rfl
  have k2 := hfl' 2 _ rfl
  have k3 := hfl' 3 _ rfl
  have k4 := hfl' 4 _ rfl
  match xs', hlen' with
  | [z0, z1, z2, z3, z4], _ =>
  simp [cStr, cInt, cInts] at k0 k1 k2 k3 k4
  obtain ⟨id, e0, _, _⟩ := DataW.trod_string Tryz.underlying9 h0
  obtain ⟨ti, e1, ey1, _⟩ := DataW.trod_string Tryz.underlying9 h1
  obtain ⟨st, e2, _, _⟩ := DataW.trod_int Tryz.underlying3 h2
  obtain ⟨lg, e3, _, _⟩ := DataW.trod_int Tryz.underlying3 h3
  obtain ⟨f, g0, _, _⟩ := DataW.trod_string Tryz.underlying9 k0
  obtain ⟨e, g1, _, _⟩ := DataW.trod_int Tryz.underlying3 k1
  obtain ⟨c, g3, _, _⟩ := DataW.trod_int Tryz.underlying3 k3
  obtain ⟨u, g4, _, _⟩ := DataW.trod_int Tryz.underlying3 k4
  obtain ⟨ds, D⟩ := open_got k2
  obtain ⟨sk, S⟩ := open_got h5
  obtain ⟨mv, M⟩ := open_gotM h6
  cases e0
  cases e1
  cases e2
  cases e3
  cases g0
  cases g1
  cases g3
  cases g4
  obtain ⟨ra, rc, rfl, D'⟩ := D
  obtain ⟨sa, sc, rfl, S'⟩ := S
  obtain ⟨ma, mc, rfl, M'⟩ := M
  have b5 := slice_len Tryz.underlying39 (by rw [bInt]; decide) h5 w5
  have b6 := slice_len Tryz.underlying42 (by rw [bMove]; decide) h6 w6
  have b1 : ti.size ≤ 1000000000000000 := by
    have h1 := w1 ti.data.toList.length (by rw [ey1]; simp [DataW.weights])
    have h3 := reachBytes_lt
    have h2 : ti.data.toList.length = ti.size := by simp
    omega
  exact ⟨⟨id, ti, st, lg, f, e, ds, c, u, sk, mv⟩, ra, rc, sa, sc, ma, mc, rfl, ⟨_, _, rfl, D'⟩, ⟨_, _, rfl, S'⟩, ⟨_, _, rfl, M'⟩, b5, b6, b1⟩

instance : Inhabited EV := ⟨⟨⟨#[]⟩, ⟨#[]⟩, 0, 0, ⟨#[]⟩, 0, [], 0, 0, [], []⟩⟩
theorem eleven {l : List Value} (h : l.length = 11) : ∃ c0 c1 c2 c3 c4 c5 c6 c7 c8 c9 c10, l = [c0, c1, c2, c3, c4, c5, c6, c7, c8, c9, c10] := by
  match l, h with
  | [a, b, c, d, e, f, g, h, i, j, k], _ => exact ⟨a, b, c, d, e, f, g, h, i, j, k, rfl⟩
theorem add_blk (a : Addr) (k : Nat) (hk : k ≠ 0) : a.add k = ⟨a.block, a.off + k, none⟩ := by
  unfold Addr.add
  rw [if_neg hk]

set_option maxRecDepth 100000 in
/-- a list of events that was handed over -/
theorem open_events {fuel : Nat} {v : Value} {x : DataW H × List MemPlace} (h : DataW.trod enc Tryz.prog W 0 (fun _ => true) true fuel 22 [v] = some x) (hw : ∀ k ∈ x.1.weights Tryz.prog 22, k ≤ reachBytes) : ∃ Es : List EV, EvsL W v Es := by
  have h' := h
  rcases Deep.open_slice Tryz.underlying22 h with ⟨e1, _⟩ | ⟨a, len, cap, m, n, D, Pl, e1, _, hlc, _, hm, hx, he⟩
  · cases e1
    exact ⟨[], none, 0, rfl, by simp, by simp, fun j hj => absurd hj (by simp)⟩
  · cases e1
    have hbl := slice_len Tryz.underlying22 (by rw [bEvent]; decide) h' hw
    have hm' : m = cap := by simpa using hm
    have each : ∀ i, i < len → ∃ E : EV, E.sk.length ≤ 1000000000000000 ∧ E.mv.length ≤ 1000000000000000 ∧ E.ti.size ≤ 1000000000000000 ∧ ∃ ra rc sa sc ma mc, EvA W (a.add (i * 11)) E (.slice ra E.ds.length rc) (.slice sa E.sk.length sc) (.slice ma E.mv.length mc) ∧
        Got W (.slice ra E.ds.length rc) E.ds ∧ Got W (.slice sa E.sk.length sc) E.sk ∧ GotM W (.slice ma E.mv.length mc) E.mv := by
      intro i hi
      obtain ⟨cs, q1, q2⟩ := he i (by omega)
      rw [cEvent] at q1
      obtain ⟨_, hlen, hcell⟩ := World.cells?_some q1
      obtain ⟨c0, c1, c2, c3, c4, c5, c6, c7, c8, c9, c10, rfl⟩ := eleven hlen
      have hwi : ∀ k ∈ (D i).weights Tryz.prog 44, k ≤ reachBytes := fun k hk => hw k (by
        rw [hx]
        simp only [DataW.weights, Tryz.underlying22, List.mem_cons, List.mem_append]
        exact .inr (.inl (weights_all (List.mem_map.2 ⟨i, List.mem_range.2 hi, rfl⟩) k hk)))
      obtain ⟨E, ra, rc, sa, sc, ma, mc, hc, d1, d2, d3, b1, b2, b3⟩ := open_event_cells q2 hwi
      have A : ∀ k, k < 11 → k ≠ 0 → W.cell? ⟨(a.add (i * 11)).block, (a.add (i * 11)).off + k, none⟩ = [c0, c1, c2, c3, c4, c5, c6, c7, c8, c9, c10][k]? := fun k hk h0 => by
        rw [← add_blk _ _ h0, hcell k hk]
      have A0 : W.cell? (a.add (i * 11)) = [c0, c1, c2, c3, c4, c5, c6, c7, c8, c9, c10][0]? := by
        have := hcell 0 (by decide)
        rwa [show (a.add (i * 11)).add 0 = a.add (i * 11) from rfl] at this
      rw [hc] at A0
      refine ⟨E, b1, b2, b3, ra, rc, sa, sc, ma, mc, ⟨A0, ?_, ?_, ?_, ?_, ?_, ?_, ?_, ?_, ?_, ?_⟩, d1, d2, d3⟩
      · have := A 1 (by decide) (by decide); rwa [hc] at this
      · have := A 2 (by decide) (by decide); rwa [hc] at this
      · have := A 3 (by decide) (by decide); rwa [hc] at this
      · have := A 4 (by decide) (by decide); rwa [hc] at this
      · have := A 5 (by decide) (by decide); rwa [hc] at this
      · have := A 6 (by decide) (by decide); rwa [hc] at this
      · have := A 7 (by decide) (by decide); rwa [hc] at this
      · have := A 8 (by decide) (by decide); rwa [hc] at this
      · have := A 9 (by decide) (by decide); rwa [hc] at this
      · have := A 10 (by decide) (by decide); rwa [hc] at this
    obtain ⟨q, hq⟩ := Deep.choose_lt each
    refine ⟨(List.range len).map q, some a, cap, by simp, by simpa using hbl, by simpa using hlc, fun j hj => ?_⟩
    have hj' : j < len := by simpa using hj
    have e5 : ((List.range len).map q)[j] = q j := by simp
    obtain ⟨b1, b2, b3, ra, rc, sa, sc, ma, mc, hA, d1, d2, d3⟩ := hq j hj'
    rw [e5]
    exact ⟨a, rfl, b1, b2, b3, ra, rc, sa, sc, ma, mc, hA, d1, d2, d3⟩
end
end Go.Proofs.YtekminpoiokgfaaGreatDoor

/- The error 'bound' and the library's table of powers, as they are carried along; small lemmas. -/
namespace Go.Proofs.YtekminpoiokgfaaGreatDoor
open Go.RowKit Cal

/-- the error 'bound', and the library's table -/
structure Env (ev : Addr) (w : World) : Prop where
  bound : w.cell? ⟨4, 0, none⟩ = some (.iface 250 (.pointer (some ev)))
  tab : Tab w
theorem Env.step {ev : Addr} {w w' : World} (g : Env ev w) (hb : Below w.heap.size w w') : Env ev w' :=
  ⟨by rw [hb.cell (p := ⟨4, 0, none⟩) (lt_of_cell g.bound)]; exact g.bound, g.tab.step hb⟩
end Go.Proofs.YtekminpoiokgfaaGreatDoor

/- Plain mathematics of reading a day's text: which signs stand where, and the number that digits are. -/
namespace Go.Proofs.YtekminpoiokgfaaGreatDoor.Cal
open Go

/-- a line at the fifth and the eighth place, else a digit -/
def sgn (j : Nat) (c : UInt8) : Prop := if j = 4 ∨ j = 7 then (c.toNat : Int) = 45 else 48 ≤ (c.toNat : Int) ∧ (c.toNat : Int) ≤ 57
/-- digits -/
def digs (l : List UInt8) : Prop := ∀ c ∈ l, 48 ≤ (c.toNat : Int) ∧ (c.toNat : Int) ≤ 57
/-- the number that digits are -/
def val (l : List UInt8) : Int := l.foldl (fun a c => a * 10 + ((c.toNat : Int) - 48)) 0
/-- a day's text, by its signs -/
def isDT (s : ByteArray) : Prop := s.size = 10 ∧ ∀ (j : Nat) (h : j < s.size), sgn j s[j]

theorem sgn_line {j : Nat} {c : UInt8} (h : j = 4 ∨ j = 7) : sgn j c ↔ (c.toNat : Int) = 45 := by unfold sgn; rw [if_pos h]
theorem sgn_digit {j : Nat} {c : UInt8} (h : ¬ (j = 4 ∨ j = 7)) : sgn j c ↔ (48 ≤ (c.toNat : Int) ∧ (c.toNat : Int) ≤ 57) := by unfold sgn; rw [if_neg h]
theorem val_snoc (l : List UInt8) (c : UInt8) : val (l ++ [c]) = val l * 10 + ((c.toNat : Int) - 48) := by unfold val; rw [List.foldl_append]; rfl
theorem take_snoc (s : ByteArray) (k : Nat) (h : k < s.size) : s.data.toList.take (k + 1) = s.data.toList.take k ++ [s[k]] := by
  rw [List.take_succ_eq_append_getElem (by simpa using h)]; rfl
theorem digs_take {l : List UInt8} (h : digs l) (k : Nat) : digs (l.take k) := fun c hc => h c (List.mem_of_mem_take hc)
theorem digs_at {s : ByteArray} (h : digs s.data.toList) (k : Nat) (hk : k < s.size) : 48 ≤ (s[k].toNat : Int) ∧ (s[k].toNat : Int) ≤ 57 :=
  h _ (by show s.data[k] ∈ _; exact Array.getElem_mem_toList hk)
theorem val_bd (l : List UInt8) (h : digs l) (hl : l.length ≤ 4) : 0 ≤ val l ∧ val l ≤ 9999 := by
  match l, hl with
  | [], _ => simp [val]
  | [a], _ => have := h a (by simp); simp [val]; omega
  | [a, b], _ => have := h a (by simp); have := h b (by simp); simp [val]; omega
  | [a, b, c], _ => have := h a (by simp); have := h b (by simp); have := h c (by simp); simp [val]; omega
  | [a, b, c, d], _ => have := h a (by simp); have := h b (by simp); have := h c (by simp); have := h d (by simp); simp [val]; omega
  | _ :: _ :: _ :: _ :: _ :: _, h => simp at h

/-- a text of ten signs, sign by sign -/
theorem ten {s : ByteArray} (h : s.size = 10) : ∃ c0 c1 c2 c3 c4 c5 c6 c7 c8 c9 : UInt8, s = ⟨#[c0, c1, c2, c3, c4, c5, c6, c7, c8, c9]⟩ := by
  obtain ⟨⟨l⟩⟩ := s
  have hl : l.length = 10 := h
  match l, hl with
  | [c0, c1, c2, c3, c4, c5, c6, c7, c8, c9], _ => exact ⟨c0, c1, c2, c3, c4, c5, c6, c7, c8, c9, rfl⟩
theorem isDT_parts {s : ByteArray} (h : isDT s) : digs (s.extract 0 4).data.toList ∧ digs (s.extract 5 7).data.toList ∧ digs (s.extract 8 s.size).data.toList ∧ (s.extract 0 4).size = 4 ∧ (s.extract 5 7).size = 2 ∧ (s.extract 8 s.size).size = 2 := by
  obtain ⟨h10, hall⟩ := h
  obtain ⟨c0, c1, c2, c3, c4, c5, c6, c7, c8, c9, rfl⟩ := ten h10
  have a0 := (sgn_digit (by omega)).1 (hall 0 (by rw [h10]; omega))
  have a1 := (sgn_digit (by omega)).1 (hall 1 (by rw [h10]; omega))
  have a2 := (sgn_digit (by omega)).1 (hall 2 (by rw [h10]; omega))
  have a3 := (sgn_digit (by omega)).1 (hall 3 (by rw [h10]; omega))
  have a5 := (sgn_digit (by omega)).1 (hall 5 (by rw [h10]; omega))
  have a6 := (sgn_digit (by omega)).1 (hall 6 (by rw [h10]; omega))
  have a8 := (sgn_digit (by omega)).1 (hall 8 (by rw [h10]; omega))
  have a9 := (sgn_digit (by omega)).1 (hall 9 (by rw [h10]; omega))
  refine ⟨?_, ?_, ?_, rfl, rfl, rfl⟩
  · rw [Lib.extract_data]; intro c hc
    have hc' : c ∈ [c0, c1, c2, c3] := hc
    simp only [List.mem_cons, List.not_mem_nil, or_false] at hc'
    rcases hc' with rfl | rfl | rfl | rfl
    · exact a0
    · exact a1
    · exact a2
    · exact a3
  · rw [Lib.extract_data]; intro c hc
    have hc' : c ∈ [c5, c6] := hc
    simp only [List.mem_cons, List.not_mem_nil, or_false] at hc'
    rcases hc' with rfl | rfl
    · exact a5
    · exact a6
  · rw [Lib.extract_data]; intro c hc
    have hc' : c ∈ [c8, c9] := hc
    simp only [List.mem_cons, List.not_mem_nil, or_false] at hc'
    rcases hc' with rfl | rfl
    · exact a8
    · exact a9
/-- the year, the month and the day of a text -/
def yS (s : ByteArray) : Int := val (s.extract 0 4).data.toList
def mS (s : ByteArray) : Int := val (s.extract 5 7).data.toList
def dS (s : ByteArray) : Int := val (s.extract 8 s.size).data.toList

theorem dgt_bd (k : Int) (h0 : 0 ≤ k) (h1 : k ≤ 9) : ((dgt k).toNat : Int) = 48 + k := by rw [dgt_nat k h0 h1]; omega
theorem txt_isDT (y m d : Int) (hy0 : 0 ≤ y) (hy1 : y ≤ 9999) (hm0 : 0 ≤ m) (hm1 : m ≤ 99) (hd0 : 0 ≤ d) (hd1 : d ≤ 99) : isDT ⟨(txt y m d).toArray⟩ := by
  refine ⟨rfl, ?_⟩
  have a0 := dgt_bd (y / 1000) (by omega) (by omega)
  have a1 := dgt_bd (y / 100 % 10) (by omega) (by omega)
  have a2 := dgt_bd (y / 10 % 10) (by omega) (by omega)
  have a3 := dgt_bd (y % 10) (by omega) (by omega)
  have a5 := dgt_bd (m / 10) (by omega) (by omega)
  have a6 := dgt_bd (m % 10) (by omega) (by omega)
  have a8 := dgt_bd (d / 10) (by omega) (by omega)
  have a9 := dgt_bd (d % 10) (by omega) (by omega)
  intro j hj
  have hj' : j < 10 := hj
  have key : ∀ i : Fin 10, sgn i.1 ((txt y m d)[i.1]'(by rw [txt_length]; exact i.2)) := by
    intro i
    match i with
    | ⟨0, _⟩ => show sgn 0 (dgt (y / 1000)); rw [sgn_digit (by omega)]; omega
    | ⟨1, _⟩ => show sgn 1 (dgt (y / 100 % 10)); rw [sgn_digit (by omega)]; omega
    | ⟨2, _⟩ => show sgn 2 (dgt (y / 10 % 10)); rw [sgn_digit (by omega)]; omega
    | ⟨3, _⟩ => show sgn 3 (dgt (y % 10)); rw [sgn_digit (by omega)]; omega
    | ⟨4, _⟩ => show sgn 4 45; rw [sgn_line (by omega)]; rfl
    | ⟨5, _⟩ => show sgn 5 (dgt (m / 10)); rw [sgn_digit (by omega)]; omega
    | ⟨6, _⟩ => show sgn 6 (dgt (m % 10)); rw [sgn_digit (by omega)]; omega
    | ⟨7, _⟩ => show sgn 7 45; rw [sgn_line (by omega)]; rfl
    | ⟨8, _⟩ => show sgn 8 (dgt (d / 10)); rw [sgn_digit (by omega)]; omega
    | ⟨9, _⟩ => show sgn 9 (dgt (d % 10)); rw [sgn_digit (by omega)]; omega
  exact key ⟨j, hj'⟩
theorem txt_nums (y m d : Int) (hy0 : 0 ≤ y) (hy1 : y ≤ 9999) (hm0 : 0 ≤ m) (hm1 : m ≤ 99) (hd0 : 0 ≤ d) (hd1 : d ≤ 99) :
    yS ⟨(txt y m d).toArray⟩ = y ∧ mS ⟨(txt y m d).toArray⟩ = m ∧ dS ⟨(txt y m d).toArray⟩ = d := by
  have a0 := dgt_bd (y / 1000) (by omega) (by omega)
  have a1 := dgt_bd (y / 100 % 10) (by omega) (by omega)
  have a2 := dgt_bd (y / 10 % 10) (by omega) (by omega)
  have a3 := dgt_bd (y % 10) (by omega) (by omega)
  have a5 := dgt_bd (m / 10) (by omega) (by omega)
  have a6 := dgt_bd (m % 10) (by omega) (by omega)
  have a8 := dgt_bd (d / 10) (by omega) (by omega)
  have a9 := dgt_bd (d % 10) (by omega) (by omega)
  refine ⟨?_, ?_, ?_⟩
  · unfold yS; rw [Lib.extract_data]
    show val [dgt (y / 1000), dgt (y / 100 % 10), dgt (y / 10 % 10), dgt (y % 10)] = y
    simp only [val, List.foldl_cons, List.foldl_nil, a0, a1, a2, a3]; omega
  · unfold mS; rw [Lib.extract_data]
    show val [dgt (m / 10), dgt (m % 10)] = m
    simp only [val, List.foldl_cons, List.foldl_nil, a5, a6]; omega
  · unfold dS; rw [Lib.extract_data]
    show val [dgt (d / 10), dgt (d % 10)] = d
    simp only [val, List.foldl_cons, List.foldl_nil, a8, a9]; omega
end Go.Proofs.YtekminpoiokgfaaGreatDoor.Cal
