/- A list of acts on a calendar as an argument, opened. -/
import Derived.Test.YtfdojecdnieccaaGreatDoorJaV
import Derived.Test.YtfdojecdnieccaaGreatDoorJbC
namespace Go.Proofs.YtfdojecdnieccaaGreatDoor
open Go.ChangeShapes Go.WideShapes Go.ChangeAt Go.RowKit Cal

section
variable {H : Type} {enc : TypeId × Value → H} {W : World}
theorem bAct : Tryz.prog.bytesOf 37 = 192 := by kernel_rfl
theorem cAct : Tryz.prog.cellsOf 37 = 13 := by kernel_rfl
instance : Inhabited AC := ⟨⟨⟨#[]⟩, default, ⟨#[]⟩⟩⟩
theorem thirteen {l : List Value} (h : l.length = 13) : ∃ c0 c1 c2 c3 c4 c5 c6 c7 c8 c9 c10 c11 c12, l = [c0, c1, c2, c3, c4, c5, c6, c7, c8, c9, c10, c11, c12] := by
  match l, h with
  | [a, b, c, d, e, f, g, h, i, j, k, l, m], _ => exact ⟨a, b, c, d, e, f, g, h, i, j, k, l, m, rfl⟩

set_option maxRecDepth 100000 in
theorem open_act_cells {fuel : Nat} {c0 c1 c2 c3 c4 c5 c6 c7 c8 c9 c10 c11 c12 : Value} {x : DataW H × List MemPlace}
    (hf : DataW.trod enc Tryz.prog W 0 (fun _ => true) true fuel 37 [c0, c1, c2, c3, c4, c5, c6, c7, c8, c9, c10, c11, c12] = some x) (hw : ∀ k ∈ x.1.weights Tryz.prog 37, k ≤ reachBytes) :
    ∃ (K : AC) (ra : Option Addr) (rc : Nat) (sa : Option Addr) (sc : Nat) (ma : Option Addr) (mc : Nat), [c0, c1, c2, c3, c4, c5, c6, c7, c8, c9, c10, c11, c12] = [.string K.kd, .string K.E.id, .string K.E.ti, .int .i64 K.E.st, .int .i64 K.E.lg, .string K.E.f, .int .i64 K.E.e, .slice ra K.E.ds.length rc, .int .i64 K.E.c, .int .i64 K.E.u, .slice sa K.E.sk.length sc, .slice ma K.E.mv.length mc, .string K.id] ∧
      Got W (.slice ra K.E.ds.length rc) K.E.ds ∧ Got W (.slice sa K.E.sk.length sc) K.E.sk ∧ GotM W (.slice ma K.E.mv.length mc) K.E.mv ∧ K.E.sk.length ≤ 1000000000000000 ∧ K.E.mv.length ≤ 1000000000000000 ∧ K.E.ti.size ≤ 1000000000000000 ∧ K.id.size ≤ 1000000000000000 := by
  obtain ⟨xs, n, _, hx, hl, hlen, hfl⟩ := DataW.trod_struct Tryz.underlying37 hf
  have h0 := hfl 0 _ rfl
  have h1 := hfl 1 _ rfl
  have h2 := hfl 2 _ rfl
  match xs, hlen with
  | [y0, y1, y2], _ =>
  have hwt : x.1.weights Tryz.prog 37 = DataW.weightsEach Tryz.prog [9, 35, 9] [y0.1, y1.1, y2.1] := by
    rw [hx]
    simp [DataW.weights, Tryz.underlying37]
  have w1 : ∀ k ∈ y1.1.weights Tryz.prog 35, k ≤ reachBytes := fun k hk => hw k (by rw [hwt]; exact DataW.weights_mem_each (j := 1) rfl rfl k hk)
  have w2 : ∀ k ∈ y2.1.weights Tryz.prog 9, k ≤ reachBytes := fun k hk => hw k (by rw [hwt]; exact DataW.weights_mem_each (j := 2) rfl rfl k hk)
  simp [cStr, cEvent] at h0 h1 h2
  obtain ⟨kd, e0, _, _⟩ := DataW.trod_string Tryz.underlying9 h0
  obtain ⟨aid, e2, ey2, _⟩ := DataW.trod_string Tryz.underlying9 h2
  obtain ⟨E, ra, rc, sa, sc, ma, mc, hc, d1, d2, d3, b1, b2, b3⟩ := open_event_cells h1 w1
  cases e0
  cases e2
  have b4 : aid.size ≤ 1000000000000000 := by
    have h1 := w2 aid.data.toList.length (by rw [ey2]; simp [DataW.weights])
    have h3 := reachBytes_lt
    have h2 : aid.data.toList.length = aid.size := by simp
    omega
  refine ⟨⟨kd, E, aid⟩, ra, rc, sa, sc, ma, mc, ?_, d1, d2, d3, b1, b2, b3, b4⟩
  show [.string kd] ++ [c1, c2, c3, c4, c5, c6, c7, c8, c9, c10, c11] ++ [.string aid] = _
  rw [hc]
  rfl

set_option maxRecDepth 100000 in
/-- a list of acts that was handed over -/
theorem open_acts {fuel : Nat} {v : Value} {x : DataW H × List MemPlace} (h : DataW.trod enc Tryz.prog W 0 (fun _ => true) true fuel 22 [v] = some x) (hw : ∀ k ∈ x.1.weights Tryz.prog 22, k ≤ reachBytes) : ∃ Ks : List AC, ActsL W v Ks := by
  have h' := h
  rcases Deep.open_slice Tryz.underlying22 h with ⟨e1, _⟩ | ⟨a, len, cap, m, n, D, Pl, e1, _, hlc, _, hm, hx, he⟩
  · cases e1
    exact ⟨[], none, 0, rfl, by simp, by simp, fun j hj => absurd hj (by simp)⟩
  · cases e1
    have hbl := slice_len Tryz.underlying22 (by rw [bAct]; decide) h' hw
    have hm' : m = cap := by simpa using hm
    have each : ∀ i, i < len → ∃ K : AC, K.E.sk.length ≤ 1000000000000000 ∧ K.E.mv.length ≤ 1000000000000000 ∧ K.E.ti.size ≤ 1000000000000000 ∧ K.id.size ≤ 1000000000000000 ∧ ∃ ra rc sa sc ma mc, ActA W (a.add (i * 13)) K (.slice ra K.E.ds.length rc) (.slice sa K.E.sk.length sc) (.slice ma K.E.mv.length mc) ∧
        Got W (.slice ra K.E.ds.length rc) K.E.ds ∧ Got W (.slice sa K.E.sk.length sc) K.E.sk ∧ GotM W (.slice ma K.E.mv.length mc) K.E.mv := by
      intro i hi
      obtain ⟨cs, q1, q2⟩ := he i (by omega)
      rw [cAct] at q1
      obtain ⟨_, hlen, hcell⟩ := World.cells?_some q1
      obtain ⟨c0, c1, c2, c3, c4, c5, c6, c7, c8, c9, c10, c11, c12, rfl⟩ := thirteen hlen
      have hwi : ∀ k ∈ (D i).weights Tryz.prog 37, k ≤ reachBytes := fun k hk => hw k (by
        rw [hx]
        simp only [DataW.weights, Tryz.underlying22, List.mem_cons, List.mem_append]
        exact .inr (.inl (weights_all (List.mem_map.2 ⟨i, List.mem_range.2 hi, rfl⟩) k hk)))
      obtain ⟨K, ra, rc, sa, sc, ma, mc, hc, d1, d2, d3, b1, b2, b3, b4⟩ := open_act_cells q2 hwi
      have A : ∀ k, k < 13 → k ≠ 0 → W.cell? ⟨(a.add (i * 13)).block, (a.add (i * 13)).off + k, none⟩ = [c0, c1, c2, c3, c4, c5, c6, c7, c8, c9, c10, c11, c12][k]? := fun k hk h0 => by
        rw [← add_blk _ _ h0, hcell k hk]
      have A0 : W.cell? (a.add (i * 13)) = [c0, c1, c2, c3, c4, c5, c6, c7, c8, c9, c10, c11, c12][0]? := by
        have := hcell 0 (by decide)
        rwa [show (a.add (i * 13)).add 0 = a.add (i * 13) from rfl] at this
      rw [hc] at A0
      refine ⟨K, b1, b2, b3, b4, ra, rc, sa, sc, ma, mc, ⟨A0, ⟨?_, ?_, ?_, ?_, ?_, ?_, ?_, ?_, ?_, ?_, ?_⟩, ?_⟩, d1, d2, d3⟩
      · have := A 1 (by decide) (by decide); rw [hc] at this; exact this
      · have := A 2 (by decide) (by decide); rw [hc] at this; exact this
      · have := A 3 (by decide) (by decide); rw [hc] at this; exact this
      · have := A 4 (by decide) (by decide); rw [hc] at this; exact this
      · have := A 5 (by decide) (by decide); rw [hc] at this; exact this
      · have := A 6 (by decide) (by decide); rw [hc] at this; exact this
      · have := A 7 (by decide) (by decide); rw [hc] at this; exact this
      · have := A 8 (by decide) (by decide); rw [hc] at this; exact this
      · have := A 9 (by decide) (by decide); rw [hc] at this; exact this
      · have := A 10 (by decide) (by decide); rw [hc] at this; exact this
      · have := A 11 (by decide) (by decide); rw [hc] at this; exact this
      · have := A 12 (by decide) (by decide); rw [hc] at this; exact this
    obtain ⟨q, hq⟩ := Deep.choose_lt each
    refine ⟨(List.range len).map q, some a, cap, by simp, by simpa using hbl, by simpa using hlc, fun j hj => ?_⟩
    have hj' : j < len := by simpa using hj
    have e5 : ((List.range len).map q)[j] = q j := by simp
    obtain ⟨b1, b2, b3, b4, ra, rc, sa, sc, ma, mc, hA, d1, d2, d3⟩ := hq j hj'
    rw [e5]
    exact ⟨a, rfl, b1, b2, b3, b4, ra, rc, sa, sc, ma, mc, hA, d1, d2, d3⟩
end
end Go.Proofs.YtfdojecdnieccaaGreatDoor
