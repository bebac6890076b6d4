/- A list of events as an argument, opened. -/
import Derived.Test.YtppckmahhmnjpaaGreatDoorFrameEvJ
import Derived.Test.YtppckmahhmnjpaaGreatDoorBoZJ
import Derived.Deep.Slices
namespace Go.Proofs.YtppckmahhmnjpaaGreatDoor
open Go.ChangeShapes Go.WideShapes Go.ChangeAt Go.RowKit Cal

section
variable {H : Type} {enc : TypeId × Value → H} {W : World}
theorem bInt : Tryz.prog.bytesOf 3 = 8 := by kernel_rfl
theorem bMove : Tryz.prog.bytesOf 78 = 16 := by kernel_rfl
theorem bEvent : Tryz.prog.bytesOf 38 = 160 := by kernel_rfl
theorem weights_all {P : Program} {e : TypeId} : ∀ {l : List (DataW H)} {d : DataW H}, d ∈ l → ∀ n ∈ d.weights P e, n ∈ DataW.weightsAll P e l
  | x :: r, d, hd, n, hn => by
    rw [DataW.weightsAll, List.mem_append]
    rcases List.mem_cons.1 hd with rfl | hd
    · exact .inl hn
    · exact .inr (weights_all hd n hn)
  | [], _, hd, _, _ => absurd hd (by simp)
/-- a slice's length, by its weight -/
theorem slice_len {t e : TypeId} {fuel : Nat} {a : Option Addr} {n c : Nat} {x : DataW H × List MemPlace} (ht : Tryz.prog.underlying t = some (.slice e)) (hb : 1 ≤ Tryz.prog.bytesOf e)
    (h : DataW.trod enc Tryz.prog W 0 (fun _ => true) true fuel t [.slice a n c] = some x) (hw : ∀ k ∈ x.1.weights Tryz.prog t, k ≤ reachBytes) : n ≤ 1000000000000000 := by
  rcases Deep.open_slice ht h with ⟨e1, _⟩ | ⟨a', len, cap, m, k, D, Pl, e1, _, hlc, _, _, rfl, _⟩
  · cases e1; omega
  · cases e1
    have h1 := hw _ (show (((List.range n).map D).length + ((List.range (m - n)).map fun j => D (n + j)).length) * Tryz.prog.bytesOf e ∈ _ by simp [DataW.weights, ht])
    have h2 : n ≤ (((List.range n).map D).length + ((List.range (m - n)).map fun j => D (n + j)).length) * Tryz.prog.bytesOf e := by
      rw [List.length_map, List.length_range]
      exact Nat.le_trans (Nat.le_add_right _ _) (Nat.le_mul_of_pos_right _ hb)
    have h3 := reachBytes_lt
    omega

set_option maxRecDepth 100000 in
/-- an event of eleven cells: its parts, and their lengths -/
theorem open_event_cells {fuel : Nat} {c0 c1 c2 c3 c4 c5 c6 c7 c8 c9 c10 : Value} {x : DataW H × List MemPlace}
    (hf : DataW.trod enc Tryz.prog W 0 (fun _ => true) true fuel 38 [c0, c1, c2, c3, c4, c5, c6, c7, c8, c9, c10] = some x) (hw : ∀ k ∈ x.1.weights Tryz.prog 38, k ≤ reachBytes) :
    ∃ (E : EV) (ra : Option Addr) (rc : Nat) (sa : Option Addr) (sc : Nat) (ma : Option Addr) (mc : Nat), [c0, c1, c2, c3, c4, c5, c6, c7, c8, c9, c10] = [.string E.id, .string E.ti, .int .i64 E.st, .int .i64 E.lg, .string E.f, .int .i64 E.e, .slice ra E.ds.length rc, .int .i64 E.c, .int .i64 E.u, .slice sa E.sk.length sc, .slice ma E.mv.length mc] ∧
      Got W (.slice ra E.ds.length rc) E.ds ∧ Got W (.slice sa E.sk.length sc) E.sk ∧ GotM W (.slice ma E.mv.length mc) E.mv ∧ E.sk.length ≤ 1000000000000000 ∧ E.mv.length ≤ 1000000000000000 ∧ E.ti.size ≤ 1000000000000000 := by
  obtain ⟨xs, n, _, hx, hl, hlen, hfl⟩ := DataW.trod_struct Tryz.underlying38 hf
  have h0 := hfl 0 _ rfl
  have h1 := hfl 1 _ rfl
  have h2 := hfl 2 _ rfl
  have h3 := hfl 3 _ rfl
  have h4 := hfl 4 _ rfl
  have h5 := hfl 5 _ rfl
  have h6 := hfl 6 _ rfl
  match xs, hlen with
  | [y0, y1, y2, y3, y4, y5, y6], _ =>
  have hwt : x.1.weights Tryz.prog 38 = DataW.weightsEach Tryz.prog [9, 9, 3, 3, 35, 33, 36] [y0.1, y1.1, y2.1, y3.1, y4.1, y5.1, y6.1] := by
    rw [hx]
    simp [DataW.weights, Tryz.underlying38]
  have w1 : ∀ k ∈ y1.1.weights Tryz.prog 9, k ≤ reachBytes := fun k hk => hw k (by rw [hwt]; exact DataW.weights_mem_each (j := 1) rfl rfl k hk)
  have w5 : ∀ k ∈ y5.1.weights Tryz.prog 33, k ≤ reachBytes := fun k hk => hw k (by rw [hwt]; exact DataW.weights_mem_each (j := 5) rfl rfl k hk)
  have w6 : ∀ k ∈ y6.1.weights Tryz.prog 36, k ≤ reachBytes := fun k hk => hw k (by rw [hwt]; exact DataW.weights_mem_each (j := 6) rfl rfl k hk)
  simp [cStr, cInt, cInts, cRule, cMoves] at h0 h1 h2 h3 h4 h5 h6
  obtain ⟨xs', n', _, _, hl', hlen', hfl'⟩ := DataW.trod_struct Tryz.underlying35 h4
  have k0 := hfl' 0 _ rfl
  have k1 := hfl' 1 _ rfl
  have k2 := hfl' 2 _ rfl
  have k3 := hfl' 3 _ rfl
  have k4 := hfl' 4 _ rfl
  match xs', hlen' with
  | [z0, z1, z2, z3, z4], _ =>
  simp [cStr, cInt, cInts] at k0 k1 k2 k3 k4
  obtain ⟨id, e0, _, _⟩ := DataW.trod_string Tryz.underlying9 h0
  obtain ⟨ti, e1, ey1, _⟩ := DataW.trod_string Tryz.underlying9 h1
  obtain ⟨st, e2, _, _⟩ := DataW.trod_int Tryz.underlying3 h2
  obtain ⟨lg, e3, _, _⟩ := DataW.trod_int Tryz.underlying3 h3
  obtain ⟨f, g0, _, _⟩ := DataW.trod_string Tryz.underlying9 k0
  obtain ⟨e, g1, _, _⟩ := DataW.trod_int Tryz.underlying3 k1
  obtain ⟨c, g3, _, _⟩ := DataW.trod_int Tryz.underlying3 k3
  obtain ⟨u, g4, _, _⟩ := DataW.trod_int Tryz.underlying3 k4
  obtain ⟨ds, D⟩ := open_got k2
  obtain ⟨sk, S⟩ := open_got h5
  obtain ⟨mv, M⟩ := open_gotM h6
  cases e0
  cases e1
  cases e2
  cases e3
  cases g0
  cases g1
  cases g3
  cases g4
  obtain ⟨ra, rc, rfl, D'⟩ := D
  obtain ⟨sa, sc, rfl, S'⟩ := S
  obtain ⟨ma, mc, rfl, M'⟩ := M
  have b5 := slice_len Tryz.underlying33 (by rw [bInt]; decide) h5 w5
  have b6 := slice_len Tryz.underlying36 (by rw [bMove]; decide) h6 w6
  have b1 : ti.size ≤ 1000000000000000 := by
    have h1 := w1 ti.data.toList.length (by rw [ey1]; simp [DataW.weights])
    have h3 := reachBytes_lt
    have h2 : ti.data.toList.length = ti.size := by simp
    omega
  exact ⟨⟨id, ti, st, lg, f, e, ds, c, u, sk, mv⟩, ra, rc, sa, sc, ma, mc, rfl, ⟨_, _, rfl, D'⟩, ⟨_, _, rfl, S'⟩, ⟨_, _, rfl, M'⟩, b5, b6, b1⟩

instance : Inhabited EV := ⟨⟨⟨#[]⟩, ⟨#[]⟩, 0, 0, ⟨#[]⟩, 0, [], 0, 0, [], []⟩⟩
theorem eleven {l : List Value} (h : l.length = 11) : ∃ c0 c1 c2 c3 c4 c5 c6 c7 c8 c9 c10, l = [c0, c1, c2, c3, c4, c5, c6, c7, c8, c9, c10] := by
  match l, h with
  | [a, b, c, d, e, f, g, h, i, j, k], _ => exact ⟨a, b, c, d, e, f, g, h, i, j, k, rfl⟩
theorem add_blk (a : Addr) (k : Nat) (hk : k ≠ 0) : a.add k = ⟨a.block, a.off + k, none⟩ := by
  unfold Addr.add
  rw [if_neg hk]

set_option maxRecDepth 100000 in
/-- a list of events that was handed over -/
theorem open_events {fuel : Nat} {v : Value} {x : DataW H × List MemPlace} (h : DataW.trod enc Tryz.prog W 0 (fun _ => true) true fuel 22 [v] = some x) (hw : ∀ k ∈ x.1.weights Tryz.prog 22, k ≤ reachBytes) : ∃ Es : List EV, EvsL W v Es := by
  have h' := h
  rcases Deep.open_slice Tryz.underlying22 h with ⟨e1, _⟩ | ⟨a, len, cap, m, n, D, Pl, e1, _, hlc, _, hm, hx, he⟩
  · cases e1
    exact ⟨[], none, 0, rfl, by simp, by simp, fun j hj => absurd hj (by simp)⟩
  · cases e1
    have hbl := slice_len Tryz.underlying22 (by rw [bEvent]; decide) h' hw
    have hm' : m = cap := by simpa using hm
    have each : ∀ i, i < len → ∃ E : EV, E.sk.length ≤ 1000000000000000 ∧ E.mv.length ≤ 1000000000000000 ∧ E.ti.size ≤ 1000000000000000 ∧ ∃ ra rc sa sc ma mc, EvA W (a.add (i * 11)) E (.slice ra E.ds.length rc) (.slice sa E.sk.length sc) (.slice ma E.mv.length mc) ∧
        Got W (.slice ra E.ds.length rc) E.ds ∧ Got W (.slice sa E.sk.length sc) E.sk ∧ GotM W (.slice ma E.mv.length mc) E.mv := by
      intro i hi
      obtain ⟨cs, q1, q2⟩ := he i (by omega)
      rw [cEvent] at q1
      obtain ⟨_, hlen, hcell⟩ := World.cells?_some q1
      obtain ⟨c0, c1, c2, c3, c4, c5, c6, c7, c8, c9, c10, rfl⟩ := eleven hlen
      have hwi : ∀ k ∈ (D i).weights Tryz.prog 38, k ≤ reachBytes := fun k hk => hw k (by
        rw [hx]
        simp only [DataW.weights, Tryz.underlying22, List.mem_cons, List.mem_append]
        exact .inr (.inl (weights_all (List.mem_map.2 ⟨i, List.mem_range.2 hi, rfl⟩) k hk)))
      obtain ⟨E, ra, rc, sa, sc, ma, mc, hc, d1, d2, d3, b1, b2, b3⟩ := open_event_cells q2 hwi
      have A : ∀ k, k < 11 → k ≠ 0 → W.cell? ⟨(a.add (i * 11)).block, (a.add (i * 11)).off + k, none⟩ = [c0, c1, c2, c3, c4, c5, c6, c7, c8, c9, c10][k]? := fun k hk h0 => by
        rw [← add_blk _ _ h0, hcell k hk]
      have A0 : W.cell? (a.add (i * 11)) = [c0, c1, c2, c3, c4, c5, c6, c7, c8, c9, c10][0]? := by
        have := hcell 0 (by decide)
        rwa [show (a.add (i * 11)).add 0 = a.add (i * 11) from rfl] at this
      rw [hc] at A0
      refine ⟨E, b1, b2, b3, ra, rc, sa, sc, ma, mc, ⟨A0, ?_, ?_, ?_, ?_, ?_, ?_, ?_, ?_, ?_, ?_⟩, d1, d2, d3⟩
      · have := A 1 (by decide) (by decide); rwa [hc] at this
      · have := A 2 (by decide) (by decide); rwa [hc] at this
      · have := A 3 (by decide) (by decide); rwa [hc] at this
      · have := A 4 (by decide) (by decide); rwa [hc] at this
      · have := A 5 (by decide) (by decide); rwa [hc] at this
      · have := A 6 (by decide) (by decide); rwa [hc] at this
      · have := A 7 (by decide) (by decide); rwa [hc] at this
      · have := A 8 (by decide) (by decide); rwa [hc] at this
      · have := A 9 (by decide) (by decide); rwa [hc] at this
      · have := A 10 (by decide) (by decide); rwa [hc] at this
    obtain ⟨q, hq⟩ := Deep.choose_lt each
    refine ⟨(List.range len).map q, some a, cap, by simp, by simpa using hbl, by simpa using hlc, fun j hj => ?_⟩
    have hj' : j < len := by simpa using hj
    have e5 : ((List.range len).map q)[j] = q j := by simp
    obtain ⟨b1, b2, b3, ra, rc, sa, sc, ma, mc, hA, d1, d2, d3⟩ := hq j hj'
    rw [e5]
    exact ⟨a, rfl, b1, b2, b3, ra, rc, sa, sc, ma, mc, hA, d1, d2, d3⟩
end
end Go.Proofs.YtppckmahhmnjpaaGreatDoor
