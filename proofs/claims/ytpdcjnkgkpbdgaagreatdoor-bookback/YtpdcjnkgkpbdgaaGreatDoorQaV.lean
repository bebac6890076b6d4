/- What the rows' lists of package-level variables give the walks over package event: the library's table, the errors' cells; an event as an argument, opened. -/
import Derived.Test.YtpdcjnkgkpbdgaaGreatDoorFrameEP
import Derived.Test.YtpdcjnkgkpbdgaaGreatDoorQdA
import Derived.Lib.LaidTab
import Derived.Lib.SmallJoins
import Derived.Deep.SlicePairs
import Derived.Test.YtpdcjnkgkpbdgaaGreatDoorQdC
import Derived.Deep.Slices
import Derived.Test.YtpdcjnkgkpbdgaaGreatDoorQaN
import Derived.Lay
import Derived.WideKeyArgs
namespace Go.Proofs.YtpdcjnkgkpbdgaaGreatDoor
open Go.ChangeShapes Go.WideShapes Go.ChangeAt Go.RowKit Cal

theorem tPow : (Tryz.prog.globals[13]?).map (·.type) = some 239 := by kernel_rfl
theorem cPow : Tryz.prog.cellsOf 239 = 20 := by kernel_rfl
theorem cU64 : Tryz.prog.cellsOf 203 = 1 := by kernel_rfl
theorem gText : Tryz.prog.globalNamed "lammastide/api.ErrText" = some 4 := by kernel_rfl
theorem tText : (Tryz.prog.globals[4]?).map (·.type) = some 29 := by kernel_rfl
theorem gExist : Tryz.prog.globalNamed "lammastide/api.ErrExist" = some 8 := by kernel_rfl
theorem tExist : (Tryz.prog.globals[8]?).map (·.type) = some 29 := by kernel_rfl
theorem gFull : Tryz.prog.globalNamed "lammastide/api.ErrFull" = some 5 := by kernel_rfl
theorem tFull : (Tryz.prog.globals[5]?).map (·.type) = some 29 := by kernel_rfl
theorem cEvent : Tryz.prog.cellsOf 37 = 11 := by kernel_rfl
theorem cMove : Tryz.prog.cellsOf 92 = 2 := by kernel_rfl
theorem cMoves : Tryz.prog.cellsOf 35 = 1 := by kernel_rfl

/-- the table at the head of the list -/
theorem table {r : List (String × DataW Unit)} {W : World} (h : laidMet Tryz.prog (("internal/strconv.uint64pow10", Rows.laid_internal_strconv_uint64pow10) :: r) W) : Tab W :=
  Lib.tabIs_of_head gPow tPow Tryz.underlying239 Tryz.underlying203 cU64 cPow h
/-- seven addresses by their numbers -/
def seven (a0 a1 a2 a3 a5 a6 a7 : Addr) : Nat → Addr
  | 0 => a0 | 1 => a1 | 2 => a2 | 3 => a3 | 5 => a5 | 6 => a6 | _ => a7

section
variable {H : Type} {enc : TypeId × Value → H} {W : World}
/-- numbers that were handed over -/
theorem open_got {fuel : Nat} {v : Value} {x : DataW H × List MemPlace} (h : DataW.trod enc Tryz.prog W 0 (fun _ => true) true fuel 22 [v] = some x) : ∃ ds : List Int, Got W v ds := by
  rcases open_ints Tryz.underlying22 Tryz.underlying3 cInt h with ⟨e2, _⟩ | ⟨a, len, cap, zs, e2, _, hlc, _, hz, _, hc, _⟩
  · cases e2
    exact ⟨[], none, 0, rfl, fun _ => ⟨rfl, rfl⟩, fun ad ha => by cases ha⟩
  · cases e2
    have hzl : zs.length = cap := by simpa using hz
    have hl' : (zs.take len).length = len := by simp; omega
    refine ⟨zs.take len, some a, cap, by rw [hl'], fun ha => (by cases ha), fun ad ha j hj => ?_⟩
    cases ha
    have hj' : j < len := by omega
    have hcell := hc j (by omega)
    have e5 : zs.getD j 0 = (zs.take len)[j] := by simp [List.getD, List.getElem?_eq_getElem (show j < zs.length by omega)]
    rw [e5] at hcell
    refine ⟨?_, hcell⟩
    rcases Nat.lt_or_ge a.block W.heap.size with h | h
    · exact h
    · have hb : W.heap.size ≤ (a.add j).block := by rw [addr_add_block]; exact h
      simp [World.cell?, Array.getElem?_eq_none hb] at hcell
/-- moves that were handed over -/
theorem open_gotM {fuel : Nat} {v : Value} {x : DataW H × List MemPlace} (h : DataW.trod enc Tryz.prog W 0 (fun _ => true) true fuel 35 [v] = some x) : ∃ ms : List (Int × Int), GotM W v ms := by
  rcases Deep.open_slice_pairs Tryz.underlying35 Tryz.underlying92 cMove rfl rfl cInt cInt h with ⟨e2, _⟩ | ⟨a, len, cap, m, n, V0, V1, D0, D1, P0, P1, e2, _, hlc, _, hm, _, hx⟩
  · cases e2
    exact ⟨[], none, 0, rfl, fun _ => ⟨rfl, rfl⟩, fun ad ha => by cases ha⟩
  · cases e2
    have hm' : m = cap := by simpa using hm
    have each : ∀ i, i < len → ∃ q : Int × Int, W.cell? (a.add (i * 2)) = some (.int .i64 q.1) ∧ W.cell? (a.add (i * 2 + 1)) = some (.int .i64 q.2) := by
      intro i hi
      obtain ⟨c0, c1, t0, t1⟩ := hx i (by omega)
      obtain ⟨x0, e0, _, _⟩ := DataW.trod_int Tryz.underlying3 t0
      obtain ⟨x1, e1, _, _⟩ := DataW.trod_int Tryz.underlying3 t1
      exact ⟨(x0, x1), c0.trans (congrArg some (List.cons.inj e0).1), c1.trans (congrArg some (List.cons.inj e1).1)⟩
    obtain ⟨q, hq⟩ := Deep.choose_lt each
    refine ⟨(List.range len).map q, some a, cap, by simp, fun ha => (by cases ha), fun ad ha j hj => ?_⟩
    cases ha
    have hj' : j < len := by simpa using hj
    have e5 : ((List.range len).map q)[j] = q j := by simp
    obtain ⟨h1, h2⟩ := hq j hj'
    rw [e5]
    refine ⟨?_, h1, h2⟩
    rcases Nat.lt_or_ge a.block W.heap.size with h | h
    · exact h
    · have hb : W.heap.size ≤ (a.add (j * 2)).block := by rw [addr_add_block]; exact h
      simp [World.cell?, Array.getElem?_eq_none hb] at h1

end
end Go.Proofs.YtpdcjnkgkpbdgaaGreatDoor

/- A list of events as an argument, opened. -/
namespace Go.Proofs.YtpdcjnkgkpbdgaaGreatDoor
open Go.ChangeShapes Go.WideShapes Go.ChangeAt Go.RowKit Cal

section
variable {H : Type} {enc : TypeId × Value → H} {W : World}
theorem bInt : Tryz.prog.bytesOf 3 = 8 := by kernel_rfl
theorem bMove : Tryz.prog.bytesOf 92 = 16 := by kernel_rfl
theorem bEvent : Tryz.prog.bytesOf 37 = 160 := by kernel_rfl
theorem weights_all {P : Program} {e : TypeId} : ∀ {l : List (DataW H)} {d : DataW H}, d ∈ l → ∀ n ∈ d.weights P e, n ∈ DataW.weightsAll P e l
  | x :: r, d, hd, n, hn => by
    rw [DataW.weightsAll, List.mem_append]
    rcases List.mem_cons.1 hd with rfl | hd
    · exact .inl hn
    · exact .inr (weights_all hd n hn)
  | [], _, hd, _, _ => absurd hd (by simp)
/-- a slice's length, by its weight -/
theorem slice_len {t e : TypeId} {fuel : Nat} {a : Option Addr} {n c : Nat} {x : DataW H × List MemPlace} (ht : Tryz.prog.underlying t = some (.slice e)) (hb : 1 ≤ Tryz.prog.bytesOf e)
    (h : DataW.trod enc Tryz.prog W 0 (fun _ => true) true fuel t [.slice a n c] = some x) (hw : ∀ k ∈ x.1.weights Tryz.prog t, k ≤ reachBytes) : n ≤ 1000000000000000 := by
  rcases Deep.open_slice ht h with ⟨e1, _⟩ | ⟨a', len, cap, m, k, D, Pl, e1, _, hlc, _, _, rfl, _⟩
  · cases e1; omega
  · cases e1
    have h1 := hw _ (show (((List.range n).map D).length + ((List.range (m - n)).map fun j => D (n + j)).length) * Tryz.prog.bytesOf e ∈ _ by simp [DataW.weights, ht])
    have h2 : n ≤ (((List.range n).map D).length + ((List.range (m - n)).map fun j => D (n + j)).length) * Tryz.prog.bytesOf e := by
      rw [List.length_map, List.length_range]
      exact Nat.le_trans (Nat.le_add_right _ _) (Nat.le_mul_of_pos_right _ hb)
    have h3 := reachBytes_lt
    omega

set_option maxRecDepth 100000 in
/-- an event of eleven cells: its parts, and their lengths -/
theorem open_event_cells {fuel : Nat} {c0 c1 c2 c3 c4 c5 c6 c7 c8 c9 c10 : Value} {x : DataW H × List MemPlace}
    (hf : DataW.trod enc Tryz.prog W 0 (fun _ => true) true fuel 37 [c0, c1, c2, c3, c4, c5, c6, c7, c8, c9, c10] = some x) (hw : ∀ k ∈ x.1.weights Tryz.prog 37, k ≤ reachBytes) :
    ∃ (E : EV) (ra : Option Addr) (rc : Nat) (sa : Option Addr) (sc : Nat) (ma : Option Addr) (mc : Nat), [c0, c1, c2, c3, c4, c5, c6, c7, c8, c9, c10] = [.string E.id, .string E.ti, .int .i64 E.st, .int .i64 E.lg, .string E.f, .int .i64 E.e, .slice ra E.ds.length rc, .int .i64 E.c, .int .i64 E.u, .slice sa E.sk.length sc, .slice ma E.mv.length mc] ∧
      Got W (.slice ra E.ds.length rc) E.ds ∧ Got W (.slice sa E.sk.length sc) E.sk ∧ GotM W (.slice ma E.mv.length mc) E.mv ∧ E.sk.length ≤ 1000000000000000 ∧ E.mv.length ≤ 1000000000000000 ∧ E.ti.size ≤ 1000000000000000 := by
  obtain ⟨xs, n, _, hx, hl, hlen, hfl⟩ := DataW.trod_struct Tryz.underlying37 hf
  have h0 := hfl 0 _ rfl
  have h1 := hfl 1 _ rfl
  have h2 := hfl 2 _ rfl
  have h3 := hfl 3 _ rfl
  have h4 := hfl 4 _ rfl
  have h5 := hfl 5 _ rfl
  have h6 := hfl 6 _ rfl
  match xs, hlen with
  | [y0, y1, y2, y3, y4, y5, y6], _ =>
  have hwt : x.1.weights Tryz.prog 37 = DataW.weightsEach Tryz.prog [9, 9, 3, 3, 24, 22, 35] [y0.1, y1.1, y2.1, y3.1, y4.1, y5.1, y6.1] := by
    rw [hx]
    simp [DataW.weights, Tryz.underlying37]
  have w1 : ∀ k ∈ y1.1.weights Tryz.prog 9, k ≤ reachBytes := fun k hk => hw k (by rw [hwt]; exact DataW.weights_mem_each (j := 1) rfl rfl k hk)
  have w5 : ∀ k ∈ y5.1.weights Tryz.prog 22, k ≤ reachBytes := fun k hk => hw k (by rw [hwt]; exact DataW.weights_mem_each (j := 5) rfl rfl k hk)
  have w6 : ∀ k ∈ y6.1.weights Tryz.prog 35, k ≤ reachBytes := fun k hk => hw k (by rw [hwt]; exact DataW.weights_mem_each (j := 6) rfl rfl k hk)
  simp [cStr, cInt, cInts, cRule, cMoves] at h0 h1 h2 h3 h4 h5 h6
  obtain ⟨xs', n', _, _, hl', hlen', hfl'⟩ := DataW.trod_struct Tryz.underlying24 h4
  have k0 := hfl' 0 _ rfl
  have k1 := hfl' 1 _ rfl
  have k2 := hfl' 2 _ rfl
  have k3 := hfl' 3 _ rfl
  have k4 := hfl' 4 _ rfl
  match xs', hlen' with
  | [z0, z1, z2, z3, z4], _ =>
  simp [cStr, cInt, cInts] at k0 k1 k2 k3 k4
  obtain ⟨id, e0, _, _⟩ := DataW.trod_string Tryz.underlying9 h0
  obtain ⟨ti, e1, ey1, _⟩ := DataW.trod_string Tryz.underlying9 h1
  obtain ⟨st, e2, _, _⟩ := DataW.trod_int Tryz.underlying3 h2
  obtain ⟨lg, e3, _, _⟩ := DataW.trod_int Tryz.underlying3 h3
  obtain ⟨f, g0, _, _⟩ := DataW.trod_string Tryz.underlying9 k0
  obtain ⟨e, g1, _, _⟩ := DataW.trod_int Tryz.underlying3 k1
  obtain ⟨c, g3, _, _⟩ := DataW.trod_int Tryz.underlying3 k3
  obtain ⟨u, g4, _, _⟩ := DataW.trod_int Tryz.underlying3 k4
  obtain ⟨ds, D⟩ := open_got k2
  obtain ⟨sk, S⟩ := open_got h5
  obtain ⟨mv, M⟩ := open_gotM h6
  cases e0
  cases e1
  cases e2
  cases e3
  cases g0
  cases g1
  cases g3
  cases g4
  obtain ⟨ra, rc, rfl, D'⟩ := D
  obtain ⟨sa, sc, rfl, S'⟩ := S
  obtain ⟨ma, mc, rfl, M'⟩ := M
  have b5 := slice_len Tryz.underlying22 (by rw [bInt]; decide) h5 w5
  have b6 := slice_len Tryz.underlying35 (by rw [bMove]; decide) h6 w6
  have b1 : ti.size ≤ 1000000000000000 := by
    have h1 := w1 ti.data.toList.length (by rw [ey1]; simp [DataW.weights])
    have h3 := reachBytes_lt
    have h2 : ti.data.toList.length = ti.size := by simp
    omega
  exact ⟨⟨id, ti, st, lg, f, e, ds, c, u, sk, mv⟩, ra, rc, sa, sc, ma, mc, rfl, ⟨_, _, rfl, D'⟩, ⟨_, _, rfl, S'⟩, ⟨_, _, rfl, M'⟩, b5, b6, b1⟩

instance : Inhabited EV := ⟨⟨⟨#[]⟩, ⟨#[]⟩, 0, 0, ⟨#[]⟩, 0, [], 0, 0, [], []⟩⟩
theorem eleven {l : List Value} (h : l.length = 11) : ∃ c0 c1 c2 c3 c4 c5 c6 c7 c8 c9 c10, l = [c0, c1, c2, c3, c4, c5, c6, c7, c8, c9, c10] := by
  match l, h with
  | [a, b, c, d, e, f, g, h, i, j, k], _ => exact ⟨a, b, c, d, e, f, g, h, i, j, k, rfl⟩
theorem add_blk (a : Addr) (k : Nat) (hk : k ≠ 0) : a.add k = ⟨a.block, a.off + k, none⟩ := by
  unfold Addr.add
  rw [if_neg hk]

set_option maxRecDepth 100000 in
/-- a list of events that was handed over -/
theorem open_events {fuel : Nat} {v : Value} {x : DataW H × List MemPlace} (h : DataW.trod enc Tryz.prog W 0 (fun _ => true) true fuel 49 [v] = some x) (hw : ∀ k ∈ x.1.weights Tryz.prog 49, k ≤ reachBytes) : ∃ Es : List EV, EvsL W v Es := by
  have h' := h
  rcases Deep.open_slice Tryz.underlying49 h with ⟨e1, _⟩ | ⟨a, len, cap, m, n, D, Pl, e1, _, hlc, _, hm, hx, he⟩
  · cases e1
    exact ⟨[], none, 0, rfl, by simp, by simp, fun j hj => absurd hj (by simp)⟩
  · cases e1
    have hbl := slice_len Tryz.underlying49 (by rw [bEvent]; decide) h' hw
    have hm' : m = cap := by simpa using hm
    have each : ∀ i, i < len → ∃ E : EV, E.sk.length ≤ 1000000000000000 ∧ E.mv.length ≤ 1000000000000000 ∧ E.ti.size ≤ 1000000000000000 ∧ ∃ ra rc sa sc ma mc, EvA W (a.add (i * 11)) E (.slice ra E.ds.length rc) (.slice sa E.sk.length sc) (.slice ma E.mv.length mc) ∧
        Got W (.slice ra E.ds.length rc) E.ds ∧ Got W (.slice sa E.sk.length sc) E.sk ∧ GotM W (.slice ma E.mv.length mc) E.mv := by
      intro i hi
      obtain ⟨cs, q1, q2⟩ := he i (by omega)
      rw [cEvent] at q1
      obtain ⟨_, hlen, hcell⟩ := World.cells?_some q1
      obtain ⟨c0, c1, c2, c3, c4, c5, c6, c7, c8, c9, c10, rfl⟩ := eleven hlen
      have hwi : ∀ k ∈ (D i).weights Tryz.prog 37, k ≤ reachBytes := fun k hk => hw k (by
        rw [hx]
        simp only [DataW.weights, Tryz.underlying49, List.mem_cons, List.mem_append]
        exact .inr (.inl (weights_all (List.mem_map.2 ⟨i, List.mem_range.2 hi, rfl⟩) k hk)))
      obtain ⟨E, ra, rc, sa, sc, ma, mc, hc, d1, d2, d3, b1, b2, b3⟩ := open_event_cells q2 hwi
      have A : ∀ k, k < 11 → k ≠ 0 → W.cell? ⟨(a.add (i * 11)).block, (a.add (i * 11)).off + k, none⟩ = [c0, c1, c2, c3, c4, c5, c6, c7, c8, c9, c10][k]? := fun k hk h0 => by
        rw [← add_blk _ _ h0, hcell k hk]
      have A0 : W.cell? (a.add (i * 11)) = [c0, c1, c2, c3, c4, c5, c6, c7, c8, c9, c10][0]? := by
        have := hcell 0 (by decide)
        rwa [show (a.add (i * 11)).add 0 = a.add (i * 11) from rfl] at this
      rw [hc] at A0
      refine ⟨E, b1, b2, b3, ra, rc, sa, sc, ma, mc, ⟨A0, ?_, ?_, ?_, ?_, ?_, ?_, ?_, ?_, ?_, ?_⟩, d1, d2, d3⟩
      · have := A 1 (by decide) (by decide); rwa [hc] at this
      · have := A 2 (by decide) (by decide); rwa [hc] at this
      · have := A 3 (by decide) (by decide); rwa [hc] at this
      · have := A 4 (by decide) (by decide); rwa [hc] at this
      · have := A 5 (by decide) (by decide); rwa [hc] at this
      · have := A 6 (by decide) (by decide); rwa [hc] at this
      · have := A 7 (by decide) (by decide); rwa [hc] at this
      · have := A 8 (by decide) (by decide); rwa [hc] at this
      · have := A 9 (by decide) (by decide); rwa [hc] at this
      · have := A 10 (by decide) (by decide); rwa [hc] at this
    obtain ⟨q, hq⟩ := Deep.choose_lt each
    refine ⟨(List.range len).map q, some a, cap, by simp, by simpa using hbl, by simpa using hlc, fun j hj => ?_⟩
    have hj' : j < len := by simpa using hj
    have e5 : ((List.range len).map q)[j] = q j := by simp
    obtain ⟨b1, b2, b3, ra, rc, sa, sc, ma, mc, hA, d1, d2, d3⟩ := hq j hj'
    rw [e5]
    exact ⟨a, rfl, b1, b2, b3, ra, rc, sa, sc, ma, mc, hA, d1, d2, d3⟩
end
end Go.Proofs.YtpdcjnkgkpbdgaaGreatDoor

/- What the rows' lists of package-level variables give: the names of the days. -/
namespace Go.Proofs.YtpdcjnkgkpbdgaaGreatDoor
open Go.ChangeShapes Go.WideShapes Go.ChangeAt Go.RowKit Cal

theorem gNames : Tryz.prog.globalNamed "lammastide/rule.dayNames" = some 7 := by kernel_rfl
theorem tNames : (Tryz.prog.globals[7]?).map (·.type) = some 134 := by kernel_rfl
theorem cNames : Tryz.prog.cellsOf 134 = 7 := by kernel_rfl

/-- an array of texts that reads as the list: its cells -/
theorem cells_of_texts {H : Type} {enc : TypeId × Value → H} {P : Program} {w : World} {base : Nat} {sp : Nat → Bool} {held : Bool} {fuel : Nat} {t e : TypeId} {n : Nat} {cs : List Value} {zs : List (List UInt8)} {p : List MemPlace}
    (ht : P.underlying t = some (.array n e)) (he : P.underlying e = some .string) (hce : P.cellsOf e = 1) (hct : P.cellsOf t = n)
    (h : DataW.trod enc P w base sp held fuel t cs = some (.agg (zs.map fun z => .lit (.string z)), p)) (i : Nat) (z : List UInt8) (hz : zs[i]? = some z) : cs[i]? = some (.string ⟨z.toArray⟩) := by
  cases fuel with
  | zero => simp [DataW.trod] at h
  | succ fuel =>
    simp only [DataW.trod, ht, hce, hct, Nat.mul_one] at h
    split at h
    · rename_i hl
      obtain ⟨xs, hm, hx⟩ := Option.map_eq_some_iff.1 h
      have hxs : xs.map (·.1) = zs.map fun z => (DataW.lit (.string z) : DataW H) := by
        have := congrArg Prod.fst hx
        simpa using this
      have hxl : xs.length = n := by simpa using Lib.mapM_length hm
      have hzl : zs.length = n := by
        have := congrArg List.length hxs
        simp at this
        omega
      have hi : i < n := by
        have := (List.getElem?_eq_some_iff.1 hz).1
        omega
      obtain ⟨b, hb, hf⟩ := Lib.mapM_at hm i i (by simp [hi])
      obtain ⟨s, hc, rfl, _⟩ := DataW.trod_string he hf
      have h1 : cs[i]? = some (.string s) := by
        have := congrArg (·[0]?) hc
        simpa [List.getElem?_take, List.getElem?_drop] using this
      have h2 : (xs.map (·.1))[i]? = some (DataW.lit (.string s.data.toList) : DataW H) := by simp [hb]
      rw [hxs, List.getElem?_map, hz] at h2
      simp only [Option.map_some, Option.some.injEq, DataW.lit.injEq, Lit.string.injEq] at h2
      rw [h1, h2]
    · cases h
theorem names_of {r : List (String × DataW Unit)} {W : World} (h : laidMet Tryz.prog (("lammastide/rule.dayNames", Rows.laid_lammastide_rule_dayNames) :: r) W) (d : Nat) (hd : d < 7) :
    W.cell? ⟨7, d, none⟩ = some (.string ⟨(nm d).toArray⟩) := by
  obtain ⟨ps, ⟨g', t', cs, fuel, p, q, hg', ht', hvar, hd', _, _⟩, _⟩ := h
  obtain rfl := Option.some.inj (gNames.symm.trans hg')
  obtain rfl := Option.some.inj (tNames.symm.trans ht')
  have hc := cells_of_texts (zs := [nm 0, nm 1, nm 2, nm 3, nm 4, nm 5, nm 6]) Tryz.underlying134 Tryz.underlying9 cStr cNames hd' d (nm d) (by
    match d, hd with
    | 0, _ => rfl
    | 1, _ => rfl
    | 2, _ => rfl
    | 3, _ => rfl
    | 4, _ => rfl
    | 5, _ => rfl
    | 6, _ => rfl)
  rw [World.var?_cell gNames hvar d]
  simpa using hc
end Go.Proofs.YtpdcjnkgkpbdgaaGreatDoor
