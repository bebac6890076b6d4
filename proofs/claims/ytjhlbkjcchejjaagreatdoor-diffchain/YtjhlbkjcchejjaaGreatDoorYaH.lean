/- What the rows' lists of package-level variables give the walks over package event: the library's table, the errors' cells; an event as an argument, opened. -/
import Derived.Test.YtjhlbkjcchejjaaGreatDoorYaB
import Derived.Test.YtjhlbkjcchejjaaGreatDoorYaG
import Derived.Lib.LaidTab
import Derived.Lib.SmallJoins
import Derived.Deep.SlicePairs
namespace Go.Proofs.YtjhlbkjcchejjaaGreatDoor
open Go.ChangeShapes Go.WideShapes Go.ChangeAt Go.RowKit Cal

theorem tPow : (Tryz.prog.globals[11]?).map (·.type) = some 209 := by kernel_rfl
theorem cPow : Tryz.prog.cellsOf 209 = 20 := by kernel_rfl
theorem cU64 : Tryz.prog.cellsOf 186 = 1 := by kernel_rfl
theorem gText : Tryz.prog.globalNamed "lammastide/api.ErrText" = some 1 := by kernel_rfl
theorem tText : (Tryz.prog.globals[1]?).map (·.type) = some 32 := by kernel_rfl
theorem gExist : Tryz.prog.globalNamed "lammastide/api.ErrExist" = some 6 := by kernel_rfl
theorem tExist : (Tryz.prog.globals[6]?).map (·.type) = some 32 := by kernel_rfl
theorem gFull : Tryz.prog.globalNamed "lammastide/api.ErrFull" = some 5 := by kernel_rfl
theorem tFull : (Tryz.prog.globals[5]?).map (·.type) = some 32 := by kernel_rfl
theorem cEvent : Tryz.prog.cellsOf 27 = 11 := by kernel_rfl
theorem cMove : Tryz.prog.cellsOf 72 = 2 := by kernel_rfl
theorem cMoves : Tryz.prog.cellsOf 25 = 1 := by kernel_rfl

/-- the table at the head of the list -/
theorem table {r : List (String × DataW Unit)} {W : World} (h : laidMet Tryz.prog (("internal/strconv.uint64pow10", Rows.laid_internal_strconv_uint64pow10) :: r) W) : Tab W :=
  Lib.tabIs_of_head gPow tPow Tryz.underlying209 Tryz.underlying186 cU64 cPow h
/-- seven addresses by their numbers -/
def seven (a0 a1 a2 a3 a5 a6 a7 : Addr) : Nat → Addr
  | 0 => a0 | 1 => a1 | 2 => a2 | 3 => a3 | 5 => a5 | 6 => a6 | _ => a7

theorem array11 {α : Type} {cs : Array α} (h : cs.size = 11) : ∃ c0 c1 c2 c3 c4 c5 c6 c7 c8 c9 c10, cs = #[c0, c1, c2, c3, c4, c5, c6, c7, c8, c9, c10] := by
  obtain ⟨l⟩ := cs
  match l, h with
  | [a, b, c, d, e, f, g, h, i, j, k], _ => exact ⟨a, b, c, d, e, f, g, h, i, j, k, rfl⟩

section
variable {H : Type} {enc : TypeId × Value → H} {W : World}
/-- numbers that were handed over -/
theorem open_got {fuel : Nat} {v : Value} {x : DataW H × List MemPlace} (h : DataW.trod enc Tryz.prog W 0 (fun _ => true) true fuel 22 [v] = some x) : ∃ ds : List Int, Got W v ds := by
  rcases open_ints Tryz.underlying22 Tryz.underlying3 cInt h with ⟨e2, _⟩ | ⟨a, len, cap, zs, e2, _, hlc, _, hz, _, hc, _⟩
  · cases e2
    exact ⟨[], none, 0, rfl, fun _ => ⟨rfl, rfl⟩, fun ad ha => by cases ha⟩
  · cases e2
    have hzl : zs.length = cap := by simpa using hz
    have hl' : (zs.take len).length = len := by simp; omega
    refine ⟨zs.take len, some a, cap, by rw [hl'], fun ha => (by cases ha), fun ad ha j hj => ?_⟩
    cases ha
    have hj' : j < len := by omega
    have hcell := hc j (by omega)
    have e5 : zs.getD j 0 = (zs.take len)[j] := by simp [List.getD, List.getElem?_eq_getElem (show j < zs.length by omega)]
    rw [e5] at hcell
    refine ⟨?_, hcell⟩
    rcases Nat.lt_or_ge a.block W.heap.size with h | h
    · exact h
    · have hb : W.heap.size ≤ (a.add j).block := by rw [addr_add_block]; exact h
      simp [World.cell?, Array.getElem?_eq_none hb] at hcell
/-- moves that were handed over -/
theorem open_gotM {fuel : Nat} {v : Value} {x : DataW H × List MemPlace} (h : DataW.trod enc Tryz.prog W 0 (fun _ => true) true fuel 25 [v] = some x) : ∃ ms : List (Int × Int), GotM W v ms := by
  rcases Deep.open_slice_pairs Tryz.underlying25 Tryz.underlying72 cMove rfl rfl cInt cInt h with ⟨e2, _⟩ | ⟨a, len, cap, m, n, V0, V1, D0, D1, P0, P1, e2, _, hlc, _, hm, _, hx⟩
  · cases e2
    exact ⟨[], none, 0, rfl, fun _ => ⟨rfl, rfl⟩, fun ad ha => by cases ha⟩
  · cases e2
    have hm' : m = cap := by simpa using hm
    have each : ∀ i, i < len → ∃ q : Int × Int, W.cell? (a.add (i * 2)) = some (.int .i64 q.1) ∧ W.cell? (a.add (i * 2 + 1)) = some (.int .i64 q.2) := by
      intro i hi
      obtain ⟨c0, c1, t0, t1⟩ := hx i (by omega)
      obtain ⟨x0, e0, _, _⟩ := DataW.trod_int Tryz.underlying3 t0
      obtain ⟨x1, e1, _, _⟩ := DataW.trod_int Tryz.underlying3 t1
      exact ⟨(x0, x1), c0.trans (congrArg some (List.cons.inj e0).1), c1.trans (congrArg some (List.cons.inj e1).1)⟩
    obtain ⟨q, hq⟩ := Deep.choose_lt each
    refine ⟨(List.range len).map q, some a, cap, by simp, fun ha => (by cases ha), fun ad ha j hj => ?_⟩
    cases ha
    have hj' : j < len := by simpa using hj
    have e5 : ((List.range len).map q)[j] = q j := by simp
    obtain ⟨h1, h2⟩ := hq j hj'
    rw [e5]
    refine ⟨?_, h1, h2⟩
    rcases Nat.lt_or_ge a.block W.heap.size with h | h
    · exact h
    · have hb : W.heap.size ≤ (a.add (j * 2)).block := by rw [addr_add_block]; exact h
      simp [World.cell?, Array.getElem?_eq_none hb] at h1

set_option maxRecDepth 100000 in
/-- an event that was handed over: its parts -/
theorem open_event {b0 : Nat} {v : Value} {d : DataW H} {p : List MemPlace}
    (hv : Value.okWide Tryz.prog W .any b0 27 v) (h : DataW.Trod enc Tryz.prog W 0 (fun _ => true) true 27 v d p) :
    ∃ (E : EV) (sl skv mvv : Value), v = ev E sl skv mvv ∧ Got W sl E.ds ∧ Got W skv E.sk ∧ GotM W mvv E.mv := by
  obtain ⟨cs, rfl, hsz⟩ := okWide_struct Tryz.underlying27 hv
  obtain ⟨c0, c1, c2, c3, c4, c5, c6, c7, c8, c9, c10, rfl⟩ := array11 (hsz.trans cEvent)
  obtain ⟨fuel, hf⟩ := h
  obtain ⟨xs, n, _, _, hl, hlen, hfl⟩ := DataW.trod_struct Tryz.underlying27 hf
  have h0 := hfl 0 _ rfl
  have h1 := hfl 1 _ rfl
  have h2 := hfl 2 _ rfl
  have h3 := hfl 3 _ rfl
  have h4 := hfl 4 _ rfl
  have h5 := hfl 5 _ rfl
  have h6 := hfl 6 _ rfl
  match xs, hlen with
  | [y0, y1, y2, y3, y4, y5, y6], _ =>
  simp [Value.cells, cStr, cInt, cInts, cRule, cMoves] at h0 h1 h2 h3 h4 h5 h6
  obtain ⟨xs', n', _, _, hl', hlen', hfl'⟩ := DataW.trod_struct Tryz.underlying24 h4
  have k0 := hfl' 0 _ rfl
  have k1 := hfl' 1 _ rfl
  have k2 := hfl' 2 _ rfl
  have k3 := hfl' 3 _ rfl
  have k4 := hfl' 4 _ rfl
  match xs', hlen' with
  | [z0, z1, z2, z3, z4], _ =>
  simp [cStr, cInt, cInts] at k0 k1 k2 k3 k4
  obtain ⟨id, e0, _, _⟩ := DataW.trod_string Tryz.underlying9 h0
  obtain ⟨ti, e1, _, _⟩ := DataW.trod_string Tryz.underlying9 h1
  obtain ⟨st, e2, _, _⟩ := DataW.trod_int Tryz.underlying3 h2
  obtain ⟨lg, e3, _, _⟩ := DataW.trod_int Tryz.underlying3 h3
  obtain ⟨f, g0, _, _⟩ := DataW.trod_string Tryz.underlying9 k0
  obtain ⟨e, g1, _, _⟩ := DataW.trod_int Tryz.underlying3 k1
  obtain ⟨c, g3, _, _⟩ := DataW.trod_int Tryz.underlying3 k3
  obtain ⟨u, g4, _, _⟩ := DataW.trod_int Tryz.underlying3 k4
  obtain ⟨ds, D⟩ := open_got k2
  obtain ⟨sk, S⟩ := open_got h5
  obtain ⟨mv, M⟩ := open_gotM h6
  cases e0
  cases e1
  cases e2
  cases e3
  cases g0
  cases g1
  cases g3
  cases g4
  exact ⟨⟨id, ti, st, lg, f, e, ds, c, u, sk, mv⟩, _, _, _, rfl, D, S, M⟩
end
end Go.Proofs.YtjhlbkjcchejjaaGreatDoor

/- The law's own OwnRule: the days lie in memory of its own. -/
namespace Go.Proofs.YtjhlbkjcchejjaaGreatDoor
open Go.RowKit Cal

set_option maxHeartbeats 1000000 in
set_option maxRecDepth 100000 in
theorem ownRule_ow (f : ByteArray) (e : Int) (sl : Value) (c u : Int) (ds : List Int) (w : World) (hd : Got w sl ds) (h20 : ds.length ≤ 20) :
    Calls Tryz.prog 25 #[rv f e sl c u] w fun r w' => ∃ sl', r = .returned (rv f e sl' c u) ∧ Ow w.heap.size w' sl' ds ∧ Below w.heap.size w w' := by
  obtain ⟨a, cap, rfl, hn, hs⟩ := hd
  obtain ⟨i0, hi, hz0, hz1, hz2⟩ := info_parts info_int
  unfold rv
  cases a with
  | none =>
    obtain ⟨h0, rfl⟩ := hn rfl
    have hds : ds = [] := List.length_eq_zero_iff.1 h0
    subst hds
    clear hn hs h0
    simp only [List.length_nil]
    go_enter Tryz.func25, Tryz.ntmps25
    go_wp2
    exact bodyPost_ret (v := .agg #[.string f, .int .i64 e, .slice none 0 0, .int .i64 c, .int .i64 u]) (by simp [results, Tryz.f25, go_sem]) rfl ⟨_, rfl, Ow.nil _ _, below_box2 _ _ _⟩
  | some ad =>
    have hc := hs ad rfl
    have HC : Hid (_) := hc
    clear hn hs hc
    go_enter Tryz.func25, Tryz.ntmps25
    go_wp2_with (first
      | (at_builtin; refine wpList_append_own _ rfl _ _ 22 rfl (w.heap.size + 2) 3 i0 (.int .i64 0) 1 8 Tryz.underlying22 hi hz0 hz1 hz2 rfl (by decide) _ _ _ rfl (World.ownsRow_nil _ _ _ _) ad ds.length cap (ds.map (Value.int .i64)) rfl (by simp) ?c1 ?c2 ?c3 ?c4 ?c5 ?_)
      | go_in)
    case c1 =>
      intro j v hv
      rw [List.getElem?_map] at hv
      obtain ⟨d, hd, rfl⟩ := Option.map_eq_some_iff.1 hv
      obtain ⟨hj, rfl⟩ := List.getElem?_eq_some_iff.1 hd
      exact (World.cell?_of_block (a := ad.add j) ((below_box2 w _ _).block _ (by rw [addr_add_block]; exact (HC.out j hj).1))).trans (HC.out j hj).2
    case c2 =>
      intro v hv
      obtain ⟨d, _, rfl⟩ := List.mem_map.1 hv
      rfl
    case c3 => unfold maxLen; omega
    case c4 => omega
    case c5 => simp
    · intro v' w1 hown hgrow _
      have hb1 : Below _ _ w1 := ⟨hgrow.os, hgrow.tape, hgrow.output, hgrow.size, fun k hk => hgrow.block k hk (by simp [Value.ownBlock])⟩
      have OW : Hid (Ow (w.heap.size + 2) w1 v' ds) := hown
      obtain ⟨a', c', rfl, _, _, _⟩ := ow_days OW.out h20
      have k0 := (hb1.block w.heap.size (by simp; omega)).trans (block_alloc _ (block_at _ rfl))
      have k1 := (hb1.block (w.heap.size + 1) (by simp)).trans (block_at _ (by simp))
      have K1 : Hid (_) := k1
      have HB : Hid (Below w.heap.size w w1) := (below_box2 w _ _).trans (hb1.mono (by simp; omega))
      obtain ⟨x0, x1, x2, x3, x4⟩ := blk5 k0
      obtain ⟨y0, y1, y2, y3, y4⟩ := blk5 k1
      have z2 := blk5_frozen k0 2
      have t0 := blk5_frozen k1 0
      have t1 := blk5_frozen k1 1
      have t2 := blk5_frozen k1 2
      have t3 := blk5_frozen k1 3
      have t4 := blk5_frozen k1 4
      clear hown hgrow hb1 HC
      go_wp2
      have g0 := grown_set w1 ⟨w.heap.size, 2, none⟩ (.slice a' ds.length c')
      have q1 := (Below.heap_setCell w1 ⟨w.heap.size, 2, none⟩ (.slice a' ds.length c') (w.heap.size + 1) (fun e => by have e' : w.heap.size + 1 = w.heap.size := e; omega)).trans K1.out
      have o1 := Ow.grown OW.out g0 (show w.heap.size < _ by omega)
      have b1 : Below w.heap.size w (w1.setCell ⟨w.heap.size, 2, none⟩ (.slice a' ds.length c')) := HB.out.grown g0 HB.out.size (fun k e => by cases e; exact Nat.le_refl _)
      generalize w1.setCell ⟨w.heap.size, 2, none⟩ (.slice a' ds.length c') = w2 at q1 o1 b1
      have m0 := set_block (i := 0) (.string f) q1
      have m1 := set_block (i := 1) (.int .i64 e) m0
      have m2 := set_block (i := 2) (.slice a' ds.length c') m1
      have m3 := set_block (i := 3) (.int .i64 c) m2
      have m4 := set_block (i := 4) (.int .i64 u) m3
      have g4 : w2.grownBy (((((w2.setCell ⟨w.heap.size + 1, 0, none⟩ (.string f)).setCell ⟨w.heap.size + 1, 1, none⟩ (.int .i64 e)).setCell ⟨w.heap.size + 1, 2, none⟩ (.slice a' ds.length c')).setCell ⟨w.heap.size + 1, 3, none⟩ (.int .i64 c)).setCell ⟨w.heap.size + 1, 4, none⟩ (.int .i64 u)) (some (w.heap.size + 1)) :=
        grown_then (grown_then (grown_then (grown_then (grown_set _ ⟨w.heap.size + 1, 0, none⟩ _) (grown_set _ ⟨w.heap.size + 1, 1, none⟩ _)) (grown_set _ ⟨w.heap.size + 1, 2, none⟩ _)) (grown_set _ ⟨w.heap.size + 1, 3, none⟩ _)) (grown_set _ ⟨w.heap.size + 1, 4, none⟩ _)
      change _ = some (Obj.cells #[.string f, .int .i64 e, .slice a' ds.length c', .int .i64 c, .int .i64 u] 24 (0, 0)) at m4
      clear m0 m1 m2 m3 x0 x1 x2 x3 x4 y0 y1 y2 y3 y4 z2 t0 t1 t2 t3 t4
      generalize ((((w2.setCell ⟨w.heap.size + 1, 0, none⟩ (.string f)).setCell ⟨w.heap.size + 1, 1, none⟩ (.int .i64 e)).setCell ⟨w.heap.size + 1, 2, none⟩ (.slice a' ds.length c')).setCell ⟨w.heap.size + 1, 3, none⟩ (.int .i64 c)).setCell ⟨w.heap.size + 1, 4, none⟩ (.int .i64 u) = w3 at m4 g4
      obtain ⟨c0, c1, c2, c3, c4⟩ := blk5 m4
      exact bodyPost_ret (v := .agg #[.string f, .int .i64 e, .slice a' ds.length c', .int .i64 c, .int .i64 u]) (by simp [results, Tryz.f25, go_sem, c0, c1, c2, c3, c4]) rfl
        ⟨_, rfl, own_base (Ow.grown o1 g4 (by omega)) (by omega), b1.grown g4 b1.size (fun k e => by cases e; omega)⟩

end Go.Proofs.YtjhlbkjcchejjaaGreatDoor
