/- The document's own calendar: a list of events; Find. -/
import Derived.Test.YtpdcjnkgkpbdgaaGreatDoorQdC
import Derived.Deep.RegionHeld3
import Derived.Deep.AppendLies
import Derived.Carry
import Derived.Sort.Walk0
namespace Go.Proofs.YtpdcjnkgkpbdgaaGreatDoor
open Go Go.RowKit Go.Maps Cal
attribute [local go_sem] Oper.semAt_some

/-- an event as it lies -/
structure EX where
  E : EV
  sl : Value
  skv : Value
  mvv : Value
def EX.cells (X : EX) : List Value := [.string X.E.id, .string X.E.ti, .int .i64 X.E.st, .int .i64 X.E.lg, .string X.E.f, .int .i64 X.E.e, X.sl, .int .i64 X.E.c, .int .i64 X.E.u, X.skv, X.mvv]
theorem cells_at : ∀ (Xs : List EX) (j i : Nat) (hj : j < Xs.length), i < 11 → (Xs.flatMap EX.cells)[j * 11 + i]? = Xs[j].cells[i]?
  | [], j, _, hj, _ => absurd hj (Nat.not_lt_zero _)
  | X :: r, 0, i, _, hi => by
    rw [List.flatMap_cons, List.getElem?_append_left (by simp [EX.cells]; omega)]
    simp
  | X :: r, j + 1, i, hj, hi => by
    rw [List.flatMap_cons, List.getElem?_append_right (by simp [EX.cells]; omega)]
    have := cells_at r j i (by simpa using hj) hi
    rw [show (j + 1) * 11 + i - X.cells.length = j * 11 + i by simp [EX.cells]; omega, this]
    rfl
/-- a list of events that was made -/
def MR (base : Nat) (W : World) (v : Value) (Xs : List EX) : Prop := W.ownsRow base 37 11 v Xs.length (Xs.flatMap EX.cells)
theorem MR.nil (base : Nat) (W : World) : MR base W (.slice none 0 0) [] := World.ownsRow_nil _ _ _ _
theorem MR.form {base : Nat} {W : World} {v : Value} {Xs : List EX} (h : MR base W v Xs) : ∃ (a : Option Addr) (cap : Nat), v = .slice a Xs.length cap ∧ Xs.length ≤ cap ∧ ∀ (j : Nat) (hj : j < Xs.length), ∃ b : Nat, a = some ⟨b, 0, none⟩ ∧ EvAt W b (j * 11) Xs[j].E Xs[j].sl Xs[j].skv Xs[j].mvv := by
  rcases h.2 with ⟨rfl, h0⟩ | ⟨g, cap, cur, rfl, hb, hg, hcap, hmax, hsz, htake⟩
  · refine ⟨none, 0, by rw [h0], by omega, fun j hj => absurd hj (by omega)⟩
  · refine ⟨_, cap, rfl, hcap, fun j hj => ⟨g, rfl, ?_⟩⟩
    have A : ∀ i, i < 11 → W.cell? ⟨g, j * 11 + i, none⟩ = Xs[j].cells[i]? := fun i hi => by
      rw [← cells_at Xs j i hj hi]
      exact World.ownsRow.cellAt h (j * 11 + i) (by omega)
    exact ⟨A 0 (by decide), A 1 (by decide), A 2 (by decide), A 3 (by decide), A 4 (by decide), A 5 (by decide), A 6 (by decide), A 7 (by decide), A 8 (by decide), A 9 (by decide), A 10 (by decide)⟩

set_option maxHeartbeats 1000000 in
theorem find_any (base : Nat) (x : ByteArray) (v : Value) (Xs : List EX) (w : World) (hR : MR base w v Xs) (h8 : Xs.length ≤ 1000) :
    Calls Tryz.prog 115 #[.agg #[v], .string x] w fun r w' => ∃ k : Int, r = .returned (.int .i64 k) ∧ (0 ≤ k ↔ ∃ X ∈ Xs, X.E.id = x) ∧ k ≤ 1000 ∧ -1 ≤ k ∧ Below w.heap.size w w' := by
  obtain ⟨a, cap, rfl, hcap, hc⟩ := hR.form
  have HC : Hid (_) := hc
  have hA := below_alloc w (.cells #[.slice a Xs.length cap] 53)
  have HA0 : Hid (_) := hA
  have cB := cell_of (block_at (W := w) (.cells #[.slice a Xs.length cap] 53) rfl)
  clear hc hR hA
  go_enter Tryz.func115, Tryz.ntmps115
  generalize hw0 : w.alloc (.cells #[.slice a Xs.length cap] 53) = w0 at HA0 cB
  have HCB : Hid (_) := cB
  clear cB
  go_wp2
  go_loopw [5] (fun i wr => ∃ m : Nat, m ≤ Xs.length ∧ i = .int .i64 m ∧ Hid (Below w0.heap.size w0 wr) ∧ Hid (∀ (j : Nat) (h : j < Xs.length), j < m → Xs[j].E.id ≠ x)) (fun i _ => Xs.length - (intOf i).toNat)
  case atStart => exact ⟨0, Nat.zero_le _, rfl, Below.refl _ _, fun j _ h => absurd h (Nat.not_lt_zero _)⟩
  case round =>
    obtain ⟨m, hm, rfl, hB, HA⟩ := hrel
    have cB := cell_step HCB.out hB.out
    by_cases hlt : m < Xs.length
    · obtain ⟨b, rfl, hE⟩ := HC.out m hlt
      have x0 := cell_step (cell_step hE.c0 HA0.out) hB.out
      by_cases hx : Xs[m].E.id = x
      · have HT : Hid (∃ X ∈ Xs, X.E.id = x) := ⟨_, List.getElem_mem hlt, hx⟩
        rw [hx] at x0
        clear HA HC hE hx HCB
        go_wp2
        go_ret
        exact ⟨_, rfl, ⟨fun _ => HT.out, fun _ => by omega⟩, by omega, by omega, below_then HA0.out hB.out⟩
      · have HN : Hid (∀ (j : Nat) (h : j < Xs.length), j < m + 1 → Xs[j].E.id ≠ x) := fun j hj hjk => by
          by_cases ej : j = m
          · subst ej; exact hx
          · exact HA.out j hj (by omega)
        clear HA HC hE HCB
        generalize Xs[m].E.id = y at x0 hx
        have hq := txt_ne hx
        clear hx
        go_wp2
        go_roundw
        case rel => exact ⟨m + 1, by omega, by go_num, hB.out, HN.out⟩
        case measure => simp [intOf]; omega
    · have HR : Hid (¬ ∃ X ∈ Xs, X.E.id = x) := fun ⟨X, hX, q⟩ => by
        obtain ⟨j, hj, rfl⟩ := List.mem_iff_getElem.1 hX
        exact HA.out j hj (by omega) q
      clear HA HC HCB
      go_wp2
      go_ret
      exact ⟨-1, rfl, ⟨fun q => absurd q (by decide), fun q => absurd q HR.out⟩, by omega, by omega, below_then HA0.out hB.out⟩
end Go.Proofs.YtpdcjnkgkpbdgaaGreatDoor

/- The document's Without. -/
namespace Go.Proofs.YtpdcjnkgkpbdgaaGreatDoor
open Go Go.RowKit Go.Maps Cal
attribute [local go_sem] Oper.semAt_some

theorem info_event : (Tryz.prog.info? 37).map (fun i => (i.zero, i.size, i.bytes)) = some (some zV, 11, 160) := by kernel_rfl
/-- its lists are slices -/
def EX.ok (X : EX) : Prop := (∃ a n c, X.sl = .slice a n c) ∧ (∃ a n c, X.skv = .slice a n c) ∧ (∃ a n c, X.mvv = .slice a n c)
theorem MR.far {base : Nat} {W W' : World} {v : Value} {Xs : List EX} (h : MR base W v Xs) (hk : ∀ k, base ≤ k → k < W.heap.size → W'.heap[k]? = W.heap[k]?) : MR base W' v Xs := by
  refine ⟨h.1, ?_⟩
  rcases h.2 with h2 | ⟨g, cap, cur, hv, hb, hg, r⟩
  · exact .inl h2
  · exact .inr ⟨g, cap, cur, hv, hb, (hk g hb (Array.getElem?_eq_some_iff.1 hg).1).trans hg, r⟩
theorem MR.own {base : Nat} {W : World} {v : Value} {Xs : List EX} (h : MR base W v Xs) (B : Nat) (hB : B < base) : v.ownBlock ≠ some B := by
  rcases h.2 with ⟨rfl, _⟩ | ⟨g, cap, cur, rfl, hb, _⟩
  · exact fun q => by cases q
  · intro q
    have : g = B := Option.some.inj q
    omega

theorem grown_more {w0 wr W' w3 : World} {B n : Nat} {r : Option Nat} (h : w0.grownBy wr (some B)) (hn : w0.heap.size = n) (hb : Below wr.heap.size wr W') (hg : W'.grownBy w3 r) (hr : ∀ k, k < n → r ≠ some k) : w0.grownBy w3 (some B) ∧ ∀ k, k < n → w3.heap[k]? = wr.heap[k]? := by
  have hs := h.size
  have A : ∀ k, k < n → w3.heap[k]? = wr.heap[k]? := fun k hk => (hg.block k (by have := hb.size; omega) (fun q => hr k hk q.symm)).trans (hb.block k (by omega))
  exact ⟨⟨hg.os.trans (hb.os.trans h.os), hg.tape.trans (hb.tape.trans h.tape), hg.output.trans (hb.output.trans h.output), by have := hb.size; have := hg.size; omega, fun k hk h1 => (A k (by omega)).trans (h.block k hk h1)⟩, A⟩

set_option maxHeartbeats 4000000 in
set_option maxRecDepth 100000 in
theorem without_any (base : Nat) (x : ByteArray) (v : Value) (Xs : List EX) (w : World) (hR : MR base w v Xs) (h8 : Xs.length ≤ 1000) (hok : ∀ X ∈ Xs, X.ok) :
    Calls Tryz.prog 162 #[.agg #[v], .string x] w fun r w' => ∃ v', r = .returned (.agg #[v']) ∧ MR w.heap.size w' v' (Xs.filter fun X => decide (X.E.id ≠ x)) ∧ Below w.heap.size w w' := by
  obtain ⟨a, cap, rfl, hcap, hc⟩ := hR.form
  obtain ⟨i0, hi, hz0, hz1, hz2⟩ := info_parts info_event
  have HC : Hid (_) := hc
  have HOK : Hid (∀ X ∈ Xs, X.ok) := hok
  clear hc hR hok
  go_enter Tryz.func162, Tryz.ntmps162
  go_wp2
  have A3 : Below w.heap.size w (((w.alloc (.cells #[.slice a Xs.length cap] 53)).alloc (.cells #[.slice none 0 0] 53)).alloc (.cells #[.slice none 0 0] 53)) := below_then (below_then (below_alloc _ _) (below_alloc _ _)) (below_alloc _ _)
  have k0 : (((w.alloc (.cells #[.slice a Xs.length cap] 53)).alloc (.cells #[.slice none 0 0] 53)).alloc (.cells #[.slice none 0 0] 53)).heap[w.heap.size]? = some (.cells #[.slice a Xs.length cap] 53 (0, 0)) := block_alloc _ (block_alloc _ (block_at _ rfl))
  have k1 : (((w.alloc (.cells #[.slice a Xs.length cap] 53)).alloc (.cells #[.slice none 0 0] 53)).alloc (.cells #[.slice none 0 0] 53)).heap[w.heap.size + 1]? = some (.cells #[.slice none 0 0] 53 (0, 0)) := block_alloc _ (block_at _ (World.size_alloc _ _))
  have k2 : (((w.alloc (.cells #[.slice a Xs.length cap] 53)).alloc (.cells #[.slice none 0 0] 53)).alloc (.cells #[.slice none 0 0] 53)).heap[w.heap.size + 2]? = some (.cells #[.slice none 0 0] 53 (0, 0)) := block_at _ (by rw [World.size_alloc, World.size_alloc])
  have sz : (((w.alloc (.cells #[.slice a Xs.length cap] 53)).alloc (.cells #[.slice none 0 0] 53)).alloc (.cells #[.slice none 0 0] 53)).heap.size = w.heap.size + 3 := by rw [World.size_alloc, World.size_alloc, World.size_alloc]
  have K0 : Hid (_) := k0
  have K1 : Hid (_) := k1
  have K2 : Hid (_) := k2
  have A0 : Hid (_) := A3
  have SZ : Hid (_) := sz
  clear A3 k0 k1 k2 sz
  generalize ((w.alloc (.cells #[.slice a Xs.length cap] 53)).alloc (.cells #[.slice none 0 0] 53)).alloc (.cells #[.slice none 0 0] 53) = w0 at K0 K1 K2 A0 SZ
  go_loopw [6] (fun i wr => ∃ m : Nat, m ≤ Xs.length ∧ i = .int .i64 m ∧ Hid (∃ vo, wr.heap[w.heap.size + 2]? = some (.cells #[vo] 53 (0, 0)) ∧ MR (w.heap.size + 3) wr vo ((Xs.take m).filter fun X => decide (X.E.id ≠ x)) ∧ w0.grownBy wr (some (w.heap.size + 2)))) (fun i _ => Xs.length - (intOf i).toNat)
  case atStart => exact ⟨0, Nat.zero_le _, rfl, _, K2.out, MR.nil _ _, grown_below (Below.refl _ _) _⟩
  case round =>
    obtain ⟨m, hm, rfl, HV⟩ := hrel
    obtain ⟨vo, hvo, hmr, hgr⟩ := HV.out
    have KR0 : wr.heap[w.heap.size]? = some (.cells #[.slice a Xs.length cap] 53 (0, 0)) := (hgr.block _ (by have := SZ.out; omega) (fun q => by have := Option.some.inj q; omega)).trans K0.out
    have cB0 := cell_of KR0
    by_cases hlt : m < Xs.length
    · obtain ⟨b, rfl, hE⟩ := HC.out m hlt
      obtain ⟨⟨ra, rn, rc, e1⟩, ⟨sa, sn, sc, e2⟩, ⟨ma, mn, mc, e3⟩⟩ := HOK.out Xs[m] (List.getElem_mem hlt)
      have hbw : b < w.heap.size := lt_of_cell hE.c0
      have hE2 : EvAt wr b (m * 11) Xs[m].E (.slice ra rn rc) (.slice sa sn sc) (.slice ma mn mc) := by
        have hq := hE.step A0.out
        rw [e1, e2, e3] at hq
        have F : ∀ {o : Nat} {u : Value}, w0.cell? ⟨b, o, none⟩ = some u → wr.cell? ⟨b, o, none⟩ = some u := fun h => grown_cell hgr h (by omega)
        exact ⟨F hq.c0, F hq.c1, F hq.c2, F hq.c3, F hq.c4, F hq.c5, F hq.c6, F hq.c7, F hq.c8, F hq.c9, F hq.c10⟩
      by_cases hx : Xs[m].E.id = x
      · have HN : Hid ((Xs.take (m + 1)).filter (fun X => decide (X.E.id ≠ x)) = (Xs.take m).filter (fun X => decide (X.E.id ≠ x))) := by
          show _ = _
          rw [List.take_succ_eq_append_getElem hlt, List.filter_append]
          simp [hx]
        have x0 := hE2.c0
        rw [hx] at x0
        clear HC HOK hE hE2 hx e1 e2 e3 hvo hmr hgr
        go_wp2
        go_roundw
        case rel => exact ⟨m + 1, by omega, by go_num, by rw [HN.out]; exact HV.out⟩
        case measure => simp [intOf]; omega
      · have HN : Hid ((Xs.take (m + 1)).filter (fun X => decide (X.E.id ≠ x)) = (Xs.take m).filter (fun X => decide (X.E.id ≠ x)) ++ [Xs[m]]) := by
          show _ = _
          rw [List.take_succ_eq_append_getElem hlt, List.filter_append]
          simp [hx]
        have hLl : ((Xs.take m).filter (fun X => decide (X.E.id ≠ x))).length ≤ 1000 := Nat.le_trans (List.length_filter_le _ _) (by rw [List.length_take]; omega)
        have hcl : Xs[m].cells = [.string Xs[m].E.id, .string Xs[m].E.ti, .int .i64 Xs[m].E.st, .int .i64 Xs[m].E.lg, .string Xs[m].E.f, .int .i64 Xs[m].E.e, .slice ra rn rc, .int .i64 Xs[m].E.c, .int .i64 Xs[m].E.u, .slice sa sn sc, .slice ma mn mc] := by unfold EX.cells; rw [e1, e2, e3]
        have HCL : Hid (Xs[m].cells = _) := hcl
        obtain ⟨oa, oc, rfl, _, _⟩ := hmr.form
        clear HC HOK hE e1 e2 e3 HV hcl
        generalize (Xs.take m).filter (fun X => decide (X.E.id ≠ x)) = L at hvo hmr HN hLl
        generalize Xs[m] = X at hE2 hx HN HCL
        obtain ⟨E, xsl, xsk, xmv⟩ := X
        dsimp only at hE2 hx HCL
        have hq := txt_ne hx
        have hsw : w.heap.size + 3 ≤ wr.heap.size := by rw [← SZ.out]; exact hgr.size
        have KS : Hid (∀ W : World, (∀ k, k < w.heap.size + 2 → W.heap[k]? = wr.heap[k]?) → W.cell? ⟨w.heap.size, 0, none⟩ = some (.slice (some ⟨b, 0, none⟩) Xs.length cap) ∧ W.cell? ⟨b, m * 11, none⟩ = some (.string E.id) ∧ W.cell? ⟨b, m * 11 + 1, none⟩ = some (.string E.ti) ∧ W.cell? ⟨b, m * 11 + 2, none⟩ = some (.int .i64 E.st) ∧ W.cell? ⟨b, m * 11 + 3, none⟩ = some (.int .i64 E.lg) ∧ W.cell? ⟨b, m * 11 + 4, none⟩ = some (.string E.f) ∧ W.cell? ⟨b, m * 11 + 5, none⟩ = some (.int .i64 E.e) ∧ W.cell? ⟨b, m * 11 + 6, none⟩ = some (.slice ra rn rc) ∧ W.cell? ⟨b, m * 11 + 7, none⟩ = some (.int .i64 E.c) ∧ W.cell? ⟨b, m * 11 + 8, none⟩ = some (.int .i64 E.u) ∧ W.cell? ⟨b, m * 11 + 9, none⟩ = some (.slice sa sn sc) ∧ W.cell? ⟨b, m * 11 + 10, none⟩ = some (.slice ma mn mc)) := fun W hW => by
          have F : ∀ {o : Nat} {u : Value}, wr.cell? ⟨b, o, none⟩ = some u → W.cell? ⟨b, o, none⟩ = some u := fun h => (World.cell?_of_block (a := ⟨b, _, none⟩) (hW b (by omega))).trans h
          exact ⟨cell_of ((hW _ (by omega)).trans KR0), F hE2.c0, F hE2.c1, F hE2.c2, F hE2.c3, F hE2.c4, F hE2.c5, F hE2.c6, F hE2.c7, F hE2.c8, F hE2.c9, F hE2.c10⟩
        obtain ⟨x0, x1, x2, x3, x4, x5, x6, x7, x8, x9, x10⟩ := hE2
        have HMR : Hid (MR (w.heap.size + 3) wr (.slice oa L.length oc) L) := hmr
        have HGR : Hid (w0.grownBy wr (some (w.heap.size + 2))) := hgr
        have HHX : Hid (E.id ≠ x) := hx
        have HVO : Hid (_) := hvo
        have cB2 : wr.cell? ⟨w.heap.size + 1 + 1, 0, none⟩ = some (.slice oa L.length oc) := cell_of hvo
        have HOWN : Hid (∀ W, Below wr.heap.size wr W → W.ownsRow (w.heap.size + 3) 37 11 (.slice oa L.length oc) L.length (L.flatMap EX.cells)) := fun W hW => hmr.far (fun k _ hk => hW.block k hk)
        have HONE : Hid (∀ u ∈ ([.string E.id, .string E.ti, .int .i64 E.st, .int .i64 E.lg, .string E.f, .int .i64 E.e, .slice ra rn rc, .int .i64 E.c, .int .i64 E.u, .slice sa sn sc, .slice ma mn mc] : List Value), u.oneCell' = true) := fun u hu => by
          simp only [List.mem_cons, List.not_mem_nil, or_false] at hu
          rcases hu with rfl | rfl | rfl | rfl | rfl | rfl | rfl | rfl | rfl | rfl | rfl <;> rfl
        have HMAX : Hid (L.length + 1 ≤ maxLen) := by show L.length + 1 ≤ maxLen; unfold maxLen; omega
        have HBY : Hid ((L.length + 1) * 160 ≤ 140737488355328) := by show (L.length + 1) * 160 ≤ _; omega
        have HFR : Hid (∀ k, k < w.heap.size + 3 → (Value.slice oa L.length oc).ownBlock ≠ some k) := fun k hk => hmr.own k hk
        have cB3 : (wr.alloc (.cells #[.string E.id, .string E.ti, .int .i64 E.st, .int .i64 E.lg, .string E.f, .int .i64 E.e, .slice ra rn rc, .int .i64 E.c, .int .i64 E.u, .slice sa sn sc, .slice ma mn mc] 37)).cell? ⟨w.heap.size + 1 + 1, 0, none⟩ = some (.slice oa L.length oc) := cell_alloc _ cB2
        have REL : Hid (∀ (w3 : World) (gb capb : Nat), w3.ownsRow (w.heap.size + 3) 37 11 (.slice (some ⟨gb, 0, none⟩) (L.length + 1) capb) (L.length + 1) (L.flatMap EX.cells ++ [.string E.id, .string E.ti, .int .i64 E.st, .int .i64 E.lg, .string E.f, .int .i64 E.e, .slice ra rn rc, .int .i64 E.c, .int .i64 E.u, .slice sa sn sc, .slice ma mn mc]) → w0.grownBy w3 (some (w.heap.size + 2)) → (∀ k, k < w.heap.size + 3 → w3.heap[k]? = wr.heap[k]?) →
            ∃ vo, (w3.setCell ⟨w.heap.size + 1 + 1, 0, none⟩ (.slice (some ⟨gb, 0, none⟩) (L.length + 1) capb)).heap[w.heap.size + 2]? = some (.cells #[vo] 53 (0, 0)) ∧ MR (w.heap.size + 3) (w3.setCell ⟨w.heap.size + 1 + 1, 0, none⟩ (.slice (some ⟨gb, 0, none⟩) (L.length + 1) capb)) vo ((Xs.take (m + 1)).filter fun X => decide (X.E.id ≠ x)) ∧ w0.grownBy (w3.setCell ⟨w.heap.size + 1 + 1, 0, none⟩ (.slice (some ⟨gb, 0, none⟩) (L.length + 1) capb)) (some (w.heap.size + 2))) := fun w3 gb capb h1 h2 h3 => by
          refine ⟨_, set_block (i := 0) _ ((h3 _ (by omega)).trans HVO.out), ?_, grown_then h2 (grown_set w3 ⟨w.heap.size + 1 + 1, 0, none⟩ _)⟩
          rw [HN.out]
          refine MR.far (W := w3) ?_ (fun k hk _ => Below.heap_setCell _ _ _ k (by intro q; have q' : k = w.heap.size + 1 + 1 := q; omega))
          show w3.ownsRow _ _ _ _ _ _
          rw [List.length_append, List.flatMap_append, List.flatMap_cons, HCL.out]
          exact h1
        clear hx hmr hgr hvo KR0
        go_wp2_with fail
        go_region_law
          ((refine step_append_lies _ (by rfl) _ _ 49 (by rfl) (w.heap.size + 3) 37 i0 zV 11 160 Tryz.underlying49 hi hz0 hz1 hz2 rfl (by decide) (.slice oa L.length oc) L.length (L.flatMap EX.cells) (by rfl) (HOWN.out _ (by (first | with_reducible exact below_then (drew_below _) (below_alloc _ _) | with_reducible exact below_then (below_alloc _ _) (drew_below _)))) ⟨wr.heap.size, 0, none⟩ 1 1 [.string E.id, .string E.ti, .int .i64 E.st, .int .i64 E.lg, .string E.f, .int .i64 E.e, .slice ra rn rc, .int .i64 E.c, .int .i64 E.u, .slice sa sn sc, .slice ma mn mc] (by rfl) rfl (World.news_of_block (cs := #[.string E.id, .string E.ti, .int .i64 E.st, .int .i64 E.lg, .string E.f, .int .i64 E.e, .slice ra rn rc, .int .i64 E.c, .int .i64 E.u, .slice sa sn sc, .slice ma mn mc]) (by first | exact block_at _ rfl | exact (block_at (W := wr) _ rfl))) HONE.out (by decide) HMAX.out HBY.out (Nat.le_trans hsw (Below.size (B := wr.heap.size) (w := wr) (by (first | with_reducible exact below_then (drew_below _) (below_alloc _ _) | with_reducible exact below_then (below_alloc _ _) (drew_below _))))) _ rfl ?_; intro gb capb w3 hown hgrow hat hlt3; have HG8 : Hid (_) := grown_more HGR.out SZ.out (by (first | with_reducible exact below_then (drew_below _) (below_alloc _ _) | with_reducible exact below_then (below_alloc _ _) (drew_below _))) hgrow HFR.out; have hW8 := HG8.out.2; have cw3 : w3.cell? ⟨w.heap.size + 1 + 1, 0, none⟩ = some (.slice oa L.length oc) := cell_of ((hW8 _ (by omega)).trans HVO.out); have fw3 : w3.frozen? ⟨w.heap.size + 1 + 1, 0, none⟩ = false := blk11_frozen ((hW8 _ (by omega)).trans HVO.out) 0))
        all_goals
          have H3 : Hid (_) := REL.out w3 gb capb hown HG8.out.1 HG8.out.2
          clear hown hgrow hat hlt3 HG8 hW8 cw3 fw3
          go_wp2
          go_roundw <;> first | exact ⟨m + 1, by omega, by go_num, H3.out⟩ | (simp [intOf]; omega)
    · have hfin : (Xs.take m).filter (fun X => decide (X.E.id ≠ x)) = Xs.filter (fun X => decide (X.E.id ≠ x)) := by rw [List.take_of_length_le (by omega)]
      rw [hfin] at hmr
      have k1 : wr.heap[w.heap.size + 1]? = some (.cells #[.slice none 0 0] 53 (0, 0)) := (hgr.block _ (by have := SZ.out; omega) (fun q => by have := Option.some.inj q; omega)).trans K1.out
      have cB1 := cell_of k1
      have fB1 := blk11_frozen k1 0
      have cB2 : wr.cell? ⟨w.heap.size + 1 + 1, 0, none⟩ = some vo := cell_of hvo
      obtain ⟨oa, oc, rfl, _, _⟩ := hmr.form
      have cN : (wr.setCell ⟨w.heap.size + 1, 0, none⟩ (.slice oa (Xs.filter (fun X => decide (X.E.id ≠ x))).length oc)).cell? ⟨w.heap.size + 1, 0, none⟩ = some (.slice oa (Xs.filter (fun X => decide (X.E.id ≠ x))).length oc) := cell_of (set_block (i := 0) _ k1)
      have HM : Hid (MR w.heap.size (wr.setCell ⟨w.heap.size + 1, 0, none⟩ (.slice oa (Xs.filter (fun X => decide (X.E.id ≠ x))).length oc)) (.slice oa (Xs.filter (fun X => decide (X.E.id ≠ x))).length oc) (Xs.filter (fun X => decide (X.E.id ≠ x)))) := own_base (hmr.far (fun k hk _ => Below.heap_setCell _ _ _ k (by intro q; have q' : k = w.heap.size + 1 := q; omega))) (by omega)
      have HBL : Hid (Below w.heap.size w (wr.setCell ⟨w.heap.size + 1, 0, none⟩ (.slice oa (Xs.filter (fun X => decide (X.E.id ≠ x))).length oc))) := by
        have g1 := grown_set wr ⟨w.heap.size + 1, 0, none⟩ (.slice oa (Xs.filter (fun X => decide (X.E.id ≠ x))).length oc)
        have hs := SZ.out
        have hs1 := hgr.size
        exact ⟨g1.os.trans (hgr.os.trans A0.out.os), g1.tape.trans (hgr.tape.trans A0.out.tape), g1.output.trans (hgr.output.trans A0.out.output), by have := g1.size; omega, fun k hk => (g1.block k (by omega) (fun q => by have : k = w.heap.size + 1 := Option.some.inj q; omega)).trans ((hgr.block k (by omega) (fun q => by have : k = w.heap.size + 2 := Option.some.inj q; omega)).trans (A0.out.block k hk))⟩
      clear HC HOK HV hvo hmr hgr hfin k1 KR0
      generalize (Xs.filter (fun X => decide (X.E.id ≠ x))).length = fl at cB2 cN HM HBL
      go_wp2
      refine bodyPost_ret (v := .agg #[.slice oa fl oc]) (by simp [results, Tryz.f162, go_sem, cN]) rfl ⟨_, rfl, HM.out, HBL.out⟩
end Go.Proofs.YtpdcjnkgkpbdgaaGreatDoor

/- The document's With: where an event is put in. -/
namespace Go.Proofs.YtpdcjnkgkpbdgaaGreatDoor
open Go Go.RowKit Go.Maps Cal
attribute [local go_sem] Oper.semAt_some

/-- does X's ID stand ahead of Y's? -/
def EX.lt (X Y : EX) : Bool := Op.bytesLess X.E.id.toList Y.E.id.toList
/-- X put in ahead of the first one that it stands ahead of -/
def ins (X : EX) : List EX → List EX
  | [] => [X]
  | Y :: r => if X.lt Y then X :: Y :: r else Y :: ins X r
/-- what is still to come of it: put says whether X is in -/
def insW (X : EX) (put : Bool) (l : List EX) : List EX := if put then l else ins X l
theorem ins_len (X : EX) : ∀ l, (ins X l).length = l.length + 1
  | [] => rfl
  | Y :: r => by
    unfold ins
    split
    · rfl
    · rw [List.length_cons, ins_len X r]; rfl
theorem ins_mem {X Z : EX} : ∀ {l : List EX}, Z ∈ ins X l ↔ Z = X ∨ Z ∈ l
  | [] => by simp [ins]
  | Y :: r => by
    unfold ins
    split
    · simp
    · rw [List.mem_cons, ins_mem, List.mem_cons]
      constructor
      · rintro (h | h | h)
        · exact .inr (.inl h)
        · exact .inl h
        · exact .inr (.inr h)
      · rintro (h | h | h)
        · exact .inr (.inl h)
        · exact .inl h
        · exact .inr (.inr h)
theorem insW_step {X Y : EX} {put g : Bool} {L : List EX} (hg : g = (!put && X.lt Y)) : insW X put (Y :: L) = (if g then [X] else []) ++ Y :: insW X (put || g) L := by
  subst hg
  cases put with
  | true => simp [insW]
  | false =>
    cases h : X.lt Y <;> simp [insW, ins, h]

theorem EX.one (X : EX) (h : X.ok) : ∀ u ∈ X.cells, u.oneCell' = true := fun u hu => by
  obtain ⟨⟨_, _, _, e1⟩, ⟨_, _, _, e2⟩, ⟨_, _, _, e3⟩⟩ := h
  unfold EX.cells at hu
  rw [e1, e2, e3] at hu
  simp only [List.mem_cons, List.not_mem_nil, or_false] at hu
  rcases hu with rfl | rfl | rfl | rfl | rfl | rfl | rfl | rfl | rfl | rfl | rfl <;> rfl
/-- the loop of With: the list that was made, and what is still to come of it -/
def WSt (w2 : World) (bo : Nat) (T R : List EX) (wr : World) : Prop :=
  ∃ vo out, wr.heap[bo]? = some (.cells #[vo] 53 (0, 0)) ∧ MR (bo + 1) wr vo out ∧ out ++ R = T ∧ w2.grownBy wr (some bo)
theorem wst_app {w2 wr w3 : World} {bo gb capb : Nat} {T R out : List EX} {Z : EX} {vo : Value} (hvo : wr.heap[bo]? = some (.cells #[vo] 53 (0, 0))) (hT : out ++ Z :: R = T)
    (h1 : w3.ownsRow (bo + 1) 37 11 (.slice (some ⟨gb, 0, none⟩) (out.length + 1) capb) (out.length + 1) (out.flatMap EX.cells ++ Z.cells)) (h2 : w2.grownBy w3 (some bo)) (h3 : ∀ k, k < bo + 1 → w3.heap[k]? = wr.heap[k]?) :
    WSt w2 bo T R (w3.setCell ⟨bo, 0, none⟩ (.slice (some ⟨gb, 0, none⟩) (out.length + 1) capb)) := by
  refine ⟨_, out ++ [Z], set_block (i := 0) _ ((h3 _ (by omega)).trans hvo), ?_, by rw [← hT]; simp, grown_then h2 (grown_set w3 ⟨bo, 0, none⟩ _)⟩
  refine MR.far (W := w3) ?_ (fun k hk _ => Below.heap_setCell _ _ _ k (by intro q; have q' : k = bo := q; omega))
  show w3.ownsRow _ _ _ _ _ _
  rw [List.length_append, List.flatMap_append, List.flatMap_cons, List.flatMap_nil, List.append_nil]
  exact h1

set_option maxHeartbeats 4000000 in
set_option maxRecDepth 100000 in
theorem with_any (base : Nat) (E : EV) (ra : Option Addr) (rn rc : Nat) (sa : Option Addr) (sn sc : Nat) (ma : Option Addr) (mn mc : Nat) (v : Value) (Xs : List EX) (w : World) (hR : MR base w v Xs) (h8 : Xs.length ≤ 1000) (hok : ∀ X ∈ Xs, X.ok) :
    Calls Tryz.prog 116 #[.agg #[v], ev E (.slice ra rn rc) (.slice sa sn sc) (.slice ma mn mc)] w fun r w' => ∃ v', r = .returned (.agg #[v']) ∧ MR w.heap.size w' v' (ins ⟨E, .slice ra rn rc, .slice sa sn sc, .slice ma mn mc⟩ (Xs.filter fun X => decide (X.E.id ≠ E.id))) ∧ Below w.heap.size w w' := by
  obtain ⟨i0, hi, hz0, hz1, hz2⟩ := info_parts info_event
  obtain ⟨a, cap, rfl, hcap, _⟩ := hR.form
  unfold ev
  have A3 : Below w.heap.size w (((w.alloc (.cells #[.slice a Xs.length cap] 53)).alloc (.cells #[.string E.id, .string E.ti, .int .i64 E.st, .int .i64 E.lg, .string E.f, .int .i64 E.e, .slice ra rn rc, .int .i64 E.c, .int .i64 E.u, .slice sa sn sc, .slice ma mn mc] 37)).alloc (.cells #[.slice none 0 0] 53)) := below_then (below_then (below_alloc _ _) (below_alloc _ _)) (below_alloc _ _)
  have k0 : (((w.alloc (.cells #[.slice a Xs.length cap] 53)).alloc (.cells #[.string E.id, .string E.ti, .int .i64 E.st, .int .i64 E.lg, .string E.f, .int .i64 E.e, .slice ra rn rc, .int .i64 E.c, .int .i64 E.u, .slice sa sn sc, .slice ma mn mc] 37)).alloc (.cells #[.slice none 0 0] 53)).heap[w.heap.size]? = some (.cells #[.slice a Xs.length cap] 53 (0, 0)) := block_alloc _ (block_alloc _ (block_at _ rfl))
  have k1 : (((w.alloc (.cells #[.slice a Xs.length cap] 53)).alloc (.cells #[.string E.id, .string E.ti, .int .i64 E.st, .int .i64 E.lg, .string E.f, .int .i64 E.e, .slice ra rn rc, .int .i64 E.c, .int .i64 E.u, .slice sa sn sc, .slice ma mn mc] 37)).alloc (.cells #[.slice none 0 0] 53)).heap[w.heap.size + 1]? = some (.cells #[.string E.id, .string E.ti, .int .i64 E.st, .int .i64 E.lg, .string E.f, .int .i64 E.e, .slice ra rn rc, .int .i64 E.c, .int .i64 E.u, .slice sa sn sc, .slice ma mn mc] 37 (0, 0)) := block_alloc _ (block_at _ (World.size_alloc _ _))
  have k2 : (((w.alloc (.cells #[.slice a Xs.length cap] 53)).alloc (.cells #[.string E.id, .string E.ti, .int .i64 E.st, .int .i64 E.lg, .string E.f, .int .i64 E.e, .slice ra rn rc, .int .i64 E.c, .int .i64 E.u, .slice sa sn sc, .slice ma mn mc] 37)).alloc (.cells #[.slice none 0 0] 53)).heap[w.heap.size + 2]? = some (.cells #[.slice none 0 0] 53 (0, 0)) := block_at _ (by rw [World.size_alloc, World.size_alloc])
  have sz : (((w.alloc (.cells #[.slice a Xs.length cap] 53)).alloc (.cells #[.string E.id, .string E.ti, .int .i64 E.st, .int .i64 E.lg, .string E.f, .int .i64 E.e, .slice ra rn rc, .int .i64 E.c, .int .i64 E.u, .slice sa sn sc, .slice ma mn mc] 37)).alloc (.cells #[.slice none 0 0] 53)).heap.size = w.heap.size + 3 := by rw [World.size_alloc, World.size_alloc, World.size_alloc]
  have WO : Hid (Calls _ _ _ _ _) := without_any base E.id (.slice a Xs.length cap) Xs _ (hR.far (fun k _ hk => A3.block k hk)) h8 hok
  have hokY : ∀ X ∈ Xs.filter (fun X => decide (X.E.id ≠ E.id)), X.ok := fun X hX => hok X (List.mem_filter.1 hX).1
  have h8Y : (Xs.filter (fun X => decide (X.E.id ≠ E.id))).length ≤ 1000 := Nat.le_trans (List.length_filter_le _ _) h8
  have K0 : Hid (_) := k0
  have K1 : Hid (_) := k1
  have K2 : Hid (_) := k2
  have A0 : Hid (_) := A3
  have SZ : Hid (_) := sz
  have HOKY : Hid (_) := hokY
  obtain ⟨e0, e1, e2, e3, e4, e5, e6, e7, e8, e9, e10⟩ := blk11 k1
  have cB0 := cell_of k0
  clear A3 k0 k1 k2 sz hR hok hokY
  generalize Xs.filter (fun X => decide (X.E.id ≠ E.id)) = Ys at WO HOKY h8Y ⊢
  obtain ⟨X, hX⟩ : ∃ X : EX, X = ⟨E, .slice ra rn rc, .slice sa sn sc, .slice ma mn mc⟩ := ⟨_, rfl⟩
  rw [← hX]
  have HX : Hid (X = ⟨E, .slice ra rn rc, .slice sa sn sc, .slice ma mn mc⟩) := hX
  generalize hT : ins X Ys = T
  have HT : Hid (ins X Ys = T) := hT
  clear hX hT
  go_enter Tryz.func116, Tryz.ntmps116
  generalize hw0 : ((w.alloc (.cells #[.slice a Xs.length cap] 53)).alloc (.cells #[.string E.id, .string E.ti, .int .i64 E.st, .int .i64 E.lg, .string E.f, .int .i64 E.e, .slice ra rn rc, .int .i64 E.c, .int .i64 E.u, .slice sa sn sc, .slice ma mn mc] 37)).alloc (.cells #[.slice none 0 0] 53) = w0 at WO K0 K1 K2 A0 SZ cB0 e0 e1 e2 e3 e4 e5 e6 e7 e8 e9 e10
  go_upto_region 2 with (go_at_call 162; refine Calls.mono WO.out ?_; rintro r w1 ⟨v1, rfl, hm1, hb1⟩; obtain ⟨a1, c1, rfl, hcap1, hc1⟩ := hm1.form)
  have KX1 : w1.heap[w.heap.size + 1]? = some (.cells #[.string E.id, .string E.ti, .int .i64 E.st, .int .i64 E.lg, .string E.f, .int .i64 E.e, .slice ra rn rc, .int .i64 E.c, .int .i64 E.u, .slice sa sn sc, .slice ma mn mc] 37 (0, 0)) := (hb1.block _ (by rw [SZ.out]; omega)).trans K1.out
  have K21 : w1.heap[w.heap.size + 2]? = some (.cells #[.slice none 0 0] 53 (0, 0)) := (hb1.block _ (by rw [SZ.out]; omega)).trans K2.out
  have hs1 : w.heap.size + 3 ≤ w1.heap.size := by rw [← SZ.out]; exact hb1.size
  have B1 : Below w.heap.size w w1 := below_then A0.out hb1
  clear WO K0 K1 K2 A0 SZ cB0 e0 e1 e2 e3 e4 e5 e6 e7 e8 e9 e10 hw0 hb1
  have KX2 : Hid (((w1.alloc (.cells #[.slice a1 Ys.length c1] 53)).alloc (.cells #[.slice none 0 0] 53)).heap[w.heap.size + 1]? = some (.cells #[.string E.id, .string E.ti, .int .i64 E.st, .int .i64 E.lg, .string E.f, .int .i64 E.e, .slice ra rn rc, .int .i64 E.c, .int .i64 E.u, .slice sa sn sc, .slice ma mn mc] 37 (0, 0))) := block_alloc _ (block_alloc _ KX1)
  have K22 : Hid (((w1.alloc (.cells #[.slice a1 Ys.length c1] 53)).alloc (.cells #[.slice none 0 0] 53)).heap[w.heap.size + 2]? = some (.cells #[.slice none 0 0] 53 (0, 0))) := block_alloc _ (block_alloc _ K21)
  have K5 : Hid (((w1.alloc (.cells #[.slice a1 Ys.length c1] 53)).alloc (.cells #[.slice none 0 0] 53)).heap[w1.heap.size]? = some (.cells #[.slice a1 Ys.length c1] 53 (0, 0))) := block_alloc _ (block_at _ rfl)
  have K6 : Hid (((w1.alloc (.cells #[.slice a1 Ys.length c1] 53)).alloc (.cells #[.slice none 0 0] 53)).heap[w1.heap.size + 1]? = some (.cells #[.slice none 0 0] 53 (0, 0))) := block_at _ (World.size_alloc _ _)
  have SZ2 : Hid (((w1.alloc (.cells #[.slice a1 Ys.length c1] 53)).alloc (.cells #[.slice none 0 0] 53)).heap.size = w1.heap.size + 2) := by show _ = _; rw [World.size_alloc, World.size_alloc]
  have B2 : Hid (Below w.heap.size w ((w1.alloc (.cells #[.slice a1 Ys.length c1] 53)).alloc (.cells #[.slice none 0 0] 53))) := below_then B1 (below_then (below_alloc _ _) (below_alloc _ _))
  have HC2 : Hid (∀ (j : Nat) (hj : j < Ys.length), ∃ b, a1 = some ⟨b, 0, none⟩ ∧ b < w1.heap.size ∧ EvAt ((w1.alloc (.cells #[.slice a1 Ys.length c1] 53)).alloc (.cells #[.slice none 0 0] 53)) b (j * 11) Ys[j].E Ys[j].sl Ys[j].skv Ys[j].mvv) := fun j hj => by
    obtain ⟨b, q1, q2⟩ := hc1 j hj
    exact ⟨b, q1, lt_of_cell q2.c0, q2.step (below_then (below_alloc _ _) (below_alloc _ _))⟩
  clear KX1 K21 hc1 hm1 B1
  go_wp2
  generalize hw2 : (w1.alloc (.cells #[.slice a1 Ys.length c1] 53)).alloc (.cells #[.slice none 0 0] 53) = w2 at KX2 K22 K5 K6 SZ2 B2 HC2 ⊢
  go_loopw [7, 8] (fun p i wr => ∃ (m : Nat) (put : Bool), m ≤ Ys.length ∧ p = .bool put ∧ i = .int .i64 m ∧ Hid (WSt w2 (w1.heap.size + 1) T (insW X put (Ys.drop m)) wr)) (fun _ i _ => Ys.length - (intOf i).toNat)
  case atStart => exact ⟨0, false, Nat.zero_le _, rfl, rfl, _, [], K6.out, MR.nil _ _, by rw [← HT.out]; rfl, grown_below (Below.refl _ _) _⟩
  case round =>
    obtain ⟨m, put, hm, rfl, rfl, HV⟩ := hrel
    obtain ⟨vo, out, hvo, hmr, hap, hgr⟩ := HV.out
    have KR5 : wr.heap[w1.heap.size]? = some (.cells #[.slice a1 Ys.length c1] 53 (0, 0)) := (hgr.block _ (by have := SZ2.out; omega) (fun q => by have := Option.some.inj q; omega)).trans K5.out
    have KRX : wr.heap[w.heap.size + 1]? = some (.cells #[.string E.id, .string E.ti, .int .i64 E.st, .int .i64 E.lg, .string E.f, .int .i64 E.e, .slice ra rn rc, .int .i64 E.c, .int .i64 E.u, .slice sa sn sc, .slice ma mn mc] 37 (0, 0)) := (hgr.block _ (by have := SZ2.out; omega) (fun q => by have := Option.some.inj q; omega)).trans KX2.out
    have cB5 := cell_of KR5
    have hsw : w1.heap.size + 2 ≤ wr.heap.size := by rw [← SZ2.out]; exact hgr.size
    have hlT : out.length ≤ 1000 + 1 := by
      have h1 : (out ++ insW X put (Ys.drop m)).length = T.length := by rw [hap]
      have h2 : T.length = Ys.length + 1 := by rw [← HT.out, ins_len]
      rw [List.length_append] at h1
      omega
    by_cases hlt : m < Ys.length
    · obtain ⟨b, rfl, hbw, hE⟩ := HC2.out m hlt
      obtain ⟨⟨rb, rbn, rbc, e1⟩, ⟨sb, sbn, sbc, e2⟩, ⟨mb, mbn, mbc, e3⟩⟩ := HOKY.out Ys[m] (List.getElem_mem hlt)
      have hE2 : EvAt wr b (m * 11) Ys[m].E (.slice rb rbn rbc) (.slice sb sbn sbc) (.slice mb mbn mbc) := by
        rw [e1, e2, e3] at hE
        have Fc : ∀ {o : Nat} {u : Value}, w2.cell? ⟨b, o, none⟩ = some u → wr.cell? ⟨b, o, none⟩ = some u := fun h => grown_cell hgr h (by omega)
        exact ⟨Fc hE.c0, Fc hE.c1, Fc hE.c2, Fc hE.c3, Fc hE.c4, Fc hE.c5, Fc hE.c6, Fc hE.c7, Fc hE.c8, Fc hE.c9, Fc hE.c10⟩
      have hdr : Ys.drop m = Ys[m] :: Ys.drop (m + 1) := List.drop_eq_getElem_cons hlt
      obtain ⟨g, hg⟩ : ∃ g : Bool, g = (!put && X.lt Ys[m]) := ⟨_, rfl⟩
      have hap2 := hap
      rw [hdr, insW_step hg] at hap2
      have HE : Hid (EvAt w2 b (m * 11) Ys[m].E (.slice rb rbn rbc) (.slice sb sbn sbc) (.slice mb mbn mbc)) := by rw [← e1, ← e2, ← e3]; exact hE
      have HY : Hid (Ys[m] = ⟨Ys[m].E, .slice rb rbn rbc, .slice sb sbn sbc, .slice mb mbn mbc⟩) := by
        show Ys[m] = _
        rw [← e1, ← e2, ← e3]
      clear HV hap hdr e1 e2 e3 hE
      have HG : Hid (g = (!put && X.lt Ys[m])) := hg
      clear hg
      generalize hYm : Ys[m] = Y at hE2 HE HY HG hap2
      generalize hFm : Y.E = F at hE2 HE HY
      have HF : Hid (Y.E = F) := hFm
      clear hYm hFm
      generalize hRm : Ys.drop (m + 1) = R at hap2
      have HR : Hid (Ys.drop (m + 1) = R) := hRm
      clear hRm
      obtain ⟨y0, y1, y2, y3, y4, y5, y6, y7, y8, y9, y10⟩ := hE2
      obtain ⟨e0, e1, e2, e3, e4, e5, e6, e7, e8, e9, e10⟩ := blk11 KRX
      have HVO : Hid (_) := hvo
      have HMR : Hid (_) := hmr
      have HAP : Hid (_) := hap2
      have HGR : Hid (_) := hgr
      have HKX : Hid (_) := KRX
      have HK5 : Hid (_) := KR5
      clear hvo hmr hap2 hgr KRX KR5
      have HB : Hid (g = (!put && Op.bytesLess E.id.toList F.id.toList)) := by
        show g = _
        rw [HG.out, HX.out, ← HF.out]; rfl
      go_upto_region 7 with fail
      go_cut [33] (fun v wx => v = .bool g ∧ Hid (Below wr.heap.size wr wx))
      case first =>
        cases put with
        | true =>
          have hq := HB.out
          simp only [Bool.not_true, Bool.false_and] at hq
          have HQ : Hid (g = false) := hq
          clear hq HB
          go_quiet (fail)
          go_wp2
          go_meet
          case rel => exact ⟨by rw [HQ.out], drewN_below _ _⟩
        | false =>
          have hq := HB.out
          simp only [Bool.not_false, Bool.true_and] at hq
          have HQ : Hid (g = Op.bytesLess E.id.toList F.id.toList) := hq
          clear hq HB
          go_quiet (fail)
          go_wp2
          go_meet
          case rel => exact ⟨by rw [HQ.out], drewN_below _ _⟩
      case rest =>
        obtain ⟨rfl, HBc⟩ := hcut
        have KXc : wc.heap[w.heap.size + 1]? = some (.cells #[.string E.id, .string E.ti, .int .i64 E.st, .int .i64 E.lg, .string E.f, .int .i64 E.e, .slice ra rn rc, .int .i64 E.c, .int .i64 E.u, .slice sa sn sc, .slice ma mn mc] 37 (0, 0)) := (HBc.out.block _ (by omega)).trans HKX.out
        have HK5c : Hid (wc.heap[w1.heap.size]? = _) := (HBc.out.block _ (by omega)).trans HK5.out
        have hvoc : wc.heap[w1.heap.size + 1]? = some (.cells #[vo] 53 (0, 0)) := (HBc.out.block _ (by omega)).trans HVO.out
        have hmrc : MR (w1.heap.size + 1 + 1) wc vo out := MR.far HMR.out (fun k _ hk => HBc.out.block k hk)
        have hgrc : w2.grownBy wc (some (w1.heap.size + 1)) := grown_then HGR.out (grown_below HBc.out _)
        have hswc : w1.heap.size + 2 ≤ wc.heap.size := Nat.le_trans hsw HBc.out.size
        have HYC : Hid (EvAt wc b (m * 11) F (.slice rb rbn rbc) (.slice sb sbn sbc) (.slice mb mbn mbc)) := EvAt.step ⟨y0, y1, y2, y3, y4, y5, y6, y7, y8, y9, y10⟩ HBc.out
        clear y0 y1 y2 y3 y4 y5 y6 y7 y8 y9 y10 e0 e1 e2 e3 e4 e5 e6 e7 e8 e9 e10 cB5 HKX HK5 HVO HMR HGR hsw HB
        go_upto_if 33 with fail
        go_cut [7] (fun q wx => q = .bool (put || g) ∧ Hid (WSt w2 (w1.heap.size + 1) T (Y :: insW X (put || g) R) wx))
        case first =>
          cases g with
          | false =>
            have HST : Hid (WSt w2 (w1.heap.size + 1) T (Y :: insW X put R) wc) := ⟨vo, out, hvoc, hmrc, by have := HAP.out; simpa using this, hgrc⟩
            clear hvoc hmrc hgrc KXc
            go_wp2
            go_meet
            case rel => exact ⟨by rw [Bool.or_false], by rw [Bool.or_false]; exact HST.out⟩
          | true =>
            obtain ⟨oa, oc, rfl, _, _⟩ := hmrc.form
            have HAP2 : Hid (out ++ X :: (Y :: insW X (put || true) R) = T) := by show _ = T; have := HAP.out; simpa using this
            have HVO : Hid (_) := hvoc
            have HGR : Hid (_) := hgrc
            have hT1 : out.length ≤ 1001 := hlT
            have HFR : Hid (∀ k, k < w1.heap.size + 1 + 1 → (Value.slice oa out.length oc).ownBlock ≠ some k) := fun k hk => hmrc.own k hk
            have HOWN : Hid (∀ W, Below wc.heap.size wc W → W.ownsRow (w1.heap.size + 1 + 1) 37 11 (.slice oa out.length oc) out.length (out.flatMap EX.cells)) := fun W hW => hmrc.far (fun k _ hk => hW.block k hk)
            have HONE : Hid (∀ u ∈ ([.string E.id, .string E.ti, .int .i64 E.st, .int .i64 E.lg, .string E.f, .int .i64 E.e, .slice ra rn rc, .int .i64 E.c, .int .i64 E.u, .slice sa sn sc, .slice ma mn mc] : List Value), u.oneCell' = true) := fun u hu => by
              simp only [List.mem_cons, List.not_mem_nil, or_false] at hu
              rcases hu with rfl | rfl | rfl | rfl | rfl | rfl | rfl | rfl | rfl | rfl | rfl <;> rfl
            have HMAX : Hid (out.length + 1 ≤ maxLen) := by show out.length + 1 ≤ maxLen; unfold maxLen; omega
            have HBY : Hid ((out.length + 1) * 160 ≤ 140737488355328) := by show (out.length + 1) * 160 ≤ _; omega
            have cV := cell_of hvoc
            obtain ⟨e0, e1, e2, e3, e4, e5, e6, e7, e8, e9, e10⟩ := blk11 KXc
            clear hvoc hmrc hgrc
            go_wp2_with (at_builtin; refine wpList_append_lies _ rfl _ _ 49 rfl (w1.heap.size + 1 + 1) 37 i0 zV 11 160 Tryz.underlying49 hi hz0 hz1 hz2 rfl (by decide) (.slice oa out.length oc) out.length (out.flatMap EX.cells) rfl (HOWN.out _ (below_alloc _ _)) ⟨wc.heap.size, 0, none⟩ 1 1 [.string E.id, .string E.ti, .int .i64 E.st, .int .i64 E.lg, .string E.f, .int .i64 E.e, .slice ra rn rc, .int .i64 E.c, .int .i64 E.u, .slice sa sn sc, .slice ma mn mc] rfl rfl (World.news_of_block (cs := #[.string E.id, .string E.ti, .int .i64 E.st, .int .i64 E.lg, .string E.f, .int .i64 E.e, .slice ra rn rc, .int .i64 E.c, .int .i64 E.u, .slice sa sn sc, .slice ma mn mc]) (block_at _ rfl)) HONE.out (by decide) HMAX.out HBY.out (by rw [World.size_alloc]; omega) _ rfl ?_; intro gb capb w3 hown hgrow hat hlt3; have HG8 : Hid (_) := grown_more HGR.out SZ2.out (below_alloc _ _) hgrow HFR.out; have hW8 := HG8.out.2; have cw3 : w3.cell? ⟨w1.heap.size + 1, 0, none⟩ = some (.slice oa out.length oc) := cell_of ((hW8 _ (by omega)).trans HVO.out); have fw3 : w3.frozen? ⟨w1.heap.size + 1, 0, none⟩ = false := blk11_frozen ((hW8 _ (by omega)).trans HVO.out) 0)
            have HOW3 : Hid (w3.ownsRow (w1.heap.size + 1 + 1) 37 11 (.slice (some ⟨gb, 0, none⟩) (out.length + 1) capb) (out.length + 1) (out.flatMap EX.cells ++ X.cells)) := by rw [HX.out]; exact hown
            have HST : Hid (WSt w2 (w1.heap.size + 1) T (Y :: insW X (put || true) R) (w3.setCell ⟨w1.heap.size + 1, 0, none⟩ (.slice (some ⟨gb, 0, none⟩) (out.length + 1) capb))) := wst_app HVO.out HAP2.out HOW3.out HG8.out.1 (fun k hk => HG8.out.2 k (by omega))
            clear hown hgrow hat hlt3 HG8 hW8 cw3 fw3
            go_meet
            case rel => exact ⟨by rw [Bool.or_true], HST.out⟩
        case rest =>
          clear HYC HK5c KXc hvoc hmrc hgrc hswc HBc HAP
          obtain ⟨rfl, HST⟩ := hcut
          obtain ⟨vo2, L, hvo2, hmr2, hap2, hgr2⟩ := HST.out
          have K5c : wc.heap[w1.heap.size]? = some (.cells #[.slice (some ⟨b, 0, none⟩) Ys.length c1] 53 (0, 0)) := (hgr2.block _ (by have := SZ2.out; omega) (fun q => by have := Option.some.inj q; omega)).trans K5.out
          have hYc : EvAt wc b (m * 11) F (.slice rb rbn rbc) (.slice sb sbn sbc) (.slice mb mbn mbc) := by
            have hq := HE.out
            have Fc : ∀ {o : Nat} {u : Value}, w2.cell? ⟨b, o, none⟩ = some u → wc.cell? ⟨b, o, none⟩ = some u := fun h => grown_cell hgr2 h (by omega)
            exact ⟨Fc hq.c0, Fc hq.c1, Fc hq.c2, Fc hq.c3, Fc hq.c4, Fc hq.c5, Fc hq.c6, Fc hq.c7, Fc hq.c8, Fc hq.c9, Fc hq.c10⟩
          have hsw2 : w1.heap.size + 2 ≤ wc.heap.size := by rw [← SZ2.out]; exact hgr2.size
          have hLl : L.length ≤ 1001 := by
            have h1 : (L ++ Y :: insW X (put || g) R).length = T.length := by rw [hap2]
            have h2 : T.length = Ys.length + 1 := by rw [← HT.out, ins_len]
            rw [List.length_append] at h1
            omega
          obtain ⟨oa, oc, rfl, _, _⟩ := hmr2.form
          have HVO : Hid (_) := hvo2
          have HAP : Hid (_) := hap2
          have HGR : Hid (_) := hgr2
          have cB5 := cell_of K5c
          have cB2 : wc.cell? ⟨w1.heap.size + 1, 0, none⟩ = some (.slice oa L.length oc) := cell_of hvo2
          have cB3 : (wc.alloc (.cells #[.string F.id, .string F.ti, .int .i64 F.st, .int .i64 F.lg, .string F.f, .int .i64 F.e, .slice rb rbn rbc, .int .i64 F.c, .int .i64 F.u, .slice sb sbn sbc, .slice mb mbn mbc] 37)).cell? ⟨w1.heap.size + 1, 0, none⟩ = some (.slice oa L.length oc) := cell_alloc _ cB2
          have HOWN : Hid (∀ W, Below wc.heap.size wc W → W.ownsRow (w1.heap.size + 1 + 1) 37 11 (.slice oa L.length oc) L.length (L.flatMap EX.cells)) := fun W hW => hmr2.far (fun k _ hk => hW.block k hk)
          have HONE : Hid (∀ u ∈ ([.string F.id, .string F.ti, .int .i64 F.st, .int .i64 F.lg, .string F.f, .int .i64 F.e, .slice rb rbn rbc, .int .i64 F.c, .int .i64 F.u, .slice sb sbn sbc, .slice mb mbn mbc] : List Value), u.oneCell' = true) := fun u hu => by
            simp only [List.mem_cons, List.not_mem_nil, or_false] at hu
            rcases hu with rfl | rfl | rfl | rfl | rfl | rfl | rfl | rfl | rfl | rfl | rfl <;> rfl
          have HMAX : Hid (L.length + 1 ≤ maxLen) := by show L.length + 1 ≤ maxLen; unfold maxLen; omega
          have HBY : Hid ((L.length + 1) * 160 ≤ 140737488355328) := by show (L.length + 1) * 160 ≤ _; omega
          have HFR : Hid (∀ k, k < w1.heap.size + 1 + 1 → (Value.slice oa L.length oc).ownBlock ≠ some k) := fun k hk => hmr2.own k hk
          have HYCL : Hid (Y.cells = [.string F.id, .string F.ti, .int .i64 F.st, .int .i64 F.lg, .string F.f, .int .i64 F.e, .slice rb rbn rbc, .int .i64 F.c, .int .i64 F.u, .slice sb sbn sbc, .slice mb mbn mbc]) := by
            show Y.cells = _
            rw [HY.out]; rfl
          have REL : Hid (∀ (w3 : World) (gb capb : Nat), w3.ownsRow (w1.heap.size + 1 + 1) 37 11 (.slice (some ⟨gb, 0, none⟩) (L.length + 1) capb) (L.length + 1) (L.flatMap EX.cells ++ [.string F.id, .string F.ti, .int .i64 F.st, .int .i64 F.lg, .string F.f, .int .i64 F.e, .slice rb rbn rbc, .int .i64 F.c, .int .i64 F.u, .slice sb sbn sbc, .slice mb mbn mbc]) → w2.grownBy w3 (some (w1.heap.size + 1)) → (∀ k, k < w1.heap.size + 1 + 1 → w3.heap[k]? = wc.heap[k]?) →
              WSt w2 (w1.heap.size + 1) T (insW X (put || g) (Ys.drop (m + 1))) (w3.setCell ⟨w1.heap.size + 1, 0, none⟩ (.slice (some ⟨gb, 0, none⟩) (L.length + 1) capb))) := fun w3 gb capb h1 h2 h3 => by
            rw [HR.out]
            exact wst_app HVO.out HAP.out (by rw [HYCL.out]; exact h1) h2 h3
          obtain ⟨x0, x1, x2, x3, x4, x5, x6, x7, x8, x9, x10⟩ := hYc
          clear hvo2 hmr2 hap2 hgr2 K5c HST HY HE HG
          generalize (put || g) = pg at REL HAP ⊢
          go_wp2_with fail
          go_region_law
            ((refine step_append_lies _ (by rfl) _ _ 49 (by rfl) (w1.heap.size + 1 + 1) 37 i0 zV 11 160 Tryz.underlying49 hi hz0 hz1 hz2 rfl (by decide) (.slice oa L.length oc) L.length (L.flatMap EX.cells) (by rfl) (HOWN.out _ (by (first | with_reducible exact below_then (drew_below _) (below_alloc _ _) | with_reducible exact below_then (below_alloc _ _) (drew_below _)))) ⟨wc.heap.size, 0, none⟩ 1 1 [.string F.id, .string F.ti, .int .i64 F.st, .int .i64 F.lg, .string F.f, .int .i64 F.e, .slice rb rbn rbc, .int .i64 F.c, .int .i64 F.u, .slice sb sbn sbc, .slice mb mbn mbc] (by rfl) rfl (World.news_of_block (cs := #[.string F.id, .string F.ti, .int .i64 F.st, .int .i64 F.lg, .string F.f, .int .i64 F.e, .slice rb rbn rbc, .int .i64 F.c, .int .i64 F.u, .slice sb sbn sbc, .slice mb mbn mbc]) (by first | exact block_at _ rfl | exact (block_at (W := wc) _ rfl))) HONE.out (by decide) HMAX.out HBY.out (Nat.le_trans hsw2 (Below.size (B := wc.heap.size) (w := wc) (by (first | with_reducible exact below_then (drew_below _) (below_alloc _ _) | with_reducible exact below_then (below_alloc _ _) (drew_below _))))) _ rfl ?_; intro gb capb w3 hown hgrow hat hlt3; have HG8 : Hid (_) := grown_more HGR.out SZ2.out (by (first | with_reducible exact below_then (drew_below _) (below_alloc _ _) | with_reducible exact below_then (below_alloc _ _) (drew_below _))) hgrow HFR.out; have hW8 := HG8.out.2; have cw3 : w3.cell? ⟨w1.heap.size + 1, 0, none⟩ = some (.slice oa L.length oc) := cell_of ((hW8 _ (by omega)).trans HVO.out); have fw3 : w3.frozen? ⟨w1.heap.size + 1, 0, none⟩ = false := blk11_frozen ((hW8 _ (by omega)).trans HVO.out) 0))
          all_goals
            have H3 : Hid (_) := REL.out w3 gb capb hown HG8.out.1 (fun k hk => HG8.out.2 k (by omega))
            clear hown hgrow hat hlt3 HG8 hW8 cw3 fw3
            go_wp2
            go_roundw <;> first | exact ⟨m + 1, pg, by omega, rfl, by go_num, H3.out⟩ | (simp [intOf]; omega)
    · have hdr : Ys.drop m = [] := List.drop_eq_nil_iff.2 (by omega)
      rw [hdr] at hap
      clear HV HC2 HOKY hdr
      have FIN : Hid (∀ W, WSt w2 (w1.heap.size + 1) T [] W → ∃ oa oc, W.cell? ⟨w1.heap.size + 1, 0, none⟩ = some (.slice oa T.length oc) ∧ W.cell? ⟨w.heap.size + 1 + 1, 0, none⟩ = some (.slice none 0 0) ∧ W.frozen? ⟨w.heap.size + 1 + 1, 0, none⟩ = false ∧ (W.setCell ⟨w.heap.size + 1 + 1, 0, none⟩ (.slice oa T.length oc)).cell? ⟨w.heap.size + 1 + 1, 0, none⟩ = some (.slice oa T.length oc) ∧ MR w.heap.size (W.setCell ⟨w.heap.size + 1 + 1, 0, none⟩ (.slice oa T.length oc)) (.slice oa T.length oc) T ∧ Below w.heap.size w (W.setCell ⟨w.heap.size + 1 + 1, 0, none⟩ (.slice oa T.length oc))) := fun W hW => by
        obtain ⟨vo, out, hvo, hmr, hap, hgr⟩ := hW
        rw [List.append_nil] at hap
        rw [hap] at hmr
        obtain ⟨oa, oc, rfl, _, _⟩ := hmr.form
        have k2 : W.heap[w.heap.size + 1 + 1]? = some (.cells #[.slice none 0 0] 53 (0, 0)) := (hgr.block _ (by have := SZ2.out; omega) (fun q => by have := Option.some.inj q; omega)).trans K22.out
        have g1 := grown_set W ⟨w.heap.size + 1 + 1, 0, none⟩ (.slice oa T.length oc)
        have hs := SZ2.out
        have hs1' := hgr.size
        refine ⟨oa, oc, cell_of hvo, cell_of k2, blk11_frozen k2 0, cell_of (set_block (i := 0) _ k2), own_base (MR.far hmr (fun k hk _ => Below.heap_setCell _ _ _ k (by intro q; have q' : k = w.heap.size + 1 + 1 := q; omega))) (by omega), ?_⟩
        exact ⟨g1.os.trans (hgr.os.trans B2.out.os), g1.tape.trans (hgr.tape.trans B2.out.tape), g1.output.trans (hgr.output.trans B2.out.output), by have := g1.size; have := B2.out.size; omega, fun k hk => (g1.block k (by omega) (fun q => by have : k = w.heap.size + 1 + 1 := Option.some.inj q; omega)).trans ((hgr.block k (by omega) (fun q => by have : k = w1.heap.size + 1 := Option.some.inj q; omega)).trans (B2.out.block k hk))⟩
      go_upto_if 51 with fail
      go_cut [] (fun wx => Hid (WSt w2 (w1.heap.size + 1) T [] wx))
      case first =>
        cases put with
        | true =>
          have HST : Hid (WSt w2 (w1.heap.size + 1) T [] wr) := ⟨vo, out, hvo, hmr, hap, hgr⟩
          clear hvo hmr hgr KRX KR5 hap
          go_wp2
          go_meet
          case rel => exact HST.out
        | false =>
          obtain ⟨oa, oc, rfl, _, _⟩ := hmr.form
          have HAP2 : Hid (out ++ X :: [] = T) := hap
          have HVO : Hid (_) := hvo
          have HGR : Hid (_) := hgr
          have HFR : Hid (∀ k, k < w1.heap.size + 1 + 1 → (Value.slice oa out.length oc).ownBlock ≠ some k) := fun k hk => hmr.own k hk
          have HOWN : Hid (∀ W, Below wr.heap.size wr W → W.ownsRow (w1.heap.size + 1 + 1) 37 11 (.slice oa out.length oc) out.length (out.flatMap EX.cells)) := fun W hW => hmr.far (fun k _ hk => hW.block k hk)
          have HONE : Hid (∀ u ∈ ([.string E.id, .string E.ti, .int .i64 E.st, .int .i64 E.lg, .string E.f, .int .i64 E.e, .slice ra rn rc, .int .i64 E.c, .int .i64 E.u, .slice sa sn sc, .slice ma mn mc] : List Value), u.oneCell' = true) := fun u hu => by
            simp only [List.mem_cons, List.not_mem_nil, or_false] at hu
            rcases hu with rfl | rfl | rfl | rfl | rfl | rfl | rfl | rfl | rfl | rfl | rfl <;> rfl
          have HMAX : Hid (out.length + 1 ≤ maxLen) := by show out.length + 1 ≤ maxLen; unfold maxLen; omega
          have HBY : Hid ((out.length + 1) * 160 ≤ 140737488355328) := by show (out.length + 1) * 160 ≤ _; omega
          have cV := cell_of hvo
          obtain ⟨e0, e1, e2, e3, e4, e5, e6, e7, e8, e9, e10⟩ := blk11 KRX
          clear hvo hmr hgr hap
          go_wp2_with (at_builtin; refine wpList_append_lies _ rfl _ _ 49 rfl (w1.heap.size + 1 + 1) 37 i0 zV 11 160 Tryz.underlying49 hi hz0 hz1 hz2 rfl (by decide) (.slice oa out.length oc) out.length (out.flatMap EX.cells) rfl (HOWN.out _ (below_alloc _ _)) ⟨wr.heap.size, 0, none⟩ 1 1 [.string E.id, .string E.ti, .int .i64 E.st, .int .i64 E.lg, .string E.f, .int .i64 E.e, .slice ra rn rc, .int .i64 E.c, .int .i64 E.u, .slice sa sn sc, .slice ma mn mc] rfl rfl (World.news_of_block (cs := #[.string E.id, .string E.ti, .int .i64 E.st, .int .i64 E.lg, .string E.f, .int .i64 E.e, .slice ra rn rc, .int .i64 E.c, .int .i64 E.u, .slice sa sn sc, .slice ma mn mc]) (block_at _ rfl)) HONE.out (by decide) HMAX.out HBY.out (by rw [World.size_alloc]; omega) _ rfl ?_; intro gb capb w3 hown hgrow hat hlt3; have HG8 : Hid (_) := grown_more HGR.out SZ2.out (below_alloc _ _) hgrow HFR.out; have hW8 := HG8.out.2; have cw3 : w3.cell? ⟨w1.heap.size + 1, 0, none⟩ = some (.slice oa out.length oc) := cell_of ((hW8 _ (by omega)).trans HVO.out); have fw3 : w3.frozen? ⟨w1.heap.size + 1, 0, none⟩ = false := blk11_frozen ((hW8 _ (by omega)).trans HVO.out) 0)
          have HOW3 : Hid (w3.ownsRow (w1.heap.size + 1 + 1) 37 11 (.slice (some ⟨gb, 0, none⟩) (out.length + 1) capb) (out.length + 1) (out.flatMap EX.cells ++ X.cells)) := by rw [HX.out]; exact hown
          have HST : Hid (WSt w2 (w1.heap.size + 1) T [] (w3.setCell ⟨w1.heap.size + 1, 0, none⟩ (.slice (some ⟨gb, 0, none⟩) (out.length + 1) capb))) := wst_app HVO.out HAP2.out HOW3.out HG8.out.1 (fun k hk => HG8.out.2 k (by omega))
          clear hown hgrow hat hlt3 HG8 hW8 cw3 fw3
          go_meet
          case rel => exact HST.out
      case rest =>
        clear hvo hmr hgr hap KRX KR5 cB5
        obtain ⟨oa, oc, c1', c2', f2', c3', hM, hBl⟩ := FIN.out wc hcut.out
        have HM : Hid (MR w.heap.size (wc.setCell ⟨w.heap.size + 1 + 1, 0, none⟩ (.slice oa T.length oc)) (.slice oa T.length oc) T) := hM
        have HBL : Hid (_) := hBl
        clear hM hBl FIN
        generalize T.length = tl at c1' c2' f2' c3' HM HBL
        go_wp2
        refine bodyPost_ret (v := .agg #[.slice oa tl oc]) (by simp [results, Tryz.f116, go_sem, c3']) rfl ⟨_, rfl, HM.out, HBL.out⟩
end Go.Proofs.YtpdcjnkgkpbdgaaGreatDoor

/- The document's Put. -/
namespace Go.Proofs.YtpdcjnkgkpbdgaaGreatDoor
open Go Go.RowKit Go.Maps Cal
attribute [local go_sem] Oper.semAt_some

/-- what the document's Put answers: the event's error, ErrFull, or the list with it -/
def MPutIs (base : Nat) (v : Value) (Xs : List EX) (X : EX) (k : Int) (v' : Value) (k' : Int) (w' : World) : Prop :=
  (k ≠ 0 ∧ k' = k ∧ v' = v) ∨ (k = 0 ∧ ((¬ ∃ Y ∈ Xs, Y.E.id = X.E.id) ∧ 60 ≤ Xs.length) ∧ k' = 7 ∧ v' = v) ∨
    (k = 0 ∧ ¬ ((¬ ∃ Y ∈ Xs, Y.E.id = X.E.id) ∧ 60 ≤ Xs.length) ∧ k' = 0 ∧ MR base w' v' (ins X (Xs.filter fun Y => decide (Y.E.id ≠ X.E.id))))

set_option maxHeartbeats 4000000 in
set_option maxRecDepth 100000 in
theorem mput_any (base : Nat) (E : EV) (ra : Option Addr) (rn rc : Nat) (sa : Option Addr) (sn sc : Nat) (ma : Option Addr) (mn mc : Nat) (v : Value) (Xs : List EX) (k : Int) (w : World) (hR : MR base w v Xs) (h8 : Xs.length ≤ 1000) (hok : ∀ X ∈ Xs, X.ok) (hk : k = 0 ∨ (1 ≤ k ∧ k ≤ 8))
    (EE : ∀ W, Below w.heap.size w W → Calls Tryz.prog 114 #[ev E (.slice ra rn rc) (.slice sa sn sc) (.slice ma mn mc)] W fun r w' => r = .returned (.int .i64 k) ∧ Below W.heap.size W w') :
    Calls Tryz.prog 70 #[.agg #[v], ev E (.slice ra rn rc) (.slice sa sn sc) (.slice ma mn mc)] w fun r w' => ∃ a' n' c' k', r = .returned (.tuple #[.agg #[.slice a' n' c'], .int .i64 k']) ∧ Below w.heap.size w w' ∧ MPutIs w.heap.size v Xs ⟨E, .slice ra rn rc, .slice sa sn sc, .slice ma mn mc⟩ k (.slice a' n' c') k' w' := by
  obtain ⟨a, cap, rfl, hcap, _⟩ := hR.form
  have A3 : Below w.heap.size w (((w.alloc (.cells #[.slice a Xs.length cap] 53)).alloc (.cells #[.string E.id, .string E.ti, .int .i64 E.st, .int .i64 E.lg, .string E.f, .int .i64 E.e, .slice ra rn rc, .int .i64 E.c, .int .i64 E.u, .slice sa sn sc, .slice ma mn mc] 37)).alloc (.cells #[.slice none 0 0] 53)) := below_then (below_then (below_alloc _ _) (below_alloc _ _)) (below_alloc _ _)
  have k0 : (((w.alloc (.cells #[.slice a Xs.length cap] 53)).alloc (.cells #[.string E.id, .string E.ti, .int .i64 E.st, .int .i64 E.lg, .string E.f, .int .i64 E.e, .slice ra rn rc, .int .i64 E.c, .int .i64 E.u, .slice sa sn sc, .slice ma mn mc] 37)).alloc (.cells #[.slice none 0 0] 53)).heap[w.heap.size]? = some (.cells #[.slice a Xs.length cap] 53 (0, 0)) := block_alloc _ (block_alloc _ (block_at _ rfl))
  have k1 : (((w.alloc (.cells #[.slice a Xs.length cap] 53)).alloc (.cells #[.string E.id, .string E.ti, .int .i64 E.st, .int .i64 E.lg, .string E.f, .int .i64 E.e, .slice ra rn rc, .int .i64 E.c, .int .i64 E.u, .slice sa sn sc, .slice ma mn mc] 37)).alloc (.cells #[.slice none 0 0] 53)).heap[w.heap.size + 1]? = some (.cells #[.string E.id, .string E.ti, .int .i64 E.st, .int .i64 E.lg, .string E.f, .int .i64 E.e, .slice ra rn rc, .int .i64 E.c, .int .i64 E.u, .slice sa sn sc, .slice ma mn mc] 37 (0, 0)) := block_alloc _ (block_at _ (World.size_alloc _ _))
  have k2 : (((w.alloc (.cells #[.slice a Xs.length cap] 53)).alloc (.cells #[.string E.id, .string E.ti, .int .i64 E.st, .int .i64 E.lg, .string E.f, .int .i64 E.e, .slice ra rn rc, .int .i64 E.c, .int .i64 E.u, .slice sa sn sc, .slice ma mn mc] 37)).alloc (.cells #[.slice none 0 0] 53)).heap[w.heap.size + 1 + 1]? = some (.cells #[.slice none 0 0] 53 (0, 0)) := block_at _ (by rw [World.size_alloc, World.size_alloc])
  have sz : (((w.alloc (.cells #[.slice a Xs.length cap] 53)).alloc (.cells #[.string E.id, .string E.ti, .int .i64 E.st, .int .i64 E.lg, .string E.f, .int .i64 E.e, .slice ra rn rc, .int .i64 E.c, .int .i64 E.u, .slice sa sn sc, .slice ma mn mc] 37)).alloc (.cells #[.slice none 0 0] 53)).heap.size = w.heap.size + 3 := by rw [World.size_alloc, World.size_alloc, World.size_alloc]
  have HEE : Hid (Calls _ _ _ _ _) := EE _ A3
  have K0 : Hid (_) := k0
  have K1 : Hid (_) := k1
  have K2 : Hid (_) := k2
  have A0 : Hid (_) := A3
  have SZ : Hid (_) := sz
  have HR : Hid (MR base w (.slice a Xs.length cap) Xs) := hR
  have HOK : Hid (∀ X ∈ Xs, X.ok) := hok
  unfold ev at HEE ⊢
  obtain ⟨e0, e1, e2, e3, e4, e5, e6, e7, e8, e9, e10⟩ := blk11 k1
  have cB0 := cell_of k0
  clear A3 k0 k1 k2 sz hR hok EE
  have FIN : Hid (∀ (W : World) (oa : Option Addr) (n oc : Nat), Below w.heap.size w W → w.heap.size + 3 ≤ W.heap.size → W.heap[w.heap.size + 1 + 1]? = some (.cells #[.slice none 0 0] 53 (0, 0)) → W.cell? ⟨w.heap.size + 1 + 1, 0, none⟩ = some (.slice none 0 0) ∧ W.frozen? ⟨w.heap.size + 1 + 1, 0, none⟩ = false ∧ (W.setCell ⟨w.heap.size + 1 + 1, 0, none⟩ (.slice oa n oc)).cell? ⟨w.heap.size + 1 + 1, 0, none⟩ = some (.slice oa n oc) ∧ Below w.heap.size w (W.setCell ⟨w.heap.size + 1 + 1, 0, none⟩ (.slice oa n oc))) := fun W oa n oc hB hs k2 => by
    have g1 := grown_set W ⟨w.heap.size + 1 + 1, 0, none⟩ (.slice oa n oc)
    refine ⟨cell_of k2, blk11_frozen k2 0, cell_of (set_block (i := 0) _ k2), ?_⟩
    exact ⟨g1.os.trans hB.os, g1.tape.trans hB.tape, g1.output.trans hB.output, by have := g1.size; have := hB.size; omega, fun k hk => (g1.block k (by omega) (fun q => by have : k = w.heap.size + 1 + 1 := Option.some.inj q; omega)).trans (hB.block k hk)⟩
  go_enter Tryz.func70, Tryz.ntmps70
  generalize hw0 : ((w.alloc (.cells #[.slice a Xs.length cap] 53)).alloc (.cells #[.string E.id, .string E.ti, .int .i64 E.st, .int .i64 E.lg, .string E.f, .int .i64 E.e, .slice ra rn rc, .int .i64 E.c, .int .i64 E.u, .slice sa sn sc, .slice ma mn mc] 37)).alloc (.cells #[.slice none 0 0] 53) = w0 at HEE K0 K1 K2 A0 SZ cB0 e0 e1 e2 e3 e4 e5 e6 e7 e8 e9 e10
  go_upto_region 2 with (go_at_call 114; refine Calls.mono HEE.out ?_; rintro r w1 ⟨rfl, hb1⟩)
  have B1 : Hid (Below w.heap.size w w1) := below_then A0.out hb1
  have s1 : w.heap.size + 3 ≤ w1.heap.size := by rw [← SZ.out]; exact hb1.size
  have K01 : Hid (w1.heap[w.heap.size]? = some (.cells #[.slice a Xs.length cap] 53 (0, 0))) := (hb1.block _ (by rw [SZ.out]; omega)).trans K0.out
  have K11 : Hid (w1.heap[w.heap.size + 1]? = some (.cells #[.string E.id, .string E.ti, .int .i64 E.st, .int .i64 E.lg, .string E.f, .int .i64 E.e, .slice ra rn rc, .int .i64 E.c, .int .i64 E.u, .slice sa sn sc, .slice ma mn mc] 37 (0, 0))) := (hb1.block _ (by rw [SZ.out]; omega)).trans K1.out
  have K21 : Hid (w1.heap[w.heap.size + 1 + 1]? = some (.cells #[.slice none 0 0] 53 (0, 0))) := (hb1.block _ (by rw [SZ.out]; omega)).trans K2.out
  clear HEE K0 K1 K2 A0 SZ cB0 e0 e1 e2 e3 e4 e5 e6 e7 e8 e9 e10 hw0 hb1
  by_cases hk0 : k = 0
  case neg =>
    have hk1 : 0 < k := by omega
    have HK0 : Hid (k ≠ 0) := hk0
    have cB0 := cell_of K01.out
    obtain ⟨c2, f2, c3, hBl⟩ := FIN.out w1 a Xs.length cap B1.out s1 K21.out
    have HBL : Hid (_) := hBl
    clear hBl FIN hk0
    generalize hxl : Xs.length = xl at cB0 c2 f2 c3 HBL
    have HXL : Hid (Xs.length = xl) := hxl
    clear hxl
    go_wp2
    refine bodyPost_ret (v := .tuple #[.agg #[.slice a xl cap], .int .i64 k]) (by simp [results, Tryz.f70, go_sem, c3]) rfl ⟨_, _, _, _, rfl, HBL.out, .inl ⟨HK0.out, rfl, by rw [HXL.out]⟩⟩
  case pos =>
    subst hk0
    have FD : Hid (Calls _ _ _ _ _) := find_any base E.id (.slice a Xs.length cap) Xs w1 (HR.out.far (fun k _ hk => B1.out.block k hk)) h8
    have WI : Hid (∀ W, Below w1.heap.size w1 W → Calls Tryz.prog 116 #[.agg #[.slice a Xs.length cap], ev E (.slice ra rn rc) (.slice sa sn sc) (.slice ma mn mc)] W fun r w' => ∃ v', r = .returned (.agg #[v']) ∧ MR W.heap.size w' v' (ins ⟨E, .slice ra rn rc, .slice sa sn sc, .slice ma mn mc⟩ (Xs.filter fun X => decide (X.E.id ≠ E.id))) ∧ Below W.heap.size W w') := fun W hW => with_any base E ra rn rc sa sn sc ma mn mc _ Xs W (HR.out.far (fun k _ hk => (below_then B1.out hW).block k hk)) h8 HOK.out
    unfold ev at WI
    have cB0 := cell_of K01.out
    obtain ⟨e0, e1, e2, e3, e4, e5, e6, e7, e8, e9, e10⟩ := blk11 K11.out
    have TAIL : Hid (∀ w5 : World, Below w1.heap.size w1 w5 → w5.cell? ⟨w.heap.size, 0, none⟩ = some (.slice a Xs.length cap) ∧ w5.cell? ⟨w.heap.size + 1, 0, none⟩ = some (.string E.id) ∧ w5.heap[w.heap.size + 1]? = some (.cells #[.string E.id, .string E.ti, .int .i64 E.st, .int .i64 E.lg, .string E.f, .int .i64 E.e, .slice ra rn rc, .int .i64 E.c, .int .i64 E.u, .slice sa sn sc, .slice ma mn mc] 37 (0, 0)) ∧ w5.heap[w.heap.size + 1 + 1]? = some (.cells #[.slice none 0 0] 53 (0, 0)) ∧ w.heap.size + 3 ≤ w5.heap.size) := fun w5 hb5 => ⟨cell_step cB0 hb5, cell_step e0 hb5, (hb5.block _ (by omega)).trans K11.out, (hb5.block _ (by omega)).trans K21.out, Nat.le_trans s1 hb5.size⟩
    by_cases hf : ∃ X ∈ Xs, X.E.id = E.id
    case pos =>
      have HF : Hid (∃ X ∈ Xs, X.E.id = E.id) := hf
      go_upto_region 6 with (go_at_call 115; refine Calls.mono FD.out ?_; rintro r w5 ⟨kf, rfl, hkf, hkf1, hkf2, hb5⟩; have hkf0 : 0 ≤ kf := hkf.2 HF.out; clear hkf)
      have HB5 : Hid (Below w1.heap.size w1 w5) := hb5
      obtain ⟨d0, _, d1, d2, s5⟩ := TAIL.out w5 hb5
      have WI5 : Hid (Calls _ _ _ _ _) := WI.out w5 hb5
      clear e0 e1 e2 e3 e4 e5 e6 e7 e8 e9 e10 cB0 FD WI hb5 hf
      have HD2 : Hid (_) := d2
      obtain ⟨e0, e1, e2, e3, e4, e5, e6, e7, e8, e9, e10⟩ := blk11 d1
      go_wp2_with (go_at_call 116; refine Calls.mono WI5.out ?_; rintro r w6 ⟨v6, rfl, hm6, hb6⟩; obtain ⟨oa, oc, rfl, _, _⟩ := hm6.form; have B6 : Hid (Below w.heap.size w w6) := below_then B1.out (below_then HB5.out hb6); have k26 := (hb6.block _ (by omega)).trans HD2.out; have s6 : w.heap.size + 3 ≤ w6.heap.size := Nat.le_trans s5 hb6.size; have HM6 : Hid (MR w5.heap.size w6 _ _) := hm6; clear hm6 hb6; generalize hil : (ins ⟨E, .slice ra rn rc, .slice sa sn sc, .slice ma mn mc⟩ (Xs.filter fun X => decide (X.E.id ≠ E.id))).length = il at HM6 ⊢; obtain ⟨c2, f2, c3, hBl⟩ := FIN.out w6 oa il oc B6.out s6 k26; have HBL : Hid (_) := hBl; clear hBl k26)
      refine bodyPost_ret (v := .tuple #[.agg #[.slice oa il oc], .int .i64 0]) (by simp [results, Tryz.f70, go_sem, c3]) rfl ⟨_, _, _, _, rfl, HBL.out, .inr (.inr ⟨rfl, fun q => q.1 HF.out, rfl, ?_⟩)⟩
      exact own_base (MR.far HM6.out (fun k hk _ => Below.heap_setCell _ _ _ k (by intro q; have q' : k = w.heap.size + 1 + 1 := q; omega))) (by omega)
    case neg =>
      have HF : Hid (¬ ∃ X ∈ Xs, X.E.id = E.id) := hf
      by_cases h60 : 60 ≤ Xs.length
      case pos =>
        have h60' : (60 : Int) ≤ (Xs.length : Int) := by omega
        have H60 : Hid (60 ≤ Xs.length) := h60
        have hl9 : (Xs.length : Int) ≤ 1000 := by omega
        clear h60
        go_upto_region 5 with (go_at_call 115; refine Calls.mono FD.out ?_; rintro r w5 ⟨kf, rfl, hkf, hkf1, hkf2, hb5⟩; have hkf0 : kf < 0 := Int.not_le.1 (fun q => HF.out (hkf.1 q)); clear hkf; have d0 := cell_step cB0 hb5)
        have HB5 : Hid (Below w1.heap.size w1 w5) := hb5
        obtain ⟨d0', _, d1, d2, s5⟩ := TAIL.out w5 hb5
        obtain ⟨c2, f2, c3, hBl⟩ := FIN.out w5 a Xs.length cap (below_then B1.out hb5) s5 d2
        have HBL : Hid (_) := hBl
        clear hBl FIN d0' d1 d2 hb5 TAIL WI FD
        go_wp2
        refine bodyPost_ret (v := .tuple #[.agg #[.slice a Xs.length cap], .int .i64 7]) (by simp [results, Tryz.f70, go_sem, c3]) rfl ⟨_, _, _, _, rfl, HBL.out, .inr (.inl ⟨rfl, ⟨HF.out, H60.out⟩, rfl, rfl⟩)⟩
      case neg =>
        have h60' : (Xs.length : Int) < 60 := by omega
        have HN6 : Hid (¬ 60 ≤ Xs.length) := h60
        clear h60
        go_upto_region 6 with (go_at_call 115; refine Calls.mono FD.out ?_; rintro r w5 ⟨kf, rfl, hkf, hkf1, hkf2, hb5⟩; have hkf0 : kf < 0 := Int.not_le.1 (fun q => HF.out (hkf.1 q)); clear hkf; have d0 := cell_step cB0 hb5)
        have HB5 : Hid (Below w1.heap.size w1 w5) := hb5
        obtain ⟨d0', _, d1, d2, s5⟩ := TAIL.out w5 hb5
        have WI5 : Hid (Calls _ _ _ _ _) := WI.out w5 hb5
        clear e0 e1 e2 e3 e4 e5 e6 e7 e8 e9 e10 cB0 FD WI hb5 hf
        have HD2 : Hid (_) := d2
        obtain ⟨e0, e1, e2, e3, e4, e5, e6, e7, e8, e9, e10⟩ := blk11 d1
        go_wp2_with (go_at_call 116; refine Calls.mono WI5.out ?_; rintro r w6 ⟨v6, rfl, hm6, hb6⟩; obtain ⟨oa, oc, rfl, _, _⟩ := hm6.form; have B6 : Hid (Below w.heap.size w w6) := below_then B1.out (below_then HB5.out hb6); have k26 := (hb6.block _ (by omega)).trans HD2.out; have s6 : w.heap.size + 3 ≤ w6.heap.size := Nat.le_trans s5 hb6.size; have HM6 : Hid (MR w5.heap.size w6 _ _) := hm6; clear hm6 hb6; generalize hil : (ins ⟨E, .slice ra rn rc, .slice sa sn sc, .slice ma mn mc⟩ (Xs.filter fun X => decide (X.E.id ≠ E.id))).length = il at HM6 ⊢; obtain ⟨c2, f2, c3, hBl⟩ := FIN.out w6 oa il oc B6.out s6 k26; have HBL : Hid (_) := hBl; clear hBl k26)
        refine bodyPost_ret (v := .tuple #[.agg #[.slice oa il oc], .int .i64 0]) (by simp [results, Tryz.f70, go_sem, c3]) rfl ⟨_, _, _, _, rfl, HBL.out, .inr (.inr ⟨rfl, fun q => HN6.out q.2, rfl, ?_⟩)⟩
        exact own_base (MR.far HM6.out (fun k hk _ => Below.heap_setCell _ _ _ k (by intro q; have q' : k = w.heap.size + 1 + 1 := q; omega))) (by omega)
end Go.Proofs.YtpdcjnkgkpbdgaaGreatDoor
