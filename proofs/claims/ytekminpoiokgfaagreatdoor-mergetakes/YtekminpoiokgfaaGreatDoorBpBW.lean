/- The document's Without. -/
import Derived.Test.YtekminpoiokgfaaGreatDoorYaX
import Derived.Deep.RegionHeld3
import Derived.Deep.AppendLies
import Derived.Carry
namespace Go.Proofs.YtekminpoiokgfaaGreatDoor
open Go Go.RowKit Go.Maps Cal
attribute [local go_sem] Oper.semAt_some

theorem info_event : (Tryz.prog.info? 44).map (fun i => (i.zero, i.size, i.bytes)) = some (some zV, 11, 160) := by kernel_rfl
/-- its lists are slices -/
def EX.ok (X : EX) : Prop := (∃ a n c, X.sl = .slice a n c) ∧ (∃ a n c, X.skv = .slice a n c) ∧ (∃ a n c, X.mvv = .slice a n c)
theorem MR.far {base : Nat} {W W' : World} {v : Value} {Xs : List EX} (h : MR base W v Xs) (hk : ∀ k, base ≤ k → k < W.heap.size → W'.heap[k]? = W.heap[k]?) : MR base W' v Xs := by
  refine ⟨h.1, ?_⟩
  rcases h.2 with h2 | ⟨g, cap, cur, hv, hb, hg, r⟩
  · exact .inl h2
  · exact .inr ⟨g, cap, cur, hv, hb, (hk g hb (Array.getElem?_eq_some_iff.1 hg).1).trans hg, r⟩
theorem MR.own {base : Nat} {W : World} {v : Value} {Xs : List EX} (h : MR base W v Xs) (B : Nat) (hB : B < base) : v.ownBlock ≠ some B := by
  rcases h.2 with ⟨rfl, _⟩ | ⟨g, cap, cur, rfl, hb, _⟩
  · exact fun q => by cases q
  · intro q
    have : g = B := Option.some.inj q
    omega

theorem grown_more {w0 wr W' w3 : World} {B n : Nat} {r : Option Nat} (h : w0.grownBy wr (some B)) (hn : w0.heap.size = n) (hb : Below wr.heap.size wr W') (hg : W'.grownBy w3 r) (hr : ∀ k, k < n → r ≠ some k) : w0.grownBy w3 (some B) ∧ ∀ k, k < n → w3.heap[k]? = wr.heap[k]? := by
  have hs := h.size
  have A : ∀ k, k < n → w3.heap[k]? = wr.heap[k]? := fun k hk => (hg.block k (by have := hb.size; omega) (fun q => hr k hk q.symm)).trans (hb.block k (by omega))
  exact ⟨⟨hg.os.trans (hb.os.trans h.os), hg.tape.trans (hb.tape.trans h.tape), hg.output.trans (hb.output.trans h.output), by have := hb.size; have := hg.size; omega, fun k hk h1 => (A k (by omega)).trans (h.block k hk h1)⟩, A⟩

set_option maxHeartbeats 4000000 in
set_option maxRecDepth 100000 in
theorem without_any (base : Nat) (x : ByteArray) (v : Value) (Xs : List EX) (w : World) (hR : MR base w v Xs) (h8 : Xs.length ≤ 1000) (hok : ∀ X ∈ Xs, X.ok) :
    Calls Tryz.prog 61 #[.agg #[v], .string x] w fun r w' => ∃ v', r = .returned (.agg #[v']) ∧ MR w.heap.size w' v' (Xs.filter fun X => decide (X.E.id ≠ x)) ∧ Below w.heap.size w w' := by
  obtain ⟨a, cap, rfl, hcap, hc⟩ := hR.form
  obtain ⟨i0, hi, hz0, hz1, hz2⟩ := info_parts info_event
  have HC : Hid (_) := hc
  have HOK : Hid (∀ X ∈ Xs, X.ok) := hok
  clear hc hR hok
  go_enter Tryz.func61, Tryz.ntmps61
  go_wp2
  have A3 : Below w.heap.size w (((w.alloc (.cells #[.slice a Xs.length cap] 27)).alloc (.cells #[.slice none 0 0] 27)).alloc (.cells #[.slice none 0 0] 27)) := below_then (below_then (below_alloc _ _) (below_alloc _ _)) (below_alloc _ _)
  have k0 : (((w.alloc (.cells #[.slice a Xs.length cap] 27)).alloc (.cells #[.slice none 0 0] 27)).alloc (.cells #[.slice none 0 0] 27)).heap[w.heap.size]? = some (.cells #[.slice a Xs.length cap] 27 (0, 0)) := block_alloc _ (block_alloc _ (block_at _ rfl))
  have k1 : (((w.alloc (.cells #[.slice a Xs.length cap] 27)).alloc (.cells #[.slice none 0 0] 27)).alloc (.cells #[.slice none 0 0] 27)).heap[w.heap.size + 1]? = some (.cells #[.slice none 0 0] 27 (0, 0)) := block_alloc _ (block_at _ (World.size_alloc _ _))
  have k2 : (((w.alloc (.cells #[.slice a Xs.length cap] 27)).alloc (.cells #[.slice none 0 0] 27)).alloc (.cells #[.slice none 0 0] 27)).heap[w.heap.size + 2]? = some (.cells #[.slice none 0 0] 27 (0, 0)) := block_at _ (by rw [World.size_alloc, World.size_alloc])
  have sz : (((w.alloc (.cells #[.slice a Xs.length cap] 27)).alloc (.cells #[.slice none 0 0] 27)).alloc (.cells #[.slice none 0 0] 27)).heap.size = w.heap.size + 3 := by rw [World.size_alloc, World.size_alloc, World.size_alloc]
  have K0 : Hid (_) := k0
  have K1 : Hid (_) := k1
  have K2 : Hid (_) := k2
  have A0 : Hid (_) := A3
  have SZ : Hid (_) := sz
  clear A3 k0 k1 k2 sz
  generalize ((w.alloc (.cells #[.slice a Xs.length cap] 27)).alloc (.cells #[.slice none 0 0] 27)).alloc (.cells #[.slice none 0 0] 27) = w0 at K0 K1 K2 A0 SZ
  go_loopw [6] (fun i wr => ∃ m : Nat, m ≤ Xs.length ∧ i = .int .i64 m ∧ Hid (∃ vo, wr.heap[w.heap.size + 2]? = some (.cells #[vo] 27 (0, 0)) ∧ MR (w.heap.size + 3) wr vo ((Xs.take m).filter fun X => decide (X.E.id ≠ x)) ∧ w0.grownBy wr (some (w.heap.size + 2)))) (fun i _ => Xs.length - (intOf i).toNat)
  case atStart => exact ⟨0, Nat.zero_le _, rfl, _, K2.out, MR.nil _ _, grown_below (Below.refl _ _) _⟩
  case round =>
    obtain ⟨m, hm, rfl, HV⟩ := hrel
    obtain ⟨vo, hvo, hmr, hgr⟩ := HV.out
    have KR0 : wr.heap[w.heap.size]? = some (.cells #[.slice a Xs.length cap] 27 (0, 0)) := (hgr.block _ (by have := SZ.out; omega) (fun q => by have := Option.some.inj q; omega)).trans K0.out
    have cB0 := cell_of KR0
    by_cases hlt : m < Xs.length
    · obtain ⟨b, rfl, hE⟩ := HC.out m hlt
      obtain ⟨⟨ra, rn, rc, e1⟩, ⟨sa, sn, sc, e2⟩, ⟨ma, mn, mc, e3⟩⟩ := HOK.out Xs[m] (List.getElem_mem hlt)
      have hbw : b < w.heap.size := lt_of_cell hE.c0
      have hE2 : EvAt wr b (m * 11) Xs[m].E (.slice ra rn rc) (.slice sa sn sc) (.slice ma mn mc) := by
        have hq := hE.step A0.out
        rw [e1, e2, e3] at hq
        have F : ∀ {o : Nat} {u : Value}, w0.cell? ⟨b, o, none⟩ = some u → wr.cell? ⟨b, o, none⟩ = some u := fun h => grown_cell hgr h (by omega)
        exact ⟨F hq.c0, F hq.c1, F hq.c2, F hq.c3, F hq.c4, F hq.c5, F hq.c6, F hq.c7, F hq.c8, F hq.c9, F hq.c10⟩
      by_cases hx : Xs[m].E.id = x
      · have HN : Hid ((Xs.take (m + 1)).filter (fun X => decide (X.E.id ≠ x)) = (Xs.take m).filter (fun X => decide (X.E.id ≠ x))) := by
          show _ = _
          rw [List.take_succ_eq_append_getElem hlt, List.filter_append]
          simp [hx]
        have x0 := hE2.c0
        rw [hx] at x0
        clear HC HOK hE hE2 hx e1 e2 e3 hvo hmr hgr
        go_wp2
        go_roundw
        case rel => exact ⟨m + 1, by omega, by go_num, by rw [HN.out]; exact HV.out⟩
        case measure => simp [intOf]; omega
      · have HN : Hid ((Xs.take (m + 1)).filter (fun X => decide (X.E.id ≠ x)) = (Xs.take m).filter (fun X => decide (X.E.id ≠ x)) ++ [Xs[m]]) := by
          show _ = _
          rw [List.take_succ_eq_append_getElem hlt, List.filter_append]
          simp [hx]
        have hLl : ((Xs.take m).filter (fun X => decide (X.E.id ≠ x))).length ≤ 1000 := Nat.le_trans (List.length_filter_le _ _) (by rw [List.length_take]; omega)
        have hcl : Xs[m].cells = [.string Xs[m].E.id, .string Xs[m].E.ti, .int .i64 Xs[m].E.st, .int .i64 Xs[m].E.lg, .string Xs[m].E.f, .int .i64 Xs[m].E.e, .slice ra rn rc, .int .i64 Xs[m].E.c, .int .i64 Xs[m].E.u, .slice sa sn sc, .slice ma mn mc] := by unfold EX.cells; rw [e1, e2, e3]
        have HCL : Hid (Xs[m].cells = _) := hcl
        obtain ⟨oa, oc, rfl, _, _⟩ := hmr.form
        clear HC HOK hE e1 e2 e3 HV hcl
        generalize (Xs.take m).filter (fun X => decide (X.E.id ≠ x)) = L at hvo hmr HN hLl
        generalize Xs[m] = X at hE2 hx HN HCL
        obtain ⟨E, xsl, xsk, xmv⟩ := X
        dsimp only at hE2 hx HCL
        have hq := txt_ne hx
        have hsw : w.heap.size + 3 ≤ wr.heap.size := by rw [← SZ.out]; exact hgr.size
        have KS : Hid (∀ W : World, (∀ k, k < w.heap.size + 2 → W.heap[k]? = wr.heap[k]?) → W.cell? ⟨w.heap.size, 0, none⟩ = some (.slice (some ⟨b, 0, none⟩) Xs.length cap) ∧ W.cell? ⟨b, m * 11, none⟩ = some (.string E.id) ∧ W.cell? ⟨b, m * 11 + 1, none⟩ = some (.string E.ti) ∧ W.cell? ⟨b, m * 11 + 2, none⟩ = some (.int .i64 E.st) ∧ W.cell? ⟨b, m * 11 + 3, none⟩ = some (.int .i64 E.lg) ∧ W.cell? ⟨b, m * 11 + 4, none⟩ = some (.string E.f) ∧ W.cell? ⟨b, m * 11 + 5, none⟩ = some (.int .i64 E.e) ∧ W.cell? ⟨b, m * 11 + 6, none⟩ = some (.slice ra rn rc) ∧ W.cell? ⟨b, m * 11 + 7, none⟩ = some (.int .i64 E.c) ∧ W.cell? ⟨b, m * 11 + 8, none⟩ = some (.int .i64 E.u) ∧ W.cell? ⟨b, m * 11 + 9, none⟩ = some (.slice sa sn sc) ∧ W.cell? ⟨b, m * 11 + 10, none⟩ = some (.slice ma mn mc)) := fun W hW => by
          have F : ∀ {o : Nat} {u : Value}, wr.cell? ⟨b, o, none⟩ = some u → W.cell? ⟨b, o, none⟩ = some u := fun h => (World.cell?_of_block (a := ⟨b, _, none⟩) (hW b (by omega))).trans h
          exact ⟨cell_of ((hW _ (by omega)).trans KR0), F hE2.c0, F hE2.c1, F hE2.c2, F hE2.c3, F hE2.c4, F hE2.c5, F hE2.c6, F hE2.c7, F hE2.c8, F hE2.c9, F hE2.c10⟩
        obtain ⟨x0, x1, x2, x3, x4, x5, x6, x7, x8, x9, x10⟩ := hE2
        have HMR : Hid (MR (w.heap.size + 3) wr (.slice oa L.length oc) L) := hmr
        have HGR : Hid (w0.grownBy wr (some (w.heap.size + 2))) := hgr
        have HHX : Hid (E.id ≠ x) := hx
        have HVO : Hid (_) := hvo
        have cB2 : wr.cell? ⟨w.heap.size + 1 + 1, 0, none⟩ = some (.slice oa L.length oc) := cell_of hvo
        have HOWN : Hid (∀ W, Below wr.heap.size wr W → W.ownsRow (w.heap.size + 3) 44 11 (.slice oa L.length oc) L.length (L.flatMap EX.cells)) := fun W hW => hmr.far (fun k _ hk => hW.block k hk)
        have HONE : Hid (∀ u ∈ ([.string E.id, .string E.ti, .int .i64 E.st, .int .i64 E.lg, .string E.f, .int .i64 E.e, .slice ra rn rc, .int .i64 E.c, .int .i64 E.u, .slice sa sn sc, .slice ma mn mc] : List Value), u.oneCell' = true) := fun u hu => by
          simp only [List.mem_cons, List.not_mem_nil, or_false] at hu
          rcases hu with rfl | rfl | rfl | rfl | rfl | rfl | rfl | rfl | rfl | rfl | rfl <;> rfl
        have HMAX : Hid (L.length + 1 ≤ maxLen) := by show L.length + 1 ≤ maxLen; unfold maxLen; omega
        have HBY : Hid ((L.length + 1) * 160 ≤ 140737488355328) := by show (L.length + 1) * 160 ≤ _; omega
        have HFR : Hid (∀ k, k < w.heap.size + 3 → (Value.slice oa L.length oc).ownBlock ≠ some k) := fun k hk => hmr.own k hk
        have cB3 : (wr.alloc (.cells #[.string E.id, .string E.ti, .int .i64 E.st, .int .i64 E.lg, .string E.f, .int .i64 E.e, .slice ra rn rc, .int .i64 E.c, .int .i64 E.u, .slice sa sn sc, .slice ma mn mc] 44)).cell? ⟨w.heap.size + 1 + 1, 0, none⟩ = some (.slice oa L.length oc) := cell_alloc _ cB2
        have REL : Hid (∀ (w3 : World) (gb capb : Nat), w3.ownsRow (w.heap.size + 3) 44 11 (.slice (some ⟨gb, 0, none⟩) (L.length + 1) capb) (L.length + 1) (L.flatMap EX.cells ++ [.string E.id, .string E.ti, .int .i64 E.st, .int .i64 E.lg, .string E.f, .int .i64 E.e, .slice ra rn rc, .int .i64 E.c, .int .i64 E.u, .slice sa sn sc, .slice ma mn mc]) → w0.grownBy w3 (some (w.heap.size + 2)) → (∀ k, k < w.heap.size + 3 → w3.heap[k]? = wr.heap[k]?) →
            ∃ vo, (w3.setCell ⟨w.heap.size + 1 + 1, 0, none⟩ (.slice (some ⟨gb, 0, none⟩) (L.length + 1) capb)).heap[w.heap.size + 2]? = some (.cells #[vo] 27 (0, 0)) ∧ MR (w.heap.size + 3) (w3.setCell ⟨w.heap.size + 1 + 1, 0, none⟩ (.slice (some ⟨gb, 0, none⟩) (L.length + 1) capb)) vo ((Xs.take (m + 1)).filter fun X => decide (X.E.id ≠ x)) ∧ w0.grownBy (w3.setCell ⟨w.heap.size + 1 + 1, 0, none⟩ (.slice (some ⟨gb, 0, none⟩) (L.length + 1) capb)) (some (w.heap.size + 2))) := fun w3 gb capb h1 h2 h3 => by
          refine ⟨_, set_block (i := 0) _ ((h3 _ (by omega)).trans HVO.out), ?_, grown_then h2 (grown_set w3 ⟨w.heap.size + 1 + 1, 0, none⟩ _)⟩
          rw [HN.out]
          refine MR.far (W := w3) ?_ (fun k hk _ => Below.heap_setCell _ _ _ k (by intro q; have q' : k = w.heap.size + 1 + 1 := q; omega))
          show w3.ownsRow _ _ _ _ _ _
          rw [List.length_append, List.flatMap_append, List.flatMap_cons, HCL.out]
          exact h1
        clear hx hmr hgr hvo KR0
        go_wp2_with fail
        go_region_law
          ((refine step_append_lies _ (by rfl) _ _ 22 (by rfl) (w.heap.size + 3) 44 i0 zV 11 160 Tryz.underlying22 hi hz0 hz1 hz2 rfl (by decide) (.slice oa L.length oc) L.length (L.flatMap EX.cells) (by rfl) (HOWN.out _ (by (first | with_reducible exact below_then (drew_below _) (below_alloc _ _) | with_reducible exact below_then (below_alloc _ _) (drew_below _)))) ⟨wr.heap.size, 0, none⟩ 1 1 [.string E.id, .string E.ti, .int .i64 E.st, .int .i64 E.lg, .string E.f, .int .i64 E.e, .slice ra rn rc, .int .i64 E.c, .int .i64 E.u, .slice sa sn sc, .slice ma mn mc] (by rfl) rfl (World.news_of_block (cs := #[.string E.id, .string E.ti, .int .i64 E.st, .int .i64 E.lg, .string E.f, .int .i64 E.e, .slice ra rn rc, .int .i64 E.c, .int .i64 E.u, .slice sa sn sc, .slice ma mn mc]) (by first | exact block_at _ rfl | exact (block_at (W := wr) _ rfl))) HONE.out (by decide) HMAX.out HBY.out (Nat.le_trans hsw (Below.size (B := wr.heap.size) (w := wr) (by (first | with_reducible exact below_then (drew_below _) (below_alloc _ _) | with_reducible exact below_then (below_alloc _ _) (drew_below _))))) _ rfl ?_; intro gb capb w3 hown hgrow hat hlt3; have HG8 : Hid (_) := grown_more HGR.out SZ.out (by (first | with_reducible exact below_then (drew_below _) (below_alloc _ _) | with_reducible exact below_then (below_alloc _ _) (drew_below _))) hgrow HFR.out; have hW8 := HG8.out.2; have cw3 : w3.cell? ⟨w.heap.size + 1 + 1, 0, none⟩ = some (.slice oa L.length oc) := cell_of ((hW8 _ (by omega)).trans HVO.out); have fw3 : w3.frozen? ⟨w.heap.size + 1 + 1, 0, none⟩ = false := blk11_frozen ((hW8 _ (by omega)).trans HVO.out) 0))
        all_goals
          have H3 : Hid (_) := REL.out w3 gb capb hown HG8.out.1 HG8.out.2
          clear hown hgrow hat hlt3 HG8 hW8 cw3 fw3
          go_wp2
          go_roundw <;> first | exact ⟨m + 1, by omega, by go_num, H3.out⟩ | (simp [intOf]; omega)
    · have hfin : (Xs.take m).filter (fun X => decide (X.E.id ≠ x)) = Xs.filter (fun X => decide (X.E.id ≠ x)) := by rw [List.take_of_length_le (by omega)]
      rw [hfin] at hmr
      have k1 : wr.heap[w.heap.size + 1]? = some (.cells #[.slice none 0 0] 27 (0, 0)) := (hgr.block _ (by have := SZ.out; omega) (fun q => by have := Option.some.inj q; omega)).trans K1.out
      have cB1 := cell_of k1
      have fB1 := blk11_frozen k1 0
      have cB2 : wr.cell? ⟨w.heap.size + 1 + 1, 0, none⟩ = some vo := cell_of hvo
      obtain ⟨oa, oc, rfl, _, _⟩ := hmr.form
      have cN : (wr.setCell ⟨w.heap.size + 1, 0, none⟩ (.slice oa (Xs.filter (fun X => decide (X.E.id ≠ x))).length oc)).cell? ⟨w.heap.size + 1, 0, none⟩ = some (.slice oa (Xs.filter (fun X => decide (X.E.id ≠ x))).length oc) := cell_of (set_block (i := 0) _ k1)
      have HM : Hid (MR w.heap.size (wr.setCell ⟨w.heap.size + 1, 0, none⟩ (.slice oa (Xs.filter (fun X => decide (X.E.id ≠ x))).length oc)) (.slice oa (Xs.filter (fun X => decide (X.E.id ≠ x))).length oc) (Xs.filter (fun X => decide (X.E.id ≠ x)))) := own_base (hmr.far (fun k hk _ => Below.heap_setCell _ _ _ k (by intro q; have q' : k = w.heap.size + 1 := q; omega))) (by omega)
      have HBL : Hid (Below w.heap.size w (wr.setCell ⟨w.heap.size + 1, 0, none⟩ (.slice oa (Xs.filter (fun X => decide (X.E.id ≠ x))).length oc))) := by
        have g1 := grown_set wr ⟨w.heap.size + 1, 0, none⟩ (.slice oa (Xs.filter (fun X => decide (X.E.id ≠ x))).length oc)
        have hs := SZ.out
        have hs1 := hgr.size
        exact ⟨g1.os.trans (hgr.os.trans A0.out.os), g1.tape.trans (hgr.tape.trans A0.out.tape), g1.output.trans (hgr.output.trans A0.out.output), by have := g1.size; omega, fun k hk => (g1.block k (by omega) (fun q => by have : k = w.heap.size + 1 := Option.some.inj q; omega)).trans ((hgr.block k (by omega) (fun q => by have : k = w.heap.size + 2 := Option.some.inj q; omega)).trans (A0.out.block k hk))⟩
      clear HC HOK HV hvo hmr hgr hfin k1 KR0
      generalize (Xs.filter (fun X => decide (X.E.id ≠ x))).length = fl at cB2 cN HM HBL
      go_wp2
      refine bodyPost_ret (v := .agg #[.slice oa fl oc]) (by simp [results, Tryz.f61, go_sem, cN]) rfl ⟨_, rfl, HM.out, HBL.out⟩
end Go.Proofs.YtekminpoiokgfaaGreatDoor
