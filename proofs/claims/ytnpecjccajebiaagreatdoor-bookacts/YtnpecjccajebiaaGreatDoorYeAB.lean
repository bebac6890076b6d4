/- The document's own calendar: Find with the place, IDs, On, Text; a row of texts that grows. -/
import Derived.Test.YtnpecjccajebiaaGreatDoorRfFW
import Derived.Test.YtnpecjccajebiaaGreatDoorBpFW
import Derived.Test.YtnpecjccajebiaaGreatDoorYbAC
import Derived.Test.YtnpecjccajebiaaGreatDoorEvR6W
import Derived.Test.YtnpecjccajebiaaGreatDoorYeAA
import Derived.Test.YtnpecjccajebiaaGreatDoorCodeW
namespace Go.Proofs.YtnpecjccajebiaaGreatDoor
open Go Go.RowKit Go.Maps Go.Sort Cal
attribute [local go_sem] Oper.semAt_some

theorem tr_txs {W0 W : World} {v : Value} {l : List ByteArray} (h : TR W0 W v (l.map fun x => x.data.toList)) (h8 : l.length ≤ 80000) : Txs W v l := by
  have h1 := rowV_own (xs := l.map fun x => x.data.toList) h.own
  have e : (l.map fun x => x.data.toList).map bs = l := by
    rw [List.map_map]
    exact List.map_id' l
  rw [e] at h1
  exact h1.txs h8

set_option maxHeartbeats 1000000 in
theorem find_at (base : Nat) (x : ByteArray) (v : Value) (Xs : List EX) (w : World) (hR : MR base w v Xs) (h8 : Xs.length ≤ 1000) :
    Calls Tryz.prog 24 #[.agg #[v], .string x] w fun r w' => ∃ k : Int, r = .returned (.int .i64 k) ∧ ((k = -1 ∧ ¬ ∃ X ∈ Xs, X.E.id = x) ∨ ∃ (m : Nat) (h : m < Xs.length), k = m ∧ Xs[m].E.id = x) ∧ Below w.heap.size w w' := by
  obtain ⟨a, cap, rfl, hcap, hc⟩ := hR.form
  have HC : Hid (_) := hc
  have hA := below_alloc w (.cells #[.slice a Xs.length cap] 27)
  have HA0 : Hid (_) := hA
  have cB := cell_of (block_at (W := w) (.cells #[.slice a Xs.length cap] 27) rfl)
  clear hc hR hA
  go_enter Tryz.func24, Tryz.ntmps24
  generalize hw0 : w.alloc (.cells #[.slice a Xs.length cap] 27) = w0 at HA0 cB
  have HCB : Hid (_) := cB
  clear cB
  go_wp2
  go_loopw [5] (fun i wr => ∃ m : Nat, m ≤ Xs.length ∧ i = .int .i64 m ∧ Hid (Below w0.heap.size w0 wr) ∧ Hid (∀ (j : Nat) (h : j < Xs.length), j < m → Xs[j].E.id ≠ x)) (fun i _ => Xs.length - (intOf i).toNat)
  case atStart => exact ⟨0, Nat.zero_le _, rfl, Below.refl _ _, fun j _ h => absurd h (Nat.not_lt_zero _)⟩
  case round =>
    obtain ⟨m, hm, rfl, hB, HA⟩ := hrel
    have cB := cell_step HCB.out hB.out
    by_cases hlt : m < Xs.length
    · obtain ⟨b, rfl, hE⟩ := HC.out m hlt
      have x0 := cell_step (cell_step hE.c0 HA0.out) hB.out
      by_cases hx : Xs[m].E.id = x
      · have HT : Hid (∃ (j : Nat) (h : j < Xs.length), (m : Int) = j ∧ Xs[j].E.id = x) := ⟨m, hlt, rfl, hx⟩
        rw [hx] at x0
        clear HA HC hE hx HCB
        go_wp2
        go_ret
        exact ⟨_, rfl, .inr HT.out, below_then HA0.out hB.out⟩
      · have HN : Hid (∀ (j : Nat) (h : j < Xs.length), j < m + 1 → Xs[j].E.id ≠ x) := fun j hj hjk => by
          by_cases ej : j = m
          · subst ej; exact hx
          · exact HA.out j hj (by omega)
        clear HA HC hE HCB
        generalize Xs[m].E.id = y at x0 hx
        have hq := txt_ne hx
        clear hx
        go_wp2
        go_roundw
        case rel => exact ⟨m + 1, by omega, by go_num, hB.out, HN.out⟩
        case measure => simp [intOf]; omega
    · have HR : Hid (¬ ∃ X ∈ Xs, X.E.id = x) := fun ⟨X, hX, q⟩ => by
        obtain ⟨j, hj, rfl⟩ := List.mem_iff_getElem.1 hX
        exact HA.out j hj (by omega) q
      clear HA HC HCB
      go_wp2
      go_ret
      exact ⟨-1, rfl, .inl ⟨rfl, HR.out⟩, below_then HA0.out hB.out⟩

set_option maxHeartbeats 1000000 in
theorem without_nil (x : ByteArray) (w : World) :
    Calls Tryz.prog 25 #[.agg #[.slice none 0 0], .string x] w fun r w' => r = .returned (.agg #[.slice none 0 0]) ∧ Below w.heap.size w w' := by
  go_enter Tryz.func25, Tryz.ntmps25
  go_wp2
  refine wp_loop_rounds 1 ?_
  rw [rounds_succ]
  go_wp2
  have cD : (((w.alloc (Obj.cells #[Value.slice none 0 0] 27)).alloc (Obj.cells #[Value.slice none 0 0] 27)).alloc (Obj.cells #[Value.slice none 0 0] 27)).cell? ⟨w.heap.size + 1, 0, none⟩ = some (.slice none 0 0) := cell_of (block_alloc _ (block_at _ (World.size_alloc _ _)))
  refine bodyPost_ret (v := .agg #[.slice none 0 0]) (by simp [results, Tryz.f25, go_sem, cD]) rfl ⟨rfl, below_then (below_then (below_alloc _ _) (below_alloc _ _)) (below_alloc _ _)⟩

set_option maxHeartbeats 2000000 in
set_option maxRecDepth 100000 in
theorem mids_any (base : Nat) (v : Value) (Xs : List EX) (w : World) (hR : MR base w v Xs) (h8 : Xs.length ≤ 1000) :
    Calls Tryz.prog 52 #[.agg #[v]] w fun r w' => ∃ v', r = .returned v' ∧ Txs w' v' (Xs.map fun X => X.E.id) ∧ Below w.heap.size w w' := by
  obtain ⟨a, cap, rfl, hcap, hc⟩ := hR.form
  obtain ⟨i0, hi, hz0, hz1, hz2⟩ := info_parts info_str
  have HC : Hid (_) := hc
  have hA := below_alloc w (.cells #[.slice a Xs.length cap] 27)
  have HA0 : Hid (_) := hA
  have cB := cell_of (block_at (W := w) (.cells #[.slice a Xs.length cap] 27) rfl)
  clear hc hR hA
  go_enter Tryz.func52, Tryz.ntmps52
  generalize hw0 : w.alloc (.cells #[.slice a Xs.length cap] 27) = w0 at HA0 cB
  have HCB : Hid (_) := cB
  clear cB
  go_wp2
  go_loopw [3, 4] (fun v i wr => ∃ m : Nat, m ≤ Xs.length ∧ i = .int .i64 m ∧ Hid (TR w0 wr v (((Xs.take m).map fun X => X.E.id).map fun x => x.data.toList))) (fun _ i _ => Xs.length - (intOf i).toNat)
  case atStart => exact ⟨0, Nat.zero_le _, rfl, TR.nil w0⟩
  case round =>
    obtain ⟨m, hm, rfl, HO⟩ := hrel
    have cB := cell_step HCB.out HO.out.below
    by_cases hlt : m < Xs.length
    · obtain ⟨b, rfl, hE⟩ := HC.out m hlt
      have x0 := cell_step (cell_step hE.c0 HA0.out) HO.out.below
      have HN : Hid ((((Xs.take (m + 1)).map fun X => X.E.id).map fun x => x.data.toList) = (((Xs.take m).map fun X => X.E.id).map fun x => x.data.toList) ++ [Xs[m].E.id.data.toList]) := by
        show _ = _
        rw [List.take_succ_eq_append_getElem hlt, List.map_append, List.map_append]; rfl
      have hlen : (((Xs.take m).map fun X => X.E.id).map fun x => x.data.toList).length = m := by simp; omega
      clear HC hE HCB
      generalize Xs[m].E.id = bt at x0 HN
      generalize (((Xs.take m).map fun X => X.E.id).map fun x => x.data.toList) = L at HO HN hlen
      obtain ⟨oa, oc, rfl⟩ := HO.out.form
      rw [hlen] at HO
      have HLN : Hid (L.length = m) := hlen
      have NC : Hid (_) := word_cell wr bt
      have hz2' : w0.heap.size ≤ wr.heap.size := HO.out.below.size
      clear hlen
      rw [HLN.out]
      go_wp2_with (first
        | (at_builtin; refine wpList_append_own _ rfl _ _ 36 rfl w0.heap.size 9 i0 (.string ⟨#[]⟩) 1 16 Tryz.underlying36 hi hz0 hz1 hz2 rfl (by decide) _ _ _ rfl (show World.ownsRow _ _ _ _ _ m (L.map sv) by have := HO.out.own.alloc (.cells #[.string bt] 9); rwa [HLN.out] at this) ⟨wr.heap.size, 0, none⟩ 1 1 [.string bt] rfl rfl NC.out (fun v hv => by rw [List.mem_singleton.1 hv]; rfl) (by unfold maxLen; omega) (by omega) (by simp; omega) ?_; intro v' w3 hown' hgrow _; have T3 : Hid (TR w0 w3 v' (L ++ [bt.data.toList])) := TR.app [bt.data.toList] HO.out (by rw [List.length_append, HLN.out]; rfl) (by rw [List.map_append]; rfl) hown' hgrow; obtain ⟨g', cap', rfl⟩ := ownsRow_succ hown'; clear hown' hgrow)
        | go_in)
      go_roundw
      case rel => exact ⟨m + 1, by omega, by go_num, by rw [HN.out]; exact T3.out⟩
      case measure => simp [intOf]; omega
    · have HE : Hid (Xs.take m = Xs) := List.take_of_length_le (by omega)
      rw [HE.out] at HO
      have HT : Hid (Txs wr u3 (Xs.map fun X => X.E.id)) := tr_txs HO.out (by simp; omega)
      have HB : Hid (Below w0.heap.size w0 wr) := HO.out.below
      clear HC HCB HO HE
      go_wp2
      go_ret
      exact ⟨_, rfl, HT.out, below_then HA0.out HB.out⟩

theorem bkT_take (Xs : List EX) (m : Nat) (h : m < Xs.length) : bkT ((Xs.take (m + 1)).map EX.E) = bkT ((Xs.take m).map EX.E) ++ eT Xs[m].E ++ [10] := by
  rw [List.take_succ_eq_append_getElem h, List.map_append]
  exact bkT_snoc _ _

set_option maxHeartbeats 2000000 in
set_option maxRecDepth 100000 in
theorem mtext_any (base : Nat) (v : Value) (Xs : List EX) (w w0 : World) (hB0 : Below w0.heap.size w0 w) (hR : MR base w v Xs) (h60 : Xs.length ≤ 60) (hg : ∀ X ∈ Xs, XGot w0 X) (hw : ∀ X ∈ Xs, EW X.E) :
    Calls Tryz.prog 53 #[.agg #[v]] w fun r w' => r = .returned (.string (bs (bkT (Xs.map EX.E)))) ∧ Below w.heap.size w w' := by
  have hds : ∀ X ∈ Xs, X.E.ds.length ≤ 20 := fun X hX => (lngE_0 (hg X hX).2.2.2).2.1
  have ET : Hid (∀ X ∈ Xs, ∀ W, Below w.heap.size w W → Calls Tryz.prog 87 #[ev X.E X.sl X.skv X.mvv] W fun r w' => r = .returned (.string (bs (eT X.E))) ∧ Below W.heap.size W w') := fun X hX W hW => eventText_any X.E X.sl X.skv X.mvv W ((hg X hX).1.step (below_then hB0 hW)) ((hg X hX).2.1.step (below_then hB0 hW)) ((hg X hX).2.2.1.step (below_then hB0 hW)) (hds X hX) (hw X hX)
  have HF : Hid (∀ X ∈ Xs, (∃ a n c, X.sl = .slice a n c) ∧ (∃ a n c, X.skv = .slice a n c) ∧ (∃ a n c, X.mvv = .slice a n c)) := fun X hX => by
    obtain ⟨a1, c1, e1⟩ := got_form (hg X hX).1
    obtain ⟨a2, c2, e2⟩ := got_form (hg X hX).2.1
    obtain ⟨a3, c3, e3⟩ := gotM_form (hg X hX).2.2.1
    exact ⟨⟨_, _, _, e1⟩, ⟨_, _, _, e2⟩, ⟨_, _, _, e3⟩⟩
  have TL : Hid (∀ m, (bs (bkT ((Xs.take m).map EX.E))).size ≤ 700000) := fun m => by
    rw [bs_size]
    have h1 := bkT_len (C := (Xs.take m).map EX.E) (fun E hE => by
      obtain ⟨X, hX, rfl⟩ := List.mem_map.1 hE
      have hX' := List.mem_of_mem_take hX
      exact ⟨hw X hX', hds X hX'⟩)
    rw [List.length_map, List.length_take] at h1
    have h2 : min m Xs.length ≤ 60 := by omega
    have h3 := Nat.mul_le_mul_right 10001 h2
    omega
  have EL : Hid (∀ X ∈ Xs, (bs (eT X.E)).size ≤ 10000) := fun X hX => by rw [bs_size]; exact eT_len (hw X hX) (hds X hX)
  have TS : Hid (∀ (m : Nat) (h : m < Xs.length), bs (bkT ((Xs.take (m + 1)).map EX.E)) = bs (bkT ((Xs.take m).map EX.E)) ++ bs (eT Xs[m].E) ++ ⟨#[10]⟩) := fun m h => by
    rw [bkT_take Xs m h]
    show _ = bs _ ++ bs _ ++ bs [10]
    rw [bs_app, bs_app]
  obtain ⟨a, cap, rfl, hcap, hc⟩ := hR.form
  have HC : Hid (_) := hc
  have hA := below_alloc w (.cells #[.slice a Xs.length cap] 27)
  have HA0 : Hid (_) := hA
  have cB := cell_of (block_at (W := w) (.cells #[.slice a Xs.length cap] 27) rfl)
  clear hc hR hA hg hw hds
  go_enter Tryz.func53, Tryz.ntmps53
  generalize hw0 : w.alloc (.cells #[.slice a Xs.length cap] 27) = w1 at HA0 cB
  have HCB : Hid (_) := cB
  clear cB
  go_wp2
  go_loopw [3, 4] (fun o i wr => ∃ (m : Nat) (os : ByteArray), m ≤ Xs.length ∧ i = .int .i64 m ∧ o = .string os ∧ os.size ≤ 700000 ∧ Hid (os = bs (bkT ((Xs.take m).map EX.E))) ∧ Hid (Below w1.heap.size w1 wr)) (fun _ i _ => Xs.length - (intOf i).toNat)
  case atStart => exact ⟨0, ⟨#[]⟩, Nat.zero_le _, rfl, rfl, by show (0:Nat) ≤ _; omega, rfl, Below.refl _ _⟩
  case round =>
    obtain ⟨m, os, hm, rfl, rfl, hos, HO, HB⟩ := hrel
    have cB := cell_step HCB.out HB.out
    by_cases hlt : m < Xs.length
    · obtain ⟨b, rfl, hE⟩ := HC.out m hlt
      have hX : Xs[m] ∈ Xs := List.getElem_mem hlt
      have ET1 : Hid (Calls _ _ _ _ _) := ET.out _ hX wr (below_then HA0.out HB.out)
      have el := EL.out _ hX
      have J1 : Hid (_) := TS.out m hlt
      have JL := TL.out (m + 1)
      obtain ⟨⟨a1, n1, c1, e1⟩, ⟨a2, n2, c2, e2⟩, ⟨a3, n3, c3, e3⟩⟩ := HF.out _ hX
      have hE2 := hE.step (below_then HA0.out HB.out)
      clear HC hE hX HF
      generalize Xs[m] = X at ET1 el J1 e1 e2 e3 hE2
      obtain ⟨E, sl, skv, mvv⟩ := X
      dsimp only at ET1 el J1 e1 e2 e3 hE2
      subst e1 e2 e3
      obtain ⟨x0, x1, x2, x3, x4, x5, x6, x7, x8, x9, x10⟩ := hE2
      unfold ev at ET1
      generalize bs (eT E) = bt at ET1 el J1
      have q0 : ¬ 9223372036854775807 < os.size + bt.size := by omega
      have q1 : ¬ 9223372036854775807 < os.size + bt.size + 1 := by omega
      go_wp2_with (go_at_call 87; refine Calls.mono ET1.out ?_; rintro r w2 ⟨rfl, hb2⟩)
      go_roundw
      case rel =>
        have hj : bs (bkT ((Xs.take (m + 1)).map EX.E)) = os ++ bt ++ ⟨#[10]⟩ := by rw [J1.out, ← HO.out]
        refine ⟨m + 1, _, by omega, by go_num, rfl, ?_, hj.symm, below_then HB.out hb2⟩
        rw [← hj]; exact JL
      case measure => simp [intOf]; omega
    · have HE : Hid (os = bs (bkT (Xs.map EX.E))) := by
        show _ = _
        rw [HO.out, List.take_of_length_le (by omega)]
      clear HC HCB HO
      go_wp2
      go_ret
      exact ⟨ret_str HE.out, below_then HA0.out HB.out⟩

set_option maxHeartbeats 2000000 in
set_option maxRecDepth 100000 in
theorem mon_any (base : Nat) (v : Value) (Xs : List EX) (d : Int) (cv : EV → Bool) (hcv : ∀ E, cv E = true ↔ covers E d) (w w0 : World) (hB0 : Below w0.heap.size w0 w) (hR : MR base w v Xs) (h60 : Xs.length ≤ 60) (hg : ∀ X ∈ Xs, XGot w0 X) (hw : ∀ X ∈ Xs, EW X.E) :
    Calls Tryz.prog 30 #[.agg #[v], .int .i64 d] w fun r w' => ∃ v', r = .returned v' ∧ Txs w' v' (((Xs.map EX.E).filter cv).map EV.id) ∧ Below w.heap.size w w' := by
  by_cases hd : 0 ≤ d ∧ d ≤ 73048
  · have hds : ∀ X ∈ Xs, X.E.ds.length ≤ 20 := fun X hX => (lngE_0 (hg X hX).2.2.2).2.1
    have IC : Hid (∀ X ∈ Xs, ∀ W, Below w.heap.size w W → Calls Tryz.prog 57 #[ev X.E X.sl X.skv X.mvv, .int .i64 d] W fun r w' => r = .returned (.bool (cv X.E)) ∧ Below W.heap.size W w') := fun X hX W hW => by
      obtain ⟨_, _, k20, m20⟩ := ew_bd (hw X hX)
      exact isCovered_any X.E X.sl X.skv X.mvv d W ((hg X hX).1.step (below_then hB0 hW)) ((hg X hX).2.1.step (below_then hB0 hW)) ((hg X hX).2.2.1.step (below_then hB0 hW)) (hds X hX) (by omega) (by omega) (hw X hX) hd.1 hd.2 _ (hcv _)
    have ID : Hid (∀ W, Calls Tryz.prog 56 #[.int .i64 d] W fun r w' => r = .returned (.bool true) ∧ w' = W) := fun W => isDayR_yes d W hd.1 hd.2
    have HF : Hid (∀ X ∈ Xs, (∃ a n c, X.sl = .slice a n c) ∧ (∃ a n c, X.skv = .slice a n c) ∧ (∃ a n c, X.mvv = .slice a n c)) := fun X hX => by
      obtain ⟨a1, c1, e1⟩ := got_form (hg X hX).1
      obtain ⟨a2, c2, e2⟩ := got_form (hg X hX).2.1
      obtain ⟨a3, c3, e3⟩ := gotM_form (hg X hX).2.2.1
      exact ⟨⟨_, _, _, e1⟩, ⟨_, _, _, e2⟩, ⟨_, _, _, e3⟩⟩
    obtain ⟨a, cap, rfl, hcap, hc⟩ := hR.form
    obtain ⟨i0, hi, hz0, hz1, hz2⟩ := info_parts info_str
    have HC : Hid (_) := hc
    have hA := below_alloc w (.cells #[.slice a Xs.length cap] 27)
    have HA0 : Hid (_) := hA
    have cB := cell_of (block_at (W := w) (.cells #[.slice a Xs.length cap] 27) rfl)
    clear hc hR hA hg hw hds hd
    go_enter Tryz.func30, Tryz.ntmps30
    generalize hw0 : w.alloc (.cells #[.slice a Xs.length cap] 27) = w1 at HA0 cB
    have HCB : Hid (_) := cB
    clear cB
    go_wp2_with (go_at_call 56; refine Calls.mono (ID.out _) ?_; rintro r w' ⟨rfl, hq⟩; have hq := hq.symm; subst hq)
    go_loopw [5, 7, 8] (fun v i _ wr => ∃ m : Nat, m ≤ Xs.length ∧ i = .int .i64 m ∧ Hid (TR w1 wr v (((((Xs.take m).map EX.E).filter cv).map EV.id).map fun x => x.data.toList))) (fun _ i _ _ => Xs.length - (intOf i).toNat)
    case atStart => exact ⟨0, Nat.zero_le _, rfl, TR.nil w1⟩
    case round =>
      obtain ⟨m, hm, rfl, HO⟩ := hrel
      have cB := cell_step HCB.out HO.out.below
      by_cases hlt : m < Xs.length
      · obtain ⟨b, rfl, hE⟩ := HC.out m hlt
        have hX : Xs[m] ∈ Xs := List.getElem_mem hlt
        have IC1 : Hid (Calls _ _ _ _ _) := IC.out _ hX wr (below_then HA0.out HO.out.below)
        have HN : Hid (((((Xs.take (m + 1)).map EX.E).filter cv).map EV.id).map (fun x => x.data.toList) = ((((Xs.take m).map EX.E).filter cv).map EV.id).map (fun x => x.data.toList) ++ (if cv Xs[m].E then [Xs[m].E.id.data.toList] else [])) := by
          show _ = _
          rw [List.take_succ_eq_append_getElem hlt, List.map_append, List.filter_append, List.map_append, List.map_append]
          congr 1
          cases hq : cv Xs[m].E <;> simp [hq]
        have hlen : (((((Xs.take m).map EX.E).filter cv).map EV.id).map fun x => x.data.toList).length ≤ m := by
          rw [List.length_map, List.length_map]
          refine Nat.le_trans (List.length_filter_le _ _) ?_
          rw [List.length_map, List.length_take]; omega
        obtain ⟨⟨a1, n1, c1, e1⟩, ⟨a2, n2, c2, e2⟩, ⟨a3, n3, c3, e3⟩⟩ := HF.out _ hX
        have hE2 := hE.step (below_then HA0.out HO.out.below)
        have HEV : Hid (∀ W, Below wr.heap.size wr W → EvAt W b (m * 11) Xs[m].E Xs[m].sl Xs[m].skv Xs[m].mvv) := fun W hW => hE2.step hW
        clear HC hE hX HF
        generalize Xs[m] = X at IC1 HN e1 e2 e3 hE2 HEV
        obtain ⟨E, sl, skv, mvv⟩ := X
        dsimp only at IC1 HN e1 e2 e3 hE2 HEV
        subst e1 e2 e3
        obtain ⟨x0, x1, x2, x3, x4, x5, x6, x7, x8, x9, x10⟩ := hE2
        unfold ev at IC1
        generalize (((((Xs.take m).map EX.E).filter cv).map EV.id).map fun x => x.data.toList) = L at HO HN hlen
        obtain ⟨oa, oc, rfl⟩ := HO.out.form
        generalize hll : L.length = l at HO hlen ⊢
        have HLN : Hid (L.length = l) := hll
        clear hll
        cases hcvb : cv E with
        | true =>
          rw [hcvb] at IC1 HN
          rw [if_pos rfl] at HN
          clear hcvb
          go_wp2_with (first
            | (go_at_call 57; refine Calls.mono IC1.out ?_; rintro r w2 ⟨rfl, hb2⟩; have cB2 := cell_step cB hb2; obtain ⟨y0, _⟩ := HEV.out w2 hb2; have T2 : Hid (TR w1 w2 (.slice oa l oc) L) := HO.out.step hb2; have NC : Hid (_) := word_cell w2 E.id; have hz2' : w1.heap.size ≤ w2.heap.size := T2.out.below.size)
            | (at_builtin; refine wpList_append_own _ rfl _ _ 36 rfl w1.heap.size 9 i0 (.string ⟨#[]⟩) 1 16 Tryz.underlying36 hi hz0 hz1 hz2 rfl (by decide) _ _ _ rfl (show World.ownsRow _ _ _ _ _ l (L.map sv) by have := T2.out.own.alloc (.cells #[.string E.id] 9); rwa [HLN.out] at this) ⟨w2.heap.size, 0, none⟩ 1 1 [.string E.id] rfl rfl NC.out (fun v hv => by rw [List.mem_singleton.1 hv]; rfl) (by unfold maxLen; omega) (by omega) (by simp; omega) ?_; intro v' w3 hown' hgrow _; have T3 : Hid (TR w1 w3 v' (L ++ [E.id.data.toList])) := TR.app [E.id.data.toList] T2.out (by rw [List.length_append, HLN.out]; rfl) (by rw [List.map_append]; rfl) hown' hgrow; obtain ⟨g', cap', rfl⟩ := ownsRow_succ hown'; clear hown' hgrow)
            | go_in)
          go_roundw
          case rel => exact ⟨m + 1, by omega, by go_num, by rw [HN.out]; exact T3.out⟩
          case measure => simp [intOf]; omega
        | false =>
          rw [hcvb] at IC1 HN
          rw [if_neg (by decide), List.append_nil] at HN
          clear hcvb
          go_wp2_with (go_at_call 57; refine Calls.mono IC1.out ?_; rintro r w2 ⟨rfl, hb2⟩; have T2 : Hid (TR w1 w2 (.slice oa l oc) L) := HO.out.step hb2)
          go_roundw
          case rel => exact ⟨m + 1, by omega, by go_num, by rw [HN.out]; exact T2.out⟩
          case measure => simp [intOf]; omega
      · have HE : Hid (Xs.take m = Xs) := List.take_of_length_le (by omega)
        rw [HE.out] at HO
        have HT : Hid (Txs wr u5 (((Xs.map EX.E).filter cv).map EV.id)) := tr_txs HO.out (by
          rw [List.length_map]
          have := List.length_filter_le cv (Xs.map EX.E)
          rw [List.length_map] at this
          omega)
        have HB : Hid (Below w1.heap.size w1 wr) := HO.out.below
        clear HC HCB HO HE
        go_wp2
        go_ret
        exact ⟨_, rfl, HT.out, below_then HA0.out HB.out⟩
  · have hnil : ((Xs.map EX.E).filter cv).map EV.id = [] := by
      have : (Xs.map EX.E).filter cv = [] := by
        rw [List.filter_eq_nil_iff]
        intro E _ q
        exact hd ((hcv E).1 q).1
      rw [this]; rfl
    rw [hnil]
    have ID : Hid (∀ W, Calls Tryz.prog 56 #[.int .i64 d] W fun r w' => r = .returned (.bool false) ∧ w' = W) := fun W => isDayR_no d W (by omega)
    obtain ⟨a, cap, rfl, hcap, hc⟩ := hR.form
    have hA := below_alloc w (.cells #[.slice a Xs.length cap] 27)
    have cB := cell_of (block_at (W := w) (.cells #[.slice a Xs.length cap] 27) rfl)
    have HA0 : Hid (_) := hA
    clear hc hR hA hg hw hd hnil
    go_enter Tryz.func30, Tryz.ntmps30
    generalize hw0 : w.alloc (.cells #[.slice a Xs.length cap] 27) = w1 at HA0 cB
    go_wp2_with (go_at_call 56; refine Calls.mono (ID.out _) ?_; rintro r w' ⟨rfl, hq⟩; have hq := hq.symm; subst hq)
    refine wp_loop_rounds 1 ?_
    rw [rounds_succ]
    by_cases hx : 0 < Xs.length
    · go_wp2
      go_ret
      exact ⟨_, rfl, ⟨none, 0, rfl, by simp, by simp, fun j h => absurd h (by simp)⟩, HA0.out⟩
    · go_wp2
      go_ret
      exact ⟨_, rfl, ⟨none, 0, rfl, by simp, by simp, fun j h => absurd h (by simp)⟩, HA0.out⟩
end Go.Proofs.YtnpecjccajebiaaGreatDoor

/- The document's own SameEvent over an event of a book and one of the model, whose lists lie anywhere; AsBook; longActs; coded. -/
namespace Go.Proofs.YtnpecjccajebiaaGreatDoor
open Go Go.RowKit Go.Maps Go.Sort Cal
attribute [local go_sem] Oper.semAt_some

/-- an event's lists, wherever they lie -/
structure GLs (W : World) (E : EV) (sl skv mvv : Value) : Prop where
  d : Got W sl E.ds
  s : Got W skv E.sk
  m : GotM W mvv E.mv
theorem GLs.step {W W' : World} {E : EV} {sl skv mvv : Value} (h : GLs W E sl skv mvv) (hb : Below W.heap.size W W') : GLs W' E sl skv mvv := ⟨h.d.step hb, h.s.step hb, h.m.step hb⟩
theorem gotM_at {W : World} {a : Option Addr} {cap : Nat} {xs : List (Int × Int)} (h : GotM W (.slice a xs.length cap) xs) (j : Nat) (hj : j < xs.length) : ∃ ad, a = some ad ∧ W.cell? (ad.add (j * 2)) = some (.int .i64 xs[j].1) ∧ W.cell? (ad.add (j * 2 + 1)) = some (.int .i64 xs[j].2) := by
  obtain ⟨a', c', e, hn, hs⟩ := h
  cases e
  cases a with
  | none => exact absurd (hn rfl).1 (by omega)
  | some ad => exact ⟨ad, rfl, (hs ad rfl j hj).2⟩
theorem got_at {W : World} {a : Option Addr} {cap : Nat} {xs : List Int} (h : Got W (.slice a xs.length cap) xs) (j : Nat) (hj : j < xs.length) : ∃ ad, a = some ad ∧ W.cell? (ad.add j) = some (.int .i64 xs[j]) := by
  obtain ⟨a', c', e, hn, hs⟩ := h
  cases e
  cases a with
  | none => exact absurd (hn rfl).1 (by omega)
  | some ad => exact ⟨ad, rfl, (hs ad rfl j hj).2⟩

theorem same_mix {W : World} {v1 v2 : Value} {o : List Int} (h1 : Ints W v1 o) (h2 : Got W v2 o) :
    Calls Tryz.prog 55 #[v1, v2] W fun e w' => e = .returned (.bool true) ∧ Below W.heap.size W w' := by
  obtain ⟨a1, c1, rfl, hl, _, h1⟩ := h1
  obtain ⟨a2, c2, rfl⟩ := got_form h2
  have HA : Hid (_) := h1
  have HB : Hid (∀ (j : Nat) (hj : j < o.length), ∃ ad, a2 = some ad ∧ W.cell? (ad.add j) = some (.int .i64 o[j])) := fun j hj => got_at h2 j hj
  clear h1 h2
  go_enter Tryz.func55, Tryz.ntmps55
  go_wp2
  go_loopw [5] (fun i wr => ∃ k q : Nat, k ≤ o.length ∧ i = .int .i64 k ∧ wr = W.drewN q) (fun i _ => o.length - (intOf i).toNat)
  case atStart => exact ⟨0, 0, Nat.zero_le _, rfl, rfl⟩
  case round =>
    obtain ⟨k, q, hk, rfl, rfl⟩ := hrel
    by_cases hlt : k < o.length
    · obtain ⟨b, rfl, _, p1⟩ := HA.out k hlt
      obtain ⟨ad, rfl, p2⟩ := HB.out k hlt
      have hlt' : (k : Int) < (o.length : Int) := by omega
      generalize o[k] = y at p1 p2
      clear HA HB
      cases k with
      | zero =>
        have p3 : W.cell? ad = some (.int .i64 y) := p2
        have hl1 : 0 < o.length := by omega
        go_wp2
        go_quiet (fail)
        go_wp2
        go_roundw
        case rel => exact ⟨0 + 1, _, by omega, by go_num, rfl⟩
        case measure => simp [intOf]; omega
      | succ k =>
        have p3 : W.cell? ⟨ad.block, ad.off + (k + 1), none⟩ = some (.int .i64 y) := p2
        have hl1 : (k : Int) + 1 < (o.length : Int) := by omega
        have hl2 : k + 1 < o.length := by omega
        have hq0 : 0 ≤ (k : Int) + 1 := by omega
        have hq1 : ((k : Int) + 1).toNat = k + 1 := by omega
        go_wp2
        go_quiet (fail)
        go_wp2
        go_roundw
        case rel => exact ⟨k + 1 + 1, _, by omega, by go_num, rfl⟩
        case measure => simp [intOf]; omega
    · go_wp2
      go_ret
      exact ⟨rfl, drewN_below _ _⟩

set_option maxHeartbeats 1000000 in
theorem sameRule_mix (f : ByteArray) (e : Int) (sl sl' : Value) (c u : Int) (ds : List Int) (w : World) (hd : Days w sl ds) (hd' : Got w sl' ds) :
    Calls Tryz.prog 54 #[rv f e sl c u, rv f e sl' c u] w fun r w' => r = .returned (.bool true) ∧ Below w.heap.size w w' := by
  have hA := below_box2 w (.cells #[.string f, .int .i64 e, sl, .int .i64 c, .int .i64 u] 41) (.cells #[.string f, .int .i64 e, sl', .int .i64 c, .int .i64 u] 41)
  have k0 : ((w.alloc (.cells #[.string f, .int .i64 e, sl, .int .i64 c, .int .i64 u] 41)).alloc (.cells #[.string f, .int .i64 e, sl', .int .i64 c, .int .i64 u] 41)).heap[w.heap.size]? = some (.cells #[.string f, .int .i64 e, sl, .int .i64 c, .int .i64 u] 41 (0, 0)) := block_alloc _ (block_at _ rfl)
  have k1 : ((w.alloc (.cells #[.string f, .int .i64 e, sl, .int .i64 c, .int .i64 u] 41)).alloc (.cells #[.string f, .int .i64 e, sl', .int .i64 c, .int .i64 u] 41)).heap[w.heap.size + 1]? = some (.cells #[.string f, .int .i64 e, sl', .int .i64 c, .int .i64 u] 41 (0, 0)) := block_at _ (by simp)
  have SI : Hid (Calls _ _ _ _ _) := same_mix (days_ints (hd.step hA)) (hd'.step hA)
  obtain ⟨ra, rc, rfl, _⟩ := hd
  obtain ⟨ra1, rc1, rfl⟩ := got_form hd'
  have HA : Hid (_) := hA
  clear hA
  unfold rv
  generalize hw0 : (w.alloc (.cells #[.string f, .int .i64 e, .slice ra ds.length rc, .int .i64 c, .int .i64 u] 41)).alloc (.cells #[.string f, .int .i64 e, .slice ra1 ds.length rc1, .int .i64 c, .int .i64 u] 41) = w0 at HA k0 k1 SI
  obtain ⟨x0, x1, x2, x3, x4⟩ := blk5 k0
  obtain ⟨y0, y1, y2, y3, y4⟩ := blk5 k1
  clear k0 k1
  go_enter Tryz.func54, Tryz.ntmps54
  go_wp2_with (go_at_call 55; refine Calls.mono SI.out ?_; rintro r w1 ⟨rfl, hb1⟩)
  go_ret
  exact ⟨rfl, below_then HA.out hb1⟩

set_option maxHeartbeats 4000000 in
set_option maxRecDepth 100000 in
theorem sameEvent_mix (E : EV) (sl skv mvv sl' skv' mvv' : Value) (w : World) (h1 : Ls w E sl skv mvv) (h2 : GLs w E sl' skv' mvv') :
    Calls Tryz.prog 28 #[ev E sl skv mvv, ev E sl' skv' mvv'] w fun r w' => r = .returned (.bool true) ∧ Below w.heap.size w w' := by
  have HL1 : Hid (Ls w E sl skv mvv) := h1
  have HL2 : Hid (GLs w E sl' skv' mvv') := h2
  obtain ⟨hd, hs, hm⟩ := h1
  have hd' := h2.d
  have hs' := h2.s
  have hm' := h2.m
  obtain ⟨ra, rc, rfl, _⟩ := hd
  obtain ⟨sa, sc, rfl, _⟩ := hs
  obtain ⟨ma, mc, rfl, hml, _⟩ := hm
  obtain ⟨ra1, rc1, rfl⟩ := got_form hd'
  obtain ⟨sa1, sc1, rfl⟩ := got_form hs'
  obtain ⟨ma1, mc1, rfl⟩ := gotM_form hm'
  obtain ⟨idn, ti, st, lg, f, e, ds, c, u, sk, mv⟩ := E
  unfold ev
  dsimp only at *
  have hA := below_box2 w (.cells #[.string idn, .string ti, .int .i64 st, .int .i64 lg, .string f, .int .i64 e, .slice ra ds.length rc, .int .i64 c, .int .i64 u, .slice sa sk.length sc, .slice ma mv.length mc] 44) (.cells #[.string idn, .string ti, .int .i64 st, .int .i64 lg, .string f, .int .i64 e, .slice ra1 ds.length rc1, .int .i64 c, .int .i64 u, .slice sa1 sk.length sc1, .slice ma1 mv.length mc1] 44)
  have k0 : ((w.alloc (.cells #[.string idn, .string ti, .int .i64 st, .int .i64 lg, .string f, .int .i64 e, .slice ra ds.length rc, .int .i64 c, .int .i64 u, .slice sa sk.length sc, .slice ma mv.length mc] 44)).alloc (.cells #[.string idn, .string ti, .int .i64 st, .int .i64 lg, .string f, .int .i64 e, .slice ra1 ds.length rc1, .int .i64 c, .int .i64 u, .slice sa1 sk.length sc1, .slice ma1 mv.length mc1] 44)).heap[w.heap.size]? = some (.cells #[.string idn, .string ti, .int .i64 st, .int .i64 lg, .string f, .int .i64 e, .slice ra ds.length rc, .int .i64 c, .int .i64 u, .slice sa sk.length sc, .slice ma mv.length mc] 44 (0, 0)) := block_alloc _ (block_at _ rfl)
  have k1 : ((w.alloc (.cells #[.string idn, .string ti, .int .i64 st, .int .i64 lg, .string f, .int .i64 e, .slice ra ds.length rc, .int .i64 c, .int .i64 u, .slice sa sk.length sc, .slice ma mv.length mc] 44)).alloc (.cells #[.string idn, .string ti, .int .i64 st, .int .i64 lg, .string f, .int .i64 e, .slice ra1 ds.length rc1, .int .i64 c, .int .i64 u, .slice sa1 sk.length sc1, .slice ma1 mv.length mc1] 44)).heap[w.heap.size + 1]? = some (.cells #[.string idn, .string ti, .int .i64 st, .int .i64 lg, .string f, .int .i64 e, .slice ra1 ds.length rc1, .int .i64 c, .int .i64 u, .slice sa1 sk.length sc1, .slice ma1 mv.length mc1] 44 (0, 0)) := block_at _ (by simp)
  have L1 := HL1.out.step hA
  have L2 := HL2.out.step hA
  have SR := sameRule_mix f e _ _ c u ds _ L1.d L2.d
  unfold rv at SR
  have HSR : Hid (Calls _ _ _ _ _) := SR
  have HA : Hid (_) := hA
  have HK0 : Hid (_) := k0
  have HK1 : Hid (_) := k1
  have M1 : Hid (Ls _ ⟨idn, ti, st, lg, f, e, ds, c, u, sk, mv⟩ (.slice ra ds.length rc) (.slice sa sk.length sc) (.slice ma mv.length mc)) := L1
  have M2 : Hid (GLs _ ⟨idn, ti, st, lg, f, e, ds, c, u, sk, mv⟩ (.slice ra1 ds.length rc1) (.slice sa1 sk.length sc1) (.slice ma1 mv.length mc1)) := L2
  clear SR L1 L2 HL1 HL2 hA
  generalize hw0 : (w.alloc (.cells #[.string idn, .string ti, .int .i64 st, .int .i64 lg, .string f, .int .i64 e, .slice ra ds.length rc, .int .i64 c, .int .i64 u, .slice sa sk.length sc, .slice ma mv.length mc] 44)).alloc (.cells #[.string idn, .string ti, .int .i64 st, .int .i64 lg, .string f, .int .i64 e, .slice ra1 ds.length rc1, .int .i64 c, .int .i64 u, .slice sa1 sk.length sc1, .slice ma1 mv.length mc1] 44) = w0 at HA k0 k1 HK0 HK1 HSR M1 M2
  obtain ⟨x0, x1, x2, x3, x4, x5, x6, x7, x8, x9, x10⟩ := blk11 k0
  obtain ⟨y0, y1, y2, y3, y4, y5, y6, y7, y8, y9, y10⟩ := blk11 k1
  clear k0 k1
  go_enter Tryz.func28, Tryz.ntmps28
  go_upto_region 3 with (go_at_call 54; refine Calls.mono HSR.out ?_; rintro r w1 ⟨rfl, hb1⟩)
  have HK2 : Hid (_) := (hb1.block _ (Array.getElem?_eq_some_iff.1 HK0.out).1).trans HK0.out
  have HK3 : Hid (_) := (hb1.block _ (Array.getElem?_eq_some_iff.1 HK1.out).1).trans HK1.out
  have N1 : Hid (Ls w1 ⟨idn, ti, st, lg, f, e, ds, c, u, sk, mv⟩ (.slice ra ds.length rc) (.slice sa sk.length sc) (.slice ma mv.length mc)) := M1.out.step hb1
  have N2 : Hid (GLs w1 ⟨idn, ti, st, lg, f, e, ds, c, u, sk, mv⟩ (.slice ra1 ds.length rc1) (.slice sa1 sk.length sc1) (.slice ma1 mv.length mc1)) := M2.out.step hb1
  have BW1 : Hid (Below w.heap.size w w1) := below_then HA.out hb1
  have SI : Hid (Calls _ _ _ _ _) := same_mix N1.out.s N2.out.s
  clear x0 x1 x2 x3 x4 x5 x6 x7 x8 x9 x10 y0 y1 y2 y3 y4 y5 y6 y7 y8 y9 y10 HK0 HK1 M1 M2 HSR HA hb1 hw0
  obtain ⟨x0, x1, x2, x3, x4, x5, x6, x7, x8, x9, x10⟩ := blk11 HK2.out
  obtain ⟨y0, y1, y2, y3, y4, y5, y6, y7, y8, y9, y10⟩ := blk11 HK3.out
  go_upto_region 5 with (go_at_call 55; refine Calls.mono SI.out ?_; rintro r w2 ⟨rfl, hb2⟩; have HK4 : Hid (_) := (hb2.block _ (Array.getElem?_eq_some_iff.1 HK2.out).1).trans HK2.out; have HK5 : Hid (_) := (hb2.block _ (Array.getElem?_eq_some_iff.1 HK3.out).1).trans HK3.out; clear x0 x1 x2 x3 x4 x5 x6 x7 x8 x9 x10 y0 y1 y2 y3 y4 y5 y6 y7 y8 y9 y10; obtain ⟨x0, x1, x2, x3, x4, x5, x6, x7, x8, x9, x10⟩ := blk11 HK4.out; obtain ⟨y0, y1, y2, y3, y4, y5, y6, y7, y8, y9, y10⟩ := blk11 HK5.out)
  have P1 : Hid (Movs w2 (.slice ma mv.length mc) mv) := N1.out.m.step hb2
  have P2 : Hid (GotM w2 (.slice ma1 mv.length mc1) mv) := N2.out.m.step hb2
  have BW2 : Hid (Below w.heap.size w w2) := below_then BW1.out hb2
  clear N1 N2 BW1 SI hb2 HK2 HK3 HK4 HK5 x0 x1 x2 x3 x4 x5 x6 x7 x8 x9 y0 y1 y2 y3 y4 y5 y6 y7 y8 y9
  go_wp2
  go_loopw [5] (fun i wr => ∃ k q : Nat, k ≤ mv.length ∧ i = .int .i64 k ∧ wr = w2.drewN q) (fun i _ => mv.length - (intOf i).toNat)
  case atStart => exact ⟨0, 0, Nat.zero_le _, rfl, rfl⟩
  case round =>
    obtain ⟨k, q, hk, rfl, rfl⟩ := hrel
    by_cases hlt : k < mv.length
    · obtain ⟨aa, ca, ea, _, _, hca⟩ := P1.out
      cases ea
      obtain ⟨b1, rfl, _, p1, p2⟩ := hca k hlt
      obtain ⟨ad, hq1, p3, p4⟩ := gotM_at P2.out k hlt
      subst hq1
      have hlt' : (k : Int) < (mv.length : Int) := by omega
      generalize mv[k] = y at p1 p2 p3 p4
      clear hca P1 P2
      cases k with
      | zero =>
        have p5 : w2.cell? ad = some (.int .i64 y.1) := p3
        have p6 : w2.cell? ⟨ad.block, ad.off + 1, none⟩ = some (.int .i64 y.2) := p4
        have hl1 : 0 < mv.length := by omega
        go_wp2
        go_quiet (fail)
        go_wp2
        go_roundw
        case rel => exact ⟨0 + 1, _, by omega, by go_num, rfl⟩
        case measure => simp [intOf]; omega
      | succ k =>
        have p5 : w2.cell? ⟨ad.block, ad.off + (k + 1) * 2, none⟩ = some (.int .i64 y.1) := p3
        have p7 : w2.cell? ((ad.add ((k + 1) * 2)).add 1) = some (.int .i64 y.2) := by
          have e : (ad.add ((k + 1) * 2)).add 1 = ad.add ((k + 1) * 2 + 1) := Deep.add_add _ _ _
          rw [e]; exact p4
        have p8 : w2.cell? ⟨ad.block, ad.off + (k + 1) * 2 + 1, none⟩ = some (.int .i64 y.2) := p7
        have p9 : w2.cell? ⟨(ad.add ((k + 1) * 2)).block, (ad.add ((k + 1) * 2)).off + 1, none⟩ = some (.int .i64 y.2) := p7
        have hl1 : (k : Int) + 1 < (mv.length : Int) := by omega
        have hl2 : k + 1 < mv.length := by omega
        have hq0 : 0 ≤ (k : Int) + 1 := by omega
        have hq1 : ((k : Int) + 1).toNat = k + 1 := by omega
        go_wp2
        go_quiet (fail)
        go_wp2
        go_roundw
        case rel => exact ⟨k + 1 + 1, _, by omega, by go_num, rfl⟩
        case measure => simp [intOf]; omega
    · go_wp2
      go_ret
      exact ⟨rfl, below_then BW2.out (drewN_below _ _)⟩
end Go.Proofs.YtnpecjccajebiaaGreatDoor
