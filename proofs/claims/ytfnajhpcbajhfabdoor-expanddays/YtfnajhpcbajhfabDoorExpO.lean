/- Contracts of the law's own LongRule and OwnRule. -/
import Derived.Test.YtfnajhpcbajhfabDoorExpC
import Derived.Laws.AppendOwnNone
namespace Go.Proofs.YtfnajhpcbajhfabDoor
open Go.RowKit Cal

theorem ow_days {base : Nat} {W : World} {sl : Value} {ds : List Int} (h : Ow base W sl ds) (h20 : ds.length ≤ 20) : Days W sl ds := by
  rcases h.2 with ⟨rfl, h0⟩ | ⟨g, cap, cur, rfl, hb, hg, hcap, hmax, hsz, htake⟩
  · rw [List.length_eq_zero_iff.1 h0]; exact Days.nil W 0
  · refine ⟨_, cap, rfl, h20, hcap, fun j hj => ⟨g, rfl, (Array.getElem?_eq_some_iff.1 hg).1, ?_⟩⟩
    have := World.ownsRow.cellAt h j (by omega)
    rw [this, List.getElem?_map, List.getElem?_eq_getElem hj]; rfl
theorem Ow.step {base : Nat} {W W' : World} {v : Value} {o : List Int} (h : Ow base W v o) (hb : Below W.heap.size W W') : Ow base W' v o :=
  World.ownsRow.kept h (grown_below hb (some W.heap.size)) (.inr (fun he => by have := (World.ownsRow.lt h _ he).2; omega))
theorem ow_form {base : Nat} {W : World} {v : Value} {o : List Int} (h : Ow base W v o) : ∃ a cap, v = .slice a o.length cap := by
  rcases h.2 with ⟨rfl, h0⟩ | ⟨g, cap, cur, rfl, _⟩
  · rw [h0]; exact ⟨none, 0, rfl⟩
  · exact ⟨_, cap, rfl⟩
theorem Ow.steps {base : Nat} {W W' : World} {v : Value} {o : List Int} (h : Ow base W v o) (hk : ∀ k, base ≤ k → k < W.heap.size → W'.heap[k]? = W.heap[k]?) : Ow base W' v o := by
  refine ⟨h.1, ?_⟩
  rcases h.2 with h2 | ⟨g, cap, cur, hv, hb, hg, r⟩
  · exact .inl h2
  · exact .inr ⟨g, cap, cur, hv, hb, (hk g hb (Array.getElem?_eq_some_iff.1 hg).1).trans hg, r⟩
/-- a rule's list of days as it was handed over -/
def Got (w : World) (sl : Value) (ds : List Int) : Prop :=
  ∃ (a : Option Addr) (cap : Nat), sl = .slice a ds.length cap ∧ (a = none → ds.length = 0 ∧ cap = 0) ∧ ∀ ad, a = some ad → ∀ (j : Nat) (h : j < ds.length), ad.block < w.heap.size ∧ w.cell? (ad.add j) = some (.int .i64 ds[j])
theorem addr_add_block (ad : Addr) (j : Nat) : (ad.add j).block = ad.block := by
  unfold Addr.add
  split <;> rfl
theorem Got.step {w w' : World} {sl : Value} {ds : List Int} (h : Got w sl ds) (hb : Below w.heap.size w w') : Got w' sl ds := by
  obtain ⟨a, cap, h1, h2, h3⟩ := h
  refine ⟨a, cap, h1, h2, fun ad e j hj => ?_⟩
  obtain ⟨h4, h5⟩ := h3 ad e j hj
  exact ⟨Nat.lt_of_lt_of_le h4 hb.size, (World.cell?_of_block (a := ad.add j) (hb.block _ (by rw [addr_add_block]; exact h4))).trans h5⟩

theorem ow_got {base : Nat} {W : World} {sl : Value} {ds : List Int} (h : Ow base W sl ds) : Got W sl ds := by
  rcases h.2 with ⟨rfl, h0⟩ | ⟨g, cap, cur, rfl, hb, hg, hcap, hmax, hsz, htake⟩
  · rw [List.length_eq_zero_iff.1 h0]; exact ⟨none, 0, rfl, fun _ => ⟨rfl, rfl⟩, fun ad q => by cases q⟩
  · refine ⟨_, cap, rfl, (fun q => by cases q), fun ad q j hj => ?_⟩
    cases q
    refine ⟨(Array.getElem?_eq_some_iff.1 hg).1, ?_⟩
    have := World.ownsRow.cellAt h j (by omega)
    have e : (⟨g, 0, none⟩ : Addr).add j = ⟨g, j, none⟩ := by
      simp [Addr.add]
      intro hq
      exact hq.symm
    rw [e, this, List.getElem?_map, List.getElem?_eq_getElem hj]; rfl

theorem longRule_any (f : ByteArray) (e : Int) (a : Option Addr) (n cap : Nat) (c u : Int) (w : World) (k : Int) (hk : k = if 20 < f.size ∨ 20 < n then 1 else 0) :
    Calls Tryd.prog 7 #[rv f e (.slice a n cap) c u] w fun r w' => r = .returned (.int .i64 k) ∧ Below w.heap.size w w' := by
  unfold rv
  by_cases h1 : 20 < f.size
  · have HK : Hid (k = 1) := by rw [hk, if_pos (Or.inl h1)]; trivial
    clear hk
    go_enter Tryd.func7, Tryd.ntmps7
    go_wp2
    go_ret
    exact ⟨ret_int HK.out.symm, below_alloc _ _⟩
  · by_cases h2 : 20 < n
    · have HK : Hid (k = 1) := by rw [hk, if_pos (Or.inr h2)]; trivial
      clear hk
      go_enter Tryd.func7, Tryd.ntmps7
      go_wp2
      go_ret
      exact ⟨ret_int HK.out.symm, below_alloc _ _⟩
    · have HK : Hid (k = 0) := by rw [hk, if_neg (by omega)]; trivial
      clear hk
      go_enter Tryd.func7, Tryd.ntmps7
      go_wp2
      go_ret
      exact ⟨ret_int HK.out.symm, below_alloc _ _⟩

set_option maxHeartbeats 1000000 in
set_option maxRecDepth 100000 in
theorem ownRule_any (f : ByteArray) (e : Int) (sl : Value) (c u : Int) (ds : List Int) (w : World) (hd : Got w sl ds) (h20 : ds.length ≤ 20) :
    Calls Tryd.prog 8 #[rv f e sl c u] w fun r w' => ∃ sl', r = .returned (rv f e sl' c u) ∧ Days w' sl' ds ∧ Got w' sl' ds ∧ Below w.heap.size w w' := by
  obtain ⟨a, cap, rfl, hn, hs⟩ := hd
  obtain ⟨i0, hi, hz0, hz1, hz2⟩ := info_parts info_int
  unfold rv
  cases a with
  | none =>
    obtain ⟨h0, rfl⟩ := hn rfl
    have hds : ds = [] := List.length_eq_zero_iff.1 h0
    subst hds
    clear hn hs h0
    simp only [List.length_nil]
    go_enter Tryd.func8, Tryd.ntmps8
    go_wp2
    exact bodyPost_ret (v := .agg #[.string f, .int .i64 e, .slice none 0 0, .int .i64 c, .int .i64 u]) (by simp [results, Tryd.f8, go_sem]) rfl ⟨_, rfl, Days.nil _ 0, ⟨none, 0, rfl, fun _ => ⟨rfl, rfl⟩, fun ad h => by cases h⟩, below_box2 _ _ _⟩
  | some ad =>
    have hc := hs ad rfl
    have HC : Hid (_) := hc
    clear hn hs hc
    go_enter Tryd.func8, Tryd.ntmps8
    go_wp2_with (first
      | (at_builtin; refine wpList_append_own _ rfl _ _ 22 rfl (w.heap.size + 2) 3 i0 (.int .i64 0) 1 8 Tryd.underlying22 hi hz0 hz1 hz2 rfl (by decide) _ _ _ rfl (World.ownsRow_nil _ _ _ _) ad ds.length cap (ds.map (Value.int .i64)) rfl (by simp) ?c1 ?c2 ?c3 ?c4 ?c5 ?_)
      | go_in)
    case c1 =>
      intro j v hv
      rw [List.getElem?_map] at hv
      obtain ⟨d, hd, rfl⟩ := Option.map_eq_some_iff.1 hv
      obtain ⟨hj, rfl⟩ := List.getElem?_eq_some_iff.1 hd
      exact (World.cell?_of_block (a := ad.add j) ((below_box2 w _ _).block _ (by rw [addr_add_block]; exact (HC.out j hj).1))).trans (HC.out j hj).2
    case c2 =>
      intro v hv
      obtain ⟨d, _, rfl⟩ := List.mem_map.1 hv
      rfl
    case c3 => unfold maxLen; omega
    case c4 => omega
    case c5 => simp
    · intro v' w1 hown hgrow _
      have hb1 : Below _ _ w1 := ⟨hgrow.os, hgrow.tape, hgrow.output, hgrow.size, fun k hk => hgrow.block k hk (by simp [Value.ownBlock])⟩
      have OW : Hid (Ow (w.heap.size + 2) w1 v' ds) := hown
      obtain ⟨a', c', rfl, _, _, _⟩ := ow_days OW.out h20
      have k0 := (hb1.block w.heap.size (by simp; omega)).trans (block_alloc _ (block_at _ rfl))
      have k1 := (hb1.block (w.heap.size + 1) (by simp)).trans (block_at _ (by simp))
      have K1 : Hid (_) := k1
      have HB : Hid (Below w.heap.size w w1) := (below_box2 w _ _).trans (hb1.mono (by simp; omega))
      obtain ⟨x0, x1, x2, x3, x4⟩ := blk5 k0
      obtain ⟨y0, y1, y2, y3, y4⟩ := blk5 k1
      have z2 := blk5_frozen k0 2
      have t0 := blk5_frozen k1 0
      have t1 := blk5_frozen k1 1
      have t2 := blk5_frozen k1 2
      have t3 := blk5_frozen k1 3
      have t4 := blk5_frozen k1 4
      clear hown hgrow hb1 HC
      go_wp2
      have g0 := grown_set w1 ⟨w.heap.size, 2, none⟩ (.slice a' ds.length c')
      have q1 := (Below.heap_setCell w1 ⟨w.heap.size, 2, none⟩ (.slice a' ds.length c') (w.heap.size + 1) (fun e => by have e' : w.heap.size + 1 = w.heap.size := e; omega)).trans K1.out
      have o1 := Ow.grown OW.out g0 (show w.heap.size < _ by omega)
      have b1 : Below w.heap.size w (w1.setCell ⟨w.heap.size, 2, none⟩ (.slice a' ds.length c')) := HB.out.grown g0 HB.out.size (fun k e => by cases e; exact Nat.le_refl _)
      generalize w1.setCell ⟨w.heap.size, 2, none⟩ (.slice a' ds.length c') = w2 at q1 o1 b1
      have m0 := set_block (i := 0) (.string f) q1
      have m1 := set_block (i := 1) (.int .i64 e) m0
      have m2 := set_block (i := 2) (.slice a' ds.length c') m1
      have m3 := set_block (i := 3) (.int .i64 c) m2
      have m4 := set_block (i := 4) (.int .i64 u) m3
      have g4 : w2.grownBy (((((w2.setCell ⟨w.heap.size + 1, 0, none⟩ (.string f)).setCell ⟨w.heap.size + 1, 1, none⟩ (.int .i64 e)).setCell ⟨w.heap.size + 1, 2, none⟩ (.slice a' ds.length c')).setCell ⟨w.heap.size + 1, 3, none⟩ (.int .i64 c)).setCell ⟨w.heap.size + 1, 4, none⟩ (.int .i64 u)) (some (w.heap.size + 1)) :=
        grown_then (grown_then (grown_then (grown_then (grown_set _ ⟨w.heap.size + 1, 0, none⟩ _) (grown_set _ ⟨w.heap.size + 1, 1, none⟩ _)) (grown_set _ ⟨w.heap.size + 1, 2, none⟩ _)) (grown_set _ ⟨w.heap.size + 1, 3, none⟩ _)) (grown_set _ ⟨w.heap.size + 1, 4, none⟩ _)
      change _ = some (Obj.cells #[.string f, .int .i64 e, .slice a' ds.length c', .int .i64 c, .int .i64 u] 24 (0, 0)) at m4
      clear m0 m1 m2 m3 x0 x1 x2 x3 x4 y0 y1 y2 y3 y4 z2 t0 t1 t2 t3 t4
      generalize ((((w2.setCell ⟨w.heap.size + 1, 0, none⟩ (.string f)).setCell ⟨w.heap.size + 1, 1, none⟩ (.int .i64 e)).setCell ⟨w.heap.size + 1, 2, none⟩ (.slice a' ds.length c')).setCell ⟨w.heap.size + 1, 3, none⟩ (.int .i64 c)).setCell ⟨w.heap.size + 1, 4, none⟩ (.int .i64 u) = w3 at m4 g4
      obtain ⟨c0, c1, c2, c3, c4⟩ := blk5 m4
      exact bodyPost_ret (v := .agg #[.string f, .int .i64 e, .slice a' ds.length c', .int .i64 c, .int .i64 u]) (by simp [results, Tryd.f8, go_sem, c0, c1, c2, c3, c4]) rfl
        ⟨_, rfl, ow_days (Ow.grown o1 g4 (by omega)) h20, ow_got (Ow.grown o1 g4 (by omega)), b1.grown g4 b1.size (fun k e => by cases e; omega)⟩

end Go.Proofs.YtfnajhpcbajhfabDoor
