/- The laws' own evented, LongEvent and OwnEvent. -/
import Derived.Test.YtpdcjnkgkpbdgaaGreatDoorQaB
import Derived.Laws.AppendOwnNone
import Derived.Test.YtpdcjnkgkpbdgaaGreatDoorQbK
import Derived.Deep.DeepCutAuto
namespace Go.Proofs.YtpdcjnkgkpbdgaaGreatDoor
open Go Go.RowKit Cal
attribute [local go_sem] Oper.semAt_some

theorem E0_rule : Well (rd ⟨#[111, 110, 99, 101]⟩ 1 [] 0 (-1)) := by
  refine ⟨?_, ?_, by decide, by decide, by decide, fun _ => ⟨rfl, rfl, rfl⟩, fun _ => rfl, Or.inl rfl, ?_⟩
  · left; exact ByteArray.toList_eq _
  · intro d hd; cases hd
  · intro i h; exact absurd h (by simp [rd])
/-- the texts of its fields -/
def P0 : List (List UInt8) := [[65, 32, 98], [50, 48, 48, 48, 45, 48, 49, 45, 48, 54], [49], [111, 110, 99, 101], [], []]

/-- too long for a law? -/
def lngE (E : EV) : Int := if (20 < E.f.size ∨ 20 < E.ds.length) ∨ 30 < E.id.size ∨ 60 < E.ti.size ∨ 25 < E.sk.length ∨ 25 < E.mv.length then 1 else 0
theorem lngE_0 {E : EV} (h : lngE E = 0) : E.f.size ≤ 20 ∧ E.ds.length ≤ 20 ∧ E.id.size ≤ 30 ∧ E.ti.size ≤ 60 ∧ E.sk.length ≤ 25 ∧ E.mv.length ≤ 25 := by
  unfold lngE at h
  split at h
  · omega
  · omega

set_option maxHeartbeats 1000000 in
theorem longEvent_any (E : EV) (ra : Option Addr) (rc : Nat) (sa : Option Addr) (sc : Nat) (ma : Option Addr) (mc : Nat) (w : World) :
    Calls Tryz.prog 16 #[ev E (.slice ra E.ds.length rc) (.slice sa E.sk.length sc) (.slice ma E.mv.length mc)] w fun r w' => r = .returned (.int .i64 (lngE E)) ∧ Below w.heap.size w w' := by
  have HK : Hid (lngE E = if (20 < E.f.size ∨ 20 < E.ds.length) ∨ 30 < E.id.size ∨ 60 < E.ti.size ∨ 25 < E.sk.length ∨ 25 < E.mv.length then 1 else 0) := rfl
  generalize lngE E = k at HK ⊢
  have hB := EB.new w E (.slice ra E.ds.length rc) (.slice sa E.sk.length sc) (.slice ma E.mv.length mc)
  obtain ⟨idn, ti, st, lg, f, e, ds, c, u, sk, mv⟩ := E
  unfold ev EB at *
  dsimp only at *
  have LR : Hid (∀ W, Calls Tryz.prog 9 #[.agg #[.string f, .int .i64 e, .slice ra ds.length rc, .int .i64 c, .int .i64 u]] W fun r w' => r = .returned (.int .i64 (if 20 < f.size ∨ 20 < ds.length then 1 else 0)) ∧ Below W.heap.size W w') := fun W => longRule_any f e ra ds.length rc c u W _ rfl
  have HA : Hid (_) := below_alloc w (.cells #[.string idn, .string ti, .int .i64 st, .int .i64 lg, .string f, .int .i64 e, .slice ra ds.length rc, .int .i64 c, .int .i64 u, .slice sa sk.length sc, .slice ma mv.length mc] 37)
  generalize hw0 : w.alloc (.cells #[.string idn, .string ti, .int .i64 st, .int .i64 lg, .string f, .int .i64 e, .slice ra ds.length rc, .int .i64 c, .int .i64 u, .slice sa sk.length sc, .slice ma mv.length mc] 37) = w0 at HA hB
  obtain ⟨x0, x1, x2, x3, x4, x5, x6, x7, x8, x9, x10⟩ := blk11 hB
  have BX : Hid (∀ W, Below w0.heap.size w0 W → _) := fun W h => blk11 ((h.block _ (Array.getElem?_eq_some_iff.1 hB).1).trans hB)
  clear hB
  have h1 : (20 < f.size ∨ 20 < ds.length) ∨ (¬ (20 < f.size ∨ 20 < ds.length) ∧ 30 < idn.size) ∨ (¬ (20 < f.size ∨ 20 < ds.length) ∧ idn.size ≤ 30 ∧ 60 < ti.size) ∨ (¬ (20 < f.size ∨ 20 < ds.length) ∧ idn.size ≤ 30 ∧ ti.size ≤ 60 ∧ 25 < sk.length) ∨ (¬ (20 < f.size ∨ 20 < ds.length) ∧ idn.size ≤ 30 ∧ ti.size ≤ 60 ∧ sk.length ≤ 25 ∧ 25 < mv.length) ∨ (¬ (20 < f.size ∨ 20 < ds.length) ∧ idn.size ≤ 30 ∧ ti.size ≤ 60 ∧ sk.length ≤ 25 ∧ mv.length ≤ 25) := by omega
  have HK2 : Hid (k = if (20 < f.size ∨ 20 < ds.length) ∨ 30 < idn.size ∨ 60 < ti.size ∨ 25 < sk.length ∨ 25 < mv.length then 1 else 0) := HK.out
  clear HK
  rcases h1 with h1 | ⟨h1, h2⟩ | ⟨h1, h2, h3⟩ | ⟨h1, h2, h3, h4⟩ | ⟨h1, h2, h3, h4, h5⟩ | ⟨h1, h2, h3, h4, h5⟩
  all_goals
    first
    | rw [if_pos h1] at LR
    | rw [if_neg h1] at LR
    first
    | rw [if_pos (by omega)] at HK2
    | rw [if_neg (by omega)] at HK2
    clear h1
    go_enter Tryz.func16, Tryz.ntmps16
    go_wp2_with (go_at_call 9; refine (LR.out _).mono ?_; rintro r w1 ⟨rfl, hb1⟩; obtain ⟨y0, y1, y2, y3, y4, y5, y6, y7, y8, y9, y10⟩ := BX.out _ hb1)
    go_ret
    exact ⟨ret_int HK2.out.symm, below_then HA.out hb1⟩

/-- moves as they were handed over -/
def GotM (w : World) (sl : Value) (ms : List (Int × Int)) : Prop :=
  ∃ (a : Option Addr) (cap : Nat), sl = .slice a ms.length cap ∧ (a = none → ms.length = 0 ∧ cap = 0) ∧ ∀ ad, a = some ad → ∀ (j : Nat) (h : j < ms.length), ad.block < w.heap.size ∧ w.cell? (ad.add (j * 2)) = some (.int .i64 ms[j].1) ∧ w.cell? (ad.add (j * 2 + 1)) = some (.int .i64 ms[j].2)
theorem GotM.step {w w' : World} {sl : Value} {ms : List (Int × Int)} (h : GotM w sl ms) (hb : Below w.heap.size w w') : GotM w' sl ms := by
  obtain ⟨a, cap, h1, h2, h3⟩ := h
  refine ⟨a, cap, h1, h2, fun ad e j hj => ?_⟩
  obtain ⟨h4, h5, h6⟩ := h3 ad e j hj
  exact ⟨Nat.lt_of_lt_of_le h4 hb.size, (World.cell?_of_block (a := ad.add (j * 2)) (hb.block _ (by rw [addr_add_block]; exact h4))).trans h5, (World.cell?_of_block (a := ad.add (j * 2 + 1)) (hb.block _ (by rw [addr_add_block]; exact h4))).trans h6⟩
/-- the cells of moves -/
def mcells : List (Int × Int) → List Value
  | [] => []
  | m :: r => .int .i64 m.1 :: .int .i64 m.2 :: mcells r
theorem mcells_len : ∀ ms : List (Int × Int), (mcells ms).length = ms.length * 2
  | [] => rfl
  | m :: r => by simp [mcells, mcells_len r]; omega
theorem mcells_at : ∀ (ms : List (Int × Int)) (j : Nat) (h : j < ms.length), (mcells ms)[j * 2]? = some (.int .i64 ms[j].1) ∧ (mcells ms)[j * 2 + 1]? = some (.int .i64 ms[j].2)
  | m :: r, 0, _ => ⟨rfl, rfl⟩
  | m :: r, j + 1, h => by
    have := mcells_at r j (by simpa using h)
    rw [show (j + 1) * 2 = j * 2 + 1 + 1 by omega]
    exact this
theorem mcells_one (ms : List (Int × Int)) : ∀ u ∈ mcells ms, u.oneCell' = true := by
  induction ms with
  | nil => intro u hu; cases hu
  | cons m r ih =>
    intro u hu
    rcases List.mem_cons.1 hu with rfl | hu
    · rfl
    · rcases List.mem_cons.1 hu with rfl | hu
      · rfl
      · exact ih u hu
theorem mcells_of (ms : List (Int × Int)) (P : Nat → Value → Prop) (h : ∀ (j : Nat) (h : j < ms.length), P (j * 2) (.int .i64 ms[j].1) ∧ P (j * 2 + 1) (.int .i64 ms[j].2)) : ∀ (i : Nat) (u : Value), (mcells ms)[i]? = some u → P i u := fun i u hu => by
  have hi : i < ms.length * 2 := by rw [← mcells_len]; exact (List.getElem?_eq_some_iff.1 hu).1
  have hj : i / 2 < ms.length := by omega
  obtain ⟨a1, a2⟩ := mcells_at ms (i / 2) hj
  obtain ⟨b1, b2⟩ := h (i / 2) hj
  rcases Nat.mod_two_eq_zero_or_one i with q | q
  · have e : i / 2 * 2 = i := by omega
    rw [e] at a1 b1
    rw [hu] at a1
    cases a1; exact b1
  · have e : i / 2 * 2 + 1 = i := by omega
    rw [e] at a2 b2
    rw [hu] at a2
    cases a2; exact b2
theorem info_move : (Tryz.prog.info? 92).map (fun i => (i.zero, i.size, i.bytes)) = some (some (.agg #[.int .i64 0, .int .i64 0]), 2, 16) := by kernel_rfl
/-- a row of moves of one's own -/
def OwM (base : Nat) (W : World) (sl : Value) (ms : List (Int × Int)) : Prop := W.ownsRow base 92 2 sl ms.length (mcells ms)
theorem OwM.grown {base B : Nat} {W W' : World} {sl : Value} {ds : List (Int × Int)} (h : OwM base W sl ds) (hg : W.grownBy W' (some B)) (hB : B < base) : OwM base W' sl ds :=
  World.ownsRow.kept h hg (.inr (fun he => by have := (World.ownsRow.lt h _ he).1; omega))
theorem owm_cell {W : World} {g : Nat} {cur : Array Value} {ms : List (Int × Int)} (hg : W.heap[g]? = some (.cells cur 92 (0, 0))) (htake : cur.toList.take (ms.length * 2) = mcells ms) (j : Nat) (hj : j < ms.length) :
    W.cell? ⟨g, j * 2, none⟩ = some (.int .i64 ms[j].1) ∧ W.cell? ⟨g, j * 2 + 1, none⟩ = some (.int .i64 ms[j].2) := by
  obtain ⟨a1, a2⟩ := mcells_at ms j hj
  rw [← htake, List.getElem?_take_of_lt (by omega), Array.getElem?_toList] at a1 a2
  constructor
  · simp only [World.cell?, hg]; simpa using a1
  · simp only [World.cell?, hg]; simpa using a2
theorem owm_movs {base : Nat} {W : World} {sl : Value} {ms : List (Int × Int)} (h : OwM base W sl ms) (hl : ms.length ≤ 80000) : Movs W sl ms ∧ GotM W sl ms := by
  rcases h.2 with ⟨rfl, h0⟩ | ⟨g, cap, cur, rfl, hb, hg, hcap, hmax, hsz, htake⟩
  · rw [List.length_eq_zero_iff.1 h0]; exact ⟨Movs.nil W 0, none, 0, rfl, fun _ => ⟨rfl, rfl⟩, fun ad q => by cases q⟩
  · have hlt := (Array.getElem?_eq_some_iff.1 hg).1
    refine ⟨⟨_, cap, rfl, hl, hcap, fun j hj => ?_⟩, ⟨_, cap, rfl, (fun q => by cases q), fun ad q j hj => ?_⟩⟩
    · obtain ⟨c1, c2⟩ := owm_cell hg htake j hj
      exact ⟨g, rfl, hlt, c1, c2⟩
    · cases q
      obtain ⟨c1, c2⟩ := owm_cell hg htake j hj
      rw [Addr.add_lit, Addr.add_lit, Nat.zero_add, Nat.zero_add]
      exact ⟨hlt, c1, c2⟩
end Go.Proofs.YtpdcjnkgkpbdgaaGreatDoor

/- The law's own OwnRule: the days lie in memory of its own. -/
namespace Go.Proofs.YtpdcjnkgkpbdgaaGreatDoor
open Go.RowKit Cal

set_option maxHeartbeats 1000000 in
set_option maxRecDepth 100000 in
theorem ownRule_ow (f : ByteArray) (e : Int) (sl : Value) (c u : Int) (ds : List Int) (w : World) (hd : Got w sl ds) (h20 : ds.length ≤ 20) :
    Calls Tryz.prog 10 #[rv f e sl c u] w fun r w' => ∃ sl', r = .returned (rv f e sl' c u) ∧ Ow w.heap.size w' sl' ds ∧ Below w.heap.size w w' := by
  obtain ⟨a, cap, rfl, hn, hs⟩ := hd
  obtain ⟨i0, hi, hz0, hz1, hz2⟩ := info_parts info_int
  unfold rv
  cases a with
  | none =>
    obtain ⟨h0, rfl⟩ := hn rfl
    have hds : ds = [] := List.length_eq_zero_iff.1 h0
    subst hds
    clear hn hs h0
    simp only [List.length_nil]
    go_enter Tryz.func10, Tryz.ntmps10
    go_wp2
    exact bodyPost_ret (v := .agg #[.string f, .int .i64 e, .slice none 0 0, .int .i64 c, .int .i64 u]) (by simp [results, Tryz.f10, go_sem]) rfl ⟨_, rfl, Ow.nil _ _, below_box2 _ _ _⟩
  | some ad =>
    have hc := hs ad rfl
    have HC : Hid (_) := hc
    clear hn hs hc
    go_enter Tryz.func10, Tryz.ntmps10
    go_wp2_with (first
      | (at_builtin; refine wpList_append_own _ rfl _ _ 22 rfl (w.heap.size + 2) 3 i0 (.int .i64 0) 1 8 Tryz.underlying22 hi hz0 hz1 hz2 rfl (by decide) _ _ _ rfl (World.ownsRow_nil _ _ _ _) ad ds.length cap (ds.map (Value.int .i64)) rfl (by simp) ?c1 ?c2 ?c3 ?c4 ?c5 ?_)
      | go_in)
    case c1 =>
      intro j v hv
      rw [List.getElem?_map] at hv
      obtain ⟨d, hd, rfl⟩ := Option.map_eq_some_iff.1 hv
      obtain ⟨hj, rfl⟩ := List.getElem?_eq_some_iff.1 hd
      exact (World.cell?_of_block (a := ad.add j) ((below_box2 w _ _).block _ (by rw [addr_add_block]; exact (HC.out j hj).1))).trans (HC.out j hj).2
    case c2 =>
      intro v hv
      obtain ⟨d, _, rfl⟩ := List.mem_map.1 hv
      rfl
    case c3 => unfold maxLen; omega
    case c4 => omega
    case c5 => simp
    · intro v' w1 hown hgrow _
      have hb1 : Below _ _ w1 := ⟨hgrow.os, hgrow.tape, hgrow.output, hgrow.size, fun k hk => hgrow.block k hk (by simp [Value.ownBlock])⟩
      have OW : Hid (Ow (w.heap.size + 2) w1 v' ds) := hown
      obtain ⟨a', c', rfl, _, _, _⟩ := ow_days OW.out h20
      have k0 := (hb1.block w.heap.size (by simp; omega)).trans (block_alloc _ (block_at _ rfl))
      have k1 := (hb1.block (w.heap.size + 1) (by simp)).trans (block_at _ (by simp))
      have K1 : Hid (_) := k1
      have HB : Hid (Below w.heap.size w w1) := (below_box2 w _ _).trans (hb1.mono (by simp; omega))
      obtain ⟨x0, x1, x2, x3, x4⟩ := blk5 k0
      obtain ⟨y0, y1, y2, y3, y4⟩ := blk5 k1
      have z2 := blk5_frozen k0 2
      have t0 := blk5_frozen k1 0
      have t1 := blk5_frozen k1 1
      have t2 := blk5_frozen k1 2
      have t3 := blk5_frozen k1 3
      have t4 := blk5_frozen k1 4
      clear hown hgrow hb1 HC
      go_wp2
      have g0 := grown_set w1 ⟨w.heap.size, 2, none⟩ (.slice a' ds.length c')
      have q1 := (Below.heap_setCell w1 ⟨w.heap.size, 2, none⟩ (.slice a' ds.length c') (w.heap.size + 1) (fun e => by have e' : w.heap.size + 1 = w.heap.size := e; omega)).trans K1.out
      have o1 := Ow.grown OW.out g0 (show w.heap.size < _ by omega)
      have b1 : Below w.heap.size w (w1.setCell ⟨w.heap.size, 2, none⟩ (.slice a' ds.length c')) := HB.out.grown g0 HB.out.size (fun k e => by cases e; exact Nat.le_refl _)
      generalize w1.setCell ⟨w.heap.size, 2, none⟩ (.slice a' ds.length c') = w2 at q1 o1 b1
      have m0 := set_block (i := 0) (.string f) q1
      have m1 := set_block (i := 1) (.int .i64 e) m0
      have m2 := set_block (i := 2) (.slice a' ds.length c') m1
      have m3 := set_block (i := 3) (.int .i64 c) m2
      have m4 := set_block (i := 4) (.int .i64 u) m3
      have g4 : w2.grownBy (((((w2.setCell ⟨w.heap.size + 1, 0, none⟩ (.string f)).setCell ⟨w.heap.size + 1, 1, none⟩ (.int .i64 e)).setCell ⟨w.heap.size + 1, 2, none⟩ (.slice a' ds.length c')).setCell ⟨w.heap.size + 1, 3, none⟩ (.int .i64 c)).setCell ⟨w.heap.size + 1, 4, none⟩ (.int .i64 u)) (some (w.heap.size + 1)) :=
        grown_then (grown_then (grown_then (grown_then (grown_set _ ⟨w.heap.size + 1, 0, none⟩ _) (grown_set _ ⟨w.heap.size + 1, 1, none⟩ _)) (grown_set _ ⟨w.heap.size + 1, 2, none⟩ _)) (grown_set _ ⟨w.heap.size + 1, 3, none⟩ _)) (grown_set _ ⟨w.heap.size + 1, 4, none⟩ _)
      change _ = some (Obj.cells #[.string f, .int .i64 e, .slice a' ds.length c', .int .i64 c, .int .i64 u] 24 (0, 0)) at m4
      clear m0 m1 m2 m3 x0 x1 x2 x3 x4 y0 y1 y2 y3 y4 z2 t0 t1 t2 t3 t4
      generalize ((((w2.setCell ⟨w.heap.size + 1, 0, none⟩ (.string f)).setCell ⟨w.heap.size + 1, 1, none⟩ (.int .i64 e)).setCell ⟨w.heap.size + 1, 2, none⟩ (.slice a' ds.length c')).setCell ⟨w.heap.size + 1, 3, none⟩ (.int .i64 c)).setCell ⟨w.heap.size + 1, 4, none⟩ (.int .i64 u) = w3 at m4 g4
      obtain ⟨c0, c1, c2, c3, c4⟩ := blk5 m4
      exact bodyPost_ret (v := .agg #[.string f, .int .i64 e, .slice a' ds.length c', .int .i64 c, .int .i64 u]) (by simp [results, Tryz.f10, go_sem, c0, c1, c2, c3, c4]) rfl
        ⟨_, rfl, own_base (Ow.grown o1 g4 (by omega)) (by omega), b1.grown g4 b1.size (fun k e => by cases e; omega)⟩

end Go.Proofs.YtpdcjnkgkpbdgaaGreatDoor

/- The laws' own OwnEvent: an event in memory of its own. -/
namespace Go.Proofs.YtpdcjnkgkpbdgaaGreatDoor
open Go Go.RowKit Cal
attribute [local go_sem] Oper.semAt_some

theorem blk11_frozen {W : World} {n : Nat} {cs : Array Value} {t : TypeId} (h : W.heap[n]? = some (.cells cs t (0, 0))) (i : Nat) : W.frozen? ⟨n, i, none⟩ = false := by
  simp [World.frozen?, h]
theorem set11_0 {W : World} {n : Nat} {v0 v1 v2 v3 v4 v5 v6 v7 v8 v9 v10 : Value} {t : TypeId} {fr : Nat × Nat} (v : Value) (h : W.heap[n]? = some (.cells #[v0, v1, v2, v3, v4, v5, v6, v7, v8, v9, v10] t fr)) : (W.setCell ⟨n, 0, none⟩ v).heap[n]? = some (.cells #[v, v1, v2, v3, v4, v5, v6, v7, v8, v9, v10] t fr) := set_block (i := 0) v h
theorem set11_1 {W : World} {n : Nat} {v0 v1 v2 v3 v4 v5 v6 v7 v8 v9 v10 : Value} {t : TypeId} {fr : Nat × Nat} (v : Value) (h : W.heap[n]? = some (.cells #[v0, v1, v2, v3, v4, v5, v6, v7, v8, v9, v10] t fr)) : (W.setCell ⟨n, 1, none⟩ v).heap[n]? = some (.cells #[v0, v, v2, v3, v4, v5, v6, v7, v8, v9, v10] t fr) := set_block (i := 1) v h
theorem set11_2 {W : World} {n : Nat} {v0 v1 v2 v3 v4 v5 v6 v7 v8 v9 v10 : Value} {t : TypeId} {fr : Nat × Nat} (v : Value) (h : W.heap[n]? = some (.cells #[v0, v1, v2, v3, v4, v5, v6, v7, v8, v9, v10] t fr)) : (W.setCell ⟨n, 2, none⟩ v).heap[n]? = some (.cells #[v0, v1, v, v3, v4, v5, v6, v7, v8, v9, v10] t fr) := set_block (i := 2) v h
theorem set11_3 {W : World} {n : Nat} {v0 v1 v2 v3 v4 v5 v6 v7 v8 v9 v10 : Value} {t : TypeId} {fr : Nat × Nat} (v : Value) (h : W.heap[n]? = some (.cells #[v0, v1, v2, v3, v4, v5, v6, v7, v8, v9, v10] t fr)) : (W.setCell ⟨n, 3, none⟩ v).heap[n]? = some (.cells #[v0, v1, v2, v, v4, v5, v6, v7, v8, v9, v10] t fr) := set_block (i := 3) v h
theorem set11_4 {W : World} {n : Nat} {v0 v1 v2 v3 v4 v5 v6 v7 v8 v9 v10 : Value} {t : TypeId} {fr : Nat × Nat} (v : Value) (h : W.heap[n]? = some (.cells #[v0, v1, v2, v3, v4, v5, v6, v7, v8, v9, v10] t fr)) : (W.setCell ⟨n, 4, none⟩ v).heap[n]? = some (.cells #[v0, v1, v2, v3, v, v5, v6, v7, v8, v9, v10] t fr) := set_block (i := 4) v h
theorem set11_5 {W : World} {n : Nat} {v0 v1 v2 v3 v4 v5 v6 v7 v8 v9 v10 : Value} {t : TypeId} {fr : Nat × Nat} (v : Value) (h : W.heap[n]? = some (.cells #[v0, v1, v2, v3, v4, v5, v6, v7, v8, v9, v10] t fr)) : (W.setCell ⟨n, 5, none⟩ v).heap[n]? = some (.cells #[v0, v1, v2, v3, v4, v, v6, v7, v8, v9, v10] t fr) := set_block (i := 5) v h
theorem set11_6 {W : World} {n : Nat} {v0 v1 v2 v3 v4 v5 v6 v7 v8 v9 v10 : Value} {t : TypeId} {fr : Nat × Nat} (v : Value) (h : W.heap[n]? = some (.cells #[v0, v1, v2, v3, v4, v5, v6, v7, v8, v9, v10] t fr)) : (W.setCell ⟨n, 6, none⟩ v).heap[n]? = some (.cells #[v0, v1, v2, v3, v4, v5, v, v7, v8, v9, v10] t fr) := set_block (i := 6) v h
theorem set11_7 {W : World} {n : Nat} {v0 v1 v2 v3 v4 v5 v6 v7 v8 v9 v10 : Value} {t : TypeId} {fr : Nat × Nat} (v : Value) (h : W.heap[n]? = some (.cells #[v0, v1, v2, v3, v4, v5, v6, v7, v8, v9, v10] t fr)) : (W.setCell ⟨n, 7, none⟩ v).heap[n]? = some (.cells #[v0, v1, v2, v3, v4, v5, v6, v, v8, v9, v10] t fr) := set_block (i := 7) v h
theorem set11_8 {W : World} {n : Nat} {v0 v1 v2 v3 v4 v5 v6 v7 v8 v9 v10 : Value} {t : TypeId} {fr : Nat × Nat} (v : Value) (h : W.heap[n]? = some (.cells #[v0, v1, v2, v3, v4, v5, v6, v7, v8, v9, v10] t fr)) : (W.setCell ⟨n, 8, none⟩ v).heap[n]? = some (.cells #[v0, v1, v2, v3, v4, v5, v6, v7, v, v9, v10] t fr) := set_block (i := 8) v h
theorem set11_9 {W : World} {n : Nat} {v0 v1 v2 v3 v4 v5 v6 v7 v8 v9 v10 : Value} {t : TypeId} {fr : Nat × Nat} (v : Value) (h : W.heap[n]? = some (.cells #[v0, v1, v2, v3, v4, v5, v6, v7, v8, v9, v10] t fr)) : (W.setCell ⟨n, 9, none⟩ v).heap[n]? = some (.cells #[v0, v1, v2, v3, v4, v5, v6, v7, v8, v, v10] t fr) := set_block (i := 9) v h
theorem set11_10 {W : World} {n : Nat} {v0 v1 v2 v3 v4 v5 v6 v7 v8 v9 v10 : Value} {t : TypeId} {fr : Nat × Nat} (v : Value) (h : W.heap[n]? = some (.cells #[v0, v1, v2, v3, v4, v5, v6, v7, v8, v9, v10] t fr)) : (W.setCell ⟨n, 10, none⟩ v).heap[n]? = some (.cells #[v0, v1, v2, v3, v4, v5, v6, v7, v8, v9, v] t fr) := set_block (i := 10) v h
/-- an event's lists in memory of its own, or as they were handed over -/
structure Lists (W : World) (E : EV) (sl skv mvv : Value) : Prop where
  d : Days W sl E.ds
  s : Ints W skv E.sk
  m : Movs W mvv E.mv
  gd : Got W sl E.ds
  gs : Got W skv E.sk
  gm : GotM W mvv E.mv
theorem Lists.step {W W' : World} {E : EV} {sl skv mvv : Value} (h : Lists W E sl skv mvv) (hb : Below W.heap.size W W') : Lists W' E sl skv mvv :=
  ⟨h.d.step hb, h.s.step hb, h.m.step hb, h.gd.step hb, h.gs.step hb, h.gm.step hb⟩
theorem got_form {W : World} {sl : Value} {xs : List Int} (h : Got W sl xs) : ∃ a c, sl = .slice a xs.length c := by
  obtain ⟨a, c, e, _⟩ := h; exact ⟨a, c, e⟩
theorem gotM_form {W : World} {sl : Value} {xs : List (Int × Int)} (h : GotM W sl xs) : ∃ a c, sl = .slice a xs.length c := by
  obtain ⟨a, c, e, _⟩ := h; exact ⟨a, c, e⟩
theorem got_news {W : World} {ad : Addr} {xs : List Int} {cap : Nat} (h : Got W (.slice (some ad) xs.length cap) xs) : ∀ (j : Nat) (v : Value), (xs.map (Value.int .i64))[j]? = some v → W.cell? (ad.add j) = some v := fun j v hv => by
  obtain ⟨a, c, e, _, hc⟩ := h
  cases e
  rw [List.getElem?_map] at hv
  obtain ⟨d, hd, rfl⟩ := Option.map_eq_some_iff.1 hv
  obtain ⟨hj, rfl⟩ := List.getElem?_eq_some_iff.1 hd
  exact (hc ad rfl j hj).2
theorem gotM_news {W : World} {ad : Addr} {xs : List (Int × Int)} {cap : Nat} (h : GotM W (.slice (some ad) xs.length cap) xs) : ∀ (j : Nat) (v : Value), (mcells xs)[j]? = some v → W.cell? (ad.add j) = some v := by
  obtain ⟨a, c, e, _, hc⟩ := h
  cases e
  exact mcells_of xs (fun i u => W.cell? (ad.add i) = some u) (fun j hj => (hc ad rfl j hj).2)

set_option maxHeartbeats 4000000 in
set_option maxRecDepth 100000 in
theorem ownEvent_any (E : EV) (sl skv mvv : Value) (w : World) (hd : Got w sl E.ds) (hs : Got w skv E.sk) (hm : GotM w mvv E.mv) (h20 : E.ds.length ≤ 20) (hs25 : E.sk.length ≤ 30) (hm25 : E.mv.length ≤ 30) :
    Calls Tryz.prog 17 #[ev E sl skv mvv] w fun r w' => ∃ sl' skv' mvv', r = .returned (ev E sl' skv' mvv') ∧ Lists w' E sl' skv' mvv' ∧ Below w.heap.size w w' := by
  have hA := below_box2 w (.cells #[.string E.id, .string E.ti, .int .i64 E.st, .int .i64 E.lg, .string E.f, .int .i64 E.e, sl, .int .i64 E.c, .int .i64 E.u, skv, mvv] 37) (.cells #[.string ⟨#[]⟩, .string ⟨#[]⟩, .int .i64 0, .int .i64 0, .string ⟨#[]⟩, .int .i64 0, .slice none 0 0, .int .i64 0, .int .i64 0, .slice none 0 0, .slice none 0 0] 37)
  have hd0 := hd.step hA
  have HS1 : Hid (Got w skv E.sk) := hs
  have HM1 : Hid (GotM w mvv E.mv) := hm
  obtain ⟨i0, hi, hz0, hz1, hz2⟩ := info_parts info_int
  obtain ⟨i1, hi1, hy0, hy1, hy2⟩ := info_parts info_move
  obtain ⟨ra, rc, rfl⟩ := got_form hd
  obtain ⟨sa, sc, rfl⟩ := got_form hs
  obtain ⟨ma, mc, rfl⟩ := gotM_form hm
  have k0 : ((w.alloc (.cells #[.string E.id, .string E.ti, .int .i64 E.st, .int .i64 E.lg, .string E.f, .int .i64 E.e, .slice ra E.ds.length rc, .int .i64 E.c, .int .i64 E.u, .slice sa E.sk.length sc, .slice ma E.mv.length mc] 37)).alloc (.cells #[.string ⟨#[]⟩, .string ⟨#[]⟩, .int .i64 0, .int .i64 0, .string ⟨#[]⟩, .int .i64 0, .slice none 0 0, .int .i64 0, .int .i64 0, .slice none 0 0, .slice none 0 0] 37)).heap[w.heap.size]? = some (.cells #[.string E.id, .string E.ti, .int .i64 E.st, .int .i64 E.lg, .string E.f, .int .i64 E.e, .slice ra E.ds.length rc, .int .i64 E.c, .int .i64 E.u, .slice sa E.sk.length sc, .slice ma E.mv.length mc] 37 (0, 0)) := block_alloc _ (block_at _ rfl)
  have k1 : ((w.alloc (.cells #[.string E.id, .string E.ti, .int .i64 E.st, .int .i64 E.lg, .string E.f, .int .i64 E.e, .slice ra E.ds.length rc, .int .i64 E.c, .int .i64 E.u, .slice sa E.sk.length sc, .slice ma E.mv.length mc] 37)).alloc (.cells #[.string ⟨#[]⟩, .string ⟨#[]⟩, .int .i64 0, .int .i64 0, .string ⟨#[]⟩, .int .i64 0, .slice none 0 0, .int .i64 0, .int .i64 0, .slice none 0 0, .slice none 0 0] 37)).heap[w.heap.size + 1]? = some (.cells #[.string ⟨#[]⟩, .string ⟨#[]⟩, .int .i64 0, .int .i64 0, .string ⟨#[]⟩, .int .i64 0, .slice none 0 0, .int .i64 0, .int .i64 0, .slice none 0 0, .slice none 0 0] 37 (0, 0)) := block_at _ (by simp)
  have hz : ((w.alloc (.cells #[.string E.id, .string E.ti, .int .i64 E.st, .int .i64 E.lg, .string E.f, .int .i64 E.e, .slice ra E.ds.length rc, .int .i64 E.c, .int .i64 E.u, .slice sa E.sk.length sc, .slice ma E.mv.length mc] 37)).alloc (.cells #[.string ⟨#[]⟩, .string ⟨#[]⟩, .int .i64 0, .int .i64 0, .string ⟨#[]⟩, .int .i64 0, .slice none 0 0, .int .i64 0, .int .i64 0, .slice none 0 0, .slice none 0 0] 37)).heap.size = w.heap.size + 2 := by simp
  obtain ⟨idn, ti, st, lg, f, e, ds, c, u, sk, mv⟩ := E
  unfold ev
  dsimp only at *
  have OR := ownRule_ow f e (.slice ra ds.length rc) c u ds _ hd0 h20
  unfold rv at OR
  have HA : Hid (_) := hA
  have HZ : Hid (_) := hz
  clear hd hs hm hd0 hA hz
  generalize hw0 : (w.alloc (.cells #[.string idn, .string ti, .int .i64 st, .int .i64 lg, .string f, .int .i64 e, .slice ra ds.length rc, .int .i64 c, .int .i64 u, .slice sa sk.length sc, .slice ma mv.length mc] 37)).alloc (.cells #[.string ⟨#[]⟩, .string ⟨#[]⟩, .int .i64 0, .int .i64 0, .string ⟨#[]⟩, .int .i64 0, .slice none 0 0, .int .i64 0, .int .i64 0, .slice none 0 0, .slice none 0 0] 37) = w0 at HA k0 k1 HZ OR
  obtain ⟨x0, x1, x2, x3, x4, x5, x6, x7, x8, x9, x10⟩ := blk11 k0
  have HOR : Hid (Calls _ _ _ _ _) := OR
  have KA : Hid (w0.heap[w.heap.size]? = some (.cells #[.string idn, .string ti, .int .i64 st, .int .i64 lg, .string f, .int .i64 e, .slice ra ds.length rc, .int .i64 c, .int .i64 u, .slice sa sk.length sc, .slice ma mv.length mc] 37 (0, 0))) := k0
  have KB : Hid (w0.heap[w.heap.size + 1]? = some (.cells #[.string ⟨#[]⟩, .string ⟨#[]⟩, .int .i64 0, .int .i64 0, .string ⟨#[]⟩, .int .i64 0, .slice none 0 0, .int .i64 0, .int .i64 0, .slice none 0 0, .slice none 0 0] 37 (0, 0))) := k1
  clear OR k0 k1
  go_enter Tryz.func17, Tryz.ntmps17
  go_upto_region 4 with (go_at_call 10; refine Calls.mono HOR.out ?_; rintro r w1 ⟨sl', rfl, ho1, hb1⟩; obtain ⟨ra', rc', rfl⟩ := ow_form ho1; have ka : w1.heap[w.heap.size]? = some (.cells #[.string idn, .string ti, .int .i64 st, .int .i64 lg, .string f, .int .i64 e, .slice ra ds.length rc, .int .i64 c, .int .i64 u, .slice sa sk.length sc, .slice ma mv.length mc] 37 (0, 0)) := (hb1.block _ (by rw [HZ.out]; omega)).trans KA.out; have KB1 : Hid (w1.heap[w.heap.size + 1]? = some (.cells #[.string ⟨#[]⟩, .string ⟨#[]⟩, .int .i64 0, .int .i64 0, .string ⟨#[]⟩, .int .i64 0, .slice none 0 0, .int .i64 0, .int .i64 0, .slice none 0 0, .slice none 0 0] 37 (0, 0))) := (hb1.block _ (by rw [HZ.out]; omega)).trans KB.out; have KA1 : Hid (w1.heap[w.heap.size]? = some (.cells #[.string idn, .string ti, .int .i64 st, .int .i64 lg, .string f, .int .i64 e, .slice ra ds.length rc, .int .i64 c, .int .i64 u, .slice sa sk.length sc, .slice ma mv.length mc] 37 (0, 0))) := ka; have y4 := blk11_frozen ka 4; have y5 := blk11_frozen ka 5; have y6 := blk11_frozen ka 6; have y7 := blk11_frozen ka 7; have y8 := blk11_frozen ka 8; clear x0 x1 x2 x3 x4 x5 x6 x7 x8 x9 x10; obtain ⟨x0, x1, x2, x3, x4, x5, x6, x7, x8, x9, x10⟩ := blk11 ka; have O1 : Hid (Ow (w.heap.size + 2) w1 (.slice ra' ds.length rc') ds) := (by rw [HZ.out] at ho1; exact ho1); have HB1 : Hid (_) := hb1; have hz1 : w.heap.size + 2 ≤ w1.heap.size := (by have := hb1.size; rw [HZ.out] at this; exact this); clear ka ho1 hb1; dsimp only [rv])
  have m4 := set11_4 (.string f) KA1.out
  have m5 := set11_5 (.int .i64 e) m4
  have m6 := set11_6 (.slice ra' ds.length rc') m5
  have m7 := set11_7 (.int .i64 c) m6
  have m8 := set11_8 (.int .i64 u) m7
  have g2 : w1.grownBy (((((w1.setCell ⟨w.heap.size, 4, none⟩ (.string f)).setCell ⟨w.heap.size, 5, none⟩ (.int .i64 e)).setCell ⟨w.heap.size, 6, none⟩ (.slice ra' ds.length rc')).setCell ⟨w.heap.size, 7, none⟩ (.int .i64 c)).setCell ⟨w.heap.size, 8, none⟩ (.int .i64 u)) (some (w.heap.size)) := (grown_then (grown_then (grown_then (grown_then (grown_set _ ⟨w.heap.size, 4, none⟩ _) (grown_set _ ⟨w.heap.size, 5, none⟩ _)) (grown_set _ ⟨w.heap.size, 6, none⟩ _)) (grown_set _ ⟨w.heap.size, 7, none⟩ _)) (grown_set _ ⟨w.heap.size, 8, none⟩ _))
  have O2 : Hid (Ow (w.heap.size + 2) (((((w1.setCell ⟨w.heap.size, 4, none⟩ (.string f)).setCell ⟨w.heap.size, 5, none⟩ (.int .i64 e)).setCell ⟨w.heap.size, 6, none⟩ (.slice ra' ds.length rc')).setCell ⟨w.heap.size, 7, none⟩ (.int .i64 c)).setCell ⟨w.heap.size, 8, none⟩ (.int .i64 u)) (.slice ra' ds.length rc') ds) := Ow.grown O1.out g2 (by omega)
  have KB2 : Hid ((((((w1.setCell ⟨w.heap.size, 4, none⟩ (.string f)).setCell ⟨w.heap.size, 5, none⟩ (.int .i64 e)).setCell ⟨w.heap.size, 6, none⟩ (.slice ra' ds.length rc')).setCell ⟨w.heap.size, 7, none⟩ (.int .i64 c)).setCell ⟨w.heap.size, 8, none⟩ (.int .i64 u)).heap[w.heap.size + 1]? = some (.cells #[.string ⟨#[]⟩, .string ⟨#[]⟩, .int .i64 0, .int .i64 0, .string ⟨#[]⟩, .int .i64 0, .slice none 0 0, .int .i64 0, .int .i64 0, .slice none 0 0, .slice none 0 0] 37 (0, 0))) := (g2.block _ (by omega) (fun q => by simp at q)).trans KB1.out
  have B2 : Hid (Below w.heap.size w (((((w1.setCell ⟨w.heap.size, 4, none⟩ (.string f)).setCell ⟨w.heap.size, 5, none⟩ (.int .i64 e)).setCell ⟨w.heap.size, 6, none⟩ (.slice ra' ds.length rc')).setCell ⟨w.heap.size, 7, none⟩ (.int .i64 c)).setCell ⟨w.heap.size, 8, none⟩ (.int .i64 u))) := (below_then HA.out HB1.out).grown g2 (by omega) (fun k q => by cases q; exact Nat.le_refl _)
  have GS2 : Hid (Got (((((w1.setCell ⟨w.heap.size, 4, none⟩ (.string f)).setCell ⟨w.heap.size, 5, none⟩ (.int .i64 e)).setCell ⟨w.heap.size, 6, none⟩ (.slice ra' ds.length rc')).setCell ⟨w.heap.size, 7, none⟩ (.int .i64 c)).setCell ⟨w.heap.size, 8, none⟩ (.int .i64 u)) (.slice sa sk.length sc) sk) := HS1.out.step B2.out
  have GM2 : Hid (GotM (((((w1.setCell ⟨w.heap.size, 4, none⟩ (.string f)).setCell ⟨w.heap.size, 5, none⟩ (.int .i64 e)).setCell ⟨w.heap.size, 6, none⟩ (.slice ra' ds.length rc')).setCell ⟨w.heap.size, 7, none⟩ (.int .i64 c)).setCell ⟨w.heap.size, 8, none⟩ (.int .i64 u)) (.slice ma mv.length mc) mv) := HM1.out.step B2.out
  have KA2 : Hid ((((((w1.setCell ⟨w.heap.size, 4, none⟩ (.string f)).setCell ⟨w.heap.size, 5, none⟩ (.int .i64 e)).setCell ⟨w.heap.size, 6, none⟩ (.slice ra' ds.length rc')).setCell ⟨w.heap.size, 7, none⟩ (.int .i64 c)).setCell ⟨w.heap.size, 8, none⟩ (.int .i64 u)).heap[w.heap.size]? = some (.cells #[.string idn, .string ti, .int .i64 st, .int .i64 lg, .string f, .int .i64 e, .slice ra' ds.length rc', .int .i64 c, .int .i64 u, .slice sa sk.length sc, .slice ma mv.length mc] 37 (0, 0))) := m8
  have hz2' : w.heap.size + 2 ≤ (((((w1.setCell ⟨w.heap.size, 4, none⟩ (.string f)).setCell ⟨w.heap.size, 5, none⟩ (.int .i64 e)).setCell ⟨w.heap.size, 6, none⟩ (.slice ra' ds.length rc')).setCell ⟨w.heap.size, 7, none⟩ (.int .i64 c)).setCell ⟨w.heap.size, 8, none⟩ (.int .i64 u)).heap.size := Nat.le_trans hz1 g2.size
  clear m4 m5 m6 m7 m8 g2 KA1 KB1 O1 HB1 HA KA KB x0 x1 x2 x3 x4 x5 x6 x7 x8 x9 x10 y4 y5 y6 y7 y8 hz1 HOR
  generalize (((((w1.setCell ⟨w.heap.size, 4, none⟩ (.string f)).setCell ⟨w.heap.size, 5, none⟩ (.int .i64 e)).setCell ⟨w.heap.size, 6, none⟩ (.slice ra' ds.length rc')).setCell ⟨w.heap.size, 7, none⟩ (.int .i64 c)).setCell ⟨w.heap.size, 8, none⟩ (.int .i64 u)) = w2 at O2 KB2 B2 GS2 GM2 KA2 hz2' ⊢
  obtain ⟨x0, x1, x2, x3, x4, x5, x6, x7, x8, x9, x10⟩ := blk11 KA2.out
  clear x0 x1 x2 x3 x4 x5 x6 x7 x8
  have z9 := blk11_frozen KA2.out 9
  have z10 := blk11_frozen KA2.out 10
  cases sa with
  | none =>
    obtain ⟨h0, rfl⟩ : sk = [] ∧ sc = 0 := by obtain ⟨a', c', e1, e2, _⟩ := HS1.out; cases e1; exact ⟨List.length_eq_zero_iff.1 (e2 rfl).1, (e2 rfl).2⟩
    subst h0
    simp only [List.length_nil] at *
    cases ma with
    | none =>
      obtain ⟨h0, rfl⟩ : mv = [] ∧ mc = 0 := by obtain ⟨a', c', e1, e2, _⟩ := HM1.out; cases e1; exact ⟨List.length_eq_zero_iff.1 (e2 rfl).1, (e2 rfl).2⟩
      subst h0
      simp only [List.length_nil] at *
      have OS0 : Hid (Ow (w.heap.size + 2) w2 (.slice none 0 0) ([] : List Int)) := Ow.nil _ _
      have BG : Hid (Below w2.heap.size w2 w2) := Below.refl _ _
      have KA3 : Hid (w2.heap[w.heap.size]? = some (.cells #[.string idn, .string ti, .int .i64 st, .int .i64 lg, .string f, .int .i64 e, .slice ra' ds.length rc', .int .i64 c, .int .i64 u, .slice none 0 0, .slice none 0 0] 37 (0, 0))) := KA2.out
      go_upto_region 5 with (fail)
      have m9 : (w2.setCell ⟨w.heap.size, 9, none⟩ (.slice none 0 0)).heap[w.heap.size]? = some (.cells #[.string idn, .string ti, .int .i64 st, .int .i64 lg, .string f, .int .i64 e, .slice ra' ds.length rc', .int .i64 c, .int .i64 u, .slice none 0 0, .slice none 0 0] 37 (0, 0)) := set11_9 (.slice none 0 0) KA3.out
      have g3 : w2.grownBy (w2.setCell ⟨w.heap.size, 9, none⟩ (.slice none 0 0)) (some (w.heap.size)) := grown_set w2 ⟨w.heap.size, 9, none⟩ (.slice none 0 0)
      have hz3 : w.heap.size + 2 ≤ w2.heap.size := Nat.le_trans hz2' BG.out.size
      have OR3 : Hid (Ow (w.heap.size + 2) (w2.setCell ⟨w.heap.size, 9, none⟩ (.slice none 0 0)) (.slice ra' ds.length rc') ds) := Ow.grown (Ow.step O2.out BG.out) g3 (by omega)
      have OS3 : Hid (Ow (w.heap.size + 2) (w2.setCell ⟨w.heap.size, 9, none⟩ (.slice none 0 0)) (.slice none 0 0) ([] : List Int)) := Ow.grown OS0.out g3 (by omega)
      have KB3 : Hid ((w2.setCell ⟨w.heap.size, 9, none⟩ (.slice none 0 0)).heap[w.heap.size + 1]? = some (.cells #[.string ⟨#[]⟩, .string ⟨#[]⟩, .int .i64 0, .int .i64 0, .string ⟨#[]⟩, .int .i64 0, .slice none 0 0, .int .i64 0, .int .i64 0, .slice none 0 0, .slice none 0 0] 37 (0, 0))) := (g3.block _ (by omega) (fun q => by simp at q)).trans ((BG.out.block _ (by omega)).trans KB2.out)
      have B3 : Hid (Below w.heap.size w (w2.setCell ⟨w.heap.size, 9, none⟩ (.slice none 0 0))) := (below_then B2.out BG.out).grown g3 (by omega) (fun k q => by cases q; exact Nat.le_refl _)
      have GM3 : Hid (GotM (w2.setCell ⟨w.heap.size, 9, none⟩ (.slice none 0 0)) (.slice none 0 0) []) := HM1.out.step B3.out
      have KA4 : Hid ((w2.setCell ⟨w.heap.size, 9, none⟩ (.slice none 0 0)).heap[w.heap.size]? = some (.cells #[.string idn, .string ti, .int .i64 st, .int .i64 lg, .string f, .int .i64 e, .slice ra' ds.length rc', .int .i64 c, .int .i64 u, .slice none 0 0, .slice none 0 0] 37 (0, 0))) := m9
      have hz4 : w.heap.size + 2 ≤ (w2.setCell ⟨w.heap.size, 9, none⟩ (.slice none 0 0)).heap.size := Nat.le_trans hz3 g3.size
      clear m9 g3 hz3 KA3 OS0 BG KA2 KB2 O2 B2 GS2 GM2 hz2' x9 x10 z9 z10
      generalize (w2.setCell ⟨w.heap.size, 9, none⟩ (.slice none 0 0)) = w4 at OR3 OS3 KB3 B3 GM3 KA4 hz4 ⊢
      have x10 := (blk11 KA4.out).2.2.2.2.2.2.2.2.2.2
      have z10 := blk11_frozen KA4.out 10
      have OM0 : Hid (OwM (w.heap.size + 2) w4 (.slice none 0 0) ([] : List (Int × Int))) := World.ownsRow_nil _ _ _ _
      have BG : Hid (Below w4.heap.size w4 w4) := Below.refl _ _
      have KA5 : Hid (w4.heap[w.heap.size]? = some (.cells #[.string idn, .string ti, .int .i64 st, .int .i64 lg, .string f, .int .i64 e, .slice ra' ds.length rc', .int .i64 c, .int .i64 u, .slice none 0 0, .slice none 0 0] 37 (0, 0))) := KA4.out
      go_upto_region 6 with (fail)
      have m9 : (w4.setCell ⟨w.heap.size, 10, none⟩ (.slice none 0 0)).heap[w.heap.size]? = some (.cells #[.string idn, .string ti, .int .i64 st, .int .i64 lg, .string f, .int .i64 e, .slice ra' ds.length rc', .int .i64 c, .int .i64 u, .slice none 0 0, .slice none 0 0] 37 (0, 0)) := set11_10 (.slice none 0 0) KA5.out
      have g3 : w4.grownBy (w4.setCell ⟨w.heap.size, 10, none⟩ (.slice none 0 0)) (some (w.heap.size)) := grown_set w4 ⟨w.heap.size, 10, none⟩ (.slice none 0 0)
      have hz5 : w.heap.size + 2 ≤ w4.heap.size := Nat.le_trans hz4 BG.out.size
      have OR5 : Hid (Ow (w.heap.size + 2) (w4.setCell ⟨w.heap.size, 10, none⟩ (.slice none 0 0)) (.slice ra' ds.length rc') ds) := Ow.grown (Ow.step OR3.out BG.out) g3 (by omega)
      have OS5 : Hid (Ow (w.heap.size + 2) (w4.setCell ⟨w.heap.size, 10, none⟩ (.slice none 0 0)) (.slice none 0 0) ([] : List Int)) := Ow.grown (Ow.step OS3.out BG.out) g3 (by omega)
      have OM5 : Hid (OwM (w.heap.size + 2) (w4.setCell ⟨w.heap.size, 10, none⟩ (.slice none 0 0)) (.slice none 0 0) ([] : List (Int × Int))) := OwM.grown OM0.out g3 (by omega)
      have KB5 : Hid ((w4.setCell ⟨w.heap.size, 10, none⟩ (.slice none 0 0)).heap[w.heap.size + 1]? = some (.cells #[.string ⟨#[]⟩, .string ⟨#[]⟩, .int .i64 0, .int .i64 0, .string ⟨#[]⟩, .int .i64 0, .slice none 0 0, .int .i64 0, .int .i64 0, .slice none 0 0, .slice none 0 0] 37 (0, 0))) := (g3.block _ (by omega) (fun q => by simp at q)).trans ((BG.out.block _ (by omega)).trans KB3.out)
      have B5 : Hid (Below w.heap.size w (w4.setCell ⟨w.heap.size, 10, none⟩ (.slice none 0 0))) := (below_then B3.out BG.out).grown g3 (by omega) (fun k q => by cases q; exact Nat.le_refl _)
      have KA6 : Hid ((w4.setCell ⟨w.heap.size, 10, none⟩ (.slice none 0 0)).heap[w.heap.size]? = some (.cells #[.string idn, .string ti, .int .i64 st, .int .i64 lg, .string f, .int .i64 e, .slice ra' ds.length rc', .int .i64 c, .int .i64 u, .slice none 0 0, .slice none 0 0] 37 (0, 0))) := m9
      have hz6 : w.heap.size + 2 ≤ (w4.setCell ⟨w.heap.size, 10, none⟩ (.slice none 0 0)).heap.size := Nat.le_trans hz5 g3.size
      clear m9 g3 hz5 KA5 OM0 BG KA4 KB3 OR3 OS3 B3 GM3 hz4 x10 z10
      generalize (w4.setCell ⟨w.heap.size, 10, none⟩ (.slice none 0 0)) = w6 at OR5 OS5 OM5 KB5 B5 KA6 hz6 ⊢
      obtain ⟨x0, x1, x2, x3, x4, x5, x6, x7, x8, x9, x10⟩ := blk11 KA6.out
      obtain ⟨t0, t1, t2, t3, t4, t5, t6, t7, t8, t9, t10⟩ := blk11 KB5.out
      have f0 := blk11_frozen KB5.out 0
      have f1 := blk11_frozen KB5.out 1
      have f2 := blk11_frozen KB5.out 2
      have f3 := blk11_frozen KB5.out 3
      have f4 := blk11_frozen KB5.out 4
      have f5 := blk11_frozen KB5.out 5
      have f6 := blk11_frozen KB5.out 6
      have f7 := blk11_frozen KB5.out 7
      have f8 := blk11_frozen KB5.out 8
      have f9 := blk11_frozen KB5.out 9
      have f10 := blk11_frozen KB5.out 10
      go_wp2
      have n0 := set11_0 (.string idn) KB5.out
      have n1 := set11_1 (.string ti) n0
      have n2 := set11_2 (.int .i64 st) n1
      have n3 := set11_3 (.int .i64 lg) n2
      have n4 := set11_4 (.string f) n3
      have n5 := set11_5 (.int .i64 e) n4
      have n6 := set11_6 (.slice ra' ds.length rc') n5
      have n7 := set11_7 (.int .i64 c) n6
      have n8 := set11_8 (.int .i64 u) n7
      have n9 := set11_9 (.slice none 0 0) n8
      have n10 := set11_10 (.slice none 0 0) n9
      have g7 : w6.grownBy (((((((((((w6.setCell ⟨w.heap.size + 1, 0, none⟩ (.string idn)).setCell ⟨w.heap.size + 1, 1, none⟩ (.string ti)).setCell ⟨w.heap.size + 1, 2, none⟩ (.int .i64 st)).setCell ⟨w.heap.size + 1, 3, none⟩ (.int .i64 lg)).setCell ⟨w.heap.size + 1, 4, none⟩ (.string f)).setCell ⟨w.heap.size + 1, 5, none⟩ (.int .i64 e)).setCell ⟨w.heap.size + 1, 6, none⟩ (.slice ra' ds.length rc')).setCell ⟨w.heap.size + 1, 7, none⟩ (.int .i64 c)).setCell ⟨w.heap.size + 1, 8, none⟩ (.int .i64 u)).setCell ⟨w.heap.size + 1, 9, none⟩ (.slice none 0 0)).setCell ⟨w.heap.size + 1, 10, none⟩ (.slice none 0 0)) (some (w.heap.size + 1)) := (grown_then (grown_then (grown_then (grown_then (grown_then (grown_then (grown_then (grown_then (grown_then (grown_then (grown_set _ ⟨w.heap.size + 1, 0, none⟩ _) (grown_set _ ⟨w.heap.size + 1, 1, none⟩ _)) (grown_set _ ⟨w.heap.size + 1, 2, none⟩ _)) (grown_set _ ⟨w.heap.size + 1, 3, none⟩ _)) (grown_set _ ⟨w.heap.size + 1, 4, none⟩ _)) (grown_set _ ⟨w.heap.size + 1, 5, none⟩ _)) (grown_set _ ⟨w.heap.size + 1, 6, none⟩ _)) (grown_set _ ⟨w.heap.size + 1, 7, none⟩ _)) (grown_set _ ⟨w.heap.size + 1, 8, none⟩ _)) (grown_set _ ⟨w.heap.size + 1, 9, none⟩ _)) (grown_set _ ⟨w.heap.size + 1, 10, none⟩ _))
      clear n0 n1 n2 n3 n4 n5 n6 n7 n8 n9 x0 x1 x2 x3 x4 x5 x6 x7 x8 x9 x10 t0 t1 t2 t3 t4 t5 t6 t7 t8 t9 t10 f0 f1 f2 f3 f4 f5 f6 f7 f8 f9 f10
      generalize (((((((((((w6.setCell ⟨w.heap.size + 1, 0, none⟩ (.string idn)).setCell ⟨w.heap.size + 1, 1, none⟩ (.string ti)).setCell ⟨w.heap.size + 1, 2, none⟩ (.int .i64 st)).setCell ⟨w.heap.size + 1, 3, none⟩ (.int .i64 lg)).setCell ⟨w.heap.size + 1, 4, none⟩ (.string f)).setCell ⟨w.heap.size + 1, 5, none⟩ (.int .i64 e)).setCell ⟨w.heap.size + 1, 6, none⟩ (.slice ra' ds.length rc')).setCell ⟨w.heap.size + 1, 7, none⟩ (.int .i64 c)).setCell ⟨w.heap.size + 1, 8, none⟩ (.int .i64 u)).setCell ⟨w.heap.size + 1, 9, none⟩ (.slice none 0 0)).setCell ⟨w.heap.size + 1, 10, none⟩ (.slice none 0 0)) = w7 at n10 g7 ⊢
      obtain ⟨c0, c1, c2, c3, c4, c5, c6, c7, c8, c9, c10⟩ := blk11 n10
      have o1 := Ow.grown OR5.out g7 (by omega)
      have o2 := Ow.grown OS5.out g7 (by omega)
      have o3 := OwM.grown OM5.out g7 (by omega)
      refine bodyPost_ret (v := .agg #[.string idn, .string ti, .int .i64 st, .int .i64 lg, .string f, .int .i64 e, .slice ra' ds.length rc', .int .i64 c, .int .i64 u, .slice none 0 0, .slice none 0 0]) (by simp [results, Tryz.f17, go_sem, c0, c1, c2, c3, c4, c5, c6, c7, c8, c9, c10]) rfl ⟨_, _, _, rfl, ⟨ow_days o1 h20, ow_ints (ds := ([] : List Int)) o2 (by first | omega | simp), (owm_movs (ms := ([] : List (Int × Int))) o3 (by first | omega | simp)).1, ow_got o1, ow_got o2, (owm_movs (ms := ([] : List (Int × Int))) o3 (by first | omega | simp)).2⟩, B5.out.grown g7 (by omega) (fun k q => by cases q; omega)⟩
    | some bd =>
      have OS0 : Hid (Ow (w.heap.size + 2) w2 (.slice none 0 0) ([] : List Int)) := Ow.nil _ _
      have BG : Hid (Below w2.heap.size w2 w2) := Below.refl _ _
      have KA3 : Hid (w2.heap[w.heap.size]? = some (.cells #[.string idn, .string ti, .int .i64 st, .int .i64 lg, .string f, .int .i64 e, .slice ra' ds.length rc', .int .i64 c, .int .i64 u, .slice none 0 0, .slice (some bd) mv.length mc] 37 (0, 0))) := KA2.out
      go_upto_region 5 with (fail)
      have m9 : (w2.setCell ⟨w.heap.size, 9, none⟩ (.slice none 0 0)).heap[w.heap.size]? = some (.cells #[.string idn, .string ti, .int .i64 st, .int .i64 lg, .string f, .int .i64 e, .slice ra' ds.length rc', .int .i64 c, .int .i64 u, .slice none 0 0, .slice (some bd) mv.length mc] 37 (0, 0)) := set11_9 (.slice none 0 0) KA3.out
      have g3 : w2.grownBy (w2.setCell ⟨w.heap.size, 9, none⟩ (.slice none 0 0)) (some (w.heap.size)) := grown_set w2 ⟨w.heap.size, 9, none⟩ (.slice none 0 0)
      have hz3 : w.heap.size + 2 ≤ w2.heap.size := Nat.le_trans hz2' BG.out.size
      have OR3 : Hid (Ow (w.heap.size + 2) (w2.setCell ⟨w.heap.size, 9, none⟩ (.slice none 0 0)) (.slice ra' ds.length rc') ds) := Ow.grown (Ow.step O2.out BG.out) g3 (by omega)
      have OS3 : Hid (Ow (w.heap.size + 2) (w2.setCell ⟨w.heap.size, 9, none⟩ (.slice none 0 0)) (.slice none 0 0) ([] : List Int)) := Ow.grown OS0.out g3 (by omega)
      have KB3 : Hid ((w2.setCell ⟨w.heap.size, 9, none⟩ (.slice none 0 0)).heap[w.heap.size + 1]? = some (.cells #[.string ⟨#[]⟩, .string ⟨#[]⟩, .int .i64 0, .int .i64 0, .string ⟨#[]⟩, .int .i64 0, .slice none 0 0, .int .i64 0, .int .i64 0, .slice none 0 0, .slice none 0 0] 37 (0, 0))) := (g3.block _ (by omega) (fun q => by simp at q)).trans ((BG.out.block _ (by omega)).trans KB2.out)
      have B3 : Hid (Below w.heap.size w (w2.setCell ⟨w.heap.size, 9, none⟩ (.slice none 0 0))) := (below_then B2.out BG.out).grown g3 (by omega) (fun k q => by cases q; exact Nat.le_refl _)
      have GM3 : Hid (GotM (w2.setCell ⟨w.heap.size, 9, none⟩ (.slice none 0 0)) (.slice (some bd) mv.length mc) mv) := HM1.out.step B3.out
      have KA4 : Hid ((w2.setCell ⟨w.heap.size, 9, none⟩ (.slice none 0 0)).heap[w.heap.size]? = some (.cells #[.string idn, .string ti, .int .i64 st, .int .i64 lg, .string f, .int .i64 e, .slice ra' ds.length rc', .int .i64 c, .int .i64 u, .slice none 0 0, .slice (some bd) mv.length mc] 37 (0, 0))) := m9
      have hz4 : w.heap.size + 2 ≤ (w2.setCell ⟨w.heap.size, 9, none⟩ (.slice none 0 0)).heap.size := Nat.le_trans hz3 g3.size
      clear m9 g3 hz3 KA3 OS0 BG KA2 KB2 O2 B2 GS2 GM2 hz2' x9 x10 z9 z10
      generalize (w2.setCell ⟨w.heap.size, 9, none⟩ (.slice none 0 0)) = w4 at OR3 OS3 KB3 B3 GM3 KA4 hz4 ⊢
      have x10 := (blk11 KA4.out).2.2.2.2.2.2.2.2.2.2
      have z10 := blk11_frozen KA4.out 10
      have NM : Hid (_) := gotM_news GM3.out
      go_upto_region 6 with (first | (at_builtin; refine wpList_append_own _ rfl _ _ 35 rfl (w.heap.size + 2) 92 i1 (.agg #[.int .i64 0, .int .i64 0]) 2 16 Tryz.underlying35 hi1 hy0 hy1 hy2 rfl (by decide) _ _ _ rfl (World.ownsRow_nil _ _ _ _) bd mv.length mc (mcells mv) rfl (mcells_len mv) NM.out (mcells_one mv) (by unfold maxLen; omega) (by omega) (by omega) ?_; intro v' w5 hown hgrow _; have OM0 : Hid (OwM (w.heap.size + 2) w5 v' mv) := (by show World.ownsRow _ _ _ _ _ _ _; simpa using hown); have BG : Hid (Below w4.heap.size w4 w5) := ⟨hgrow.os, hgrow.tape, hgrow.output, hgrow.size, fun k hk => hgrow.block k hk (show some k ≠ none by simp)⟩; obtain ⟨ma', mc', rfl⟩ := gotM_form (owm_movs OM0.out (by omega)).2; have KA5 : Hid (w5.heap[w.heap.size]? = some (.cells #[.string idn, .string ti, .int .i64 st, .int .i64 lg, .string f, .int .i64 e, .slice ra' ds.length rc', .int .i64 c, .int .i64 u, .slice none 0 0, .slice (some bd) mv.length mc] 37 (0, 0))) := (BG.out.block _ (by omega)).trans KA4.out; have q9 := (blk11 KA5.out).2.2.2.2.2.2.2.2.2.2; have q10 := blk11_frozen KA5.out 10; clear hown hgrow) | go_in)
      have m9 : (w5.setCell ⟨w.heap.size, 10, none⟩ (.slice ma' mv.length mc')).heap[w.heap.size]? = some (.cells #[.string idn, .string ti, .int .i64 st, .int .i64 lg, .string f, .int .i64 e, .slice ra' ds.length rc', .int .i64 c, .int .i64 u, .slice none 0 0, .slice ma' mv.length mc'] 37 (0, 0)) := set11_10 (.slice ma' mv.length mc') KA5.out
      have g3 : w5.grownBy (w5.setCell ⟨w.heap.size, 10, none⟩ (.slice ma' mv.length mc')) (some (w.heap.size)) := grown_set w5 ⟨w.heap.size, 10, none⟩ (.slice ma' mv.length mc')
      have hz5 : w.heap.size + 2 ≤ w5.heap.size := Nat.le_trans hz4 BG.out.size
      have OR5 : Hid (Ow (w.heap.size + 2) (w5.setCell ⟨w.heap.size, 10, none⟩ (.slice ma' mv.length mc')) (.slice ra' ds.length rc') ds) := Ow.grown (Ow.step OR3.out BG.out) g3 (by omega)
      have OS5 : Hid (Ow (w.heap.size + 2) (w5.setCell ⟨w.heap.size, 10, none⟩ (.slice ma' mv.length mc')) (.slice none 0 0) ([] : List Int)) := Ow.grown (Ow.step OS3.out BG.out) g3 (by omega)
      have OM5 : Hid (OwM (w.heap.size + 2) (w5.setCell ⟨w.heap.size, 10, none⟩ (.slice ma' mv.length mc')) (.slice ma' mv.length mc') mv) := OwM.grown OM0.out g3 (by omega)
      have KB5 : Hid ((w5.setCell ⟨w.heap.size, 10, none⟩ (.slice ma' mv.length mc')).heap[w.heap.size + 1]? = some (.cells #[.string ⟨#[]⟩, .string ⟨#[]⟩, .int .i64 0, .int .i64 0, .string ⟨#[]⟩, .int .i64 0, .slice none 0 0, .int .i64 0, .int .i64 0, .slice none 0 0, .slice none 0 0] 37 (0, 0))) := (g3.block _ (by omega) (fun q => by simp at q)).trans ((BG.out.block _ (by omega)).trans KB3.out)
      have B5 : Hid (Below w.heap.size w (w5.setCell ⟨w.heap.size, 10, none⟩ (.slice ma' mv.length mc'))) := (below_then B3.out BG.out).grown g3 (by omega) (fun k q => by cases q; exact Nat.le_refl _)
      have KA6 : Hid ((w5.setCell ⟨w.heap.size, 10, none⟩ (.slice ma' mv.length mc')).heap[w.heap.size]? = some (.cells #[.string idn, .string ti, .int .i64 st, .int .i64 lg, .string f, .int .i64 e, .slice ra' ds.length rc', .int .i64 c, .int .i64 u, .slice none 0 0, .slice ma' mv.length mc'] 37 (0, 0))) := m9
      have hz6 : w.heap.size + 2 ≤ (w5.setCell ⟨w.heap.size, 10, none⟩ (.slice ma' mv.length mc')).heap.size := Nat.le_trans hz5 g3.size
      clear m9 g3 hz5 KA5 OM0 BG KA4 KB3 OR3 OS3 B3 GM3 hz4 x10 z10 q9 q10 NM
      generalize (w5.setCell ⟨w.heap.size, 10, none⟩ (.slice ma' mv.length mc')) = w6 at OR5 OS5 OM5 KB5 B5 KA6 hz6 ⊢
      obtain ⟨x0, x1, x2, x3, x4, x5, x6, x7, x8, x9, x10⟩ := blk11 KA6.out
      obtain ⟨t0, t1, t2, t3, t4, t5, t6, t7, t8, t9, t10⟩ := blk11 KB5.out
      have f0 := blk11_frozen KB5.out 0
      have f1 := blk11_frozen KB5.out 1
      have f2 := blk11_frozen KB5.out 2
      have f3 := blk11_frozen KB5.out 3
      have f4 := blk11_frozen KB5.out 4
      have f5 := blk11_frozen KB5.out 5
      have f6 := blk11_frozen KB5.out 6
      have f7 := blk11_frozen KB5.out 7
      have f8 := blk11_frozen KB5.out 8
      have f9 := blk11_frozen KB5.out 9
      have f10 := blk11_frozen KB5.out 10
      go_wp2
      have n0 := set11_0 (.string idn) KB5.out
      have n1 := set11_1 (.string ti) n0
      have n2 := set11_2 (.int .i64 st) n1
      have n3 := set11_3 (.int .i64 lg) n2
      have n4 := set11_4 (.string f) n3
      have n5 := set11_5 (.int .i64 e) n4
      have n6 := set11_6 (.slice ra' ds.length rc') n5
      have n7 := set11_7 (.int .i64 c) n6
      have n8 := set11_8 (.int .i64 u) n7
      have n9 := set11_9 (.slice none 0 0) n8
      have n10 := set11_10 (.slice ma' mv.length mc') n9
      have g7 : w6.grownBy (((((((((((w6.setCell ⟨w.heap.size + 1, 0, none⟩ (.string idn)).setCell ⟨w.heap.size + 1, 1, none⟩ (.string ti)).setCell ⟨w.heap.size + 1, 2, none⟩ (.int .i64 st)).setCell ⟨w.heap.size + 1, 3, none⟩ (.int .i64 lg)).setCell ⟨w.heap.size + 1, 4, none⟩ (.string f)).setCell ⟨w.heap.size + 1, 5, none⟩ (.int .i64 e)).setCell ⟨w.heap.size + 1, 6, none⟩ (.slice ra' ds.length rc')).setCell ⟨w.heap.size + 1, 7, none⟩ (.int .i64 c)).setCell ⟨w.heap.size + 1, 8, none⟩ (.int .i64 u)).setCell ⟨w.heap.size + 1, 9, none⟩ (.slice none 0 0)).setCell ⟨w.heap.size + 1, 10, none⟩ (.slice ma' mv.length mc')) (some (w.heap.size + 1)) := (grown_then (grown_then (grown_then (grown_then (grown_then (grown_then (grown_then (grown_then (grown_then (grown_then (grown_set _ ⟨w.heap.size + 1, 0, none⟩ _) (grown_set _ ⟨w.heap.size + 1, 1, none⟩ _)) (grown_set _ ⟨w.heap.size + 1, 2, none⟩ _)) (grown_set _ ⟨w.heap.size + 1, 3, none⟩ _)) (grown_set _ ⟨w.heap.size + 1, 4, none⟩ _)) (grown_set _ ⟨w.heap.size + 1, 5, none⟩ _)) (grown_set _ ⟨w.heap.size + 1, 6, none⟩ _)) (grown_set _ ⟨w.heap.size + 1, 7, none⟩ _)) (grown_set _ ⟨w.heap.size + 1, 8, none⟩ _)) (grown_set _ ⟨w.heap.size + 1, 9, none⟩ _)) (grown_set _ ⟨w.heap.size + 1, 10, none⟩ _))
      clear n0 n1 n2 n3 n4 n5 n6 n7 n8 n9 x0 x1 x2 x3 x4 x5 x6 x7 x8 x9 x10 t0 t1 t2 t3 t4 t5 t6 t7 t8 t9 t10 f0 f1 f2 f3 f4 f5 f6 f7 f8 f9 f10
      generalize (((((((((((w6.setCell ⟨w.heap.size + 1, 0, none⟩ (.string idn)).setCell ⟨w.heap.size + 1, 1, none⟩ (.string ti)).setCell ⟨w.heap.size + 1, 2, none⟩ (.int .i64 st)).setCell ⟨w.heap.size + 1, 3, none⟩ (.int .i64 lg)).setCell ⟨w.heap.size + 1, 4, none⟩ (.string f)).setCell ⟨w.heap.size + 1, 5, none⟩ (.int .i64 e)).setCell ⟨w.heap.size + 1, 6, none⟩ (.slice ra' ds.length rc')).setCell ⟨w.heap.size + 1, 7, none⟩ (.int .i64 c)).setCell ⟨w.heap.size + 1, 8, none⟩ (.int .i64 u)).setCell ⟨w.heap.size + 1, 9, none⟩ (.slice none 0 0)).setCell ⟨w.heap.size + 1, 10, none⟩ (.slice ma' mv.length mc')) = w7 at n10 g7 ⊢
      obtain ⟨c0, c1, c2, c3, c4, c5, c6, c7, c8, c9, c10⟩ := blk11 n10
      have o1 := Ow.grown OR5.out g7 (by omega)
      have o2 := Ow.grown OS5.out g7 (by omega)
      have o3 := OwM.grown OM5.out g7 (by omega)
      refine bodyPost_ret (v := .agg #[.string idn, .string ti, .int .i64 st, .int .i64 lg, .string f, .int .i64 e, .slice ra' ds.length rc', .int .i64 c, .int .i64 u, .slice none 0 0, .slice ma' mv.length mc']) (by simp [results, Tryz.f17, go_sem, c0, c1, c2, c3, c4, c5, c6, c7, c8, c9, c10]) rfl ⟨_, _, _, rfl, ⟨ow_days o1 h20, ow_ints (ds := ([] : List Int)) o2 (by first | omega | simp), (owm_movs (ms := mv) o3 (by first | omega | simp)).1, ow_got o1, ow_got o2, (owm_movs (ms := mv) o3 (by first | omega | simp)).2⟩, B5.out.grown g7 (by omega) (fun k q => by cases q; omega)⟩
  | some ad =>
    cases ma with
    | none =>
      obtain ⟨h0, rfl⟩ : mv = [] ∧ mc = 0 := by obtain ⟨a', c', e1, e2, _⟩ := HM1.out; cases e1; exact ⟨List.length_eq_zero_iff.1 (e2 rfl).1, (e2 rfl).2⟩
      subst h0
      simp only [List.length_nil] at *
      have NS : Hid (_) := got_news GS2.out
      have hsl : (sk.length : Nat) ≤ 30 := hs25
      go_upto_region 5 with (first | (at_builtin; refine wpList_append_own _ rfl _ _ 22 rfl (w.heap.size + 2) 3 i0 (.int .i64 0) 1 8 Tryz.underlying22 hi hz0 hz1 hz2 rfl (by decide) _ _ _ rfl (World.ownsRow_nil _ _ _ _) ad sk.length sc (sk.map (Value.int .i64)) rfl (by simp) NS.out (fun v hv => by obtain ⟨x, _, rfl⟩ := List.mem_map.1 hv; rfl) (by unfold maxLen; omega) (by omega) (by omega) ?_; intro v' w3 hown hgrow _; have OS0 : Hid (Ow (w.heap.size + 2) w3 v' sk) := (by show World.ownsRow _ _ _ _ _ _ _; simpa using hown); have BG : Hid (Below w2.heap.size w2 w3) := ⟨hgrow.os, hgrow.tape, hgrow.output, hgrow.size, fun k hk => hgrow.block k hk (show some k ≠ none by simp)⟩; obtain ⟨sa', sc', rfl⟩ := ow_form OS0.out; have KA3 : Hid (w3.heap[w.heap.size]? = some (.cells #[.string idn, .string ti, .int .i64 st, .int .i64 lg, .string f, .int .i64 e, .slice ra' ds.length rc', .int .i64 c, .int .i64 u, .slice (some ad) sk.length sc, .slice none 0 0] 37 (0, 0))) := (BG.out.block _ (by omega)).trans KA2.out; have q9 := (blk11 KA3.out).2.2.2.2.2.2.2.2.2.1; have q10 := blk11_frozen KA3.out 9; clear hown hgrow) | go_in)
      have m9 : (w3.setCell ⟨w.heap.size, 9, none⟩ (.slice sa' sk.length sc')).heap[w.heap.size]? = some (.cells #[.string idn, .string ti, .int .i64 st, .int .i64 lg, .string f, .int .i64 e, .slice ra' ds.length rc', .int .i64 c, .int .i64 u, .slice sa' sk.length sc', .slice none 0 0] 37 (0, 0)) := set11_9 (.slice sa' sk.length sc') KA3.out
      have g3 : w3.grownBy (w3.setCell ⟨w.heap.size, 9, none⟩ (.slice sa' sk.length sc')) (some (w.heap.size)) := grown_set w3 ⟨w.heap.size, 9, none⟩ (.slice sa' sk.length sc')
      have hz3 : w.heap.size + 2 ≤ w3.heap.size := Nat.le_trans hz2' BG.out.size
      have OR3 : Hid (Ow (w.heap.size + 2) (w3.setCell ⟨w.heap.size, 9, none⟩ (.slice sa' sk.length sc')) (.slice ra' ds.length rc') ds) := Ow.grown (Ow.step O2.out BG.out) g3 (by omega)
      have OS3 : Hid (Ow (w.heap.size + 2) (w3.setCell ⟨w.heap.size, 9, none⟩ (.slice sa' sk.length sc')) (.slice sa' sk.length sc') sk) := Ow.grown OS0.out g3 (by omega)
      have KB3 : Hid ((w3.setCell ⟨w.heap.size, 9, none⟩ (.slice sa' sk.length sc')).heap[w.heap.size + 1]? = some (.cells #[.string ⟨#[]⟩, .string ⟨#[]⟩, .int .i64 0, .int .i64 0, .string ⟨#[]⟩, .int .i64 0, .slice none 0 0, .int .i64 0, .int .i64 0, .slice none 0 0, .slice none 0 0] 37 (0, 0))) := (g3.block _ (by omega) (fun q => by simp at q)).trans ((BG.out.block _ (by omega)).trans KB2.out)
      have B3 : Hid (Below w.heap.size w (w3.setCell ⟨w.heap.size, 9, none⟩ (.slice sa' sk.length sc'))) := (below_then B2.out BG.out).grown g3 (by omega) (fun k q => by cases q; exact Nat.le_refl _)
      have GM3 : Hid (GotM (w3.setCell ⟨w.heap.size, 9, none⟩ (.slice sa' sk.length sc')) (.slice none 0 0) []) := HM1.out.step B3.out
      have KA4 : Hid ((w3.setCell ⟨w.heap.size, 9, none⟩ (.slice sa' sk.length sc')).heap[w.heap.size]? = some (.cells #[.string idn, .string ti, .int .i64 st, .int .i64 lg, .string f, .int .i64 e, .slice ra' ds.length rc', .int .i64 c, .int .i64 u, .slice sa' sk.length sc', .slice none 0 0] 37 (0, 0))) := m9
      have hz4 : w.heap.size + 2 ≤ (w3.setCell ⟨w.heap.size, 9, none⟩ (.slice sa' sk.length sc')).heap.size := Nat.le_trans hz3 g3.size
      clear m9 g3 hz3 KA3 OS0 BG KA2 KB2 O2 B2 GS2 GM2 hz2' x9 x10 z9 z10 q9 q10 NS
      generalize (w3.setCell ⟨w.heap.size, 9, none⟩ (.slice sa' sk.length sc')) = w4 at OR3 OS3 KB3 B3 GM3 KA4 hz4 ⊢
      have x10 := (blk11 KA4.out).2.2.2.2.2.2.2.2.2.2
      have z10 := blk11_frozen KA4.out 10
      have OM0 : Hid (OwM (w.heap.size + 2) w4 (.slice none 0 0) ([] : List (Int × Int))) := World.ownsRow_nil _ _ _ _
      have BG : Hid (Below w4.heap.size w4 w4) := Below.refl _ _
      have KA5 : Hid (w4.heap[w.heap.size]? = some (.cells #[.string idn, .string ti, .int .i64 st, .int .i64 lg, .string f, .int .i64 e, .slice ra' ds.length rc', .int .i64 c, .int .i64 u, .slice sa' sk.length sc', .slice none 0 0] 37 (0, 0))) := KA4.out
      go_upto_region 6 with (fail)
      have m9 : (w4.setCell ⟨w.heap.size, 10, none⟩ (.slice none 0 0)).heap[w.heap.size]? = some (.cells #[.string idn, .string ti, .int .i64 st, .int .i64 lg, .string f, .int .i64 e, .slice ra' ds.length rc', .int .i64 c, .int .i64 u, .slice sa' sk.length sc', .slice none 0 0] 37 (0, 0)) := set11_10 (.slice none 0 0) KA5.out
      have g3 : w4.grownBy (w4.setCell ⟨w.heap.size, 10, none⟩ (.slice none 0 0)) (some (w.heap.size)) := grown_set w4 ⟨w.heap.size, 10, none⟩ (.slice none 0 0)
      have hz5 : w.heap.size + 2 ≤ w4.heap.size := Nat.le_trans hz4 BG.out.size
      have OR5 : Hid (Ow (w.heap.size + 2) (w4.setCell ⟨w.heap.size, 10, none⟩ (.slice none 0 0)) (.slice ra' ds.length rc') ds) := Ow.grown (Ow.step OR3.out BG.out) g3 (by omega)
      have OS5 : Hid (Ow (w.heap.size + 2) (w4.setCell ⟨w.heap.size, 10, none⟩ (.slice none 0 0)) (.slice sa' sk.length sc') sk) := Ow.grown (Ow.step OS3.out BG.out) g3 (by omega)
      have OM5 : Hid (OwM (w.heap.size + 2) (w4.setCell ⟨w.heap.size, 10, none⟩ (.slice none 0 0)) (.slice none 0 0) ([] : List (Int × Int))) := OwM.grown OM0.out g3 (by omega)
      have KB5 : Hid ((w4.setCell ⟨w.heap.size, 10, none⟩ (.slice none 0 0)).heap[w.heap.size + 1]? = some (.cells #[.string ⟨#[]⟩, .string ⟨#[]⟩, .int .i64 0, .int .i64 0, .string ⟨#[]⟩, .int .i64 0, .slice none 0 0, .int .i64 0, .int .i64 0, .slice none 0 0, .slice none 0 0] 37 (0, 0))) := (g3.block _ (by omega) (fun q => by simp at q)).trans ((BG.out.block _ (by omega)).trans KB3.out)
      have B5 : Hid (Below w.heap.size w (w4.setCell ⟨w.heap.size, 10, none⟩ (.slice none 0 0))) := (below_then B3.out BG.out).grown g3 (by omega) (fun k q => by cases q; exact Nat.le_refl _)
      have KA6 : Hid ((w4.setCell ⟨w.heap.size, 10, none⟩ (.slice none 0 0)).heap[w.heap.size]? = some (.cells #[.string idn, .string ti, .int .i64 st, .int .i64 lg, .string f, .int .i64 e, .slice ra' ds.length rc', .int .i64 c, .int .i64 u, .slice sa' sk.length sc', .slice none 0 0] 37 (0, 0))) := m9
      have hz6 : w.heap.size + 2 ≤ (w4.setCell ⟨w.heap.size, 10, none⟩ (.slice none 0 0)).heap.size := Nat.le_trans hz5 g3.size
      clear m9 g3 hz5 KA5 OM0 BG KA4 KB3 OR3 OS3 B3 GM3 hz4 x10 z10
      generalize (w4.setCell ⟨w.heap.size, 10, none⟩ (.slice none 0 0)) = w6 at OR5 OS5 OM5 KB5 B5 KA6 hz6 ⊢
      obtain ⟨x0, x1, x2, x3, x4, x5, x6, x7, x8, x9, x10⟩ := blk11 KA6.out
      obtain ⟨t0, t1, t2, t3, t4, t5, t6, t7, t8, t9, t10⟩ := blk11 KB5.out
      have f0 := blk11_frozen KB5.out 0
      have f1 := blk11_frozen KB5.out 1
      have f2 := blk11_frozen KB5.out 2
      have f3 := blk11_frozen KB5.out 3
      have f4 := blk11_frozen KB5.out 4
      have f5 := blk11_frozen KB5.out 5
      have f6 := blk11_frozen KB5.out 6
      have f7 := blk11_frozen KB5.out 7
      have f8 := blk11_frozen KB5.out 8
      have f9 := blk11_frozen KB5.out 9
      have f10 := blk11_frozen KB5.out 10
      go_wp2
      have n0 := set11_0 (.string idn) KB5.out
      have n1 := set11_1 (.string ti) n0
      have n2 := set11_2 (.int .i64 st) n1
      have n3 := set11_3 (.int .i64 lg) n2
      have n4 := set11_4 (.string f) n3
      have n5 := set11_5 (.int .i64 e) n4
      have n6 := set11_6 (.slice ra' ds.length rc') n5
      have n7 := set11_7 (.int .i64 c) n6
      have n8 := set11_8 (.int .i64 u) n7
      have n9 := set11_9 (.slice sa' sk.length sc') n8
      have n10 := set11_10 (.slice none 0 0) n9
      have g7 : w6.grownBy (((((((((((w6.setCell ⟨w.heap.size + 1, 0, none⟩ (.string idn)).setCell ⟨w.heap.size + 1, 1, none⟩ (.string ti)).setCell ⟨w.heap.size + 1, 2, none⟩ (.int .i64 st)).setCell ⟨w.heap.size + 1, 3, none⟩ (.int .i64 lg)).setCell ⟨w.heap.size + 1, 4, none⟩ (.string f)).setCell ⟨w.heap.size + 1, 5, none⟩ (.int .i64 e)).setCell ⟨w.heap.size + 1, 6, none⟩ (.slice ra' ds.length rc')).setCell ⟨w.heap.size + 1, 7, none⟩ (.int .i64 c)).setCell ⟨w.heap.size + 1, 8, none⟩ (.int .i64 u)).setCell ⟨w.heap.size + 1, 9, none⟩ (.slice sa' sk.length sc')).setCell ⟨w.heap.size + 1, 10, none⟩ (.slice none 0 0)) (some (w.heap.size + 1)) := (grown_then (grown_then (grown_then (grown_then (grown_then (grown_then (grown_then (grown_then (grown_then (grown_then (grown_set _ ⟨w.heap.size + 1, 0, none⟩ _) (grown_set _ ⟨w.heap.size + 1, 1, none⟩ _)) (grown_set _ ⟨w.heap.size + 1, 2, none⟩ _)) (grown_set _ ⟨w.heap.size + 1, 3, none⟩ _)) (grown_set _ ⟨w.heap.size + 1, 4, none⟩ _)) (grown_set _ ⟨w.heap.size + 1, 5, none⟩ _)) (grown_set _ ⟨w.heap.size + 1, 6, none⟩ _)) (grown_set _ ⟨w.heap.size + 1, 7, none⟩ _)) (grown_set _ ⟨w.heap.size + 1, 8, none⟩ _)) (grown_set _ ⟨w.heap.size + 1, 9, none⟩ _)) (grown_set _ ⟨w.heap.size + 1, 10, none⟩ _))
      clear n0 n1 n2 n3 n4 n5 n6 n7 n8 n9 x0 x1 x2 x3 x4 x5 x6 x7 x8 x9 x10 t0 t1 t2 t3 t4 t5 t6 t7 t8 t9 t10 f0 f1 f2 f3 f4 f5 f6 f7 f8 f9 f10
      generalize (((((((((((w6.setCell ⟨w.heap.size + 1, 0, none⟩ (.string idn)).setCell ⟨w.heap.size + 1, 1, none⟩ (.string ti)).setCell ⟨w.heap.size + 1, 2, none⟩ (.int .i64 st)).setCell ⟨w.heap.size + 1, 3, none⟩ (.int .i64 lg)).setCell ⟨w.heap.size + 1, 4, none⟩ (.string f)).setCell ⟨w.heap.size + 1, 5, none⟩ (.int .i64 e)).setCell ⟨w.heap.size + 1, 6, none⟩ (.slice ra' ds.length rc')).setCell ⟨w.heap.size + 1, 7, none⟩ (.int .i64 c)).setCell ⟨w.heap.size + 1, 8, none⟩ (.int .i64 u)).setCell ⟨w.heap.size + 1, 9, none⟩ (.slice sa' sk.length sc')).setCell ⟨w.heap.size + 1, 10, none⟩ (.slice none 0 0)) = w7 at n10 g7 ⊢
      obtain ⟨c0, c1, c2, c3, c4, c5, c6, c7, c8, c9, c10⟩ := blk11 n10
      have o1 := Ow.grown OR5.out g7 (by omega)
      have o2 := Ow.grown OS5.out g7 (by omega)
      have o3 := OwM.grown OM5.out g7 (by omega)
      refine bodyPost_ret (v := .agg #[.string idn, .string ti, .int .i64 st, .int .i64 lg, .string f, .int .i64 e, .slice ra' ds.length rc', .int .i64 c, .int .i64 u, .slice sa' sk.length sc', .slice none 0 0]) (by simp [results, Tryz.f17, go_sem, c0, c1, c2, c3, c4, c5, c6, c7, c8, c9, c10]) rfl ⟨_, _, _, rfl, ⟨ow_days o1 h20, ow_ints (ds := sk) o2 (by first | omega | simp), (owm_movs (ms := ([] : List (Int × Int))) o3 (by first | omega | simp)).1, ow_got o1, ow_got o2, (owm_movs (ms := ([] : List (Int × Int))) o3 (by first | omega | simp)).2⟩, B5.out.grown g7 (by omega) (fun k q => by cases q; omega)⟩
    | some bd =>
      have NS : Hid (_) := got_news GS2.out
      have hsl : (sk.length : Nat) ≤ 30 := hs25
      go_upto_region 5 with (first | (at_builtin; refine wpList_append_own _ rfl _ _ 22 rfl (w.heap.size + 2) 3 i0 (.int .i64 0) 1 8 Tryz.underlying22 hi hz0 hz1 hz2 rfl (by decide) _ _ _ rfl (World.ownsRow_nil _ _ _ _) ad sk.length sc (sk.map (Value.int .i64)) rfl (by simp) NS.out (fun v hv => by obtain ⟨x, _, rfl⟩ := List.mem_map.1 hv; rfl) (by unfold maxLen; omega) (by omega) (by omega) ?_; intro v' w3 hown hgrow _; have OS0 : Hid (Ow (w.heap.size + 2) w3 v' sk) := (by show World.ownsRow _ _ _ _ _ _ _; simpa using hown); have BG : Hid (Below w2.heap.size w2 w3) := ⟨hgrow.os, hgrow.tape, hgrow.output, hgrow.size, fun k hk => hgrow.block k hk (show some k ≠ none by simp)⟩; obtain ⟨sa', sc', rfl⟩ := ow_form OS0.out; have KA3 : Hid (w3.heap[w.heap.size]? = some (.cells #[.string idn, .string ti, .int .i64 st, .int .i64 lg, .string f, .int .i64 e, .slice ra' ds.length rc', .int .i64 c, .int .i64 u, .slice (some ad) sk.length sc, .slice (some bd) mv.length mc] 37 (0, 0))) := (BG.out.block _ (by omega)).trans KA2.out; have q9 := (blk11 KA3.out).2.2.2.2.2.2.2.2.2.1; have q10 := blk11_frozen KA3.out 9; clear hown hgrow) | go_in)
      have m9 : (w3.setCell ⟨w.heap.size, 9, none⟩ (.slice sa' sk.length sc')).heap[w.heap.size]? = some (.cells #[.string idn, .string ti, .int .i64 st, .int .i64 lg, .string f, .int .i64 e, .slice ra' ds.length rc', .int .i64 c, .int .i64 u, .slice sa' sk.length sc', .slice (some bd) mv.length mc] 37 (0, 0)) := set11_9 (.slice sa' sk.length sc') KA3.out
      have g3 : w3.grownBy (w3.setCell ⟨w.heap.size, 9, none⟩ (.slice sa' sk.length sc')) (some (w.heap.size)) := grown_set w3 ⟨w.heap.size, 9, none⟩ (.slice sa' sk.length sc')
      have hz3 : w.heap.size + 2 ≤ w3.heap.size := Nat.le_trans hz2' BG.out.size
      have OR3 : Hid (Ow (w.heap.size + 2) (w3.setCell ⟨w.heap.size, 9, none⟩ (.slice sa' sk.length sc')) (.slice ra' ds.length rc') ds) := Ow.grown (Ow.step O2.out BG.out) g3 (by omega)
      have OS3 : Hid (Ow (w.heap.size + 2) (w3.setCell ⟨w.heap.size, 9, none⟩ (.slice sa' sk.length sc')) (.slice sa' sk.length sc') sk) := Ow.grown OS0.out g3 (by omega)
      have KB3 : Hid ((w3.setCell ⟨w.heap.size, 9, none⟩ (.slice sa' sk.length sc')).heap[w.heap.size + 1]? = some (.cells #[.string ⟨#[]⟩, .string ⟨#[]⟩, .int .i64 0, .int .i64 0, .string ⟨#[]⟩, .int .i64 0, .slice none 0 0, .int .i64 0, .int .i64 0, .slice none 0 0, .slice none 0 0] 37 (0, 0))) := (g3.block _ (by omega) (fun q => by simp at q)).trans ((BG.out.block _ (by omega)).trans KB2.out)
      have B3 : Hid (Below w.heap.size w (w3.setCell ⟨w.heap.size, 9, none⟩ (.slice sa' sk.length sc'))) := (below_then B2.out BG.out).grown g3 (by omega) (fun k q => by cases q; exact Nat.le_refl _)
      have GM3 : Hid (GotM (w3.setCell ⟨w.heap.size, 9, none⟩ (.slice sa' sk.length sc')) (.slice (some bd) mv.length mc) mv) := HM1.out.step B3.out
      have KA4 : Hid ((w3.setCell ⟨w.heap.size, 9, none⟩ (.slice sa' sk.length sc')).heap[w.heap.size]? = some (.cells #[.string idn, .string ti, .int .i64 st, .int .i64 lg, .string f, .int .i64 e, .slice ra' ds.length rc', .int .i64 c, .int .i64 u, .slice sa' sk.length sc', .slice (some bd) mv.length mc] 37 (0, 0))) := m9
      have hz4 : w.heap.size + 2 ≤ (w3.setCell ⟨w.heap.size, 9, none⟩ (.slice sa' sk.length sc')).heap.size := Nat.le_trans hz3 g3.size
      clear m9 g3 hz3 KA3 OS0 BG KA2 KB2 O2 B2 GS2 GM2 hz2' x9 x10 z9 z10 q9 q10 NS
      generalize (w3.setCell ⟨w.heap.size, 9, none⟩ (.slice sa' sk.length sc')) = w4 at OR3 OS3 KB3 B3 GM3 KA4 hz4 ⊢
      have x10 := (blk11 KA4.out).2.2.2.2.2.2.2.2.2.2
      have z10 := blk11_frozen KA4.out 10
      have NM : Hid (_) := gotM_news GM3.out
      go_upto_region 6 with (first | (at_builtin; refine wpList_append_own _ rfl _ _ 35 rfl (w.heap.size + 2) 92 i1 (.agg #[.int .i64 0, .int .i64 0]) 2 16 Tryz.underlying35 hi1 hy0 hy1 hy2 rfl (by decide) _ _ _ rfl (World.ownsRow_nil _ _ _ _) bd mv.length mc (mcells mv) rfl (mcells_len mv) NM.out (mcells_one mv) (by unfold maxLen; omega) (by omega) (by omega) ?_; intro v' w5 hown hgrow _; have OM0 : Hid (OwM (w.heap.size + 2) w5 v' mv) := (by show World.ownsRow _ _ _ _ _ _ _; simpa using hown); have BG : Hid (Below w4.heap.size w4 w5) := ⟨hgrow.os, hgrow.tape, hgrow.output, hgrow.size, fun k hk => hgrow.block k hk (show some k ≠ none by simp)⟩; obtain ⟨ma', mc', rfl⟩ := gotM_form (owm_movs OM0.out (by omega)).2; have KA5 : Hid (w5.heap[w.heap.size]? = some (.cells #[.string idn, .string ti, .int .i64 st, .int .i64 lg, .string f, .int .i64 e, .slice ra' ds.length rc', .int .i64 c, .int .i64 u, .slice sa' sk.length sc', .slice (some bd) mv.length mc] 37 (0, 0))) := (BG.out.block _ (by omega)).trans KA4.out; have q9 := (blk11 KA5.out).2.2.2.2.2.2.2.2.2.2; have q10 := blk11_frozen KA5.out 10; clear hown hgrow) | go_in)
      have m9 : (w5.setCell ⟨w.heap.size, 10, none⟩ (.slice ma' mv.length mc')).heap[w.heap.size]? = some (.cells #[.string idn, .string ti, .int .i64 st, .int .i64 lg, .string f, .int .i64 e, .slice ra' ds.length rc', .int .i64 c, .int .i64 u, .slice sa' sk.length sc', .slice ma' mv.length mc'] 37 (0, 0)) := set11_10 (.slice ma' mv.length mc') KA5.out
      have g3 : w5.grownBy (w5.setCell ⟨w.heap.size, 10, none⟩ (.slice ma' mv.length mc')) (some (w.heap.size)) := grown_set w5 ⟨w.heap.size, 10, none⟩ (.slice ma' mv.length mc')
      have hz5 : w.heap.size + 2 ≤ w5.heap.size := Nat.le_trans hz4 BG.out.size
      have OR5 : Hid (Ow (w.heap.size + 2) (w5.setCell ⟨w.heap.size, 10, none⟩ (.slice ma' mv.length mc')) (.slice ra' ds.length rc') ds) := Ow.grown (Ow.step OR3.out BG.out) g3 (by omega)
      have OS5 : Hid (Ow (w.heap.size + 2) (w5.setCell ⟨w.heap.size, 10, none⟩ (.slice ma' mv.length mc')) (.slice sa' sk.length sc') sk) := Ow.grown (Ow.step OS3.out BG.out) g3 (by omega)
      have OM5 : Hid (OwM (w.heap.size + 2) (w5.setCell ⟨w.heap.size, 10, none⟩ (.slice ma' mv.length mc')) (.slice ma' mv.length mc') mv) := OwM.grown OM0.out g3 (by omega)
      have KB5 : Hid ((w5.setCell ⟨w.heap.size, 10, none⟩ (.slice ma' mv.length mc')).heap[w.heap.size + 1]? = some (.cells #[.string ⟨#[]⟩, .string ⟨#[]⟩, .int .i64 0, .int .i64 0, .string ⟨#[]⟩, .int .i64 0, .slice none 0 0, .int .i64 0, .int .i64 0, .slice none 0 0, .slice none 0 0] 37 (0, 0))) := (g3.block _ (by omega) (fun q => by simp at q)).trans ((BG.out.block _ (by omega)).trans KB3.out)
      have B5 : Hid (Below w.heap.size w (w5.setCell ⟨w.heap.size, 10, none⟩ (.slice ma' mv.length mc'))) := (below_then B3.out BG.out).grown g3 (by omega) (fun k q => by cases q; exact Nat.le_refl _)
      have KA6 : Hid ((w5.setCell ⟨w.heap.size, 10, none⟩ (.slice ma' mv.length mc')).heap[w.heap.size]? = some (.cells #[.string idn, .string ti, .int .i64 st, .int .i64 lg, .string f, .int .i64 e, .slice ra' ds.length rc', .int .i64 c, .int .i64 u, .slice sa' sk.length sc', .slice ma' mv.length mc'] 37 (0, 0))) := m9
      have hz6 : w.heap.size + 2 ≤ (w5.setCell ⟨w.heap.size, 10, none⟩ (.slice ma' mv.length mc')).heap.size := Nat.le_trans hz5 g3.size
      clear m9 g3 hz5 KA5 OM0 BG KA4 KB3 OR3 OS3 B3 GM3 hz4 x10 z10 q9 q10 NM
      generalize (w5.setCell ⟨w.heap.size, 10, none⟩ (.slice ma' mv.length mc')) = w6 at OR5 OS5 OM5 KB5 B5 KA6 hz6 ⊢
      obtain ⟨x0, x1, x2, x3, x4, x5, x6, x7, x8, x9, x10⟩ := blk11 KA6.out
      obtain ⟨t0, t1, t2, t3, t4, t5, t6, t7, t8, t9, t10⟩ := blk11 KB5.out
      have f0 := blk11_frozen KB5.out 0
      have f1 := blk11_frozen KB5.out 1
      have f2 := blk11_frozen KB5.out 2
      have f3 := blk11_frozen KB5.out 3
      have f4 := blk11_frozen KB5.out 4
      have f5 := blk11_frozen KB5.out 5
      have f6 := blk11_frozen KB5.out 6
      have f7 := blk11_frozen KB5.out 7
      have f8 := blk11_frozen KB5.out 8
      have f9 := blk11_frozen KB5.out 9
      have f10 := blk11_frozen KB5.out 10
      go_wp2
      have n0 := set11_0 (.string idn) KB5.out
      have n1 := set11_1 (.string ti) n0
      have n2 := set11_2 (.int .i64 st) n1
      have n3 := set11_3 (.int .i64 lg) n2
      have n4 := set11_4 (.string f) n3
      have n5 := set11_5 (.int .i64 e) n4
      have n6 := set11_6 (.slice ra' ds.length rc') n5
      have n7 := set11_7 (.int .i64 c) n6
      have n8 := set11_8 (.int .i64 u) n7
      have n9 := set11_9 (.slice sa' sk.length sc') n8
      have n10 := set11_10 (.slice ma' mv.length mc') n9
      have g7 : w6.grownBy (((((((((((w6.setCell ⟨w.heap.size + 1, 0, none⟩ (.string idn)).setCell ⟨w.heap.size + 1, 1, none⟩ (.string ti)).setCell ⟨w.heap.size + 1, 2, none⟩ (.int .i64 st)).setCell ⟨w.heap.size + 1, 3, none⟩ (.int .i64 lg)).setCell ⟨w.heap.size + 1, 4, none⟩ (.string f)).setCell ⟨w.heap.size + 1, 5, none⟩ (.int .i64 e)).setCell ⟨w.heap.size + 1, 6, none⟩ (.slice ra' ds.length rc')).setCell ⟨w.heap.size + 1, 7, none⟩ (.int .i64 c)).setCell ⟨w.heap.size + 1, 8, none⟩ (.int .i64 u)).setCell ⟨w.heap.size + 1, 9, none⟩ (.slice sa' sk.length sc')).setCell ⟨w.heap.size + 1, 10, none⟩ (.slice ma' mv.length mc')) (some (w.heap.size + 1)) := (grown_then (grown_then (grown_then (grown_then (grown_then (grown_then (grown_then (grown_then (grown_then (grown_then (grown_set _ ⟨w.heap.size + 1, 0, none⟩ _) (grown_set _ ⟨w.heap.size + 1, 1, none⟩ _)) (grown_set _ ⟨w.heap.size + 1, 2, none⟩ _)) (grown_set _ ⟨w.heap.size + 1, 3, none⟩ _)) (grown_set _ ⟨w.heap.size + 1, 4, none⟩ _)) (grown_set _ ⟨w.heap.size + 1, 5, none⟩ _)) (grown_set _ ⟨w.heap.size + 1, 6, none⟩ _)) (grown_set _ ⟨w.heap.size + 1, 7, none⟩ _)) (grown_set _ ⟨w.heap.size + 1, 8, none⟩ _)) (grown_set _ ⟨w.heap.size + 1, 9, none⟩ _)) (grown_set _ ⟨w.heap.size + 1, 10, none⟩ _))
      clear n0 n1 n2 n3 n4 n5 n6 n7 n8 n9 x0 x1 x2 x3 x4 x5 x6 x7 x8 x9 x10 t0 t1 t2 t3 t4 t5 t6 t7 t8 t9 t10 f0 f1 f2 f3 f4 f5 f6 f7 f8 f9 f10
      generalize (((((((((((w6.setCell ⟨w.heap.size + 1, 0, none⟩ (.string idn)).setCell ⟨w.heap.size + 1, 1, none⟩ (.string ti)).setCell ⟨w.heap.size + 1, 2, none⟩ (.int .i64 st)).setCell ⟨w.heap.size + 1, 3, none⟩ (.int .i64 lg)).setCell ⟨w.heap.size + 1, 4, none⟩ (.string f)).setCell ⟨w.heap.size + 1, 5, none⟩ (.int .i64 e)).setCell ⟨w.heap.size + 1, 6, none⟩ (.slice ra' ds.length rc')).setCell ⟨w.heap.size + 1, 7, none⟩ (.int .i64 c)).setCell ⟨w.heap.size + 1, 8, none⟩ (.int .i64 u)).setCell ⟨w.heap.size + 1, 9, none⟩ (.slice sa' sk.length sc')).setCell ⟨w.heap.size + 1, 10, none⟩ (.slice ma' mv.length mc')) = w7 at n10 g7 ⊢
      obtain ⟨c0, c1, c2, c3, c4, c5, c6, c7, c8, c9, c10⟩ := blk11 n10
      have o1 := Ow.grown OR5.out g7 (by omega)
      have o2 := Ow.grown OS5.out g7 (by omega)
      have o3 := OwM.grown OM5.out g7 (by omega)
      refine bodyPost_ret (v := .agg #[.string idn, .string ti, .int .i64 st, .int .i64 lg, .string f, .int .i64 e, .slice ra' ds.length rc', .int .i64 c, .int .i64 u, .slice sa' sk.length sc', .slice ma' mv.length mc']) (by simp [results, Tryz.f17, go_sem, c0, c1, c2, c3, c4, c5, c6, c7, c8, c9, c10]) rfl ⟨_, _, _, rfl, ⟨ow_days o1 h20, ow_ints (ds := sk) o2 (by first | omega | simp), (owm_movs (ms := mv) o3 (by first | omega | simp)).1, ow_got o1, ow_got o2, (owm_movs (ms := mv) o3 (by first | omega | simp)).2⟩, B5.out.grown g7 (by omega) (fun k q => by cases q; omega)⟩
end Go.Proofs.YtpdcjnkgkpbdgaaGreatDoor
