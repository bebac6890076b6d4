/- The days of a start and a rule: the iterator that package expand's days hands back gives just those that a count and an end leave of the candidates; none where one of the two is not well. -/
import Derived.Test.YtekminpoiokgfaaGreatDoorYaC
import Derived.Test.YtekminpoiokgfaaGreatDoorYaB
import Derived.Lib.SliceRun
import Derived.Test.YtekminpoiokgfaaGreatDoorEvL2W
namespace Go.Proofs.YtekminpoiokgfaaGreatDoor
open Go Go.RowKit Go.Shelf Cal
attribute [local go_sem] Oper.semAt_some

theorem fr_len {p : Int → Bool} : ∀ (n : Nat) (a : Int), (fr p a n).length ≤ n
  | 0, a => by simp [fr]
  | n + 1, a => by
    unfold fr
    have := fr_len (p := p) n (a + 1)
    split
    · simp; omega
    · omega
theorem From_len {p : Int → Bool} {a : Int} (h : 0 ≤ a) : (From p a).length ≤ 73049 := by
  unfold From
  have := fr_len (p := p) (73049 - a).toNat a
  omega

/-- the box of a rule -/
def RB (W : World) (B : Nat) (f : ByteArray) (e : Int) (sl : Value) (c u : Int) : Prop := W.heap[B]? = some (.cells #[.string f, .int .i64 e, sl, .int .i64 c, .int .i64 u] 41 (0, 0))

end Go.Proofs.YtekminpoiokgfaaGreatDoor

/- Package expand's Days for any start and rule: the function that it hands back gives them. -/
namespace Go.Proofs.YtekminpoiokgfaaGreatDoor
open Go Go.RowKit Go.Shelf Cal
attribute [local go_sem] Oper.semAt_some

/-- these are the days of a start and a rule -/
def IsDays (f : ByteArray) (e : Int) (ds : List Int) (c u s : Int) (xs : List Int) : Prop :=
  (Well (rd f e ds c u) ∧ 0 ≤ s ∧ s ≤ 73048 ∧ xs = cut c u (cds f.toList s e ds)) ∨ (¬ (Well (rd f e ds c u) ∧ 0 ≤ s ∧ s ≤ 73048) ∧ xs = [])
theorem cut_len (c u : Int) (l : List Int) : (cut c u l).length ≤ l.length := by
  have h : (cutU u l).length ≤ l.length := by
    unfold cutU
    split
    · exact (List.takeWhile_sublist _).length_le
    · exact Nat.le_refl _
  unfold cut
  split
  · exact Nat.le_trans (List.length_take_le' _ _) h
  · exact h
theorem IsDays.len {f : ByteArray} {e : Int} {ds : List Int} {c u s : Int} {xs : List Int} (h : IsDays f e ds c u s xs) : xs.length ≤ 73049 := by
  rcases h with ⟨_, h0, _, rfl⟩ | ⟨_, rfl⟩
  · exact Nat.le_trans (cut_len _ _ _) (From_len h0)
  · simp
theorem IsDays.rise {f : ByteArray} {e : Int} {ds : List Int} {c u s : Int} {xs : List Int} (h : IsDays f e ds c u s xs) : xs.Pairwise (· < ·) := by
  rcases h with ⟨_, _, _, rfl⟩ | ⟨_, rfl⟩
  · exact cut_rise (From_rise _ _)
  · exact List.Pairwise.nil

set_option maxHeartbeats 2000000 in
set_option maxRecDepth 100000 in
theorem cloneI_any (ds : List Int) (sl : Value) (w : World) (hd : Days w sl ds) :
    Calls Tryz.prog 48 #[sl] w fun r w' => ∃ v, r = .returned v ∧ Ow w.heap.size w' v ds ∧ Below w.heap.size w w' := by
  obtain ⟨a, cap, rfl, h20, hcap, hc⟩ := hd
  obtain ⟨i0, hi, hz0, hz1, hz2⟩ := info_parts info_int
  have q22 : ∀ (w : World) (a : Option Addr) (n c n' c' : Nat), (binOp .eql 39 (.slice a n c) (.slice none n' c')).run Tryz.prog w = .ok (.bool a.isNone) w := fun w a n c n' c' => Lib.run_eql_slice_nil w _ _ a n c n' c' Tryz.underlying39
  cases a with
  | none =>
    have h0 : ds = [] := by
      cases ds with
      | nil => rfl
      | cons x r => obtain ⟨b, e, _⟩ := hc 0 (by simp); cases e
    subst h0
    clear hc
    go_enter Tryz.func48, Tryz.ntmps48
    go_wp2
    go_ret
    exact ⟨_, rfl, Ow.nil _ _, Below.refl _ _⟩
  | some ad =>
    have HC : Hid (∀ j v, (ds.map (Value.int .i64))[j]? = some v → (w.alloc (.cells #[] 3)).cell? (ad.add j) = some v) := fun j v hv => by
      rw [List.getElem?_map] at hv
      obtain ⟨d, hd, rfl⟩ := Option.map_eq_some_iff.1 hv
      obtain ⟨hj, rfl⟩ := List.getElem?_eq_some_iff.1 hd
      obtain ⟨b, e, hl, hcc⟩ := hc j hj
      cases e
      rw [Addr.add_lit, Nat.zero_add]
      exact cell_alloc _ hcc
    clear hc
    go_enter Tryz.func48, Tryz.ntmps48
    go_wp2_with (at_builtin; refine wpList_append_own _ rfl _ _ 39 rfl w.heap.size 3 i0 (.int .i64 0) 1 8 Tryz.underlying39 hi hz0 hz1 hz2 rfl (by decide) _ _ _ rfl (World.ownsRow_made w #[] 0 (Nat.le_refl _) (Nat.zero_le _) rfl) ad ds.length cap (ds.map (Value.int .i64)) rfl (by simp) HC.out (fun v hv => by obtain ⟨x, _, rfl⟩ := List.mem_map.1 hv; rfl) (by unfold maxLen; omega) (by omega) (by simp) ?_; intro v' w1 hown hgrow _)
    have OW : Hid (Ow w.heap.size w1 v' ds) := by
      show World.ownsRow _ _ _ _ _ _ _
      simpa using hown
    have HB : Hid (Below w.heap.size w w1) := (below_alloc w (.cells #[] 3)).grown (show (w.alloc (.cells #[] 3)).grownBy w1 (Value.slice (some ⟨w.heap.size, 0, none⟩) 0 0).ownBlock from hgrow) (by simp) (fun k q => (World.ownsRow.lt (World.ownsRow_made (e := 3) (size := 1) w #[] 0 (Nat.le_refl _) (Nat.zero_le _) rfl) k q).1)
    obtain ⟨va, vc, rfl⟩ := ow_form OW.out
    clear hown hgrow HC
    go_wp2
    go_ret
    exact ⟨_, rfl, OW.out, HB.out⟩

/-- Days has handed back an iterator over boxes of its own -/
def Made (f : ByteArray) (e : Int) (ds : List Int) (c u s : Int) (n : Nat) (W : World) (sl : Value) : Prop :=
  Boxed W n 3 (.int .i64 s) ∧ RB W (n + 1) f e sl c u ∧ Ow (n + 2) W sl ds ∧ ds.length ≤ 20
theorem Made.step {f : ByteArray} {e : Int} {sl : Value} {c u : Int} {ds : List Int} {s : Int} {n : Nat} {W W' : World} (hm : Made f e ds c u s n W sl) (hb : Below W.heap.size W W') : Made f e ds c u s n W' sl :=
  ⟨(hb.block _ (Boxed.lt hm.1)).trans hm.1, (hb.block _ (Array.getElem?_eq_some_iff.1 hm.2.1).1).trans hm.2.1, Ow.step hm.2.2.1 hb, hm.2.2.2⟩
/-- the rule's days, as the iterator reads them, under steps that keep what lies behind its boxes -/
theorem Made.days {f : ByteArray} {e : Int} {sl : Value} {c u : Int} {ds : List Int} {s : Int} {n : Nat} {W W' : World} (hm : Made f e ds c u s n W sl) (hk : ∀ k, n + 2 ≤ k → k < W.heap.size → W'.heap[k]? = W.heap[k]?) : Days W' sl ds :=
  ow_days (Ow.steps hm.2.2.1 hk) hm.2.2.2

/-- a row of days whose block lies from lo on, below hi -/
def DaysIn (lo hi : Nat) (W : World) (sl : Value) (ds : List Int) : Prop :=
  ds.length ≤ 20 ∧ ∃ (a : Option Addr) (c : Nat), sl = .slice a ds.length c ∧ ds.length ≤ c ∧ (ds = [] ∨ ∃ (b : Nat) (cs : Array Value) (t : TypeId) (fr : Nat × Nat), a = some ⟨b, 0, none⟩ ∧ lo ≤ b ∧ b < hi ∧ W.heap[b]? = some (.cells cs t fr) ∧ ∀ (j : Nat) (h : j < ds.length), W.cell? ⟨b, j, none⟩ = some (.int .i64 ds[j]))
theorem DaysIn.days {lo hi : Nat} {W : World} {sl : Value} {ds : List Int} (h : DaysIn lo hi W sl ds) : Days W sl ds := by
  obtain ⟨h1, a, c, h2, h3, h4⟩ := h
  refine ⟨a, c, h2, h1, h3, fun j hj => ?_⟩
  rcases h4 with rfl | ⟨b, cs, t, fr, e, _, _, hb, hc⟩
  · exact absurd hj (by simp)
  · exact ⟨b, e, (Array.getElem?_eq_some_iff.1 hb).1, hc j hj⟩
theorem DaysIn.steps {lo hi : Nat} {W W' : World} {sl : Value} {ds : List Int} (h : DaysIn lo hi W sl ds) (hk : ∀ k, lo ≤ k → k < hi → k < W.heap.size → W'.heap[k]? = W.heap[k]?) : DaysIn lo hi W' sl ds := by
  obtain ⟨h1, a, c, h2, h3, h4⟩ := h
  refine ⟨h1, a, c, h2, h3, ?_⟩
  rcases h4 with h4 | ⟨b, cs, t, fr, e, p1, p2, hb, hc⟩
  · exact .inl h4
  · have hk' := hk b p1 p2 (Array.getElem?_eq_some_iff.1 hb).1
    exact .inr ⟨b, cs, t, fr, e, p1, p2, hk'.trans hb, fun j hj => (World.cell?_of_block (a := ⟨b, j, none⟩) hk').trans (hc j hj)⟩
theorem Made.row {f : ByteArray} {e : Int} {sl : Value} {c u : Int} {ds : List Int} {s : Int} {n : Nat} {W : World} (hm : Made f e ds c u s n W sl) : DaysIn (n + 2) W.heap.size W sl ds := by
  obtain ⟨_, _, h, h20⟩ := hm
  rcases h.2 with ⟨rfl, h0⟩ | ⟨g, cap, cur, rfl, hb, hg, hcap, hmax, hsz, htake⟩
  · exact ⟨h20, none, 0, by rw [h0], by omega, .inl (List.length_eq_zero_iff.1 h0)⟩
  · refine ⟨h20, _, cap, rfl, hcap, .inr ⟨g, cur, 3, (0, 0), rfl, hb, (Array.getElem?_eq_some_iff.1 hg).1, hg, fun j hj => ?_⟩⟩
    have := World.ownsRow.cellAt h j (by omega)
    rw [this, List.getElem?_map, List.getElem?_eq_getElem hj]; rfl
end Go.Proofs.YtekminpoiokgfaaGreatDoor

/- An event's eleven cells, all written; lists that lie elsewhere. -/
namespace Go.Proofs.YtekminpoiokgfaaGreatDoor
open Go Go.RowKit Cal

/-- the zero event -/
def zV : Value := .agg #[.string ⟨#[]⟩, .string ⟨#[]⟩, .int .i64 0, .int .i64 0, .string ⟨#[]⟩, .int .i64 0, .slice none 0 0, .int .i64 0, .int .i64 0, .slice none 0 0, .slice none 0 0]
/-- the rule's five cells within an event, all written -/
def put5 (W : World) (B : Nat) (r0 r1 r2 r3 r4 : Value) : World := (((((W.setCell ⟨B, 4, none⟩ r0).setCell ⟨B, 5, none⟩ r1).setCell ⟨B, 6, none⟩ r2).setCell ⟨B, 7, none⟩ r3).setCell ⟨B, 8, none⟩ r4)
theorem put5_fold (W : World) (B : Nat) (r0 r1 r2 r3 r4 : Value) : (((((W.setCell ⟨B, 4, none⟩ r0).setCell ⟨B, 5, none⟩ r1).setCell ⟨B, 6, none⟩ r2).setCell ⟨B, 7, none⟩ r3).setCell ⟨B, 8, none⟩ r4) = put5 W B r0 r1 r2 r3 r4 := rfl
theorem put5_grown (W : World) (B : Nat) (r0 r1 r2 r3 r4 : Value) : W.grownBy (put5 W B r0 r1 r2 r3 r4) (some B) := (grown_then (grown_then (grown_then (grown_then (grown_set _ ⟨B, 4, none⟩ _) (grown_set _ ⟨B, 5, none⟩ _)) (grown_set _ ⟨B, 6, none⟩ _)) (grown_set _ ⟨B, 7, none⟩ _)) (grown_set _ ⟨B, 8, none⟩ _))
theorem put5_blk {W : World} {B : Nat} {u0 u1 u2 u3 u4 u5 u6 u7 u8 u9 u10 : Value} {t : TypeId} {fr : Nat × Nat} (r0 r1 r2 r3 r4 : Value) (h : W.heap[B]? = some (.cells #[u0, u1, u2, u3, u4, u5, u6, u7, u8, u9, u10] t fr)) : (put5 W B r0 r1 r2 r3 r4).heap[B]? = some (.cells #[u0, u1, u2, u3, r0, r1, r2, r3, r4, u9, u10] t fr) :=
  set11_8 r4 (set11_7 r3 (set11_6 r2 (set11_5 r1 (set11_4 r0 h))))

/-- a list of numbers, not in blocks of N -/
def OffI (N : Nat → Prop) (W : World) (v : Value) (xs : List Int) : Prop :=
  ∃ (a : Option Addr) (c : Nat), v = .slice a xs.length c ∧ xs.length ≤ 60 ∧ xs.length ≤ c ∧ ∀ (j : Nat) (h : j < xs.length), ∃ b : Nat, a = some ⟨b, 0, none⟩ ∧ ¬ N b ∧ b < W.heap.size ∧ W.cell? ⟨b, j, none⟩ = some (.int .i64 xs[j])
def OffM (N : Nat → Prop) (W : World) (v : Value) (ms : List (Int × Int)) : Prop :=
  ∃ (a : Option Addr) (c : Nat), v = .slice a ms.length c ∧ ms.length ≤ 60 ∧ ms.length ≤ c ∧ ∀ (j : Nat) (h : j < ms.length), ∃ b : Nat, a = some ⟨b, 0, none⟩ ∧ ¬ N b ∧ b < W.heap.size ∧ W.cell? ⟨b, j * 2, none⟩ = some (.int .i64 ms[j].1) ∧ W.cell? ⟨b, j * 2 + 1, none⟩ = some (.int .i64 ms[j].2)
theorem OffI.grown {N : Nat → Prop} {B : Nat} {W W' : World} {v : Value} {xs : List Int} (h : OffI N W v xs) (hN : N B) (hg : W.grownBy W' (some B)) : OffI N W' v xs := by
  obtain ⟨a, c, h1, h2, h3, h4⟩ := h
  refine ⟨a, c, h1, h2, h3, fun j hj => ?_⟩
  obtain ⟨b, e, hb, hl, hc⟩ := h4 j hj
  exact ⟨b, e, hb, Nat.lt_of_lt_of_le hl hg.size, grown_cell hg hc (fun q => hb (q ▸ hN))⟩
theorem OffM.grown {N : Nat → Prop} {B : Nat} {W W' : World} {v : Value} {xs : List (Int × Int)} (h : OffM N W v xs) (hN : N B) (hg : W.grownBy W' (some B)) : OffM N W' v xs := by
  obtain ⟨a, c, h1, h2, h3, h4⟩ := h
  refine ⟨a, c, h1, h2, h3, fun j hj => ?_⟩
  obtain ⟨b, e, hb, hl, hc, hd⟩ := h4 j hj
  exact ⟨b, e, hb, Nat.lt_of_lt_of_le hl hg.size, grown_cell hg hc (fun q => hb (q ▸ hN)), grown_cell hg hd (fun q => hb (q ▸ hN))⟩
theorem OffI.ints {N : Nat → Prop} {W : World} {v : Value} {xs : List Int} (h : OffI N W v xs) : Ints W v xs := by
  obtain ⟨a, c, h1, h2, h3, h4⟩ := h
  refine ⟨a, c, h1, by omega, h3, fun j hj => ?_⟩
  obtain ⟨b, e, _, hl, hc⟩ := h4 j hj
  exact ⟨b, e, hl, hc⟩
theorem ints_days {W : World} {v : Value} {xs : List Int} (h : Ints W v xs) (h20 : xs.length ≤ 20) : Days W v xs := by
  obtain ⟨a, c, h1, h2, h3, h4⟩ := h
  exact ⟨a, c, h1, h20, h3, h4⟩
theorem days_ints {W : World} {v : Value} {xs : List Int} (h : Days W v xs) : Ints W v xs := by
  obtain ⟨a, c, h1, h2, h3, h4⟩ := h
  exact ⟨a, c, h1, by omega, h3, h4⟩
theorem OffM.movs {N : Nat → Prop} {W : World} {v : Value} {xs : List (Int × Int)} (h : OffM N W v xs) : Movs W v xs := by
  obtain ⟨a, c, h1, h2, h3, h4⟩ := h
  refine ⟨a, c, h1, by omega, h3, fun j hj => ?_⟩
  obtain ⟨b, e, _, hl, hc⟩ := h4 j hj
  exact ⟨b, e, hl, hc⟩
theorem OffI.nil (N : Nat → Prop) (W : World) (c : Nat) : OffI N W (.slice none 0 c) [] := ⟨none, c, rfl, by simp, by simp, fun j h => absurd h (by simp)⟩
theorem OffM.nil (N : Nat → Prop) (W : World) (c : Nat) : OffM N W (.slice none 0 c) [] := ⟨none, c, rfl, by simp, by simp, fun j h => absurd h (by simp)⟩
theorem ow_off {N : Nat → Prop} {base : Nat} {W : World} {v : Value} {xs : List Int} (h : Ow base W v xs) (hN : ∀ n, N n → n < base) (h30 : xs.length ≤ 60) : OffI N W v xs := by
  rcases h.2 with ⟨rfl, h0⟩ | ⟨g, cap, cur, rfl, hb, hg, hcap, hmax, hsz, htake⟩
  · rw [List.length_eq_zero_iff.1 h0]; exact OffI.nil N W 0
  · refine ⟨_, cap, rfl, h30, hcap, fun j hj => ⟨g, rfl, fun q => by have := hN g q; omega, (Array.getElem?_eq_some_iff.1 hg).1, ?_⟩⟩
    have := World.ownsRow.cellAt h j (by omega)
    rw [this, List.getElem?_map, List.getElem?_eq_getElem hj]; rfl
theorem owm_off {N : Nat → Prop} {base : Nat} {W : World} {v : Value} {xs : List (Int × Int)} (h : OwM base W v xs) (hN : ∀ n, N n → n < base) (h30 : xs.length ≤ 60) : OffM N W v xs := by
  rcases h.2 with ⟨rfl, h0⟩ | ⟨g, cap, cur, rfl, hb, hg, hcap, hmax, hsz, htake⟩
  · rw [List.length_eq_zero_iff.1 h0]; exact OffM.nil N W 0
  · refine ⟨_, cap, rfl, h30, hcap, fun j hj => ?_⟩
    obtain ⟨c1, c2⟩ := owm_cell hg htake j hj
    exact ⟨g, rfl, fun q => by have := hN g q; omega, (Array.getElem?_eq_some_iff.1 hg).1, c1, c2⟩
/-- an event's lists, not in blocks of N -/
structure Off (N : Nat → Prop) (W : World) (E : EV) (sl skv mvv : Value) : Prop where
  d : OffI N W sl E.ds
  s : OffI N W skv E.sk
  m : OffM N W mvv E.mv
theorem Off.grown {N : Nat → Prop} {B : Nat} {W W' : World} {E : EV} {sl skv mvv : Value} (h : Off N W E sl skv mvv) (hN : N B) (hg : W.grownBy W' (some B)) : Off N W' E sl skv mvv := ⟨h.d.grown hN hg, h.s.grown hN hg, h.m.grown hN hg⟩
end Go.Proofs.YtekminpoiokgfaaGreatDoor

/- slices.Clone of moves; package event's Copy. -/
namespace Go.Proofs.YtekminpoiokgfaaGreatDoor
open Go Go.RowKit Cal
attribute [local go_sem] Oper.semAt_some

set_option maxHeartbeats 2000000 in
set_option maxRecDepth 100000 in
theorem cloneM_any (ms : List (Int × Int)) (sl : Value) (w : World) (hd : Movs w sl ms) (h30 : ms.length ≤ 60) :
    Calls Tryz.prog 49 #[sl] w fun r w' => ∃ v, r = .returned v ∧ OwM w.heap.size w' v ms ∧ Below w.heap.size w w' := by
  obtain ⟨a, cap, rfl, _, hcap, hc⟩ := hd
  obtain ⟨i1, hi1, hy0, hy1, hy2⟩ := info_parts info_move
  have q22 : ∀ (w : World) (a : Option Addr) (n c n' c' : Nat), (binOp .eql 42 (.slice a n c) (.slice none n' c')).run Tryz.prog w = .ok (.bool a.isNone) w := fun w a n c n' c' => Lib.run_eql_slice_nil w _ _ a n c n' c' Tryz.underlying42
  cases a with
  | none =>
    have h0 : ms = [] := by
      cases ms with
      | nil => rfl
      | cons x r => obtain ⟨b, e, _⟩ := hc 0 (by simp); cases e
    subst h0
    clear hc
    go_enter Tryz.func49, Tryz.ntmps49
    go_wp2
    go_ret
    exact ⟨_, rfl, World.ownsRow_nil _ _ _ _, Below.refl _ _⟩
  | some ad =>
    have HC : Hid (∀ (j : Nat) (v : Value), (mcells ms)[j]? = some v → (w.alloc (.cells #[] 72)).cell? (ad.add j) = some v) := mcells_of ms (fun i u => (w.alloc (.cells #[] 72)).cell? (ad.add i) = some u) (fun j hj => by
      obtain ⟨b, e, hl, hcc, hcd⟩ := hc j hj
      cases e
      rw [Addr.add_lit, Addr.add_lit, Nat.zero_add, Nat.zero_add]
      exact ⟨cell_alloc _ hcc, cell_alloc _ hcd⟩)
    clear hc
    go_enter Tryz.func49, Tryz.ntmps49
    go_wp2_with (at_builtin; refine wpList_append_own _ rfl _ _ 42 rfl w.heap.size 72 i1 (.agg #[.int .i64 0, .int .i64 0]) 2 16 Tryz.underlying42 hi1 hy0 hy1 hy2 rfl (by decide) _ _ _ rfl (World.ownsRow_made w #[] 0 (Nat.le_refl _) (Nat.zero_le _) rfl) ad ms.length cap (mcells ms) rfl (mcells_len ms) HC.out (mcells_one ms) (by unfold maxLen; omega) (by omega) (by simp) ?_; intro v' w1 hown hgrow _)
    have OW : Hid (OwM w.heap.size w1 v' ms) := by
      show World.ownsRow _ _ _ _ _ _ _
      simpa using hown
    have HB : Hid (Below w.heap.size w w1) := (below_alloc w (.cells #[] 72)).grown (show (w.alloc (.cells #[] 72)).grownBy w1 (Value.slice (some ⟨w.heap.size, 0, none⟩) 0 0).ownBlock from hgrow) (by simp) (fun k q => (World.ownsRow.lt (World.ownsRow_made (e := 72) (size := 2) w #[] 0 (Nat.le_refl _) (Nat.zero_le _) rfl) k q).1)
    obtain ⟨va, vc, rfl⟩ := gotM_form (owm_movs OW.out (by omega)).2
    clear hown hgrow HC
    go_wp2
    go_ret
    exact ⟨_, rfl, OW.out, HB.out⟩

/-- an event's lists, to read -/
structure Ls (W : World) (E : EV) (sl skv mvv : Value) : Prop where
  d : Days W sl E.ds
  s : Ints W skv E.sk
  m : Movs W mvv E.mv
theorem Ls.step {W W' : World} {E : EV} {sl skv mvv : Value} (h : Ls W E sl skv mvv) (hb : Below W.heap.size W W') : Ls W' E sl skv mvv := ⟨h.d.step hb, h.s.step hb, h.m.step hb⟩

set_option maxHeartbeats 4000000 in
set_option maxRecDepth 100000 in
theorem copy_any (E : EV) (sl skv mvv : Value) (w : World) (hL : Ls w E sl skv mvv) (k20 : E.sk.length ≤ 20) (m20 : E.mv.length ≤ 20) :
    Calls Tryz.prog 27 #[ev E sl skv mvv] w fun r w' => ∃ sl' skv' mvv', r = .returned (ev E sl' skv' mvv') ∧ Ow w.heap.size w' sl' E.ds ∧ Ow w.heap.size w' skv' E.sk ∧ OwM w.heap.size w' mvv' E.mv ∧ Below w.heap.size w w' := by
  obtain ⟨hd, hs, hm⟩ := hL
  have h20 : E.ds.length ≤ 20 := by obtain ⟨_, _, _, h, _⟩ := hd; exact h
  have HD : Hid (Days w sl E.ds) := hd
  have HS : Hid (Ints w skv E.sk) := hs
  have HM : Hid (Movs w mvv E.mv) := hm
  obtain ⟨ra, rc, rfl, _⟩ := hd
  obtain ⟨sa, sc, rfl, _⟩ := hs
  obtain ⟨ma, mc, rfl, _⟩ := hm
  obtain ⟨idn, ti, st, lg, f, e, ds, c, u, sk, mv⟩ := E
  unfold ev
  dsimp only at *
  have hA := below_box2 w (.cells #[.string idn, .string ti, .int .i64 st, .int .i64 lg, .string f, .int .i64 e, .slice ra ds.length rc, .int .i64 c, .int .i64 u, .slice sa sk.length sc, .slice ma mv.length mc] 44) (.cells #[.string ⟨#[]⟩, .string ⟨#[]⟩, .int .i64 0, .int .i64 0, .string ⟨#[]⟩, .int .i64 0, .slice none 0 0, .int .i64 0, .int .i64 0, .slice none 0 0, .slice none 0 0] 44)
  have k0 : ((w.alloc (.cells #[.string idn, .string ti, .int .i64 st, .int .i64 lg, .string f, .int .i64 e, .slice ra ds.length rc, .int .i64 c, .int .i64 u, .slice sa sk.length sc, .slice ma mv.length mc] 44)).alloc (.cells #[.string ⟨#[]⟩, .string ⟨#[]⟩, .int .i64 0, .int .i64 0, .string ⟨#[]⟩, .int .i64 0, .slice none 0 0, .int .i64 0, .int .i64 0, .slice none 0 0, .slice none 0 0] 44)).heap[w.heap.size]? = some (.cells #[.string idn, .string ti, .int .i64 st, .int .i64 lg, .string f, .int .i64 e, .slice ra ds.length rc, .int .i64 c, .int .i64 u, .slice sa sk.length sc, .slice ma mv.length mc] 44 (0, 0)) := block_alloc _ (block_at _ rfl)
  have k1 : ((w.alloc (.cells #[.string idn, .string ti, .int .i64 st, .int .i64 lg, .string f, .int .i64 e, .slice ra ds.length rc, .int .i64 c, .int .i64 u, .slice sa sk.length sc, .slice ma mv.length mc] 44)).alloc (.cells #[.string ⟨#[]⟩, .string ⟨#[]⟩, .int .i64 0, .int .i64 0, .string ⟨#[]⟩, .int .i64 0, .slice none 0 0, .int .i64 0, .int .i64 0, .slice none 0 0, .slice none 0 0] 44)).heap[w.heap.size + 1]? = some (.cells #[.string ⟨#[]⟩, .string ⟨#[]⟩, .int .i64 0, .int .i64 0, .string ⟨#[]⟩, .int .i64 0, .slice none 0 0, .int .i64 0, .int .i64 0, .slice none 0 0, .slice none 0 0] 44 (0, 0)) := block_at _ (by simp)
  have hz : ((w.alloc (.cells #[.string idn, .string ti, .int .i64 st, .int .i64 lg, .string f, .int .i64 e, .slice ra ds.length rc, .int .i64 c, .int .i64 u, .slice sa sk.length sc, .slice ma mv.length mc] 44)).alloc (.cells #[.string ⟨#[]⟩, .string ⟨#[]⟩, .int .i64 0, .int .i64 0, .string ⟨#[]⟩, .int .i64 0, .slice none 0 0, .int .i64 0, .int .i64 0, .slice none 0 0, .slice none 0 0] 44)).heap.size = w.heap.size + 2 := by simp
  have C1 := cloneI_any ds _ _ (HD.out.step hA)
  have HA : Hid (_) := hA
  have HZ : Hid (_) := hz
  clear hA hz
  generalize hw0 : (w.alloc (.cells #[.string idn, .string ti, .int .i64 st, .int .i64 lg, .string f, .int .i64 e, .slice ra ds.length rc, .int .i64 c, .int .i64 u, .slice sa sk.length sc, .slice ma mv.length mc] 44)).alloc (.cells #[.string ⟨#[]⟩, .string ⟨#[]⟩, .int .i64 0, .int .i64 0, .string ⟨#[]⟩, .int .i64 0, .slice none 0 0, .int .i64 0, .int .i64 0, .slice none 0 0, .slice none 0 0] 44) = w0 at HA k0 k1 HZ C1
  have KA : Hid (w0.heap[w.heap.size]? = some (.cells #[.string idn, .string ti, .int .i64 st, .int .i64 lg, .string f, .int .i64 e, .slice ra ds.length rc, .int .i64 c, .int .i64 u, .slice sa sk.length sc, .slice ma mv.length mc] 44 (0, 0))) := k0
  have KB : Hid (w0.heap[w.heap.size + 1]? = some (.cells #[.string ⟨#[]⟩, .string ⟨#[]⟩, .int .i64 0, .int .i64 0, .string ⟨#[]⟩, .int .i64 0, .slice none 0 0, .int .i64 0, .int .i64 0, .slice none 0 0, .slice none 0 0] 44 (0, 0))) := k1
  obtain ⟨x0, x1, x2, x3, x4, x5, x6, x7, x8, x9, x10⟩ := blk11 k0
  clear k0 k1
  have HC1 : Hid (Calls _ _ _ _ _) := C1
  clear C1
  go_enter Tryz.func27, Tryz.ntmps27
  go_upto_region 2 with (go_at_call 48; refine Calls.mono HC1.out ?_; rintro r w1 ⟨v1, rfl, ho1, hb1⟩; obtain ⟨ra1, rc1, rfl⟩ := ow_form ho1; have ka : w1.heap[w.heap.size]? = some (.cells #[.string idn, .string ti, .int .i64 st, .int .i64 lg, .string f, .int .i64 e, .slice ra ds.length rc, .int .i64 c, .int .i64 u, .slice sa sk.length sc, .slice ma mv.length mc] 44 (0, 0)) := (hb1.block _ (by rw [HZ.out]; omega)).trans KA.out; have z := blk11_frozen ka 6; obtain ⟨y0, y1, y2, y3, y4, y5, y6, y7, y8, y9, y10⟩ := blk11 ka; have KA1 : Hid (_) := ka; clear ka x0 x1 x2 x3 x4 x5 x6 x7 x8 x9 x10)
  have hs1 := hb1.size
  rw [HZ.out] at hs1 ho1
  have KA2 : Hid ((w1.setCell ⟨w.heap.size, 6, none⟩ (.slice ra1 ds.length rc1)).heap[w.heap.size]? = some (.cells #[.string idn, .string ti, .int .i64 st, .int .i64 lg, .string f, .int .i64 e, .slice ra1 ds.length rc1, .int .i64 c, .int .i64 u, .slice sa sk.length sc, .slice ma mv.length mc] 44 (0, 0))) := set11_6 (.slice ra1 ds.length rc1) KA1.out
  have g2 : w1.grownBy (w1.setCell ⟨w.heap.size, 6, none⟩ (.slice ra1 ds.length rc1)) (some (w.heap.size)) := grown_set w1 ⟨w.heap.size, 6, none⟩ (.slice ra1 ds.length rc1)
  have KB2 : Hid ((w1.setCell ⟨w.heap.size, 6, none⟩ (.slice ra1 ds.length rc1)).heap[w.heap.size + 1]? = some (.cells #[.string ⟨#[]⟩, .string ⟨#[]⟩, .int .i64 0, .int .i64 0, .string ⟨#[]⟩, .int .i64 0, .slice none 0 0, .int .i64 0, .int .i64 0, .slice none 0 0, .slice none 0 0] 44 (0, 0))) := (g2.block _ (by omega) (fun q => by have q' : w.heap.size + 1 = w.heap.size := Option.some.inj q; omega)).trans ((hb1.block _ (by rw [HZ.out]; omega)).trans KB.out)
  have O2 : Hid (Ow (w.heap.size + 2) (w1.setCell ⟨w.heap.size, 6, none⟩ (.slice ra1 ds.length rc1)) (.slice ra1 ds.length rc1) ds) := Ow.grown ho1 g2 (by omega)
  have B2 : Hid (Below w.heap.size w (w1.setCell ⟨w.heap.size, 6, none⟩ (.slice ra1 ds.length rc1))) := (below_then HA.out hb1).grown g2 (by omega) (fun k q => by cases q; exact Nat.le_refl _)
  have hs2 : w.heap.size + 2 ≤ (w1.setCell ⟨w.heap.size, 6, none⟩ (.slice ra1 ds.length rc1)).heap.size := Nat.le_trans hs1 g2.size
  clear KA1 KA KB HA hb1 ho1 g2 y0 y1 y2 y3 y4 y5 y6 y7 y8 y9 y10 z hs1 HZ HC1
  generalize w1.setCell ⟨w.heap.size, 6, none⟩ (.slice ra1 ds.length rc1) = w2 at KA2 KB2 O2 B2 hs2 ⊢
  have HC2 : Hid (Calls _ _ _ _ _) := cloneI_any sk _ w2 (ints_days (HS.out.step B2.out) k20)
  obtain ⟨x0, x1, x2, x3, x4, x5, x6, x7, x8, x9, x10⟩ := blk11 KA2.out
  go_upto_region 3 with (go_at_call 48; refine Calls.mono HC2.out ?_; rintro r w3 ⟨v3, rfl, ho3, hb3⟩; obtain ⟨sa1, sc1, rfl⟩ := ow_form ho3; have ka : w3.heap[w.heap.size]? = some (.cells #[.string idn, .string ti, .int .i64 st, .int .i64 lg, .string f, .int .i64 e, .slice ra1 ds.length rc1, .int .i64 c, .int .i64 u, .slice sa sk.length sc, .slice ma mv.length mc] 44 (0, 0)) := (hb3.block _ (by omega)).trans KA2.out; have z := blk11_frozen ka 9; obtain ⟨y0, y1, y2, y3, y4, y5, y6, y7, y8, y9, y10⟩ := blk11 ka; have KA3 : Hid (_) := ka; clear ka x0 x1 x2 x3 x4 x5 x6 x7 x8 x9 x10)
  have hs3 := hb3.size
  have KA4 : Hid ((w3.setCell ⟨w.heap.size, 9, none⟩ (.slice sa1 sk.length sc1)).heap[w.heap.size]? = some (.cells #[.string idn, .string ti, .int .i64 st, .int .i64 lg, .string f, .int .i64 e, .slice ra1 ds.length rc1, .int .i64 c, .int .i64 u, .slice sa1 sk.length sc1, .slice ma mv.length mc] 44 (0, 0))) := set11_9 (.slice sa1 sk.length sc1) KA3.out
  have g4 : w3.grownBy (w3.setCell ⟨w.heap.size, 9, none⟩ (.slice sa1 sk.length sc1)) (some (w.heap.size)) := grown_set w3 ⟨w.heap.size, 9, none⟩ (.slice sa1 sk.length sc1)
  have KB4 : Hid ((w3.setCell ⟨w.heap.size, 9, none⟩ (.slice sa1 sk.length sc1)).heap[w.heap.size + 1]? = some (.cells #[.string ⟨#[]⟩, .string ⟨#[]⟩, .int .i64 0, .int .i64 0, .string ⟨#[]⟩, .int .i64 0, .slice none 0 0, .int .i64 0, .int .i64 0, .slice none 0 0, .slice none 0 0] 44 (0, 0))) := (g4.block _ (by omega) (fun q => by have q' : w.heap.size + 1 = w.heap.size := Option.some.inj q; omega)).trans ((hb3.block _ (by omega)).trans KB2.out)
  have O4 : Hid (Ow (w.heap.size + 2) (w3.setCell ⟨w.heap.size, 9, none⟩ (.slice sa1 sk.length sc1)) (.slice ra1 ds.length rc1) ds) := Ow.grown (Ow.step O2.out hb3) g4 (by omega)
  have P4 : Hid (Ow (w.heap.size + 2) (w3.setCell ⟨w.heap.size, 9, none⟩ (.slice sa1 sk.length sc1)) (.slice sa1 sk.length sc1) sk) := Ow.grown (own_base ho3 hs2) g4 (by omega)
  have B4 : Hid (Below w.heap.size w (w3.setCell ⟨w.heap.size, 9, none⟩ (.slice sa1 sk.length sc1))) := (below_then B2.out hb3).grown g4 (by omega) (fun k q => by cases q; exact Nat.le_refl _)
  have hs4 : w.heap.size + 2 ≤ (w3.setCell ⟨w.heap.size, 9, none⟩ (.slice sa1 sk.length sc1)).heap.size := Nat.le_trans (Nat.le_trans hs2 hs3) g4.size
  clear KA3 KA2 KB2 O2 B2 hb3 ho3 g4 y0 y1 y2 y3 y4 y5 y6 y7 y8 y9 y10 z hs3 hs2 HC2
  generalize w3.setCell ⟨w.heap.size, 9, none⟩ (.slice sa1 sk.length sc1) = w4 at KA4 KB4 O4 P4 B4 hs4 ⊢
  have HC3 : Hid (Calls _ _ _ _ _) := cloneM_any mv _ w4 (HM.out.step B4.out) (by omega)
  obtain ⟨x0, x1, x2, x3, x4, x5, x6, x7, x8, x9, x10⟩ := blk11 KA4.out
  go_upto_region 4 with (go_at_call 49; refine Calls.mono HC3.out ?_; rintro r w5 ⟨v5, rfl, ho5, hb5⟩; obtain ⟨ma1, mc1, rfl⟩ := gotM_form (owm_movs ho5 (by omega)).2; have ka : w5.heap[w.heap.size]? = some (.cells #[.string idn, .string ti, .int .i64 st, .int .i64 lg, .string f, .int .i64 e, .slice ra1 ds.length rc1, .int .i64 c, .int .i64 u, .slice sa1 sk.length sc1, .slice ma mv.length mc] 44 (0, 0)) := (hb5.block _ (by omega)).trans KA4.out; have z := blk11_frozen ka 10; obtain ⟨y0, y1, y2, y3, y4, y5, y6, y7, y8, y9, y10⟩ := blk11 ka; have KA5 : Hid (_) := ka; clear ka x0 x1 x2 x3 x4 x5 x6 x7 x8 x9 x10)
  have hs5 := hb5.size
  have KA6 : Hid ((w5.setCell ⟨w.heap.size, 10, none⟩ (.slice ma1 mv.length mc1)).heap[w.heap.size]? = some (.cells #[.string idn, .string ti, .int .i64 st, .int .i64 lg, .string f, .int .i64 e, .slice ra1 ds.length rc1, .int .i64 c, .int .i64 u, .slice sa1 sk.length sc1, .slice ma1 mv.length mc1] 44 (0, 0))) := set11_10 (.slice ma1 mv.length mc1) KA5.out
  have g6 : w5.grownBy (w5.setCell ⟨w.heap.size, 10, none⟩ (.slice ma1 mv.length mc1)) (some (w.heap.size)) := grown_set w5 ⟨w.heap.size, 10, none⟩ (.slice ma1 mv.length mc1)
  have KB6 : Hid ((w5.setCell ⟨w.heap.size, 10, none⟩ (.slice ma1 mv.length mc1)).heap[w.heap.size + 1]? = some (.cells #[.string ⟨#[]⟩, .string ⟨#[]⟩, .int .i64 0, .int .i64 0, .string ⟨#[]⟩, .int .i64 0, .slice none 0 0, .int .i64 0, .int .i64 0, .slice none 0 0, .slice none 0 0] 44 (0, 0))) := (g6.block _ (by omega) (fun q => by have q' : w.heap.size + 1 = w.heap.size := Option.some.inj q; omega)).trans ((hb5.block _ (by omega)).trans KB4.out)
  have O6 : Hid (Ow (w.heap.size + 2) (w5.setCell ⟨w.heap.size, 10, none⟩ (.slice ma1 mv.length mc1)) (.slice ra1 ds.length rc1) ds) := Ow.grown (Ow.step O4.out hb5) g6 (by omega)
  have P6 : Hid (Ow (w.heap.size + 2) (w5.setCell ⟨w.heap.size, 10, none⟩ (.slice ma1 mv.length mc1)) (.slice sa1 sk.length sc1) sk) := Ow.grown (Ow.step P4.out hb5) g6 (by omega)
  have Q6 : Hid (OwM (w.heap.size + 2) (w5.setCell ⟨w.heap.size, 10, none⟩ (.slice ma1 mv.length mc1)) (.slice ma1 mv.length mc1) mv) := OwM.grown (own_base ho5 hs4) g6 (by omega)
  have B6 : Hid (Below w.heap.size w (w5.setCell ⟨w.heap.size, 10, none⟩ (.slice ma1 mv.length mc1))) := (below_then B4.out hb5).grown g6 (by omega) (fun k q => by cases q; exact Nat.le_refl _)
  have hs6 : w.heap.size + 2 ≤ (w5.setCell ⟨w.heap.size, 10, none⟩ (.slice ma1 mv.length mc1)).heap.size := Nat.le_trans (Nat.le_trans hs4 hs5) g6.size
  clear KA5 KA4 KB4 O4 P4 B4 hb5 ho5 g6 y0 y1 y2 y3 y4 y5 y6 y7 y8 y9 y10 z hs5 hs4 HC3
  generalize w5.setCell ⟨w.heap.size, 10, none⟩ (.slice ma1 mv.length mc1) = w6 at KA6 KB6 O6 P6 Q6 B6 hs6 ⊢
  obtain ⟨x0, x1, x2, x3, x4, x5, x6, x7, x8, x9, x10⟩ := blk11 KA6.out
  have f0 := blk11_frozen KB6.out 0
  have f1 := blk11_frozen KB6.out 1
  have f2 := blk11_frozen KB6.out 2
  have f3 := blk11_frozen KB6.out 3
  have f4 := blk11_frozen KB6.out 4
  have f5 := blk11_frozen KB6.out 5
  have f6 := blk11_frozen KB6.out 6
  have f7 := blk11_frozen KB6.out 7
  have f8 := blk11_frozen KB6.out 8
  have f9 := blk11_frozen KB6.out 9
  have f10 := blk11_frozen KB6.out 10
  obtain ⟨t0, t1, t2, t3, t4, t5, t6, t7, t8, t9, t10⟩ := blk11 KB6.out
  go_wp2
  rw [put11_fold]
  have n10 := put11_blk (.string idn) (.string ti) (.int .i64 st) (.int .i64 lg) (.string f) (.int .i64 e) (.slice ra1 ds.length rc1) (.int .i64 c) (.int .i64 u) (.slice sa1 sk.length sc1) (.slice ma1 mv.length mc1) KB6.out
  have g7 := put11_grown w6 (w.heap.size + 1) (.string idn) (.string ti) (.int .i64 st) (.int .i64 lg) (.string f) (.int .i64 e) (.slice ra1 ds.length rc1) (.int .i64 c) (.int .i64 u) (.slice sa1 sk.length sc1) (.slice ma1 mv.length mc1)
  clear x0 x1 x2 x3 x4 x5 x6 x7 x8 x9 x10 t0 t1 t2 t3 t4 t5 t6 t7 t8 t9 t10 f0 f1 f2 f3 f4 f5 f6 f7 f8 f9 f10
  generalize put11 w6 (w.heap.size + 1) (.string idn) (.string ti) (.int .i64 st) (.int .i64 lg) (.string f) (.int .i64 e) (.slice ra1 ds.length rc1) (.int .i64 c) (.int .i64 u) (.slice sa1 sk.length sc1) (.slice ma1 mv.length mc1) = w7 at n10 g7 ⊢
  obtain ⟨c0, c1, c2, c3, c4, c5, c6, c7, c8, c9, c10⟩ := blk11 n10
  have o1 := Ow.grown O6.out g7 (by omega)
  have o2 := Ow.grown P6.out g7 (by omega)
  have o3 := OwM.grown Q6.out g7 (by omega)
  refine bodyPost_ret (v := .agg #[.string idn, .string ti, .int .i64 st, .int .i64 lg, .string f, .int .i64 e, .slice ra1 ds.length rc1, .int .i64 c, .int .i64 u, .slice sa1 sk.length sc1, .slice ma1 mv.length mc1]) (by simp [results, Tryz.f27, go_sem, c0, c1, c2, c3, c4, c5, c6, c7, c8, c9, c10]) rfl ⟨_, _, _, rfl, own_base o1 (by omega), own_base o2 (by omega), own_base o3 (by omega), B6.out.grown g7 (by omega) (fun k q => by cases q; omega)⟩
end Go.Proofs.YtekminpoiokgfaaGreatDoor
