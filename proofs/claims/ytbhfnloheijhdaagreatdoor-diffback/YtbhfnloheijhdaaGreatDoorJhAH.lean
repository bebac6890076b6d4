/- The days of a start and a rule: the iterator that package expand's days hands back gives just those that a count and an end leave of the candidates; none where one of the two is not well. -/
import Derived.Test.YtbhfnloheijhdaaGreatDoorJhAC
import Derived.Test.YtbhfnloheijhdaaGreatDoorJhAB
import Derived.Lib.SliceRun
import Derived.Test.YtbhfnloheijhdaaGreatDoorEvL2T
namespace Go.Proofs.YtbhfnloheijhdaaGreatDoor
open Go Go.RowKit Go.Shelf Cal
attribute [local go_sem] Oper.semAt_some

theorem fr_len {p : Int → Bool} : ∀ (n : Nat) (a : Int), (fr p a n).length ≤ n
  | 0, a => by simp [fr]
  | n + 1, a => by
    unfold fr
    have := fr_len (p := p) n (a + 1)
    split
    · simp; omega
    · omega
theorem From_len {p : Int → Bool} {a : Int} (h : 0 ≤ a) : (From p a).length ≤ 73049 := by
  unfold From
  have := fr_len (p := p) (73049 - a).toNat a
  omega

/-- the box of a rule -/
def RB (W : World) (B : Nat) (f : ByteArray) (e : Int) (sl : Value) (c u : Int) : Prop := W.heap[B]? = some (.cells #[.string f, .int .i64 e, sl, .int .i64 c, .int .i64 u] 24 (0, 0))

end Go.Proofs.YtbhfnloheijhdaaGreatDoor

/- Package expand's Days for any start and rule: the function that it hands back gives them. -/
namespace Go.Proofs.YtbhfnloheijhdaaGreatDoor
open Go Go.RowKit Go.Shelf Cal
attribute [local go_sem] Oper.semAt_some

/-- these are the days of a start and a rule -/
def IsDays (f : ByteArray) (e : Int) (ds : List Int) (c u s : Int) (xs : List Int) : Prop :=
  (Well (rd f e ds c u) ∧ 0 ≤ s ∧ s ≤ 73048 ∧ xs = cut c u (cds f.toList s e ds)) ∨ (¬ (Well (rd f e ds c u) ∧ 0 ≤ s ∧ s ≤ 73048) ∧ xs = [])
theorem cut_len (c u : Int) (l : List Int) : (cut c u l).length ≤ l.length := by
  have h : (cutU u l).length ≤ l.length := by
    unfold cutU
    split
    · exact (List.takeWhile_sublist _).length_le
    · exact Nat.le_refl _
  unfold cut
  split
  · exact Nat.le_trans (List.length_take_le' _ _) h
  · exact h
theorem IsDays.len {f : ByteArray} {e : Int} {ds : List Int} {c u s : Int} {xs : List Int} (h : IsDays f e ds c u s xs) : xs.length ≤ 73049 := by
  rcases h with ⟨_, h0, _, rfl⟩ | ⟨_, rfl⟩
  · exact Nat.le_trans (cut_len _ _ _) (From_len h0)
  · simp
theorem IsDays.rise {f : ByteArray} {e : Int} {ds : List Int} {c u s : Int} {xs : List Int} (h : IsDays f e ds c u s xs) : xs.Pairwise (· < ·) := by
  rcases h with ⟨_, _, _, rfl⟩ | ⟨_, rfl⟩
  · exact cut_rise (From_rise _ _)
  · exact List.Pairwise.nil

set_option maxHeartbeats 2000000 in
set_option maxRecDepth 100000 in
theorem cloneI_any (ds : List Int) (sl : Value) (w : World) (hd : Days w sl ds) :
    Calls Tryz.prog 93 #[sl] w fun r w' => ∃ v, r = .returned v ∧ Ow w.heap.size w' v ds ∧ Below w.heap.size w w' := by
  obtain ⟨a, cap, rfl, h20, hcap, hc⟩ := hd
  obtain ⟨i0, hi, hz0, hz1, hz2⟩ := info_parts info_int
  have q22 : ∀ (w : World) (a : Option Addr) (n c n' c' : Nat), (binOp .eql 22 (.slice a n c) (.slice none n' c')).run Tryz.prog w = .ok (.bool a.isNone) w := fun w a n c n' c' => Lib.run_eql_slice_nil w _ _ a n c n' c' Tryz.underlying22
  cases a with
  | none =>
    have h0 : ds = [] := by
      cases ds with
      | nil => rfl
      | cons x r => obtain ⟨b, e, _⟩ := hc 0 (by simp); cases e
    subst h0
    clear hc
    go_enter Tryz.func93, Tryz.ntmps93
    go_wp2
    go_ret
    exact ⟨_, rfl, Ow.nil _ _, Below.refl _ _⟩
  | some ad =>
    have HC : Hid (∀ j v, (ds.map (Value.int .i64))[j]? = some v → (w.alloc (.cells #[] 3)).cell? (ad.add j) = some v) := fun j v hv => by
      rw [List.getElem?_map] at hv
      obtain ⟨d, hd, rfl⟩ := Option.map_eq_some_iff.1 hv
      obtain ⟨hj, rfl⟩ := List.getElem?_eq_some_iff.1 hd
      obtain ⟨b, e, hl, hcc⟩ := hc j hj
      cases e
      rw [Addr.add_lit, Nat.zero_add]
      exact cell_alloc _ hcc
    clear hc
    go_enter Tryz.func93, Tryz.ntmps93
    go_wp2_with (at_builtin; refine wpList_append_own _ rfl _ _ 22 rfl w.heap.size 3 i0 (.int .i64 0) 1 8 Tryz.underlying22 hi hz0 hz1 hz2 rfl (by decide) _ _ _ rfl (World.ownsRow_made w #[] 0 (Nat.le_refl _) (Nat.zero_le _) rfl) ad ds.length cap (ds.map (Value.int .i64)) rfl (by simp) HC.out (fun v hv => by obtain ⟨x, _, rfl⟩ := List.mem_map.1 hv; rfl) (by unfold maxLen; omega) (by omega) (by simp) ?_; intro v' w1 hown hgrow _)
    have OW : Hid (Ow w.heap.size w1 v' ds) := by
      show World.ownsRow _ _ _ _ _ _ _
      simpa using hown
    have HB : Hid (Below w.heap.size w w1) := (below_alloc w (.cells #[] 3)).grown (show (w.alloc (.cells #[] 3)).grownBy w1 (Value.slice (some ⟨w.heap.size, 0, none⟩) 0 0).ownBlock from hgrow) (by simp) (fun k q => (World.ownsRow.lt (World.ownsRow_made (e := 3) (size := 1) w #[] 0 (Nat.le_refl _) (Nat.zero_le _) rfl) k q).1)
    obtain ⟨va, vc, rfl⟩ := ow_form OW.out
    clear hown hgrow HC
    go_wp2
    go_ret
    exact ⟨_, rfl, OW.out, HB.out⟩

/-- Days has handed back an iterator over boxes of its own -/
def Made (f : ByteArray) (e : Int) (ds : List Int) (c u s : Int) (n : Nat) (W : World) (sl : Value) : Prop :=
  Boxed W n 3 (.int .i64 s) ∧ RB W (n + 1) f e sl c u ∧ Ow (n + 2) W sl ds ∧ ds.length ≤ 20
theorem Made.step {f : ByteArray} {e : Int} {sl : Value} {c u : Int} {ds : List Int} {s : Int} {n : Nat} {W W' : World} (hm : Made f e ds c u s n W sl) (hb : Below W.heap.size W W') : Made f e ds c u s n W' sl :=
  ⟨(hb.block _ (Boxed.lt hm.1)).trans hm.1, (hb.block _ (Array.getElem?_eq_some_iff.1 hm.2.1).1).trans hm.2.1, Ow.step hm.2.2.1 hb, hm.2.2.2⟩
/-- the rule's days, as the iterator reads them, under steps that keep what lies behind its boxes -/
theorem Made.days {f : ByteArray} {e : Int} {sl : Value} {c u : Int} {ds : List Int} {s : Int} {n : Nat} {W W' : World} (hm : Made f e ds c u s n W sl) (hk : ∀ k, n + 2 ≤ k → k < W.heap.size → W'.heap[k]? = W.heap[k]?) : Days W' sl ds :=
  ow_days (Ow.steps hm.2.2.1 hk) hm.2.2.2

/-- a row of days whose block lies from lo on, below hi -/
def DaysIn (lo hi : Nat) (W : World) (sl : Value) (ds : List Int) : Prop :=
  ds.length ≤ 20 ∧ ∃ (a : Option Addr) (c : Nat), sl = .slice a ds.length c ∧ ds.length ≤ c ∧ (ds = [] ∨ ∃ (b : Nat) (cs : Array Value) (t : TypeId) (fr : Nat × Nat), a = some ⟨b, 0, none⟩ ∧ lo ≤ b ∧ b < hi ∧ W.heap[b]? = some (.cells cs t fr) ∧ ∀ (j : Nat) (h : j < ds.length), W.cell? ⟨b, j, none⟩ = some (.int .i64 ds[j]))
theorem DaysIn.days {lo hi : Nat} {W : World} {sl : Value} {ds : List Int} (h : DaysIn lo hi W sl ds) : Days W sl ds := by
  obtain ⟨h1, a, c, h2, h3, h4⟩ := h
  refine ⟨a, c, h2, h1, h3, fun j hj => ?_⟩
  rcases h4 with rfl | ⟨b, cs, t, fr, e, _, _, hb, hc⟩
  · exact absurd hj (by simp)
  · exact ⟨b, e, (Array.getElem?_eq_some_iff.1 hb).1, hc j hj⟩
theorem DaysIn.steps {lo hi : Nat} {W W' : World} {sl : Value} {ds : List Int} (h : DaysIn lo hi W sl ds) (hk : ∀ k, lo ≤ k → k < hi → k < W.heap.size → W'.heap[k]? = W.heap[k]?) : DaysIn lo hi W' sl ds := by
  obtain ⟨h1, a, c, h2, h3, h4⟩ := h
  refine ⟨h1, a, c, h2, h3, ?_⟩
  rcases h4 with h4 | ⟨b, cs, t, fr, e, p1, p2, hb, hc⟩
  · exact .inl h4
  · have hk' := hk b p1 p2 (Array.getElem?_eq_some_iff.1 hb).1
    exact .inr ⟨b, cs, t, fr, e, p1, p2, hk'.trans hb, fun j hj => (World.cell?_of_block (a := ⟨b, j, none⟩) hk').trans (hc j hj)⟩
theorem Made.row {f : ByteArray} {e : Int} {sl : Value} {c u : Int} {ds : List Int} {s : Int} {n : Nat} {W : World} (hm : Made f e ds c u s n W sl) : DaysIn (n + 2) W.heap.size W sl ds := by
  obtain ⟨_, _, h, h20⟩ := hm
  rcases h.2 with ⟨rfl, h0⟩ | ⟨g, cap, cur, rfl, hb, hg, hcap, hmax, hsz, htake⟩
  · exact ⟨h20, none, 0, by rw [h0], by omega, .inl (List.length_eq_zero_iff.1 h0)⟩
  · refine ⟨h20, _, cap, rfl, hcap, .inr ⟨g, cur, 3, (0, 0), rfl, hb, (Array.getElem?_eq_some_iff.1 hg).1, hg, fun j hj => ?_⟩⟩
    have := World.ownsRow.cellAt h j (by omega)
    rw [this, List.getElem?_map, List.getElem?_eq_getElem hj]; rfl
end Go.Proofs.YtbhfnloheijhdaaGreatDoor

/- An event's eleven cells, all written; lists that lie elsewhere. -/
namespace Go.Proofs.YtbhfnloheijhdaaGreatDoor
open Go Go.RowKit Cal

/-- the zero event -/
def zV : Value := .agg #[.string ⟨#[]⟩, .string ⟨#[]⟩, .int .i64 0, .int .i64 0, .string ⟨#[]⟩, .int .i64 0, .slice none 0 0, .int .i64 0, .int .i64 0, .slice none 0 0, .slice none 0 0]
/-- an event's eleven cells, all written -/
def put11 (W : World) (B : Nat) (v0 v1 v2 v3 v4 v5 v6 v7 v8 v9 v10 : Value) : World := (((((((((((W.setCell ⟨B, 0, none⟩ v0).setCell ⟨B, 1, none⟩ v1).setCell ⟨B, 2, none⟩ v2).setCell ⟨B, 3, none⟩ v3).setCell ⟨B, 4, none⟩ v4).setCell ⟨B, 5, none⟩ v5).setCell ⟨B, 6, none⟩ v6).setCell ⟨B, 7, none⟩ v7).setCell ⟨B, 8, none⟩ v8).setCell ⟨B, 9, none⟩ v9).setCell ⟨B, 10, none⟩ v10)
theorem put11_fold (W : World) (B : Nat) (v0 v1 v2 v3 v4 v5 v6 v7 v8 v9 v10 : Value) : (((((((((((W.setCell ⟨B, 0, none⟩ v0).setCell ⟨B, 1, none⟩ v1).setCell ⟨B, 2, none⟩ v2).setCell ⟨B, 3, none⟩ v3).setCell ⟨B, 4, none⟩ v4).setCell ⟨B, 5, none⟩ v5).setCell ⟨B, 6, none⟩ v6).setCell ⟨B, 7, none⟩ v7).setCell ⟨B, 8, none⟩ v8).setCell ⟨B, 9, none⟩ v9).setCell ⟨B, 10, none⟩ v10) = put11 W B v0 v1 v2 v3 v4 v5 v6 v7 v8 v9 v10 := rfl
theorem put11_grown (W : World) (B : Nat) (v0 v1 v2 v3 v4 v5 v6 v7 v8 v9 v10 : Value) : W.grownBy (put11 W B v0 v1 v2 v3 v4 v5 v6 v7 v8 v9 v10) (some B) := (grown_then (grown_then (grown_then (grown_then (grown_then (grown_then (grown_then (grown_then (grown_then (grown_then (grown_set _ ⟨B, 0, none⟩ _) (grown_set _ ⟨B, 1, none⟩ _)) (grown_set _ ⟨B, 2, none⟩ _)) (grown_set _ ⟨B, 3, none⟩ _)) (grown_set _ ⟨B, 4, none⟩ _)) (grown_set _ ⟨B, 5, none⟩ _)) (grown_set _ ⟨B, 6, none⟩ _)) (grown_set _ ⟨B, 7, none⟩ _)) (grown_set _ ⟨B, 8, none⟩ _)) (grown_set _ ⟨B, 9, none⟩ _)) (grown_set _ ⟨B, 10, none⟩ _))
theorem put11_blk {W : World} {B : Nat} {u0 u1 u2 u3 u4 u5 u6 u7 u8 u9 u10 : Value} {t : TypeId} {fr : Nat × Nat} (v0 v1 v2 v3 v4 v5 v6 v7 v8 v9 v10 : Value) (h : W.heap[B]? = some (.cells #[u0, u1, u2, u3, u4, u5, u6, u7, u8, u9, u10] t fr)) : (put11 W B v0 v1 v2 v3 v4 v5 v6 v7 v8 v9 v10).heap[B]? = some (.cells #[v0, v1, v2, v3, v4, v5, v6, v7, v8, v9, v10] t fr) :=
  (set11_10 v10 (set11_9 v9 (set11_8 v8 (set11_7 v7 (set11_6 v6 (set11_5 v5 (set11_4 v4 (set11_3 v3 (set11_2 v2 (set11_1 v1 (set11_0 v0 h)))))))))))
/-- the rule's five cells within an event, all written -/
def put5 (W : World) (B : Nat) (r0 r1 r2 r3 r4 : Value) : World := (((((W.setCell ⟨B, 4, none⟩ r0).setCell ⟨B, 5, none⟩ r1).setCell ⟨B, 6, none⟩ r2).setCell ⟨B, 7, none⟩ r3).setCell ⟨B, 8, none⟩ r4)
theorem put5_fold (W : World) (B : Nat) (r0 r1 r2 r3 r4 : Value) : (((((W.setCell ⟨B, 4, none⟩ r0).setCell ⟨B, 5, none⟩ r1).setCell ⟨B, 6, none⟩ r2).setCell ⟨B, 7, none⟩ r3).setCell ⟨B, 8, none⟩ r4) = put5 W B r0 r1 r2 r3 r4 := rfl
theorem put5_grown (W : World) (B : Nat) (r0 r1 r2 r3 r4 : Value) : W.grownBy (put5 W B r0 r1 r2 r3 r4) (some B) := (grown_then (grown_then (grown_then (grown_then (grown_set _ ⟨B, 4, none⟩ _) (grown_set _ ⟨B, 5, none⟩ _)) (grown_set _ ⟨B, 6, none⟩ _)) (grown_set _ ⟨B, 7, none⟩ _)) (grown_set _ ⟨B, 8, none⟩ _))
theorem put5_blk {W : World} {B : Nat} {u0 u1 u2 u3 u4 u5 u6 u7 u8 u9 u10 : Value} {t : TypeId} {fr : Nat × Nat} (r0 r1 r2 r3 r4 : Value) (h : W.heap[B]? = some (.cells #[u0, u1, u2, u3, u4, u5, u6, u7, u8, u9, u10] t fr)) : (put5 W B r0 r1 r2 r3 r4).heap[B]? = some (.cells #[u0, u1, u2, u3, r0, r1, r2, r3, r4, u9, u10] t fr) :=
  set11_8 r4 (set11_7 r3 (set11_6 r2 (set11_5 r1 (set11_4 r0 h))))

/-- a list of numbers, not in blocks of N -/
def OffI (N : Nat → Prop) (W : World) (v : Value) (xs : List Int) : Prop :=
  ∃ (a : Option Addr) (c : Nat), v = .slice a xs.length c ∧ xs.length ≤ 60 ∧ xs.length ≤ c ∧ ∀ (j : Nat) (h : j < xs.length), ∃ b : Nat, a = some ⟨b, 0, none⟩ ∧ ¬ N b ∧ b < W.heap.size ∧ W.cell? ⟨b, j, none⟩ = some (.int .i64 xs[j])
def OffM (N : Nat → Prop) (W : World) (v : Value) (ms : List (Int × Int)) : Prop :=
  ∃ (a : Option Addr) (c : Nat), v = .slice a ms.length c ∧ ms.length ≤ 60 ∧ ms.length ≤ c ∧ ∀ (j : Nat) (h : j < ms.length), ∃ b : Nat, a = some ⟨b, 0, none⟩ ∧ ¬ N b ∧ b < W.heap.size ∧ W.cell? ⟨b, j * 2, none⟩ = some (.int .i64 ms[j].1) ∧ W.cell? ⟨b, j * 2 + 1, none⟩ = some (.int .i64 ms[j].2)
theorem OffI.grown {N : Nat → Prop} {B : Nat} {W W' : World} {v : Value} {xs : List Int} (h : OffI N W v xs) (hN : N B) (hg : W.grownBy W' (some B)) : OffI N W' v xs := by
  obtain ⟨a, c, h1, h2, h3, h4⟩ := h
  refine ⟨a, c, h1, h2, h3, fun j hj => ?_⟩
  obtain ⟨b, e, hb, hl, hc⟩ := h4 j hj
  exact ⟨b, e, hb, Nat.lt_of_lt_of_le hl hg.size, grown_cell hg hc (fun q => hb (q ▸ hN))⟩
theorem OffM.grown {N : Nat → Prop} {B : Nat} {W W' : World} {v : Value} {xs : List (Int × Int)} (h : OffM N W v xs) (hN : N B) (hg : W.grownBy W' (some B)) : OffM N W' v xs := by
  obtain ⟨a, c, h1, h2, h3, h4⟩ := h
  refine ⟨a, c, h1, h2, h3, fun j hj => ?_⟩
  obtain ⟨b, e, hb, hl, hc, hd⟩ := h4 j hj
  exact ⟨b, e, hb, Nat.lt_of_lt_of_le hl hg.size, grown_cell hg hc (fun q => hb (q ▸ hN)), grown_cell hg hd (fun q => hb (q ▸ hN))⟩
theorem OffI.ints {N : Nat → Prop} {W : World} {v : Value} {xs : List Int} (h : OffI N W v xs) : Ints W v xs := by
  obtain ⟨a, c, h1, h2, h3, h4⟩ := h
  refine ⟨a, c, h1, by omega, h3, fun j hj => ?_⟩
  obtain ⟨b, e, _, hl, hc⟩ := h4 j hj
  exact ⟨b, e, hl, hc⟩
theorem ints_days {W : World} {v : Value} {xs : List Int} (h : Ints W v xs) (h20 : xs.length ≤ 20) : Days W v xs := by
  obtain ⟨a, c, h1, h2, h3, h4⟩ := h
  exact ⟨a, c, h1, h20, h3, h4⟩
theorem days_ints {W : World} {v : Value} {xs : List Int} (h : Days W v xs) : Ints W v xs := by
  obtain ⟨a, c, h1, h2, h3, h4⟩ := h
  exact ⟨a, c, h1, by omega, h3, h4⟩
theorem OffM.movs {N : Nat → Prop} {W : World} {v : Value} {xs : List (Int × Int)} (h : OffM N W v xs) : Movs W v xs := by
  obtain ⟨a, c, h1, h2, h3, h4⟩ := h
  refine ⟨a, c, h1, by omega, h3, fun j hj => ?_⟩
  obtain ⟨b, e, _, hl, hc⟩ := h4 j hj
  exact ⟨b, e, hl, hc⟩
theorem ints_off {W : World} {v : Value} {xs : List Int} (h : Ints W v xs) (h30 : xs.length ≤ 60) {N : Nat → Prop} (hN : ∀ n, N n → W.heap.size ≤ n) : OffI N W v xs := by
  obtain ⟨a, c, h1, h2, h3, h4⟩ := h
  refine ⟨a, c, h1, h30, h3, fun j hj => ?_⟩
  obtain ⟨b, e, hl, hc⟩ := h4 j hj
  exact ⟨b, e, fun q => by have := hN b q; omega, hl, hc⟩
theorem movs_off {W : World} {v : Value} {xs : List (Int × Int)} (h : Movs W v xs) (h30 : xs.length ≤ 60) {N : Nat → Prop} (hN : ∀ n, N n → W.heap.size ≤ n) : OffM N W v xs := by
  obtain ⟨a, c, h1, h2, h3, h4⟩ := h
  refine ⟨a, c, h1, h30, h3, fun j hj => ?_⟩
  obtain ⟨b, e, hl, hc⟩ := h4 j hj
  exact ⟨b, e, fun q => by have := hN b q; omega, hl, hc⟩
theorem OffI.nil (N : Nat → Prop) (W : World) (c : Nat) : OffI N W (.slice none 0 c) [] := ⟨none, c, rfl, by simp, by simp, fun j h => absurd h (by simp)⟩
theorem OffM.nil (N : Nat → Prop) (W : World) (c : Nat) : OffM N W (.slice none 0 c) [] := ⟨none, c, rfl, by simp, by simp, fun j h => absurd h (by simp)⟩
theorem ow_off {N : Nat → Prop} {base : Nat} {W : World} {v : Value} {xs : List Int} (h : Ow base W v xs) (hN : ∀ n, N n → n < base) (h30 : xs.length ≤ 60) : OffI N W v xs := by
  rcases h.2 with ⟨rfl, h0⟩ | ⟨g, cap, cur, rfl, hb, hg, hcap, hmax, hsz, htake⟩
  · rw [List.length_eq_zero_iff.1 h0]; exact OffI.nil N W 0
  · refine ⟨_, cap, rfl, h30, hcap, fun j hj => ⟨g, rfl, fun q => by have := hN g q; omega, (Array.getElem?_eq_some_iff.1 hg).1, ?_⟩⟩
    have := World.ownsRow.cellAt h j (by omega)
    rw [this, List.getElem?_map, List.getElem?_eq_getElem hj]; rfl
theorem owm_off {N : Nat → Prop} {base : Nat} {W : World} {v : Value} {xs : List (Int × Int)} (h : OwM base W v xs) (hN : ∀ n, N n → n < base) (h30 : xs.length ≤ 60) : OffM N W v xs := by
  rcases h.2 with ⟨rfl, h0⟩ | ⟨g, cap, cur, rfl, hb, hg, hcap, hmax, hsz, htake⟩
  · rw [List.length_eq_zero_iff.1 h0]; exact OffM.nil N W 0
  · refine ⟨_, cap, rfl, h30, hcap, fun j hj => ?_⟩
    obtain ⟨c1, c2⟩ := owm_cell hg htake j hj
    exact ⟨g, rfl, fun q => by have := hN g q; omega, (Array.getElem?_eq_some_iff.1 hg).1, c1, c2⟩
/-- an event's lists, not in blocks of N -/
structure Off (N : Nat → Prop) (W : World) (E : EV) (sl skv mvv : Value) : Prop where
  d : OffI N W sl E.ds
  s : OffI N W skv E.sk
  m : OffM N W mvv E.mv
theorem Off.grown {N : Nat → Prop} {B : Nat} {W W' : World} {E : EV} {sl skv mvv : Value} (h : Off N W E sl skv mvv) (hN : N B) (hg : W.grownBy W' (some B)) : Off N W' E sl skv mvv := ⟨h.d.grown hN hg, h.s.grown hN hg, h.m.grown hN hg⟩
end Go.Proofs.YtbhfnloheijhdaaGreatDoor
