/- An event's eleven cells, all written; lists that lie elsewhere. -/
import Derived.Test.YtpdcjnkgkpbdgaaGreatDoorEvL2J
import Derived.Test.YtpdcjnkgkpbdgaaGreatDoorExpD2J
namespace Go.Proofs.YtpdcjnkgkpbdgaaGreatDoor
open Go Go.RowKit Cal

/-- the zero event -/
def zV : Value := .agg #[.string ⟨#[]⟩, .string ⟨#[]⟩, .int .i64 0, .int .i64 0, .string ⟨#[]⟩, .int .i64 0, .slice none 0 0, .int .i64 0, .int .i64 0, .slice none 0 0, .slice none 0 0]
/-- an event's eleven cells, all written -/
def put11 (W : World) (B : Nat) (v0 v1 v2 v3 v4 v5 v6 v7 v8 v9 v10 : Value) : World := (((((((((((W.setCell ⟨B, 0, none⟩ v0).setCell ⟨B, 1, none⟩ v1).setCell ⟨B, 2, none⟩ v2).setCell ⟨B, 3, none⟩ v3).setCell ⟨B, 4, none⟩ v4).setCell ⟨B, 5, none⟩ v5).setCell ⟨B, 6, none⟩ v6).setCell ⟨B, 7, none⟩ v7).setCell ⟨B, 8, none⟩ v8).setCell ⟨B, 9, none⟩ v9).setCell ⟨B, 10, none⟩ v10)
theorem put11_fold (W : World) (B : Nat) (v0 v1 v2 v3 v4 v5 v6 v7 v8 v9 v10 : Value) : (((((((((((W.setCell ⟨B, 0, none⟩ v0).setCell ⟨B, 1, none⟩ v1).setCell ⟨B, 2, none⟩ v2).setCell ⟨B, 3, none⟩ v3).setCell ⟨B, 4, none⟩ v4).setCell ⟨B, 5, none⟩ v5).setCell ⟨B, 6, none⟩ v6).setCell ⟨B, 7, none⟩ v7).setCell ⟨B, 8, none⟩ v8).setCell ⟨B, 9, none⟩ v9).setCell ⟨B, 10, none⟩ v10) = put11 W B v0 v1 v2 v3 v4 v5 v6 v7 v8 v9 v10 := rfl
theorem put11_grown (W : World) (B : Nat) (v0 v1 v2 v3 v4 v5 v6 v7 v8 v9 v10 : Value) : W.grownBy (put11 W B v0 v1 v2 v3 v4 v5 v6 v7 v8 v9 v10) (some B) := (grown_then (grown_then (grown_then (grown_then (grown_then (grown_then (grown_then (grown_then (grown_then (grown_then (grown_set _ ⟨B, 0, none⟩ _) (grown_set _ ⟨B, 1, none⟩ _)) (grown_set _ ⟨B, 2, none⟩ _)) (grown_set _ ⟨B, 3, none⟩ _)) (grown_set _ ⟨B, 4, none⟩ _)) (grown_set _ ⟨B, 5, none⟩ _)) (grown_set _ ⟨B, 6, none⟩ _)) (grown_set _ ⟨B, 7, none⟩ _)) (grown_set _ ⟨B, 8, none⟩ _)) (grown_set _ ⟨B, 9, none⟩ _)) (grown_set _ ⟨B, 10, none⟩ _))
theorem put11_blk {W : World} {B : Nat} {u0 u1 u2 u3 u4 u5 u6 u7 u8 u9 u10 : Value} {t : TypeId} {fr : Nat × Nat} (v0 v1 v2 v3 v4 v5 v6 v7 v8 v9 v10 : Value) (h : W.heap[B]? = some (.cells #[u0, u1, u2, u3, u4, u5, u6, u7, u8, u9, u10] t fr)) : (put11 W B v0 v1 v2 v3 v4 v5 v6 v7 v8 v9 v10).heap[B]? = some (.cells #[v0, v1, v2, v3, v4, v5, v6, v7, v8, v9, v10] t fr) :=
  (set11_10 v10 (set11_9 v9 (set11_8 v8 (set11_7 v7 (set11_6 v6 (set11_5 v5 (set11_4 v4 (set11_3 v3 (set11_2 v2 (set11_1 v1 (set11_0 v0 h)))))))))))
/-- the rule's five cells within an event, all written -/
def put5 (W : World) (B : Nat) (r0 r1 r2 r3 r4 : Value) : World := (((((W.setCell ⟨B, 4, none⟩ r0).setCell ⟨B, 5, none⟩ r1).setCell ⟨B, 6, none⟩ r2).setCell ⟨B, 7, none⟩ r3).setCell ⟨B, 8, none⟩ r4)
theorem put5_fold (W : World) (B : Nat) (r0 r1 r2 r3 r4 : Value) : (((((W.setCell ⟨B, 4, none⟩ r0).setCell ⟨B, 5, none⟩ r1).setCell ⟨B, 6, none⟩ r2).setCell ⟨B, 7, none⟩ r3).setCell ⟨B, 8, none⟩ r4) = put5 W B r0 r1 r2 r3 r4 := rfl
theorem put5_grown (W : World) (B : Nat) (r0 r1 r2 r3 r4 : Value) : W.grownBy (put5 W B r0 r1 r2 r3 r4) (some B) := (grown_then (grown_then (grown_then (grown_then (grown_set _ ⟨B, 4, none⟩ _) (grown_set _ ⟨B, 5, none⟩ _)) (grown_set _ ⟨B, 6, none⟩ _)) (grown_set _ ⟨B, 7, none⟩ _)) (grown_set _ ⟨B, 8, none⟩ _))
theorem put5_blk {W : World} {B : Nat} {u0 u1 u2 u3 u4 u5 u6 u7 u8 u9 u10 : Value} {t : TypeId} {fr : Nat × Nat} (r0 r1 r2 r3 r4 : Value) (h : W.heap[B]? = some (.cells #[u0, u1, u2, u3, u4, u5, u6, u7, u8, u9, u10] t fr)) : (put5 W B r0 r1 r2 r3 r4).heap[B]? = some (.cells #[u0, u1, u2, u3, r0, r1, r2, r3, r4, u9, u10] t fr) :=
  set11_8 r4 (set11_7 r3 (set11_6 r2 (set11_5 r1 (set11_4 r0 h))))

/-- a list of numbers, not in blocks of N -/
def OffI (N : Nat → Prop) (W : World) (v : Value) (xs : List Int) : Prop :=
  ∃ (a : Option Addr) (c : Nat), v = .slice a xs.length c ∧ xs.length ≤ 30 ∧ xs.length ≤ c ∧ ∀ (j : Nat) (h : j < xs.length), ∃ b : Nat, a = some ⟨b, 0, none⟩ ∧ ¬ N b ∧ b < W.heap.size ∧ W.cell? ⟨b, j, none⟩ = some (.int .i64 xs[j])
def OffM (N : Nat → Prop) (W : World) (v : Value) (ms : List (Int × Int)) : Prop :=
  ∃ (a : Option Addr) (c : Nat), v = .slice a ms.length c ∧ ms.length ≤ 30 ∧ ms.length ≤ c ∧ ∀ (j : Nat) (h : j < ms.length), ∃ b : Nat, a = some ⟨b, 0, none⟩ ∧ ¬ N b ∧ b < W.heap.size ∧ W.cell? ⟨b, j * 2, none⟩ = some (.int .i64 ms[j].1) ∧ W.cell? ⟨b, j * 2 + 1, none⟩ = some (.int .i64 ms[j].2)
theorem OffI.grown {N : Nat → Prop} {B : Nat} {W W' : World} {v : Value} {xs : List Int} (h : OffI N W v xs) (hN : N B) (hg : W.grownBy W' (some B)) : OffI N W' v xs := by
  obtain ⟨a, c, h1, h2, h3, h4⟩ := h
  refine ⟨a, c, h1, h2, h3, fun j hj => ?_⟩
  obtain ⟨b, e, hb, hl, hc⟩ := h4 j hj
  exact ⟨b, e, hb, Nat.lt_of_lt_of_le hl hg.size, grown_cell hg hc (fun q => hb (q ▸ hN))⟩
theorem OffM.grown {N : Nat → Prop} {B : Nat} {W W' : World} {v : Value} {xs : List (Int × Int)} (h : OffM N W v xs) (hN : N B) (hg : W.grownBy W' (some B)) : OffM N W' v xs := by
  obtain ⟨a, c, h1, h2, h3, h4⟩ := h
  refine ⟨a, c, h1, h2, h3, fun j hj => ?_⟩
  obtain ⟨b, e, hb, hl, hc, hd⟩ := h4 j hj
  exact ⟨b, e, hb, Nat.lt_of_lt_of_le hl hg.size, grown_cell hg hc (fun q => hb (q ▸ hN)), grown_cell hg hd (fun q => hb (q ▸ hN))⟩
theorem OffI.ints {N : Nat → Prop} {W : World} {v : Value} {xs : List Int} (h : OffI N W v xs) : Ints W v xs := by
  obtain ⟨a, c, h1, h2, h3, h4⟩ := h
  refine ⟨a, c, h1, by omega, h3, fun j hj => ?_⟩
  obtain ⟨b, e, _, hl, hc⟩ := h4 j hj
  exact ⟨b, e, hl, hc⟩
theorem ints_days {W : World} {v : Value} {xs : List Int} (h : Ints W v xs) (h20 : xs.length ≤ 20) : Days W v xs := by
  obtain ⟨a, c, h1, h2, h3, h4⟩ := h
  exact ⟨a, c, h1, h20, h3, h4⟩
theorem days_ints {W : World} {v : Value} {xs : List Int} (h : Days W v xs) : Ints W v xs := by
  obtain ⟨a, c, h1, h2, h3, h4⟩ := h
  exact ⟨a, c, h1, by omega, h3, h4⟩
theorem OffM.movs {N : Nat → Prop} {W : World} {v : Value} {xs : List (Int × Int)} (h : OffM N W v xs) : Movs W v xs := by
  obtain ⟨a, c, h1, h2, h3, h4⟩ := h
  refine ⟨a, c, h1, by omega, h3, fun j hj => ?_⟩
  obtain ⟨b, e, _, hl, hc⟩ := h4 j hj
  exact ⟨b, e, hl, hc⟩
theorem ints_off {W : World} {v : Value} {xs : List Int} (h : Ints W v xs) (h30 : xs.length ≤ 30) {N : Nat → Prop} (hN : ∀ n, N n → W.heap.size ≤ n) : OffI N W v xs := by
  obtain ⟨a, c, h1, h2, h3, h4⟩ := h
  refine ⟨a, c, h1, h30, h3, fun j hj => ?_⟩
  obtain ⟨b, e, hl, hc⟩ := h4 j hj
  exact ⟨b, e, fun q => by have := hN b q; omega, hl, hc⟩
theorem movs_off {W : World} {v : Value} {xs : List (Int × Int)} (h : Movs W v xs) (h30 : xs.length ≤ 30) {N : Nat → Prop} (hN : ∀ n, N n → W.heap.size ≤ n) : OffM N W v xs := by
  obtain ⟨a, c, h1, h2, h3, h4⟩ := h
  refine ⟨a, c, h1, h30, h3, fun j hj => ?_⟩
  obtain ⟨b, e, hl, hc⟩ := h4 j hj
  exact ⟨b, e, fun q => by have := hN b q; omega, hl, hc⟩
theorem OffI.nil (N : Nat → Prop) (W : World) (c : Nat) : OffI N W (.slice none 0 c) [] := ⟨none, c, rfl, by simp, by simp, fun j h => absurd h (by simp)⟩
theorem OffM.nil (N : Nat → Prop) (W : World) (c : Nat) : OffM N W (.slice none 0 c) [] := ⟨none, c, rfl, by simp, by simp, fun j h => absurd h (by simp)⟩
theorem ow_off {N : Nat → Prop} {base : Nat} {W : World} {v : Value} {xs : List Int} (h : Ow base W v xs) (hN : ∀ n, N n → n < base) (h30 : xs.length ≤ 30) : OffI N W v xs := by
  rcases h.2 with ⟨rfl, h0⟩ | ⟨g, cap, cur, rfl, hb, hg, hcap, hmax, hsz, htake⟩
  · rw [List.length_eq_zero_iff.1 h0]; exact OffI.nil N W 0
  · refine ⟨_, cap, rfl, h30, hcap, fun j hj => ⟨g, rfl, fun q => by have := hN g q; omega, (Array.getElem?_eq_some_iff.1 hg).1, ?_⟩⟩
    have := World.ownsRow.cellAt h j (by omega)
    rw [this, List.getElem?_map, List.getElem?_eq_getElem hj]; rfl
theorem owm_off {N : Nat → Prop} {base : Nat} {W : World} {v : Value} {xs : List (Int × Int)} (h : OwM base W v xs) (hN : ∀ n, N n → n < base) (h30 : xs.length ≤ 30) : OffM N W v xs := by
  rcases h.2 with ⟨rfl, h0⟩ | ⟨g, cap, cur, rfl, hb, hg, hcap, hmax, hsz, htake⟩
  · rw [List.length_eq_zero_iff.1 h0]; exact OffM.nil N W 0
  · refine ⟨_, cap, rfl, h30, hcap, fun j hj => ?_⟩
    obtain ⟨c1, c2⟩ := owm_cell hg htake j hj
    exact ⟨g, rfl, fun q => by have := hN g q; omega, (Array.getElem?_eq_some_iff.1 hg).1, c1, c2⟩
/-- an event's lists, not in blocks of N -/
structure Off (N : Nat → Prop) (W : World) (E : EV) (sl skv mvv : Value) : Prop where
  d : OffI N W sl E.ds
  s : OffI N W skv E.sk
  m : OffM N W mvv E.mv
theorem Off.grown {N : Nat → Prop} {B : Nat} {W W' : World} {E : EV} {sl skv mvv : Value} (h : Off N W E sl skv mvv) (hN : N B) (hg : W.grownBy W' (some B)) : Off N W' E sl skv mvv := ⟨h.d.grown hN hg, h.s.grown hN hg, h.m.grown hN hg⟩
end Go.Proofs.YtpdcjnkgkpbdgaaGreatDoor
