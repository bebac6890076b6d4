/- Package event's fromsOf, checkLists and Check: which error an event has. -/
import Derived.Test.YtanjgollffkafaaGreatDoorJrAE
import Derived.RangeFuncBox
import Derived.Deep.DeepCutAuto
import Derived.Deep.RegionWith
import Derived.Test.YtanjgollffkafaaGreatDoorJrAC
import Derived.Maps.AppendAt
import Derived.Laws.AppendOwnNone
import Derived.Test.YtanjgollffkafaaGreatDoorJrAD
import Derived.Lib.SliceRun
namespace Go.Proofs.YtanjgollffkafaaGreatDoor
open Go Go.RowKit Cal
attribute [local go_sem] Oper.semAt_some

/-- do numbers rise? -/
def riseB : List Int → Bool
  | [] => true
  | [_] => true
  | a :: b :: r => decide (a < b) && riseB (b :: r)
/-- the number of the error of an event's lists -/
def lk (sk : List Int) (mv : List (Int × Int)) : Int :=
  if 20 < sk.length ∨ 20 < mv.length then 7 else if (riseB sk && riseB (mv.map Prod.fst)) = false then 8 else if sk.any noDay = true then 2 else
    if mv.any (fun m => noDay m.1 || noDay m.2) = true then 2 else if mv.any (fun m => decide (m.1 ∈ sk)) = true then 6 else 0
end Go.Proofs.YtanjgollffkafaaGreatDoor

/- Package event's Check: which error an event has. -/
namespace Go.Proofs.YtanjgollffkafaaGreatDoor
open Go Go.RowKit Cal
attribute [local go_sem] Oper.semAt_some

/-- an event's plain data -/
structure EV where
  id : ByteArray
  ti : ByteArray
  st : Int
  lg : Int
  f : ByteArray
  e : Int
  ds : List Int
  c : Int
  u : Int
  sk : List Int
  mv : List (Int × Int)
/-- an event as a value -/
def ev (E : EV) (sl sk mv : Value) : Value := .agg #[.string E.id, .string E.ti, .int .i64 E.st, .int .i64 E.lg, .string E.f, .int .i64 E.e, sl, .int .i64 E.c, .int .i64 E.u, sk, mv]
end Go.Proofs.YtanjgollffkafaaGreatDoor

/- Package event's Fields, Get, listText and Text: an event's parts, one behind the other. -/
namespace Go.Proofs.YtanjgollffkafaaGreatDoor
open Go Go.RowKit Cal
attribute [local go_sem] Oper.semAt_some

end Go.Proofs.YtanjgollffkafaaGreatDoor

/- The laws' own evented, LongEvent and OwnEvent. -/
namespace Go.Proofs.YtanjgollffkafaaGreatDoor
open Go Go.RowKit Cal
attribute [local go_sem] Oper.semAt_some

/-- moves as they were handed over -/
def GotM (w : World) (sl : Value) (ms : List (Int × Int)) : Prop :=
  ∃ (a : Option Addr) (cap : Nat), sl = .slice a ms.length cap ∧ (a = none → ms.length = 0 ∧ cap = 0) ∧ ∀ ad, a = some ad → ∀ (j : Nat) (h : j < ms.length), ad.block < w.heap.size ∧ w.cell? (ad.add (j * 2)) = some (.int .i64 ms[j].1) ∧ w.cell? (ad.add (j * 2 + 1)) = some (.int .i64 ms[j].2)
theorem GotM.step {w w' : World} {sl : Value} {ms : List (Int × Int)} (h : GotM w sl ms) (hb : Below w.heap.size w w') : GotM w' sl ms := by
  obtain ⟨a, cap, h1, h2, h3⟩ := h
  refine ⟨a, cap, h1, h2, fun ad e j hj => ?_⟩
  obtain ⟨h4, h5, h6⟩ := h3 ad e j hj
  exact ⟨Nat.lt_of_lt_of_le h4 hb.size, (World.cell?_of_block (a := ad.add (j * 2)) (hb.block _ (by rw [addr_add_block]; exact h4))).trans h5, (World.cell?_of_block (a := ad.add (j * 2 + 1)) (hb.block _ (by rw [addr_add_block]; exact h4))).trans h6⟩
/-- the cells of moves -/
def mcells : List (Int × Int) → List Value
  | [] => []
  | m :: r => .int .i64 m.1 :: .int .i64 m.2 :: mcells r
theorem mcells_at : ∀ (ms : List (Int × Int)) (j : Nat) (h : j < ms.length), (mcells ms)[j * 2]? = some (.int .i64 ms[j].1) ∧ (mcells ms)[j * 2 + 1]? = some (.int .i64 ms[j].2)
  | m :: r, 0, _ => ⟨rfl, rfl⟩
  | m :: r, j + 1, h => by
    have := mcells_at r j (by simpa using h)
    rw [show (j + 1) * 2 = j * 2 + 1 + 1 by omega]
    exact this
end Go.Proofs.YtanjgollffkafaaGreatDoor

/- The law's own OwnRule: the days lie in memory of its own. -/
namespace Go.Proofs.YtanjgollffkafaaGreatDoor
open Go.RowKit Cal

end Go.Proofs.YtanjgollffkafaaGreatDoor

/- The laws' own OwnEvent: an event in memory of its own. -/
namespace Go.Proofs.YtanjgollffkafaaGreatDoor
open Go Go.RowKit Cal
attribute [local go_sem] Oper.semAt_some

theorem blk11_frozen {W : World} {n : Nat} {cs : Array Value} {t : TypeId} (h : W.heap[n]? = some (.cells cs t (0, 0))) (i : Nat) : W.frozen? ⟨n, i, none⟩ = false := by
  simp [World.frozen?, h]
/-- an event's lists in memory of its own, or as they were handed over -/
structure Lists (W : World) (E : EV) (sl skv mvv : Value) : Prop where
  d : Days W sl E.ds
  s : Ints W skv E.sk
  m : Movs W mvv E.mv
  gd : Got W sl E.ds
  gs : Got W skv E.sk
  gm : GotM W mvv E.mv
theorem Lists.step {W W' : World} {E : EV} {sl skv mvv : Value} (h : Lists W E sl skv mvv) (hb : Below W.heap.size W W') : Lists W' E sl skv mvv :=
  ⟨h.d.step hb, h.s.step hb, h.m.step hb, h.gd.step hb, h.gs.step hb, h.gm.step hb⟩
end Go.Proofs.YtanjgollffkafaaGreatDoor

/- The days of a start and a rule: the iterator that package expand's days hands back gives just those that a count and an end leave of the candidates; none where one of the two is not well. -/
namespace Go.Proofs.YtanjgollffkafaaGreatDoor
open Go Go.RowKit Go.Shelf Cal
attribute [local go_sem] Oper.semAt_some

theorem fr_len {p : Int → Bool} : ∀ (n : Nat) (a : Int), (fr p a n).length ≤ n
  | 0, a => by simp [fr]
  | n + 1, a => by
    unfold fr
    have := fr_len (p := p) n (a + 1)
    split
    · simp; omega
    · omega
theorem From_len {p : Int → Bool} {a : Int} (h : 0 ≤ a) : (From p a).length ≤ 73049 := by
  unfold From
  have := fr_len (p := p) (73049 - a).toNat a
  omega

end Go.Proofs.YtanjgollffkafaaGreatDoor

/- Package expand's Days for any start and rule: the function that it hands back gives them. -/
namespace Go.Proofs.YtanjgollffkafaaGreatDoor
open Go Go.RowKit Go.Shelf Cal
attribute [local go_sem] Oper.semAt_some

/-- these are the days of a start and a rule -/
def IsDays (f : ByteArray) (e : Int) (ds : List Int) (c u s : Int) (xs : List Int) : Prop :=
  (Well (rd f e ds c u) ∧ 0 ≤ s ∧ s ≤ 73048 ∧ xs = cut c u (cds f.toList s e ds)) ∨ (¬ (Well (rd f e ds c u) ∧ 0 ≤ s ∧ s ≤ 73048) ∧ xs = [])
theorem cut_len (c u : Int) (l : List Int) : (cut c u l).length ≤ l.length := by
  have h : (cutU u l).length ≤ l.length := by
    unfold cutU
    split
    · exact (List.takeWhile_sublist _).length_le
    · exact Nat.le_refl _
  unfold cut
  split
  · exact Nat.le_trans (List.length_take_le' _ _) h
  · exact h
theorem IsDays.len {f : ByteArray} {e : Int} {ds : List Int} {c u s : Int} {xs : List Int} (h : IsDays f e ds c u s xs) : xs.length ≤ 73049 := by
  rcases h with ⟨_, h0, _, rfl⟩ | ⟨_, rfl⟩
  · exact Nat.le_trans (cut_len _ _ _) (From_len h0)
  · simp
theorem IsDays.rise {f : ByteArray} {e : Int} {ds : List Int} {c u s : Int} {xs : List Int} (h : IsDays f e ds c u s xs) : xs.Pairwise (· < ·) := by
  rcases h with ⟨_, _, _, rfl⟩ | ⟨_, rfl⟩
  · exact cut_rise (From_rise _ _)
  · exact List.Pairwise.nil

/-- a row of days whose block lies from lo on, below hi -/
def DaysIn (lo hi : Nat) (W : World) (sl : Value) (ds : List Int) : Prop :=
  ds.length ≤ 20 ∧ ∃ (a : Option Addr) (c : Nat), sl = .slice a ds.length c ∧ ds.length ≤ c ∧ (ds = [] ∨ ∃ (b : Nat) (cs : Array Value) (t : TypeId) (fr : Nat × Nat), a = some ⟨b, 0, none⟩ ∧ lo ≤ b ∧ b < hi ∧ W.heap[b]? = some (.cells cs t fr) ∧ ∀ (j : Nat) (h : j < ds.length), W.cell? ⟨b, j, none⟩ = some (.int .i64 ds[j]))
theorem DaysIn.days {lo hi : Nat} {W : World} {sl : Value} {ds : List Int} (h : DaysIn lo hi W sl ds) : Days W sl ds := by
  obtain ⟨h1, a, c, h2, h3, h4⟩ := h
  refine ⟨a, c, h2, h1, h3, fun j hj => ?_⟩
  rcases h4 with rfl | ⟨b, cs, t, fr, e, _, _, hb, hc⟩
  · exact absurd hj (by simp)
  · exact ⟨b, e, (Array.getElem?_eq_some_iff.1 hb).1, hc j hj⟩
end Go.Proofs.YtanjgollffkafaaGreatDoor

/- An event's eleven cells, all written; lists that lie elsewhere. -/
namespace Go.Proofs.YtanjgollffkafaaGreatDoor
open Go Go.RowKit Cal

/-- a list of numbers, not in blocks of N -/
def OffI (N : Nat → Prop) (W : World) (v : Value) (xs : List Int) : Prop :=
  ∃ (a : Option Addr) (c : Nat), v = .slice a xs.length c ∧ xs.length ≤ 60 ∧ xs.length ≤ c ∧ ∀ (j : Nat) (h : j < xs.length), ∃ b : Nat, a = some ⟨b, 0, none⟩ ∧ ¬ N b ∧ b < W.heap.size ∧ W.cell? ⟨b, j, none⟩ = some (.int .i64 xs[j])
def OffM (N : Nat → Prop) (W : World) (v : Value) (ms : List (Int × Int)) : Prop :=
  ∃ (a : Option Addr) (c : Nat), v = .slice a ms.length c ∧ ms.length ≤ 60 ∧ ms.length ≤ c ∧ ∀ (j : Nat) (h : j < ms.length), ∃ b : Nat, a = some ⟨b, 0, none⟩ ∧ ¬ N b ∧ b < W.heap.size ∧ W.cell? ⟨b, j * 2, none⟩ = some (.int .i64 ms[j].1) ∧ W.cell? ⟨b, j * 2 + 1, none⟩ = some (.int .i64 ms[j].2)
theorem OffI.grown {N : Nat → Prop} {B : Nat} {W W' : World} {v : Value} {xs : List Int} (h : OffI N W v xs) (hN : N B) (hg : W.grownBy W' (some B)) : OffI N W' v xs := by
  obtain ⟨a, c, h1, h2, h3, h4⟩ := h
  refine ⟨a, c, h1, h2, h3, fun j hj => ?_⟩
  obtain ⟨b, e, hb, hl, hc⟩ := h4 j hj
  exact ⟨b, e, hb, Nat.lt_of_lt_of_le hl hg.size, grown_cell hg hc (fun q => hb (q ▸ hN))⟩
theorem OffM.grown {N : Nat → Prop} {B : Nat} {W W' : World} {v : Value} {xs : List (Int × Int)} (h : OffM N W v xs) (hN : N B) (hg : W.grownBy W' (some B)) : OffM N W' v xs := by
  obtain ⟨a, c, h1, h2, h3, h4⟩ := h
  refine ⟨a, c, h1, h2, h3, fun j hj => ?_⟩
  obtain ⟨b, e, hb, hl, hc, hd⟩ := h4 j hj
  exact ⟨b, e, hb, Nat.lt_of_lt_of_le hl hg.size, grown_cell hg hc (fun q => hb (q ▸ hN)), grown_cell hg hd (fun q => hb (q ▸ hN))⟩
theorem OffI.ints {N : Nat → Prop} {W : World} {v : Value} {xs : List Int} (h : OffI N W v xs) : Ints W v xs := by
  obtain ⟨a, c, h1, h2, h3, h4⟩ := h
  refine ⟨a, c, h1, by omega, h3, fun j hj => ?_⟩
  obtain ⟨b, e, _, hl, hc⟩ := h4 j hj
  exact ⟨b, e, hl, hc⟩
theorem OffM.movs {N : Nat → Prop} {W : World} {v : Value} {xs : List (Int × Int)} (h : OffM N W v xs) : Movs W v xs := by
  obtain ⟨a, c, h1, h2, h3, h4⟩ := h
  refine ⟨a, c, h1, by omega, h3, fun j hj => ?_⟩
  obtain ⟨b, e, _, hl, hc⟩ := h4 j hj
  exact ⟨b, e, hl, hc⟩
theorem OffI.nil (N : Nat → Prop) (W : World) (c : Nat) : OffI N W (.slice none 0 c) [] := ⟨none, c, rfl, by simp, by simp, fun j h => absurd h (by simp)⟩
theorem OffM.nil (N : Nat → Prop) (W : World) (c : Nat) : OffM N W (.slice none 0 c) [] := ⟨none, c, rfl, by simp, by simp, fun j h => absurd h (by simp)⟩
/-- an event's lists, not in blocks of N -/
structure Off (N : Nat → Prop) (W : World) (E : EV) (sl skv mvv : Value) : Prop where
  d : OffI N W sl E.ds
  s : OffI N W skv E.sk
  m : OffM N W mvv E.mv
theorem Off.grown {N : Nat → Prop} {B : Nat} {W W' : World} {E : EV} {sl skv mvv : Value} (h : Off N W E sl skv mvv) (hN : N B) (hg : W.grownBy W' (some B)) : Off N W' E sl skv mvv := ⟨h.d.grown hN hg, h.s.grown hN hg, h.m.grown hN hg⟩
end Go.Proofs.YtanjgollffkafaaGreatDoor
