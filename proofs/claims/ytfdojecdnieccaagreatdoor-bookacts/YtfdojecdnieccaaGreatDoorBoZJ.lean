/- A list of events as an argument; the law's LongEvents. -/
import Derived.Test.YtfdojecdnieccaaGreatDoorJaF
import Derived.BigQuiet
namespace Go.Proofs.YtfdojecdnieccaaGreatDoor
open Go Go.RowKit Go.Maps Cal
attribute [local go_sem] Oper.semAt_some

/-- an event's eleven cells, from place o of block b on -/
structure EvAt (W : World) (b o : Nat) (E : EV) (sl skv mvv : Value) : Prop where
  c0 : W.cell? ⟨b, o, none⟩ = some (.string E.id)
  c1 : W.cell? ⟨b, o + 1, none⟩ = some (.string E.ti)
  c2 : W.cell? ⟨b, o + 2, none⟩ = some (.int .i64 E.st)
  c3 : W.cell? ⟨b, o + 3, none⟩ = some (.int .i64 E.lg)
  c4 : W.cell? ⟨b, o + 4, none⟩ = some (.string E.f)
  c5 : W.cell? ⟨b, o + 5, none⟩ = some (.int .i64 E.e)
  c6 : W.cell? ⟨b, o + 6, none⟩ = some sl
  c7 : W.cell? ⟨b, o + 7, none⟩ = some (.int .i64 E.c)
  c8 : W.cell? ⟨b, o + 8, none⟩ = some (.int .i64 E.u)
  c9 : W.cell? ⟨b, o + 9, none⟩ = some skv
  c10 : W.cell? ⟨b, o + 10, none⟩ = some mvv
theorem EvAt.step {W W' : World} {b o : Nat} {E : EV} {sl skv mvv : Value} (h : EvAt W b o E sl skv mvv) (hb : Below W.heap.size W W') : EvAt W' b o E sl skv mvv :=
  ⟨cell_step h.c0 hb, cell_step h.c1 hb, cell_step h.c2 hb, cell_step h.c3 hb, cell_step h.c4 hb, cell_step h.c5 hb, cell_step h.c6 hb, cell_step h.c7 hb, cell_step h.c8 hb, cell_step h.c9 hb, cell_step h.c10 hb⟩
/-- an event's eleven cells, from any address on -/
structure EvA (W : World) (A : Addr) (E : EV) (sl skv mvv : Value) : Prop where
  c0 : W.cell? A = some (.string E.id)
  c1 : W.cell? ⟨A.block, A.off + 1, none⟩ = some (.string E.ti)
  c2 : W.cell? ⟨A.block, A.off + 2, none⟩ = some (.int .i64 E.st)
  c3 : W.cell? ⟨A.block, A.off + 3, none⟩ = some (.int .i64 E.lg)
  c4 : W.cell? ⟨A.block, A.off + 4, none⟩ = some (.string E.f)
  c5 : W.cell? ⟨A.block, A.off + 5, none⟩ = some (.int .i64 E.e)
  c6 : W.cell? ⟨A.block, A.off + 6, none⟩ = some sl
  c7 : W.cell? ⟨A.block, A.off + 7, none⟩ = some (.int .i64 E.c)
  c8 : W.cell? ⟨A.block, A.off + 8, none⟩ = some (.int .i64 E.u)
  c9 : W.cell? ⟨A.block, A.off + 9, none⟩ = some skv
  c10 : W.cell? ⟨A.block, A.off + 10, none⟩ = some mvv
theorem cellA_lt {W : World} {A : Addr} {u : Value} (h : W.cell? A = some u) : A.block < W.heap.size := by
  rcases Nat.lt_or_ge A.block W.heap.size with q | q
  · exact q
  · simp [World.cell?, Array.getElem?_eq_none q] at h
theorem cellA_step {W W' : World} {A : Addr} {u : Value} (h : W.cell? A = some u) (hb : Below W.heap.size W W') : W'.cell? A = some u := (World.cell?_of_block (a := A) (hb.block _ (cellA_lt h))).trans h
theorem EvA.step {W W' : World} {A : Addr} {E : EV} {sl skv mvv : Value} (h : EvA W A E sl skv mvv) (hb : Below W.heap.size W W') : EvA W' A E sl skv mvv :=
  ⟨cellA_step h.c0 hb, cellA_step h.c1 hb, cellA_step h.c2 hb, cellA_step h.c3 hb, cellA_step h.c4 hb, cellA_step h.c5 hb, cellA_step h.c6 hb, cellA_step h.c7 hb, cellA_step h.c8 hb, cellA_step h.c9 hb, cellA_step h.c10 hb⟩
/-- a list of events that was handed over: their lists may be as long as they are -/
def EvsL (W : World) (v : Value) (Es : List EV) : Prop :=
  ∃ (a : Option Addr) (c : Nat), v = .slice a Es.length c ∧ Es.length ≤ 1000000000000000 ∧ Es.length ≤ c ∧
    ∀ (j : Nat) (h : j < Es.length), ∃ ad : Addr, a = some ad ∧ Es[j].sk.length ≤ 1000000000000000 ∧ Es[j].mv.length ≤ 1000000000000000 ∧ Es[j].ti.size ≤ 1000000000000000 ∧ ∃ ra rc sa sc ma mc, EvA W (ad.add (j * 11)) Es[j] (.slice ra Es[j].ds.length rc) (.slice sa Es[j].sk.length sc) (.slice ma Es[j].mv.length mc) ∧
      Got W (.slice ra Es[j].ds.length rc) Es[j].ds ∧ Got W (.slice sa Es[j].sk.length sc) Es[j].sk ∧ GotM W (.slice ma Es[j].mv.length mc) Es[j].mv
theorem EvsL.step {W W' : World} {v : Value} {Es : List EV} (h : EvsL W v Es) (hb : Below W.heap.size W W') : EvsL W' v Es := by
  obtain ⟨a, c, h1, h2, h3, h4⟩ := h
  refine ⟨a, c, h1, h2, h3, fun j hj => ?_⟩
  obtain ⟨ad, q1, q2, q3, q4, ra, rc, sa, sc, ma, mc, q5, q6, q7, q8⟩ := h4 j hj
  exact ⟨ad, q1, q2, q3, q4, ra, rc, sa, sc, ma, mc, q5.step hb, q6.step hb, q7.step hb, q8.step hb⟩

theorem lng_01 (E : EV) : lngE E = 0 ∨ lngE E = 1 := by
  unfold lngE
  split
  · exact .inr rfl
  · exact .inl rfl

end Go.Proofs.YtfdojecdnieccaaGreatDoor
