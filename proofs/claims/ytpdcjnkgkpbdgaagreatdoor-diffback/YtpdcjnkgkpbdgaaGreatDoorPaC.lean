/- slices.IndexFunc and DeleteFunc at texts, with a function that leaves what lay. -/
import Derived.Test.YtpdcjnkgkpbdgaaGreatDoorPaE
import Derived.Lib.SliceRun
import Derived.Shelf.Abstract
namespace Go.Proofs.YtpdcjnkgkpbdgaaGreatDoor
open Go Go.RowKit Go.Maps Cal
attribute [local go_sem] Oper.semAt_some

/-- block B is a row of texts -/
structure RowS (W : World) (B cap : Nat) (l : List ByteArray) : Prop where
  ex : ∃ cur, W.heap[B]? = some (.cells cur 9 (0, 0)) ∧ cur.size = cap ∧ ∀ (j : Nat) (h : j < l.length), cur[j]? = some (.string l[j])
  le : l.length ≤ cap
theorem RowS.lt {W : World} {B cap : Nat} {l : List ByteArray} (h : RowS W B cap l) : B < W.heap.size := by
  obtain ⟨cur, h1, _⟩ := h.ex
  exact (Array.getElem?_eq_some_iff.1 h1).1
theorem RowS.cell {W : World} {B cap : Nat} {l : List ByteArray} (h : RowS W B cap l) (j : Nat) (hj : j < l.length) : W.cell? ⟨B, j, none⟩ = some (.string l[j]) := by
  obtain ⟨cur, h1, _, h3⟩ := h.ex
  simp [World.cell?, h1, h3 j hj]
theorem RowS.step {W W' : World} {B cap : Nat} {l : List ByteArray} (h : RowS W B cap l) (hb : Below W.heap.size W W') : RowS W' B cap l := by
  have hlt := h.lt
  obtain ⟨⟨cur, h1, h2, h3⟩, h4⟩ := h
  exact ⟨⟨cur, (hb.block _ hlt).trans h1, h2, h3⟩, h4⟩
theorem RowS.set {W : World} {B cap : Nat} {l : List ByteArray} (h : RowS W B cap l) (i : Nat) (x : ByteArray) : RowS (W.setCell ⟨B, i, none⟩ (.string x)) B cap (l.set i x) := by
  obtain ⟨⟨cur, h1, h2, h3⟩, h4⟩ := h
  refine ⟨⟨_, set_block (i := i) _ h1, by simp [h2], fun j hj => ?_⟩, by simpa using h4⟩
  have hj' : j < l.length := by simpa using hj
  rw [Array.getElem?_setIfInBounds, List.getElem_set]
  by_cases e : i = j
  · subst e
    have : i < cur.size := by omega
    simp [this]
  · simp [e, h3 j hj']
theorem RowS.far {W : World} {B cap : Nat} {l : List ByteArray} (h : RowS W B cap l) (i : Nat) (hi : l.length ≤ i) (v : Value) : RowS (W.setCell ⟨B, i, none⟩ v) B cap l := by
  obtain ⟨⟨cur, h1, h2, h3⟩, h4⟩ := h
  refine ⟨⟨_, set_block (i := i) _ h1, by simp [h2], fun j hj => ?_⟩, h4⟩
  rw [Array.getElem?_setIfInBounds]
  have : i ≠ j := by omega
  simp [this, h3 j hj]
theorem RowS.take {W : World} {B cap : Nat} {l : List ByteArray} (h : RowS W B cap l) (i : Nat) : RowS W B cap (l.take i) := by
  obtain ⟨⟨cur, h1, h2, h3⟩, h4⟩ := h
  refine ⟨⟨cur, h1, h2, fun j hj => ?_⟩, by rw [List.length_take]; omega⟩
  have hj' : j < l.length := by rw [List.length_take] at hj; omega
  rw [h3 j hj', List.getElem_take]

/-- the row while texts are dropped: what is kept of the first b lies ahead, the rest is as it was -/
structure Inv (l : List ByteArray) (p : ByteArray → Bool) (a b : Nat) (L : List ByteArray) : Prop where
  len : L.length = l.length
  ahead : L.take a = (l.take b).filter fun x => !p x
  rest : L.drop b = l.drop b
  fst : a < b
theorem drop_more {L l : List ByteArray} {b : Nat} (h : L.drop b = l.drop b) : L.drop (b + 1) = l.drop (b + 1) := by
  rw [← List.drop_drop, ← List.drop_drop, h]
theorem Inv.skip {l : List ByteArray} {p : ByteArray → Bool} {a b : Nat} {L : List ByteArray} (h : Inv l p a b L) (hb : b < l.length) (q : p l[b] = true) : Inv l p a (b + 1) L :=
  ⟨h.len, by rw [h.ahead, List.take_succ_eq_append_getElem hb, List.filter_append]; simp [q], drop_more h.rest, by have := h.fst; omega⟩
theorem Inv.keep {l : List ByteArray} {p : ByteArray → Bool} {a b : Nat} {L : List ByteArray} (h : Inv l p a b L) (hb : b < l.length) (q : p l[b] = false) : Inv l p (a + 1) (b + 1) (L.set a l[b]) := by
  have hf := h.fst
  have hl := h.len
  refine ⟨by simpa using hl, ?_, ?_, by omega⟩
  · rw [List.take_succ_eq_append_getElem (by rw [List.length_set]; omega), List.take_set_of_le (Nat.le_refl _), List.getElem_set_self, h.ahead, List.take_succ_eq_append_getElem hb, List.filter_append]
    simp [q]
  · rw [List.drop_set_of_lt (by omega)]
    exact drop_more h.rest
end Go.Proofs.YtpdcjnkgkpbdgaaGreatDoor

/- slices.DeleteFunc at texts, with a function that leaves what lay. -/
namespace Go.Proofs.YtpdcjnkgkpbdgaaGreatDoor
open Go Go.RowKit Go.Maps Cal
attribute [local go_sem] Oper.semAt_some

theorem Inv.start {l : List ByteArray} {p : ByteArray → Bool} {k : Nat} (hk : k < l.length) (q : p l[k] = true) (h : ∀ (j : Nat) (hj : j < l.length), j < k → p l[j] = false) : Inv l p k (k + 1) l := by
  refine ⟨rfl, ?_, rfl, Nat.lt_succ_self _⟩
  rw [List.take_succ_eq_append_getElem hk, List.filter_append]
  have : (l.take k).filter (fun x => !p x) = l.take k := by
    rw [List.filter_eq_self]
    intro x hx
    obtain ⟨j, hj, rfl⟩ := List.mem_iff_getElem.1 hx
    rw [List.length_take] at hj
    rw [List.getElem_take, h j (by omega) (by omega)]; rfl
  rw [this]
  simp [q]
theorem Inv.done {l : List ByteArray} {p : ByteArray → Bool} {a b : Nat} {L : List ByteArray} (h : Inv l p a b L) (hb : l.length ≤ b) : L.take a = l.filter fun x => !p x := by
  rw [h.ahead, List.take_of_length_le hb]

end Go.Proofs.YtpdcjnkgkpbdgaaGreatDoor
