/- A list of numbers, or of moves, lies in no block that begins with a text. -/
import Derived.Test.YtpdcjnkgkpbdgaaGreatDoorQaK
namespace Go.Proofs.YtpdcjnkgkpbdgaaGreatDoor
open Go Go.RowKit Cal

theorem off_blkI {W : World} {v : Value} {xs : List Int} {B : Nat} {x : ByteArray} (h : Ints W v xs) (h30 : xs.length ≤ 60) (hb : W.cell? ⟨B, 0, none⟩ = some (.string x)) : OffI (· = B) W v xs := by
  obtain ⟨a, c, h1, h2, h3, h4⟩ := h
  refine ⟨a, c, h1, h30, h3, fun j hj => ?_⟩
  obtain ⟨b, e, hl, hc⟩ := h4 j hj
  refine ⟨b, e, fun q => ?_, hl, hc⟩
  obtain ⟨b', e', _, hc'⟩ := h4 0 (by omega)
  have eb : b' = b := by rw [e] at e'; cases e'; rfl
  have q' : b = B := q
  rw [eb, q', hb] at hc'
  cases hc'
theorem off_blkM {W : World} {v : Value} {xs : List (Int × Int)} {B : Nat} {x : ByteArray} (h : Movs W v xs) (h30 : xs.length ≤ 60) (hb : W.cell? ⟨B, 0, none⟩ = some (.string x)) : OffM (· = B) W v xs := by
  obtain ⟨a, c, h1, h2, h3, h4⟩ := h
  refine ⟨a, c, h1, h30, h3, fun j hj => ?_⟩
  obtain ⟨b, e, hl, hc⟩ := h4 j hj
  refine ⟨b, e, fun q => ?_, hl, hc⟩
  obtain ⟨b', e', _, hc', _⟩ := h4 0 (by omega)
  have eb : b' = b := by rw [e] at e'; cases e'; rfl
  have q' : b = B := q
  rw [eb, q', Nat.zero_mul, hb] at hc'
  cases hc'
end Go.Proofs.YtpdcjnkgkpbdgaaGreatDoor
