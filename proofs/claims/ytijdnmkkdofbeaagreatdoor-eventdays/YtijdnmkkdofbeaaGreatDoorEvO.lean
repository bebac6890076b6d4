/- Sorted, and what is twice dropped: the library's contracts of slices.Sort and slices.Compact in words of a row that a call owns. -/
import Derived.Test.YtijdnmkkdofbeaaGreatDoorExpO
import Derived.Test.YtijdnmkkdofbeaaGreatDoorShelf3
import Derived.Sort.OwnSortedInts
import Derived.Lib.SlicesCompact
namespace Go.Proofs.YtijdnmkkdofbeaaGreatDoor
open Go Go.RowKit Go.Sort Cal

theorem sort_ow (base : Nat) (v : Value) (zs : List Int) (w : World) (h : Ow base w v zs) (hl : zs.length ≤ 80000) :
    Calls Tryz.prog 22 #[v] w fun r w' => r = .returned (.tuple #[]) ∧ Ow base w' v (zs.mergeSort fun x y => decide (x ≤ y)) ∧ w.grownBy w' v.ownBlock := by
  rcases h.2 with ⟨rfl, h0⟩ | ⟨g, cap, cur, rfl, hb, hg, hcap, hmax, hsz, htake⟩
  · have hz : zs = [] := List.length_eq_zero_iff.1 h0
    subst hz
    refine (Tryz.slices_Sort_int_none none 0 w).mono ?_
    rintro r w' ⟨rfl, rfl⟩
    exact ⟨rfl, (by rw [show ([] : List Int).mergeSort (fun x y => decide (x ≤ y)) = [] from List.mergeSort_nil]; exact Ow.nil _ _), grown_below (Below.refl _ _) _⟩
  · have hH : Holds (Value.int .i64) w g 0 zs.toArray := holds_of_blockI hg (by simpa using htake)
    refine (Tryz.slices_Sort_int g 0 cap zs w hH (Array.getElem?_eq_some_iff.1 hg).1 (by omega)).mono ?_
    rintro r w' ⟨rfl, n, os, rfl⟩
    refine ⟨rfl, ?_, grownBy_sortedI _⟩
    show World.ownsRow _ _ _ _ _ _ _
    rw [List.length_mergeSort]
    exact ownsRow_sortedI (List.length_mergeSort _) hb hg hcap hmax hsz

theorem compact_len (zs : List Int) : (Lib.compact zs).length ≤ zs.length := by
  unfold Lib.compact Lib.compactUpTo
  rw [List.length_map]
  exact Nat.le_trans (List.length_filter_le _ _) (by simp)

theorem compact_ow (base : Nat) (v : Value) (zs : List Int) (w : World) (h : Ow base w v zs) (hl : zs.length ≤ 80000) :
    Calls Tryz.prog 23 #[v] w fun r w' => ∃ v', r = .returned v' ∧ Ow base w' v' (Lib.compact zs) ∧ w.grownBy w' v.ownBlock := by
  rcases h.2 with ⟨rfl, h0⟩ | ⟨g, cap, cur, rfl, hb, hg, hcap, hmax, hsz, htake⟩
  · have hz : zs = [] := List.length_eq_zero_iff.1 h0
    subst hz
    refine (Tryz.slices_Compact_int_empty none 0 w).mono ?_
    rintro r w' ⟨rfl, rfl⟩
    exact ⟨_, rfl, Ow.nil _ _, grown_below (Below.refl _ _) _⟩
  · have hH : Holds (Value.int .i64) w g 0 zs.toArray := holds_of_blockI hg (by simpa using htake)
    refine (Tryz.slices_Compact_int g 0 cap zs w hH (by omega) hcap).mono ?_
    rintro r w' ⟨rfl, q, rfl⟩
    have hle := compact_len zs
    have e0 : putRow (Value.int .i64) (Sort.ahead w q) g 0 (Lib.compact zs ++ List.replicate (zs.length - (Lib.compact zs).length) 0).toArray = grow (putRow (Value.int .i64) (Sort.ahead w q) g 0 (Lib.compact zs ++ List.replicate (zs.length - (Lib.compact zs).length) 0).toArray) #[] := (grow_empty _).symm
    rw [e0]
    refine ⟨_, rfl, ?_, grownBy_sortedI _⟩
    have hlen : (Lib.compact zs ++ List.replicate (zs.length - (Lib.compact zs).length) (0 : Int)).length = zs.length := by simp; omega
    refine ⟨by simp, .inr ⟨g, cap, _, rfl, hb, heap_sortedI _ hg, by omega, hmax, by simp [putCells, hsz], ?_⟩⟩
    have ht := take_putCellsI cur (Lib.compact zs ++ List.replicate (zs.length - (Lib.compact zs).length) 0) (by rw [hlen]; omega)
    rw [hlen] at ht
    have h2 := congrArg (List.take (Lib.compact zs).length) ht
    rw [List.take_take, Nat.min_eq_left hle, List.map_append, List.take_append_of_le_length (by simp), List.take_of_length_le (l := List.map (Value.int .i64) (Lib.compact zs)) (by simp)] at h2
    rw [Nat.mul_one]
    exact h2
end Go.Proofs.YtijdnmkkdofbeaaGreatDoor
