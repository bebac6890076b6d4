/- The library's own contracts of some functions more, laid at this program. -/
import Derived.Shelf.Strings.Builder1
import Derived.Shelf.Strings.Builder2
import Derived.Shelf.Strings.OnBuilder
import Derived.Shelf.Small.Bits
import Derived.Shelf.Small.Wraps
import Derived.Shelf.Strings.BuilderF
import Derived.Shelf.Strings.BuilderK
import Derived.Shelf.Utf8.RuneCount
import Derived.Shelf.Strconv.Atoi
import Derived.Shelf.Strconv.Itoa0
import Derived.Shelf.Strconv.Itoa1
import Derived.Shelf.LaysM
import Derived.Shelf.Strconv.Itoa2
import Derived.Shelf.Strconv.Itoa3
import Derived.Shelf.Strconv.AtoiErrFast
import Derived.Shelf.Strconv.ParseIntEmpty
import Derived.Shelf.Strconv.AtoiFail
import Derived.Shelf.Strconv.Clone
import Derived.Shelf.Strconv.SyntaxError
import Derived.Shelf.LaysC
import Derived.Shelf.Strconv.ToError
import Derived.Shelf.Strconv.AtoiErr
import Derived.Shelf.Strconv.Lower
import Derived.Shelf.Strconv.ParseUint10
import Derived.Shelf.Strconv.ParseUint10Empty
import Derived.Shelf.Strconv.ParseUint10Any
import Derived.Shelf.Strconv.ParseInt10
import Derived.Shelf.Strconv.AtoiLong
import Derived.Shelf.Strconv.AtoiInnerAll
import Derived.Shelf.Strconv.RangeError
import Derived.Shelf.Strconv.ToErrorRange
import Derived.Shelf.Strconv.AtoiAll
import Derived.Shelf.Strings.Search1
import Derived.Shelf.Strings.Search2
import Derived.Shelf.Strings.Search3
import Derived.Shelf.Strings.Cut
import Derived.Shelf.Strings.Count
import Derived.Shelf.Strings.Shaped
import Derived.Shelf.Sort.Plain
import Derived.Shelf.Strings.Split
import Derived.Shelf.Strings.SplitShaped
import Derived.Shelf.Unicode.Decode
import Derived.Shelf.Strings.RuneCount
import Derived.Shelf.Strings.Explode
import Derived.Shelf.Unicode.DecodeSlow
import Derived.Shelf.Unicode.DecodeAny
import Derived.Shelf.Slices.Turned
import Derived.Ground.Names2Prog
import Derived.Shelf.Slices.Clone
import Derived.Shelf.Slices.CompactI
import Derived.Shelf.Slices.CompactS
import Derived.Shelf.Slices.SearchI
import Derived.Shelf.Slices.Cells
import Derived.Shelf.Slices.In.SortNone
import Derived.Ground.SlgnProg
import Derived.Shelf.SlicesE.Clone
import Derived.Test.YtekminpoiokgfaaGreatDoorProg
import Derived.Test.YtekminpoiokgfaaGreatDoorYaZ
import Derived.Sort.OwnSorted
import Derived.Lib.SlicesCompact
import Derived.Lib.AppendZerosOnto
import Derived.Test.YtekminpoiokgfaaGreatDoorYaX
namespace Go.Proofs
open Go.Shelf
def Tryz.lays190_ren : Go.Shelf.Ren := ⟨fun | 190 => 38 | 125 => 64 | 258 => 63 | 128 => 96 | 129 => 97 | 302 => 87 | 303 => 88 | 304 => 89 | 305 => 90 | 306 => 91 | 307 => 92 | 308 => 93 | 309 => 94 | 310 => 95 | 333 => 119 | 329 => 120 | 330 => 121 | 334 => 122 | 335 => 123 | 336 => 124 | 344 => 149 | n => n, fun | 31 => 37 | 9 => 9 | 3 => 3 | 46 => 108 | 0 => 0 | 51 => 134 | 53 => 136 | 4 => 4 | 183 => 127 | 182 => 126 | 131 => 131 | 5 => 5 | 218 => 160 | 222 => 164 | 228 => 190 | 229 => 191 | n => n, fun | n => n⟩
theorem Tryz.lays190 : Go.Proofs.Lays.n190 Tryz.prog Tryz.lays190_ren := {
  mixed := by kernel_rfl
  f125 := Tryz.func64.trans (congrArg some (by kernel_rfl))
  f128 := Tryz.func96.trans (congrArg some (by kernel_rfl))
  f129 := Tryz.func97.trans (congrArg some (by kernel_rfl))
  f190 := Tryz.func38.trans (congrArg some (by kernel_rfl))
  f258 := Tryz.func63.trans (congrArg some (by kernel_rfl))
  f302 := Tryz.func87.trans (congrArg some (by kernel_rfl))
  f303 := Tryz.func88.trans (congrArg some (by kernel_rfl))
  f304 := Tryz.func89.trans (congrArg some (by kernel_rfl))
  f305 := Tryz.func90.trans (congrArg some (by kernel_rfl))
  f306 := Tryz.func91.trans (congrArg some (by kernel_rfl))
  f307 := Tryz.func92.trans (congrArg some (by kernel_rfl))
  f308 := Tryz.func93.trans (congrArg some (by kernel_rfl))
  f309 := Tryz.func94.trans (congrArg some (by kernel_rfl))
  f310 := Tryz.func95.trans (congrArg some (by kernel_rfl))
  f329 := Tryz.func120.trans (congrArg some (by kernel_rfl))
  f330 := Tryz.func121.trans (congrArg some (by kernel_rfl))
  f333 := Tryz.func119.trans (congrArg some (by kernel_rfl))
  f334 := Tryz.func122.trans (congrArg some (by kernel_rfl))
  f335 := Tryz.func123.trans (congrArg some (by kernel_rfl))
  f336 := Tryz.func124.trans (congrArg some (by kernel_rfl))
  f344 := Tryz.func149.trans (congrArg some (by kernel_rfl))
  t0 := Tryz.underlying0
  a0 := Tryz.isAgg0
  z0 := Tryz.sizeOf0
  v0 := Tryz.zeroValue0
  t3 := Tryz.underlying3
  a3 := Tryz.isAgg3
  z3 := Tryz.sizeOf3
  v3 := Tryz.zeroValue3
  t4 := Tryz.underlying4
  a4 := Tryz.isAgg4
  z4 := Tryz.sizeOf4
  v4 := Tryz.zeroValue4
  t5 := Tryz.underlying5
  a5 := Tryz.isAgg5
  z5 := Tryz.sizeOf5
  v5 := Tryz.zeroValue5
  t9 := Tryz.underlying9
  a9 := Tryz.isAgg9
  z9 := Tryz.sizeOf9
  v9 := Tryz.zeroValue9
  t31 := Tryz.underlying37
  a31 := Tryz.isAgg37
  z31 := Tryz.sizeOf37
  v31 := Tryz.zeroValue37
  t46 := Tryz.underlying108
  a46 := Tryz.isAgg108
  z46 := Tryz.sizeOf108
  v46 := Tryz.zeroValue108
  t51 := Tryz.underlying134
  a51 := Tryz.isAgg134
  z51 := Tryz.sizeOf134
  v51 := Tryz.zeroValue134
  t53 := Tryz.underlying136
  a53 := Tryz.isAgg136
  z53 := Tryz.sizeOf136
  v53 := Tryz.zeroValue136
  t131 := Tryz.underlying131
  a131 := Tryz.isAgg131
  z131 := Tryz.sizeOf131
  v131 := Tryz.zeroValue131
  t182 := Tryz.underlying126
  a182 := Tryz.isAgg126
  z182 := Tryz.sizeOf126
  v182 := Tryz.zeroValue126
  t183 := Tryz.underlying127
  a183 := Tryz.isAgg127
  z183 := Tryz.sizeOf127
  v183 := Tryz.zeroValue127
  t218 := Tryz.underlying160
  a218 := Tryz.isAgg160
  z218 := Tryz.sizeOf160
  v218 := Tryz.zeroValue160
  t222 := Tryz.underlying164
  a222 := Tryz.isAgg164
  z222 := Tryz.sizeOf164
  v222 := Tryz.zeroValue164
  t228 := Tryz.underlying190
  a228 := Tryz.isAgg190
  z228 := Tryz.sizeOf190
  v228 := Tryz.zeroValue190
  t229 := Tryz.underlying191
  a229 := Tryz.isAgg191
  z229 := Tryz.sizeOf191
  v229 := Tryz.zeroValue191 }
open Go.Sort Go.RowKit in
theorem Tryz.slices_Sort_string (blk off cap : Nat) (ss : List (List UInt8)) (w : World) (hH : Holds encStr w blk off ss.toArray) (hblk : blk < w.heap.size) (hsz : ss.length < 4611686018427387904) :
    Calls Tryz.prog 38 #[.slice (some ⟨blk, off, none⟩) ss.length cap] w fun e w' =>
      e = .returned (.tuple #[]) ∧ ∃ n os, w' = grow (putRow encStr (Sort.ahead w n) blk off (ss.mergeSort fun x y => decide (x ≤ y)).toArray) os := Any.slices_Sort_string Tryz.lays190 blk off cap ss w hH hblk hsz
open Go.RowKit Go.Sort in
theorem Tryz.slices_Sort_string_none (p : Option Addr) (cap : Nat) (w : World) :
    Calls Tryz.prog 38 #[.slice p 0 cap] w fun e w' => e = .returned (.tuple #[]) ∧ w' = w := Any.slices_Sort_string_none Tryz.lays190 p cap w
def Tryz.lays194_ren : Go.Shelf.Ren := ⟨fun | 194 => 39 | n => n, fun | 31 => 37 | 9 => 9 | 3 => 3 | 4 => 4 | 0 => 0 | n => n, fun | n => n⟩
theorem Tryz.lays194 : Go.Proofs.Lays.n194 Tryz.prog Tryz.lays194_ren := {
  mixed := by kernel_rfl
  f194 := Tryz.func39.trans (congrArg some (by kernel_rfl))
  t0 := Tryz.underlying0
  a0 := Tryz.isAgg0
  z0 := Tryz.sizeOf0
  v0 := Tryz.zeroValue0
  t3 := Tryz.underlying3
  a3 := Tryz.isAgg3
  z3 := Tryz.sizeOf3
  v3 := Tryz.zeroValue3
  t4 := Tryz.underlying4
  a4 := Tryz.isAgg4
  z4 := Tryz.sizeOf4
  v4 := Tryz.zeroValue4
  t9 := Tryz.underlying9
  a9 := Tryz.isAgg9
  z9 := Tryz.sizeOf9
  v9 := Tryz.zeroValue9
  t31 := Tryz.underlying37
  a31 := Tryz.isAgg37
  z31 := Tryz.sizeOf37
  v31 := Tryz.zeroValue37 }
open Go.RowKit Go.Lib Go.Sort in
theorem Tryz.slices_Compact_string (blk off cap : Nat) (zs : List (List UInt8)) (w : World) (hH : Holds encStr w blk off zs.toArray) (hsz : zs.length ≤ 9223372036854775807) (hcap : zs.length ≤ cap) :
    Calls Tryz.prog 39 #[.slice (some ⟨blk, off, none⟩) zs.length cap] w fun e w' => e = .returned (.slice (some ⟨blk, off, none⟩) (Lib.compact zs).length cap) ∧ ∃ q, w' = putRow encStr (Sort.ahead w q) blk off (Lib.compact zs ++ List.replicate (zs.length - (Lib.compact zs).length) []).toArray := Any.slices_Compact_string Tryz.lays194 blk off cap zs w hH hsz hcap
open Go.RowKit Go.Lib Go.Sort in
theorem Tryz.slices_Compact_string_empty (a : Option Addr) (cap : Nat) (w : World) :
    Calls Tryz.prog 39 #[.slice a 0 cap] w fun e w' => e = .returned (.slice a 0 cap) ∧ w' = w := Any.slices_Compact_string_empty Tryz.lays194 a cap w
end Go.Proofs

/- Rows of texts that a call owns: sorted, and what is twice dropped; slices.Grow and slices.Concat; package diff's idsOf. -/
namespace Go.Proofs.YtekminpoiokgfaaGreatDoor
open Go Go.RowKit Go.Sort Cal
attribute [local go_sem] Oper.semAt_some

/-- a row of texts that a call owns -/
def OwS (base : Nat) (W : World) (v : Value) (ss : List (List UInt8)) : Prop := W.ownsRow base 9 1 v ss.length (ss.map encStr)
theorem OwS.nil (base : Nat) (W : World) : OwS base W (.slice none 0 0) [] := World.ownsRow_nil _ _ _ _
theorem OwS.far {base : Nat} {W W' : World} {v : Value} {ss : List (List UInt8)} (h : OwS base W v ss) (hk : ∀ k, base ≤ k → k < W.heap.size → W'.heap[k]? = W.heap[k]?) : OwS base W' v ss := by
  refine ⟨h.1, ?_⟩
  rcases h.2 with h2 | ⟨g, cap, cur, hv, hb, hg, r⟩
  · exact .inl h2
  · exact .inr ⟨g, cap, cur, hv, hb, (hk g hb (Array.getElem?_eq_some_iff.1 hg).1).trans hg, r⟩
theorem sort_ows (base : Nat) (v : Value) (zs : List (List UInt8)) (w : World) (h : OwS base w v zs) (hl : zs.length ≤ 80000) :
    Calls Tryz.prog 38 #[v] w fun r w' => r = .returned (.tuple #[]) ∧ OwS base w' v (zs.mergeSort fun x y => decide (x ≤ y)) ∧ w.grownBy w' v.ownBlock := by
  rcases h.2 with ⟨rfl, h0⟩ | ⟨g, cap, cur, rfl, hb, hg, hcap, hmax, hsz, htake⟩
  · have hz : zs = [] := List.length_eq_zero_iff.1 h0
    subst hz
    refine (Tryz.slices_Sort_string_none none 0 w).mono ?_
    rintro r w' ⟨rfl, rfl⟩
    exact ⟨rfl, (by rw [show ([] : List (List UInt8)).mergeSort (fun x y => decide (x ≤ y)) = [] from List.mergeSort_nil]; exact OwS.nil _ _), grown_below (Below.refl _ _) _⟩
  · have hH : Go.Sort.Holds encStr w g 0 zs.toArray := holds_of_block hg (by simpa using htake)
    refine (Tryz.slices_Sort_string g 0 cap zs w hH (Array.getElem?_eq_some_iff.1 hg).1 (by omega)).mono ?_
    rintro r w' ⟨rfl, n, os, rfl⟩
    refine ⟨rfl, ?_, grownBy_sorted _⟩
    show World.ownsRow _ _ _ _ _ _ _
    rw [List.length_mergeSort]
    exact ownsRow_sorted (List.length_mergeSort _) hb hg hcap hmax hsz
theorem compact_lenS (zs : List (List UInt8)) : (Lib.compact zs).length ≤ zs.length := by
  unfold Lib.compact Lib.compactUpTo
  rw [List.length_map]
  exact Nat.le_trans (List.length_filter_le _ _) (by simp)
theorem compact_ows (base : Nat) (v : Value) (zs : List (List UInt8)) (w : World) (h : OwS base w v zs) (hl : zs.length ≤ 80000) :
    Calls Tryz.prog 39 #[v] w fun r w' => ∃ v', r = .returned v' ∧ OwS base w' v' (Lib.compact zs) ∧ w.grownBy w' v.ownBlock := by
  rcases h.2 with ⟨rfl, h0⟩ | ⟨g, cap, cur, rfl, hb, hg, hcap, hmax, hsz, htake⟩
  · have hz : zs = [] := List.length_eq_zero_iff.1 h0
    subst hz
    refine (Tryz.slices_Compact_string_empty none 0 w).mono ?_
    rintro r w' ⟨rfl, rfl⟩
    exact ⟨_, rfl, OwS.nil _ _, grown_below (Below.refl _ _) _⟩
  · have hH : Go.Sort.Holds encStr w g 0 zs.toArray := holds_of_block hg (by simpa using htake)
    refine (Tryz.slices_Compact_string g 0 cap zs w hH (by omega) hcap).mono ?_
    rintro r w' ⟨rfl, q, rfl⟩
    have hle := compact_lenS zs
    have e0 : putRow encStr (Sort.ahead w q) g 0 (Lib.compact zs ++ List.replicate (zs.length - (Lib.compact zs).length) []).toArray = grow (putRow encStr (Sort.ahead w q) g 0 (Lib.compact zs ++ List.replicate (zs.length - (Lib.compact zs).length) []).toArray) #[] := (grow_empty _).symm
    rw [e0]
    refine ⟨_, rfl, ?_, grownBy_sorted _⟩
    have hlen : (Lib.compact zs ++ List.replicate (zs.length - (Lib.compact zs).length) ([] : List UInt8)).length = zs.length := by simp; omega
    refine ⟨by simp, .inr ⟨g, cap, _, rfl, hb, heap_sorted _ hg, by omega, hmax, by simp [putCells, hsz], ?_⟩⟩
    have ht := take_putCells cur (Lib.compact zs ++ List.replicate (zs.length - (Lib.compact zs).length) []) (by rw [hlen]; omega)
    rw [hlen] at ht
    have h2 := congrArg (List.take (Lib.compact zs).length) ht
    rw [List.take_take, Nat.min_eq_left hle, List.map_append, List.take_append_of_le_length (by simp), List.take_of_length_le (l := List.map encStr (Lib.compact zs)) (by simp)] at h2
    rw [Nat.mul_one]
    exact h2

open Go.Lib in
theorem compactUpTo_factsS (zs : List (List UInt8)) (hs : zs.Pairwise (· ≤ ·)) : ∀ m, m ≤ zs.length → (compactUpTo zs.toArray m).Pairwise (· < ·) ∧ (∀ x, x ∈ compactUpTo zs.toArray m ↔ ∃ (j : Nat) (h : j < zs.length), j < m ∧ zs[j] = x)
  | 0, _ => ⟨List.Pairwise.nil, fun x => ⟨fun h => absurd h (by simp [compactUpTo]), fun ⟨_, _, h, _⟩ => by omega⟩⟩
  | m + 1, hm => by
    obtain ⟨ih1, ih2⟩ := compactUpTo_factsS zs hs m (by omega)
    have hlt : m < zs.length := by omega
    have em : zs.toArray[m]! = zs[m] := by simp [hlt]
    rw [compactUpTo_succ]
    by_cases hk : keeps zs.toArray m = true
    · rw [if_pos hk, em]
      refine ⟨List.pairwise_append.2 ⟨ih1, List.pairwise_singleton _ _, fun x hx y hy => ?_⟩, fun x => ?_⟩
      · rw [List.mem_singleton] at hy
        subst hy
        obtain ⟨j, hj, hjm, rfl⟩ := (ih2 x).1 hx
        unfold keeps at hk
        rw [decide_eq_true_iff] at hk
        have hm0 : m ≠ 0 := by omega
        have e1 : zs.toArray[m - 1]! = zs[m - 1] := by simp [show m - 1 < zs.length by omega]
        have hne : zs[m] ≠ zs[m - 1] := by
          rcases hk with q | q
          · exact absurd q hm0
          · rwa [em, e1] at q
        have p1 : zs[m - 1] ≤ zs[m] := List.pairwise_iff_getElem.1 hs (m - 1) m (by omega) hlt (by omega)
        have p2 : zs[j] ≤ zs[m - 1] := by
          rcases Nat.lt_or_ge j (m - 1) with q | q
          · exact List.pairwise_iff_getElem.1 hs j (m - 1) hj (by omega) q
          · have : j = m - 1 := by omega
            subst this; exact List.le_refl _
        exact List.lt_of_le_of_lt p2 (Std.lt_of_le_of_ne p1 (fun z => hne z.symm))
      · rw [List.mem_append, List.mem_singleton, ih2]
        constructor
        · rintro (⟨j, hj, h1, h2⟩ | rfl)
          · exact ⟨j, hj, by omega, h2⟩
          · exact ⟨m, hlt, by omega, rfl⟩
        · rintro ⟨j, hj, h1, h2⟩
          rcases Nat.lt_or_ge j m with q | q
          · exact .inl ⟨j, hj, q, h2⟩
          · have : j = m := by omega
            subst this; exact .inr h2.symm
    · rw [if_neg hk, List.append_nil]
      refine ⟨ih1, fun x => ?_⟩
      rw [ih2]
      constructor
      · rintro ⟨j, hj, h1, h2⟩; exact ⟨j, hj, by omega, h2⟩
      · rintro ⟨j, hj, h1, h2⟩
        rcases Nat.lt_or_ge j m with q | q
        · exact ⟨j, hj, q, h2⟩
        · have : j = m := by omega
          subst this
          unfold keeps at hk
          rw [decide_eq_true_iff] at hk
          have hm0 : j ≠ 0 := fun q => hk (.inl q)
          have e1 : zs.toArray[j - 1]! = zs[j - 1] := by simp [show j - 1 < zs.length by omega]
          have he : zs[j] = zs[j - 1] := Classical.byContradiction (fun q => hk (.inr (by rw [em, e1]; exact q)))
          exact ⟨j - 1, by omega, by omega, by rw [← he]; exact h2⟩


/-- texts that were sorted, what is twice dropped: they rise, and all are there -/
theorem compact_sortS (l : List (List UInt8)) : (Go.Lib.compact (l.mergeSort fun x y => decide (x ≤ y))).Pairwise (· < ·) ∧ ∀ x, x ∈ Go.Lib.compact (l.mergeSort fun x y => decide (x ≤ y)) ↔ x ∈ l := by
  have hs : (l.mergeSort fun x y => decide (x ≤ y)).Pairwise (· ≤ ·) := by
    have := List.pairwise_mergeSort (le := fun (x y : List UInt8) => decide (x ≤ y)) (fun a b c h1 h2 => decide_eq_true (List.le_trans (of_decide_eq_true h1) (of_decide_eq_true h2))) (fun a b => by
      rcases List.le_total a b with q | q
      · rw [decide_eq_true q]; rfl
      · rw [decide_eq_true q, Bool.or_true]) l
    exact this.imp (fun h => of_decide_eq_true h)
  obtain ⟨h1, h2⟩ := compactUpTo_factsS _ hs _ (Nat.le_refl _)
  refine ⟨h1, fun x => ?_⟩
  refine (h2 x).trans ?_
  rw [← List.mem_mergeSort (l := l) (le := fun x y => decide (x ≤ y)), List.mem_iff_getElem]
  constructor
  · rintro ⟨j, hj, _, e⟩; exact ⟨j, hj, e⟩
  · rintro ⟨j, hj, e⟩; exact ⟨j, hj, hj, e⟩

/-! ### slices.Grow of a nil slice -/
theorem growS_zero (w : World) : Calls Tryz.prog 62 #[.slice none 0 0, .int .i64 0] w fun r w' => r = .returned (.slice none 0 0) ∧ w' = w := by
  go_enter Tryz.func62, Tryz.ntmps62
  go_wp2
  go_ret
  exact ⟨rfl, rfl⟩

set_option maxHeartbeats 1000000 in
theorem growS_pos (n : Nat) (w : World) (h1 : 1 ≤ n) (h2 : n ≤ 100000) : Calls Tryz.prog 62 #[.slice none 0 0, .int .i64 n] w fun r w' => ∃ g cap, r = .returned (.slice (some ⟨g, 0, none⟩) 0 cap) ∧ OwS w.heap.size w' (.slice (some ⟨g, 0, none⟩) 0 cap) [] ∧ Below w.heap.size w w' := by
  obtain ⟨i0, hi, hz0, hz1, hz2⟩ := info_parts info_str
  have hold : (Builtin.firstCells i0.size 0 (.slice none 0 0)).run Tryz.prog w.drew = .ok ([] : List Value).toArray w.drew := run_firstCells_none w.drew i0.size 0 0 0
  have hrz : ∀ ty, (Builtin.append_ #[37, 3] ty #[.slice none 0 0, .int .i64 (n : Int)]).run Tryz.prog w =
      .ok (.slice (some ⟨w.heap.size, 0, none⟩) n (grownCap w n 0 9)) (w.drew.alloc (.cells (([] : List Value).toArray ++ Builtin.zeroCells (Value.string ⟨#[]⟩).cells n ++ Builtin.zeroCells (Value.string ⟨#[]⟩).cells (grownCap w n 0 9 - n)) 9)) := fun ty => by
    have h := Lib.run_append_grow_zeros w 37 3 ty 9 i0 (.string ⟨#[]⟩) .i64 .i64 Tryz.underlying37 Tryz.underlying3 hi hz0 none 0 0 [] hold n (by omega) (by rw [hz1]; decide) (by omega) (by omega) (by rw [hz2]; omega) (by rw [Nat.zero_add]; exact growslice_fits (by omega) (by rw [hz2]; omega))
    rw [Nat.zero_add] at h
    exact h
  have hG := grownCap_ge w n 0 9
  have hGm := grownCap_le_maxLen w n 0 9 (by unfold maxLen; omega)
  have hGi : (grownCap w n 0 9 : Int) ≤ 9223372036854775807 := by unfold maxLen at hGm; omega
  generalize grownCap w n 0 9 = G at hrz hG hGm hGi
  have HW : Hid (OwS w.heap.size (w.drew.alloc (.cells (([] : List Value).toArray ++ Builtin.zeroCells (Value.string ⟨#[]⟩).cells n ++ Builtin.zeroCells (Value.string ⟨#[]⟩).cells (G - n)) 9)) (.slice (some ⟨w.heap.size, 0, none⟩) 0 G) [] ∧ Below w.heap.size w (w.drew.alloc (.cells (([] : List Value).toArray ++ Builtin.zeroCells (Value.string ⟨#[]⟩).cells n ++ Builtin.zeroCells (Value.string ⟨#[]⟩).cells (G - n)) 9))) := by
    refine ⟨⟨rfl, .inr ⟨w.heap.size, G, _, rfl, Nat.le_refl _, block_at (W := w.drew) _ rfl, by simp, hGm, ?_, by simp⟩⟩, below_then (drew_below _) (below_alloc _ _)⟩
    simp [size_zeroCells, Value.cells]
    omega
  clear hold hi hz0 hz1 hz2 hGm
  generalize w.drew.alloc (.cells (([] : List Value).toArray ++ Builtin.zeroCells (Value.string ⟨#[]⟩).cells n ++ Builtin.zeroCells (Value.string ⟨#[]⟩).cells (G - n)) 9) = W' at hrz HW
  go_enter Tryz.func62, Tryz.ntmps62
  go_wp2_with (at_builtin; refine Lib.wpList_append_run _ rfl _ _ _ _ rfl _ _ rfl rfl _ _ (hrz _) ?_)
  all_goals
    go_ret
    exact ⟨_, _, rfl, HW.out.1, HW.out.2⟩

/-- append of a row of texts to one that is owned -/
theorem app_ows {ops : Array Oper} {rest : List Oper} {o : Oper} {a : Act} {Q : Exit → Act → World → Prop} {w : World} (hgd : o.guard = none) (s x : Operand)
    (ho : o.op = .call { callee := .builtin .append, args := #[s, x], argTypes := #[37, 37] })
    (base b2 : Nat) (xs : List (List UInt8)) (ys : List ByteArray) (v u : Value) (hs : a.eval s = v) (hown : OwS base w v xs) (hx : a.eval x = u) (hg : RowV b2 w u ys) (hl : xs.length + ys.length ≤ 100000) (hbase : base ≤ w.heap.size)
    (h : ∀ v' w', OwS base w' v' (xs ++ ys.map fun y => y.data.toList) → Below base w w' → wpList Tryz.prog ops Q rest (a.put o.dst v') w') : wpList Tryz.prog ops Q (o :: rest) a w := by
  obtain ⟨i0, hi, hz0, hz1, hz2⟩ := info_parts info_str
  rcases hg with ⟨rfl, rfl⟩ | ⟨B, cap, rfl, _, hr⟩
  · refine wpList_append_own_none hgd s x 37 ho base 9 i0 1 Tryz.underlying37 hi v xs.length (xs.map encStr) hs hown hx ?_
    exact h v w (by rw [List.map_nil, List.append_nil]; exact hown) (Below.refl _ _)
  · refine wpList_append_own w hgd s x 37 ho base 9 i0 (.string ⟨#[]⟩) 1 16 Tryz.underlying37 hi hz0 hz1 hz2 rfl (by decide) v xs.length (xs.map encStr) hs hown ⟨B, 0, none⟩ ys.length cap (ys.map Value.string) hx (by simp) ?_ (fun v hv => by obtain ⟨x, _, rfl⟩ := List.mem_map.1 hv; rfl) (by unfold maxLen; omega) (by omega) hbase ?_
    · intro j v hv
      rw [List.getElem?_map] at hv
      obtain ⟨d, hd, rfl⟩ := Option.map_eq_some_iff.1 hv
      obtain ⟨hj, rfl⟩ := List.getElem?_eq_some_iff.1 hd
      have := hr.cell j hj
      cases j with
      | zero => exact this
      | succ j => simpa [Addr.add] using this
    · intro v' w' h1 h2 _
      refine h v' w' ?_ ?_
      · unfold OwS
        rw [List.length_append, List.length_map, List.map_append, List.map_map]
        exact h1
      · exact ⟨h2.os, h2.tape, h2.output, h2.size, fun k hk => h2.block k (by omega) (fun q => by have := (World.ownsRow.lt hown k q.symm).1; omega)⟩

theorem rowV_form {b : Nat} {W : World} {v : Value} {l : List ByteArray} (h : RowV b W v l) : ∃ a c, v = .slice a l.length c := by
  rcases h with ⟨rfl, rfl⟩ | ⟨B, cap, rfl, _⟩
  · exact ⟨_, _, rfl⟩
  · exact ⟨_, _, rfl⟩
theorem rowV_step {b : Nat} {W W' : World} {v : Value} {l : List ByteArray} (h : RowV b W v l) (hb : Below W.heap.size W W') : RowV b W' v l := by
  rcases h with h | ⟨B, cap, h1, h2, h3⟩
  · exact .inl h
  · obtain ⟨⟨cur, q1, q2, q3⟩, q4⟩ := h3
    exact .inr ⟨B, cap, h1, h2, ⟨cur, (hb.block _ (Array.getElem?_eq_some_iff.1 q1).1).trans q1, q2, q3⟩, q4⟩
theorem OwS.form {base : Nat} {W : World} {v : Value} {ss : List (List UInt8)} (h : OwS base W v ss) : ∃ a c, v = .slice a ss.length c := by
  rcases h.2 with ⟨rfl, h0⟩ | ⟨g, cap, cur, rfl, _⟩
  · exact ⟨_, _, by rw [h0]⟩
  · exact ⟨_, _, rfl⟩

set_option maxHeartbeats 2000000 in
set_option maxRecDepth 100000 in
theorem concatS_any (B b1 : Nat) (v1 v2 : Value) (l1 l2 : List ByteArray) (w : World) (h1 : RowV b1 w v1 l1) (h2 : RowV b1 w v2 l2) (hc : w.heap[B]? = some (.cells #[v1, v2] 37 (0, 0))) (hl1 : l1.length ≤ 1000) (hl2 : l2.length ≤ 1000) :
    Calls Tryz.prog 37 #[.slice (some ⟨B, 0, none⟩) 2 2] w fun r w' => ∃ v', r = .returned v' ∧ OwS w.heap.size w' v' ((l1 ++ l2).map fun y => y.data.toList) ∧ Below w.heap.size w w' := by
  have H1 : Hid (RowV b1 w v1 l1) := h1
  have H2 : Hid (RowV b1 w v2 l2) := h2
  obtain ⟨a1, k1, rfl⟩ := rowV_form h1
  obtain ⟨a2, k2, rfl⟩ := rowV_form h2
  have x0 : w.cell? ⟨B, 0, none⟩ = some (.slice a1 l1.length k1) := by simp [World.cell?, hc]
  have x1 : w.cell? ⟨B, 1, none⟩ = some (.slice a2 l2.length k2) := by simp [World.cell?, hc]
  have HL1 : Hid (_) := hl1
  have HL2 : Hid (_) := hl2
  generalize hn1 : l1.length = n1 at hl1 x0 H1 hc
  generalize hn2 : l2.length = n2 at hl2 x1 H2 hc
  have HN1 : Hid (l1.length = n1) := hn1
  have HN2 : Hid (l2.length = n2) := hn2
  have X0 : Hid (∀ W, Below w.heap.size w W → W.cell? ⟨B, 0, none⟩ = some (.slice a1 n1 k1)) := fun W hW => cell_step x0 hW
  have X1 : Hid (∀ W, Below w.heap.size w W → W.cell? ⟨B, 1, none⟩ = some (.slice a2 n2 k2)) := fun W hW => cell_step x1 hW
  have GR : Hid (Calls Tryz.prog 62 #[.slice none 0 0, .int .i64 ((n1 + n2 : Nat) : Int)] w fun r w' => ∃ a c, r = .returned (.slice a 0 c) ∧ OwS w.heap.size w' (.slice a 0 c) [] ∧ Below w.heap.size w w') := by
    by_cases hz : n1 + n2 = 0
    · rw [hz]
      refine Calls.mono (growS_zero w) ?_
      rintro r w' ⟨rfl, rfl⟩
      exact ⟨none, 0, rfl, OwS.nil _ _, Below.refl _ _⟩
    · refine Calls.mono (growS_pos (n1 + n2) w (by omega) (by omega)) ?_
      rintro r w' ⟨g, cap, rfl, ho, hb⟩
      exact ⟨_, _, rfl, ho, hb⟩
  clear h1 h2 hn1 hn2 hc
  go_enter Tryz.func37, Tryz.ntmps37
  go_wp2
  go_loop [3, 5, 11] (fun n _ i => ((i = .int .i64 0 ∧ n = .int .i64 0) ∨ (i = .int .i64 1 ∧ n = .int .i64 n1)) ∨ (i = .int .i64 2 ∧ n = .int .i64 ((n1 + n2 : Nat) : Int))) (fun _ _ i => 2 - (intOf i).toNat)
  case atStart => exact .inl (.inl ⟨rfl, rfl⟩)
  case round =>
    rcases hrel with (⟨rfl, rfl⟩ | ⟨rfl, rfl⟩) | ⟨rfl, rfl⟩
    · go_wp2
      go_round
      case rel => exact .inl (.inr ⟨rfl, by go_num⟩)
      case measure => simp [intOf]
    · go_wp2
      go_round
      case rel => exact .inr ⟨rfl, by go_num⟩
      case measure => simp [intOf]
    · clear x0 x1
      go_wp2_with (go_at_call 62; refine Calls.mono GR.out ?_; rintro r w1 ⟨ga, gc, rfl, ho1, hb1⟩)
      have HO1 : Hid (OwS w.heap.size w1 (.slice ga 0 gc) []) := ho1
      have HB1 : Hid (Below w.heap.size w w1) := hb1
      clear ho1 hb1 GR
      go_loopw [6, 8, 27] (fun v _ i wr => Hid (Below w.heap.size w wr) ∧ (((i = .int .i64 0 ∧ Hid (OwS w.heap.size wr v [])) ∨ (i = .int .i64 1 ∧ Hid (OwS w.heap.size wr v (l1.map fun y => y.data.toList)))) ∨ (i = .int .i64 2 ∧ Hid (OwS w.heap.size wr v ((l1 ++ l2).map fun y => y.data.toList))))) (fun _ _ i _ => 2 - (intOf i).toNat)
      case atStart => exact ⟨HB1.out, .inl (.inl ⟨rfl, HO1.out⟩)⟩
      case round =>
        obtain ⟨HB, hr⟩ := hrel
        have hzw : w.heap.size ≤ wr.heap.size := HB.out.size
        rcases hr with (⟨rfl, HO⟩ | ⟨rfl, HO⟩) | ⟨rfl, HO⟩
        · have x0 := X0.out wr HB.out
          obtain ⟨oa, oc, rfl⟩ := HO.out.form
          have HR1 : Hid (RowV b1 wr (.slice a1 n1 k1) l1) := rowV_step H1.out HB.out
          have hl : ([] : List (List UInt8)).length + l1.length ≤ 100000 := by have := HL1.out; simp; omega
          have HLL : Hid (_) := hl
          clear hl
          go_wp2_with (first
            | (at_builtin; refine app_ows rfl _ _ rfl w.heap.size b1 [] l1 _ _ rfl HO.out rfl HR1.out HLL.out hzw ?_; intro v' w3 ho3 hb3; have HO3 : Hid (OwS w.heap.size w3 v' (l1.map fun y => y.data.toList)) := ho3; have HB3 : Hid (Below w.heap.size w w3) := ⟨hb3.os.trans HB.out.os, hb3.tape.trans HB.out.tape, hb3.output.trans HB.out.output, Nat.le_trans HB.out.size hb3.size, fun k hk => (hb3.block k hk).trans (HB.out.block k hk)⟩; obtain ⟨na, nc, rfl⟩ := HO3.out.form; clear ho3 hb3)
            | go_in)
          go_roundw
          case rel => exact ⟨HB3.out, .inl (.inr ⟨rfl, by have := HO3.out; rw [List.length_map] at this; exact this⟩)⟩
          case measure => simp [intOf]
        · have x1 := X1.out wr HB.out
          obtain ⟨oa, oc, rfl⟩ := HO.out.form
          have HR2 : Hid (RowV b1 wr (.slice a2 n2 k2) l2) := rowV_step H2.out HB.out
          have hl : (l1.map fun y => y.data.toList).length + l2.length ≤ 100000 := by have := HL1.out; have := HL2.out; rw [List.length_map]; omega
          have HLL : Hid (_) := hl
          have hml : (l1.map fun y => y.data.toList).length = n1 := by rw [List.length_map]; exact HN1.out
          have HML : Hid (_) := hml
          clear hl
          generalize hLL : (l1.map fun y => y.data.toList) = L1 at HO HLL hml ⊢
          have HL : Hid (∀ (x : List (List UInt8)), x = L1 ++ l2.map (fun y => y.data.toList) → x = (l1 ++ l2).map fun y => y.data.toList) := fun x e => by rw [e, ← hLL, List.map_append]
          generalize L1.length = ll at HO hml ⊢
          clear hLL hml HML
          go_wp2_with (first
            | (at_builtin; refine app_ows rfl _ _ rfl w.heap.size b1 L1 l2 _ _ rfl HO.out rfl HR2.out HLL.out hzw ?_; intro v' w3 ho3 hb3; have HO3 : Hid (OwS w.heap.size w3 v' ((l1 ++ l2).map fun y => y.data.toList)) := (by rw [← HL.out _ rfl]; exact ho3); have HB3 : Hid (Below w.heap.size w w3) := ⟨hb3.os.trans HB.out.os, hb3.tape.trans HB.out.tape, hb3.output.trans HB.out.output, Nat.le_trans HB.out.size hb3.size, fun k hk => (hb3.block k hk).trans (HB.out.block k hk)⟩; obtain ⟨na, nc, rfl⟩ := HO3.out.form; clear ho3 hb3)
            | go_in)
          go_roundw
          case rel => exact ⟨HB3.out, .inr ⟨rfl, by have := HO3.out; rw [List.length_map, List.length_append] at this; exact this⟩⟩
          case measure => simp [intOf]
        · go_wp2
          go_ret
          exact ⟨_, rfl, HO.out, HB.out⟩

/-- the IDs of two calendars, rising, each once -/
def idsU (X Y : List EV) : List ByteArray := (Go.Lib.compact ((((X.map EV.id) ++ (Y.map EV.id)).map fun y => y.data.toList).mergeSort fun x y => decide (x ≤ y))).map bs
theorem idsU_nodup (X Y : List EV) : (idsU X Y).Nodup := by
  have h := (compact_sortS (((X.map EV.id) ++ (Y.map EV.id)).map fun y => y.data.toList)).1
  unfold idsU
  refine List.pairwise_map.2 (h.imp (fun {a b} q e => ?_))
  rw [bs_inj e] at q
  exact List.lt_irrefl _ q
theorem idsU_mem (X Y : List EV) (id : ByteArray) : id ∈ idsU X Y ↔ (∃ E ∈ X, E.id = id) ∨ ∃ E ∈ Y, E.id = id := by
  have h := (compact_sortS (((X.map EV.id) ++ (Y.map EV.id)).map fun y => y.data.toList)).2
  unfold idsU
  rw [List.mem_map]
  constructor
  · rintro ⟨x, hx, rfl⟩
    obtain ⟨y, hy, rfl⟩ := List.mem_map.1 ((h x).1 hx)
    rcases List.mem_append.1 hy with q | q
    · obtain ⟨E, hE, rfl⟩ := List.mem_map.1 q
      exact .inl ⟨E, hE, rfl⟩
    · obtain ⟨E, hE, rfl⟩ := List.mem_map.1 q
      exact .inr ⟨E, hE, rfl⟩
  · intro q
    have hid : id ∈ X.map EV.id ++ Y.map EV.id := by
      rcases q with ⟨E, hE, rfl⟩ | ⟨E, hE, rfl⟩
      · exact List.mem_append.2 (.inl (List.mem_map_of_mem hE))
      · exact List.mem_append.2 (.inr (List.mem_map_of_mem hE))
    exact ⟨id.data.toList, (h _).2 (List.mem_map_of_mem hid), rfl⟩
theorem idsU_len (X Y : List EV) (hX : X.length ≤ 60) (hY : Y.length ≤ 60) : (idsU X Y).length ≤ 120 := by
  unfold idsU
  rw [List.length_map]
  refine Nat.le_trans (compact_lenS _) ?_
  rw [List.length_mergeSort, List.length_map, List.length_append, List.length_map, List.length_map]
  omega

end Go.Proofs.YtekminpoiokgfaaGreatDoor

/- Package merge's rising at texts. -/
namespace Go.Proofs.YtekminpoiokgfaaGreatDoor
open Go Go.RowKit Go.Sort Cal
attribute [local go_sem] Oper.semAt_some

/-- what one of two rows of texts has, rising, each once -/
def risT (a b : List ByteArray) : List ByteArray := (Go.Lib.compact (((a ++ b).map fun y => y.data.toList).mergeSort fun x y => decide (x ≤ y))).map bs
theorem risT_len (a b : List ByteArray) : (risT a b).length ≤ a.length + b.length := by
  unfold risT
  rw [List.length_map]
  refine Nat.le_trans (compact_lenS _) ?_
  rw [List.length_mergeSort, List.length_map, List.length_append]
  exact Nat.le_refl _
set_option maxHeartbeats 1000000 in
theorem risingS_any (b : Nat) (v1 v2 : Value) (l1 l2 : List ByteArray) (w : World) (h1 : RowV b w v1 l1) (h2 : RowV b w v2 l2) (hl1 : l1.length ≤ 1000) (hl2 : l2.length ≤ 1000) :
    Calls Tryz.prog 20 #[v1, v2] w fun r w' => ∃ v', r = .returned v' ∧ Txs w' v' (risT l1 l2) ∧ Below w.heap.size w w' := by
  have CC : Hid (Calls _ _ _ _ _) := concatS_any w.heap.size b v1 v2 l1 l2 (w.alloc (.cells #[v1, v2] 37)) (rowV_step h1 (below_alloc _ _)) (rowV_step h2 (below_alloc _ _)) (block_at _ rfl) hl1 hl2
  have HA : Hid (Below w.heap.size w (w.alloc (.cells #[v1, v2] 37))) := below_alloc _ _
  have HL : Hid (((l1 ++ l2).map fun y => y.data.toList).length ≤ 80000) := by show _ ≤ _; rw [List.length_map, List.length_append]; omega
  have HR : Hid ((Go.Lib.compact (((l1 ++ l2).map fun y => y.data.toList).mergeSort fun x y => decide (x ≤ y))).map bs = risT l1 l2) := rfl
  have HRL : Hid ((risT l1 l2).length ≤ 80000) := by show _ ≤ _; have := risT_len l1 l2; omega
  obtain ⟨a1, k1, rfl⟩ := rowV_form h1
  obtain ⟨a2, k2, rfl⟩ := rowV_form h2
  generalize risT l1 l2 = R at HR HRL ⊢
  generalize (l1 ++ l2).map (fun y => y.data.toList) = L at CC HL HR
  clear h1 h2
  go_enter Tryz.func20, Tryz.ntmps20
  go_wp2_with fail
  go_at_call 37
  refine Calls.mono CC.out ?_
  rintro r w3 ⟨v3, rfl, ho3, hb3⟩
  have HB3 : Hid (Below w.heap.size w w3) := below_then HA.out hb3
  have hz2 : w.heap.size ≤ (w.alloc (.cells #[.slice a1 l1.length k1, .slice a2 l2.length k2] 37)).heap.size := HA.out.size
  have SO : Hid (Calls _ _ _ _ _) := sort_ows _ v3 _ w3 ho3 HL.out
  have HOW : Hid (∀ g, v3.ownBlock = some g → w.heap.size ≤ g) := fun g hg => Nat.le_trans hz2 (World.ownsRow.lt ho3 g hg).1
  have HSL : Hid ((L.mergeSort fun x y => decide (x ≤ y)).length ≤ 80000) := by show _ ≤ _; rw [List.length_mergeSort]; exact HL.out
  obtain ⟨a3, k3, rfl⟩ := ho3.form
  clear ho3 hb3 CC
  generalize L.length = n3 at SO HOW ⊢
  go_wp2_with fail
  go_at_call 38
  refine Calls.mono SO.out ?_
  rintro r w4 ⟨rfl, ho4, hg4⟩
  have HB4 : Hid (Below w.heap.size w w4) := HB3.out.grown hg4 HB3.out.size (fun k q => HOW.out k q)
  have CO : Hid (Calls _ _ _ _ _) := compact_ows _ _ _ w4 ho4 HSL.out
  clear SO ho4 hg4
  go_wp2_with (go_at_call 39; refine Calls.mono CO.out ?_; rintro r w5 ⟨v5, rfl, ho5, hg5⟩)
  have HB5 : Hid (Below w.heap.size w w5) := HB4.out.grown hg5 HB4.out.size (fun k q => HOW.out k q)
  have HT : Hid (Txs w5 v5 R) := by
    have h := rowV_own ho5
    rw [HR.out] at h
    exact h.txs (by have := HRL.out; omega)
  clear ho5 hg5
  go_ret
  exact ⟨v5, rfl, HT.out, HB5.out⟩
end Go.Proofs.YtekminpoiokgfaaGreatDoor
