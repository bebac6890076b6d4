/- The library's own contracts of slices.Sort and slices.Compact at ints, laid at this program. -/
import Derived.Shelf.Sort.Plain
import Derived.Shelf.Slices.In.SortNone
import Derived.Shelf.Slices.CompactI
import Derived.Test.YtekminpoiokgfaaGreatDoorProg
import Derived.Test.YtekminpoiokgfaaGreatDoorYaB
import Derived.Sort.OwnSortedInts
import Derived.Lib.SlicesCompact
import Derived.Test.YtekminpoiokgfaaGreatDoorYaJ
import Derived.Maps.AppendAt
import Derived.Stop.Asserts
import Derived.BigQuiet
import Derived.Deep.DeepCutAuto
import Derived.Test.YtekminpoiokgfaaGreatDoorYaG
namespace Go.Proofs
open Go.Shelf
def Tryz.lays189_ren : Go.Shelf.Ren := ⟨fun | 189 => 156 | 125 => 64 | 257 => 176 | 128 => 96 | 129 => 97 | 294 => 195 | 295 => 196 | 296 => 197 | 297 => 198 | 298 => 199 | 299 => 200 | 216 => 201 | 300 => 202 | 301 => 203 | 328 => 214 | 329 => 120 | 330 => 121 | 331 => 215 | 332 => 216 | 215 => 217 | 343 => 220 | n => n, fun | 28 => 39 | 3 => 3 | 46 => 108 | 0 => 0 | 51 => 134 | 53 => 136 | 4 => 4 | 183 => 127 | 182 => 126 | 131 => 131 | 5 => 5 | 9 => 9 | 218 => 160 | 222 => 164 | 228 => 190 | 229 => 191 | n => n, fun | n => n⟩
theorem Tryz.lays189 : Go.Proofs.Lays.n189 Tryz.prog Tryz.lays189_ren := {
  mixed := by kernel_rfl
  f125 := Tryz.func64.trans (congrArg some (by kernel_rfl))
  f128 := Tryz.func96.trans (congrArg some (by kernel_rfl))
  f129 := Tryz.func97.trans (congrArg some (by kernel_rfl))
  f189 := Tryz.func156.trans (congrArg some (by kernel_rfl))
  f215 := Tryz.func217.trans (congrArg some (by kernel_rfl))
  f216 := Tryz.func201.trans (congrArg some (by kernel_rfl))
  f257 := Tryz.func176.trans (congrArg some (by kernel_rfl))
  f294 := Tryz.func195.trans (congrArg some (by kernel_rfl))
  f295 := Tryz.func196.trans (congrArg some (by kernel_rfl))
  f296 := Tryz.func197.trans (congrArg some (by kernel_rfl))
  f297 := Tryz.func198.trans (congrArg some (by kernel_rfl))
  f298 := Tryz.func199.trans (congrArg some (by kernel_rfl))
  f299 := Tryz.func200.trans (congrArg some (by kernel_rfl))
  f300 := Tryz.func202.trans (congrArg some (by kernel_rfl))
  f301 := Tryz.func203.trans (congrArg some (by kernel_rfl))
  f328 := Tryz.func214.trans (congrArg some (by kernel_rfl))
  f329 := Tryz.func120.trans (congrArg some (by kernel_rfl))
  f330 := Tryz.func121.trans (congrArg some (by kernel_rfl))
  f331 := Tryz.func215.trans (congrArg some (by kernel_rfl))
  f332 := Tryz.func216.trans (congrArg some (by kernel_rfl))
  f343 := Tryz.func220.trans (congrArg some (by kernel_rfl))
  t0 := Tryz.underlying0
  a0 := Tryz.isAgg0
  z0 := Tryz.sizeOf0
  v0 := Tryz.zeroValue0
  t3 := Tryz.underlying3
  a3 := Tryz.isAgg3
  z3 := Tryz.sizeOf3
  v3 := Tryz.zeroValue3
  t4 := Tryz.underlying4
  a4 := Tryz.isAgg4
  z4 := Tryz.sizeOf4
  v4 := Tryz.zeroValue4
  t5 := Tryz.underlying5
  a5 := Tryz.isAgg5
  z5 := Tryz.sizeOf5
  v5 := Tryz.zeroValue5
  t9 := Tryz.underlying9
  a9 := Tryz.isAgg9
  z9 := Tryz.sizeOf9
  v9 := Tryz.zeroValue9
  t28 := Tryz.underlying39
  a28 := Tryz.isAgg39
  z28 := Tryz.sizeOf39
  v28 := Tryz.zeroValue39
  t46 := Tryz.underlying108
  a46 := Tryz.isAgg108
  z46 := Tryz.sizeOf108
  v46 := Tryz.zeroValue108
  t51 := Tryz.underlying134
  a51 := Tryz.isAgg134
  z51 := Tryz.sizeOf134
  v51 := Tryz.zeroValue134
  t53 := Tryz.underlying136
  a53 := Tryz.isAgg136
  z53 := Tryz.sizeOf136
  v53 := Tryz.zeroValue136
  t131 := Tryz.underlying131
  a131 := Tryz.isAgg131
  z131 := Tryz.sizeOf131
  v131 := Tryz.zeroValue131
  t182 := Tryz.underlying126
  a182 := Tryz.isAgg126
  z182 := Tryz.sizeOf126
  v182 := Tryz.zeroValue126
  t183 := Tryz.underlying127
  a183 := Tryz.isAgg127
  z183 := Tryz.sizeOf127
  v183 := Tryz.zeroValue127
  t218 := Tryz.underlying160
  a218 := Tryz.isAgg160
  z218 := Tryz.sizeOf160
  v218 := Tryz.zeroValue160
  t222 := Tryz.underlying164
  a222 := Tryz.isAgg164
  z222 := Tryz.sizeOf164
  v222 := Tryz.zeroValue164
  t228 := Tryz.underlying190
  a228 := Tryz.isAgg190
  z228 := Tryz.sizeOf190
  v228 := Tryz.zeroValue190
  t229 := Tryz.underlying191
  a229 := Tryz.isAgg191
  z229 := Tryz.sizeOf191
  v229 := Tryz.zeroValue191 }
open Go.Sort Go.RowKit in
theorem Tryz.slices_Sort_int (blk off cap : Nat) (zs : List Int) (w : World) (hH : Holds (Value.int .i64) w blk off zs.toArray) (hblk : blk < w.heap.size) (hsz : zs.length < 4611686018427387904) :
    Calls Tryz.prog 156 #[.slice (some ⟨blk, off, none⟩) zs.length cap] w fun e w' =>
      e = .returned (.tuple #[]) ∧ ∃ n os, w' = grow (putRow (Value.int .i64) (Sort.ahead w n) blk off (zs.mergeSort fun x y => decide (x ≤ y)).toArray) os := Any.slices_Sort_int Tryz.lays189 blk off cap zs w hH hblk hsz
open Go.RowKit Go.Sort in
theorem Tryz.slices_Sort_int_none (p : Option Addr) (cap : Nat) (w : World) :
    Calls Tryz.prog 156 #[.slice p 0 cap] w fun e w' => e = .returned (.tuple #[]) ∧ w' = w := Any.slices_Sort_int_none Tryz.lays189 p cap w
def Tryz.laysNm220_ren : Go.Shelf.Ren := ⟨fun | 20 => 157 | n => n, fun | 22 => 39 | 3 => 3 | 4 => 4 | 0 => 0 | n => n, fun | n => n⟩
theorem Tryz.laysNm220 : Go.Proofs.Lays2.n20 Tryz.prog Tryz.laysNm220_ren := {
  mixed := by kernel_rfl
  f20 := Tryz.func157.trans (congrArg some (by kernel_rfl))
  t0 := Tryz.underlying0
  a0 := Tryz.isAgg0
  z0 := Tryz.sizeOf0
  v0 := Tryz.zeroValue0
  t3 := Tryz.underlying3
  a3 := Tryz.isAgg3
  z3 := Tryz.sizeOf3
  v3 := Tryz.zeroValue3
  t4 := Tryz.underlying4
  a4 := Tryz.isAgg4
  z4 := Tryz.sizeOf4
  v4 := Tryz.zeroValue4
  t22 := Tryz.underlying39
  a22 := Tryz.isAgg39
  z22 := Tryz.sizeOf39
  v22 := Tryz.zeroValue39
  i3 := by kernel_rfl }
open Go.RowKit Go.Lib Go.Sort in
theorem Tryz.slices_Compact_int (blk off cap : Nat) (zs : List Int) (w : World) (hH : Holds (Value.int .i64) w blk off zs.toArray) (hsz : zs.length ≤ 9223372036854775807) (hcap : zs.length ≤ cap) :
    Calls Tryz.prog 157 #[.slice (some ⟨blk, off, none⟩) zs.length cap] w fun e w' => e = .returned (.slice (some ⟨blk, off, none⟩) (Lib.compact zs).length cap) ∧ ∃ q, w' = putRow (Value.int .i64) (Sort.ahead w q) blk off (Lib.compact zs ++ List.replicate (zs.length - (Lib.compact zs).length) 0).toArray := Any.slices_Compact_int Tryz.laysNm220 blk off cap zs w hH hsz hcap
open Go.RowKit Go.Lib Go.Sort in
theorem Tryz.slices_Compact_int_empty (a : Option Addr) (cap : Nat) (w : World) :
    Calls Tryz.prog 157 #[.slice a 0 cap] w fun e w' => e = .returned (.slice a 0 cap) ∧ w' = w := Any.slices_Compact_int_empty Tryz.laysNm220 a cap w
end Go.Proofs

/- Sorted, and what is twice dropped: the library's contracts of slices.Sort and slices.Compact in words of a row that a call owns. -/
namespace Go.Proofs.YtekminpoiokgfaaGreatDoor
open Go Go.RowKit Go.Sort Cal

theorem sort_ow (base : Nat) (v : Value) (zs : List Int) (w : World) (h : Ow base w v zs) (hl : zs.length ≤ 80000) :
    Calls Tryz.prog 156 #[v] w fun r w' => r = .returned (.tuple #[]) ∧ Ow base w' v (zs.mergeSort fun x y => decide (x ≤ y)) ∧ w.grownBy w' v.ownBlock := by
  rcases h.2 with ⟨rfl, h0⟩ | ⟨g, cap, cur, rfl, hb, hg, hcap, hmax, hsz, htake⟩
  · have hz : zs = [] := List.length_eq_zero_iff.1 h0
    subst hz
    refine (Tryz.slices_Sort_int_none none 0 w).mono ?_
    rintro r w' ⟨rfl, rfl⟩
    exact ⟨rfl, (by rw [show ([] : List Int).mergeSort (fun x y => decide (x ≤ y)) = [] from List.mergeSort_nil]; exact Ow.nil _ _), grown_below (Below.refl _ _) _⟩
  · have hH : Holds (Value.int .i64) w g 0 zs.toArray := holds_of_blockI hg (by simpa using htake)
    refine (Tryz.slices_Sort_int g 0 cap zs w hH (Array.getElem?_eq_some_iff.1 hg).1 (by omega)).mono ?_
    rintro r w' ⟨rfl, n, os, rfl⟩
    refine ⟨rfl, ?_, grownBy_sortedI _⟩
    show World.ownsRow _ _ _ _ _ _ _
    rw [List.length_mergeSort]
    exact ownsRow_sortedI (List.length_mergeSort _) hb hg hcap hmax hsz

theorem compact_len (zs : List Int) : (Lib.compact zs).length ≤ zs.length := by
  unfold Lib.compact Lib.compactUpTo
  rw [List.length_map]
  exact Nat.le_trans (List.length_filter_le _ _) (by simp)

theorem compact_ow (base : Nat) (v : Value) (zs : List Int) (w : World) (h : Ow base w v zs) (hl : zs.length ≤ 80000) :
    Calls Tryz.prog 157 #[v] w fun r w' => ∃ v', r = .returned v' ∧ Ow base w' v' (Lib.compact zs) ∧ w.grownBy w' v.ownBlock := by
  rcases h.2 with ⟨rfl, h0⟩ | ⟨g, cap, cur, rfl, hb, hg, hcap, hmax, hsz, htake⟩
  · have hz : zs = [] := List.length_eq_zero_iff.1 h0
    subst hz
    refine (Tryz.slices_Compact_int_empty none 0 w).mono ?_
    rintro r w' ⟨rfl, rfl⟩
    exact ⟨_, rfl, Ow.nil _ _, grown_below (Below.refl _ _) _⟩
  · have hH : Holds (Value.int .i64) w g 0 zs.toArray := holds_of_blockI hg (by simpa using htake)
    refine (Tryz.slices_Compact_int g 0 cap zs w hH (by omega) hcap).mono ?_
    rintro r w' ⟨rfl, q, rfl⟩
    have hle := compact_len zs
    have e0 : putRow (Value.int .i64) (Sort.ahead w q) g 0 (Lib.compact zs ++ List.replicate (zs.length - (Lib.compact zs).length) 0).toArray = grow (putRow (Value.int .i64) (Sort.ahead w q) g 0 (Lib.compact zs ++ List.replicate (zs.length - (Lib.compact zs).length) 0).toArray) #[] := (grow_empty _).symm
    rw [e0]
    refine ⟨_, rfl, ?_, grownBy_sortedI _⟩
    have hlen : (Lib.compact zs ++ List.replicate (zs.length - (Lib.compact zs).length) (0 : Int)).length = zs.length := by simp; omega
    refine ⟨by simp, .inr ⟨g, cap, _, rfl, hb, heap_sortedI _ hg, by omega, hmax, by simp [putCells, hsz], ?_⟩⟩
    have ht := take_putCellsI cur (Lib.compact zs ++ List.replicate (zs.length - (Lib.compact zs).length) 0) (by rw [hlen]; omega)
    rw [hlen] at ht
    have h2 := congrArg (List.take (Lib.compact zs).length) ht
    rw [List.take_take, Nat.min_eq_left hle, List.map_append, List.take_append_of_le_length (by simp), List.take_of_length_le (l := List.map (Value.int .i64) (Lib.compact zs)) (by simp)] at h2
    rw [Nat.mul_one]
    exact h2
end Go.Proofs.YtekminpoiokgfaaGreatDoor

/- Package event's Days: the days of an event in a span, or the error full. -/
namespace Go.Proofs.YtekminpoiokgfaaGreatDoor
open Go Go.RowKit Go.Shelf Cal
attribute [local go_sem] Oper.semAt_some

end Go.Proofs.YtekminpoiokgfaaGreatDoor

/- Package event's Covers: is a day within an event? -/
namespace Go.Proofs.YtekminpoiokgfaaGreatDoor
open Go Go.RowKit Cal
attribute [local go_sem] Oper.semAt_some

end Go.Proofs.YtekminpoiokgfaaGreatDoor

/- Package book's On. -/
namespace Go.Proofs.YtekminpoiokgfaaGreatDoor
open Go Go.RowKit Go.Maps Cal
attribute [local go_sem] Oper.semAt_some

theorem look1_eq {bb n : Nat} {mo : Option Nat} {D : DataW Value} {W : World} (h : Bok W bb mo n D) {id : ByteArray} (hid : id.size ≤ 1000) {u : Value} (hat : D.atKey (key id) (.held zV) = .held u) :
    (Instr.lookup 67 (.map mo) (.string id) false).run Tryz.prog W = .ok u W := by
  cases mo with
  | none =>
    have hD : D = .map [] := h.2
    subst hD
    have hu : zV = u := by
      have : (DataW.held zV : DataW Value) = .held u := hat
      cases this; rfl
    rw [← hu]
    exact Maps.look_nil false law Tryz.underlying67 (zeroE W) (key_of hid)
  | some mb =>
    obtain ⟨es, clock, hb, F, _, rfl⟩ := h.2.2
    rcases Maps.fit_look false law Tryz.underlying67 (zeroE W) hb F (key_of hid) with ⟨hrun, _, hq⟩ | ⟨e0, y, _, _, hrun, hRv, hq, _⟩
    · rw [hq] at hat
      have hu : zV = u := by cases hat; rfl
      rw [← hu]
      exact hrun
    · rw [hq] at hat
      have h1 := hld_inv hRv
      rw [hat] at h1
      have hu : e0.val = u := by cases h1; rfl
      rw [← hu]
      exact hrun

/-- a list of texts that a call gave -/
def RowV (base : Nat) (W : World) (v : Value) (l : List ByteArray) : Prop :=
  (v = .slice none 0 0 ∧ l = []) ∨ ∃ B cap, v = .slice (some ⟨B, 0, none⟩) l.length cap ∧ base ≤ B ∧ RowS W B cap l
theorem rowV_own {base : Nat} {W : World} {v : Value} {n : Nat} {xs : List (List UInt8)} (h : W.ownsRow base 9 1 v n (xs.map encStr)) : RowV base W v (xs.map bs) := by
  have hn : xs.length = n := by have := h.1; simpa using this
  rcases h.2 with ⟨rfl, h0⟩ | ⟨B, cap, cur, rfl, hb, hg, hcap, hmax, hsz, htake⟩
  · refine .inl ⟨rfl, ?_⟩
    rw [List.length_eq_zero_iff.1 (hn.trans h0)]; rfl
  · refine .inr ⟨B, cap, by rw [List.length_map, hn], hb, ⟨cur, hg, by omega, fun j hj => ?_⟩, by rw [List.length_map]; omega⟩
    rw [List.length_map] at hj
    have e := congrArg (fun z : List Value => z[j]?) htake
    simp only [List.getElem?_take, List.getElem?_map, Array.getElem?_toList] at e
    rw [if_pos (by omega), List.getElem?_eq_getElem hj] at e
    rw [e, List.getElem_map]; rfl
end Go.Proofs.YtekminpoiokgfaaGreatDoor

/- Package book's On. -/
namespace Go.Proofs.YtekminpoiokgfaaGreatDoor
open Go Go.RowKit Go.Maps Go.Sort Cal
attribute [local go_sem] Oper.semAt_some

theorem cell_of {W : World} {n : Nat} {v : Value} {t : TypeId} (h : W.heap[n]? = some (.cells #[v] t (0, 0))) : W.cell? ⟨n, 0, none⟩ = some v := by simp [World.cell?, h]

theorem RowV.base {a b : Nat} {W : World} {v : Value} {l : List ByteArray} (h : RowV b W v l) (hab : a ≤ b) : RowV a W v l := by
  rcases h with h | ⟨B, cap, h1, h2, h3⟩
  · exact .inl h
  · exact .inr ⟨B, cap, h1, Nat.le_trans hab h2, h3⟩

end Go.Proofs.YtekminpoiokgfaaGreatDoor

/- The document's IsInTexts and SameTexts. -/
namespace Go.Proofs.YtekminpoiokgfaaGreatDoor
open Go Go.RowKit Go.Maps Go.Sort Cal
attribute [local go_sem] Oper.semAt_some

/-- a list of texts, to be read -/
def Txs (W : World) (v : Value) (l : List ByteArray) : Prop :=
  ∃ (a : Option Addr) (c : Nat), v = .slice a l.length c ∧ l.length ≤ 80000 ∧ l.length ≤ c ∧
    ∀ (j : Nat) (h : j < l.length), ∃ b : Nat, a = some ⟨b, 0, none⟩ ∧ b < W.heap.size ∧ W.cell? ⟨b, j, none⟩ = some (.string l[j])
theorem Txs.step {w w' : World} {sl : Value} {xs : List ByteArray} (h : Txs w sl xs) (hb : Below w.heap.size w w') : Txs w' sl xs := by
  obtain ⟨a, c, h1, h2, h3, h4⟩ := h
  refine ⟨a, c, h1, h2, h3, fun j hj => ?_⟩
  obtain ⟨b, e, hl, hc⟩ := h4 j hj
  exact ⟨b, e, Nat.lt_of_lt_of_le hl hb.size, (hb.cell (p := ⟨b, j, none⟩) hl).trans hc⟩
theorem RowV.txs {base : Nat} {W : World} {v : Value} {l : List ByteArray} (h : RowV base W v l) (h8 : l.length ≤ 80000) : Txs W v l := by
  rcases h with ⟨rfl, rfl⟩ | ⟨B, cap, rfl, _, h3⟩
  · exact ⟨none, 0, rfl, by simp, by simp, fun j h => absurd h (by simp)⟩
  · exact ⟨_, cap, rfl, h8, h3.le, fun j hj => ⟨B, rfl, h3.lt, h3.cell j hj⟩⟩

theorem txt_ne {x y : ByteArray} (h : y ≠ x) : (y.toList == x.toList) = false := by
  rw [beq_eq_false_iff_ne, ByteArray.toList_eq, ByteArray.toList_eq]
  intro e
  apply h
  cases x; cases y
  simpa [Array.toList_inj] using e

theorem sameTexts_0 (a b : Option Addr) (ca cb : Nat) (w : World) :
    Calls Tryz.prog 16 #[.slice a 0 ca, .slice b 0 cb] w fun e w' => e = .returned (.bool true) ∧ Below w.heap.size w w' := by
  go_enter Tryz.func16, Tryz.ntmps16
  go_wp2
  go_loop [5] (fun i => i = .int .i64 0) (fun _ => 0)
  case atStart => rfl
  case round =>
    subst hrel
    go_wp2
    go_ret
    exact ⟨rfl, Below.refl _ _⟩
theorem sameTexts_1 (ba bb n ca cb : Nat) (z : Nat → ByteArray) (w : World) (hn : n ≤ 100000) (ha : ∀ i, i < n → w.cell? ⟨ba, i, none⟩ = some (.string (z i))) (hb : ∀ i, i < n → w.cell? ⟨bb, i, none⟩ = some (.string (z i))) :
    Calls Tryz.prog 16 #[.slice (some ⟨ba, 0, none⟩) n ca, .slice (some ⟨bb, 0, none⟩) n cb] w fun e w' => e = .returned (.bool true) ∧ Below w.heap.size w w' := by
  have HA : Hid (∀ i, i < n → w.cell? ⟨ba, i, none⟩ = some (.string (z i))) := ha
  have HB : Hid (∀ i, i < n → w.cell? ⟨bb, i, none⟩ = some (.string (z i))) := hb
  clear ha hb
  go_enter Tryz.func16, Tryz.ntmps16
  go_wp2
  go_loopw [5] (fun i wr => ∃ k q : Nat, k ≤ n ∧ i = .int .i64 k ∧ wr = w.drewN q) (fun i _ => n - (intOf i).toNat)
  case atStart => exact ⟨0, 0, Nat.zero_le _, rfl, rfl⟩
  case round =>
    obtain ⟨k, q, hk, rfl, rfl⟩ := hrel
    by_cases hlt : k < n
    · have h1 := HA.out k hlt
      have h2 := HB.out k hlt
      go_wp2
      go_quiet (fail)
      go_wp2
      go_roundw
      case rel => exact ⟨k + 1, _, by omega, by go_num, rfl⟩
      case measure => simp [intOf]; omega
    · go_wp2
      go_ret
      exact ⟨rfl, drewN_below _ _⟩
theorem sameTexts_eq {W : World} {v1 v2 : Value} {l : List ByteArray} (h1 : Txs W v1 l) (h2 : Txs W v2 l) : Calls Tryz.prog 16 #[v1, v2] W fun e w' => e = .returned (.bool true) ∧ Below W.heap.size W w' := by
  obtain ⟨a1, c1, rfl, h8, _, hc1⟩ := h1
  obtain ⟨a2, c2, rfl, _, _, hc2⟩ := h2
  by_cases h0 : l.length = 0
  · rw [h0]; exact sameTexts_0 a1 a2 c1 c2 W
  · obtain ⟨b1, rfl, _⟩ := hc1 0 (by omega)
    obtain ⟨b2, rfl, _⟩ := hc2 0 (by omega)
    refine sameTexts_1 b1 b2 l.length c1 c2 (fun i => l.getD i ⟨#[]⟩) W (by omega) (fun i hi => ?_) (fun i hi => ?_)
    · obtain ⟨b, e, _, hc⟩ := hc1 i hi
      cases e
      rw [hc, List.getD_eq_getElem?_getD, List.getElem?_eq_getElem hi]; rfl
    · obtain ⟨b, e, _, hc⟩ := hc2 i hi
      cases e
      rw [hc, List.getD_eq_getElem?_getD, List.getElem?_eq_getElem hi]; rfl

set_option maxHeartbeats 1000000 in
/-- the law's small: an event that is once -/
theorem small_any (x : ByteArray) (d : Int) (w : World) : Calls Tryz.prog 15 #[.string x, .int .i64 d] w fun r w' => r = .returned (ev ⟨x, ⟨#[]⟩, d, 1, ⟨#[111, 110, 99, 101]⟩, 1, [], 0, -1, [], []⟩ (.slice none 0 0) (.slice none 0 0) (.slice none 0 0)) ∧ Below w.heap.size w w' := by
  unfold ev
  go_enter Tryz.func15, Tryz.ntmps15
  go_wp2
  have n10 := block_at (W := w) (.cells #[.string x, .string ⟨#[]⟩, .int .i64 d, .int .i64 1, .string ⟨#[111, 110, 99, 101]⟩, .int .i64 1, .slice none 0 0, .int .i64 0, .int .i64 (-1), .slice none 0 0, .slice none 0 0] 44) rfl
  obtain ⟨c0, c1, c2, c3, c4, c5, c6, c7, c8, c9, c10⟩ := blk11 n10
  refine bodyPost_ret (v := .agg #[.string x, .string ⟨#[]⟩, .int .i64 d, .int .i64 1, .string ⟨#[111, 110, 99, 101]⟩, .int .i64 1, .slice none 0 0, .int .i64 0, .int .i64 (-1), .slice none 0 0, .slice none 0 0]) (by simp [results, Tryz.f15, go_sem, c0, c1, c2, c3, c4, c5, c6, c7, c8, c9, c10]) rfl ⟨rfl, below_alloc _ _⟩
end Go.Proofs.YtekminpoiokgfaaGreatDoor

/- The law's booked: the closed calendar. -/
namespace Go.Proofs.YtekminpoiokgfaaGreatDoor
open Go Go.RowKit Go.Maps Go.Sort Cal
attribute [local go_sem] Oper.semAt_some

def E7 : EV := ⟨⟨#[97]⟩, ⟨#[]⟩, 7, 1, ⟨#[111, 110, 99, 101]⟩, 1, [], 0, -1, [], []⟩
theorem E7_well : EW E7 := by
  refine ⟨⟨fun j h => ?_, by decide, by decide⟩, ⟨fun j h => ?_, by decide⟩, ⟨by decide, by decide⟩, E0_rule, by decide⟩
  · have h' : j < 1 := h
    match j, h' with
    | 0, _ => show okc 97; left; decide
  · exact absurd h (Nat.not_lt_zero _)
def Z0 : EV := ⟨⟨#[]⟩, ⟨#[]⟩, 0, 0, ⟨#[]⟩, 0, [], 0, 0, [], []⟩
theorem E7_k : EvK E7 0 := by
  obtain ⟨k, hk⟩ := evK_ex E7
  have := (evK_0 hk).2 E7_well
  rwa [this] at hk
theorem kept_from {w W w' : World} {bb : Nat} {mo : Option Nat} (hb : Below w.heap.size w W) (h : Kept W w' bb mo) : Kept w w' bb mo :=
  ⟨h.os.trans hb.os, h.tape.trans hb.tape, h.output.trans hb.output, Nat.le_trans hb.size h.size, fun k hk h1 h2 => (h.block k (Nat.lt_of_lt_of_le hk hb.size) h1 h2).trans (hb.block k hk)⟩
end Go.Proofs.YtekminpoiokgfaaGreatDoor

/- The law's booked. -/
namespace Go.Proofs.YtekminpoiokgfaaGreatDoor
open Go Go.RowKit Go.Maps Go.Sort Cal
attribute [local go_sem] Oper.semAt_some

end Go.Proofs.YtekminpoiokgfaaGreatDoor
