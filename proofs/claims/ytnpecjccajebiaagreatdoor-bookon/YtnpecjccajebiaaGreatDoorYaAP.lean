/- The library's own contracts of slices.Sort and slices.Compact at ints, laid at this program. -/
import Derived.Shelf.Sort.Plain
import Derived.Shelf.Slices.In.SortNone
import Derived.Shelf.Slices.CompactI
import Derived.Test.YtnpecjccajebiaaGreatDoorProg
import Derived.Test.YtnpecjccajebiaaGreatDoorYaAC
import Derived.Sort.OwnSortedInts
import Derived.Lib.SlicesCompact
import Derived.Test.YtnpecjccajebiaaGreatDoorEvIW
import Derived.Maps.AppendAt
namespace Go.Proofs
open Go.Shelf
def Tryz.lays189_ren : Go.Shelf.Ren := ⟨fun | 189 => 78 | 125 => 104 | 257 => 121 | 128 => 156 | 129 => 157 | 294 => 169 | 295 => 170 | 296 => 171 | 297 => 172 | 298 => 173 | 299 => 174 | 216 => 164 | 300 => 175 | 301 => 176 | 328 => 213 | 329 => 202 | 330 => 203 | 331 => 214 | 332 => 215 | 215 => 212 | 343 => 244 | n => n, fun | 28 => 39 | 3 => 3 | 46 => 144 | 0 => 0 | 51 => 190 | 53 => 192 | 4 => 4 | 183 => 184 | 182 => 183 | 131 => 153 | 5 => 5 | 9 => 9 | 218 => 237 | 222 => 241 | 228 => 260 | 229 => 98 | n => n, fun | n => n⟩
theorem Tryz.lays189 : Go.Proofs.Lays.n189 Tryz.prog Tryz.lays189_ren := {
  mixed := by kernel_rfl
  f125 := Tryz.func104.trans (congrArg some (by kernel_rfl))
  f128 := Tryz.func156.trans (congrArg some (by kernel_rfl))
  f129 := Tryz.func157.trans (congrArg some (by kernel_rfl))
  f189 := Tryz.func78.trans (congrArg some (by kernel_rfl))
  f215 := Tryz.func212.trans (congrArg some (by kernel_rfl))
  f216 := Tryz.func164.trans (congrArg some (by kernel_rfl))
  f257 := Tryz.func121.trans (congrArg some (by kernel_rfl))
  f294 := Tryz.func169.trans (congrArg some (by kernel_rfl))
  f295 := Tryz.func170.trans (congrArg some (by kernel_rfl))
  f296 := Tryz.func171.trans (congrArg some (by kernel_rfl))
  f297 := Tryz.func172.trans (congrArg some (by kernel_rfl))
  f298 := Tryz.func173.trans (congrArg some (by kernel_rfl))
  f299 := Tryz.func174.trans (congrArg some (by kernel_rfl))
  f300 := Tryz.func175.trans (congrArg some (by kernel_rfl))
  f301 := Tryz.func176.trans (congrArg some (by kernel_rfl))
  f328 := Tryz.func213.trans (congrArg some (by kernel_rfl))
  f329 := Tryz.func202.trans (congrArg some (by kernel_rfl))
  f330 := Tryz.func203.trans (congrArg some (by kernel_rfl))
  f331 := Tryz.func214.trans (congrArg some (by kernel_rfl))
  f332 := Tryz.func215.trans (congrArg some (by kernel_rfl))
  f343 := Tryz.func244.trans (congrArg some (by kernel_rfl))
  t0 := Tryz.underlying0
  a0 := Tryz.isAgg0
  z0 := Tryz.sizeOf0
  v0 := Tryz.zeroValue0
  t3 := Tryz.underlying3
  a3 := Tryz.isAgg3
  z3 := Tryz.sizeOf3
  v3 := Tryz.zeroValue3
  t4 := Tryz.underlying4
  a4 := Tryz.isAgg4
  z4 := Tryz.sizeOf4
  v4 := Tryz.zeroValue4
  t5 := Tryz.underlying5
  a5 := Tryz.isAgg5
  z5 := Tryz.sizeOf5
  v5 := Tryz.zeroValue5
  t9 := Tryz.underlying9
  a9 := Tryz.isAgg9
  z9 := Tryz.sizeOf9
  v9 := Tryz.zeroValue9
  t28 := Tryz.underlying39
  a28 := Tryz.isAgg39
  z28 := Tryz.sizeOf39
  v28 := Tryz.zeroValue39
  t46 := Tryz.underlying144
  a46 := Tryz.isAgg144
  z46 := Tryz.sizeOf144
  v46 := Tryz.zeroValue144
  t51 := Tryz.underlying190
  a51 := Tryz.isAgg190
  z51 := Tryz.sizeOf190
  v51 := Tryz.zeroValue190
  t53 := Tryz.underlying192
  a53 := Tryz.isAgg192
  z53 := Tryz.sizeOf192
  v53 := Tryz.zeroValue192
  t131 := Tryz.underlying153
  a131 := Tryz.isAgg153
  z131 := Tryz.sizeOf153
  v131 := Tryz.zeroValue153
  t182 := Tryz.underlying183
  a182 := Tryz.isAgg183
  z182 := Tryz.sizeOf183
  v182 := Tryz.zeroValue183
  t183 := Tryz.underlying184
  a183 := Tryz.isAgg184
  z183 := Tryz.sizeOf184
  v183 := Tryz.zeroValue184
  t218 := Tryz.underlying237
  a218 := Tryz.isAgg237
  z218 := Tryz.sizeOf237
  v218 := Tryz.zeroValue237
  t222 := Tryz.underlying241
  a222 := Tryz.isAgg241
  z222 := Tryz.sizeOf241
  v222 := Tryz.zeroValue241
  t228 := Tryz.underlying260
  a228 := Tryz.isAgg260
  z228 := Tryz.sizeOf260
  v228 := Tryz.zeroValue260
  t229 := Tryz.underlying98
  a229 := Tryz.isAgg98
  z229 := Tryz.sizeOf98
  v229 := Tryz.zeroValue98 }
open Go.Sort Go.RowKit in
theorem Tryz.slices_Sort_int (blk off cap : Nat) (zs : List Int) (w : World) (hH : Holds (Value.int .i64) w blk off zs.toArray) (hblk : blk < w.heap.size) (hsz : zs.length < 4611686018427387904) :
    Calls Tryz.prog 78 #[.slice (some ⟨blk, off, none⟩) zs.length cap] w fun e w' =>
      e = .returned (.tuple #[]) ∧ ∃ n os, w' = grow (putRow (Value.int .i64) (Sort.ahead w n) blk off (zs.mergeSort fun x y => decide (x ≤ y)).toArray) os := Any.slices_Sort_int Tryz.lays189 blk off cap zs w hH hblk hsz
open Go.RowKit Go.Sort in
theorem Tryz.slices_Sort_int_none (p : Option Addr) (cap : Nat) (w : World) :
    Calls Tryz.prog 78 #[.slice p 0 cap] w fun e w' => e = .returned (.tuple #[]) ∧ w' = w := Any.slices_Sort_int_none Tryz.lays189 p cap w
def Tryz.laysNm220_ren : Go.Shelf.Ren := ⟨fun | 20 => 79 | n => n, fun | 22 => 39 | 3 => 3 | 4 => 4 | 0 => 0 | n => n, fun | n => n⟩
theorem Tryz.laysNm220 : Go.Proofs.Lays2.n20 Tryz.prog Tryz.laysNm220_ren := {
  mixed := by kernel_rfl
  f20 := Tryz.func79.trans (congrArg some (by kernel_rfl))
  t0 := Tryz.underlying0
  a0 := Tryz.isAgg0
  z0 := Tryz.sizeOf0
  v0 := Tryz.zeroValue0
  t3 := Tryz.underlying3
  a3 := Tryz.isAgg3
  z3 := Tryz.sizeOf3
  v3 := Tryz.zeroValue3
  t4 := Tryz.underlying4
  a4 := Tryz.isAgg4
  z4 := Tryz.sizeOf4
  v4 := Tryz.zeroValue4
  t22 := Tryz.underlying39
  a22 := Tryz.isAgg39
  z22 := Tryz.sizeOf39
  v22 := Tryz.zeroValue39
  i3 := by kernel_rfl }
open Go.RowKit Go.Lib Go.Sort in
theorem Tryz.slices_Compact_int (blk off cap : Nat) (zs : List Int) (w : World) (hH : Holds (Value.int .i64) w blk off zs.toArray) (hsz : zs.length ≤ 9223372036854775807) (hcap : zs.length ≤ cap) :
    Calls Tryz.prog 79 #[.slice (some ⟨blk, off, none⟩) zs.length cap] w fun e w' => e = .returned (.slice (some ⟨blk, off, none⟩) (Lib.compact zs).length cap) ∧ ∃ q, w' = putRow (Value.int .i64) (Sort.ahead w q) blk off (Lib.compact zs ++ List.replicate (zs.length - (Lib.compact zs).length) 0).toArray := Any.slices_Compact_int Tryz.laysNm220 blk off cap zs w hH hsz hcap
open Go.RowKit Go.Lib Go.Sort in
theorem Tryz.slices_Compact_int_empty (a : Option Addr) (cap : Nat) (w : World) :
    Calls Tryz.prog 79 #[.slice a 0 cap] w fun e w' => e = .returned (.slice a 0 cap) ∧ w' = w := Any.slices_Compact_int_empty Tryz.laysNm220 a cap w
end Go.Proofs

/- Sorted, and what is twice dropped: the library's contracts of slices.Sort and slices.Compact in words of a row that a call owns. -/
namespace Go.Proofs.YtnpecjccajebiaaGreatDoor
open Go Go.RowKit Go.Sort Cal

theorem sort_ow (base : Nat) (v : Value) (zs : List Int) (w : World) (h : Ow base w v zs) (hl : zs.length ≤ 80000) :
    Calls Tryz.prog 78 #[v] w fun r w' => r = .returned (.tuple #[]) ∧ Ow base w' v (zs.mergeSort fun x y => decide (x ≤ y)) ∧ w.grownBy w' v.ownBlock := by
  rcases h.2 with ⟨rfl, h0⟩ | ⟨g, cap, cur, rfl, hb, hg, hcap, hmax, hsz, htake⟩
  · have hz : zs = [] := List.length_eq_zero_iff.1 h0
    subst hz
    refine (Tryz.slices_Sort_int_none none 0 w).mono ?_
    rintro r w' ⟨rfl, rfl⟩
    exact ⟨rfl, (by rw [show ([] : List Int).mergeSort (fun x y => decide (x ≤ y)) = [] from List.mergeSort_nil]; exact Ow.nil _ _), grown_below (Below.refl _ _) _⟩
  · have hH : Holds (Value.int .i64) w g 0 zs.toArray := holds_of_blockI hg (by simpa using htake)
    refine (Tryz.slices_Sort_int g 0 cap zs w hH (Array.getElem?_eq_some_iff.1 hg).1 (by omega)).mono ?_
    rintro r w' ⟨rfl, n, os, rfl⟩
    refine ⟨rfl, ?_, grownBy_sortedI _⟩
    show World.ownsRow _ _ _ _ _ _ _
    rw [List.length_mergeSort]
    exact ownsRow_sortedI (List.length_mergeSort _) hb hg hcap hmax hsz

theorem compact_len (zs : List Int) : (Lib.compact zs).length ≤ zs.length := by
  unfold Lib.compact Lib.compactUpTo
  rw [List.length_map]
  exact Nat.le_trans (List.length_filter_le _ _) (by simp)

theorem compact_ow (base : Nat) (v : Value) (zs : List Int) (w : World) (h : Ow base w v zs) (hl : zs.length ≤ 80000) :
    Calls Tryz.prog 79 #[v] w fun r w' => ∃ v', r = .returned v' ∧ Ow base w' v' (Lib.compact zs) ∧ w.grownBy w' v.ownBlock := by
  rcases h.2 with ⟨rfl, h0⟩ | ⟨g, cap, cur, rfl, hb, hg, hcap, hmax, hsz, htake⟩
  · have hz : zs = [] := List.length_eq_zero_iff.1 h0
    subst hz
    refine (Tryz.slices_Compact_int_empty none 0 w).mono ?_
    rintro r w' ⟨rfl, rfl⟩
    exact ⟨_, rfl, Ow.nil _ _, grown_below (Below.refl _ _) _⟩
  · have hH : Holds (Value.int .i64) w g 0 zs.toArray := holds_of_blockI hg (by simpa using htake)
    refine (Tryz.slices_Compact_int g 0 cap zs w hH (by omega) hcap).mono ?_
    rintro r w' ⟨rfl, q, rfl⟩
    have hle := compact_len zs
    have e0 : putRow (Value.int .i64) (Sort.ahead w q) g 0 (Lib.compact zs ++ List.replicate (zs.length - (Lib.compact zs).length) 0).toArray = grow (putRow (Value.int .i64) (Sort.ahead w q) g 0 (Lib.compact zs ++ List.replicate (zs.length - (Lib.compact zs).length) 0).toArray) #[] := (grow_empty _).symm
    rw [e0]
    refine ⟨_, rfl, ?_, grownBy_sortedI _⟩
    have hlen : (Lib.compact zs ++ List.replicate (zs.length - (Lib.compact zs).length) (0 : Int)).length = zs.length := by simp; omega
    refine ⟨by simp, .inr ⟨g, cap, _, rfl, hb, heap_sortedI _ hg, by omega, hmax, by simp [putCells, hsz], ?_⟩⟩
    have ht := take_putCellsI cur (Lib.compact zs ++ List.replicate (zs.length - (Lib.compact zs).length) 0) (by rw [hlen]; omega)
    rw [hlen] at ht
    have h2 := congrArg (List.take (Lib.compact zs).length) ht
    rw [List.take_take, Nat.min_eq_left hle, List.map_append, List.take_append_of_le_length (by simp), List.take_of_length_le (l := List.map (Value.int .i64) (Lib.compact zs)) (by simp)] at h2
    rw [Nat.mul_one]
    exact h2
end Go.Proofs.YtnpecjccajebiaaGreatDoor

/- Package event's Days: the days of an event in a span, or the error full. -/
namespace Go.Proofs.YtnpecjccajebiaaGreatDoor
open Go Go.RowKit Go.Shelf Cal
attribute [local go_sem] Oper.semAt_some

theorem spn_in {a b x : Int} {r : List Int} (h : a ≤ x) (h' : x ≤ b) : spn a b (x :: r) = x :: spn a b r := by
  unfold spn; rw [List.filter_cons_of_pos (by simp; omega)]
theorem spn_out {a b x : Int} {r : List Int} (h : ¬ (a ≤ x ∧ x ≤ b)) : spn a b (x :: r) = spn a b r := by
  unfold spn; rw [List.filter_cons_of_neg (by simp; omega)]
/-- the days of an event's start and rule -/
def dys (E : EV) : List Int := cut E.c E.u (cds E.f.toList E.st E.e E.ds)
theorem dys_is {E : EV} (h : EW E) : IsDays E.f E.e E.ds E.c E.u E.st (dys E) := .inl ⟨h.rl, h.bd.1.1, h.bd.1.2, rfl⟩
theorem dys_in {E : EV} (h : EW E) : ∀ x ∈ dys E, 0 ≤ x ∧ x ≤ 73048 := fun x hx => by
  have h1 : x ∈ cds E.f.toList E.st E.e E.ds := by
    unfold dys cut at hx
    have hU : x ∈ cutU E.u (cds E.f.toList E.st E.e E.ds) := by
      split at hx
      · exact List.mem_of_mem_take hx
      · exact hx
    unfold cutU at hU
    split at hU
    · exact (List.takeWhile_sublist _).subset hU
    · exact hU
  have := mem_From.1 h1
  have := h.bd.1.1
  omega
/-- the days of an event from a to b -/
def eds (E : EV) (a b : Int) : List Int := evs (dys E) E.sk E.mv a b

/-- its first boxes -/
def DWd (w : World) (E : EV) (sl skv mvv : Value) (fr0 to0 : Int) : World :=
  ((w.alloc (.cells #[.string E.id, .string E.ti, .int .i64 E.st, .int .i64 E.lg, .string E.f, .int .i64 E.e, sl, .int .i64 E.c, .int .i64 E.u, skv, mvv] 44)).alloc (.cells #[.int .i64 fr0] 3)).alloc (.cells #[.int .i64 to0] 3)
theorem dw_all (w : World) (E : EV) (sl skv mvv : Value) (fr0 to0 : Int) :
    (DWd w E sl skv mvv fr0 to0).heap.size = w.heap.size + 3 ∧ Below w.heap.size w (DWd w E sl skv mvv fr0 to0) ∧ EB (DWd w E sl skv mvv fr0 to0) w.heap.size E sl skv mvv ∧ Boxed (DWd w E sl skv mvv fr0 to0) (w.heap.size + 1) 3 (.int .i64 fr0) ∧ Boxed (DWd w E sl skv mvv fr0 to0) (w.heap.size + 2) 3 (.int .i64 to0) := by
  unfold DWd
  refine ⟨by simp, ?_, ?_, ?_, ?_⟩
  · exact below_then (below_alloc _ _) (below_box2 _ _ _)
  · exact block_alloc _ (block_alloc _ (block_at _ rfl))
  · exact block_alloc _ (block_at _ (by simp))
  · exact block_at _ (by simp)
/-- where the loop begins -/
def GW (z : World) (E : EV) (sl skv mvv : Value) (to0 : Int) : World :=
  ((z.alloc (.cells #[.slice none 0 0] 39)).alloc (.cells #[.string E.id, .string E.ti, .int .i64 E.st, .int .i64 E.lg, .string E.f, .int .i64 E.e, sl, .int .i64 E.c, .int .i64 E.u, skv, mvv] 44)).alloc (.cells #[.int .i64 to0] 3)

theorem edays_bad (E : EV) (sl skv mvv : Value) (fr0 to0 k : Int) (s : Nat → Addr) (w : World) (g : GlobK s w) (hd : Days w sl E.ds) (hs : Ints w skv E.sk) (hm : Movs w mvv E.mv) (h30 : E.id.size ≤ 60) (h60 : E.ti.size ≤ 60) (hk : EvK E k) (h0 : k ≠ 0) :
    Calls Tryz.prog 47 #[ev E sl skv mvv, .int .i64 fr0, .int .i64 to0] w fun r w' => r = .returned (.tuple #[.slice none 0 0, errV s k]) ∧ Below w.heap.size w w' := by
  obtain ⟨hz, hb, hE, h1, h2⟩ := dw_all w E sl skv mvv fr0 to0
  have CK : Hid (_) := evCheck_k E sl skv mvv k s _ (g.step hb) (hd.step hb) (hs.step hb) (hm.step hb) h30 h60 hk
  have HB : Hid (_) := hb
  obtain ⟨p, hp⟩ := errV_ne (s := s) h0
  rw [hp] at CK ⊢
  obtain ⟨x0, x1, x2, x3, x4, x5, x6, x7, x8, x9, x10⟩ := blk11 (show (DWd w E sl skv mvv fr0 to0).heap[w.heap.size]? = _ from hE)
  obtain ⟨idn, ti, st, lg, f, e, ds, c, u, sk, mv⟩ := E
  obtain ⟨ra, rc, rfl, _⟩ := hd
  obtain ⟨sa, sc, rfl, _⟩ := hs
  obtain ⟨ma, mc, rfl, _⟩ := hm
  unfold DWd at x0 x1 x2 x3 x4 x5 x6 x7 x8 x9 x10 CK
  unfold ev at CK ⊢
  dsimp only at *
  clear hz hb hE h1 h2 g hk h0 hp
  refine (callsIn_wide (n := 60)).1 ?_
  refine callsIn_of_wp_marks Tryz.func47 rfl trivial ?_ rfl
  simp only [Tryz.ntmps47, List.size_toArray, List.length_cons, List.length_nil, Nat.reduceAdd, Nat.reduceSub, Array.replicate_succ, Array.replicate_zero, List.push_toArray, List.append_toArray, List.nil_append, List.cons_append]
  gi_wp2_with (refine ⟨trivial, ?_⟩; gi_at_call 42; refine (callsIn_wide.2 CK.out).mono ?_; rintro r z ⟨rfl, hbz⟩)
  refine ⟨.tuple #[.slice none 0 0, .iface 288 (.pointer (some p))], ?_, rfl, below_then HB.out hbz⟩
  simp [results, Tryz.f47, go_sem]

set_option maxHeartbeats 4000000 in
theorem edays_ok (E : EV) (sl skv mvv : Value) (fr0 to0 : Int) (s : Nat → Addr) (w : World) (g : GlobK s w) (hd : Days w sl E.ds) (hs : Ints w skv E.sk) (hm : Movs w mvv E.mv) (h30 : E.id.size ≤ 60) (h60 : E.ti.size ≤ 60) (hw : EW E) :
    Calls Tryz.prog 47 #[ev E sl skv mvv, .int .i64 fr0, .int .i64 to0] w fun r w' => Below w.heap.size w w' ∧
      (((eds E fr0 to0).length ≤ 1000 ∧ ∃ v, r = .returned (.tuple #[v, .nilIface]) ∧ Ow w.heap.size w' v (eds E fr0 to0)) ∨ (1000 < (eds E fr0 to0).length ∧ r = .returned (.tuple #[.slice none 0 0, .iface 288 (.pointer (some (s 6)))]))) := by
  have hx := dys_is hw
  obtain ⟨k20, m20, kr, mr, _, mdays, _⟩ := lk_of hw.ls
  have EQ : Hid (Go.Lib.compact ((spn fr0 to0 (gvn (dys E) E.sk E.mv (lastOf E.mv to0))).mergeSort fun x y => decide (x ≤ y)) = eds E fr0 to0) := evs_sorted hx.rise (dys_in hw) mr (fun m hm => (mdays m hm).2)
  have HLN : Hid ((gvn (dys E) E.sk E.mv (lastOf E.mv to0)).length ≤ 73049) := Nat.le_trans gvn_len hx.len
  obtain ⟨hz, hb, hE, h1, h2⟩ := dw_all w E sl skv mvv fr0 to0
  have CK : Hid (_) := evCheck_k E sl skv mvv 0 s _ (g.step hb) (hd.step hb) (hs.step hb) (hm.step hb) h30 h60 (by obtain ⟨k, hk⟩ := evK_ex E; have := (evK_0 hk).2 hw; subst this; exact hk)
  rw [errV_0] at CK
  have HX : Hid (IsDays E.f E.e E.ds E.c E.u E.st (dys E)) := hx
  have HW : Hid (EW E) := hw
  have G : Hid (GlobK s w) := g
  have D : Hid (Days w sl E.ds) := hd
  have S : Hid (Ints w skv E.sk) := hs
  have M : Hid (Movs w mvv E.mv) := hm
  have P3 : Hid (_) := hz
  have PB : Hid (_) := hb
  have PE : Hid (EB (DWd w E sl skv mvv fr0 to0) w.heap.size E sl skv mvv) := hE
  have P1 : Hid (_) := h1
  have P2 : Hid (_) := h2
  obtain ⟨x0, x1, x2, x3, x4, x5, x6, x7, x8, x9, x10⟩ := blk11 (show (DWd w E sl skv mvv fr0 to0).heap[w.heap.size]? = _ from hE)
  have xt := Boxed.cell h2
  have DU : Hid (∀ W, _) := fun W => daysUpTo_any E sl skv mvv to0 W
  obtain ⟨ra, rc, rfl, _⟩ := hd
  obtain ⟨sa, sc, rfl, _⟩ := hs
  obtain ⟨ma, mc, rfl, _⟩ := hm
  clear hx hw kr mr mdays hz hb hE h1 h2 g k20 m20
  generalize hY : gvn (dys E) E.sk E.mv (lastOf E.mv to0) = G0 at EQ HLN
  have HG0 : Hid (_) := hY
  generalize eds E fr0 to0 = R at EQ ⊢
  generalize hYY : spn fr0 to0 G0 = Y at EQ
  have HYX : Hid (Y = [] ++ spn fr0 to0 G0) := by show _ = _; rw [hYY]; rfl
  clear hY hYY
  unfold DWd at CK x0 x1 x2 x3 x4 x5 x6 x7 x8 x9 x10 xt
  unfold ev at DU CK ⊢
  refine (callsIn_wide (n := 60)).1 ?_
  refine callsIn_of_wp_marks Tryz.func47 rfl trivial ?_ rfl
  simp only [Tryz.ntmps47, List.size_toArray, List.length_cons, List.length_nil, Nat.reduceAdd, Nat.reduceSub, Array.replicate_succ, Array.replicate_zero, List.push_toArray, List.append_toArray, List.nil_append, List.cons_append]
  gi_wp2_with (first
    | (refine ⟨trivial, ?_⟩; gi_at_call 42; refine (callsIn_wide.2 CK.out).mono ?_; rintro r z ⟨rfl, hbz⟩; change Below (DWd w E (.slice ra E.ds.length rc) (.slice sa E.sk.length sc) (.slice ma E.mv.length mc) fr0 to0).heap.size (DWd w E (.slice ra E.ds.length rc) (.slice sa E.sk.length sc) (.slice ma E.mv.length mc) fr0 to0) z at hbz; clear x0 x1 x2 x3 x4 x5 x6 x7 x8 x9 x10 xt; obtain ⟨x0, x1, x2, x3, x4, x5, x6, x7, x8, x9, x10⟩ := blk11 (block_alloc (.cells #[.slice none 0 0] 39) ((PE.out.step hbz : EB z w.heap.size E _ _ _))); have xt := Boxed.cell (Boxed.alloc ((hbz.block _ (Boxed.lt P2.out)).trans P2.out) (.cells #[.slice none 0 0] 39)))
    | (refine ⟨trivial, ?_⟩; gi_at_call 77; refine (callsIn_wide.2 (DU.out _)).mono ?_; rintro r w' ⟨rfl, rfl⟩))
  change Code.wpIn _ _ _ _ _ _ (GW z E (.slice ra E.ds.length rc) (.slice sa E.sk.length sc) (.slice ma E.mv.length mc) to0)
  have hzs : w.heap.size + 3 ≤ z.heap.size := by have := hbz.size; have := P3.out; omega
  have hqs : (GW z E (.slice ra E.ds.length rc) (.slice sa E.sk.length sc) (.slice ma E.mv.length mc) to0).heap.size = z.heap.size + 3 := by unfold GW; simp
  have hqb : Below z.heap.size z (GW z E (.slice ra E.ds.length rc) (.slice sa E.sk.length sc) (.slice ma E.mv.length mc) to0) := by unfold GW; exact below_then (below_alloc _ _) (below_box2 _ _ _)
  have QL : Hid (Boxed (GW z E (.slice ra E.ds.length rc) (.slice sa E.sk.length sc) (.slice ma E.mv.length mc) to0) z.heap.size 39 (.slice none 0 0)) := by unfold GW; exact block_alloc _ (block_alloc _ (block_at _ rfl))
  have QE : Hid (EB (GW z E (.slice ra E.ds.length rc) (.slice sa E.sk.length sc) (.slice ma E.mv.length mc) to0) (z.heap.size + 1) E (.slice ra E.ds.length rc) (.slice sa E.sk.length sc) (.slice ma E.mv.length mc)) := by unfold GW; exact block_alloc _ (block_at _ (by simp))
  have QT : Hid (Boxed (GW z E (.slice ra E.ds.length rc) (.slice sa E.sk.length sc) (.slice ma E.mv.length mc) to0) (z.heap.size + 2) 3 (.int .i64 to0)) := by unfold GW; exact block_at _ (by simp)
  have hlow : ∀ k, k < w.heap.size + 3 → (GW z E (.slice ra E.ds.length rc) (.slice sa E.sk.length sc) (.slice ma E.mv.length mc) to0).heap[k]? = (DWd w E (.slice ra E.ds.length rc) (.slice sa E.sk.length sc) (.slice ma E.mv.length mc) fr0 to0).heap[k]? := fun k hk => (hqb.block k (by omega)).trans (hbz.block k (by rw [P3.out]; exact hk))
  have HB : Hid (Below w.heap.size w (GW z E (.slice ra E.ds.length rc) (.slice sa E.sk.length sc) (.slice ma E.mv.length mc) to0)) := below_then PB.out (below_then hbz hqb)
  have Q1 : Hid (Boxed (GW z E (.slice ra E.ds.length rc) (.slice sa E.sk.length sc) (.slice ma E.mv.length mc) to0) (w.heap.size + 1) 3 (.int .i64 fr0)) := (hlow _ (by omega)).trans P1.out
  have Q2 : Hid (Boxed (GW z E (.slice ra E.ds.length rc) (.slice sa E.sk.length sc) (.slice ma E.mv.length mc) to0) (w.heap.size + 2) 3 (.int .i64 to0)) := (hlow _ (by omega)).trans P2.out
  clear hlow hqb P1 P2 P3 PE PB hbz CK DU x0 x1 x2 x3 x4 x5 x6 x7 x8 x9 x10 xt
  generalize GW z E (.slice ra E.ds.length rc) (.slice sa E.sk.length sc) (.slice ma E.mv.length mc) to0 = W7 at hqs HB Q1 Q2 QL QE QT
  have hqs1 : W7.heap.size ≤ z.heap.size + 3 := by rw [hqs]; exact Nat.le_refl _
  have hqs2 : z.heap.size + 3 ≤ W7.heap.size := by rw [hqs]; exact Nat.le_refl _
  clear hqs
  generalize z.heap.size = Z at hzs hqs1 hqs2 QL QE QT
  refine range_gives (aa := 40) (bb := 20) (O := fun k => Z + 1 ≤ k ∧ k < Z + 3) (Rd := RdE E (.slice ra E.ds.length rc) (.slice sa E.sk.length sc) (.slice ma E.mv.length mc)) (xs := G0) (by omega) rfl (enters_of Tryz.func117 (by kernel_rfl) rfl) rfl
    (fun W hW => by rw [← HG0.out]; exact upTo_iter (by omega) E _ _ _ to0 (dys E) HX.out HW.out (Z + 1) (Z + 1 + 1) _ ⟨by omega, by omega⟩ ⟨by omega, by omega⟩ (by omega) W (QE.out.step hW) ((hW.block _ (Boxed.lt QT.out)).trans QT.out)) (fun k hk => by omega)
    (fun h r W => ∃ (v : Value) (o : List Int), Hid (Boxed W Z 39 v) ∧ Hid (Ow h W v o) ∧ o.length + r.length ≤ 73049 ∧ Hid (Y = o ++ spn fr0 to0 r) ∧ Hid (Boxed W (w.heap.size + 1) 3 (.int .i64 fr0)) ∧ Hid (Boxed W (w.heap.size + 2) 3 (.int .i64 to0)) ∧ Hid (Below w.heap.size w W))
    (fun _ _ _ => False)
    ?i0 ?i ?ix ?r0 ?r
    (fun x => { tmps := #[.agg #[.string E.id, .string E.ti, .int .i64 E.st, .int .i64 E.lg, .string E.f, .int .i64 E.e, .slice ra E.ds.length rc, .int .i64 E.c, .int .i64 E.u, .slice sa E.sk.length sc, .slice ma E.mv.length mc], .int .i64 fr0, .int .i64 to0, .pointer (some ⟨w.heap.size, 0, none⟩), .pointer (some ⟨w.heap.size + 1, 0, none⟩), .pointer (some ⟨w.heap.size + 1 + 1, 0, none⟩), .slice none 0 0, .nilIface, .nilIface, .pointer (some ⟨Z, 0, none⟩), .int .i64 x, .agg #[.string E.id, .string E.ti, .int .i64 E.st, .int .i64 E.lg, .string E.f, .int .i64 E.e, .slice ra E.ds.length rc, .int .i64 E.c, .int .i64 E.u, .slice sa E.sk.length sc, .slice ma E.mv.length mc], .nilIface, .nilIface, .bool false, undef, .agg #[.string E.id, .string E.ti, .int .i64 E.st, .int .i64 E.lg, .string E.f, .int .i64 E.e, .slice ra E.ds.length rc, .int .i64 E.c, .int .i64 E.u, .slice sa E.sk.length sc, .slice ma E.mv.length mc], .int .i64 to0, .func (.func 117) #[] #[.pointer (some ⟨Z + 1, 0, none⟩), .pointer (some ⟨Z + 1 + 1, 0, none⟩)], .int .i64 x, undef, undef, undef, undef, undef, undef, undef, undef, undef, undef, undef, undef, undef, undef, undef, undef, undef, undef, undef, undef, undef], defers := [] })
    ?assign ?body ?done ?stop
  case i0 =>
    intro W hS hs
    exact ⟨.slice none 0 0, [], hS.box QL.out ⟨fun q => by omega, by omega⟩, Ow.nil _ _, by simpa using HLN.out, HYX.out, hS.box Q1.out ⟨fun q => by omega, by omega⟩, hS.box Q2.out ⟨fun q => by omega, by omega⟩, HB.out.trans (hS.toBelow (by omega) (fun k hk => ⟨fun q => by omega, by omega⟩))⟩
  case i =>
    rintro h r W W' hh ⟨v, o, a1, a2, a3, a4, a5, a6, a9⟩ hS
    exact ⟨v, o, hS.box a1.out ⟨fun q => by omega, .inl (by omega)⟩, Ow.steps a2.out (fun k hk hl => hS.block k ⟨fun q => by omega, .inr hk⟩ hl), a3, a4, hS.box a5.out ⟨fun q => by omega, .inl (by omega)⟩, hS.box a6.out ⟨fun q => by omega, .inl (by omega)⟩, a9.out.trans (hS.toBelow a9.out.size (fun k hk => ⟨fun q => by omega, .inl (by omega)⟩))⟩
  case ix =>
    rintro cd h W W' hh q hS
    exact q.elim
  case r0 =>
    intro W hS
    have hb := HB.out.trans (hS.toBelow (n := w.heap.size) (by omega) (fun k hk => ⟨fun q => by omega, by omega⟩))
    exact ⟨(G.out.step hb).glob, D.out.step hb, S.out.step hb, M.out.step hb⟩
  case r =>
    rintro h r W ⟨_, _, _, _, _, _, _, _, a9⟩
    exact ⟨(G.out.step a9.out).glob, D.out.step a9.out, S.out.step a9.out, M.out.step a9.out⟩
  case assign =>
    intro l' m x W K hK
    gi_wp2
    exact hK
  case body =>
    rintro l' m h x r W hm hh hhW ⟨v, o, a1, a2, a3, a4, a5, a6, a9⟩
    have h1m : 1 ≤ m := by omega
    obtain ⟨oa, oc, rfl⟩ := ow_form a2.out
    have cL := Boxed.cell a1.out
    have fL := Boxed.frozen a1.out
    have cF := Boxed.cell a5.out
    have cT := Boxed.cell a6.out
    rw [List.length_cons] at a3
    by_cases hin : fr0 ≤ x ∧ x ≤ to0
    · have E2 : Hid (Y = (o ++ [x]) ++ spn fr0 to0 r) := by
        have := a4.out
        rw [spn_in hin.1 hin.2] at this
        show _ = _
        rw [this, List.append_assoc]; rfl
      obtain ⟨hi1, hi2⟩ := hin
      obtain ⟨i0, hi, hz0, hz1, hz2⟩ := info_parts info_int
      have OWA : Hid (Ow h (W.alloc (.cells #[.int .i64 x] 3)) (.slice oa o.length oc) o) := Ow.step a2.out (below_alloc _ _)
      have NC : Hid (_) := one_cell W x
      have hzw := hhW
      clear a4
      gi_wp2_with (first
        | (gi_at_builtin; refine wpListIn_append_own _ rfl _ _ 39 rfl h 3 i0 (.int .i64 0) 1 8 Tryz.underlying39 hi hz0 hz1 hz2 rfl (by decide) _ _ _ rfl OWA.out ⟨W.heap.size, 0, none⟩ 1 1 [.int .i64 x] rfl rfl NC.out (fun v hv => by rw [List.mem_singleton.1 hv]; rfl) (by unfold maxLen; omega) (by omega) (by rw [World.size_alloc]; omega) ?_; intro v' w1 hown' hgrow _; obtain ⟨g', cap', rfl⟩ := ownsRow_succ hown'; have hgr : (W.alloc (.cells #[.int .i64 x] 3)).grownBy w1 (Value.slice oa o.length oc).ownBlock := hgrow; have hlow : ∀ k, k < h → w1.heap[k]? = W.heap[k]? := (fun k hk => (hgr.block k (by rw [World.size_alloc]; omega) (fun q => by have := (World.ownsRow.lt OWA.out k q.symm).1; omega)).trans ((below_alloc W _).block k (by omega))); have cL1 := Boxed.cell (show Boxed w1 Z 39 (.slice oa o.length oc) from (hlow Z (by omega)).trans a1.out); have fL1 := Boxed.frozen (show Boxed w1 Z 39 (.slice oa o.length oc) from (hlow Z (by omega)).trans a1.out))
        | gi_in)
      have hz1 : W.heap.size ≤ w1.heap.size := by have := hgr.size; rw [World.size_alloc] at this; omega
      have hset : ∀ k, k < h → k ≠ Z → (w1.setCell ⟨Z, 0, none⟩ (.slice (some ⟨g', 0, none⟩) (o.length + 1) cap')).heap[k]? = W.heap[k]? := fun k hk hne => (Below.heap_setCell _ _ _ k (fun q => hne q)).trans (hlow k hk)
      have OW1 : Ow h w1 (.slice (some ⟨g', 0, none⟩) (o.length + 1) cap') (o ++ [x]) := by
        show World.ownsRow _ _ _ _ _ _ _
        rw [List.length_append, List.map_append]
        exact hown'
      refine ⟨⟨hgr.os, hgr.tape, hgr.output, by rw [set_size]; exact hz1, fun k hk hl => hset k (by rcases hk with q | q <;> omega) (by rcases hk with q | q <;> omega)⟩, ?_⟩
      have R : ∃ v, Hid (Boxed (w1.setCell ⟨Z, 0, none⟩ (.slice (some ⟨g', 0, none⟩) (o.length + 1) cap')) Z 39 v) ∧ ∃ o', Hid (Ow h (w1.setCell ⟨Z, 0, none⟩ (.slice (some ⟨g', 0, none⟩) (o.length + 1) cap')) v o') ∧ o'.length + r.length ≤ 73049 ∧ Hid (Y = o' ++ spn fr0 to0 r) ∧ Hid (Boxed (w1.setCell ⟨Z, 0, none⟩ (.slice (some ⟨g', 0, none⟩) (o.length + 1) cap')) (w.heap.size + 1) 3 (.int .i64 fr0)) ∧ Hid (Boxed (w1.setCell ⟨Z, 0, none⟩ (.slice (some ⟨g', 0, none⟩) (o.length + 1) cap')) (w.heap.size + 2) 3 (.int .i64 to0)) ∧ Hid (Below w.heap.size w (w1.setCell ⟨Z, 0, none⟩ (.slice (some ⟨g', 0, none⟩) (o.length + 1) cap'))) :=
        ⟨_, Boxed.set _ (show Boxed w1 Z 39 (.slice oa o.length oc) from (hlow Z (by omega)).trans a1.out), o ++ [x], Ow.steps OW1 (fun k hk hl => Below.heap_setCell _ _ _ k (fun q => by have q' : k = Z := q; omega)), by rw [List.length_append]; show o.length + 1 + r.length ≤ 73049; omega, E2,
          (hset _ (by omega) (by omega)).trans a5.out, (hset _ (by omega) (by omega)).trans a6.out,
          a9.out.trans ⟨hgr.os, hgr.tape, hgr.output, by rw [set_size]; exact hz1, fun k hk => hset k (by omega) (by omega)⟩⟩
      first
        | exact R
        | (obtain ⟨r1, r2, r3, r4⟩ := R; exact ⟨r1, r3, r2, r4⟩)
        | (trace_state; fail)
    · have E2 : Hid (Y = o ++ spn fr0 to0 r) := by
        have := a4.out
        rw [spn_out hin] at this
        exact this
      have hin' : x < fr0 ∨ (fr0 ≤ x ∧ to0 < x) := by omega
      clear a4 hin
      rcases hin' with q | ⟨q, q2⟩
      all_goals
        gi_wp2
        refine ⟨Steps.refl _ _, ?_⟩
        first
          | exact ⟨_, a1.out, o, a2.out, by omega, E2.out, a5.out, a6.out, a9.out⟩
          | exact ⟨_, o, a1.out, a2.out, by omega, E2.out, a5.out, a6.out, a9.out⟩
          | (trace_state; fail)
  case stop =>
    rintro cd h W hh hhW q hK
    exact q.elim
  case done =>
    rintro h W hh hhW ⟨v, o, a1, a2, a3, a4, a5, a6, a9⟩ hK
    have EY : Hid (Go.Lib.compact (o.mergeSort fun x y => decide (x ≤ y)) = R) := by
      have := a4.out
      rw [spn_nil, List.append_nil] at this
      rw [← this]; exact EQ.out
    have hlo : o.length ≤ 80000 := by simp at a3; omega
    have SO : Hid (_) := sort_ow h v o W a2.out hlo
    obtain ⟨oa, oc, rfl⟩ := ow_form a2.out
    have cL := Boxed.cell a1.out
    have HK : Hid (_) := hK
    clear hK a4 a3 a5 a6 EQ HYX
    have OB : Hid (∀ k, (Value.slice oa o.length oc).ownBlock = some k → h ≤ k) := fun k q => (World.ownsRow.lt a2.out k q).1
    have hcase : (R.length : Int) ≤ 1000 ∨ 1000 < (R.length : Int) := by omega
    have hws : w.heap.size ≤ W.heap.size := a9.out.size
    rcases hcase with hR | hR
    all_goals
      gi_wp2_with (first
        | (refine ⟨trivial, ?_⟩; gi_at_call 78; refine (callsIn_wide.2 SO.out).mono ?_; rintro r W2 ⟨rfl, hs2, hg2⟩; have O2 : Hid (_) := hs2; have L2 : Hid (Boxed W2 Z 39 (.slice oa o.length oc)) := (hg2.block _ (by omega) (fun q => by have := OB.out _ q.symm; omega)).trans a1.out; have cL2 := Boxed.cell L2.out; have K2 : Hid (W2.heap[W7.heap.size]? = some (.deferred (some []))) := (hg2.block _ (by omega) (fun q => by have := OB.out _ q.symm; omega)).trans HK.out; have B2 : Hid (Below w.heap.size w W2) := a9.out.grown hg2 hws (fun k q => by have := OB.out k q; omega); have z2 : W.heap.size ≤ W2.heap.size := hg2.size; clear hs2 hg2; have CO := compact_ow h (.slice oa o.length oc) _ W2 O2.out (by rw [List.length_mergeSort]; exact hlo); rw [EY.out] at CO; have HCO : Hid (Calls _ _ _ _ _) := CO; clear CO)
        | (refine ⟨trivial, ?_⟩; gi_at_call 79; refine (callsIn_wide.2 HCO.out).mono ?_; rintro r W3 ⟨v3, rfl, hs3, hg3⟩; obtain ⟨va, vc, rfl⟩ := ow_form hs3; have O3 : Hid (Ow h W3 (.slice va R.length vc) R) := hs3; have L3 : Hid (Boxed W3 Z 39 (.slice oa o.length oc)) := (hg3.block _ (Boxed.lt L2.out) (fun q => by have := OB.out _ q.symm; omega)).trans L2.out; have cL3 := Boxed.cell L3.out; have fL3 := Boxed.frozen L3.out; have K3 : Hid (W3.heap[W7.heap.size]? = some (.deferred (some []))) := (hg3.block _ (by omega) (fun q => by have := OB.out _ q.symm; omega)).trans K2.out; have B3 : Hid (Below w.heap.size w (W3.setCell ⟨Z, 0, none⟩ (.slice va R.length vc))) := (B2.out.grown hg3 (by omega) (fun k q => by have := OB.out k q; omega)).setCell (p := ⟨Z, 0, none⟩) (by show _ ≤ Z; omega) _; clear hs3 hg3))
    · have D2 : (W3.setCell ⟨Z, 0, none⟩ (.slice va R.length vc)).heap[W7.heap.size]? = some (.deferred (some [])) := (Below.heap_setCell _ _ _ _ (fun e => by have e' : W7.heap.size = Z := e; omega)).trans K3.out
      have O4 : Ow h (W3.setCell ⟨Z, 0, none⟩ (.slice va R.length vc)) (.slice va R.length vc) R := Ow.steps O3.out (fun k hk hl => Below.heap_setCell _ _ _ _ (fun e => by have e' : k = Z := e; omega))
      have HB4 := B3.out
      generalize W3.setCell ⟨Z, 0, none⟩ (.slice va R.length vc) = W4 at D2 O4 HB4 ⊢
      refine ⟨by simp, .inl ⟨_, _, rfl, run_takeDeferred D2, ?_⟩⟩
      refine ⟨.tuple #[.slice va R.length vc, .nilIface], ?_, HB4.trans ((Steps.put W4 W7.heap.size _ (by omega : ¬ W7.heap.size < w.heap.size)).toBelow HB4.size (fun k hk => hk)), .inl ⟨by omega, _, rfl, own_base (Ow.steps O4 (fun k hk hl => World.putObj_heap_other (by omega))) (by omega)⟩⟩
      simp [results, Tryz.f47, go_sem]
    · have D2 : (W3.setCell ⟨Z, 0, none⟩ (.slice va R.length vc)).heap[W7.heap.size]? = some (.deferred (some [])) := (Below.heap_setCell _ _ _ _ (fun e => by have e' : W7.heap.size = Z := e; omega)).trans K3.out
      have HB4 := B3.out
      generalize W3.setCell ⟨Z, 0, none⟩ (.slice va R.length vc) = W4 at D2 HB4 ⊢
      have cE : W4.drew.cell? ⟨2, 0, none⟩ = some (.iface 288 (.pointer (some (s 6)))) := (G.out.step HB4).c6
      have D3 : Hid (W4.drew.heap[W7.heap.size]? = some (.deferred (some []))) := D2
      have HB5 : Hid (Below w.heap.size w W4.drew) := HB4.drew
      clear D2 HB4
      gi_region
      all_goals
        gi_wp2
        refine ⟨by simp, .inl ⟨_, _, rfl, run_takeDeferred D3.out, ?_⟩⟩
        refine ⟨.tuple #[.slice none 0 0, .iface 288 (.pointer (some (s 6)))], ?_, HB5.out.trans ((Steps.put W4.drew W7.heap.size _ (by omega : ¬ W7.heap.size < w.heap.size)).toBelow HB5.out.size (fun k hk => hk)), .inr ⟨by omega, rfl⟩⟩
        simp [results, Tryz.f47, go_sem]
end Go.Proofs.YtnpecjccajebiaaGreatDoor
