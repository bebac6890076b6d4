/- The library's own contracts of some functions more, laid at this program. -/
import Derived.Shelf.Strings.Builder1
import Derived.Shelf.Strings.Builder2
import Derived.Shelf.Strings.OnBuilder
import Derived.Shelf.Small.Bits
import Derived.Shelf.Small.Strs
import Derived.Shelf.Small.Wraps
import Derived.Shelf.Strings.BuilderF
import Derived.Shelf.Strings.BuilderK
import Derived.Shelf.Utf8.RuneCount
import Derived.Shelf.Strconv.Atoi
import Derived.Shelf.Strconv.Itoa0
import Derived.Shelf.Strconv.Itoa1
import Derived.Shelf.LaysM
import Derived.Shelf.Strconv.Itoa2
import Derived.Shelf.Strconv.Itoa3
import Derived.Shelf.Strings.Search1
import Derived.Shelf.Strings.Search2
import Derived.Shelf.Strings.Search3
import Derived.Shelf.Strings.Cut
import Derived.Shelf.Strings.Count
import Derived.Shelf.Strings.Shaped
import Derived.Shelf.Sort.Plain
import Derived.Shelf.Strings.Prefix
import Derived.Shelf.Strings.Split
import Derived.Shelf.Strings.SplitShaped
import Derived.Shelf.Unicode.Decode
import Derived.Shelf.Strings.RuneCount
import Derived.Shelf.Strings.Explode
import Derived.Shelf.Unicode.DecodeSlow
import Derived.Shelf.Unicode.DecodeAny
import Derived.Shelf.Slices.Turned
import Derived.Ground.Names2Prog
import Derived.Shelf.Slices.Clone
import Derived.Shelf.Slices.CompactI
import Derived.Shelf.Slices.CompactS
import Derived.Shelf.Slices.SearchI
import Derived.Shelf.Slices.Cells
import Derived.Shelf.Slices.In.SortNone
import Derived.Shelf.Slices.Empties
import Derived.Ground.SlgnProg
import Derived.Shelf.SlicesE.Clone
import Derived.Test.YtbhidomccdhdkaaGreatDoorProg
import Derived.Test.YtbhidomccdhdkaaGreatDoorRF
import Derived.Test.YtbhidomccdhdkaaGreatDoorJaQ
import Derived.Test.YtbhidomccdhdkaaGreatDoorJaB
import Derived.Test.YtbhidomccdhdkaaGreatDoorExpLJ
import Derived.Shelf.Abstract
import Derived.Shelf.RegionOpen
import Derived.WalkKit
import Derived.OwnWalkIn
import Derived.TacticsInMore
import Derived.LoopNIn
import Derived.LoopIn
namespace Go.Proofs
open Go.Shelf
def Tryz.lays137_ren : Go.Shelf.Ren := ⟨fun | 137 => 81 | 217 => 127 | 266 => 173 | n => n, fun | 9 => 9 | 5 => 5 | 3 => 3 | n => n, fun | n => n⟩
theorem Tryz.lays137 : Go.Proofs.Lays.n137 Tryz.prog Tryz.lays137_ren := {
  mixed := by kernel_rfl
  f137 := Tryz.func81.trans (congrArg some (by kernel_rfl))
  f217 := Tryz.func127.trans (congrArg some (by kernel_rfl))
  f266 := Tryz.func173.trans (congrArg some (by kernel_rfl))
  t3 := Tryz.underlying3
  a3 := Tryz.isAgg3
  z3 := Tryz.sizeOf3
  v3 := Tryz.zeroValue3
  t5 := Tryz.underlying5
  a5 := Tryz.isAgg5
  z5 := Tryz.sizeOf5
  v5 := Tryz.zeroValue5
  t9 := Tryz.underlying9
  a9 := Tryz.isAgg9
  z9 := Tryz.sizeOf9
  v9 := Tryz.zeroValue9 }
open Go.RowKit in
theorem Tryz.strings_IndexByte (s : ByteArray) (c : Int) (w : World) :
    Calls Tryz.prog 81 #[.string s, .int .u8 c] w fun e w' => e = .returned (.int .i64 (Lib.indexByte s.data.toList c.toNat.toUInt8)) ∧ w' = w := Any.strings_IndexByte Tryz.lays137 s c w
def Tryz.lays104_ren : Go.Shelf.Ren := ⟨fun | 104 => 82 | 211 => 128 | 207 => 174 | n => n, fun | 9 => 9 | 4 => 4 | 24 => 134 | 3 => 3 | n => n, fun | n => n⟩
theorem Tryz.lays104 : Go.Proofs.Lays.n104 Tryz.prog Tryz.lays104_ren := {
  mixed := by kernel_rfl
  f104 := Tryz.func82.trans (congrArg some (by kernel_rfl))
  f207 := Tryz.func174.trans (congrArg some (by kernel_rfl))
  f211 := Tryz.func128.trans (congrArg some (by kernel_rfl))
  t3 := Tryz.underlying3
  a3 := Tryz.isAgg3
  z3 := Tryz.sizeOf3
  v3 := Tryz.zeroValue3
  t4 := Tryz.underlying4
  a4 := Tryz.isAgg4
  z4 := Tryz.sizeOf4
  v4 := Tryz.zeroValue4
  t9 := Tryz.underlying9
  a9 := Tryz.isAgg9
  z9 := Tryz.sizeOf9
  v9 := Tryz.zeroValue9
  t24 := Tryz.underlying134
  a24 := Tryz.isAgg134
  z24 := Tryz.sizeOf134
  v24 := Tryz.zeroValue134 }
open Go.RowKit in
theorem Tryz.strings_CutSuffix (s p : ByteArray) (w : World) (hs : s.size ≤ 9223372036854775807) :
    Calls Tryz.prog 82 #[.string s, .string p] w fun e w' => e = .returned (.tuple #[.string ⟨(Lib.trimSuffix s.data.toList p.data.toList).toArray⟩, .bool (Lib.hasSuffix s.data.toList p.data.toList)]) ∧ w' = w := Any.strings_CutSuffix Tryz.lays104 s p w hs
def Tryz.lays194_ren : Go.Shelf.Ren := ⟨fun | 194 => 106 | n => n, fun | 31 => 36 | 9 => 9 | 3 => 3 | 4 => 4 | 0 => 0 | n => n, fun | n => n⟩
theorem Tryz.lays194 : Go.Proofs.Lays.n194 Tryz.prog Tryz.lays194_ren := {
  mixed := by kernel_rfl
  f194 := Tryz.func106.trans (congrArg some (by kernel_rfl))
  t0 := Tryz.underlying0
  a0 := Tryz.isAgg0
  z0 := Tryz.sizeOf0
  v0 := Tryz.zeroValue0
  t3 := Tryz.underlying3
  a3 := Tryz.isAgg3
  z3 := Tryz.sizeOf3
  v3 := Tryz.zeroValue3
  t4 := Tryz.underlying4
  a4 := Tryz.isAgg4
  z4 := Tryz.sizeOf4
  v4 := Tryz.zeroValue4
  t9 := Tryz.underlying9
  a9 := Tryz.isAgg9
  z9 := Tryz.sizeOf9
  v9 := Tryz.zeroValue9
  t31 := Tryz.underlying36
  a31 := Tryz.isAgg36
  z31 := Tryz.sizeOf36
  v31 := Tryz.zeroValue36 }
open Go.RowKit Go.Lib Go.Sort in
theorem Tryz.slices_Compact_string (blk off cap : Nat) (zs : List (List UInt8)) (w : World) (hH : Holds encStr w blk off zs.toArray) (hsz : zs.length ≤ 9223372036854775807) (hcap : zs.length ≤ cap) :
    Calls Tryz.prog 106 #[.slice (some ⟨blk, off, none⟩) zs.length cap] w fun e w' => e = .returned (.slice (some ⟨blk, off, none⟩) (Lib.compact zs).length cap) ∧ ∃ q, w' = putRow encStr (Sort.ahead w q) blk off (Lib.compact zs ++ List.replicate (zs.length - (Lib.compact zs).length) []).toArray := Any.slices_Compact_string Tryz.lays194 blk off cap zs w hH hsz hcap
open Go.RowKit Go.Lib Go.Sort in
theorem Tryz.slices_Compact_string_empty (a : Option Addr) (cap : Nat) (w : World) :
    Calls Tryz.prog 106 #[.slice a 0 cap] w fun e w' => e = .returned (.slice a 0 cap) ∧ w' = w := Any.slices_Compact_string_empty Tryz.lays194 a cap w
def Tryz.lays190_ren : Go.Shelf.Ren := ⟨fun | 190 => 85 | 125 => 134 | 258 => 133 | 128 => 192 | 129 => 193 | 302 => 183 | 303 => 184 | 304 => 185 | 305 => 186 | 306 => 187 | 307 => 188 | 308 => 189 | 309 => 190 | 310 => 191 | 333 => 228 | 329 => 229 | 330 => 230 | 334 => 231 | 335 => 232 | 336 => 233 | 344 => 270 | n => n, fun | 31 => 36 | 9 => 9 | 3 => 3 | 46 => 174 | 0 => 0 | 51 => 228 | 53 => 230 | 4 => 4 | 183 => 222 | 182 => 221 | 131 => 212 | 5 => 5 | 218 => 274 | 222 => 278 | 228 => 302 | 229 => 106 | n => n, fun | n => n⟩
theorem Tryz.lays190 : Go.Proofs.Lays.n190 Tryz.prog Tryz.lays190_ren := {
  mixed := by kernel_rfl
  f125 := Tryz.func134.trans (congrArg some (by kernel_rfl))
  f128 := Tryz.func192.trans (congrArg some (by kernel_rfl))
  f129 := Tryz.func193.trans (congrArg some (by kernel_rfl))
  f190 := Tryz.func85.trans (congrArg some (by kernel_rfl))
  f258 := Tryz.func133.trans (congrArg some (by kernel_rfl))
  f302 := Tryz.func183.trans (congrArg some (by kernel_rfl))
  f303 := Tryz.func184.trans (congrArg some (by kernel_rfl))
  f304 := Tryz.func185.trans (congrArg some (by kernel_rfl))
  f305 := Tryz.func186.trans (congrArg some (by kernel_rfl))
  f306 := Tryz.func187.trans (congrArg some (by kernel_rfl))
  f307 := Tryz.func188.trans (congrArg some (by kernel_rfl))
  f308 := Tryz.func189.trans (congrArg some (by kernel_rfl))
  f309 := Tryz.func190.trans (congrArg some (by kernel_rfl))
  f310 := Tryz.func191.trans (congrArg some (by kernel_rfl))
  f329 := Tryz.func229.trans (congrArg some (by kernel_rfl))
  f330 := Tryz.func230.trans (congrArg some (by kernel_rfl))
  f333 := Tryz.func228.trans (congrArg some (by kernel_rfl))
  f334 := Tryz.func231.trans (congrArg some (by kernel_rfl))
  f335 := Tryz.func232.trans (congrArg some (by kernel_rfl))
  f336 := Tryz.func233.trans (congrArg some (by kernel_rfl))
  f344 := Tryz.func270.trans (congrArg some (by kernel_rfl))
  t0 := Tryz.underlying0
  a0 := Tryz.isAgg0
  z0 := Tryz.sizeOf0
  v0 := Tryz.zeroValue0
  t3 := Tryz.underlying3
  a3 := Tryz.isAgg3
  z3 := Tryz.sizeOf3
  v3 := Tryz.zeroValue3
  t4 := Tryz.underlying4
  a4 := Tryz.isAgg4
  z4 := Tryz.sizeOf4
  v4 := Tryz.zeroValue4
  t5 := Tryz.underlying5
  a5 := Tryz.isAgg5
  z5 := Tryz.sizeOf5
  v5 := Tryz.zeroValue5
  t9 := Tryz.underlying9
  a9 := Tryz.isAgg9
  z9 := Tryz.sizeOf9
  v9 := Tryz.zeroValue9
  t31 := Tryz.underlying36
  a31 := Tryz.isAgg36
  z31 := Tryz.sizeOf36
  v31 := Tryz.zeroValue36
  t46 := Tryz.underlying174
  a46 := Tryz.isAgg174
  z46 := Tryz.sizeOf174
  v46 := Tryz.zeroValue174
  t51 := Tryz.underlying228
  a51 := Tryz.isAgg228
  z51 := Tryz.sizeOf228
  v51 := Tryz.zeroValue228
  t53 := Tryz.underlying230
  a53 := Tryz.isAgg230
  z53 := Tryz.sizeOf230
  v53 := Tryz.zeroValue230
  t131 := Tryz.underlying212
  a131 := Tryz.isAgg212
  z131 := Tryz.sizeOf212
  v131 := Tryz.zeroValue212
  t182 := Tryz.underlying221
  a182 := Tryz.isAgg221
  z182 := Tryz.sizeOf221
  v182 := Tryz.zeroValue221
  t183 := Tryz.underlying222
  a183 := Tryz.isAgg222
  z183 := Tryz.sizeOf222
  v183 := Tryz.zeroValue222
  t218 := Tryz.underlying274
  a218 := Tryz.isAgg274
  z218 := Tryz.sizeOf274
  v218 := Tryz.zeroValue274
  t222 := Tryz.underlying278
  a222 := Tryz.isAgg278
  z222 := Tryz.sizeOf278
  v222 := Tryz.zeroValue278
  t228 := Tryz.underlying302
  a228 := Tryz.isAgg302
  z228 := Tryz.sizeOf302
  v228 := Tryz.zeroValue302
  t229 := Tryz.underlying106
  a229 := Tryz.isAgg106
  z229 := Tryz.sizeOf106
  v229 := Tryz.zeroValue106 }
open Go.Sort Go.RowKit in
theorem Tryz.slices_Sort_string (blk off cap : Nat) (ss : List (List UInt8)) (w : World) (hH : Holds encStr w blk off ss.toArray) (hblk : blk < w.heap.size) (hsz : ss.length < 4611686018427387904) :
    Calls Tryz.prog 85 #[.slice (some ⟨blk, off, none⟩) ss.length cap] w fun e w' =>
      e = .returned (.tuple #[]) ∧ ∃ n os, w' = grow (putRow encStr (Sort.ahead w n) blk off (ss.mergeSort fun x y => decide (x ≤ y)).toArray) os := Any.slices_Sort_string Tryz.lays190 blk off cap ss w hH hblk hsz
open Go.RowKit Go.Sort in
theorem Tryz.slices_Sort_string_none (p : Option Addr) (cap : Nat) (w : World) :
    Calls Tryz.prog 85 #[.slice p 0 cap] w fun e w' => e = .returned (.tuple #[]) ∧ w' = w := Any.slices_Sort_string_none Tryz.lays190 p cap w
end Go.Proofs

/- The iterator of strings.Lines at a text of whole lines: it gives them one by one; ahead of each round it writes its own variable. -/
namespace Go.Proofs.YtbhidomccdhdkaaGreatDoor
open Go Go.RowKit Go.Shelf Cal
attribute [local go_sem] Oper.semAt_some

theorem lines_any (sb : ByteArray) (w : World) : Calls Tryz.prog 45 #[.string sb] w fun r w' => r = .returned (.func (.func 80) #[] #[.pointer (some ⟨w.heap.size, 0, none⟩)]) ∧ w' = w.alloc (.cells #[.string sb] 9) := by
  go_enter Tryz.func45, Tryz.ntmps45
  go_wp2
  go_ret
  exact ⟨rfl, rfl⟩

set_option maxHeartbeats 1000000 in
theorem lines_iter (n l Bs : Nat) (ws : List (List UInt8)) (J Jx : Nat → World → Prop) (hn : 6 ≤ n) (hws : ∀ x ∈ ws, ∃ y, x = y ++ [10] ∧ (10 : UInt8) ∉ y)
    (hJs : ∀ k W W', J k W → W.grownBy W' (some Bs) → J k W')
    (hY : ∀ (k : Nat) (hk : k < ws.length) (W : World), J k W → YieldAt Fence.wide (n - 1) Tryz.prog l #[.string ⟨ws[k].toArray⟩] W fun e W' =>
      (e = .returned (.bool true) ∧ J (k + 1) W' ∧ W'.heap[Bs]? = W.heap[Bs]?) ∨ (e = .returned (.bool false) ∧ Jx (k + 1) W'))
    (W : World) (s : ByteArray) (hsz : s.size ≤ 1000000) (hs : s.data.toList = ws.flatten) (hB : Boxed W Bs 9 (.string s)) (h0 : J 0 W) :
    CallsIn Fence.wide n Tryz.prog 80 #[.func (.yield l) #[] #[], .pointer (some ⟨Bs, 0, none⟩)] W fun e W' =>
      (∃ v, e = .returned v) ∧ (J ws.length W' ∨ ∃ k, Jx k W') := by
  have h1 : 1 ≤ n := by omega
  have c1 := hB.cell
  refine callsIn_of_wp Tryz.func80 rfl trivial ?_ rfl
  simp only [Tryz.ntmps80, List.size_toArray, List.length_cons, List.length_nil, Nat.reduceAdd, Nat.reduceSub, Array.replicate_succ, Array.replicate_zero, List.push_toArray, List.append_toArray, List.nil_append, List.cons_append]
  gi_wp2
  have HY : Hid (_) := hY
  have HJ : Hid (_) := hJs
  have HWS : Hid (_) := hws
  clear hY hJs c1 hws
  gi_loopw [3, 4] (fun i fr wr => ∃ (k : Nat) (sk : ByteArray), k ≤ ws.length ∧ J k wr ∧ Boxed wr Bs 9 (.string sk) ∧ sk.data.toList = (ws.drop k).flatten ∧ sk.size ≤ s.size) (fun _ _ wr => leftOf wr Bs)
  case atStart => exact ⟨0, s, Nat.zero_le _, h0, hB, hs, Nat.le_refl _⟩
  case round =>
    obtain ⟨k, sk, hkl, hJk, d1, hp, hss⟩ := hrel
    have e1 := d1.cell
    have f1 := d1.frozen
    by_cases hk : k < ws.length
    · obtain ⟨y, hy, hny⟩ := HWS.out ws[k] (List.getElem_mem hk)
      have hdr : (ws.drop k).flatten = y ++ 10 :: (ws.drop (k + 1)).flatten := by
        rw [List.drop_eq_getElem_cons hk, List.flatten_cons, hy, List.append_assoc]; rfl
      rw [hdr] at hp
      have hix : Lib.indexByte sk.data.toList 10 = (y.length : Int) := by rw [hp]; exact index_at 10 _ y hny
      have hskl : sk.size = y.length + 1 + (ws.drop (k + 1)).flatten.length := by
        rw [Lib.size_eq, hp]; simp; omega
      have ew : (⟨ws[k].toArray⟩ : ByteArray) = sk.extract 0 (y.length + 1) := by
        apply ba_ext
        rw [Lib.extract_data, hp, hy]
        have : y ++ 10 :: (ws.drop (k + 1)).flatten = (y ++ [10]) ++ (ws.drop (k + 1)).flatten := by simp
        rw [this]
        have h2 : (y ++ [10]).length = y.length + 1 := by simp
        rw [Nat.sub_zero, List.drop_zero, ← h2, List.take_left]
      have ex : (sk.extract (y.length + 1) sk.size).data.toList = (ws.drop (k + 1)).flatten := by
        rw [Lib.extract_to_end sk (y.length + 1), hp]; simp
      have ix := Tryz.strings_IndexByte sk 10 wr
      rw [show ((10 : Int).toNat.toUInt8) = (10 : UInt8) from rfl, hix] at ix
      have IX : Hid (Calls Tryz.prog 81 #[.string sk, .int .u8 10] wr fun e w' => e = .returned (.int .i64 (y.length : Int)) ∧ w' = wr) := ix
      have HYk : Hid (∀ W, J k W → YieldAt Fence.wide (n - 1) Tryz.prog l #[.string (sk.extract 0 (y.length + 1))] W fun e W' => (e = .returned (.bool true) ∧ J (k + 1) W' ∧ W'.heap[Bs]? = W.heap[Bs]?) ∨ (e = .returned (.bool false) ∧ Jx (k + 1) W')) := fun W hJ => by
        have := HY.out k hk W hJ
        rwa [ew] at this
      have HE : Hid ((sk.extract (y.length + 1) sk.size).data.toList = (ws.drop (k + 1)).flatten) := ex
      have hyl : (y.length : Int) + 1 ≤ (sk.size : Int) := by omega
      have hsk0 : 0 < (sk.size : Int) := by omega
      have hskm : (sk.size : Int) ≤ 1000000 := by omega
      clear ix hix hdr ew ex hy hny hp HY hskl
      generalize y.length = i at IX HYk HE hyl
      gi_upto_region 4 with (refine ⟨trivial, ?_⟩; gi_at_call 81; refine (callsIn_wide.2 (IX.out)).mono ?_; rintro e wr' ⟨rfl, rfl⟩)
      gi_region
      have g1 : wr'.grownBy ((wr'.setCell ⟨Bs, 0, none⟩ (.string (sk.extract (i + 1) sk.size))).drew) (some Bs) := grown_then (grown_set wr' ⟨Bs, 0, none⟩ _) (grown_below (drew_below _) _)
      have hYd := HYk.out _ (HJ.out k _ _ hJk g1)
      have d2 : Boxed ((wr'.setCell ⟨Bs, 0, none⟩ (.string (sk.extract (i + 1) sk.size))).drew) Bs 9 (.string (sk.extract (i + 1) sk.size)) := d1.set _
      have HD1 : Hid (_) := d1
      clear d1 e1 f1 hJk g1
      generalize (wr'.setCell ⟨Bs, 0, none⟩ (.string (sk.extract (i + 1) sk.size))).drew = w2 at hYd d2 ⊢
      have HD2 : Hid (_) := d2
      clear d2
      obtain ⟨fn, tmps, assign, body, hy, hR⟩ := hYd
      gi_wp2
      refine hR.mono ?_
      rintro e W3 (⟨rfl, hJ3, g3⟩ | ⟨rfl, hJx3⟩)
      · have HG : Hid (J (k + 1) W3) := hJ3
        have d3 : Boxed W3 Bs 9 (.string (sk.extract (i + 1) sk.size)) := g3.trans HD2.out
        have hel : (sk.extract (i + 1) sk.size).size = sk.size - (i + 1) := by simp
        clear hJ3 g3
        gi_wp2
        go_roundw
        case rel => exact ⟨k + 1, _, hk, HG.out, d3, HE.out, by omega⟩
        case measure =>
          rw [leftOf_eq d3, leftOf_eq HD1.out]
          omega
      · gi_wp2
        refine bodyPost_ret (results_none rfl _ _ _) rfl ?_
        exact ⟨⟨_, rfl⟩, .inr ⟨_, hJx3⟩⟩
    · have hkk : k = ws.length := by omega
      have hsk : sk.size = 0 := by
        rw [Lib.size_eq, hp, hkk, List.drop_length]; rfl
      have hsk' : (sk.size : Int) = 0 := by omega
      have HJE : Hid (J ws.length wr) := by rw [← hkk]; exact hJk
      clear hp hJk HY HJ HWS
      gi_wp2
      go_end0
      exact ⟨⟨_, rfl⟩, .inl HJE.out⟩
end Go.Proofs.YtbhidomccdhdkaaGreatDoor
