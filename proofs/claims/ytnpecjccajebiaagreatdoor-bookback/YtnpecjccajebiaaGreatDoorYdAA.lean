/- A list of numbers, or of moves, lies in no block that begins with a text. -/
import Derived.Test.YtnpecjccajebiaaGreatDoorYaAM
import Derived.Test.YtnpecjccajebiaaGreatDoorYaAA
import Derived.Test.YtnpecjccajebiaaGreatDoorYbAA
import Derived.Test.YtnpecjccajebiaaGreatDoorYaAI
import Derived.Shelf.Abstract
import Derived.Shelf.RegionOpen
import Derived.WalkKit
import Derived.OwnWalkIn
import Derived.TacticsInMore
import Derived.LoopNIn
import Derived.LoopIn
import Derived.Shelf.Strings.Builder1
import Derived.Shelf.Strings.Builder2
import Derived.Shelf.Strings.OnBuilder
import Derived.Shelf.Small.Bits
import Derived.Shelf.Small.Strs
import Derived.Shelf.Small.Wraps
import Derived.Shelf.Strings.BuilderF
import Derived.Shelf.Strings.BuilderK
import Derived.Shelf.Strconv.Atoi
import Derived.Shelf.Strconv.Itoa0
import Derived.Shelf.Strconv.Itoa1
import Derived.Shelf.LaysM
import Derived.Shelf.Strconv.Itoa2
import Derived.Shelf.Strconv.Itoa3
import Derived.Shelf.Strconv.AtoiErrFast
import Derived.Shelf.Strconv.ParseIntEmpty
import Derived.Shelf.Strconv.AtoiFail
import Derived.Shelf.Strconv.Clone
import Derived.Shelf.Strconv.SyntaxError
import Derived.Shelf.LaysC
import Derived.Shelf.Strconv.ToError
import Derived.Shelf.Strconv.AtoiErr
import Derived.Shelf.Strconv.Lower
import Derived.Shelf.Strconv.ParseUint10
import Derived.Shelf.Strconv.ParseUint10Empty
import Derived.Shelf.Strconv.ParseUint10Any
import Derived.Shelf.Strconv.ParseInt10
import Derived.Shelf.Strconv.AtoiLong
import Derived.Shelf.Strconv.AtoiInnerAll
import Derived.Shelf.Strconv.RangeError
import Derived.Shelf.Strconv.ToErrorRange
import Derived.Shelf.Strconv.AtoiAll
import Derived.Shelf.Strings.Search1
import Derived.Shelf.Strings.Search2
import Derived.Shelf.Strings.Search3
import Derived.Shelf.Strings.Cut
import Derived.Shelf.Strings.Count
import Derived.Shelf.Strings.Shaped
import Derived.Shelf.Sort.Plain
import Derived.Shelf.Strings.Prefix
import Derived.Shelf.Strings.Split
import Derived.Shelf.Unicode.DecodeSlow
import Derived.Shelf.Unicode.DecodeAny
import Derived.Ground.Names2Prog
import Derived.Shelf.Slices.Clone
import Derived.Shelf.Slices.CompactI
import Derived.Shelf.Slices.SearchI
import Derived.Shelf.Slices.Cells
import Derived.Shelf.Slices.In.SortNone
import Derived.Shelf.Slices.Empties
import Derived.Ground.SlgnProg
import Derived.Shelf.SlicesE.Clone
import Derived.Test.YtnpecjccajebiaaGreatDoorProg
import Derived.Test.YtnpecjccajebiaaGreatDoorYbAB
import Derived.Test.YtnpecjccajebiaaGreatDoorYaAJ
import Derived.BigRegion
namespace Go.Proofs.YtnpecjccajebiaaGreatDoor
open Go Go.RowKit Cal

theorem off_blkI {W : World} {v : Value} {xs : List Int} {B : Nat} {x : ByteArray} (h : Ints W v xs) (h30 : xs.length ≤ 60) (hb : W.cell? ⟨B, 0, none⟩ = some (.string x)) : OffI (· = B) W v xs := by
  obtain ⟨a, c, h1, h2, h3, h4⟩ := h
  refine ⟨a, c, h1, h30, h3, fun j hj => ?_⟩
  obtain ⟨b, e, hl, hc⟩ := h4 j hj
  refine ⟨b, e, fun q => ?_, hl, hc⟩
  obtain ⟨b', e', _, hc'⟩ := h4 0 (by omega)
  have eb : b' = b := by rw [e] at e'; cases e'; rfl
  have q' : b = B := q
  rw [eb, q', hb] at hc'
  cases hc'
theorem off_blkM {W : World} {v : Value} {xs : List (Int × Int)} {B : Nat} {x : ByteArray} (h : Movs W v xs) (h30 : xs.length ≤ 60) (hb : W.cell? ⟨B, 0, none⟩ = some (.string x)) : OffM (· = B) W v xs := by
  obtain ⟨a, c, h1, h2, h3, h4⟩ := h
  refine ⟨a, c, h1, h30, h3, fun j hj => ?_⟩
  obtain ⟨b, e, hl, hc⟩ := h4 j hj
  refine ⟨b, e, fun q => ?_, hl, hc⟩
  obtain ⟨b', e', _, hc', _⟩ := h4 0 (by omega)
  have eb : b' = b := by rw [e] at e'; cases e'; rfl
  have q' : b = B := q
  rw [eb, q', Nat.zero_mul, hb] at hc'
  cases hc'
end Go.Proofs.YtnpecjccajebiaaGreatDoor

/- The iterator of strings.SplitSeq at a separator of one sign: it gives a text's pieces, one by one; between two rounds it writes its own variable. -/
namespace Go.Proofs.YtnpecjccajebiaaGreatDoor
open Go Go.RowKit Go.Shelf Cal
attribute [local go_sem] Oper.semAt_some

theorem ba_ext {a b : ByteArray} (h : a.data.toList = b.data.toList) : a = b := by
  obtain ⟨⟨x⟩⟩ := a
  obtain ⟨⟨y⟩⟩ := b
  have : x = y := h
  subst this
  rfl

/-- what is left of the text, read off the world -/
def leftOf (W : World) (B : Nat) : Nat := match W.cell? ⟨B, 0, none⟩ with
  | some (.string s) => s.size + 1
  | _ => 0

/-- the iterator's three variables -/
structure Its (W : World) (Bs Bp Bv : Nat) (s : ByteArray) (c : UInt8) : Prop where
  s : Boxed W Bs 9 (.string s)
  p : Boxed W Bp 9 (.string ⟨#[c]⟩)
  v : Boxed W Bv 3 (.int .i64 0)

theorem leftOf_eq {W : World} {B : Nat} {s : ByteArray} {t : TypeId} (h : Boxed W B t (.string s)) : leftOf W B = s.size + 1 := by
  unfold leftOf; rw [h.cell]

set_option maxHeartbeats 1000000 in
theorem split_iter (n l Bs Bp Bv : Nat) (c : UInt8) (ws : List (List UInt8)) (J Jx : Nat → World → Prop) (hn : 6 ≤ n) (hne1 : Bs ≠ Bp) (hne2 : Bs ≠ Bv)
    (hJs : ∀ k W v, J k W → J k (W.setCell ⟨Bs, 0, none⟩ v))
    (hY : ∀ (k : Nat) (hk : k < ws.length) (W : World), J k W → YieldAt Fence.wide (n - 1) Tryz.prog l #[.string ⟨ws[k].toArray⟩] W fun e W' =>
      (e = .returned (.bool true) ∧ J (k + 1) W' ∧ W'.heap[Bs]? = W.heap[Bs]? ∧ W'.heap[Bp]? = W.heap[Bp]? ∧ W'.heap[Bv]? = W.heap[Bv]?) ∨ (e = .returned (.bool false) ∧ Jx (k + 1) W'))
    (W : World) (s : ByteArray) (hsz : s.size ≤ 1000000) (hs : pieces c s.data.toList = ws) (hB : Its W Bs Bp Bv s c) (h0 : J 0 W) :
    CallsIn Fence.wide n Tryz.prog 260 #[.func (.yield l) #[] #[], .pointer (some ⟨Bp, 0, none⟩), .pointer (some ⟨Bs, 0, none⟩), .pointer (some ⟨Bv, 0, none⟩)] W fun e W' =>
      (∃ v, e = .returned v) ∧ (J ws.length W' ∨ ∃ k, Jx k W') := by
  have h1 : 1 ≤ n := by omega
  obtain ⟨b1, b2, b3⟩ := hB
  have c1 := b1.cell
  have c2 := b2.cell
  have c3 := b3.cell
  refine callsIn_of_wp Tryz.func260 rfl trivial ?_ rfl
  simp only [Tryz.ntmps260, List.size_toArray, List.length_cons, List.length_nil, Nat.reduceAdd, Nat.reduceSub, Array.replicate_succ, Array.replicate_zero, List.push_toArray, List.append_toArray, List.nil_append, List.cons_append]
  gi_wp2
  have HY : Hid (_) := hY
  have HJ : Hid (_) := hJs
  clear hY hJs c1 c2 c3
  gi_loopw [7, 8] (fun i fr wr => ∃ (k : Nat) (sk : ByteArray), J k wr ∧ Its wr Bs Bp Bv sk c ∧ pieces c sk.data.toList = ws.drop k ∧ sk.size ≤ s.size) (fun _ _ wr => leftOf wr Bs)
  case atStart => exact ⟨0, s, h0, ⟨b1, b2, b3⟩, hs, Nat.le_refl _⟩
  case round =>
    obtain ⟨k, sk, hJk, hI, hp, hss⟩ := hrel
    obtain ⟨d1, d2, d3⟩ := hI
    have e1 := d1.cell
    have e2 := d2.cell
    have e3 := d3.cell
    have f1 := d1.frozen
    by_cases hx : Lib.indexByte sk.data.toList c = -1
    · have hp1 := hp
      rw [pieces_none hx] at hp1
      have hk : k < ws.length := by
        rcases Nat.lt_or_ge k ws.length with h | h
        · exact h
        · rw [List.drop_eq_nil_of_le h] at hp1; cases hp1
      have hw : ws[k] = sk.data.toList ∧ k + 1 = ws.length := by
        rw [List.drop_eq_getElem_cons hk] at hp1
        injection hp1 with q1 q2
        refine ⟨q1.symm, ?_⟩
        have := congrArg List.length q2
        simp at this
        omega
      have ew : (⟨ws[k].toArray⟩ : ByteArray) = sk := by rw [hw.1]
      have hYk := HY.out k hk wr hJk
      rw [ew] at hYk
      obtain ⟨fn, tmps, assign, body, hy, hR⟩ := hYk
      have ix := Tryz.strings_Index_one sk c wr
      rw [hx] at ix
      have IX : Hid (Calls Tryz.prog 191 #[.string sk, .string ⟨#[c]⟩] wr fun e w' => e = .returned (.int .i64 (-1)) ∧ w' = wr) := ix
      have HK : Hid (k + 1 = ws.length) := hw.2
      clear ix hx hp1 hp hw ew hk
      gi_wp2_with (refine ⟨trivial, ?_⟩; gi_at_call 191; refine (callsIn_wide.2 (IX.out)).mono ?_; rintro e w' ⟨rfl, rfl⟩)
      refine hR.mono ?_
      rintro e W3 (⟨rfl, hJ3, _⟩ | ⟨rfl, hJx3⟩)
      · gi_wp2
        go_end0
        exact ⟨⟨_, rfl⟩, .inl (by rw [← HK.out]; exact hJ3)⟩
      · gi_wp2
        go_end0
        exact ⟨⟨_, rfl⟩, .inr ⟨_, hJx3⟩⟩
    · obtain ⟨i, hi⟩ : ∃ i : Nat, Lib.indexByte sk.data.toList c = i := ⟨(Lib.indexByte sk.data.toList c).toNat, by have := Lib.indexByte_ge sk.data.toList c; omega⟩
      have hil : i < sk.size := by
        obtain ⟨hh, _⟩ := Lib.indexByte_some hi
        have := (List.getElem?_eq_some_iff.1 hh).1
        rw [Lib.size_eq]; exact this
      have hp1 := hp
      rw [pieces_found hi] at hp1
      have hk : k < ws.length := by
        rcases Nat.lt_or_ge k ws.length with h | h
        · exact h
        · rw [List.drop_eq_nil_of_le h] at hp1; cases hp1
      have hw : ws[k] = sk.data.toList.take i ∧ pieces c (sk.data.toList.drop (i + 1)) = ws.drop (k + 1) := by
        rw [List.drop_eq_getElem_cons hk] at hp1
        injection hp1 with q1 q2
        exact ⟨q1.symm, q2⟩
      have ew : (⟨ws[k].toArray⟩ : ByteArray) = sk.extract 0 i := by
        rw [hw.1]
        apply ba_ext
        rw [Lib.extract_data]; simp
      have ex : (sk.extract (i + 1) sk.size).data.toList = sk.data.toList.drop (i + 1) := Lib.extract_to_end sk (i + 1)
      have hYk := HY.out k hk wr hJk
      rw [ew] at hYk
      obtain ⟨fn, tmps, assign, body, hy, hR⟩ := hYk
      have ix := Tryz.strings_Index_one sk c wr
      rw [hi] at ix
      have IX : Hid (Calls Tryz.prog 191 #[.string sk, .string ⟨#[c]⟩] wr fun e w' => e = .returned (.int .i64 i) ∧ w' = wr) := ix
      have HP : Hid (pieces c (sk.extract (i + 1) sk.size).data.toList = ws.drop (k + 1)) := by rw [ex]; exact hw.2
      have HE : Hid (_) := ex
      have hskz : sk.size ≤ 1000000 := by omega
      clear ix hx hp1 hp hw ew hk hi ex
      gi_wp2_with (refine ⟨trivial, ?_⟩; gi_at_call 191; refine (callsIn_wide.2 (IX.out)).mono ?_; rintro e w' ⟨rfl, rfl⟩)
      refine hR.mono ?_
      rintro e W3 (⟨rfl, hJ3, g1, g2, g3⟩ | ⟨rfl, hJx3⟩)
      · have d1' : Boxed W3 Bs 9 (.string sk) := g1.trans d1
        have d2' : Boxed W3 Bp 9 (.string ⟨#[c]⟩) := g2.trans d2
        have d3' : Boxed W3 Bv 3 (.int .i64 0) := g3.trans d3
        have e1' := d1'.cell
        have e2' := d2'.cell
        have f1' := d1'.frozen
        have HG : Hid (J (k + 1) W3) := hJ3
        clear g1 g2 g3 hJ3
        gi_wp2
        go_roundw
        case rel =>
          refine ⟨k + 1, sk.extract (i + 1) sk.size, HJ.out _ _ _ HG.out, ⟨d1'.set _, d2'.other (Ne.symm hne1) _, d3'.other (Ne.symm hne2) _⟩, HP.out, ?_⟩
          have := congrArg List.length HE.out
          rw [List.length_drop, ← Lib.size_eq, ← Lib.size_eq] at this
          omega
        case measure =>
          rw [leftOf_eq (d1'.set _), leftOf_eq d1]
          have := congrArg List.length HE.out
          rw [List.length_drop, ← Lib.size_eq, ← Lib.size_eq] at this
          omega
      · gi_wp2
        refine bodyPost_ret (results_none rfl _ _ _) rfl ?_
        exact ⟨⟨_, rfl⟩, .inr ⟨_, hJx3⟩⟩
end Go.Proofs.YtnpecjccajebiaaGreatDoor

/- The library's own contracts of some functions more, laid at this program. -/
namespace Go.Proofs
open Go.Shelf
def Tryz.lays137_ren : Go.Shelf.Ren := ⟨fun | 137 => 64 | 217 => 97 | 266 => 137 | n => n, fun | 9 => 9 | 5 => 5 | 3 => 3 | n => n, fun | n => n⟩
theorem Tryz.lays137 : Go.Proofs.Lays.n137 Tryz.prog Tryz.lays137_ren := {
  mixed := by kernel_rfl
  f137 := Tryz.func64.trans (congrArg some (by kernel_rfl))
  f217 := Tryz.func97.trans (congrArg some (by kernel_rfl))
  f266 := Tryz.func137.trans (congrArg some (by kernel_rfl))
  t3 := Tryz.underlying3
  a3 := Tryz.isAgg3
  z3 := Tryz.sizeOf3
  v3 := Tryz.zeroValue3
  t5 := Tryz.underlying5
  a5 := Tryz.isAgg5
  z5 := Tryz.sizeOf5
  v5 := Tryz.zeroValue5
  t9 := Tryz.underlying9
  a9 := Tryz.isAgg9
  z9 := Tryz.sizeOf9
  v9 := Tryz.zeroValue9 }
open Go.RowKit in
theorem Tryz.strings_IndexByte (s : ByteArray) (c : Int) (w : World) :
    Calls Tryz.prog 64 #[.string s, .int .u8 c] w fun e w' => e = .returned (.int .i64 (Lib.indexByte s.data.toList c.toNat.toUInt8)) ∧ w' = w := Any.strings_IndexByte Tryz.lays137 s c w
def Tryz.lays104_ren : Go.Shelf.Ren := ⟨fun | 104 => 65 | 211 => 98 | 207 => 138 | n => n, fun | 9 => 9 | 4 => 4 | 24 => 110 | 3 => 3 | n => n, fun | n => n⟩
theorem Tryz.lays104 : Go.Proofs.Lays.n104 Tryz.prog Tryz.lays104_ren := {
  mixed := by kernel_rfl
  f104 := Tryz.func65.trans (congrArg some (by kernel_rfl))
  f207 := Tryz.func138.trans (congrArg some (by kernel_rfl))
  f211 := Tryz.func98.trans (congrArg some (by kernel_rfl))
  t3 := Tryz.underlying3
  a3 := Tryz.isAgg3
  z3 := Tryz.sizeOf3
  v3 := Tryz.zeroValue3
  t4 := Tryz.underlying4
  a4 := Tryz.isAgg4
  z4 := Tryz.sizeOf4
  v4 := Tryz.zeroValue4
  t9 := Tryz.underlying9
  a9 := Tryz.isAgg9
  z9 := Tryz.sizeOf9
  v9 := Tryz.zeroValue9
  t24 := Tryz.underlying110
  a24 := Tryz.isAgg110
  z24 := Tryz.sizeOf110
  v24 := Tryz.zeroValue110 }
open Go.RowKit in
theorem Tryz.strings_CutSuffix (s p : ByteArray) (w : World) (hs : s.size ≤ 9223372036854775807) :
    Calls Tryz.prog 65 #[.string s, .string p] w fun e w' => e = .returned (.tuple #[.string ⟨(Lib.trimSuffix s.data.toList p.data.toList).toArray⟩, .bool (Lib.hasSuffix s.data.toList p.data.toList)]) ∧ w' = w := Any.strings_CutSuffix Tryz.lays104 s p w hs
end Go.Proofs

/- The iterator of strings.Lines at a text of whole lines: it gives them one by one; ahead of each round it writes its own variable. -/
namespace Go.Proofs.YtnpecjccajebiaaGreatDoor
open Go Go.RowKit Go.Shelf Cal
attribute [local go_sem] Oper.semAt_some

theorem lines_any (sb : ByteArray) (w : World) : Calls Tryz.prog 37 #[.string sb] w fun r w' => r = .returned (.func (.func 63) #[] #[.pointer (some ⟨w.heap.size, 0, none⟩)]) ∧ w' = w.alloc (.cells #[.string sb] 9) := by
  go_enter Tryz.func37, Tryz.ntmps37
  go_wp2
  go_ret
  exact ⟨rfl, rfl⟩

set_option maxHeartbeats 1000000 in
theorem lines_iter (n l Bs : Nat) (ws : List (List UInt8)) (J Jx : Nat → World → Prop) (hn : 6 ≤ n) (hws : ∀ x ∈ ws, ∃ y, x = y ++ [10] ∧ (10 : UInt8) ∉ y)
    (hJs : ∀ k W W', J k W → W.grownBy W' (some Bs) → J k W')
    (hY : ∀ (k : Nat) (hk : k < ws.length) (W : World), J k W → YieldAt Fence.wide (n - 1) Tryz.prog l #[.string ⟨ws[k].toArray⟩] W fun e W' =>
      (e = .returned (.bool true) ∧ J (k + 1) W' ∧ W'.heap[Bs]? = W.heap[Bs]?) ∨ (e = .returned (.bool false) ∧ Jx (k + 1) W'))
    (W : World) (s : ByteArray) (hsz : s.size ≤ 1000000) (hs : s.data.toList = ws.flatten) (hB : Boxed W Bs 9 (.string s)) (h0 : J 0 W) :
    CallsIn Fence.wide n Tryz.prog 63 #[.func (.yield l) #[] #[], .pointer (some ⟨Bs, 0, none⟩)] W fun e W' =>
      (∃ v, e = .returned v) ∧ (J ws.length W' ∨ ∃ k, Jx k W') := by
  have h1 : 1 ≤ n := by omega
  have c1 := hB.cell
  refine callsIn_of_wp Tryz.func63 rfl trivial ?_ rfl
  simp only [Tryz.ntmps63, List.size_toArray, List.length_cons, List.length_nil, Nat.reduceAdd, Nat.reduceSub, Array.replicate_succ, Array.replicate_zero, List.push_toArray, List.append_toArray, List.nil_append, List.cons_append]
  gi_wp2
  have HY : Hid (_) := hY
  have HJ : Hid (_) := hJs
  have HWS : Hid (_) := hws
  clear hY hJs c1 hws
  gi_loopw [3, 4] (fun i fr wr => ∃ (k : Nat) (sk : ByteArray), k ≤ ws.length ∧ J k wr ∧ Boxed wr Bs 9 (.string sk) ∧ sk.data.toList = (ws.drop k).flatten ∧ sk.size ≤ s.size) (fun _ _ wr => leftOf wr Bs)
  case atStart => exact ⟨0, s, Nat.zero_le _, h0, hB, hs, Nat.le_refl _⟩
  case round =>
    obtain ⟨k, sk, hkl, hJk, d1, hp, hss⟩ := hrel
    have e1 := d1.cell
    have f1 := d1.frozen
    by_cases hk : k < ws.length
    · obtain ⟨y, hy, hny⟩ := HWS.out ws[k] (List.getElem_mem hk)
      have hdr : (ws.drop k).flatten = y ++ 10 :: (ws.drop (k + 1)).flatten := by
        rw [List.drop_eq_getElem_cons hk, List.flatten_cons, hy, List.append_assoc]; rfl
      rw [hdr] at hp
      have hix : Lib.indexByte sk.data.toList 10 = (y.length : Int) := by rw [hp]; exact index_at 10 _ y hny
      have hskl : sk.size = y.length + 1 + (ws.drop (k + 1)).flatten.length := by
        rw [Lib.size_eq, hp]; simp; omega
      have ew : (⟨ws[k].toArray⟩ : ByteArray) = sk.extract 0 (y.length + 1) := by
        apply ba_ext
        rw [Lib.extract_data, hp, hy]
        have : y ++ 10 :: (ws.drop (k + 1)).flatten = (y ++ [10]) ++ (ws.drop (k + 1)).flatten := by simp
        rw [this]
        have h2 : (y ++ [10]).length = y.length + 1 := by simp
        rw [Nat.sub_zero, List.drop_zero, ← h2, List.take_left]
      have ex : (sk.extract (y.length + 1) sk.size).data.toList = (ws.drop (k + 1)).flatten := by
        rw [Lib.extract_to_end sk (y.length + 1), hp]; simp
      have ix := Tryz.strings_IndexByte sk 10 wr
      rw [show ((10 : Int).toNat.toUInt8) = (10 : UInt8) from rfl, hix] at ix
      have IX : Hid (Calls Tryz.prog 64 #[.string sk, .int .u8 10] wr fun e w' => e = .returned (.int .i64 (y.length : Int)) ∧ w' = wr) := ix
      have HYk : Hid (∀ W, J k W → YieldAt Fence.wide (n - 1) Tryz.prog l #[.string (sk.extract 0 (y.length + 1))] W fun e W' => (e = .returned (.bool true) ∧ J (k + 1) W' ∧ W'.heap[Bs]? = W.heap[Bs]?) ∨ (e = .returned (.bool false) ∧ Jx (k + 1) W')) := fun W hJ => by
        have := HY.out k hk W hJ
        rwa [ew] at this
      have HE : Hid ((sk.extract (y.length + 1) sk.size).data.toList = (ws.drop (k + 1)).flatten) := ex
      have hyl : (y.length : Int) + 1 ≤ (sk.size : Int) := by omega
      have hsk0 : 0 < (sk.size : Int) := by omega
      have hskm : (sk.size : Int) ≤ 1000000 := by omega
      clear ix hix hdr ew ex hy hny hp HY hskl
      generalize y.length = i at IX HYk HE hyl
      gi_upto_region 4 with (refine ⟨trivial, ?_⟩; gi_at_call 64; refine (callsIn_wide.2 (IX.out)).mono ?_; rintro e wr' ⟨rfl, rfl⟩)
      gi_region
      have g1 : wr'.grownBy ((wr'.setCell ⟨Bs, 0, none⟩ (.string (sk.extract (i + 1) sk.size))).drew) (some Bs) := grown_then (grown_set wr' ⟨Bs, 0, none⟩ _) (grown_below (drew_below _) _)
      have hYd := HYk.out _ (HJ.out k _ _ hJk g1)
      have d2 : Boxed ((wr'.setCell ⟨Bs, 0, none⟩ (.string (sk.extract (i + 1) sk.size))).drew) Bs 9 (.string (sk.extract (i + 1) sk.size)) := d1.set _
      have HD1 : Hid (_) := d1
      clear d1 e1 f1 hJk g1
      generalize (wr'.setCell ⟨Bs, 0, none⟩ (.string (sk.extract (i + 1) sk.size))).drew = w2 at hYd d2 ⊢
      have HD2 : Hid (_) := d2
      clear d2
      obtain ⟨fn, tmps, assign, body, hy, hR⟩ := hYd
      gi_wp2
      refine hR.mono ?_
      rintro e W3 (⟨rfl, hJ3, g3⟩ | ⟨rfl, hJx3⟩)
      · have HG : Hid (J (k + 1) W3) := hJ3
        have d3 : Boxed W3 Bs 9 (.string (sk.extract (i + 1) sk.size)) := g3.trans HD2.out
        have hel : (sk.extract (i + 1) sk.size).size = sk.size - (i + 1) := by simp
        clear hJ3 g3
        gi_wp2
        go_roundw
        case rel => exact ⟨k + 1, _, hk, HG.out, d3, HE.out, by omega⟩
        case measure =>
          rw [leftOf_eq d3, leftOf_eq HD1.out]
          omega
      · gi_wp2
        refine bodyPost_ret (results_none rfl _ _ _) rfl ?_
        exact ⟨⟨_, rfl⟩, .inr ⟨_, hJx3⟩⟩
    · have hkk : k = ws.length := by omega
      have hsk : sk.size = 0 := by
        rw [Lib.size_eq, hp, hkk, List.drop_length]; rfl
      have hsk' : (sk.size : Int) = 0 := by omega
      have HJE : Hid (J ws.length wr) := by rw [← hkk]; exact hJk
      clear hp hJk HY HJ HWS
      gi_wp2
      go_end0
      exact ⟨⟨_, rfl⟩, .inl HJE.out⟩
end Go.Proofs.YtnpecjccajebiaaGreatDoor

/- strings.Split, strings.Cut and package event's itemsOf, at one sign. -/
namespace Go.Proofs.YtnpecjccajebiaaGreatDoor
open Go Go.RowKit Go.Shelf Cal
attribute [local go_sem] Oper.semAt_some

/-- the row of a text's pieces -/
def pcO (ws : List (List UInt8)) : Obj := .cells (ws.map sv).toArray 9
/-- words in memory -/
def Wds (W : World) (v : Value) (ws : List (List UInt8)) : Prop :=
  ∃ (a : Option Addr) (c : Nat), v = .slice a ws.length c ∧ ws.length ≤ c ∧ ∀ (j : Nat) (h : j < ws.length), ∃ b, a = some ⟨b, 0, none⟩ ∧ b < W.heap.size ∧ W.cell? ⟨b, j, none⟩ = some (sv ws[j])
theorem Wds.step {W W' : World} {v : Value} {ws : List (List UInt8)} (h : Wds W v ws) (hb : Below W.heap.size W W') : Wds W' v ws := by
  obtain ⟨a, c, h1, h2, h3⟩ := h
  refine ⟨a, c, h1, h2, fun j hj => ?_⟩
  obtain ⟨b, e, hl, hc⟩ := h3 j hj
  exact ⟨b, e, Nat.lt_of_lt_of_le hl hb.size, cell_step hc hb⟩
theorem Wds.nil (W : World) (c : Nat) : Wds W (.slice none 0 c) [] := ⟨none, c, rfl, by simp, fun j h => absurd h (by simp)⟩
theorem Wds.new (w : World) (ws : List (List UInt8)) : Wds (w.alloc (pcO ws)) (.slice (some ⟨w.heap.size, 0, none⟩) ws.length ws.length) ws := by
  refine ⟨_, _, rfl, Nat.le_refl _, fun j hj => ⟨w.heap.size, rfl, by rw [World.size_alloc]; exact Nat.lt_succ_self _, ?_⟩⟩
  unfold pcO
  rw [World.cell?_alloc_new]
  simp [List.getElem?_eq_getElem hj]

theorem genSplit_any (s : ByteArray) (c : UInt8) (w : World) (hs : s.size ≤ 1000000) :
    Calls Tryz.prog 139 #[.string s, .string ⟨#[c]⟩, .int .i64 0, .int .i64 (-1)] w fun r w' =>
      r = .returned (.slice (some ⟨w.heap.size, 0, none⟩) (pieces c s.data.toList).length (pieces c s.data.toList).length) ∧ w' = w.alloc (pcO (pieces c s.data.toList)) := by
  have h1 : 1 ≤ ByteArray.size ⟨#[c]⟩ := Nat.le_refl 1
  have hle := Lib.countB_le ⟨#[c]⟩ h1 s.size s (Nat.le_refl _)
  have hlen := Lib.splitB_all ⟨#[c]⟩ h1 0 _ s rfl
  have hp := splitB_one c _ s rfl
  have k := Any.strings_genSplit_core Tryz.lays221 (by kernel_rfl) s ⟨#[c]⟩ 0 (-1) (Lib.countB s ⟨#[c]⟩ + 1) w (by omega) h1 (Nat.zero_le _)
    (fun x cs _ => (Tryz.strings_Index_one x c _).mono (fun e w' h => ⟨by rw [h.1]; exact congrArg (fun n => Ending.returned (.int .i64 n)) (Lib.index_one x.data.toList c).symm, h.2⟩))
    ((Tryz.strings_Count_one s c w).mono (fun e w' h => ⟨by rw [h.1]; exact congrArg (fun n : Nat => Ending.returned (.int .i64 (n : Int))) (Lib.count_one c s.data.toList).symm, h.2⟩))
    (by decide) (by decide) (by rw [if_pos (by decide)]; omega)
  rw [Nat.add_sub_cancel, hlen] at k
  have e1 : (pieces c s.data.toList).length = Lib.countB s ⟨#[c]⟩ + 1 := by rw [← hp, List.length_map, hlen]
  have e2 : Lib.cellsOf (Lib.splitB ⟨#[c]⟩ 0 (Lib.countB s ⟨#[c]⟩) s) (Lib.countB s ⟨#[c]⟩ + 1) = ((pieces c s.data.toList).map sv).toArray := by
    rw [← hlen, Lib.cellsOf_full, ← hp, List.map_map]
    rfl
  rw [e2] at k
  unfold pcO
  rw [e1]
  exact k

theorem split_any (s : ByteArray) (c : UInt8) (w : World) (hs : s.size ≤ 1000000) :
    Calls Tryz.prog 99 #[.string s, .string ⟨#[c]⟩] w fun r w' =>
      r = .returned (.slice (some ⟨w.heap.size, 0, none⟩) (pieces c s.data.toList).length (pieces c s.data.toList).length) ∧ w' = w.alloc (pcO (pieces c s.data.toList)) := by
  have G : Hid (_) := genSplit_any s c w hs
  generalize pieces c s.data.toList = ws at G ⊢
  go_enter Tryz.func99, Tryz.ntmps99
  go_wp2_with (go_at_call 139; refine Calls.mono G.out ?_; rintro r w' ⟨rfl, rfl⟩)
  go_ret
  exact ⟨rfl, rfl⟩

/-- itemsOf of a list's text: its pieces -/
theorem itemsOf_any (ws : List (List UInt8)) (w : World) (hn : ∀ x ∈ ws, (44 : UInt8) ∉ x) (hx : ∀ x ∈ ws, x ≠ []) (hl : (Lib.join ws [44]).length ≤ 100000) :
    Calls Tryz.prog 193 #[.string (bs (Lib.join ws [44]))] w fun r w' => ∃ v, r = .returned v ∧ Wds w' v ws ∧ Below w.heap.size w w' := by
  by_cases h0 : ws = []
  · subst h0
    rw [join_nil]
    unfold bs
    go_enter Tryz.func193, Tryz.ntmps193
    go_wp2
    go_ret
    exact ⟨_, rfl, Wds.nil w 0, Below.refl _ _⟩
  · have hp := list_pieces h0 hn
    have hj := join_ne h0 hx
    have S := split_any (bs (Lib.join ws [44])) 44 w (by show (Lib.join ws [44]).toArray.size ≤ _; simp; omega)
    rw [show (bs (Lib.join ws [44])).data.toList = Lib.join ws [44] from rfl, hp] at S
    have hb : (bs (Lib.join ws [44])).toList.isEmpty = false := by
      rw [ByteArray.toList_eq, bs_data]
      cases h : Lib.join ws [44] with
      | nil => exact absurd h hj
      | cons _ _ => rfl
    generalize bs (Lib.join ws [44]) = sb at S hb
    have HS : Hid (_) := S
    clear S hp hj
    go_enter Tryz.func193, Tryz.ntmps193
    go_wp2_with (go_at_call 99; refine Calls.mono HS.out ?_; rintro r w' ⟨rfl, rfl⟩)
    go_ret
    exact ⟨_, rfl, Wds.new w ws, below_alloc _ _⟩

set_option maxHeartbeats 1000000 in
theorem slCut_any (m : Int × Int) (w : World) :
    Calls Tryz.prog 237 #[.string (bs (mtx m)), .string ⟨#[62]⟩] w fun r w' => r = .returned (.tuple #[.string (bs (dtx m.1)), .string (bs (dtx m.2)), .bool true]) ∧ Below w.heap.size w w' := by
  have hi := mtx_index m
  have hlen : (bs (mtx m)).size = (dtx m.1).length + (1 + (dtx m.2).length) := by show (mtx m).toArray.size = _; unfold mtx; simp; omega
  have hl1 := dtx_len m.1
  have e1 : (bs (mtx m)).extract 0 (dtx m.1).length = bs (dtx m.1) := ba_ext (by rw [Lib.extract_from_zero, bs_data, bs_data]; unfold mtx; simp)
  have e2 : (bs (mtx m)).extract ((dtx m.1).length + 1) (bs (mtx m)).size = bs (dtx m.2) := ba_ext (by rw [Lib.extract_to_end, bs_data, bs_data]; unfold mtx; simp)
  have I : Hid (∀ W, Calls Tryz.prog 229 #[.string (bs (mtx m)), .string ⟨#[62]⟩] W fun r w' => r = .returned (.int .i64 (dtx m.1).length) ∧ w' = W) := fun W => by
    have := Tryz.stringslite_Index_one (bs (mtx m)) 62 W
    rw [bs_data, hi] at this
    exact this
  generalize bs (mtx m) = s at hlen e1 e2 I ⊢
  generalize bs (dtx m.1) = s1 at e1 ⊢
  generalize bs (dtx m.2) = s2 at e2 ⊢
  generalize (dtx m.1).length = i at hlen hl1 e1 e2 I
  generalize (dtx m.2).length = j at hlen
  have c1 : (0 : Int) ≤ (i : Int) := by omega
  have c2 : (i : Int) ≤ (s.size : Int) := by omega
  have c3 : (0 : Int) ≤ (i : Int) + 1 := by omega
  have c4 : (i : Int) + 1 ≤ (s.size : Int) := by omega
  have E1 : Hid (_) := e1
  have E2 : Hid (_) := e2
  clear e1 e2 hi hlen
  go_enter Tryz.func237, Tryz.ntmps237
  go_wp2_with (go_at_call 229; refine Calls.mono (I.out _) ?_; rintro r w' ⟨rfl, rfl⟩)
  go_region
  go_wp2
  go_ret3
  refine ⟨?_, drew_below _⟩
  simp
  exact ⟨E1.out, E2.out⟩
theorem cut_any (m : Int × Int) (w : World) :
    Calls Tryz.prog 200 #[.string (bs (mtx m)), .string ⟨#[62]⟩] w fun r w' => r = .returned (.tuple #[.string (bs (dtx m.1)), .string (bs (dtx m.2)), .bool true]) ∧ Below w.heap.size w w' := by
  have C : Hid (_) := slCut_any m w
  generalize bs (mtx m) = s at C ⊢
  generalize bs (dtx m.1) = s1 at C ⊢
  generalize bs (dtx m.2) = s2 at C ⊢
  go_enter Tryz.func200, Tryz.ntmps200
  go_wp2_with (go_at_call 237; refine Calls.mono C.out ?_; rintro r w' ⟨rfl, hb⟩)
  go_ret3
  exact ⟨rfl, hb⟩
end Go.Proofs.YtnpecjccajebiaaGreatDoor
