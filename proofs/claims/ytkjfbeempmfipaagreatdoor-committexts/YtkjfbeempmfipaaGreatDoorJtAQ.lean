/- The library's own contracts of slices.Sorted at what maps.Keys hands back, laid at this program. -/
import Derived.Shelf.SlIter.Nil
import Derived.Shelf.SortM.Plain
import Derived.Shelf.SortM.SortNone
import Derived.Test.YtkjfbeempmfipaaGreatDoorProg
import Derived.Test.YtkjfbeempmfipaaGreatDoorJtAP
import Derived.Test.YtkjfbeempmfipaaGreatDoorJtAF
import Derived.Shelf.Strings.BuilderK
import Derived.Test.YtkjfbeempmfipaaGreatDoorCodeP
namespace Go.Proofs
open Go.Shelf
def Tryz.keys65_ren : Go.Shelf.Ren := ⟨fun | 7 => 65 | 10 => 86 | n => n, fun | 23 => 88 | 26 => 9 | 3 => 96 | 28 => 122 | 0 => 0 | 27 => 121 | 33 => 49 | 4 => 4 | n => n, fun | n => n⟩
theorem Tryz.keys65 : Go.Proofs.SlLaysZ.n7 Tryz.prog Tryz.keys65_ren := {
  mixed := by kernel_rfl
  f7 := ⟨Tryz.f65.name, by decide, Tryz.func65.trans (congrArg some (by kernel_rfl))⟩
  f10 := ⟨Tryz.f86.name, by decide, Tryz.func86.trans (congrArg some (by kernel_rfl))⟩
  t0 := Tryz.underlying0
  a0 := Tryz.isAgg0
  z0 := Tryz.sizeOf0
  v0 := Tryz.zeroValue0
  t4 := Tryz.underlying4
  a4 := Tryz.isAgg4
  z4 := Tryz.sizeOf4
  v4 := Tryz.zeroValue4
  t23 := Tryz.underlying88
  a23 := Tryz.isAgg88
  z23 := Tryz.sizeOf88
  v23 := Tryz.zeroValue88
  t26 := Tryz.underlying9
  a26 := Tryz.isAgg9
  z26 := Tryz.sizeOf9
  v26 := Tryz.zeroValue9
  t27 := Tryz.underlying121
  a27 := Tryz.isAgg121
  z27 := Tryz.sizeOf121
  v27 := Tryz.zeroValue121
  t28 := Tryz.underlying122
  a28 := Tryz.isAgg122
  z28 := Tryz.sizeOf122
  v28 := Tryz.zeroValue122
  t33 := Tryz.underlying49
  a33 := Tryz.isAgg49
  z33 := Tryz.sizeOf49
  v33 := Tryz.zeroValue49 }
def Tryz.sorted64_ren : Go.Shelf.Ren := ⟨fun | 6 => 64 | 8 => 84 | 9 => 85 | 11 => 114 | 13 => 116 | 12 => 115 | 23 => 149 | 24 => 98 | 14 => 140 | 15 => 141 | 16 => 142 | 17 => 143 | 18 => 144 | 19 => 145 | 20 => 146 | 21 => 147 | 22 => 148 | 25 => 158 | 26 => 159 | 27 => 160 | 28 => 161 | 29 => 162 | 30 => 163 | 31 => 165 | n => n, fun | 26 => 9 | 28 => 122 | 24 => 44 | 0 => 0 | 3 => 3 | 37 => 168 | 48 => 166 | 50 => 127 | 4 => 4 | 40 => 203 | 39 => 202 | 45 => 74 | 5 => 5 | 9 => 9 | 51 => 224 | 55 => 228 | 57 => 230 | 58 => 52 | 33 => 49 | n => n, fun | n => n⟩
theorem Tryz.sorted64 : Go.Proofs.SlLaysZ.n6 Tryz.prog Tryz.sorted64_ren := {
  mixed := by kernel_rfl
  f6 := ⟨Tryz.f64.name, by decide, Tryz.func64.trans (congrArg some (by kernel_rfl))⟩
  f8 := ⟨Tryz.f84.name, by decide, Tryz.func84.trans (congrArg some (by kernel_rfl))⟩
  f11 := ⟨Tryz.f114.name, by decide, Tryz.func114.trans (congrArg some (by kernel_rfl))⟩
  t0 := Tryz.underlying0
  a0 := Tryz.isAgg0
  z0 := Tryz.sizeOf0
  v0 := Tryz.zeroValue0
  t24 := Tryz.underlying44
  a24 := Tryz.isAgg44
  z24 := Tryz.sizeOf44
  v24 := Tryz.zeroValue44
  t26 := Tryz.underlying9
  a26 := Tryz.isAgg9
  z26 := Tryz.sizeOf9
  v26 := Tryz.zeroValue9
  t28 := Tryz.underlying122
  a28 := Tryz.isAgg122
  z28 := Tryz.sizeOf122
  v28 := Tryz.zeroValue122
  i26 := by kernel_rfl }
def Tryz.sort85_ren : Go.Shelf.Ren := ⟨fun | 6 => 85 | 8 => 116 | 9 => 115 | 19 => 149 | 20 => 98 | 21 => 140 | 22 => 141 | 23 => 142 | 24 => 143 | 25 => 144 | 26 => 145 | 27 => 146 | 28 => 147 | 29 => 148 | 36 => 158 | 31 => 159 | 32 => 160 | 37 => 161 | 38 => 162 | 39 => 163 | 41 => 165 | n => n, fun | 27 => 44 | 29 => 9 | 3 => 3 | 32 => 168 | 26 => 44 | 0 => 0 | 44 => 166 | 46 => 127 | 4 => 4 | 36 => 203 | 35 => 202 | 41 => 74 | 5 => 5 | 9 => 9 | 53 => 224 | 57 => 228 | 63 => 230 | 64 => 52 | n => n, fun | n => n⟩
theorem Tryz.sort85 : Go.Proofs.SlLaysM.n6 Tryz.prog Tryz.sort85_ren := {
  mixed := by kernel_rfl
  f6 := ⟨Tryz.f85.name, by decide, Tryz.func85.trans (congrArg some (by kernel_rfl))⟩
  f8 := Tryz.func116.trans (congrArg some (by kernel_rfl))
  f9 := ⟨Tryz.f115.name, by decide, Tryz.func115.trans (congrArg some (by kernel_rfl))⟩
  f19 := Tryz.func149.trans (congrArg some (by kernel_rfl))
  f20 := Tryz.func98.trans (congrArg some (by kernel_rfl))
  f21 := ⟨Tryz.f140.name, by decide, Tryz.func140.trans (congrArg some (by kernel_rfl))⟩
  f22 := ⟨Tryz.f141.name, by decide, Tryz.func141.trans (congrArg some (by kernel_rfl))⟩
  f23 := ⟨Tryz.f142.name, by decide, Tryz.func142.trans (congrArg some (by kernel_rfl))⟩
  f24 := ⟨Tryz.f143.name, by decide, Tryz.func143.trans (congrArg some (by kernel_rfl))⟩
  f25 := ⟨Tryz.f144.name, by decide, Tryz.func144.trans (congrArg some (by kernel_rfl))⟩
  f26 := ⟨Tryz.f145.name, by decide, Tryz.func145.trans (congrArg some (by kernel_rfl))⟩
  f27 := ⟨Tryz.f146.name, by decide, Tryz.func146.trans (congrArg some (by kernel_rfl))⟩
  f28 := ⟨Tryz.f147.name, by decide, Tryz.func147.trans (congrArg some (by kernel_rfl))⟩
  f29 := ⟨Tryz.f148.name, by decide, Tryz.func148.trans (congrArg some (by kernel_rfl))⟩
  f31 := Tryz.func159.trans (congrArg some (by kernel_rfl))
  f32 := Tryz.func160.trans (congrArg some (by kernel_rfl))
  f36 := ⟨Tryz.f158.name, by decide, Tryz.func158.trans (congrArg some (by kernel_rfl))⟩
  f37 := ⟨Tryz.f161.name, by decide, Tryz.func161.trans (congrArg some (by kernel_rfl))⟩
  f38 := ⟨Tryz.f162.name, by decide, Tryz.func162.trans (congrArg some (by kernel_rfl))⟩
  f39 := ⟨Tryz.f163.name, by decide, Tryz.func163.trans (congrArg some (by kernel_rfl))⟩
  f41 := ⟨Tryz.f165.name, by decide, Tryz.func165.trans (congrArg some (by kernel_rfl))⟩
  t0 := Tryz.underlying0
  a0 := Tryz.isAgg0
  z0 := Tryz.sizeOf0
  v0 := Tryz.zeroValue0
  t3 := Tryz.underlying3
  a3 := Tryz.isAgg3
  z3 := Tryz.sizeOf3
  v3 := Tryz.zeroValue3
  t4 := Tryz.underlying4
  a4 := Tryz.isAgg4
  z4 := Tryz.sizeOf4
  v4 := Tryz.zeroValue4
  t5 := Tryz.underlying5
  a5 := Tryz.isAgg5
  z5 := Tryz.sizeOf5
  v5 := Tryz.zeroValue5
  t9 := Tryz.underlying9
  a9 := Tryz.isAgg9
  z9 := Tryz.sizeOf9
  v9 := Tryz.zeroValue9
  t26 := Tryz.underlying44
  a26 := Tryz.isAgg44
  z26 := Tryz.sizeOf44
  v26 := Tryz.zeroValue44
  t27 := Tryz.underlying44
  a27 := Tryz.isAgg44
  z27 := Tryz.sizeOf44
  v27 := Tryz.zeroValue44
  t29 := Tryz.underlying9
  a29 := Tryz.isAgg9
  z29 := Tryz.sizeOf9
  v29 := Tryz.zeroValue9
  t32 := Tryz.underlying168
  a32 := Tryz.isAgg168
  z32 := Tryz.sizeOf168
  v32 := Tryz.zeroValue168
  t35 := Tryz.underlying202
  a35 := Tryz.isAgg202
  z35 := Tryz.sizeOf202
  v35 := Tryz.zeroValue202
  t36 := Tryz.underlying203
  a36 := Tryz.isAgg203
  z36 := Tryz.sizeOf203
  v36 := Tryz.zeroValue203
  t41 := Tryz.underlying74
  a41 := Tryz.isAgg74
  z41 := Tryz.sizeOf74
  v41 := Tryz.zeroValue74
  t44 := Tryz.underlying166
  a44 := Tryz.isAgg166
  z44 := Tryz.sizeOf166
  v44 := Tryz.zeroValue166
  t46 := Tryz.underlying127
  a46 := Tryz.isAgg127
  z46 := Tryz.sizeOf127
  v46 := Tryz.zeroValue127
  t53 := Tryz.underlying224
  a53 := Tryz.isAgg224
  z53 := Tryz.sizeOf224
  v53 := Tryz.zeroValue224
  t57 := Tryz.underlying228
  a57 := Tryz.isAgg228
  z57 := Tryz.sizeOf228
  v57 := Tryz.zeroValue228
  t63 := Tryz.underlying230
  a63 := Tryz.isAgg230
  z63 := Tryz.sizeOf230
  v63 := Tryz.zeroValue230
  t64 := Tryz.underlying52
  a64 := Tryz.isAgg52
  z64 := Tryz.sizeOf52
  v64 := Tryz.zeroValue52 }
open Go.RowKit Go.Maps Go.Sort
theorem Tryz.sorts64 (m : Nat) : AnyZ.SortsIn Tryz.prog Tryz.sorted64_ren Fence.wide m :=
  ⟨fun blk off cap ss W hH hblk hsz => callsIn_wide.2 (AnyM.slices_Sort_string Tryz.sort85 blk off cap ss W hH hblk hsz),
   fun p cap W => callsIn_wide.2 (AnyM.slices_Sort_string_none Tryz.sort85 p cap W)⟩

theorem Tryz.maps_Keys_65 (mb : Option Nat) (W : World) : CallsIn Fence.wide 5 Tryz.prog 65 #[.map mb] W fun e w' => e = .returned (.func (.func 86) #[] #[.pointer (some ⟨W.heap.size, 0, none⟩)]) ∧ w' = W.alloc (.cells #[.map mb] 88) :=
  AnyZ.keys_in Tryz.keys65 Fence.wide 5 trivial rfl mb W

set_option maxHeartbeats 1000000 in
theorem Tryz.slices_Sorted_keys_64_65 {H : Type} (b nn : Nat) (D0 : DataW H) (R : Value → Option (DataW H × List MemPlace)) (w : World) (hown : w.ownsMap Tryz.prog 9 R b nn D0) (hmax : Maps.size D0 ≤ maxLen) (hbytes : Maps.size D0 * 16 ≤ 140737488355328) :
    CallsIn Fence.wide 5 Tryz.prog 64 #[.func (.func 86) #[] #[.pointer (some ⟨w.heap.size, 0, none⟩)]] (w.alloc (.cells #[.map (some b)] 88)) fun e w' => ∃ (v : Value) (ss : List (List UInt8)), e = .returned v ∧ ss.Perm (strKeys D0) ∧
      w'.ownsRow (w.alloc (.cells #[.map (some b)] 88)).heap.size 9 1 v ss.length ((ss.mergeSort (fun x y => decide (x ≤ y))).map encStr) ∧ (v = .slice none 0 0 ↔ ss = []) ∧ Below (w.alloc (.cells #[.map (some b)] 88)).heap.size (w.alloc (.cells #[.map (some b)] 88)) w' := by
  have hbl := hown.lt
  have hseq : SeqGives Fence.wide 2 Tryz.prog 86 #[.pointer (some ⟨w.heap.size, 0, none⟩)] encStr (fun ss => ss.Perm (strKeys D0)) (Maps.size D0) (w.alloc (.cells #[.map (some b)] 88)) :=
    AnyZ.keys_gives (ρ := Tryz.keys65_ren) { Tryz.keys65 with } Fence.wide _ trivial rfl (by omega) w.heap.size b nn D0 _ (by simp) (by simp) (by
      obtain ⟨es, clock, hb, Ft, hs, hD⟩ := hown
      exact ⟨es, clock, (Below.heap_alloc _ _ b hbl).trans hb, Ft, hs, hD⟩)
  exact AnyZ.sorted_in Tryz.sorted64 Fence.wide 5 trivial trivial trivial trivial rfl (by omega) (Tryz.sorts64 _) (enters_of Tryz.func85 (by kernel_rfl) rfl) 86 #[.pointer (some ⟨w.heap.size, 0, none⟩)] trivial (enters_of Tryz.func86 (by kernel_rfl) rfl) _ _ hmax hbytes _ hseq

set_option maxHeartbeats 1000000 in
theorem Tryz.slices_Sorted_keys_nil_64_65 (w : World) :
    CallsIn Fence.wide 5 Tryz.prog 64 #[.func (.func 86) #[] #[.pointer (some ⟨w.heap.size, 0, none⟩)]] (w.alloc (.cells #[.map none] 88)) fun e w' => ∃ (v : Value) (ss : List (List UInt8)), e = .returned v ∧ ss = [] ∧
      w'.ownsRow (w.alloc (.cells #[.map none] 88)).heap.size 9 1 v ss.length ((ss.mergeSort (fun x y => decide (x ≤ y))).map encStr) ∧ (v = .slice none 0 0 ↔ ss = []) ∧ Below (w.alloc (.cells #[.map none] 88)).heap.size (w.alloc (.cells #[.map none] 88)) w' := by
  have hseq : SeqGives Fence.wide 2 Tryz.prog 86 #[.pointer (some ⟨w.heap.size, 0, none⟩)] encStr (fun ss : List (List UInt8) => ss = []) 0 (w.alloc (.cells #[.map none] 88)) :=
    AnyZ.keys_gives_nil (ρ := Tryz.keys65_ren) { Tryz.keys65 with } Fence.wide _ trivial rfl w.heap.size _ (by simp) (by simp)
  exact AnyZ.sorted_in Tryz.sorted64 Fence.wide 5 trivial trivial trivial trivial rfl (by omega) (Tryz.sorts64 _) (enters_of Tryz.func85 (by kernel_rfl) rfl) 86 #[.pointer (some ⟨w.heap.size, 0, none⟩)] trivial (enters_of Tryz.func86 (by kernel_rfl) rfl) _ 0 (Nat.zero_le _) (by omega) _ hseq
end Go.Proofs

/- Package book's Text of no calendar; package commit's Add of a first commit, and Get. -/
namespace Go.Proofs.YtkjfbeempmfipaaGreatDoor
open Go Go.RowKit Go.Maps Go.Shelf Go.Sort Cal
attribute [local go_sem] Oper.semAt_some

theorem ballC_nil (w : World) : Calls Tryz.prog 44 #[.pointer none] w fun r w' => r = .returned (.map none) ∧ w' = w := by
  go_enter Tryz.func44, Tryz.ntmps44
  go_wp2
  go_ret
  exact ⟨rfl, rfl⟩
set_option maxHeartbeats 1000000 in
theorem bidsC_nil (w : World) : Calls Tryz.prog 45 #[.pointer none] w fun r w' => ∃ a c, r = .returned (.slice a 0 c) ∧ Below w.heap.size w w' := by
  have AL : Hid (Calls _ _ _ _ _) := ballC_nil w
  have SK := Tryz.slices_Sorted_keys_nil_64_65 w
  have HK : Hid (CallsIn _ _ _ _ _ _ _) := SK
  clear SK
  refine (callsIn_wide (n := 6)).1 ?_
  have hfK : Fence.wide.fn 65 := trivial
  have hfS : Fence.wide.fn 64 := trivial
  have hfA : Fence.wide.fn 44 := trivial
  refine callsIn_of_wp Tryz.func45 rfl trivial ?_ rfl
  simp only [Tryz.ntmps45, List.size_toArray, List.length_cons, List.length_nil, Nat.reduceAdd, Nat.reduceSub, Array.replicate_succ, Array.replicate_zero, List.push_toArray, List.append_toArray, List.nil_append, List.cons_append]
  gi_wp2_with (first
    | (gi_at_call 44; refine (callsIn_wide.2 AL.out).mono ?_; rintro r w' ⟨rfl, rfl⟩)
    | (gi_at_call 65; refine (Tryz.maps_Keys_65 _ _).mono ?_; rintro e w' ⟨rfl, rfl⟩)
    | (gi_at_call 64; refine CallsIn.mono HK.out ?_; rintro e w' ⟨v, ss, rfl, hS, hrow, hnil, hb⟩))
  go_ret
  have h2 : ss = [] := by simpa using hS
  subst h2
  rcases hrow.2 with ⟨rfl, h0⟩ | ⟨g, cap, cur, rfl, _⟩
  · exact ⟨_, _, rfl, below_then (below_alloc _ _) hb⟩
  · exact ⟨_, _, rfl, below_then (below_alloc _ _) hb⟩
theorem builder_stepC {T e : TypeId} {B b : Nat} {l : List Value} {w w' : World} (h : Lib.IsBuilderF T e B b l w) (hb : Below w.heap.size w w') : Lib.IsBuilderF T e B b l w' := by
  have key : ∀ p, Lib.BuilderAtF T e B b p l w → Lib.BuilderAtF T e B b p l w' := fun p ⟨h1, v, h2, h3, h4⟩ => ⟨h1, v, (hb.block _ (Array.getElem?_eq_some_iff.1 h2).1).trans h2, h3.kept (grown_below hb none) (by cases v.ownBlock <;> simp), h4⟩
  exact h.imp (key _) (key _)
theorem bstringC (B b : Nat) (l : List UInt8) (w : World) (h : Lib.IsBuilderF 68 5 B b (Lib.byteCells l) w) (hB : B ≤ w.heap.size) :
    Calls Tryz.prog 33 #[.pointer (some ⟨b, 0, none⟩)] w fun r w' => r = .returned (.string (bs l)) ∧ Below B w w' := by
  refine Calls.mono (Any.Builder_String_any_k { Tryz.lays156 with } Tryz.Builder_Extra_156 B b l w h hB) ?_
  rintro r w' ⟨rfl, h1, h2, h3⟩
  exact ⟨rfl, h2⟩
set_option maxHeartbeats 1000000 in
theorem btextC_nil (w : World) : Calls Tryz.prog 28 #[.pointer none] w fun r w' => r = .returned (.string ⟨#[]⟩) ∧ Below w.heap.size w w' := by
  have AL : Hid (Calls _ _ _ _ _) := ballC_nil w
  have hA := below_alloc w (.cells #[.pointer none, .slice none 0 0] 68)
  have ID : Hid (Calls _ _ _ _ _) := bidsC_nil (w.alloc (.cells #[.pointer none, .slice none 0 0] 68))
  have HBD : Hid (Lib.IsBuilderF 68 5 w.heap.size w.heap.size (Lib.byteCells []) (w.alloc (.cells #[.pointer none, .slice none 0 0] 68))) := Lib.IsBuilderF.of (Lib.fresh_isBuilder _ _ w)
  have HA : Hid (_) := hA
  clear hA
  go_enter Tryz.func28, Tryz.ntmps28
  generalize hw0 : w.alloc (.cells #[.pointer none, .slice none 0 0] 68) = w0 at ID HBD HA
  go_wp2_with (first
    | (go_at_call 44; refine Calls.mono AL.out ?_; rintro r w' ⟨rfl, hq⟩; have hq := hq.symm; subst hq)
    | (go_at_call 45; refine Calls.mono ID.out ?_; rintro r w1 ⟨ia, ic, rfl, hb1⟩))
  have B1 : Hid (Below w.heap.size w w1) := below_then HA.out hb1
  have BS : Hid (Calls _ _ _ _ _) := bstringC w.heap.size w.heap.size [] w1 (builder_stepC HBD.out hb1) B1.out.size
  clear ID HBD hb1
  go_loopw [12] (fun i wr => i = .int .i64 0 ∧ wr = w1) (fun _ _ => 0)
  case atStart => exact ⟨rfl, rfl⟩
  case round =>
    obtain ⟨rfl, rfl⟩ := hrel
    go_wp2_with (go_at_call 33; refine Calls.mono BS.out ?_; rintro r w5 ⟨rfl, hb5⟩)
    go_ret
    exact ⟨rfl, below_trans B1.out hb5⟩

set_option maxHeartbeats 4000000 in
set_option maxRecDepth 100000 in
theorem cmAdd_0 (lo gb pb mb : Nat) (w : World) (ht : Tab w) (h : GraphAt lo w gb pb mb (.slice none 0 0) []) (hpg : pb ≠ gb) :
    Calls Tryz.prog 12 #[.pointer (some ⟨gb, 0, none⟩), .pointer none, .slice none 0 0, .int .i64 5, .string helloB] w fun r w' => r = .returned (.tuple #[.int .i64 1, .nilIface]) ∧ ∃ lo' mq tv, GraphAt lo' w' gb pb mq tv [⟨#[]⟩, bs t0L] ∧ Below pb w w' := by
  have NT : Hid (∀ W, Calls _ _ _ _ _) := fun W => cmNote_any helloB W (by decide) true ⟨fun _ => note0, fun _ => rfl⟩
  have CK : Hid (∀ W, Calls _ _ _ _ _) := fun W => cmChk_nil gb W
  have BT : Hid (∀ W, Calls _ _ _ _ _) := fun W => btextC_nil W
  have PT : Hid (∀ W, Below w.heap.size w W → Calls _ _ _ _ _) := fun W hW => cmPut_0 lo gb pb mb W (ht.step hW) (h.step hW) hpg
  have hpw : pb < w.heap.size := (Array.getElem?_eq_some_iff.1 h.p.blk).1
  unfold helloB at *
  go_enter Tryz.func12, Tryz.ntmps12
  go_wp2_with (first
    | (go_at_call 19; refine Calls.mono (NT.out _) ?_; rintro r w1 ⟨rfl, hb1⟩; have B1 : Hid (Below w.heap.size w w1) := hb1; clear hb1)
    | (go_at_call 26; refine Calls.mono (CK.out _) ?_; rintro r w2 ⟨rfl, hb2⟩; have B2 : Hid (Below w.heap.size w w2) := below_then B1.out hb2; clear hb2)
    | (go_at_call 28; refine Calls.mono (BT.out _) ?_; rintro r w3 ⟨rfl, hb3⟩; have B3 : Hid (Below w.heap.size w w3) := below_then B2.out hb3; clear hb3)
    | (go_at_call 27; refine Calls.mono (PT.out _ B3.out) ?_; rintro r w4 ⟨rfl, lo', mq, tv, hg4, hb4⟩))
  go_ret2
  exact ⟨rfl, _, _, _, hg4, below_trans (below_base B3.out (by omega)) hb4⟩
theorem own0_slice {W : World} {base T : Nat} {v : Value} (h : W.ownsRow base T 1 v 0 []) : ∃ a c, v = .slice a 0 c := by
  rcases h.2 with ⟨rfl, h0⟩ | ⟨g, cap, cur, rfl, _⟩
  · exact ⟨_, _, rfl⟩
  · exact ⟨_, _, rfl⟩
set_option maxHeartbeats 4000000 in
set_option maxRecDepth 100000 in
theorem cmGet_0 (lo gb pb mb : Nat) (tv : Value) (s : Nat → Addr) (w : World) (g : GlobN w) (gp : GlobP s w) (h : GraphAt lo w gb pb mb tv [⟨#[]⟩, bs t0L]) :
    Calls Tryz.prog 13 #[.pointer (some ⟨gb, 0, none⟩), .int .i64 1] w fun r w' => (∃ a c, r = .returned (.tuple #[.agg #[.int .i64 0, .slice a 0 c, .int .i64 5, .string helloB], .nilIface])) ∧ Below w.heap.size w w' := by
  have hA := below_alloc w (.cells #[.int .i64 0, .slice none 0 0, .int .i64 0, .string ⟨#[]⟩] 26)
  have HA : Hid (Below w.heap.size w (w.alloc (.cells #[.int .i64 0, .slice none 0 0, .int .i64 0, .string ⟨#[]⟩] 26))) := hA
  have KR : Hid ((w.alloc (.cells #[.int .i64 0, .slice none 0 0, .int .i64 0, .string ⟨#[]⟩] 26)).heap[w.heap.size]? = some (.cells #[.int .i64 0, .slice none 0 0, .int .i64 0, .string ⟨#[]⟩] 26 (0, 0))) := block_at _ rfl
  have HLT : Hid (w.heap.size < (w.alloc (.cells #[.int .i64 0, .slice none 0 0, .int .i64 0, .string ⟨#[]⟩] 26)).heap.size) := by show _ < _; rw [World.size_alloc]; omega
  have GT : Hid (Calls Tryz.prog 29 #[.pointer (some ⟨pb, 0, none⟩), .int .i64 1] (w.alloc (.cells #[.int .i64 0, .slice none 0 0, .int .i64 0, .string ⟨#[]⟩] 26)) fun r w' => r = .returned (.tuple #[.string (bs t0L), .nilIface]) ∧ w' = (w.alloc (.cells #[.int .i64 0, .slice none 0 0, .int .i64 0, .string ⟨#[]⟩] 26))) := pget_ok lo pb mb tv [⟨#[]⟩, bs t0L] 1 (by decide) _ (h.step hA).p
  have RD : Hid (Calls Tryz.prog 7 #[.string (bs t0L)] (w.alloc (.cells #[.int .i64 0, .slice none 0 0, .int .i64 0, .string ⟨#[]⟩] 26)) fun r w' => Below (w.alloc (.cells #[.int .i64 0, .slice none 0 0, .int .i64 0, .string ⟨#[]⟩] 26)).heap.size (w.alloc (.cells #[.int .i64 0, .slice none 0 0, .int .i64 0, .string ⟨#[]⟩] 26)) w' ∧ ReadIs s t0L (w.alloc (.cells #[.int .i64 0, .slice none 0 0, .int .i64 0, .string ⟨#[]⟩] 26)).heap.size r w') := cmRead_any s (bs t0L) _ (g.step hA) (gp.step hA) (by decide)
  have c0 := blk1_cell (h.step hA).g
  clear hA g gp h
  generalize hw0 : w.alloc (.cells #[.int .i64 0, .slice none 0 0, .int .i64 0, .string ⟨#[]⟩] 26) = w0 at HA KR HLT GT RD c0
  go_enter Tryz.func13, Tryz.ntmps13
  go_upto_region 5 with (first
    | (go_at_call 29; refine Calls.mono GT.out ?_; rintro r w' ⟨rfl, hq⟩; have hq := hq.symm; subst hq)
    | (go_at_call 7; refine Calls.mono RD.out ?_; rintro r w1 ⟨hb1, hR⟩; obtain ⟨v, rfl, hO⟩ := read0 hR; obtain ⟨va, vc, rfl⟩ := own0_slice hO; have HB1 : Hid (_) := hb1; clear hb1 hR hO; unfold helloB at *))
  have KC : Hid ((w1.alloc (.cells #[.int .i64 0, .slice va 0 vc, .int .i64 5, .string ⟨#[104, 101, 108, 108, 111]⟩] 26)).heap[w1.heap.size]? = some (.cells #[.int .i64 0, .slice va 0 vc, .int .i64 5, .string ⟨#[104, 101, 108, 108, 111]⟩] 26 (0, 0))) := block_at _ rfl
  have B2 : Hid (Below w0.heap.size w0 (w1.alloc (.cells #[.int .i64 0, .slice va 0 vc, .int .i64 5, .string ⟨#[104, 101, 108, 108, 111]⟩] 26))) := below_then HB1.out (below_alloc _ _)
  have HQ : Hid (w.heap.size ≠ w1.heap.size) := by have := HLT.out; have := HB1.out.size; show _ ≠ _; omega
  clear HB1 GT RD c0
  generalize w1.alloc (.cells #[.int .i64 0, .slice va 0 vc, .int .i64 5, .string ⟨#[104, 101, 108, 108, 111]⟩] 26) = w2 at KC B2 ⊢
  generalize w1.heap.size = q1 at KC HQ ⊢
  have KR2 : Hid (w2.heap[w.heap.size]? = some (.cells #[.int .i64 0, .slice none 0 0, .int .i64 0, .string ⟨#[]⟩] 26 (0, 0))) := (B2.out.block _ HLT.out).trans KR.out
  have BF2 : Hid (Below w.heap.size w w2) := below_then HA.out B2.out
  obtain ⟨k0, k1, k2, k3⟩ := blkC KC.out
  obtain ⟨z0, z1, z2, z3⟩ := blkC KR2.out
  obtain ⟨f0, f1, f2, f3⟩ := blkC_frozen KR2.out
  have n4 := put4_blkC (.int .i64 0) (.slice va 0 vc) (.int .i64 5) (.string ⟨#[104, 101, 108, 108, 111]⟩) KR2.out
  have g4 := put4_grownC w2 w.heap.size (.int .i64 0) (.slice va 0 vc) (.int .i64 5) (.string ⟨#[104, 101, 108, 108, 111]⟩)
  have HC4 : Hid (_) := blkC n4
  have BZ : Hid (Below w.heap.size w _) := BF2.out.grown g4 BF2.out.size (fun k q => by cases q; exact Nat.le_refl _)
  clear n4 g4
  go_wp2
  obtain ⟨c0, c1, c2, c3⟩ := HC4.out
  refine bodyPost_ret (v := .tuple #[.agg #[.int .i64 0, .slice va 0 vc, .int .i64 5, .string ⟨#[104, 101, 108, 108, 111]⟩], .nilIface]) (by simp [results, Tryz.f13, go_sem, c0, c1, c2, c3]) rfl ⟨⟨va, vc, rfl⟩, BZ.out⟩
set_option maxHeartbeats 4000000 in
set_option maxRecDepth 100000 in
theorem committed_any (s : Nat → Addr) (w : World) (ht : Tab w) (g : GlobN w) (gp : GlobP s w) : Calls Tryz.prog 4 #[] w fun r w' => r = .returned (.bool true) ∧ Below w.heap.size w w' := by
  have NW : Hid (Calls _ _ _ _ _) := cmNew_any w
  have HT : Hid (∀ W, Below w.heap.size w W → Tab W ∧ GlobN W ∧ GlobP s W) := fun W hW => ⟨ht.step hW, g.step hW, gp.step hW⟩
  clear ht g gp
  go_enter Tryz.func4, Tryz.ntmps4
  go_wp2_with (first
    | (go_at_call 11; refine Calls.mono NW.out ?_; rintro r w1 ⟨lo, gb, pb, mb, rfl, hg1, hp1, hm1, hpg, hmg, hb1⟩; have B1 : Hid (Below w.heap.size w w1) := hb1; have AD : Hid (Calls _ _ _ _ _) := cmAdd_0 lo gb pb mb w1 (HT.out _ hb1).1 hg1 (by omega); clear hb1 hg1; unfold helloB at AD)
    | (go_at_call 12; refine Calls.mono AD.out ?_; rintro r w2 ⟨rfl, lo2, mq, tv2, hg2, hb2⟩; have B2 : Hid (Below w.heap.size w w2) := below_trans B1.out (below_base hb2 hp1); have GE : Hid (Calls _ _ _ _ _) := cmGet_0 lo2 gb pb mq tv2 s w2 (HT.out _ B2.out).2.1 (HT.out _ B2.out).2.2 hg2; clear hb2 hg2; unfold helloB at GE)
    | (go_at_call 13; refine Calls.mono GE.out ?_; rintro r w3 ⟨⟨va, vc, rfl⟩, hb3⟩; have B3 : Hid (Below w.heap.size w w3) := below_then B2.out hb3; clear hb3))
  go_ret
  exact ⟨rfl, below_then B3.out (below_alloc _ _)⟩
end Go.Proofs.YtkjfbeempmfipaaGreatDoor

/- The contract of plain.Code at a Fault that wraps an error of package api: the error's number, and the Fault's place. -/
namespace Go.Proofs.YtkjfbeempmfipaaGreatDoor
open Go.RowKit

theorem as_hit_below (e t : Addr) (old : Value) (w : World) (hg : w.cell? ⟨11, 0, none⟩ = some (.iface 138 (.agg #[.pointer (some ⟨21, 30, none⟩)]))) (ht0 : w.cell? t = some old) (hf0 : w.frozen? t = false) :
    Calls Tryz.prog 40 #[.iface 78 (.pointer (some e)), .iface 80 (.pointer (some t))] w fun ev w' => ev = .returned (.bool true) ∧ Below t.block w w' ∧ w'.cell? t = some (.pointer (some e)) := by
  refine (as_hit e t old w hg ht0 hf0).mono ?_
  rintro ev w' ⟨rfl, rfl⟩
  have hlt := cell_lt ht0
  refine ⟨rfl, ?_, ?_⟩
  · exact (((((Below.refl _ _).alloc (by omega) _).alloc (by simp; omega) _).alloc (by simp; omega) _).alloc (by simp; omega) _).setCell (Nat.le_refl _) _
  · refine World.cell?_setCell_same _ _ _ (u := old) ?_
    rw [World.cell?_alloc_lt _ _ t (by simp; omega), World.cell?_alloc_lt _ _ t (by simp; omega), World.cell?_alloc_lt _ _ t (by simp; omega), World.cell?_alloc_lt _ _ t hlt]
    exact ht0

set_option maxHeartbeats 1000000 in
theorem code_fault (s : Nat → Addr) (j : Nat) (pb po : Nat) (p : Int) (w : World) (g : Sents s w) (hj : j < 11) (h0 : w.cell? ⟨pb, po, none⟩ = some (.int .i64 p)) (h1 : w.cell? ⟨pb, po + 1, none⟩ = some (.iface 221 (.pointer (some (s j))))) :
    Calls Tryz.prog 23 #[.iface 78 (.pointer (some ⟨pb, po, none⟩))] w fun e w' => e = .returned (.tuple #[.int .i64 (j + 1), .int .i64 p]) ∧ Below w.heap.size w w' := by
  have g1 := g.alloc (.cells #[.pointer none] 78)
  have hA : Hid (_) := as_hit_below ⟨pb, po, none⟩ ⟨w.heap.size, 0, none⟩ (.pointer none) (w.alloc (.cells #[.pointer none] 78)) g1.et (by simp) (by simp)
  have hp := cell_lt h0
  go_enter Tryz.func23, Tryz.ntmps23
  go_wp2_with fail
  go_at_call 40
  refine (Calls.mono hA.out ?_)
  rintro e w2 ⟨rfl, k2, ht⟩
  have k3 : Below w.heap.size w w2 := ((Below.refl _ _).alloc (Nat.le_refl _) _).trans k2
  have g2 := g.step k3
  have m0 := cell_stepB h0 k3 (Nat.le_refl _)
  have m1 := cell_stepB h1 k3 (Nat.le_refl _)
  clear g1 hA k2 h0 h1
  have c0 := g2.c0
  have c1 := g2.c1
  have c2 := g2.c2
  have c3 := g2.c3
  have c4 := g2.c4
  have c5 := g2.c5
  have c6 := g2.c6
  have c7 := g2.c7
  have c8 := g2.c8
  have c9 := g2.c9
  have c10 := g2.c10
  go_wp2_with fail
  have gW := g2.alloc (row11 s)
  have hcell := row11_cell s w2
  have kW : Below w.heap.size w (w2.alloc (row11 s)) := k3.alloc k3.size _
  have mW : (w2.alloc (row11 s)).cell? ⟨pb, po + 1, none⟩ = some (.iface 221 (.pointer (some (s j)))) :=
    cell_stepB m1 ((Below.refl _ _).alloc (Nat.le_refl _) _) (Nat.le_refl _)
  change Code.wp _ _ _ _ (w2.alloc (row11 s))
  generalize w2.alloc (row11 s) = W at gW hcell kW mW ⊢
  generalize w2.heap.size = N at hcell ⊢
  clear c0 c1 c2 c3 c4 c5 c6 c7 c8 c9 c10 g2 k3 m0 m1 ht
  go_loop [3, 29] (fun q i => q = .int .i64 p ∧ ∃ k : Nat, k ≤ j ∧ i = .int .i64 k) (fun _ i => j - (intOf i).toNat)
  case atStart => exact ⟨rfl, 0, Nat.zero_le _, rfl⟩
  case round =>
    obtain ⟨rfl, k, hk, rfl⟩ := hrel
    have hc := hcell k (by omega)
    clear hcell
    by_cases hlt : k < j
    · obtain ⟨ca, ta, hba⟩ := gW.blk j hj
      obtain ⟨cb, tb, hbb⟩ := gW.blk k (by omega)
      have hne := gW.ne j k hj (by omega) (by omega)
      have Q : Hid (_) := is_wrap_other pb po (s k) (s j) ca cb ta tb W mW hne hba hbb
      clear hba hbb hne
      go_wp2_with (go_at_call 41; refine (Calls.mono Q.out ?_); rintro e w' ⟨rfl, rfl⟩)
      go_round
      case rel => exact ⟨rfl, k + 1, by omega, by go_num⟩
      case measure => simp [intOf]; omega
    · obtain rfl : k = j := by omega
      have Q : Hid (_) := is_wrap_same pb po (s k) W mW
      go_wp2_with (go_at_call 41; refine (Calls.mono Q.out ?_); rintro e w' ⟨rfl, rfl⟩)
      go_ret2
      exact ⟨rfl, kW⟩
end Go.Proofs.YtkjfbeempmfipaaGreatDoor
