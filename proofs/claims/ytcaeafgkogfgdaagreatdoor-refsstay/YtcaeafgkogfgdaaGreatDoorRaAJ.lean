/- The library's own contracts of slices.Sorted at what maps.Keys hands back, laid at this program. -/
import Derived.Shelf.SlIter.Nil
import Derived.Shelf.SortM.Plain
import Derived.Shelf.SortM.SortNone
import Derived.Test.YtcaeafgkogfgdaaGreatDoorProg
import Derived.Test.YtcaeafgkogfgdaaGreatDoorRaAI
import Derived.TacticsInMore
import Derived.Test.YtcaeafgkogfgdaaGreatDoorRaAH
import Derived.Deep.LoopGhost
import Derived.BigRegionIn
import Derived.OrdersIn
import Derived.Test.YtcaeafgkogfgdaaGreatDoorRaAF
import Derived.Sort.OwnSortedInts
import Derived.Lib.SlicesCompact
import Derived.Maps.AppendAt
namespace Go.Proofs
open Go.Shelf
def Tryz.keys31_ren : Go.Shelf.Ren := ⟨fun | 7 => 31 | 10 => 41 | n => n, fun | 23 => 43 | 26 => 9 | 3 => 50 | 28 => 57 | 0 => 0 | 27 => 56 | 33 => 51 | 4 => 4 | n => n, fun | n => n⟩
theorem Tryz.keys31 : Go.Proofs.SlLaysZ.n7 Tryz.prog Tryz.keys31_ren := {
  mixed := by kernel_rfl
  f7 := ⟨Tryz.f31.name, by decide, Tryz.func31.trans (congrArg some (by kernel_rfl))⟩
  f10 := ⟨Tryz.f41.name, by decide, Tryz.func41.trans (congrArg some (by kernel_rfl))⟩
  t0 := Tryz.underlying0
  a0 := Tryz.isAgg0
  z0 := Tryz.sizeOf0
  v0 := Tryz.zeroValue0
  t4 := Tryz.underlying4
  a4 := Tryz.isAgg4
  z4 := Tryz.sizeOf4
  v4 := Tryz.zeroValue4
  t23 := Tryz.underlying43
  a23 := Tryz.isAgg43
  z23 := Tryz.sizeOf43
  v23 := Tryz.zeroValue43
  t26 := Tryz.underlying9
  a26 := Tryz.isAgg9
  z26 := Tryz.sizeOf9
  v26 := Tryz.zeroValue9
  t27 := Tryz.underlying56
  a27 := Tryz.isAgg56
  z27 := Tryz.sizeOf56
  v27 := Tryz.zeroValue56
  t28 := Tryz.underlying57
  a28 := Tryz.isAgg57
  z28 := Tryz.sizeOf57
  v28 := Tryz.zeroValue57
  t33 := Tryz.underlying51
  a33 := Tryz.isAgg51
  z33 := Tryz.sizeOf51
  v33 := Tryz.zeroValue51 }
def Tryz.sorted30_ren : Go.Shelf.Ren := ⟨fun | 6 => 30 | 8 => 39 | 9 => 40 | 11 => 48 | 13 => 50 | 12 => 49 | 23 => 66 | 24 => 67 | 14 => 57 | 15 => 58 | 16 => 59 | 17 => 60 | 18 => 61 | 19 => 62 | 20 => 63 | 21 => 64 | 22 => 65 | 25 => 78 | 26 => 79 | 27 => 80 | 28 => 81 | 29 => 82 | 30 => 83 | 31 => 93 | n => n, fun | 26 => 9 | 28 => 57 | 24 => 26 | 0 => 0 | 3 => 3 | 37 => 74 | 48 => 105 | 50 => 107 | 4 => 4 | 40 => 98 | 39 => 97 | 45 => 31 | 5 => 5 | 9 => 9 | 51 => 114 | 55 => 118 | 57 => 127 | 58 => 128 | 33 => 51 | n => n, fun | n => n⟩
theorem Tryz.sorted30 : Go.Proofs.SlLaysZ.n6 Tryz.prog Tryz.sorted30_ren := {
  mixed := by kernel_rfl
  f6 := ⟨Tryz.f30.name, by decide, Tryz.func30.trans (congrArg some (by kernel_rfl))⟩
  f8 := ⟨Tryz.f39.name, by decide, Tryz.func39.trans (congrArg some (by kernel_rfl))⟩
  f11 := ⟨Tryz.f48.name, by decide, Tryz.func48.trans (congrArg some (by kernel_rfl))⟩
  t0 := Tryz.underlying0
  a0 := Tryz.isAgg0
  z0 := Tryz.sizeOf0
  v0 := Tryz.zeroValue0
  t24 := Tryz.underlying26
  a24 := Tryz.isAgg26
  z24 := Tryz.sizeOf26
  v24 := Tryz.zeroValue26
  t26 := Tryz.underlying9
  a26 := Tryz.isAgg9
  z26 := Tryz.sizeOf9
  v26 := Tryz.zeroValue9
  t28 := Tryz.underlying57
  a28 := Tryz.isAgg57
  z28 := Tryz.sizeOf57
  v28 := Tryz.zeroValue57
  i26 := by kernel_rfl }
def Tryz.sort40_ren : Go.Shelf.Ren := ⟨fun | 6 => 40 | 8 => 50 | 9 => 49 | 19 => 66 | 20 => 67 | 21 => 57 | 22 => 58 | 23 => 59 | 24 => 60 | 25 => 61 | 26 => 62 | 27 => 63 | 28 => 64 | 29 => 65 | 36 => 78 | 31 => 79 | 32 => 80 | 37 => 81 | 38 => 82 | 39 => 83 | 41 => 93 | n => n, fun | 27 => 26 | 29 => 9 | 3 => 3 | 32 => 74 | 26 => 26 | 0 => 0 | 44 => 105 | 46 => 107 | 4 => 4 | 36 => 98 | 35 => 97 | 41 => 31 | 5 => 5 | 9 => 9 | 53 => 114 | 57 => 118 | 63 => 127 | 64 => 128 | n => n, fun | n => n⟩
theorem Tryz.sort40 : Go.Proofs.SlLaysM.n6 Tryz.prog Tryz.sort40_ren := {
  mixed := by kernel_rfl
  f6 := ⟨Tryz.f40.name, by decide, Tryz.func40.trans (congrArg some (by kernel_rfl))⟩
  f8 := Tryz.func50.trans (congrArg some (by kernel_rfl))
  f9 := ⟨Tryz.f49.name, by decide, Tryz.func49.trans (congrArg some (by kernel_rfl))⟩
  f19 := Tryz.func66.trans (congrArg some (by kernel_rfl))
  f20 := Tryz.func67.trans (congrArg some (by kernel_rfl))
  f21 := ⟨Tryz.f57.name, by decide, Tryz.func57.trans (congrArg some (by kernel_rfl))⟩
  f22 := ⟨Tryz.f58.name, by decide, Tryz.func58.trans (congrArg some (by kernel_rfl))⟩
  f23 := ⟨Tryz.f59.name, by decide, Tryz.func59.trans (congrArg some (by kernel_rfl))⟩
  f24 := ⟨Tryz.f60.name, by decide, Tryz.func60.trans (congrArg some (by kernel_rfl))⟩
  f25 := ⟨Tryz.f61.name, by decide, Tryz.func61.trans (congrArg some (by kernel_rfl))⟩
  f26 := ⟨Tryz.f62.name, by decide, Tryz.func62.trans (congrArg some (by kernel_rfl))⟩
  f27 := ⟨Tryz.f63.name, by decide, Tryz.func63.trans (congrArg some (by kernel_rfl))⟩
  f28 := ⟨Tryz.f64.name, by decide, Tryz.func64.trans (congrArg some (by kernel_rfl))⟩
  f29 := ⟨Tryz.f65.name, by decide, Tryz.func65.trans (congrArg some (by kernel_rfl))⟩
  f31 := Tryz.func79.trans (congrArg some (by kernel_rfl))
  f32 := Tryz.func80.trans (congrArg some (by kernel_rfl))
  f36 := ⟨Tryz.f78.name, by decide, Tryz.func78.trans (congrArg some (by kernel_rfl))⟩
  f37 := ⟨Tryz.f81.name, by decide, Tryz.func81.trans (congrArg some (by kernel_rfl))⟩
  f38 := ⟨Tryz.f82.name, by decide, Tryz.func82.trans (congrArg some (by kernel_rfl))⟩
  f39 := ⟨Tryz.f83.name, by decide, Tryz.func83.trans (congrArg some (by kernel_rfl))⟩
  f41 := ⟨Tryz.f93.name, by decide, Tryz.func93.trans (congrArg some (by kernel_rfl))⟩
  t0 := Tryz.underlying0
  a0 := Tryz.isAgg0
  z0 := Tryz.sizeOf0
  v0 := Tryz.zeroValue0
  t3 := Tryz.underlying3
  a3 := Tryz.isAgg3
  z3 := Tryz.sizeOf3
  v3 := Tryz.zeroValue3
  t4 := Tryz.underlying4
  a4 := Tryz.isAgg4
  z4 := Tryz.sizeOf4
  v4 := Tryz.zeroValue4
  t5 := Tryz.underlying5
  a5 := Tryz.isAgg5
  z5 := Tryz.sizeOf5
  v5 := Tryz.zeroValue5
  t9 := Tryz.underlying9
  a9 := Tryz.isAgg9
  z9 := Tryz.sizeOf9
  v9 := Tryz.zeroValue9
  t26 := Tryz.underlying26
  a26 := Tryz.isAgg26
  z26 := Tryz.sizeOf26
  v26 := Tryz.zeroValue26
  t27 := Tryz.underlying26
  a27 := Tryz.isAgg26
  z27 := Tryz.sizeOf26
  v27 := Tryz.zeroValue26
  t29 := Tryz.underlying9
  a29 := Tryz.isAgg9
  z29 := Tryz.sizeOf9
  v29 := Tryz.zeroValue9
  t32 := Tryz.underlying74
  a32 := Tryz.isAgg74
  z32 := Tryz.sizeOf74
  v32 := Tryz.zeroValue74
  t35 := Tryz.underlying97
  a35 := Tryz.isAgg97
  z35 := Tryz.sizeOf97
  v35 := Tryz.zeroValue97
  t36 := Tryz.underlying98
  a36 := Tryz.isAgg98
  z36 := Tryz.sizeOf98
  v36 := Tryz.zeroValue98
  t41 := Tryz.underlying31
  a41 := Tryz.isAgg31
  z41 := Tryz.sizeOf31
  v41 := Tryz.zeroValue31
  t44 := Tryz.underlying105
  a44 := Tryz.isAgg105
  z44 := Tryz.sizeOf105
  v44 := Tryz.zeroValue105
  t46 := Tryz.underlying107
  a46 := Tryz.isAgg107
  z46 := Tryz.sizeOf107
  v46 := Tryz.zeroValue107
  t53 := Tryz.underlying114
  a53 := Tryz.isAgg114
  z53 := Tryz.sizeOf114
  v53 := Tryz.zeroValue114
  t57 := Tryz.underlying118
  a57 := Tryz.isAgg118
  z57 := Tryz.sizeOf118
  v57 := Tryz.zeroValue118
  t63 := Tryz.underlying127
  a63 := Tryz.isAgg127
  z63 := Tryz.sizeOf127
  v63 := Tryz.zeroValue127
  t64 := Tryz.underlying128
  a64 := Tryz.isAgg128
  z64 := Tryz.sizeOf128
  v64 := Tryz.zeroValue128 }
open Go.RowKit Go.Maps Go.Sort
theorem Tryz.sorts30 (m : Nat) : AnyZ.SortsIn Tryz.prog Tryz.sorted30_ren Fence.wide m :=
  ⟨fun blk off cap ss W hH hblk hsz => callsIn_wide.2 (AnyM.slices_Sort_string Tryz.sort40 blk off cap ss W hH hblk hsz),
   fun p cap W => callsIn_wide.2 (AnyM.slices_Sort_string_none Tryz.sort40 p cap W)⟩

theorem Tryz.maps_Keys_31 (mb : Option Nat) (W : World) : CallsIn Fence.wide 5 Tryz.prog 31 #[.map mb] W fun e w' => e = .returned (.func (.func 41) #[] #[.pointer (some ⟨W.heap.size, 0, none⟩)]) ∧ w' = W.alloc (.cells #[.map mb] 43) :=
  AnyZ.keys_in Tryz.keys31 Fence.wide 5 trivial rfl mb W

set_option maxHeartbeats 1000000 in
theorem Tryz.slices_Sorted_keys_30_31 {H : Type} (b nn : Nat) (D0 : DataW H) (R : Value → Option (DataW H × List MemPlace)) (w : World) (hown : w.ownsMap Tryz.prog 9 R b nn D0) (hmax : Maps.size D0 ≤ maxLen) (hbytes : Maps.size D0 * 16 ≤ 140737488355328) :
    CallsIn Fence.wide 5 Tryz.prog 30 #[.func (.func 41) #[] #[.pointer (some ⟨w.heap.size, 0, none⟩)]] (w.alloc (.cells #[.map (some b)] 43)) fun e w' => ∃ (v : Value) (ss : List (List UInt8)), e = .returned v ∧ ss.Perm (strKeys D0) ∧
      w'.ownsRow (w.alloc (.cells #[.map (some b)] 43)).heap.size 9 1 v ss.length ((ss.mergeSort (fun x y => decide (x ≤ y))).map encStr) ∧ (v = .slice none 0 0 ↔ ss = []) ∧ Below (w.alloc (.cells #[.map (some b)] 43)).heap.size (w.alloc (.cells #[.map (some b)] 43)) w' := by
  have hbl := hown.lt
  have hseq : SeqGives Fence.wide 2 Tryz.prog 41 #[.pointer (some ⟨w.heap.size, 0, none⟩)] encStr (fun ss => ss.Perm (strKeys D0)) (Maps.size D0) (w.alloc (.cells #[.map (some b)] 43)) :=
    AnyZ.keys_gives (ρ := Tryz.keys31_ren) { Tryz.keys31 with } Fence.wide _ trivial rfl (by omega) w.heap.size b nn D0 _ (by simp) (by simp) (by
      obtain ⟨es, clock, hb, Ft, hs, hD⟩ := hown
      exact ⟨es, clock, (Below.heap_alloc _ _ b hbl).trans hb, Ft, hs, hD⟩)
  exact AnyZ.sorted_in Tryz.sorted30 Fence.wide 5 trivial trivial trivial trivial rfl (by omega) (Tryz.sorts30 _) (enters_of Tryz.func40 (by kernel_rfl) rfl) 41 #[.pointer (some ⟨w.heap.size, 0, none⟩)] trivial (enters_of Tryz.func41 (by kernel_rfl) rfl) _ _ hmax hbytes _ hseq

set_option maxHeartbeats 1000000 in
theorem Tryz.slices_Sorted_keys_nil_30_31 (w : World) :
    CallsIn Fence.wide 5 Tryz.prog 30 #[.func (.func 41) #[] #[.pointer (some ⟨w.heap.size, 0, none⟩)]] (w.alloc (.cells #[.map none] 43)) fun e w' => ∃ (v : Value) (ss : List (List UInt8)), e = .returned v ∧ ss = [] ∧
      w'.ownsRow (w.alloc (.cells #[.map none] 43)).heap.size 9 1 v ss.length ((ss.mergeSort (fun x y => decide (x ≤ y))).map encStr) ∧ (v = .slice none 0 0 ↔ ss = []) ∧ Below (w.alloc (.cells #[.map none] 43)).heap.size (w.alloc (.cells #[.map none] 43)) w' := by
  have hseq : SeqGives Fence.wide 2 Tryz.prog 41 #[.pointer (some ⟨w.heap.size, 0, none⟩)] encStr (fun ss : List (List UInt8) => ss = []) 0 (w.alloc (.cells #[.map none] 43)) :=
    AnyZ.keys_gives_nil (ρ := Tryz.keys31_ren) { Tryz.keys31 with } Fence.wide _ trivial rfl w.heap.size _ (by simp) (by simp)
  exact AnyZ.sorted_in Tryz.sorted30 Fence.wide 5 trivial trivial trivial trivial rfl (by omega) (Tryz.sorts30 _) (enters_of Tryz.func40 (by kernel_rfl) rfl) 41 #[.pointer (some ⟨w.heap.size, 0, none⟩)] trivial (enters_of Tryz.func41 (by kernel_rfl) rfl) _ 0 (Nat.zero_le _) (by omega) _ hseq
end Go.Proofs

/- Package book's IDs, Get and Drop. -/
namespace Go.Proofs.YtcaeafgkogfgdaaGreatDoor
open Go Go.RowKit Go.Maps Go.Sort Cal
attribute [local go_sem] Oper.semAt_some

theorem size_keys (D : DataW Value) : (strKeys D).length = Maps.size D := by
  cases D <;> simp [strKeys, Maps.size]

end Go.Proofs.YtcaeafgkogfgdaaGreatDoor

/- Lists that are searched: slices.BinarySearch over rising numbers, BinarySearchFunc over moves, and package event's movedTo. -/
namespace Go.Proofs.YtcaeafgkogfgdaaGreatDoor
open Go Go.RowKit Cal
attribute [local go_sem] Oper.semAt_some

/-- as cmp.Compare tells it -/
def cmpI (x y : Int) : Int := if x < y then -1 else if y < x then 1 else 0
/-- in a rising list: all ahead of a place are less, all from it on are not -/
theorem search_at {xs : List Int} {x : Int} {i : Nat} (hi : i ≤ xs.length) (h1 : ∀ (t : Nat) (h : t < xs.length), t < i → xs[t] < x) (h2 : ∀ (t : Nat) (h : t < xs.length), i ≤ t → x ≤ xs[t]) (hr : xs.Pairwise (· < ·)) :
    x ∈ xs ↔ ∃ h : i < xs.length, xs[i] = x := by
  constructor
  · intro hx
    obtain ⟨j, hj, e⟩ := List.mem_iff_getElem.1 hx
    have hij : i ≤ j := by
      rcases Nat.lt_or_ge j i with q | q
      · have := h1 j hj q; omega
      · exact q
    have hil : i < xs.length := by omega
    refine ⟨hil, ?_⟩
    rcases Nat.lt_or_ge i j with q | q
    · have a1 := List.pairwise_iff_getElem.1 hr i j hil hj q
      have a2 := h2 i hil (Nat.le_refl _)
      omega
    · have : i = j := by omega
      subst this; exact e
  · rintro ⟨h, e⟩
    rw [← e]; exact List.getElem_mem h

end Go.Proofs.YtcaeafgkogfgdaaGreatDoor

/- The days of an event that is well, as package event's daysUpTo gives them. -/
namespace Go.Proofs.YtcaeafgkogfgdaaGreatDoor
open Go Go.RowKit Go.Shelf Cal
attribute [local go_sem] Oper.semAt_some

/-- what the iterator of an event reads -/
def RdE (E : EV) (sl skv mvv : Value) (W : World) : Prop := Glob W ∧ Days W sl E.ds ∧ Ints W skv E.sk ∧ Movs W mvv E.mv
theorem gvn_over {xs sk : List Int} {ms : List (Int × Int)} {l x : Int} (h : l < x) : gvn (x :: xs) sk ms l = [] := by
  unfold gvn; rw [List.takeWhile_cons_of_neg (by simp; omega)]; rfl
theorem gvn_skip {xs sk : List Int} {ms : List (Int × Int)} {l x : Int} (h : x ≤ l) (hs : x ∈ sk) : gvn (x :: xs) sk ms l = gvn xs sk ms l := by
  unfold gvn; rw [List.takeWhile_cons_of_pos (by simpa using h), List.filter_cons_of_neg (by simpa using hs)]
theorem gvn_on {xs sk : List Int} {ms : List (Int × Int)} {l x : Int} (h : x ≤ l) (hs : x ∉ sk) : gvn (x :: xs) sk ms l = mvd ms x :: gvn xs sk ms l := by
  unfold gvn; rw [List.takeWhile_cons_of_pos (by simpa using h), List.filter_cons_of_pos (by simpa using hs), List.map_cons]
theorem gvn_nil (sk : List Int) (ms : List (Int × Int)) (l : Int) : gvn [] sk ms l = [] := rfl

end Go.Proofs.YtcaeafgkogfgdaaGreatDoor

/- The library's contracts of slices.Sort and slices.Compact at ints: none at this program. -/
namespace Go.Proofs
end Go.Proofs

/- Sorted, and what is twice dropped: the library's contracts of slices.Sort and slices.Compact in words of a row that a call owns. -/
namespace Go.Proofs.YtcaeafgkogfgdaaGreatDoor
open Go Go.RowKit Go.Sort Cal

theorem compact_len (zs : List Int) : (Lib.compact zs).length ≤ zs.length := by
  unfold Lib.compact Lib.compactUpTo
  rw [List.length_map]
  exact Nat.le_trans (List.length_filter_le _ _) (by simp)

end Go.Proofs.YtcaeafgkogfgdaaGreatDoor

/- Package event's Days: the days of an event in a span, or the error full. -/
namespace Go.Proofs.YtcaeafgkogfgdaaGreatDoor
open Go Go.RowKit Go.Shelf Cal
attribute [local go_sem] Oper.semAt_some

theorem spn_in {a b x : Int} {r : List Int} (h : a ≤ x) (h' : x ≤ b) : spn a b (x :: r) = x :: spn a b r := by
  unfold spn; rw [List.filter_cons_of_pos (by simp; omega)]
theorem spn_out {a b x : Int} {r : List Int} (h : ¬ (a ≤ x ∧ x ≤ b)) : spn a b (x :: r) = spn a b r := by
  unfold spn; rw [List.filter_cons_of_neg (by simp; omega)]
/-- the days of an event's start and rule -/
def dys (E : EV) : List Int := cut E.c E.u (cds E.f.toList E.st E.e E.ds)
theorem dys_is {E : EV} (h : EW E) : IsDays E.f E.e E.ds E.c E.u E.st (dys E) := .inl ⟨h.rl, h.bd.1.1, h.bd.1.2, rfl⟩
theorem dys_in {E : EV} (h : EW E) : ∀ x ∈ dys E, 0 ≤ x ∧ x ≤ 73048 := fun x hx => by
  have h1 : x ∈ cds E.f.toList E.st E.e E.ds := by
    unfold dys cut at hx
    have hU : x ∈ cutU E.u (cds E.f.toList E.st E.e E.ds) := by
      split at hx
      · exact List.mem_of_mem_take hx
      · exact hx
    unfold cutU at hU
    split at hU
    · exact (List.takeWhile_sublist _).subset hU
    · exact hU
  have := mem_From.1 h1
  have := h.bd.1.1
  omega
/-- the days of an event from a to b -/
def eds (E : EV) (a b : Int) : List Int := evs (dys E) E.sk E.mv a b

end Go.Proofs.YtcaeafgkogfgdaaGreatDoor

/- Package event's Covers: is a day within an event? -/
namespace Go.Proofs.YtcaeafgkogfgdaaGreatDoor
open Go Go.RowKit Cal
attribute [local go_sem] Oper.semAt_some

/-- numbers that rise from a to b: at most so many -/
theorem rise_len : ∀ {l : List Int} {a b : Int}, l.Pairwise (· < ·) → (∀ x ∈ l, a ≤ x ∧ x ≤ b) → (l.length : Int) ≤ max 0 (b - a + 1)
  | [], _, _, _, _ => by simp; omega
  | x :: r, a, b, hp, hb => by
    rw [List.pairwise_cons] at hp
    have hx := hb x (List.mem_cons_self ..)
    have ih := rise_len (l := r) (a := x + 1) (b := b) hp.2 (fun y hy => ⟨by have := hp.1 y hy; omega, (hb y (List.mem_cons_of_mem _ hy)).2⟩)
    rw [List.length_cons]
    omega
theorem eds_len (E : EV) (a b : Int) : ((eds E a b).length : Int) ≤ max 0 (b - a + 1) :=
  rise_len (evs_rise ..) (fun x hx => by have := mem_evs.1 hx; exact ⟨this.2.2.1, this.2.2.2.1⟩)
/-- is a day covered? -/
def covers (E : EV) (d : Int) : Prop := (0 ≤ d ∧ d ≤ 73048) ∧ EW E ∧ eds E (d - E.lg + 1) d ≠ []

end Go.Proofs.YtcaeafgkogfgdaaGreatDoor

/- Package book's On. -/
namespace Go.Proofs.YtcaeafgkogfgdaaGreatDoor
open Go Go.RowKit Go.Maps Cal
attribute [local go_sem] Oper.semAt_some

/-- a list of texts that a call gave -/
def RowV (base : Nat) (W : World) (v : Value) (l : List ByteArray) : Prop :=
  (v = .slice none 0 0 ∧ l = []) ∨ ∃ B cap, v = .slice (some ⟨B, 0, none⟩) l.length cap ∧ base ≤ B ∧ RowS W B cap l
theorem rowV_own {base : Nat} {W : World} {v : Value} {n : Nat} {xs : List (List UInt8)} (h : W.ownsRow base 9 1 v n (xs.map encStr)) : RowV base W v (xs.map bs) := by
  have hn : xs.length = n := by have := h.1; simpa using this
  rcases h.2 with ⟨rfl, h0⟩ | ⟨B, cap, cur, rfl, hb, hg, hcap, hmax, hsz, htake⟩
  · refine .inl ⟨rfl, ?_⟩
    rw [List.length_eq_zero_iff.1 (hn.trans h0)]; rfl
  · refine .inr ⟨B, cap, by rw [List.length_map, hn], hb, ⟨cur, hg, by omega, fun j hj => ?_⟩, by rw [List.length_map]; omega⟩
    rw [List.length_map] at hj
    have e := congrArg (fun z : List Value => z[j]?) htake
    simp only [List.getElem?_take, List.getElem?_map, Array.getElem?_toList] at e
    rw [if_pos (by omega), List.getElem?_eq_getElem hj] at e
    rw [e, List.getElem_map]; rfl
end Go.Proofs.YtcaeafgkogfgdaaGreatDoor
