/- The iterator of strings.Lines at a text of whole lines: it gives them one by one; ahead of each round it writes its own variable. -/
import Derived.Test.YtpdcjnkgkpbdgaaGreatDoorRFP
import Derived.Test.YtpdcjnkgkpbdgaaGreatDoorQdB
import Derived.Test.YtpdcjnkgkpbdgaaGreatDoorShelf4P
import Derived.Test.YtpdcjnkgkpbdgaaGreatDoorQbE
import Derived.Test.YtpdcjnkgkpbdgaaGreatDoorQaB
import Derived.Test.YtpdcjnkgkpbdgaaGreatDoorExpLP
import Derived.Shelf.Abstract
import Derived.Shelf.RegionOpen
import Derived.WalkKit
import Derived.OwnWalkIn
import Derived.TacticsInMore
import Derived.LoopNIn
import Derived.LoopIn
namespace Go.Proofs.YtpdcjnkgkpbdgaaGreatDoor
open Go Go.RowKit Go.Shelf Cal
attribute [local go_sem] Oper.semAt_some

theorem lines_any (sb : ByteArray) (w : World) : Calls Tryz.prog 74 #[.string sb] w fun r w' => r = .returned (.func (.func 118) #[] #[.pointer (some ⟨w.heap.size, 0, none⟩)]) ∧ w' = w.alloc (.cells #[.string sb] 9) := by
  go_enter Tryz.func74, Tryz.ntmps74
  go_wp2
  go_ret
  exact ⟨rfl, rfl⟩

set_option maxHeartbeats 1000000 in
theorem lines_iter (n l Bs : Nat) (ws : List (List UInt8)) (J Jx : Nat → World → Prop) (hn : 6 ≤ n) (hws : ∀ x ∈ ws, ∃ y, x = y ++ [10] ∧ (10 : UInt8) ∉ y)
    (hJs : ∀ k W W', J k W → W.grownBy W' (some Bs) → J k W')
    (hY : ∀ (k : Nat) (hk : k < ws.length) (W : World), J k W → YieldAt Fence.wide (n - 1) Tryz.prog l #[.string ⟨ws[k].toArray⟩] W fun e W' =>
      (e = .returned (.bool true) ∧ J (k + 1) W' ∧ W'.heap[Bs]? = W.heap[Bs]?) ∨ (e = .returned (.bool false) ∧ Jx (k + 1) W'))
    (W : World) (s : ByteArray) (hsz : s.size ≤ 1000000) (hs : s.data.toList = ws.flatten) (hB : Boxed W Bs 9 (.string s)) (h0 : J 0 W) :
    CallsIn Fence.wide n Tryz.prog 118 #[.func (.yield l) #[] #[], .pointer (some ⟨Bs, 0, none⟩)] W fun e W' =>
      (∃ v, e = .returned v) ∧ (J ws.length W' ∨ ∃ k, Jx k W') := by
  have h1 : 1 ≤ n := by omega
  have c1 := hB.cell
  refine callsIn_of_wp Tryz.func118 rfl trivial ?_ rfl
  simp only [Tryz.ntmps118, List.size_toArray, List.length_cons, List.length_nil, Nat.reduceAdd, Nat.reduceSub, Array.replicate_succ, Array.replicate_zero, List.push_toArray, List.append_toArray, List.nil_append, List.cons_append]
  gi_wp2
  have HY : Hid (_) := hY
  have HJ : Hid (_) := hJs
  have HWS : Hid (_) := hws
  clear hY hJs c1 hws
  gi_loopw [3, 4] (fun i fr wr => ∃ (k : Nat) (sk : ByteArray), k ≤ ws.length ∧ J k wr ∧ Boxed wr Bs 9 (.string sk) ∧ sk.data.toList = (ws.drop k).flatten ∧ sk.size ≤ s.size) (fun _ _ wr => leftOf wr Bs)
  case atStart => exact ⟨0, s, Nat.zero_le _, h0, hB, hs, Nat.le_refl _⟩
  case round =>
    obtain ⟨k, sk, hkl, hJk, d1, hp, hss⟩ := hrel
    have e1 := d1.cell
    have f1 := d1.frozen
    by_cases hk : k < ws.length
    · obtain ⟨y, hy, hny⟩ := HWS.out ws[k] (List.getElem_mem hk)
      have hdr : (ws.drop k).flatten = y ++ 10 :: (ws.drop (k + 1)).flatten := by
        rw [List.drop_eq_getElem_cons hk, List.flatten_cons, hy, List.append_assoc]; rfl
      rw [hdr] at hp
      have hix : Lib.indexByte sk.data.toList 10 = (y.length : Int) := by rw [hp]; exact index_at 10 _ y hny
      have hskl : sk.size = y.length + 1 + (ws.drop (k + 1)).flatten.length := by
        rw [Lib.size_eq, hp]; simp; omega
      have ew : (⟨ws[k].toArray⟩ : ByteArray) = sk.extract 0 (y.length + 1) := by
        apply ba_ext
        rw [Lib.extract_data, hp, hy]
        have : y ++ 10 :: (ws.drop (k + 1)).flatten = (y ++ [10]) ++ (ws.drop (k + 1)).flatten := by simp
        rw [this]
        have h2 : (y ++ [10]).length = y.length + 1 := by simp
        rw [Nat.sub_zero, List.drop_zero, ← h2, List.take_left]
      have ex : (sk.extract (y.length + 1) sk.size).data.toList = (ws.drop (k + 1)).flatten := by
        rw [Lib.extract_to_end sk (y.length + 1), hp]; simp
      have ix := Tryz.strings_IndexByte sk 10 wr
      rw [show ((10 : Int).toNat.toUInt8) = (10 : UInt8) from rfl, hix] at ix
      have IX : Hid (Calls Tryz.prog 119 #[.string sk, .int .u8 10] wr fun e w' => e = .returned (.int .i64 (y.length : Int)) ∧ w' = wr) := ix
      have HYk : Hid (∀ W, J k W → YieldAt Fence.wide (n - 1) Tryz.prog l #[.string (sk.extract 0 (y.length + 1))] W fun e W' => (e = .returned (.bool true) ∧ J (k + 1) W' ∧ W'.heap[Bs]? = W.heap[Bs]?) ∨ (e = .returned (.bool false) ∧ Jx (k + 1) W')) := fun W hJ => by
        have := HY.out k hk W hJ
        rwa [ew] at this
      have HE : Hid ((sk.extract (y.length + 1) sk.size).data.toList = (ws.drop (k + 1)).flatten) := ex
      have hyl : (y.length : Int) + 1 ≤ (sk.size : Int) := by omega
      have hsk0 : 0 < (sk.size : Int) := by omega
      have hskm : (sk.size : Int) ≤ 1000000 := by omega
      clear ix hix hdr ew ex hy hny hp HY hskl
      generalize y.length = i at IX HYk HE hyl
      gi_upto_region 4 with (refine ⟨trivial, ?_⟩; gi_at_call 119; refine (callsIn_wide.2 (IX.out)).mono ?_; rintro e wr' ⟨rfl, rfl⟩)
      gi_region
      have g1 : wr'.grownBy ((wr'.setCell ⟨Bs, 0, none⟩ (.string (sk.extract (i + 1) sk.size))).drew) (some Bs) := grown_then (grown_set wr' ⟨Bs, 0, none⟩ _) (grown_below (drew_below _) _)
      have hYd := HYk.out _ (HJ.out k _ _ hJk g1)
      have d2 : Boxed ((wr'.setCell ⟨Bs, 0, none⟩ (.string (sk.extract (i + 1) sk.size))).drew) Bs 9 (.string (sk.extract (i + 1) sk.size)) := d1.set _
      have HD1 : Hid (_) := d1
      clear d1 e1 f1 hJk g1
      generalize (wr'.setCell ⟨Bs, 0, none⟩ (.string (sk.extract (i + 1) sk.size))).drew = w2 at hYd d2 ⊢
      have HD2 : Hid (_) := d2
      clear d2
      obtain ⟨fn, tmps, assign, body, hy, hR⟩ := hYd
      gi_wp2
      refine hR.mono ?_
      rintro e W3 (⟨rfl, hJ3, g3⟩ | ⟨rfl, hJx3⟩)
      · have HG : Hid (J (k + 1) W3) := hJ3
        have d3 : Boxed W3 Bs 9 (.string (sk.extract (i + 1) sk.size)) := g3.trans HD2.out
        have hel : (sk.extract (i + 1) sk.size).size = sk.size - (i + 1) := by simp
        clear hJ3 g3
        gi_wp2
        go_roundw
        case rel => exact ⟨k + 1, _, hk, HG.out, d3, HE.out, by omega⟩
        case measure =>
          rw [leftOf_eq d3, leftOf_eq HD1.out]
          omega
      · gi_wp2
        refine bodyPost_ret (results_none rfl _ _ _) rfl ?_
        exact ⟨⟨_, rfl⟩, .inr ⟨_, hJx3⟩⟩
    · have hkk : k = ws.length := by omega
      have hsk : sk.size = 0 := by
        rw [Lib.size_eq, hp, hkk, List.drop_length]; rfl
      have hsk' : (sk.size : Int) = 0 := by omega
      have HJE : Hid (J ws.length wr) := by rw [← hkk]; exact hJk
      clear hp hJk HY HJ HWS
      gi_wp2
      go_end0
      exact ⟨⟨_, rfl⟩, .inl HJE.out⟩
end Go.Proofs.YtpdcjnkgkpbdgaaGreatDoor
