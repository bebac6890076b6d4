/- Package pack's eachBlock: its iterator. -/
import Derived.Test.YtbocknocmggcpaaGreatDoorPkQ
import Derived.Test.YtbocknocmggcpaaGreatDoorRF
import Derived.Shelf.Abstract
import Derived.Shelf.RegionOpen
import Derived.WalkKit
import Derived.OwnWalkIn
import Derived.TacticsInMore
import Derived.LoopNIn
import Derived.LoopIn
namespace Go.Proofs.YtbocknocmggcpaaGreatDoor
open Go Go.RowKit Go.Shelf Cal Pk
attribute [local go_sem] Oper.semAt_some

theorem eachBlock_any (s : ByteArray) (w : World) : Calls Tryz.prog 43 #[.string s] w fun r w' => r = .returned (.func (.func 60) #[] #[.pointer (some ⟨w.heap.size, 0, none⟩)]) ∧ w' = w.alloc (.cells #[.string s] 9) := by
  go_enter Tryz.func43, Tryz.ntmps43
  go_wp2
  go_ret
  exact ⟨rfl, rfl⟩

set_option maxHeartbeats 1000000 in
theorem eachBlock_iter (n l Bs : Nat) (s : ByteArray) (J : Nat → World → Prop) (hn : 6 ≤ n) (hl : s.size ≤ 2000000)
    (hB : ∀ k W, J k W → W.cell? ⟨Bs, 0, none⟩ = some (.string s))
    (hY : ∀ (k : Nat), 8 * k + 8 ≤ s.size → ∀ W : World, J k W → YieldAt Fence.wide (n - 1) Tryz.prog l #[.int .i64 ((8 * k : Nat) : Int), .string (bs (bk s.data.toList (8 * k)))] W fun e W' => e = .returned (.bool true) ∧ J (k + 1) W')
    (W : World) (h0 : J 0 W) :
    CallsIn Fence.wide n Tryz.prog 60 #[.func (.yield l) #[] #[], .pointer (some ⟨Bs, 0, none⟩)] W fun e W' => (∃ v, e = .returned v) ∧ J (s.size / 8) W' := by
  have h1 : 1 ≤ n := by omega
  have hli : (s.size : Int) ≤ 2000000 := by omega
  have HB : Hid (_) := hB
  have HY : Hid (_) := hY
  have H0 : Hid (J 0 W) := h0
  clear hB hY h0
  refine callsIn_of_wp Tryz.func60 rfl trivial ?_ rfl
  simp only [Tryz.ntmps60, List.size_toArray, List.length_cons, List.length_nil, Nat.reduceAdd, Nat.reduceSub, Array.replicate_succ, Array.replicate_zero, List.push_toArray, List.append_toArray, List.nil_append, List.cons_append]
  gi_wp2
  gi_loopw [3] (fun i wr => ∃ (k m : Nat), m = 8 * k ∧ m ≤ s.size ∧ i = .int .i64 m ∧ Hid (J k wr)) (fun i _ => s.size - (intOf i).toNat)
  case atStart => exact ⟨0, 0, rfl, Nat.zero_le _, rfl, H0.out⟩
  case round =>
    obtain ⟨k, m, hm, hr, rfl, HJ⟩ := hrel
    have c1 := HB.out k wr HJ.out
    by_cases hlt : m + 8 ≤ s.size
    · have hYr := HY.out k (by omega) wr HJ.out
      have ex : s.extract m (m + 8) = bs (bk s.data.toList m) := pl_ext (by rw [bs_data]; unfold bk; simp)
      rw [← hm, ← ex] at hYr
      have e0 : (0 : Int) ≤ (m : Int) := by omega
      have e1 : (m : Int) + 8 ≤ (s.size : Int) := by omega
      have e2 : (m : Int) ≤ (m : Int) + 8 := by omega
      have e3 : ((m : Int) + 8).toNat = m + 8 := by omega
      obtain ⟨fn, tmps, assign, body, hy, hRR⟩ := hYr
      have HM : Hid (m = 8 * k) := hm
      clear HB HY H0 hm ex
      gi_wp2
      refine hRR.mono ?_
      rintro e W3 ⟨rfl, hJ3⟩
      have HJ3 : Hid (J (k + 1) W3) := hJ3
      clear hJ3
      gi_wp2
      go_roundw
      case rel => exact ⟨k + 1, m + 8, by have := HM.out; omega, by omega, by go_num, HJ3.out⟩
      case measure => simp [intOf]; omega
    · have e1 : (s.size : Int) < (m : Int) + 8 := by omega
      have HK : Hid (s.size / 8 = k) := by show _ = _; omega
      clear HB HY H0 hm
      gi_wp2
      go_end0
      exact ⟨⟨_, rfl⟩, by rw [HK.out]; exact HJ.out⟩
end Go.Proofs.YtbocknocmggcpaaGreatDoor
