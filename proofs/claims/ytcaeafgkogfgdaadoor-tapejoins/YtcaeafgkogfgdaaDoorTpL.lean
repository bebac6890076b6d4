/- Lists of texts: the document's SameTexts; the laws' closed fact of a tape. -/
import Derived.Test.YtcaeafgkogfgdaaDoorTpS
namespace Go.Proofs.YtcaeafgkogfgdaaDoor
open Go Go.RowKit Go.Maps Cal Pk
attribute [local go_sem] Oper.semAt_some

/-- a list of texts -/
def TxA (w : World) (v : Value) (xs : List ByteArray) : Prop := ∃ (a : Option Addr) (c : Nat), v = .slice a xs.length c ∧ xs.length ≤ c ∧ ∀ (j : Nat) (h : j < xs.length), ∃ ad : Addr, a = some ad ∧ ad.block < w.heap.size ∧ w.cell? (ad.add j) = some (.string xs[j])
theorem addrT_block (a : Addr) (n : Nat) : (a.add n).block = a.block := by
  unfold Addr.add
  split <;> rfl
theorem TxA.step {w w' : World} {v : Value} {xs : List ByteArray} (h : TxA w v xs) (hb : RowKit.Below w.heap.size w w') : TxA w' v xs := by
  obtain ⟨a, c, h1, h2, h3⟩ := h
  refine ⟨a, c, h1, h2, fun j hj => ?_⟩
  obtain ⟨ad, q1, q2, q3⟩ := h3 j hj
  exact ⟨ad, q1, Nat.lt_of_lt_of_le q2 hb.size, (hb.cell (p := ad.add j) (by rw [addrT_block]; exact q2)).trans q3⟩
theorem TxR.all {base : Nat} {W : World} {v : Value} {X : List (List UInt8)} (h : TxR base W v X) : TxA W v (X.map bs) := by
  rcases h.2 with ⟨rfl, h0⟩ | ⟨g, cap, cur, rfl, h1, h2, h3, h4, h5, h6⟩
  · obtain rfl : X = [] := List.eq_nil_of_length_eq_zero h0
    exact ⟨none, 0, rfl, Nat.le_refl _, fun j hj => by simp at hj⟩
  · refine ⟨some ⟨g, 0, none⟩, cap, by rw [List.length_map], by rw [List.length_map]; exact h3, fun j hj => ⟨_, rfl, (Array.getElem?_eq_some_iff.1 h2).1, ?_⟩⟩
    rw [List.length_map] at hj
    have hadd : (⟨g, 0, none⟩ : Addr).add j = ⟨g, j, none⟩ := by unfold Addr.add; split <;> simp_all
    rw [hadd, cell_of_row W g j cur 9 (0, 0) h2]
    have := congrArg (fun l : List Value => l[j]?) h6
    simp only [Nat.mul_one, List.getElem?_take, if_pos hj, List.getElem?_map, List.getElem?_eq_getElem hj, Option.map_some] at this
    simpa using this
theorem sameTx (n : Nat) (a1 a2 : Option Addr) (c1 c2 : Nat) (w : World) (hn : n ≤ 1000000) (z : Nat → ByteArray) (ha : ∀ j, j < n → ∃ ad : Addr, a1 = some ad ∧ w.cell? (ad.add j) = some (.string (z j))) (hb : ∀ j, j < n → ∃ ad : Addr, a2 = some ad ∧ w.cell? (ad.add j) = some (.string (z j))) :
    Calls Tryd.prog 10 #[.slice a1 n c1, .slice a2 n c2] w fun e w' => e = .returned (.bool true) ∧ Below w.heap.size w w' := by
  have HA : Hid (∀ j, j < n → ∃ ad : Addr, a1 = some ad ∧ w.cell? (ad.add j) = some (.string (z j))) := ha
  have HB : Hid (∀ j, j < n → ∃ ad : Addr, a2 = some ad ∧ w.cell? (ad.add j) = some (.string (z j))) := hb
  clear ha hb
  go_enter Tryd.func10, Tryd.ntmps10
  go_wp2
  go_loopw [5] (fun i wr => ∃ k q : Nat, k ≤ n ∧ i = .int .i64 k ∧ wr = w.drewN q) (fun i _ => n - (intOf i).toNat)
  case atStart => exact ⟨0, 0, Nat.zero_le _, rfl, rfl⟩
  case round =>
    obtain ⟨k, q, hk, rfl, rfl⟩ := hrel
    by_cases hlt : k < n
    · obtain ⟨ad1, rfl, h1⟩ := HA.out k hlt
      obtain ⟨ad2, rfl, h2⟩ := HB.out k hlt
      have g1 : (0 : Int) ≤ (k : Int) := by omega
      have g2 : (k : Int) < (n : Int) := by omega
      go_wp2
      go_quiet (fail)
      go_wp2
      go_roundw
      case rel => exact ⟨k + 1, _, by omega, by go_num, rfl⟩
      case measure => simp [intOf]; omega
    · go_wp2
      go_ret
      exact ⟨rfl, pl_drew _ _⟩
theorem sameTx_eq {W : World} {v1 v2 : Value} {xs : List ByteArray} (h1 : TxA W v1 xs) (h2 : TxA W v2 xs) (hn : xs.length ≤ 1000000) : Calls Tryd.prog 10 #[v1, v2] W fun e w' => e = .returned (.bool true) ∧ Below W.heap.size W w' := by
  obtain ⟨a1, c1, rfl, _, q1⟩ := h1
  obtain ⟨a2, c2, rfl, _, q2⟩ := h2
  refine sameTx xs.length a1 a2 c1 c2 W hn (fun j => xs.getD j ⟨#[]⟩) (fun j hj => ?_) (fun j hj => ?_)
  · obtain ⟨ad, e1, _, e2⟩ := q1 j hj
    exact ⟨ad, e1, by rw [e2, List.getD_eq_getElem?_getD, List.getElem?_eq_getElem hj]; rfl⟩
  · obtain ⟨ad, e1, _, e2⟩ := q2 j hj
    exact ⟨ad, e1, by rw [e2, List.getD_eq_getElem?_getD, List.getElem?_eq_getElem hj]; rfl⟩

/-- a row of texts is appended to: a disk stays -/
theorem DkAt.far {lo base : Nat} {W W' : World} {bb : Nat} {D : DK} {v : Value} {n : Nat} {xs : List Value} (h : DkAt lo W bb D) (ho : W.ownsRow base 9 1 v n xs) (hg : W.grownBy W' v.ownBlock) : DkAt lo W' bb D := by
  have key : ∀ (b : Nat) (cs : Array Value) (T : TypeId) (fz : Nat × Nat), W.heap[b]? = some (.cells cs T fz) → T ≠ 9 → W'.heap[b]? = some (.cells cs T fz) := fun b cs T fz hb hT => by
    refine (hg.block b (Array.getElem?_eq_some_iff.1 hb).1 (fun q => ?_)).trans hb
    rcases ho.2 with ⟨rfl, _⟩ | ⟨g, cap, cur, rfl, _, h2, _⟩
    · simp [Value.ownBlock] at q
    · have : b = g := by simpa [Value.ownBlock] using q
      subst this
      rw [hb] at h2
      cases h2
      exact hT rfl
  obtain ⟨h1, h2, g, cap, h3, g', cap', cur, fz, q1, q2, q3, q4⟩ := h
  exact ⟨h1, Nat.le_trans h2 hg.size, g, cap, key _ _ _ _ h3 (by decide), g', cap', cur, fz, q1, q2, key _ _ _ _ q3 (by decide), q4⟩
/-- the empty disk -/
def dk0 : DK := ⟨[], 0, false, false, 0⟩
theorem dk0_ok : DkOk dk0 := ⟨fun _ => rfl, fun h => (by cases h), by decide⟩
theorem rc_ab : rcT [97, 32, 98] = [51, 58, 97, 32, 98, 10, 46] := by
  unfold rcT szE
  rw [show (([97, 32, 98] : List UInt8).length : Int) = ((3 : Nat) : Int) from rfl, Lib.itoa_nonneg, Lib.decDigits_one (by omega)]
  rfl
theorem app_ab : dk0.app [97, 32, 98] = (true, ⟨[51, 58, 97, 32, 98, 10, 46], 0, false, false, 0⟩) := by
  unfold DK.app dk0 DK.more
  rw [rc_ab]
  rfl
theorem rd_ab : rdT [51, 58, 97, 32, 98, 10, 46] = ([[97, 32, 98]], []) := by
  have := rdT_whole [[97, 32, 98]] (fun s hs => by rw [List.mem_singleton.1 hs]; decide)
  unfold tpT at this
  rw [List.flatMap_cons, List.flatMap_nil, List.append_nil, rc_ab] at this
  exact this
theorem dk_ab : (⟨[51, 58, 97, 32, 98, 10, 46], 0, false, false, 0⟩ : DK).back = ⟨[51, 58, 97, 32, 98, 10, 46], 0, false, false, 0⟩ := by
  unfold DK.back
  rw [rd_ab]
  rfl

set_option maxHeartbeats 1000000 in
theorem taped_any (w : World) (g : GlobT w) : Calls Tryd.prog 5 #[] w fun r w' => r = .returned (.bool true) ∧ Below w.heap.size w w' := by
  have ND : Hid (Calls Tryd.prog 6 #[.string ⟨#[]⟩] w fun r w' => ∃ bb, r = .returned (.tuple #[.pointer (some ⟨bb, 0, none⟩), .nilIface]) ∧ DkAt w.heap.size w' bb dk0 ∧ Below w.heap.size w w') := newDisk_any w w.heap.size ⟨#[]⟩ (Nat.le_refl _) (by decide)
  have AP : Hid (∀ W bb, Below w.heap.size w W → DkAt w.heap.size W bb dk0 → Calls Tryd.prog 8 #[.pointer (some ⟨bb, 0, none⟩), .string ⟨#[97, 32, 98]⟩] W fun r w' => r = .returned .nilIface ∧ DkAt w.heap.size w' bb ⟨[51, 58, 97, 32, 98, 10, 46], 0, false, false, 0⟩ ∧ Below w.heap.size W w') := fun W bb hb hd => by
    have := append_any w.heap.size W bb dk0 ⟨#[97, 32, 98]⟩ (GlobL.of g hb) hd dk0_ok (by decide)
    rw [show (⟨#[97, 32, 98]⟩ : ByteArray).data.toList = [97, 32, 98] from rfl, app_ab] at this
    refine Calls.mono this ?_
    rintro r w' ⟨v, rfl, hv, q1, q2⟩
    have : v = .nilIface := hv
    subst this
    exact ⟨rfl, q1, q2.1⟩
  have RC : Hid (∀ W bb, Below w.heap.size w W → DkAt w.heap.size W bb ⟨[51, 58, 97, 32, 98, 10, 46], 0, false, false, 0⟩ → Calls Tryd.prog 9 #[.pointer (some ⟨bb, 0, none⟩)] W fun r w' => ∃ v, r = .returned (.tuple #[v, .nilIface]) ∧ TxA w' v [⟨#[97, 32, 98]⟩] ∧ DkAt w.heap.size w' bb ⟨[51, 58, 97, 32, 98, 10, 46], 0, false, false, 0⟩ ∧ Below w.heap.size W w') := fun W bb hb hd => by
    have := recover_any w.heap.size W bb _ (GlobL.of g hb) hd (by decide)
    rw [dk_ab] at this
    dsimp only at this
    rw [rd_ab] at this
    refine Calls.mono this ?_
    rintro r w' ⟨v, rfl, q0, q1, q2⟩
    exact ⟨v, rfl, TxR.all q0, q1, q2.1⟩
  clear g
  have BT : ∀ {A B C : World}, Below w.heap.size A B → Below w.heap.size B C → Below w.heap.size A C := fun h k => ⟨k.os.trans h.os, k.tape.trans h.tape, k.output.trans h.output, Nat.le_trans h.size k.size, fun i hi => (k.block i hi).trans (h.block i hi)⟩
  go_enter Tryd.func5, Tryd.ntmps5
  go_upto_region 2 with (go_at_call 6; refine Calls.mono ND.out ?_; rintro r w1 ⟨bb, rfl, hd1, hb1⟩)
  go_upto_region 4 with (go_at_call 8; refine Calls.mono (AP.out _ bb hb1 hd1) ?_; rintro r w2 ⟨rfl, hd2, hb2⟩)
  have hb2' := BT hb1 hb2
  clear hb1 hb2 hd1
  go_upto_region 5 with (go_at_call 9; refine Calls.mono (RC.out _ bb hb2' hd2) ?_; rintro r w3 ⟨v, rfl, ht3, hd3, hb3⟩)
  have hb3' := BT hb2' hb3
  clear hb2' hb3 hd2
  have ST : Hid (Calls Tryd.prog 10 #[v, .slice (some ⟨w3.heap.size, 0, none⟩) 1 1] (w3.alloc (.cells #[.string ⟨#[97, 32, 98]⟩] 9)) fun e w' => e = .returned (.bool true) ∧ Below (w3.alloc (.cells #[.string ⟨#[97, 32, 98]⟩] 9)).heap.size (w3.alloc (.cells #[.string ⟨#[97, 32, 98]⟩] 9)) w') := by
    refine sameTx_eq (xs := [⟨#[97, 32, 98]⟩]) (ht3.step (below_alloc _ _)) ⟨_, _, rfl, Nat.le_refl _, fun j hj => ⟨_, rfl, by rw [World.size_alloc]; exact Nat.lt_succ_self _, ?_⟩⟩ (by decide)
    have hj0 : j = 0 := by simp at hj; exact hj
    subst hj0
    simp [Addr.add]
  have BY : Hid (∀ W', Below w3.heap.size w3 W' → Calls Tryd.prog 13 #[.pointer (some ⟨bb, 0, none⟩)] W' fun r w' => r = .returned (.string ⟨#[51, 58, 97, 32, 98, 10, 46]⟩) ∧ w' = W') := fun W' hW => dkBytes_any w.heap.size W' bb _ (hd3.step hW)
  obtain ⟨ta, tc, rfl, _, _⟩ := ht3
  have HB3 : Hid (Below w.heap.size w w3) := hb3'
  clear hd3 hb3'
  go_wp2_with (first
    | (go_at_call 10; refine Calls.mono ST.out ?_; rintro r w4 ⟨rfl, hb4⟩; have HB4 : Hid (Below w3.heap.size w3 w4) := below_then (below_alloc _ _) hb4; clear hb4)
    | (go_at_call 13; refine Calls.mono (BY.out _ HB4.out) ?_; rintro r w5 ⟨rfl, rfl⟩))
  go_ret
  exact ⟨rfl, below_then HB3.out HB4.out⟩
end Go.Proofs.YtcaeafgkogfgdaaDoor
