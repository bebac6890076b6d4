/- Package tape: Append and Recover; the closed fact. -/
import Derived.Test.YtcaeafgkogfgdaaDoorTpR
import Derived.Deep.Onto
namespace Go.Proofs.YtcaeafgkogfgdaaDoor
open Go Go.RowKit Go.Maps Cal Pk
attribute [local go_sem] Oper.semAt_some

/-- GlobT, whatever is written from lo on -/
def GlobL (lo : Nat) (W : World) : Prop := ∀ W', Below lo W W' → GlobT W'
theorem GlobL.of {w W : World} (g : GlobT w) (hb : Below w.heap.size w W) : GlobL w.heap.size W := fun _ h => g.step ⟨h.os.trans hb.os, h.tape.trans hb.tape, h.output.trans hb.output, Nat.le_trans hb.size h.size, fun i hi => (h.block i hi).trans (hb.block i hi)⟩
theorem GlobL.step {lo : Nat} {W W' : World} (h : GlobL lo W) (hb : Below lo W W') : GlobL lo W' := fun W'' k => h W'' ⟨k.os.trans hb.os, k.tape.trans hb.tape, k.output.trans hb.output, Nat.le_trans hb.size k.size, fun i hi => (k.block i hi).trans (hb.block i hi)⟩
theorem GlobL.at {lo : Nat} {W : World} (h : GlobL lo W) : GlobT W := h W (Below.refl _ _)
theorem GlobL.off {lo : Nat} {W : World} (h : GlobL lo W) : ErrAt lo 1 W := fun W' k => (h W' k).off
theorem rcT_len (s : List UInt8) (hs : s.length ≤ 10000) : 1 ≤ (rcT s).length ∧ (rcT s).length ≤ s.length + 9 := by
  have := itoa_len (s.length : Int) (by omega) (by omega)
  unfold rcT szE
  simp only [List.length_append, List.length_cons, List.length_nil]
  omega
/-- what Append does -/
noncomputable def DK.app (D : DK) (s : List UInt8) : Bool × DK :=
  if D.off then (false, D) else if D.waits = true ∧ D.left < (rcT s).length then (false, D.cut (rcT s)) else (true, D.more (rcT s))
/-- a disk that can be written on -/
structure DkOk (D : DK) : Prop where
  torn : D.off = false → D.torn = 0
  left : D.waits = true → 0 ≤ D.left ∧ D.left ≤ 9223372036854775807
  len : D.B.length ≤ 1000000
/-- nil, or an error -/
def errR (b : Bool) (v : Value) : Prop := if b then v = .nilIface else ∃ a, v = .iface 90 (.pointer (some a))

set_option maxHeartbeats 1000000 in
theorem append_any (lo : Nat) (W : World) (bb : Nat) (D : DK) (s : ByteArray) (g : GlobL lo W) (h : DkAt lo W bb D) (hd : DkOk D) (hs : s.size ≤ 10000) :
    Calls Tryd.prog 8 #[.pointer (some ⟨bb, 0, none⟩), .string s] W fun r w' => ∃ v, r = .returned v ∧ errR (D.app s.data.toList).1 v ∧ DkAt lo w' bb (D.app s.data.toList).2 ∧ TKeep lo W w' := by
  have hsz : s.data.toList.length = s.size := (Lib.size_eq s).symm
  obtain ⟨hr1, hr2⟩ := rcT_len s.data.toList (by omega)
  have hlen := hd.len
  have T : Hid (Calls Tryd.prog 14 #[.string s, .string ⟨#[10, 46]⟩] W fun r w' => r = .returned (.string (bs (rcT s.data.toList))) ∧ Below W.heap.size W w') := szText_any s [10, 46] W g.at.tab (by omega) (by decide)
  have hlo : lo ≤ W.heap.size := h.2.1
  have hrz : (bs (rcT s.data.toList)).size = (rcT s.data.toList).length := by rw [Lib.size_eq, bs_data]
  have R : Hid (∀ W', Below W.heap.size W W' → Calls Tryd.prog 15 #[.pointer (some ⟨bb, 0, none⟩), .int .i64 ((bs (rcT s.data.toList)).size : Int)] W' fun r w' => r = .returned (.bool true) ∧ w' = W') := fun W' hb => by
    have := dkRoom_any lo W' bb D ((bs (rcT s.data.toList)).size : Int) (h.step hb) (by omega)
    rw [decide_eq_true (by omega)] at this
    exact this
  have WR : Hid (∀ W', Below W.heap.size W W' → Calls Tryd.prog 16 #[.pointer (some ⟨bb, 0, none⟩), .string (bs (rcT s.data.toList))] W' fun r w' => ∃ v, r = .returned v ∧ errR (D.app s.data.toList).1 v ∧ DkAt lo w' bb (D.app s.data.toList).2 ∧ TKeep lo W w') := fun W' hb => by
    have hk := TKeep.below hb hlo
    unfold DK.app
    by_cases ho : D.off = true
    · rw [if_pos ho]
      refine Calls.mono (write_off lo W' bb D (bs (rcT s.data.toList)) (g.step hk.1).off (h.step hb) ho) ?_
      rintro r w' ⟨⟨a, rfl⟩, rfl⟩
      exact ⟨_, rfl, ⟨a, rfl⟩, h.step hb, hk⟩
    · rw [if_neg ho]
      have ho' : D.off = false := by cases hq : D.off; rfl; exact absurd hq ho
      by_cases hc : D.waits = true ∧ D.left < (rcT s.data.toList).length
      · rw [if_pos hc]
        refine Calls.mono (write_cut lo W' bb D (bs (rcT s.data.toList)) (g.step hk.1).off (h.step hb) ho' (hd.torn ho') hc.1 (by omega) (hd.left hc.1).1 (by omega) (by omega)) ?_
        rintro r w' ⟨⟨a, rfl⟩, q1, q2⟩
        rw [bs_data] at q1
        exact ⟨_, rfl, ⟨a, rfl⟩, q1, hk.then q2⟩
      · rw [if_neg hc]
        refine Calls.mono (write_more lo W' bb D (bs (rcT s.data.toList)) (h.step hb) ho' (hd.torn ho') (fun q => ⟨by
          apply Classical.byContradiction
          intro z
          exact hc ⟨q, by omega⟩, (hd.left q).2⟩) (by omega) (by omega)) ?_
        rintro r w' ⟨rfl, q1, q2⟩
        rw [bs_data] at q1
        exact ⟨_, rfl, rfl, q1, hk.then q2⟩
  have hs' : (s.size : Int) ≤ 10000 := by omega
  clear h hd g hlo hsz hr1 hr2 hlen hrz
  generalize bs (rcT s.data.toList) = rc at T R WR
  generalize D.app s.data.toList = q at WR ⊢
  go_enter Tryd.func8, Tryd.ntmps8
  go_wp2_with (first
    | (go_at_call 14; refine Calls.mono T.out ?_; rintro r w1 ⟨rfl, hb1⟩)
    | (go_at_call 15; refine Calls.mono (R.out _ hb1) ?_; rintro r w2 ⟨rfl, rfl⟩)
    | (go_at_call 16; refine Calls.mono (WR.out _ hb1) ?_; rintro r w3 ⟨v, rfl, hv⟩))
  go_ret
  exact ⟨v, rfl, hv⟩

/-- the disk behind Recover -/
noncomputable def DK.back (D : DK) : DK := { D with B := D.B.take (D.B.length - (rdT D.B).2.length), torn := 0, off := false, waits := false }

set_option maxHeartbeats 1000000 in
theorem recover_any (lo : Nat) (W : World) (bb : Nat) (D : DK) (g : GlobL lo W) (h : DkAt lo W bb D) (hl : D.B.length ≤ 2000000) :
    Calls Tryd.prog 9 #[.pointer (some ⟨bb, 0, none⟩)] W fun r w' => ∃ v, r = .returned (.tuple #[v, .nilIface]) ∧ TxR lo w' v (rdT D.B).1 ∧ DkAt lo w' bb D.back ∧ TKeep lo W w' := by
  have ON : Hid (Calls _ _ _ _ _) := dkOn_any lo W bb D h
  have BY : Hid (∀ W', DkAt lo W' bb { D with off := false, waits := false } → Calls Tryd.prog 13 #[.pointer (some ⟨bb, 0, none⟩)] W' fun r w' => r = .returned (.string (bs D.B)) ∧ w' = W') := fun W' h' => dkBytes_any lo W' bb { D with off := false, waits := false } h'
  have RD : Hid (∀ W', TKeep lo W W' → Calls Tryd.prog 12 #[.string (bs D.B)] W' fun r w' => ∃ v, r = .returned (.tuple #[v, .int .i64 ((D.B.length : Int) - ((rdT D.B).2.length : Int))]) ∧ TxR W'.heap.size w' v (rdT D.B).1 ∧ Below W'.heap.size W' w') := fun W' hk => tpRead_any D.B W' (g.step hk.1).at.q hl
  have hle := rdT_len D.B
  have KP : Hid (∀ W', DkAt lo W' bb { D with off := false, waits := false } → Calls Tryd.prog 18 #[.pointer (some ⟨bb, 0, none⟩), .int .i64 ((D.B.length : Int) - ((rdT D.B).2.length : Int))] W' fun r w' => r = .returned (.tuple #[]) ∧ DkAt lo w' bb D.back ∧ TKeep lo W' w') := fun W' h' => by
    have := dkKeep_any lo W' bb { D with off := false, waits := false } (D.B.length - (rdT D.B).2.length) h' (by dsimp only; omega)
    rw [show (((D.B.length - (rdT D.B).2.length : Nat)) : Int) = (D.B.length : Int) - ((rdT D.B).2.length : Int) by omega] at this
    exact this
  clear h g hl hle
  generalize ((D.B.length : Int) - ((rdT D.B).2.length : Int)) = n at RD KP
  generalize bs D.B = sb at BY RD
  go_enter Tryd.func9, Tryd.ntmps9
  go_wp2_with (first
    | (go_at_call 17; refine Calls.mono ON.out ?_; rintro r w1 ⟨rfl, hd1, hk1⟩)
    | (go_at_call 13; refine Calls.mono (BY.out _ hd1) ?_; rintro r w2 ⟨rfl, rfl⟩)
    | (go_at_call 12; refine Calls.mono (RD.out _ hk1) ?_; rintro r w3 ⟨v, rfl, ht3, hb3⟩)
    | (go_at_call 18; refine Calls.mono (KP.out _ (DkAt.step hd1 hb3)) ?_; rintro r w4 ⟨rfl, hd4, hk4⟩))
  go_ret2
  exact ⟨v, rfl, TxR.keep (World.ownsRow.mono ht3 hd1.2.1) hk4, hd4, (hk1.then (TKeep.below hb3 hd1.2.1)).then hk4⟩
end Go.Proofs.YtcaeafgkogfgdaaDoor
