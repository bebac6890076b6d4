/- The iterator of strings.SplitSeq at a separator of one sign: it gives a text's pieces, one by one; between two rounds it writes its own variable. -/
import Derived.Test.YtfnajhpcbajhfaaGreatDoorRF
import Derived.Test.YtfnajhpcbajhfaaGreatDoorRuleM2
import Derived.Test.YtfnajhpcbajhfaaGreatDoorShelf2
import Derived.Shelf.Abstract
import Derived.Shelf.RegionOpen
import Derived.WalkKit
import Derived.OwnWalkIn
import Derived.TacticsInMore
import Derived.LoopNIn
import Derived.LoopIn
namespace Go.Proofs.YtfnajhpcbajhfaaGreatDoor
open Go Go.RowKit Go.Shelf Cal
attribute [local go_sem] Oper.semAt_some

theorem ba_ext {a b : ByteArray} (h : a.data.toList = b.data.toList) : a = b := by
  obtain ⟨⟨x⟩⟩ := a
  obtain ⟨⟨y⟩⟩ := b
  have : x = y := h
  subst this
  rfl

/-- what is left of the text, read off the world -/
def leftOf (W : World) (B : Nat) : Nat := match W.cell? ⟨B, 0, none⟩ with
  | some (.string s) => s.size + 1
  | _ => 0

/-- the iterator's three variables -/
structure Its (W : World) (Bs Bp Bv : Nat) (s : ByteArray) (c : UInt8) : Prop where
  s : Boxed W Bs 9 (.string s)
  p : Boxed W Bp 9 (.string ⟨#[c]⟩)
  v : Boxed W Bv 3 (.int .i64 0)

theorem leftOf_eq {W : World} {B : Nat} {s : ByteArray} {t : TypeId} (h : Boxed W B t (.string s)) : leftOf W B = s.size + 1 := by
  unfold leftOf; rw [h.cell]

set_option maxHeartbeats 1000000 in
theorem split_iter (n l Bs Bp Bv : Nat) (c : UInt8) (ws : List (List UInt8)) (J Jx : Nat → World → Prop) (hn : 6 ≤ n) (hne1 : Bs ≠ Bp) (hne2 : Bs ≠ Bv)
    (hJs : ∀ k W v, J k W → J k (W.setCell ⟨Bs, 0, none⟩ v))
    (hY : ∀ (k : Nat) (hk : k < ws.length) (W : World), J k W → YieldAt Fence.wide (n - 1) Tryz.prog l #[.string ⟨ws[k].toArray⟩] W fun e W' =>
      (e = .returned (.bool true) ∧ J (k + 1) W' ∧ W'.heap[Bs]? = W.heap[Bs]? ∧ W'.heap[Bp]? = W.heap[Bp]? ∧ W'.heap[Bv]? = W.heap[Bv]?) ∨ (e = .returned (.bool false) ∧ Jx (k + 1) W'))
    (W : World) (s : ByteArray) (hsz : s.size ≤ 1000000) (hs : pieces c s.data.toList = ws) (hB : Its W Bs Bp Bv s c) (h0 : J 0 W) :
    CallsIn Fence.wide n Tryz.prog 34 #[.func (.yield l) #[] #[], .pointer (some ⟨Bp, 0, none⟩), .pointer (some ⟨Bs, 0, none⟩), .pointer (some ⟨Bv, 0, none⟩)] W fun e W' =>
      (∃ v, e = .returned v) ∧ (J ws.length W' ∨ ∃ k, Jx k W') := by
  have h1 : 1 ≤ n := by omega
  obtain ⟨b1, b2, b3⟩ := hB
  have c1 := b1.cell
  have c2 := b2.cell
  have c3 := b3.cell
  refine callsIn_of_wp Tryz.func34 rfl trivial ?_ rfl
  simp only [Tryz.ntmps34, List.size_toArray, List.length_cons, List.length_nil, Nat.reduceAdd, Nat.reduceSub, Array.replicate_succ, Array.replicate_zero, List.push_toArray, List.append_toArray, List.nil_append, List.cons_append]
  gi_wp2
  have HY : Hid (_) := hY
  have HJ : Hid (_) := hJs
  clear hY hJs c1 c2 c3
  gi_loopw [7, 8] (fun i fr wr => ∃ (k : Nat) (sk : ByteArray), J k wr ∧ Its wr Bs Bp Bv sk c ∧ pieces c sk.data.toList = ws.drop k ∧ sk.size ≤ s.size) (fun _ _ wr => leftOf wr Bs)
  case atStart => exact ⟨0, s, h0, ⟨b1, b2, b3⟩, hs, Nat.le_refl _⟩
  case round =>
    obtain ⟨k, sk, hJk, hI, hp, hss⟩ := hrel
    obtain ⟨d1, d2, d3⟩ := hI
    have e1 := d1.cell
    have e2 := d2.cell
    have e3 := d3.cell
    have f1 := d1.frozen
    by_cases hx : Lib.indexByte sk.data.toList c = -1
    · have hp1 := hp
      rw [pieces_none hx] at hp1
      have hk : k < ws.length := by
        rcases Nat.lt_or_ge k ws.length with h | h
        · exact h
        · rw [List.drop_eq_nil_of_le h] at hp1; cases hp1
      have hw : ws[k] = sk.data.toList ∧ k + 1 = ws.length := by
        rw [List.drop_eq_getElem_cons hk] at hp1
        injection hp1 with q1 q2
        refine ⟨q1.symm, ?_⟩
        have := congrArg List.length q2
        simp at this
        omega
      have ew : (⟨ws[k].toArray⟩ : ByteArray) = sk := by rw [hw.1]
      have hYk := HY.out k hk wr hJk
      rw [ew] at hYk
      obtain ⟨fn, tmps, assign, body, hy, hR⟩ := hYk
      have ix := Tryz.strings_Index_one sk c wr
      rw [hx] at ix
      have IX : Hid (Calls Tryz.prog 36 #[.string sk, .string ⟨#[c]⟩] wr fun e w' => e = .returned (.int .i64 (-1)) ∧ w' = wr) := ix
      have HK : Hid (k + 1 = ws.length) := hw.2
      clear ix hx hp1 hp hw ew hk
      gi_wp2_with (refine ⟨trivial, ?_⟩; gi_at_call 36; refine (callsIn_wide.2 (IX.out)).mono ?_; rintro e w' ⟨rfl, rfl⟩)
      refine hR.mono ?_
      rintro e W3 (⟨rfl, hJ3, _⟩ | ⟨rfl, hJx3⟩)
      · gi_wp2
        go_end0
        exact ⟨⟨_, rfl⟩, .inl (by rw [← HK.out]; exact hJ3)⟩
      · gi_wp2
        go_end0
        exact ⟨⟨_, rfl⟩, .inr ⟨_, hJx3⟩⟩
    · obtain ⟨i, hi⟩ : ∃ i : Nat, Lib.indexByte sk.data.toList c = i := ⟨(Lib.indexByte sk.data.toList c).toNat, by have := Lib.indexByte_ge sk.data.toList c; omega⟩
      have hil : i < sk.size := by
        obtain ⟨hh, _⟩ := Lib.indexByte_some hi
        have := (List.getElem?_eq_some_iff.1 hh).1
        rw [Lib.size_eq]; exact this
      have hp1 := hp
      rw [pieces_found hi] at hp1
      have hk : k < ws.length := by
        rcases Nat.lt_or_ge k ws.length with h | h
        · exact h
        · rw [List.drop_eq_nil_of_le h] at hp1; cases hp1
      have hw : ws[k] = sk.data.toList.take i ∧ pieces c (sk.data.toList.drop (i + 1)) = ws.drop (k + 1) := by
        rw [List.drop_eq_getElem_cons hk] at hp1
        injection hp1 with q1 q2
        exact ⟨q1.symm, q2⟩
      have ew : (⟨ws[k].toArray⟩ : ByteArray) = sk.extract 0 i := by
        rw [hw.1]
        apply ba_ext
        rw [Lib.extract_data]; simp
      have ex : (sk.extract (i + 1) sk.size).data.toList = sk.data.toList.drop (i + 1) := Lib.extract_to_end sk (i + 1)
      have hYk := HY.out k hk wr hJk
      rw [ew] at hYk
      obtain ⟨fn, tmps, assign, body, hy, hR⟩ := hYk
      have ix := Tryz.strings_Index_one sk c wr
      rw [hi] at ix
      have IX : Hid (Calls Tryz.prog 36 #[.string sk, .string ⟨#[c]⟩] wr fun e w' => e = .returned (.int .i64 i) ∧ w' = wr) := ix
      have HP : Hid (pieces c (sk.extract (i + 1) sk.size).data.toList = ws.drop (k + 1)) := by rw [ex]; exact hw.2
      have HE : Hid (_) := ex
      have hskz : sk.size ≤ 1000000 := by omega
      clear ix hx hp1 hp hw ew hk hi ex
      gi_wp2_with (refine ⟨trivial, ?_⟩; gi_at_call 36; refine (callsIn_wide.2 (IX.out)).mono ?_; rintro e w' ⟨rfl, rfl⟩)
      refine hR.mono ?_
      rintro e W3 (⟨rfl, hJ3, g1, g2, g3⟩ | ⟨rfl, hJx3⟩)
      · have d1' : Boxed W3 Bs 9 (.string sk) := g1.trans d1
        have d2' : Boxed W3 Bp 9 (.string ⟨#[c]⟩) := g2.trans d2
        have d3' : Boxed W3 Bv 3 (.int .i64 0) := g3.trans d3
        have e1' := d1'.cell
        have e2' := d2'.cell
        have f1' := d1'.frozen
        have HG : Hid (J (k + 1) W3) := hJ3
        clear g1 g2 g3 hJ3
        gi_wp2
        go_roundw
        case rel =>
          refine ⟨k + 1, sk.extract (i + 1) sk.size, HJ.out _ _ _ HG.out, ⟨d1'.set _, d2'.other (Ne.symm hne1) _, d3'.other (Ne.symm hne2) _⟩, HP.out, ?_⟩
          have := congrArg List.length HE.out
          rw [List.length_drop, ← Lib.size_eq, ← Lib.size_eq] at this
          omega
        case measure =>
          rw [leftOf_eq (d1'.set _), leftOf_eq d1]
          have := congrArg List.length HE.out
          rw [List.length_drop, ← Lib.size_eq, ← Lib.size_eq] at this
          omega
      · gi_wp2
        refine bodyPost_ret (results_none rfl _ _ _) rfl ?_
        exact ⟨⟨_, rfl⟩, .inr ⟨_, hJx3⟩⟩
end Go.Proofs.YtfnajhpcbajhfaaGreatDoor
