/- The law PackJoins: two deltas of one text, one behind the other, make what they make, joined. -/
import Derived.Test.YtbocknocmggcpaaDoorPkP
namespace Go.Proofs.YtbocknocmggcpaaDoor
open Go Go.RowKit Go.Maps Cal Pk
attribute [local go_sem] Oper.semAt_some

theorem ap_closed : apK [104, 101, 108, 108, 111] [99, 49, 44, 51, 59, 105, 50, 58, 97, 98, 59] = (0, [101, 108, 108, 97, 98]) := by decide

theorem packed_any (sn : Nat → Addr) (w : World) (g : GlobA sn w) : Calls Tryd.prog 4 #[] w fun r w' => r = .returned (.bool true) ∧ Below w.heap.size w w' := by
  have A : Hid (Calls Tryd.prog 5 #[.string ⟨#[104, 101, 108, 108, 111]⟩, .string ⟨#[99, 49, 44, 51, 59, 105, 50, 58, 97, 98, 59]⟩] w fun r w' => r = .returned (.tuple #[.string ⟨#[101, 108, 108, 97, 98]⟩, .nilIface]) ∧ Below w.heap.size w w') := by
    have := apply_any [104, 101, 108, 108, 111] [99, 49, 44, 51, 59, 105, 50, 58, 97, 98, 59] sn w g (by simp) (by simp)
    rw [ap_closed] at this
    exact this
  clear g
  go_enter Tryd.func4, Tryd.ntmps4
  go_wp2_with (go_at_call 5; refine Calls.mono A.out ?_; rintro r w1 ⟨rfl, hb1⟩)
  go_ret
  exact ⟨rfl, hb1⟩

set_option maxHeartbeats 2000000 in
set_option maxRecDepth 100000 in
theorem packJoins_all (a d e : ByteArray) (sn : Nat → Addr) (w : World) (g : GlobA sn w) :
    Calls Tryd.prog 3 #[.string a, .string d, .string e] w fun r w' => r = .returned (.bool true) ∧ Below w.heap.size w w' := by
  have PK : Hid (Calls _ _ _ _ _) := packed_any sn w g
  by_cases hs : a.size ≤ 500 ∧ d.size ≤ 500 ∧ e.size ≤ 500
  · obtain ⟨h1, h2, h3⟩ := hs
    have h1' : (a.size : Int) ≤ 500 := by omega
    have h2' : (d.size : Int) ≤ 500 := by omega
    have h3' : (e.size : Int) ≤ 500 := by omega
    have ea : bs a.data.toList = a := pl_ext (by rw [bs_data])
    have ed : bs d.data.toList = d := pl_ext (by rw [bs_data])
    have ee : bs e.data.toList = e := pl_ext (by rw [bs_data])
    have ej : bs (d.data.toList ++ e.data.toList) = d ++ e := pl_ext (by rw [bs_data]; simp)
    have la : a.data.toList.length = a.size := (Lib.size_eq a).symm
    have ld : d.data.toList.length = d.size := (Lib.size_eq d).symm
    have le : e.data.toList.length = e.size := (Lib.size_eq e).symm
    have A1 : Hid (∀ W, Below w.heap.size w W → Calls Tryd.prog 5 #[.string a, .string d] W fun r w' => r = .returned (.tuple #[.string (bs (apK a.data.toList d.data.toList).2), apE sn (apK a.data.toList d.data.toList).1]) ∧ Below W.heap.size W w') := fun W hW => by
      have := apply_any a.data.toList d.data.toList sn W (g.step hW) (by omega) (by omega)
      rw [ea, ed] at this
      exact this
    have A2 : Hid (∀ W, Below w.heap.size w W → Calls Tryd.prog 5 #[.string a, .string e] W fun r w' => r = .returned (.tuple #[.string (bs (apK a.data.toList e.data.toList).2), apE sn (apK a.data.toList e.data.toList).1]) ∧ Below W.heap.size W w') := fun W hW => by
      have := apply_any a.data.toList e.data.toList sn W (g.step hW) (by omega) (by omega)
      rw [ea, ee] at this
      exact this
    have A3 : Hid (∀ W, Below w.heap.size w W → Calls Tryd.prog 5 #[.string a, .string (d ++ e)] W fun r w' => r = .returned (.tuple #[.string (bs (apK a.data.toList (d.data.toList ++ e.data.toList)).2), apE sn (apK a.data.toList (d.data.toList ++ e.data.toList)).1]) ∧ Below W.heap.size W w') := fun W hW => by
      have := apply_any a.data.toList (d.data.toList ++ e.data.toList) sn W (g.step hW) (by omega) (by rw [List.length_append]; omega)
      rw [ea, ej] at this
      exact this
    have hcat : ¬ 9223372036854775807 < d.size + e.size := by omega
    have JN : ∀ x y, apK a.data.toList d.data.toList = (0, x) → apK a.data.toList e.data.toList = (0, y) → _ := fun x y q1 q2 => apK_join q1 q2
    obtain ⟨⟨k1, x⟩, q1⟩ : ∃ q, apK a.data.toList d.data.toList = q := ⟨_, rfl⟩
    obtain ⟨⟨k2, y⟩, q2⟩ : ∃ q, apK a.data.toList e.data.toList = q := ⟨_, rfl⟩
    obtain ⟨⟨k3, z⟩, q3⟩ : ∃ q, apK a.data.toList (d.data.toList ++ e.data.toList) = q := ⟨_, rfl⟩
    have J2 := JN x y
    have E1 : k1 ≠ 0 → x = [] := fun q => (apK_err q1 q).1
    have B1 : k1 = 0 → x.length ≤ 10000 := fun q => by subst q; exact (apK_ok q1).choose_spec.2.2
    have B2 : k2 = 0 → y.length ≤ 10000 := fun q => by subst q; exact (apK_ok q2).choose_spec.2.2
    rw [q1] at A1 J2
    rw [q2] at A2 J2
    rw [q3] at A3 J2
    dsimp only at A1 A2 A3
    clear JN q1 q2 q3 ea ed ee ej la ld le g
    unfold apE at A1 A2 A3
    have hde : bs (d.data.toList ++ e.data.toList) = d ++ e := pl_ext (by rw [bs_data]; simp)
    by_cases z1 : k1 = 0
    · subst z1
      rw [if_pos rfl] at A1
      by_cases z2 : k2 = 0
      · subst z2
        rw [if_pos rfl] at A2
        have hx : (bs x).size ≤ 10000 := by rw [Lib.size_eq, bs_data]; exact B1 rfl
        have hy : (bs y).size ≤ 10000 := by rw [Lib.size_eq, bs_data]; exact B2 rfl
        have lx : (bs x).size = x.length := by rw [Lib.size_eq, bs_data]
        have ly : (bs y).size = y.length := by rw [Lib.size_eq, bs_data]
        by_cases hf : x.length + y.length ≤ 10000
        · have hj := (J2 rfl rfl).1 hf
          cases hj
          rw [if_pos rfl] at A3
          have hcat2 : ¬ 9223372036854775807 < (bs x).size + (bs y).size := by omega
          have exy : bs (x ++ y) = bs x ++ bs y := pl_ext (by simp [bs_data])
          rw [exy] at A3
          clear J2 E1 B1 B2 exy lx ly hf hde
          generalize bs x = sx at A1 A3 hx hcat2
          generalize bs y = sy at A2 A3 hy hcat2
          go_enter Tryd.func3, Tryd.ntmps3
          go_upto_region 4 with (go_at_call 4; refine Calls.mono PK.out ?_; rintro r w1 ⟨rfl, hb1⟩)
          go_upto_region 5 with (go_at_call 5; refine Calls.mono (A1.out _ hb1) ?_; rintro r w2 ⟨rfl, hb2⟩)
          have hb2' := below_then hb1 hb2
          clear hb1 hb2 A1
          go_upto_region 6 with (go_at_call 5; refine Calls.mono (A2.out _ hb2') ?_; rintro r w3 ⟨rfl, hb3⟩)
          have hb3' := below_then hb2' hb3
          clear hb2' hb3 A2
          go_upto_region 7 with (go_at_call 5; refine Calls.mono (A3.out _ hb3') ?_; rintro r w4 ⟨rfl, hb4⟩)
          have hb4' := below_then hb3' hb4
          clear hb3' hb4 A3
          go_wp2
          go_ret
          exact ⟨by simp, hb4'⟩
        · have hj := (J2 rfl rfl).2 (by omega)
          cases hj
          rw [if_neg (by decide)] at A3
          have hf' : (10000 : Int) < ((bs x).size : Int) + ((bs y).size : Int) := by omega
          clear J2 E1 B1 B2 lx ly hf hde
          generalize bs x = sx at A1 hx hf'
          generalize bs y = sy at A2 hy hf'
          generalize sn (2 - 1) = ad3 at A3
          generalize bs [] = sz at A3
          go_enter Tryd.func3, Tryd.ntmps3
          go_upto_region 4 with (go_at_call 4; refine Calls.mono PK.out ?_; rintro r w1 ⟨rfl, hb1⟩)
          go_upto_region 5 with (go_at_call 5; refine Calls.mono (A1.out _ hb1) ?_; rintro r w2 ⟨rfl, hb2⟩)
          have hb2' := below_then hb1 hb2
          clear hb1 hb2 A1
          go_upto_region 6 with (go_at_call 5; refine Calls.mono (A2.out _ hb2') ?_; rintro r w3 ⟨rfl, hb3⟩)
          have hb3' := below_then hb2' hb3
          clear hb2' hb3 A2
          go_upto_region 7 with (go_at_call 5; refine Calls.mono (A3.out _ hb3') ?_; rintro r w4 ⟨rfl, hb4⟩)
          have hb4' := below_then hb3' hb4
          clear hb3' hb4 A3
          go_wp2
          go_ret
          exact ⟨by simp, hb4'⟩
      · rw [if_neg z2] at A2
        clear J2 E1 B1 B2 hde
        generalize bs x = sx at A1
        generalize bs y = sy at A2
        generalize sn (k2 - 1) = ad2 at A2
        have A3 : Hid (∀ W, Below w.heap.size w W → Calls Tryd.prog 5 #[.string a, .string (d ++ e)] W fun r w' => (∃ u v, r = .returned (.tuple #[.string u, v])) ∧ Below W.heap.size W w') := fun W hW => (A3.out W hW).mono fun r w' q => ⟨⟨_, _, q.1⟩, q.2⟩
        go_enter Tryd.func3, Tryd.ntmps3
        go_upto_region 4 with (go_at_call 4; refine Calls.mono PK.out ?_; rintro r w1 ⟨rfl, hb1⟩)
        go_upto_region 5 with (go_at_call 5; refine Calls.mono (A1.out _ hb1) ?_; rintro r w2 ⟨rfl, hb2⟩)
        have hb2' := below_then hb1 hb2
        clear hb1 hb2 A1
        go_upto_region 6 with (go_at_call 5; refine Calls.mono (A2.out _ hb2') ?_; rintro r w3 ⟨rfl, hb3⟩)
        have hb3' := below_then hb2' hb3
        clear hb2' hb3 A2
        go_upto_region 7 with (go_at_call 5; refine Calls.mono (A3.out _ hb3') ?_; rintro r w4 ⟨⟨u, v, rfl⟩, hb4⟩)
        have hb4' := below_then hb3' hb4
        clear hb3' hb4 A3
        go_wp2
        go_ret
        exact ⟨rfl, hb4'⟩
    · rw [if_neg z1] at A1
      have := E1 z1
      subst this
      rw [show bs [] = (⟨#[]⟩ : ByteArray) from rfl] at A1
      clear J2 E1 B1 B2 hde
      generalize sn (k1 - 1) = ad1 at A1
      have A2 : Hid (∀ W, Below w.heap.size w W → Calls Tryd.prog 5 #[.string a, .string e] W fun r w' => (∃ u v, r = .returned (.tuple #[.string u, v])) ∧ Below W.heap.size W w') := fun W hW => (A2.out W hW).mono fun r w' q => ⟨⟨_, _, q.1⟩, q.2⟩
      have A3 : Hid (∀ W, Below w.heap.size w W → Calls Tryd.prog 5 #[.string a, .string (d ++ e)] W fun r w' => (∃ u v, r = .returned (.tuple #[.string u, v])) ∧ Below W.heap.size W w') := fun W hW => (A3.out W hW).mono fun r w' q => ⟨⟨_, _, q.1⟩, q.2⟩
      go_enter Tryd.func3, Tryd.ntmps3
      go_upto_region 4 with (go_at_call 4; refine Calls.mono PK.out ?_; rintro r w1 ⟨rfl, hb1⟩)
      go_upto_region 5 with (go_at_call 5; refine Calls.mono (A1.out _ hb1) ?_; rintro r w2 ⟨rfl, hb2⟩)
      have hb2' := below_then hb1 hb2
      clear hb1 hb2 A1
      go_upto_region 6 with (go_at_call 5; refine Calls.mono (A2.out _ hb2') ?_; rintro r w3 ⟨⟨u3, v3, rfl⟩, hb3⟩)
      have hb3' := below_then hb2' hb3
      clear hb2' hb3 A2
      go_upto_region 7 with (go_at_call 5; refine Calls.mono (A3.out _ hb3') ?_; rintro r w4 ⟨⟨u, v, rfl⟩, hb4⟩)
      have hb4' := below_then hb3' hb4
      clear hb3' hb4 A3
      go_wp2
      go_ret
      exact ⟨rfl, hb4'⟩
  · have hs' : 500 < a.size ∨ (a.size ≤ 500 ∧ 500 < d.size) ∨ (a.size ≤ 500 ∧ d.size ≤ 500 ∧ 500 < e.size) := by omega
    have hs2 : (500 : Int) < (a.size : Int) ∨ ((a.size : Int) ≤ 500 ∧ (500 : Int) < (d.size : Int)) ∨ ((a.size : Int) ≤ 500 ∧ (d.size : Int) ≤ 500 ∧ (500 : Int) < (e.size : Int)) := by omega
    clear hs hs' g
    rcases hs2 with h | ⟨h, h2⟩ | ⟨h, h2, h3⟩
    all_goals
      go_enter Tryd.func3, Tryd.ntmps3
      go_wp2_with (go_at_call 4; refine Calls.mono PK.out ?_; rintro r w1 ⟨rfl, hb1⟩)
      go_ret
      exact ⟨rfl, hb1⟩
end Go.Proofs.YtbocknocmggcpaaDoor
