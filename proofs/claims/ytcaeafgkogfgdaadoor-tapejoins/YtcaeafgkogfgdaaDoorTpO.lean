/- Package sized: Text and Cut, of any text and end. (by wip/gen/mkTpO.py, out of PkO) -/
import Derived.Test.YtcaeafgkogfgdaaDoorTpN
import Derived.Test.YtcaeafgkogfgdaaDoorTpM
namespace Go.Proofs.YtcaeafgkogfgdaaDoor
open Go Go.RowKit Go.Maps Cal Pk
attribute [local go_sem] Oper.semAt_some

theorem pcut_ctT (l : List UInt8) (c : UInt8) (w : World) (hl : l.length ≤ 2000000) :
    Calls Tryd.prog 21 #[.string (bs l), .string ⟨#[c]⟩] w fun r w' => ((ct c l = none ∧ r = .returned (.tuple #[.string (bs l), .string ⟨#[]⟩, .bool false])) ∨ ∃ h t, ct c l = some (h, t) ∧ r = .returned (.tuple #[.string (bs h), .string (bs t), .bool true])) ∧ Below w.heap.size w w' := by
  have hsz : (bs l).size = l.length := by rw [Lib.size_eq, bs_data]
  rcases ct_idx c l with ⟨h1, h2⟩ | ⟨i, h1, _, h3⟩
  · refine Calls.mono (pcut_no (bs l) c w (by rw [bs_data, h1]; decide)) ?_
    rintro r w' ⟨q, hb⟩
    exact ⟨.inl ⟨h2, q⟩, hb⟩
  · refine Calls.mono (pcut_yes (bs l) c i w (by rw [bs_data, h1]) (by omega)) ?_
    rintro r w' ⟨q, hb⟩
    rw [bs_data] at q
    exact ⟨.inr ⟨_, _, h3, q⟩, hb⟩

theorem readAny_qT (l : List UInt8) (w : World) (g : GlobQ w) (hl : l.length ≤ 2000000) :
    Calls Tryd.prog 22 #[.string (bs l)] w fun r w' => r = .returned (raQ (numA l)) ∧ Below w.heap.size w w' := by
  have := readAny_q (bs l) w g (by rw [Lib.size_eq, bs_data]; exact hl)
  rw [bs_data] at this
  exact this
/-- what Cut answers -/
def szR (q : Option (List UInt8 × List UInt8)) : Ending := match q with
  | none => .returned (.tuple #[.string ⟨#[]⟩, .string ⟨#[]⟩, .bool false])
  | some p => .returned (.tuple #[.string (bs p.1), .string (bs p.2), .bool true])

set_option maxHeartbeats 1000000 in
theorem szCut_any (l en : List UInt8) (w : World) (g : GlobQ w) (hl : l.length ≤ 2000000) :
    Calls Tryd.prog 19 #[.string (bs l), .string (bs en)] w fun r w' => r = szR (cutE en l) ∧ Below w.heap.size w w' := by
  cases hc : ct 58 l with
  | none =>
    have hk : cutE en l = none := by unfold cutE; rw [hc]
    have C : Hid (Calls Tryd.prog 21 #[.string (bs l), .string ⟨#[58]⟩] w fun r w' => r = .returned (.tuple #[.string (bs l), .string ⟨#[]⟩, .bool false]) ∧ Below w.heap.size w w') := by
      refine Calls.mono (pcut_ctT l 58 w hl) ?_
      rintro r w' ⟨⟨_, q⟩ | ⟨h, t, q, _⟩, hb⟩
      · exact ⟨q, hb⟩
      · rw [hc] at q; cases q
    have N : Hid (∀ W, Below w.heap.size w W → Calls Tryd.prog 22 #[.string (bs l)] W fun r w' => (∃ n b, r = .returned (.tuple #[.int .i64 n, .bool b])) ∧ Below W.heap.size W w') := fun W hW => by
      refine Calls.mono (readAny_qT l W (g.step hW) hl) ?_
      rintro r w' ⟨q, hb⟩
      exact ⟨⟨_, _, q⟩, hb⟩
    rw [hk]
    clear hc g hl hk
    generalize bs l = s at C N ⊢
    generalize bs en = es
    go_enter Tryd.func19, Tryd.ntmps19
    go_wp2_with (first
      | (go_at_call 21; refine Calls.mono C.out ?_; rintro r w1 ⟨rfl, hb1⟩)
      | (go_at_call 22; refine Calls.mono (N.out _ hb1) ?_; rintro r w2 ⟨⟨n, b, rfl⟩, hb2⟩))
    go_ret3
    exact ⟨rfl, below_then hb1 hb2⟩
  | some p =>
    obtain ⟨hd, rl⟩ := p
    have hle := congrArg List.length (ct_some hc).1
    rw [List.length_append, List.length_cons] at hle
    have C : Hid (Calls Tryd.prog 21 #[.string (bs l), .string ⟨#[58]⟩] w fun r w' => r = .returned (.tuple #[.string (bs hd), .string (bs rl), .bool true]) ∧ Below w.heap.size w w') := by
      refine Calls.mono (pcut_ctT l 58 w hl) ?_
      rintro r w' ⟨⟨q, _⟩ | ⟨h, t, q, q2⟩, hb⟩
      · rw [hc] at q; cases q
      · rw [hc] at q; cases q; exact ⟨q2, hb⟩
    have N : Hid (∀ W, Below w.heap.size w W → _) := fun W hW => readAny_qT hd W (g.step hW) (by omega)
    have hrs : (bs rl).size = rl.length := by rw [Lib.size_eq, bs_data]
    have hk : cutE en l = match numA hd with
      | none => none
      | some n => if (rl.length : Int) < n then none else if Lib.hasPrefix (rl.drop n.toNat) en then some (rl.take n.toNat, (rl.drop n.toNat).drop en.length) else none := by
      unfold cutE; rw [hc]; rfl
    have hrl : rl.length ≤ 2000000 := by omega
    clear hc g hl hle
    cases hn : numA hd with
    | none =>
      rw [hn] at hk N
      dsimp only at hk
      have N1 : Hid (∀ W, Below w.heap.size w W → Calls Tryd.prog 22 #[.string (bs hd)] W fun r w' => r = .returned (.tuple #[.int .i64 0, .bool false]) ∧ Below W.heap.size W w') := N
      rw [hk]
      clear hk N hn
      generalize bs l = s at C ⊢
      generalize bs hd = hb0 at C N1
      generalize bs rl = rb at C hrs
      generalize bs en = es
      go_enter Tryd.func19, Tryd.ntmps19
      go_wp2_with (first
        | (go_at_call 21; refine Calls.mono C.out ?_; rintro r w1 ⟨rfl, hb1⟩)
        | (go_at_call 22; refine Calls.mono (N1.out _ hb1) ?_; rintro r w2 ⟨rfl, hb2⟩))
      go_ret3
      exact ⟨rfl, below_then hb1 hb2⟩
    | some n =>
      have hn0 := (numA_bd hn).1
      have hn1 := (numA_bd hn).2
      rw [hn] at hk N
      dsimp only at hk
      have N1 : Hid (∀ W, Below w.heap.size w W → Calls Tryd.prog 22 #[.string (bs hd)] W fun r w' => r = .returned (.tuple #[.int .i64 n, .bool true]) ∧ Below W.heap.size W w') := N
      clear N hn
      generalize bs hd = hb0 at C N1
      by_cases h2 : (rl.length : Int) < n
      · rw [if_pos h2] at hk
        rw [hk]
        have h2' : ((bs rl).size : Int) < n := by omega
        clear hk h2 hrl
        generalize bs l = s at C ⊢
        generalize bs rl = rb at C hrs h2'
        generalize bs en = es
        go_enter Tryd.func19, Tryd.ntmps19
        go_wp2_with (first
          | (go_at_call 21; refine Calls.mono C.out ?_; rintro r w1 ⟨rfl, hb1⟩)
          | (go_at_call 22; refine Calls.mono (N1.out _ hb1) ?_; rintro r w2 ⟨rfl, hb2⟩))
        go_ret3
        exact ⟨rfl, below_then hb1 hb2⟩
      · rw [if_neg h2] at hk
        obtain ⟨m, rfl⟩ : ∃ m : Nat, n = m := ⟨n.toNat, by omega⟩
        rw [Int.toNat_natCast] at hk
        have h2' : (m : Int) ≤ ((bs rl).size : Int) := by omega
        have e1 : (bs rl).extract 0 m = bs (rl.take m) := pl_ext (by rw [Lib.extract_from_zero, bs_data, bs_data])
        have e2 : (bs rl).extract m (bs rl).size = bs (rl.drop m) := pl_ext (by rw [Lib.extract_to_end, bs_data, bs_data])
        have CP0 : ∀ W, Calls Tryd.prog 23 #[.string (bs (rl.drop m)), .string (bs en)] W fun r w' => r = .returned (.tuple #[.string (bs (Lib.trimPrefix (rl.drop m) en)), .bool (Lib.hasPrefix (rl.drop m) en)]) ∧ w' = W := fun W => by
          have := Tryd.strings_CutPrefix (bs (rl.drop m)) (bs en) W
          rw [bs_data, bs_data] at this
          exact this
        rw [hk]
        cases hp : Lib.hasPrefix (rl.drop m) en with
        | true =>
          rw [if_pos rfl]
          have ht : Lib.trimPrefix (rl.drop m) en = (rl.drop m).drop en.length := by unfold Lib.trimPrefix; rw [if_pos hp]
          rw [hp, ht] at CP0
          rw [← e2] at CP0
          have CP : Hid (∀ W, Calls Tryd.prog 23 #[.string ((bs rl).extract m (bs rl).size), .string (bs en)] W fun r w' => r = .returned (.tuple #[.string (bs ((rl.drop m).drop en.length)), .bool true]) ∧ w' = W) := CP0
          have E1 : Hid ((bs rl).extract 0 m = bs (rl.take m)) := e1
          clear hk h2 e2 hp ht CP0 hrs e1
          show Calls _ _ _ _ (fun r w' => r = .returned (.tuple #[.string (bs (rl.take m)), .string (bs ((rl.drop m).drop en.length)), .bool true]) ∧ _)
          generalize bs ((rl.drop m).drop en.length) = t2 at CP ⊢
          generalize bs (rl.take m) = t1 at E1 ⊢
          generalize bs l = s at C ⊢
          generalize bs rl = rb at C h2' CP E1
          generalize bs en = es at CP ⊢
          go_enter Tryd.func19, Tryd.ntmps19
          go_wp2_with (first
            | (go_at_call 21; refine Calls.mono C.out ?_; rintro r w1 ⟨rfl, hb1⟩)
            | (go_at_call 22; refine Calls.mono (N1.out _ hb1) ?_; rintro r w2 ⟨rfl, hb2⟩)
            | (go_at_call 23; refine Calls.mono (CP.out _) ?_; rintro r w3 ⟨rfl, rfl⟩))
          go_ret3
          exact ⟨by rw [E1.out]; rfl, below_then hb1 hb2⟩
        | false =>
          rw [if_neg (by decide)]
          rw [hp] at CP0
          rw [← e2] at CP0
          have CP : Hid (∀ W, Calls Tryd.prog 23 #[.string ((bs rl).extract m (bs rl).size), .string (bs en)] W fun r w' => r = .returned (.tuple #[.string (bs (Lib.trimPrefix (rl.drop m) en)), .bool false]) ∧ w' = W) := CP0
          clear hk h2 e2 hp CP0 hrs e1
          generalize bs (Lib.trimPrefix (rl.drop m) en) = t2 at CP
          generalize bs l = s at C ⊢
          generalize bs rl = rb at C h2' CP
          generalize bs en = es at CP ⊢
          go_enter Tryd.func19, Tryd.ntmps19
          go_wp2_with (first
            | (go_at_call 21; refine Calls.mono C.out ?_; rintro r w1 ⟨rfl, hb1⟩)
            | (go_at_call 22; refine Calls.mono (N1.out _ hb1) ?_; rintro r w2 ⟨rfl, hb2⟩)
            | (go_at_call 23; refine Calls.mono (CP.out _) ?_; rintro r w3 ⟨rfl, rfl⟩))
          go_ret3
          exact ⟨rfl, below_then hb1 hb2⟩

theorem szText_any (s : ByteArray) (en : List UInt8) (w : World) (ht : Tab w) (hs : s.size ≤ 999999) (he : en.length ≤ 100) :
    Calls Tryd.prog 14 #[.string s, .string (bs en)] w fun r w' => r = .returned (.string (bs (szE s.data.toList en))) ∧ Below w.heap.size w w' := by
  have hsz : s.data.toList.length = s.size := (Lib.size_eq s).symm
  have I : Hid (Calls Tryd.prog 20 #[.int .i64 s.size] w fun e w' => e = .returned (.string (bs (Lib.itoa s.size))) ∧ Below w.heap.size w w') := itoa_all s.size w (by omega) (by omega) ht
  have hil : (bs (Lib.itoa s.size)).size ≤ 10 := by
    rw [Lib.size_eq, bs_data]
    have := itoa_len (s.size : Int) (by omega) (by omega)
    omega
  have hes : (bs en).size ≤ 100 := by rw [Lib.size_eq, bs_data]; exact he
  have k1 : ¬ 9223372036854775807 < (bs (Lib.itoa s.size)).size + 1 := by omega
  have k2 : ¬ 9223372036854775807 < (bs (Lib.itoa s.size)).size + 1 + s.size := by omega
  have k3 : ¬ 9223372036854775807 < (bs (Lib.itoa s.size)).size + 1 + s.size + (bs en).size := by omega
  have e : bs (Lib.itoa s.size) ++ ⟨#[58]⟩ ++ s ++ bs en = bs (szE s.data.toList en) := pl_ext (by unfold szE; rw [hsz]; simp [bs])
  rw [← e]
  clear e hsz ht hs he hil hes
  generalize bs (Lib.itoa s.size) = si at I k1 k2 k3 ⊢
  generalize bs en = es at k3 ⊢
  go_enter Tryd.func14, Tryd.ntmps14
  go_wp2_with (go_at_call 20; refine Calls.mono I.out ?_; rintro r w1 ⟨rfl, hb1⟩)
  go_ret
  exact ⟨rfl, hb1⟩
end Go.Proofs.YtcaeafgkogfgdaaDoor
