/- Package pool's cutText, of any text. -/
import Derived.Test.YtifbhedomcgonaaGreatDoorPlN
namespace Go.Proofs.YtifbhedomcgonaaGreatDoor
open Go Go.RowKit Go.Maps Cal
attribute [local go_sem] Oper.semAt_some

/-- the first text of a pool's text, and what stands behind its line end; ahead of them which error it is (0: none) -/
def cutK (l : List UInt8) : Nat × List UInt8 × List UInt8 :=
  if Lib.indexByte l 58 < 0 then (1, [], []) else
    match numOf (l.take (Lib.indexByte l 58).toNat) with
    | none => (1, [], [])
    | some n =>
      if 10000 < n then (2, [], []) else
        if ((l.drop ((Lib.indexByte l 58).toNat + 1)).length : Int) < n then (1, [], []) else
          if (l.drop ((Lib.indexByte l 58).toNat + 1))[n.toNat]? = some 10 then (0, (l.drop ((Lib.indexByte l 58).toNat + 1)).take n.toNat, (l.drop ((Lib.indexByte l 58).toNat + 1)).drop (n.toNat + 1)) else (1, [], [])
/-- its error -/
def cutE (s : Nat → Addr) (k : Nat) : Value := if k = 0 then .nilIface else perr s k

theorem has_one (l : List UInt8) (c : UInt8) : Lib.hasPrefix l [c] = true ↔ l[0]? = some c := by
  unfold Lib.hasPrefix
  cases l with
  | nil => simp
  | cons a r =>
    show (c == a && true) = true ↔ some a = some c
    rw [Bool.and_true, beq_iff_eq, Option.some.injEq]
    exact eq_comm

set_option maxHeartbeats 1000000 in
theorem cutText_any (s : ByteArray) (sn : Nat → Addr) (w : World) (g : GlobP sn w) (gn : GlobN w) (hl : s.size ≤ 2000000) :
    Calls Tryz.prog 28 #[.string s] w fun r w' => r = .returned (.tuple #[.string (bs (cutK s.data.toList).2.1), .string (bs (cutK s.data.toList).2.2), cutE sn (cutK s.data.toList).1]) ∧ Below w.heap.size w w' := by
  have hT := g.text
  have hB := g.bound
  by_cases hi : Lib.indexByte s.data.toList 58 < 0
  · have hk : cutK s.data.toList = (1, [], []) := by unfold cutK; rw [if_pos hi]
    rw [hk]
    have C : Hid (Calls _ _ _ _ _) := pcut_no s 58 w hi
    have HT : Hid (∀ W, Below w.heap.size w W → W.cell? ⟨3, 0, none⟩ = some (.iface 151 (.pointer (some (sn 0))))) := fun W hW => cell_step hT hW
    clear hk hi g gn hT hB
    go_enter Tryz.func28, Tryz.ntmps28
    go_wp2_with (go_at_call 40; refine Calls.mono C.out ?_; rintro r w1 ⟨rfl, hb1⟩; have hT1 := HT.out w1 hb1)
    go_quiet (fail)
    go_wp2
    go_ret3
    exact ⟨rfl, below_then hb1 (pl_drew _ _)⟩
  · obtain ⟨i, hi'⟩ : ∃ i : Nat, Lib.indexByte s.data.toList 58 = i := ⟨(Lib.indexByte s.data.toList 58).toNat, by omega⟩
    have C : Hid (Calls _ _ _ _ _) := pcut_yes s 58 i w hi' (by omega)
    have N : Hid (∀ W, Below w.heap.size w W → Calls Tryz.prog 41 #[.string (bs (s.data.toList.take i)), .int .i64 9] W fun r w' => ((numOf (s.data.toList.take i) = none ∧ r = .returned (.tuple #[.int .i64 0, .bool false])) ∨ ∃ n, numOf (s.data.toList.take i) = some n ∧ r = .returned (.tuple #[.int .i64 n, .bool true])) ∧ Below W.heap.size W w') := fun W hW => by
      have := numR_all (bs (s.data.toList.take i)) W (gn.step hW)
      rw [bs_data] at this
      exact this
    have HT : Hid (∀ W, Below w.heap.size w W → W.cell? ⟨3, 0, none⟩ = some (.iface 151 (.pointer (some (sn 0))))) := fun W hW => cell_step hT hW
    have HBD : Hid (∀ W, Below w.heap.size w W → W.cell? ⟨0, 0, none⟩ = some (.iface 151 (.pointer (some (sn 1))))) := fun W hW => cell_step hB hW
    have hk : cutK s.data.toList = match numOf (s.data.toList.take i) with
      | none => (1, [], [])
      | some n => if 10000 < n then (2, [], []) else if ((s.data.toList.drop (i + 1)).length : Int) < n then (1, [], []) else if (s.data.toList.drop (i + 1))[n.toNat]? = some 10 then (0, (s.data.toList.drop (i + 1)).take n.toNat, (s.data.toList.drop (i + 1)).drop (n.toNat + 1)) else (1, [], []) := by
      unfold cutK
      rw [if_neg hi, hi']
      rfl
    have hrl : (s.data.toList.drop (i + 1)).length ≤ 2000000 := by rw [List.length_drop, ← Lib.size_eq]; omega
    clear g gn hT hB hi hi'
    generalize s.data.toList.drop (i + 1) = rl at C hk hrl
    generalize s.data.toList.take i = hd at C N hk
    have hrs : (bs rl).size = rl.length := by rw [Lib.size_eq, bs_data]
    cases hn : numOf hd with
    | none =>
      rw [hn] at hk
      dsimp only at hk
      rw [hk]
      have N1 : Hid (∀ W, Below w.heap.size w W → Calls Tryz.prog 41 #[.string (bs hd), .int .i64 9] W fun r w' => r = .returned (.tuple #[.int .i64 0, .bool false]) ∧ Below W.heap.size W w') := fun W hW => by
        refine Calls.mono (N.out W hW) ?_
        rintro r w' ⟨q | ⟨n, q, _⟩, hb⟩
        · exact ⟨q.2, hb⟩
        · rw [hn] at q; cases q
      clear N hk hn
      generalize bs hd = hb0 at C N1
      generalize bs rl = rb at C hrs
      go_enter Tryz.func28, Tryz.ntmps28
      go_wp2_with (first
        | (go_at_call 40; refine Calls.mono C.out ?_; rintro r w1 ⟨rfl, hb1⟩)
        | (go_at_call 41; refine Calls.mono (N1.out _ hb1) ?_; rintro r w2 ⟨rfl, hb2⟩; have hT1 := HT.out w2 (below_then hb1 hb2)))
      go_quiet (fail)
      go_wp2
      go_ret3
      exact ⟨rfl, below_then (below_then hb1 hb2) (pl_drew _ _)⟩
    | some n =>
      obtain ⟨_, _, hn0, _⟩ := numOf_some hn
      obtain ⟨m, rfl⟩ : ∃ m : Nat, n = m := ⟨n.toNat, by omega⟩
      rw [hn] at hk
      dsimp only at hk
      rw [Int.toNat_natCast] at hk
      have N1 : Hid (∀ W, Below w.heap.size w W → Calls Tryz.prog 41 #[.string (bs hd), .int .i64 9] W fun r w' => r = .returned (.tuple #[.int .i64 m, .bool true]) ∧ Below W.heap.size W w') := fun W hW => by
        refine Calls.mono (N.out W hW) ?_
        rintro r w' ⟨q | ⟨n, q, hr⟩, hb⟩
        · rw [hn] at q; cases q.1
        · rw [hn] at q; cases q; exact ⟨hr, hb⟩
      clear N hn hn0
      generalize bs hd = hb0 at C N1
      by_cases h1 : (10000 : Int) < (m : Int)
      · rw [if_pos h1] at hk
        rw [hk]
        generalize bs rl = rb at C hrs
        clear hk
        go_enter Tryz.func28, Tryz.ntmps28
        go_wp2_with (first
          | (go_at_call 40; refine Calls.mono C.out ?_; rintro r w1 ⟨rfl, hb1⟩)
          | (go_at_call 41; refine Calls.mono (N1.out _ hb1) ?_; rintro r w2 ⟨rfl, hb2⟩; have hB1 := HBD.out w2 (below_then hb1 hb2)))
        go_quiet (fail)
        go_wp2
        go_ret3
        exact ⟨rfl, below_then (below_then hb1 hb2) (pl_drew _ _)⟩
      · rw [if_neg h1] at hk
        by_cases h2 : (rl.length : Int) < (m : Int)
        · rw [if_pos h2] at hk
          rw [hk]
          have h2' : ((bs rl).size : Int) < (m : Int) := by omega
          generalize bs rl = rb at C hrs h2'
          clear hk h2
          go_enter Tryz.func28, Tryz.ntmps28
          go_wp2_with (first
            | (go_at_call 40; refine Calls.mono C.out ?_; rintro r w1 ⟨rfl, hb1⟩)
            | (go_at_call 41; refine Calls.mono (N1.out _ hb1) ?_; rintro r w2 ⟨rfl, hb2⟩; have hT1 := HT.out w2 (below_then hb1 hb2)))
          go_quiet (fail)
          go_wp2
          go_ret3
          exact ⟨rfl, below_then (below_then hb1 hb2) (pl_drew _ _)⟩
        · rw [if_neg h2] at hk
          have h2' : (m : Int) ≤ ((bs rl).size : Int) := by omega
          have e1 : (bs rl).extract 0 m = bs (rl.take m) := pl_ext (by rw [Lib.extract_from_zero, bs_data, bs_data])
          have e2 : (bs rl).extract m (bs rl).size = bs (rl.drop m) := pl_ext (by rw [Lib.extract_to_end, bs_data, bs_data])
          have e3 : (rl.drop m)[0]? = rl[m]? := by rw [List.getElem?_drop, Nat.add_zero]
          have c0 : (0 : Int) ≤ (m : Int) := by omega
          by_cases h3 : rl[m]? = some 10
          · rw [if_pos h3] at hk
            rw [hk]
            have hp : Lib.hasPrefix (rl.drop m) [10] = true := (has_one _ _).2 (e3.trans h3)
            have ht : Lib.trimPrefix (rl.drop m) [10] = rl.drop (m + 1) := by unfold Lib.trimPrefix; rw [if_pos hp, List.drop_drop]; rfl
            have CP : Hid (∀ W, Calls Tryz.prog 42 #[.string (bs (rl.drop m)), .string ⟨#[10]⟩] W fun r w' => r = .returned (.tuple #[.string (bs (rl.drop (m + 1))), .bool true]) ∧ w' = W) := fun W => by
              have := Tryz.strings_CutPrefix (bs (rl.drop m)) ⟨#[10]⟩ W
              rw [bs_data, show (⟨#[10]⟩ : ByteArray).data.toList = [10] from rfl, hp, ht] at this
              exact this
            rw [← e2] at CP
            clear hk h2 hp ht h3 e2 e3
            generalize bs (rl.take m) = t1 at e1 ⊢
            generalize bs (rl.drop (m + 1)) = t2 at CP ⊢
            clear hrs
            generalize bs rl = rb at C h2' CP e1
            have E1 : Hid (_) := e1
            clear e1
            go_enter Tryz.func28, Tryz.ntmps28
            go_wp2_with (first
              | (go_at_call 40; refine Calls.mono C.out ?_; rintro r w1 ⟨rfl, hb1⟩)
              | (go_at_call 41; refine Calls.mono (N1.out _ hb1) ?_; rintro r w2 ⟨rfl, hb2⟩)
              | (go_at_call 42; refine Calls.mono (CP.out _) ?_; rintro r w3 ⟨rfl, rfl⟩))
            go_ret3
            refine ⟨?_, below_then hb1 hb2⟩
            simp
            exact ⟨E1.out, rfl⟩
          · rw [if_neg h3] at hk
            rw [hk]
            have hp : Lib.hasPrefix (rl.drop m) [10] = false := by
              cases hq : Lib.hasPrefix (rl.drop m) [10] with
              | false => rfl
              | true => exact absurd (e3.symm.trans ((has_one _ _).1 hq)) h3
            have CP : Hid (∀ W, Calls Tryz.prog 42 #[.string (bs (rl.drop m)), .string ⟨#[10]⟩] W fun r w' => ∃ x, r = .returned (.tuple #[.string x, .bool false]) ∧ w' = W) := fun W => by
              have := Tryz.strings_CutPrefix (bs (rl.drop m)) ⟨#[10]⟩ W
              rw [bs_data, show (⟨#[10]⟩ : ByteArray).data.toList = [10] from rfl, hp] at this
              refine Calls.mono this ?_
              rintro r w' ⟨q1, q2⟩
              exact ⟨_, q1, q2⟩
            rw [← e2] at CP
            clear hk h2 hp h3 e2 e3 e1 hrs
            generalize bs rl = rb at C h2' CP
            go_enter Tryz.func28, Tryz.ntmps28
            go_wp2_with (first
              | (go_at_call 40; refine Calls.mono C.out ?_; rintro r w1 ⟨rfl, hb1⟩)
              | (go_at_call 41; refine Calls.mono (N1.out _ hb1) ?_; rintro r w2 ⟨rfl, hb2⟩; have hT1 := HT.out w2 (below_then hb1 hb2))
              | (go_at_call 42; refine Calls.mono (CP.out _) ?_; rintro r w3 ⟨x, rfl, hq⟩; have hq := hq.symm; subst hq))
            go_quiet (fail)
            go_wp2
            go_ret3
            exact ⟨rfl, below_then (below_then hb1 hb2) (pl_drew _ _)⟩
end Go.Proofs.YtifbhedomcgonaaGreatDoor
