/- Package pack's cutSized, cutCopy, cutOp, of any text; what an op makes. -/
import Derived.Test.YtbocknocmggcpaaGreatDoorPkN
namespace Go.Proofs.YtbocknocmggcpaaGreatDoor
open Go Go.RowKit Go.Maps Cal Pk
attribute [local go_sem] Oper.semAt_some

theorem pk_one (l : List UInt8) (c : UInt8) : Lib.hasPrefix l [c] = true ↔ l[0]? = some c := by
  unfold Lib.hasPrefix
  cases l with
  | nil => simp
  | cons a r =>
    show (c == a && true) = true ↔ some a = some c
    rw [Bool.and_true, beq_iff_eq, Option.some.injEq]
    exact eq_comm
/-- strings.CutPrefix at one sign -/
theorem pcp_yes (l : List UInt8) (c : UInt8) (w : World) : Calls Tryz.prog 56 #[.string (bs (c :: l)), .string ⟨#[c]⟩] w fun r w' => r = .returned (.tuple #[.string (bs l), .bool true]) ∧ w' = w := by
  have := Tryz.strings_CutPrefix (bs (c :: l)) ⟨#[c]⟩ w
  have hp : Lib.hasPrefix (c :: l) [c] = true := (pk_one _ _).2 rfl
  have ht : Lib.trimPrefix (c :: l) [c] = l := by unfold Lib.trimPrefix; rw [if_pos hp]; rfl
  rw [bs_data, show (⟨#[c]⟩ : ByteArray).data.toList = [c] from rfl, hp, ht] at this
  exact this
theorem pcp_no (l : List UInt8) (c : UInt8) (w : World) (h : l[0]? ≠ some c) : Calls Tryz.prog 56 #[.string (bs l), .string ⟨#[c]⟩] w fun r w' => ∃ x, r = .returned (.tuple #[.string x, .bool false]) ∧ w' = w := by
  have hp : Lib.hasPrefix l [c] = false := by
    cases hq : Lib.hasPrefix l [c] with
    | false => rfl
    | true => exact absurd ((pk_one _ _).1 hq) h
  have := Tryz.strings_CutPrefix (bs l) ⟨#[c]⟩ w
  rw [bs_data, show (⟨#[c]⟩ : ByteArray).data.toList = [c] from rfl, hp] at this
  refine Calls.mono this ?_
  rintro r w' ⟨q1, q2⟩
  exact ⟨_, q1, q2⟩
theorem pcut_ct (l : List UInt8) (c : UInt8) (w : World) (hl : l.length ≤ 2000000) :
    Calls Tryz.prog 70 #[.string (bs l), .string ⟨#[c]⟩] w fun r w' => ((ct c l = none ∧ r = .returned (.tuple #[.string (bs l), .string ⟨#[]⟩, .bool false])) ∨ ∃ h t, ct c l = some (h, t) ∧ r = .returned (.tuple #[.string (bs h), .string (bs t), .bool true])) ∧ Below w.heap.size w w' := by
  have hsz : (bs l).size = l.length := by rw [Lib.size_eq, bs_data]
  rcases ct_idx c l with ⟨h1, h2⟩ | ⟨i, h1, _, h3⟩
  · refine Calls.mono (pcut_no (bs l) c w (by rw [bs_data, h1]; decide)) ?_
    rintro r w' ⟨q, hb⟩
    exact ⟨.inl ⟨h2, q⟩, hb⟩
  · refine Calls.mono (pcut_yes (bs l) c i w (by rw [bs_data, h1]) (by omega)) ?_
    rintro r w' ⟨q, hb⟩
    rw [bs_data] at q
    exact ⟨.inr ⟨_, _, h3, q⟩, hb⟩
theorem readAny_l (l : List UInt8) (sn : Nat → Addr) (w : World) (g : GlobA sn w) (hl : l.length ≤ 2000000) :
    Calls Tryz.prog 71 #[.string (bs l)] w fun r w' => r = .returned (raR (numA l)) ∧ Below w.heap.size w w' := by
  have := readAny_any (bs l) sn w g (by rw [Lib.size_eq, bs_data]; exact hl)
  rw [bs_data] at this
  exact this

/-- what cutSized answers -/
def CsR (en : UInt8) (l : List UInt8) (r : Ending) : Prop :=
  (cutS en l = none ∧ ∃ x y, r = .returned (.tuple #[.string x, .string y, .bool false])) ∨ ∃ x b, cutS en l = some (x, b) ∧ r = .returned (.tuple #[.string (bs x), .string (bs b), .bool true])

set_option maxHeartbeats 1000000 in
theorem cutSized_any (l : List UInt8) (en : UInt8) (sn : Nat → Addr) (w : World) (g : GlobA sn w) (hl : l.length ≤ 2000000) :
    Calls Tryz.prog 57 #[.string (bs l), .string ⟨#[en]⟩] w fun r w' => CsR en l r ∧ Below w.heap.size w w' := by
  cases hc : ct 58 l with
  | none =>
    have hk : cutS en l = none := by unfold cutS; rw [hc]
    have C : Hid (Calls Tryz.prog 70 #[.string (bs l), .string ⟨#[58]⟩] w fun r w' => r = .returned (.tuple #[.string (bs l), .string ⟨#[]⟩, .bool false]) ∧ Below w.heap.size w w') := by
      refine Calls.mono (pcut_ct l 58 w hl) ?_
      rintro r w' ⟨⟨_, q⟩ | ⟨h, t, q, _⟩, hb⟩
      · exact ⟨q, hb⟩
      · rw [hc] at q; cases q
    have N : Hid (∀ W, Below w.heap.size w W → Calls Tryz.prog 71 #[.string (bs l)] W fun r w' => (∃ n b, r = .returned (.tuple #[.int .i64 n, .bool b])) ∧ Below W.heap.size W w') := fun W hW => by
      refine Calls.mono (readAny_l l sn W (g.step hW) hl) ?_
      rintro r w' ⟨q, hb⟩
      exact ⟨⟨_, _, q⟩, hb⟩
    have K : Hid (∀ r, (∃ x y, r = Ending.returned (.tuple #[.string x, .string y, .bool false])) → CsR en l r) := fun r q => .inl ⟨hk, q⟩
    clear hc g hl hk
    generalize bs l = s at C N ⊢
    go_enter Tryz.func57, Tryz.ntmps57
    go_wp2_with (first
      | (go_at_call 70; refine Calls.mono C.out ?_; rintro r w1 ⟨rfl, hb1⟩)
      | (go_at_call 71; refine Calls.mono (N.out _ hb1) ?_; rintro r w2 ⟨⟨n, b, rfl⟩, hb2⟩))
    go_ret3
    exact ⟨K.out _ ⟨_, _, rfl⟩, below_then hb1 hb2⟩
  | some p =>
    obtain ⟨hd, rl⟩ := p
    have hle := congrArg List.length (ct_some hc).1
    rw [List.length_append, List.length_cons] at hle
    have C : Hid (Calls Tryz.prog 70 #[.string (bs l), .string ⟨#[58]⟩] w fun r w' => r = .returned (.tuple #[.string (bs hd), .string (bs rl), .bool true]) ∧ Below w.heap.size w w') := by
      refine Calls.mono (pcut_ct l 58 w hl) ?_
      rintro r w' ⟨⟨q, _⟩ | ⟨h, t, q, q2⟩, hb⟩
      · rw [hc] at q; cases q
      · rw [hc] at q; cases q; exact ⟨q2, hb⟩
    have N : Hid (∀ W, Below w.heap.size w W → _) := fun W hW => readAny_l hd sn W (g.step hW) (by omega)
    have hrs : (bs rl).size = rl.length := by rw [Lib.size_eq, bs_data]
    have hk : cutS en l = match numA hd with
      | none => none
      | some n => if (rl.length : Int) < n then none else if rl[n.toNat]? = some en then some (rl.take n.toNat, rl.drop (n.toNat + 1)) else none := by
      unfold cutS; rw [hc]; rfl
    have hrl : rl.length ≤ 2000000 := by omega
    clear hc g hl hle
    cases hn : numA hd with
    | none =>
      rw [hn] at hk N
      dsimp only at hk
      have N1 : Hid (∀ W, Below w.heap.size w W → Calls Tryz.prog 71 #[.string (bs hd)] W fun r w' => r = .returned (.tuple #[.int .i64 0, .bool false]) ∧ Below W.heap.size W w') := N
      have K : Hid (∀ r, (∃ x y, r = Ending.returned (.tuple #[.string x, .string y, .bool false])) → CsR en l r) := fun r q => .inl ⟨hk, q⟩
      clear hk N hn
      generalize bs l = s at C ⊢
      generalize bs hd = hb0 at C N1
      generalize bs rl = rb at C hrs
      go_enter Tryz.func57, Tryz.ntmps57
      go_wp2_with (first
        | (go_at_call 70; refine Calls.mono C.out ?_; rintro r w1 ⟨rfl, hb1⟩)
        | (go_at_call 71; refine Calls.mono (N1.out _ hb1) ?_; rintro r w2 ⟨rfl, hb2⟩))
      go_ret3
      exact ⟨K.out _ ⟨_, _, rfl⟩, below_then hb1 hb2⟩
    | some n =>
      have hn0 := (numA_bd hn).1
      have hn1 := (numA_bd hn).2
      rw [hn] at hk N
      dsimp only at hk
      have N1 : Hid (∀ W, Below w.heap.size w W → Calls Tryz.prog 71 #[.string (bs hd)] W fun r w' => r = .returned (.tuple #[.int .i64 n, .bool true]) ∧ Below W.heap.size W w') := N
      clear N hn
      generalize bs hd = hb0 at C N1
      by_cases h2 : (rl.length : Int) < n
      · rw [if_pos h2] at hk
        have K : Hid (∀ r, (∃ x y, r = Ending.returned (.tuple #[.string x, .string y, .bool false])) → CsR en l r) := fun r q => .inl ⟨hk, q⟩
        have h2' : ((bs rl).size : Int) < n := by omega
        clear hk h2 hrl
        generalize bs l = s at C ⊢
        generalize bs rl = rb at C hrs h2'
        go_enter Tryz.func57, Tryz.ntmps57
        go_wp2_with (first
          | (go_at_call 70; refine Calls.mono C.out ?_; rintro r w1 ⟨rfl, hb1⟩)
          | (go_at_call 71; refine Calls.mono (N1.out _ hb1) ?_; rintro r w2 ⟨rfl, hb2⟩))
        go_ret3
        exact ⟨K.out _ ⟨_, _, rfl⟩, below_then hb1 hb2⟩
      · rw [if_neg h2] at hk
        obtain ⟨m, rfl⟩ : ∃ m : Nat, n = m := ⟨n.toNat, by omega⟩
        rw [Int.toNat_natCast] at hk
        have h2' : (m : Int) ≤ ((bs rl).size : Int) := by omega
        have e1 : (bs rl).extract 0 m = bs (rl.take m) := pl_ext (by rw [Lib.extract_from_zero, bs_data, bs_data])
        have e2 : (bs rl).extract m (bs rl).size = bs (rl.drop m) := pl_ext (by rw [Lib.extract_to_end, bs_data, bs_data])
        have e3 : (rl.drop m)[0]? = rl[m]? := by rw [List.getElem?_drop, Nat.add_zero]
        by_cases h3 : rl[m]? = some en
        · rw [if_pos h3] at hk
          have e4 : rl.drop m = en :: rl.drop (m + 1) := by
            have h4 := (List.getElem?_eq_some_iff.1 h3).1
            rw [List.drop_eq_getElem_cons h4, (List.getElem?_eq_some_iff.1 h3).2]
          have CP0 : ∀ W, Calls Tryz.prog 56 #[.string (bs (rl.drop m)), .string ⟨#[en]⟩] W fun r w' => r = .returned (.tuple #[.string (bs (rl.drop (m + 1))), .bool true]) ∧ w' = W := fun W => by
            rw [e4]
            exact pcp_yes _ _ W
          rw [← e2] at CP0
          have CP : Hid (∀ W, Calls Tryz.prog 56 #[.string ((bs rl).extract m (bs rl).size), .string ⟨#[en]⟩] W fun r w' => r = .returned (.tuple #[.string (bs (rl.drop (m + 1))), .bool true]) ∧ w' = W) := CP0
          have K : Hid (CsR en l (.returned (.tuple #[.string (bs (rl.take m)), .string (bs (rl.drop (m + 1))), .bool true]))) := .inr ⟨_, _, hk, rfl⟩
          clear hk h2 e2 e3 e4 h3 CP0 hrs
          generalize bs (rl.take m) = t1 at e1 K
          generalize bs (rl.drop (m + 1)) = t at CP K
          generalize bs l = s at C ⊢
          generalize bs rl = rb at C h2' CP e1
          have E1 : Hid (_) := e1
          clear e1
          go_enter Tryz.func57, Tryz.ntmps57
          go_wp2_with (first
            | (go_at_call 70; refine Calls.mono C.out ?_; rintro r w1 ⟨rfl, hb1⟩)
            | (go_at_call 71; refine Calls.mono (N1.out _ hb1) ?_; rintro r w2 ⟨rfl, hb2⟩)
            | (go_at_call 56; refine Calls.mono (CP.out _) ?_; rintro r w3 ⟨rfl, rfl⟩))
          go_ret3
          refine ⟨?_, below_then hb1 hb2⟩
          have := K.out
          rw [← E1.out] at this
          exact this
        · rw [if_neg h3] at hk
          have hp : Lib.hasPrefix (rl.drop m) [en] = false := by
            cases hq : Lib.hasPrefix (rl.drop m) [en] with
            | false => rfl
            | true => exact absurd (e3.symm.trans ((pk_one _ _).1 hq)) h3
          have CP0 : ∀ W, Calls Tryz.prog 56 #[.string (bs (rl.drop m)), .string ⟨#[en]⟩] W fun r w' => r = .returned (.tuple #[.string (bs (Lib.trimPrefix (rl.drop m) [en])), .bool false]) ∧ w' = W := fun W => by
            have := Tryz.strings_CutPrefix (bs (rl.drop m)) ⟨#[en]⟩ W
            rw [bs_data, show (⟨#[en]⟩ : ByteArray).data.toList = [en] from rfl, hp] at this
            exact this
          rw [← e2] at CP0
          have CP : Hid (∀ W, Calls Tryz.prog 56 #[.string ((bs rl).extract m (bs rl).size), .string ⟨#[en]⟩] W fun r w' => r = .returned (.tuple #[.string (bs (Lib.trimPrefix (rl.drop m) [en])), .bool false]) ∧ w' = W) := CP0
          have K : Hid (∀ r, (∃ x y, r = Ending.returned (.tuple #[.string x, .string y, .bool false])) → CsR en l r) := fun r q => .inl ⟨hk, q⟩
          clear hk h2 e2 e3 h3 CP0 hrs hp e1
          generalize bs (Lib.trimPrefix (rl.drop m) [en]) = t at CP
          generalize bs l = s at C ⊢
          generalize bs rl = rb at C h2' CP
          go_enter Tryz.func57, Tryz.ntmps57
          go_wp2_with (first
            | (go_at_call 70; refine Calls.mono C.out ?_; rintro r w1 ⟨rfl, hb1⟩)
            | (go_at_call 71; refine Calls.mono (N1.out _ hb1) ?_; rintro r w2 ⟨rfl, hb2⟩)
            | (go_at_call 56; refine Calls.mono (CP.out _) ?_; rintro r w3 ⟨rfl, rfl⟩))
          go_ret3
          exact ⟨K.out _ ⟨_, _, rfl⟩, below_then hb1 hb2⟩

/-- an op as the program has it -/
def opV (o : Opq) : Value := .agg #[.string (bs o.1), .int .i64 o.2.1, .int .i64 o.2.2]
/-- what cutOp answers -/
def CoR (q : Option (Opq × List UInt8)) (r : Ending) : Prop :=
  (q = none ∧ ∃ x a n y, r = .returned (.tuple #[.agg #[.string x, .int .i64 a, .int .i64 n], .string y, .bool false])) ∨ ∃ o b, q = some (o, b) ∧ r = .returned (.tuple #[opV o, .string (bs b), .bool true])
theorem pcut_u (l : List UInt8) (c : UInt8) (hl : l.length ≤ 2000000) : ∃ (p r : List UInt8) (b : Bool), (ct c l = if b then some (p, r) else none) ∧ p.length ≤ l.length ∧ r.length ≤ l.length ∧ ∀ w, Calls Tryz.prog 70 #[.string (bs l), .string ⟨#[c]⟩] w fun e w' => e = .returned (.tuple #[.string (bs p), .string (bs r), .bool b]) ∧ Below w.heap.size w w' := by
  cases hc : ct c l with
  | none =>
    refine ⟨l, [], false, by simp, Nat.le_refl _, Nat.zero_le _, fun w => ?_⟩
    refine Calls.mono (pcut_ct l c w hl) ?_
    rintro r w' ⟨⟨_, q⟩ | ⟨h, t, q, _⟩, hb⟩
    · exact ⟨q, hb⟩
    · rw [hc] at q; cases q
  | some p =>
    obtain ⟨h, t⟩ := p
    have e := congrArg List.length (ct_some hc).1
    rw [List.length_append, List.length_cons] at e
    refine ⟨h, t, true, by simp, by omega, by omega, fun w => ?_⟩
    refine Calls.mono (pcut_ct l c w hl) ?_
    rintro r w' ⟨⟨q, _⟩ | ⟨h, t, q, q2⟩, hb⟩
    · rw [hc] at q; cases q
    · rw [hc] at q; cases q; exact ⟨q2, hb⟩
theorem readAny_u (l : List UInt8) (hl : l.length ≤ 2000000) : ∃ (n : Int) (b : Bool), (numA l = if b then some n else none) ∧ ∀ sn w, GlobA sn w → Calls Tryz.prog 71 #[.string (bs l)] w fun e w' => e = .returned (.tuple #[.int .i64 n, .bool b]) ∧ Below w.heap.size w w' := by
  cases hn : numA l with
  | none => exact ⟨0, false, by simp, fun sn w g => by have := readAny_l l sn w g hl; rw [hn] at this; exact this⟩
  | some n => exact ⟨n, true, by simp, fun sn w g => by have := readAny_l l sn w g hl; rw [hn] at this; exact this⟩

theorem p3_frozen {W : World} {n : Nat} {cs : Array Value} {t : TypeId} (h : W.heap[n]? = some (.cells cs t (0, 0))) (i : Nat) : W.frozen? ⟨n, i, none⟩ = false := by
  simp [World.frozen?, h]
theorem p3_cells {W : World} {b T : Nat} {a0 a1 a2 : Value} (h : W.heap[b]? = some (.cells #[a0, a1, a2] T (0, 0))) : W.cell? ⟨b, 0, none⟩ = some a0 ∧ W.cell? ⟨b, 1, none⟩ = some a1 ∧ W.cell? ⟨b, 2, none⟩ = some a2 := by simp [World.cell?, h]
theorem p3_to {w A C : World} {B : Nat} (h : Below w.heap.size w A) (k : A.grownBy C (some B)) (hB : w.heap.size ≤ B) : Below w.heap.size w C :=
  ⟨k.os.trans h.os, k.tape.trans h.tape, k.output.trans h.output, Nat.le_trans h.size k.size, fun i hi => (k.block i (Nat.lt_of_lt_of_le hi h.size) (fun q => by have := Option.some.inj q; omega)).trans (h.block i hi)⟩
theorem p3_put {W : World} {B : Nat} {a b c : Value} {T : TypeId} (x y z : Value) (h : W.heap[B]? = some (.cells #[a, b, c] T (0, 0))) : (((W.setCell ⟨B, 0, none⟩ x).setCell ⟨B, 1, none⟩ y).setCell ⟨B, 2, none⟩ z).heap[B]? = some (.cells #[x, y, z] T (0, 0)) := by
  have h1 := set_block (i := 0) x h
  have h2 := set_block (i := 1) y h1
  exact set_block (i := 2) z h2
theorem p3_below {w W : World} {B : Nat} (x y z : Value) (h : Below w.heap.size w W) (hB : w.heap.size ≤ B) : Below w.heap.size w (((W.setCell ⟨B, 0, none⟩ x).setCell ⟨B, 1, none⟩ y).setCell ⟨B, 2, none⟩ z) :=
  p3_to (p3_to (p3_to h (grown_set W ⟨B, 0, none⟩ x) hB) (grown_set _ ⟨B, 1, none⟩ y) hB) (grown_set _ ⟨B, 2, none⟩ z) hB

set_option maxHeartbeats 2000000 in
set_option maxRecDepth 100000 in
theorem cutCopy_any (l : List UInt8) (sn : Nat → Addr) (w : World) (g : GlobA sn w) (hl : l.length ≤ 2000000) :
    Calls Tryz.prog 59 #[.string (bs l)] w fun r w' => CoR (cutC l) r ∧ Below w.heap.size w w' := by
  obtain ⟨p, r, b1, e1, l1, l2, C1⟩ := pcut_u l 44 hl
  obtain ⟨m, bh, b2, e2, l3, l4, C2⟩ := pcut_u r 59 (by omega)
  obtain ⟨n1, b3, e3, N1⟩ := readAny_u p (by omega)
  obtain ⟨n2, b4, e4, N2⟩ := readAny_u m (by omega)
  have C1 : Hid (_) := C1
  have C2 : Hid (_) := C2
  have N1 : Hid (∀ W, Below w.heap.size w W → _) := fun W hW => N1 sn W (g.step hW)
  have N2 : Hid (∀ W, Below w.heap.size w W → _) := fun W hW => N2 sn W (g.step hW)
  have hA := below_alloc w (.cells #[.string ⟨#[]⟩, .int .i64 0, .int .i64 0] 59)
  have hK : (w.alloc (.cells #[.string ⟨#[]⟩, .int .i64 0, .int .i64 0] 59)).heap[w.heap.size]? = some (.cells #[.string ⟨#[]⟩, .int .i64 0, .int .i64 0] 59 (0, 0)) := block_at _ rfl
  have HK : Hid (_) := hK
  have hcs : (b1 = false ∨ b1 = true ∧ b2 = false ∨ b1 = true ∧ b2 = true ∧ b3 = false ∨ b1 = true ∧ b2 = true ∧ b3 = true ∧ b4 = false ∨ b1 = true ∧ b2 = true ∧ b3 = true ∧ b4 = true ∧ ¬ 0 < n2) ∨ (b1 = true ∧ b2 = true ∧ b3 = true ∧ b4 = true ∧ 0 < n2) := by
    cases b1 <;> cases b2 <;> cases b3 <;> cases b4 <;> simp <;> omega
  have K : Hid (CoR (cutC l) (.returned (.tuple #[.agg #[.string ⟨#[]⟩, .int .i64 n1, .int .i64 n2], .string (bs bh), .bool (b1 && (b2 && (b3 && (b4 && decide (0 < n2)))))]))) := by
    unfold cutC
    rw [e1]
    rcases hcs with (rfl | ⟨rfl, rfl⟩ | ⟨rfl, rfl, rfl⟩ | ⟨rfl, rfl, rfl, rfl⟩ | ⟨rfl, rfl, rfl, rfl, h⟩) | ⟨rfl, rfl, rfl, rfl, h⟩
    · exact .inl ⟨rfl, _, _, _, _, rfl⟩
    · exact .inl ⟨by simp [e2], _, _, _, _, rfl⟩
    · exact .inl ⟨by simp [e2, e3], _, _, _, _, rfl⟩
    · exact .inl ⟨by simp [e2, e3, e4], _, _, _, _, rfl⟩
    · exact .inl ⟨by simp [e2, e3, e4]; omega, _, _, _, _, by rw [decide_eq_false h]; rfl⟩
    · exact .inr ⟨([], n1, n2), bh, by simp [e2, e3, e4, h], by simp [h, opV]; rfl⟩
  clear e1 e2 e3 e4 l1 l2 l3 l4 g hl hK
  generalize cutC l = oc at K ⊢
  generalize bs l = s at C1 ⊢
  generalize bs p = sp at C1 N1
  generalize bs r = sr at C1 C2
  generalize bs m = sm at C2 N2
  generalize bs bh = sb at C2 K
  rcases hcs with (rfl | ⟨rfl, rfl⟩ | ⟨rfl, rfl, rfl⟩ | ⟨rfl, rfl, rfl, rfl⟩ | ⟨rfl, rfl, rfl, rfl, h⟩) | ⟨rfl, rfl, rfl, rfl, h⟩
  all_goals
    go_enter Tryz.func59, Tryz.ntmps59
    generalize hw0 : w.alloc (.cells #[.string ⟨#[]⟩, .int .i64 0, .int .i64 0] 59) = w0 at *
    go_upto_region 2 with (go_at_call 70; refine Calls.mono (C1.out _) ?_; rintro r w1 ⟨rfl, hb1⟩)
    have hb01 := below_then hA hb1
    go_upto_region 3 with (go_at_call 70; refine Calls.mono (C2.out _) ?_; rintro r w2 ⟨rfl, hb2⟩)
    go_upto_region 4 with (go_at_call 71; refine Calls.mono (N1.out _ (below_then hb01 hb2)) ?_; rintro r w3 ⟨rfl, hb3⟩)
    go_upto_region 5 with (go_at_call 71; refine Calls.mono (N2.out _ (below_then hb01 (below_then hb2 hb3))) ?_; rintro r w4 ⟨rfl, hb4⟩)
    have hk3 := ((below_then hb1 (below_then hb2 (below_then hb3 hb4))).block w.heap.size (by rw [← hw0, World.size_alloc]; omega)).trans HK.out
    have B4 : Hid (Below w.heap.size w w4) := below_then hb01 (below_then hb2 (below_then hb3 hb4))
    clear hb01 hb1 hb2 hb3 hb4 C1 C2 N1 N2
    obtain ⟨d0, d1, d2⟩ := p3_cells hk3
    have f0 := p3_frozen hk3 0
    have f1 := p3_frozen hk3 1
    have f2 := p3_frozen hk3 2
    go_wp2
    obtain ⟨c0, c1, c2⟩ := p3_cells (p3_put (.string ⟨#[]⟩) (.int .i64 n1) (.int .i64 n2) hk3)
    refine bodyPost_ret (v := .tuple #[.agg #[.string ⟨#[]⟩, .int .i64 n1, .int .i64 n2], .string sb, .bool _]) (by simp [results, Tryz.f59, go_sem, c0, c1, c2]; rfl) rfl ⟨?_, p3_below _ _ _ B4.out (Nat.le_refl _)⟩
    first | simpa [h] using K.out | simpa using K.out
end Go.Proofs.YtbocknocmggcpaaGreatDoor
