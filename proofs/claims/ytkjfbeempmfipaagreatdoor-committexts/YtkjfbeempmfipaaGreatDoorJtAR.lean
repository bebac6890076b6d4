/- What the law CommitTexts holds side by side: two commits, an error and its number. -/
import Derived.Test.YtkjfbeempmfipaaGreatDoorCmLP
import Derived.Test.YtkjfbeempmfipaaGreatDoorJtAQ
import Derived.Laws.StructEq
import Derived.Test.YtkjfbeempmfipaaGreatDoorJtAK
import Derived.BigQuiet
import Derived.Deep.DeepCutAuto
namespace Go.Proofs.YtkjfbeempmfipaaGreatDoor
open Go Go.RowKit Go.Sort Cal
attribute [local go_sem] Oper.semAt_some

theorem got_formC {W : World} {sl : Value} {xs : List Int} (h : Got W sl xs) : ∃ a c, sl = .slice a xs.length c := by
  obtain ⟨a, c, e, _⟩ := h
  exact ⟨a, c, e⟩
theorem got_atC {W : World} {a : Option Addr} {cap : Nat} {xs : List Int} (h : Got W (.slice a xs.length cap) xs) (j : Nat) (hj : j < xs.length) : ∃ ad, a = some ad ∧ W.cell? (ad.add j) = some (.int .i64 xs[j]) := by
  obtain ⟨a', c', e, hn, hs⟩ := h
  cases e
  cases a with
  | none => exact absurd (hn rfl).1 (by omega)
  | some ad => exact ⟨ad, rfl, (hs ad rfl j hj).2⟩
theorem same_mixC {W : World} {v1 v2 : Value} {o : List Int} (h1 : Ints W v1 o) (h2 : Got W v2 o) :
    Calls Tryz.prog 24 #[v1, v2] W fun e w' => e = .returned (.bool true) ∧ Below W.heap.size W w' := by
  obtain ⟨a1, c1, rfl, hl, _, h1⟩ := h1
  obtain ⟨a2, c2, rfl⟩ := got_formC h2
  have HA : Hid (_) := h1
  have HB : Hid (∀ (j : Nat) (hj : j < o.length), ∃ ad, a2 = some ad ∧ W.cell? (ad.add j) = some (.int .i64 o[j])) := fun j hj => got_atC h2 j hj
  clear h1 h2
  go_enter Tryz.func24, Tryz.ntmps24
  go_wp2
  go_loopw [5] (fun i wr => ∃ k q : Nat, k ≤ o.length ∧ i = .int .i64 k ∧ wr = W.drewN q) (fun i _ => o.length - (intOf i).toNat)
  case atStart => exact ⟨0, 0, Nat.zero_le _, rfl, rfl⟩
  case round =>
    obtain ⟨k, q, hk, rfl, rfl⟩ := hrel
    by_cases hlt : k < o.length
    · obtain ⟨b, rfl, _, p1⟩ := HA.out k hlt
      obtain ⟨ad, rfl, p2⟩ := HB.out k hlt
      have hlt' : (k : Int) < (o.length : Int) := by omega
      generalize o[k] = y at p1 p2
      clear HA HB
      cases k with
      | zero =>
        have p3 : W.cell? ad = some (.int .i64 y) := p2
        have hl1 : 0 < o.length := by omega
        go_wp2
        go_quiet (fail)
        go_wp2
        go_roundw
        case rel => exact ⟨0 + 1, _, by omega, by go_num, rfl⟩
        case measure => simp [intOf]; omega
      | succ k =>
        have p3 : W.cell? ⟨ad.block, ad.off + (k + 1), none⟩ = some (.int .i64 y) := p2
        have hl1 : (k : Int) + 1 < (o.length : Int) := by omega
        have hl2 : k + 1 < o.length := by omega
        have hq0 : 0 ≤ (k : Int) + 1 := by omega
        have hq1 : ((k : Int) + 1).toNat = k + 1 := by omega
        go_wp2
        go_quiet (fail)
        go_wp2
        go_roundw
        case rel => exact ⟨k + 1 + 1, _, by omega, by go_num, rfl⟩
        case measure => simp [intOf]; omega
    · go_wp2
      go_ret
      exact ⟨rfl, drewN_below _ _⟩
theorem coded5_nil (w : World) :
    Calls Tryz.prog 9 #[.nilIface, .int .i64 0] w fun e w' => e = .returned (.bool true) ∧ w' = w := by
  go_enter Tryz.func9, Tryz.ntmps9
  go_wp2_with (go_at_call 23; refine (code_nil _).mono ?_; rintro e w' ⟨rfl, rfl⟩)
  go_ret
  exact ⟨rfl, rfl⟩
theorem coded5_err (s : Nat → Addr) (j : Nat) (w : World) (g : Sents s w) (hj : j < 11) :
    Calls Tryz.prog 9 #[.iface 221 (.pointer (some (s j))), .int .i64 (j + 1)] w fun e w' => e = .returned (.bool true) ∧ Below w.heap.size w w' := by
  have hc := code_gen s j (s j) w g (by omega) (fun k hk => g.ne j k hj (by omega) (by omega)) (fun _ => rfl) (g.blk j hj)
  rw [cnum_lt hj] at hc
  have HC : Hid (_) := hc
  clear hc
  go_enter Tryz.func9, Tryz.ntmps9
  go_wp2_with (go_at_call 23; refine (Calls.mono HC.out ?_); rintro e w' ⟨rfl, hb⟩)
  go_ret
  exact ⟨rfl, hb⟩
set_option maxHeartbeats 2000000 in
theorem sameCommit_any (t at_ : Int) (v1 v2 : Value) (ps : List Int) (note : ByteArray) (w : World) (h1 : Ints w v1 ps) (h2 : Got w v2 ps) :
    Calls Tryz.prog 10 #[.agg #[.int .i64 t, v1, .int .i64 at_, .string note], .agg #[.int .i64 t, v2, .int .i64 at_, .string note]] w fun r w' => r = .returned (.bool true) ∧ Below w.heap.size w w' := by
  have hA := below_box2 w (.cells #[.int .i64 t, v1, .int .i64 at_, .string note] 26) (.cells #[.int .i64 t, v2, .int .i64 at_, .string note] 28)
  have k0 : ((w.alloc (.cells #[.int .i64 t, v1, .int .i64 at_, .string note] 26)).alloc (.cells #[.int .i64 t, v2, .int .i64 at_, .string note] 28)).heap[w.heap.size]? = some (.cells #[.int .i64 t, v1, .int .i64 at_, .string note] 26 (0, 0)) := block_alloc _ (block_at _ rfl)
  have k1 : ((w.alloc (.cells #[.int .i64 t, v1, .int .i64 at_, .string note] 26)).alloc (.cells #[.int .i64 t, v2, .int .i64 at_, .string note] 28)).heap[w.heap.size + 1]? = some (.cells #[.int .i64 t, v2, .int .i64 at_, .string note] 28 (0, 0)) := block_at _ (by simp)
  have SI : Hid (Calls _ _ _ _ _) := same_mixC (h1.step hA) (h2.step hA)
  obtain ⟨a1, c1, rfl, _⟩ := h1
  obtain ⟨a2, c2, rfl⟩ := got_formC h2
  have HA : Hid (_) := hA
  clear hA h2
  generalize hw0 : (w.alloc (.cells #[.int .i64 t, .slice a1 ps.length c1, .int .i64 at_, .string note] 26)).alloc (.cells #[.int .i64 t, .slice a2 ps.length c2, .int .i64 at_, .string note] 28) = w0 at HA k0 k1 SI
  obtain ⟨x0, x1, x2, x3⟩ := blkC k0
  obtain ⟨y0, y1, y2, y3⟩ := blkC k1
  clear k0 k1
  go_enter Tryz.func10, Tryz.ntmps10
  go_wp2_with (go_at_call 24; refine Calls.mono SI.out ?_; rintro r w1 ⟨rfl, hb1⟩)
  go_ret
  exact ⟨rfl, below_then HA.out hb1⟩
end Go.Proofs.YtkjfbeempmfipaaGreatDoor

/- The document's own SameInts over lists that were built; a list appended to a list. -/
namespace Go.Proofs.YtkjfbeempmfipaaGreatDoor
open Go Go.RowKit Cal
attribute [local go_sem] Oper.semAt_some

theorem same_yes (ba bb n ca cb : Nat) (z : Nat → Int) (w : World) (hn : n ≤ 100000) (ha : ∀ i, i < n → w.cell? ⟨ba, i, none⟩ = some (.int .i64 (z i))) (hb : ∀ i, i < n → w.cell? ⟨bb, i, none⟩ = some (.int .i64 (z i))) :
    Calls Tryz.prog 24 #[.slice (some ⟨ba, 0, none⟩) n ca, .slice (some ⟨bb, 0, none⟩) n cb] w fun e w' => e = .returned (.bool true) ∧ Below w.heap.size w w' := by
  have HA : Hid (∀ i, i < n → w.cell? ⟨ba, i, none⟩ = some (.int .i64 (z i))) := ha
  have HB : Hid (∀ i, i < n → w.cell? ⟨bb, i, none⟩ = some (.int .i64 (z i))) := hb
  clear ha hb
  go_enter Tryz.func24, Tryz.ntmps24
  go_wp2
  go_loopw [5] (fun i wr => ∃ k q : Nat, k ≤ n ∧ i = .int .i64 k ∧ wr = w.drewN q) (fun i _ => n - (intOf i).toNat)
  case atStart => exact ⟨0, 0, Nat.zero_le _, rfl, rfl⟩
  case round =>
    obtain ⟨k, q, hk, rfl, rfl⟩ := hrel
    by_cases hlt : k < n
    · have h1 := HA.out k hlt
      have h2 := HB.out k hlt
      go_wp2
      go_quiet (fail)
      go_wp2
      go_roundw
      case rel => exact ⟨k + 1, _, by omega, by go_num, rfl⟩
      case measure => simp [intOf]; omega
    · go_wp2
      go_ret
      exact ⟨rfl, drewN_below _ _⟩
theorem same_zero (a b : Option Addr) (ca cb : Nat) (w : World) :
    Calls Tryz.prog 24 #[.slice a 0 ca, .slice b 0 cb] w fun e w' => e = .returned (.bool true) ∧ Below w.heap.size w w' := by
  go_enter Tryz.func24, Tryz.ntmps24
  go_wp2
  go_loop [5] (fun i => i = .int .i64 0) (fun _ => 0)
  case atStart => rfl
  case round =>
    subst hrel
    go_wp2
    go_ret
    exact ⟨rfl, Below.refl _ _⟩
theorem same_ow {b1 b2 : Nat} {W : World} {v1 v2 : Value} {o : List Int} (h1 : Ow b1 W v1 o) (h2 : Ow b2 W v2 o) (hl : o.length ≤ 100000) :
    Calls Tryz.prog 24 #[v1, v2] W fun e w' => e = .returned (.bool true) ∧ Below W.heap.size W w' := by
  by_cases h0 : o.length = 0
  · obtain ⟨a1, c1, rfl⟩ := ow_form h1
    obtain ⟨a2, c2, rfl⟩ := ow_form h2
    rw [h0]
    exact same_zero a1 a2 c1 c2 W
  · rcases h1.2 with ⟨_, q⟩ | ⟨g1, c1, cur1, hv1, _⟩
    · exact absurd q h0
    · rcases h2.2 with ⟨_, q⟩ | ⟨g2, c2, cur2, hv2, _⟩
      · exact absurd q h0
      · subst hv1 hv2
        refine same_yes g1 g2 o.length c1 c2 (fun i => o.getD i 0) W hl (fun i hi => ?_) (fun i hi => ?_)
        · have := World.ownsRow.cellAt h1 i (by omega)
          rw [this, List.getElem?_map, List.getElem?_eq_getElem hi, List.getD_eq_getElem?_getD, List.getElem?_eq_getElem hi]; rfl
        · have := World.ownsRow.cellAt h2 i (by omega)
          rw [this, List.getElem?_map, List.getElem?_eq_getElem hi, List.getD_eq_getElem?_getD, List.getElem?_eq_getElem hi]; rfl

/-- a list appended to a list of one's own -/
theorem app_ow {ops : Array Oper} {rest : List Oper} {o : Oper} {a : Act} {Q : Exit → Act → World → Prop} {w : World} (hgd : o.guard = none) (s x : Operand)
    (ho : o.op = .call { callee := .builtin .append, args := #[s, x], argTypes := #[22, 22] })
    (base : Nat) (xs ys : List Int) (v u : Value) (hs : a.eval s = v) (hown : Ow base w v xs) (hx : a.eval x = u) (hg : Got w u ys) (hl : xs.length + ys.length ≤ 100000) (hbase : base ≤ w.heap.size)
    (h : ∀ v' w', Ow base w' v' (xs ++ ys) → Below base w w' → wpList Tryz.prog ops Q rest (a.put o.dst v') w') : wpList Tryz.prog ops Q (o :: rest) a w := by
  obtain ⟨i0, hi, hz0, hz1, hz2⟩ := info_parts info_int
  obtain ⟨ad, cap, rfl, hn, hs'⟩ := hg
  cases ad with
  | none =>
    obtain ⟨h0, rfl⟩ := hn rfl
    have hys : ys = [] := List.length_eq_zero_iff.1 h0
    subst hys
    refine wpList_append_own_none hgd s x 22 ho base 3 i0 1 Tryz.underlying22 hi v xs.length (xs.map (Value.int .i64)) hs hown hx ?_
    exact h v w (by rw [List.append_nil]; exact hown) (Below.refl _ _)
  | some ad =>
    refine wpList_append_own w hgd s x 22 ho base 3 i0 (.int .i64 0) 1 8 Tryz.underlying22 hi hz0 hz1 hz2 rfl (by decide) v xs.length (xs.map (Value.int .i64)) hs hown ad ys.length cap (ys.map (Value.int .i64)) hx (by simp) ?_ (fun v hv => by obtain ⟨x, _, rfl⟩ := List.mem_map.1 hv; rfl) (by unfold maxLen; omega) (by omega) hbase ?_
    · intro j v hv
      rw [List.getElem?_map] at hv
      obtain ⟨d, hd, rfl⟩ := Option.map_eq_some_iff.1 hv
      obtain ⟨hj, rfl⟩ := List.getElem?_eq_some_iff.1 hd
      exact (hs' ad rfl j hj).2
    · intro v' w' h1 h2 _
      refine h v' w' ?_ ?_
      · unfold Ow; rw [List.length_append, List.map_append]; exact h1
      · refine (Below.refl base w).grown h2 hbase (fun k e => ?_)
        exact (World.ownsRow.lt hown k e).1
end Go.Proofs.YtkjfbeempmfipaaGreatDoor

/- The law CommitTexts: any commit, any text. -/
namespace Go.Proofs.YtkjfbeempmfipaaGreatDoor
open Go Go.RowKit Go.Maps Cal
attribute [local go_sem] Oper.semAt_some

theorem ints_ownC {W : World} {base : Nat} {v : Value} {ps : List Int} (h : W.ownsRow base 3 1 v ps.length (ps.map (Value.int .i64))) (h8 : ps.length ≤ 80000) : Ints W v ps := by
  rcases h.2 with ⟨rfl, h0⟩ | ⟨g, cap, cur, rfl, hg, hh, hcap, hmax, hsz, htake⟩
  · exact ⟨none, 0, by rw [h0], h8, by omega, fun j hj => by omega⟩
  · refine ⟨_, _, rfl, h8, hcap, fun j hj => ⟨g, rfl, (Array.getElem?_eq_some_iff.1 hh).1, ?_⟩⟩
    have e := congrArg (fun z : List Value => z[j]?) htake
    simp only [List.getElem?_take, List.getElem?_map, Array.getElem?_toList] at e
    rw [if_pos (by omega), List.getElem?_eq_getElem hj] at e
    simp only [World.cell?, hh]
    exact e
theorem readIs_form {s : Nat → Addr} {l : List UInt8} {base : Nat} {r : Ending} {w : World} (h : ReadIs s l base r w) : ∃ (t at_ : Int) (note : ByteArray) (a : Option Addr) (n c : Nat) (ev : Value), r = .returned (.tuple #[.agg #[.int .i64 t, .slice a n c, .int .i64 at_, .string note], ev]) := by
  rcases h with ⟨t, at_, ps, note, a, n, c, _, _, _, rfl, _⟩ | ⟨_, rfl⟩ | ⟨_, rfl⟩
  · exact ⟨_, _, _, _, _, _, _, rfl⟩
  · exact ⟨_, _, _, _, _, _, _, rfl⟩
  · exact ⟨_, _, _, _, _, _, _, rfl⟩
theorem mread_form {l : List UInt8} {r : Ending} {w : World} (h : MReadC l r w) : ∃ (t at_ : Int) (note : ByteArray) (a : Option Addr) (n c : Nat) (e : Int), r = .returned (.tuple #[.agg #[.int .i64 t, .slice a n c, .int .i64 at_, .string note], .int .i64 e]) := by
  rcases h with ⟨t, at_, ps, note, v, _, _, _, rfl, hg⟩ | ⟨_, rfl⟩ | ⟨_, rfl⟩
  · obtain ⟨a, c, rfl⟩ := got_formC hg
    exact ⟨_, _, _, _, _, _, _, rfl⟩
  · exact ⟨_, _, _, _, _, _, _, rfl⟩
  · exact ⟨_, _, _, _, _, _, _, rfl⟩
theorem got_nilC (w : World) : Got w (.slice none 0 0) [] := ⟨none, 0, rfl, fun _ => ⟨rfl, rfl⟩, fun ad h => by cases h⟩
/-- both readings tell the same -/
theorem read_match {s : Nat → Addr} {l : List UInt8} {base : Nat} {w w' : World} {t1 a1 t2 a2 e : Int} {n1 n2 : ByteArray} {v1 v2 ev : Value}
    (h : ReadIs s l base (.returned (.tuple #[.agg #[.int .i64 t1, v1, .int .i64 a1, .string n1], ev])) w) (h' : MReadC l (.returned (.tuple #[.agg #[.int .i64 t2, v2, .int .i64 a2, .string n2], .int .i64 e])) w') :
    t2 = t1 ∧ a2 = a1 ∧ n2 = n1 ∧ (∃ ps, Ints w v1 ps ∧ Got w' v2 ps) ∧ ((ev = .nilIface ∧ e = 0) ∨ (ev = .iface 221 (.pointer (some (s 0))) ∧ e = 1) ∨ (ev = .iface 221 (.pointer (some (s 1))) ∧ e = 2)) := by
  rcases h with ⟨t, at_, ps, note, a, n, c, hf, hb, hn, e1, ho⟩ | ⟨q, e1⟩ | ⟨⟨t, ps, at_, note, hf, hb⟩, e1⟩
  · cases e1
    rcases h' with ⟨t', at', ps', note', v, hf', hb', hn', e2, hg⟩ | ⟨q', e2⟩ | ⟨⟨t', ps', at', note', hf', hb'⟩, e2⟩
    · cases e2
      obtain ⟨rfl, rfl, rfl, h4⟩ := hf.one hf'
      have : n1 = n2 := pl_ext h4
      subst this
      exact ⟨rfl, rfl, rfl, ⟨_, ints_ownC ho (by have := hb.2.2.1; omega), hg⟩, .inl ⟨rfl, rfl⟩⟩
    · rcases q' with q' | ⟨t', ps', at', note', hf', hb', hn'⟩
      · exact absurd ⟨_, _, _, _, hf⟩ q'
      · obtain ⟨rfl, rfl, rfl, h4⟩ := hf.one hf'
        have : n1 = note' := pl_ext h4
        subst this
        exact absurd hn hn'
    · obtain ⟨rfl, rfl, rfl, h4⟩ := hf.one hf'
      exact absurd hb hb'
  · cases e1
    rcases h' with ⟨t', at', ps', note', v, hf', hb', hn', e2, hg⟩ | ⟨q', e2⟩ | ⟨⟨t', ps', at', note', hf', hb'⟩, e2⟩
    · rcases q with q | ⟨t, ps, at_, note, hf, hb, hn⟩
      · exact absurd ⟨_, _, _, _, hf'⟩ q
      · obtain ⟨rfl, rfl, rfl, h4⟩ := hf.one hf'
        have : note = note' := pl_ext h4
        subst this
        exact absurd hn' hn
    · cases e2
      exact ⟨rfl, rfl, rfl, ⟨[], Ints.nil _ _, got_nilC _⟩, .inr (.inl ⟨rfl, rfl⟩)⟩
    · rcases q with q | ⟨t, ps, at_, note, hf, hb, hn⟩
      · exact absurd ⟨_, _, _, _, hf'⟩ q
      · obtain ⟨rfl, rfl, rfl, h4⟩ := hf.one hf'
        exact absurd hb hb'
  · cases e1
    rcases h' with ⟨t', at', ps', note', v, hf', hb', hn', e2, hg⟩ | ⟨q', e2⟩ | ⟨⟨t', ps', at', note', hf', hb'⟩, e2⟩
    · obtain ⟨rfl, rfl, rfl, h4⟩ := hf.one hf'
      exact absurd hb' hb
    · rcases q' with q' | ⟨t', ps', at', note', hf', hb', hn'⟩
      · exact absurd ⟨_, _, _, _, hf⟩ q'
      · obtain ⟨rfl, rfl, rfl, h4⟩ := hf.one hf'
        exact absurd hb' hb
    · cases e2
      exact ⟨rfl, rfl, rfl, ⟨[], Ints.nil _ _, got_nilC _⟩, .inr (.inr ⟨rfl, rfl⟩)⟩
set_option maxHeartbeats 4000000 in
set_option maxRecDepth 100000 in
theorem commitTexts_any (t at_ : Int) (sl : Value) (ps : List Int) (note x : ByteArray) (s p : Nat → Addr) (hp0 : p 0 = s 0) (hp1 : p 1 = s 1) (w : World) (ht : Tab w) (g : GlobN w) (gp : GlobP p w) (gs : Sents s w) (hl : Got w sl ps) (t1 : t ≤ 9223372036854775807) (a1 : at_ ≤ 9223372036854775807) (hp : ∀ p ∈ ps, p ≤ 9223372036854775807) :
    Calls Tryz.prog 3 #[.int .i64 t, sl, .int .i64 at_, .string note, .string x] w fun r w' => r = .returned (.bool true) ∧ Below w.heap.size w w' := by
  have CM : Hid (Calls _ _ _ _ _) := committed_any p w ht g gp
  have HT : Hid (∀ W, Below w.heap.size w W → Tab W ∧ GlobN W ∧ GlobP p W ∧ Sents s W ∧ Got W sl ps) := fun W hW => ⟨ht.step hW, g.step hW, gp.step hW, gs.step hW, hl.step hW⟩
  have HP : Hid (∀ p ∈ ps, p ≤ 9223372036854775807) := hp
  obtain ⟨sa, sc, rfl⟩ := got_formC hl
  clear ht g gp gs hl hp
  go_enter Tryz.func3, Tryz.ntmps3
  go_wp2_with (first
    | (go_at_call 4; refine Calls.mono CM.out ?_; rintro r w1 ⟨rfl, hb1⟩))
  all_goals (try (go_ret; exact ⟨rfl, hb1⟩))
  have h4 : ps.length ≤ 4 := by omega
  have hn60 : note.size ≤ 60 := by omega
  have hx200 : x.size ≤ 200 := by omega
  have t0 : 0 ≤ t := by omega
  have a0 : 0 ≤ at_ := by omega
  have B1 : Hid (Below w.heap.size w w1) := hb1
  have HB : Hid (∀ (j : Nat) (hj : j < ps.length), ∃ ad, sa = some ad ∧ w1.cell? (ad.add j) = some (.int .i64 ps[j])) := fun j hj => got_atC (HT.out w1 hb1).2.2.2.2 j hj
  clear hb1
  go_loopw [12] (fun i wr => ∃ k : Nat, k ≤ ps.length ∧ i = .int .i64 k ∧ wr = w1 ∧ Hid (∀ p ∈ ps.take k, 0 ≤ p)) (fun i _ => ps.length - (intOf i).toNat)
  case atStart => exact ⟨0, Nat.zero_le _, rfl, rfl, fun p hp => by simp at hp⟩
  case round =>
    obtain ⟨k, hk, rfl, rfl, HK⟩ := hrel
    by_cases hlt : k < ps.length
    · obtain ⟨ad, rfl, p2⟩ := HB.out k hlt
      have hlt' : (k : Int) < (ps.length : Int) := by omega
      have HK1 : Hid (0 ≤ ps[k] → ∀ p ∈ ps.take (k + 1), 0 ≤ p) := by
        intro h0 p hp
        rw [List.take_add_one, List.getElem?_eq_getElem hlt] at hp
        rcases List.mem_append.1 hp with q | q
        · exact HK.out p q
        · simp at q; omega
      generalize ps[k] = y at p2 HK1
      clear HB
      cases k with
      | zero =>
        have p3 : wr.cell? ad = some (.int .i64 y) := p2
        have hl1 : 0 < ps.length := by omega
        by_cases hy : y < 0
        · go_wp2
          go_ret
          exact ⟨rfl, B1.out⟩
        · have hy' : 0 ≤ y := by omega
          go_wp2
          go_roundw
          case rel => exact ⟨0 + 1, by omega, by go_num, trivial, HK1.out hy'⟩
          case measure => simp [intOf]; omega
      | succ k =>
        have p3 : wr.cell? ⟨ad.block, ad.off + (k + 1), none⟩ = some (.int .i64 y) := p2
        have hl1 : (k : Int) + 1 < (ps.length : Int) := by omega
        have hl2 : k + 1 < ps.length := by omega
        have hq0 : 0 ≤ (k : Int) + 1 := by omega
        have hq1 : ((k : Int) + 1).toNat = k + 1 := by omega
        by_cases hy : y < 0
        · go_wp2
          go_ret
          exact ⟨rfl, B1.out⟩
        · have hy' : 0 ≤ y := by omega
          go_wp2
          go_roundw
          case rel => exact ⟨k + 1 + 1, by omega, by go_num, trivial, HK1.out hy'⟩
          case measure => simp [intOf]; omega
    · have hkl : k = ps.length := by omega
      subst hkl
      have HPP : Hid (∀ p ∈ ps, 0 ≤ p ∧ p ≤ 9223372036854775807) := fun p hp => ⟨HK.out p (by rw [List.take_length]; exact hp), HP.out p hp⟩
      have hw1 : w.heap.size ≤ wr.heap.size := B1.out.size
      have hle : ([] : List Int).length + ps.length ≤ 100000 := by simp; omega
      clear HB HK
      go_upto_region 15 with (first
        | (at_builtin; refine app_ow rfl _ _ rfl w.heap.size [] ps _ _ rfl (Ow.nil _ _) rfl (HT.out wr B1.out).2.2.2.2 hle hw1 ?_; intro v' w3 ho3 hb3; have B3 : Hid (Below w.heap.size w w3) := below_trans B1.out hb3; have HI : Hid (Ints w3 v' ps) := (ints_ownC (by simpa [Ow] using ho3) (by omega)); obtain ⟨na, nc, rfl⟩ : ∃ na nc, v' = .slice na ps.length nc := (by obtain ⟨a, c, h, _⟩ := HI.out; exact ⟨_, _, h⟩); have TX : Hid (Calls _ _ _ _ _) := cmText_any t at_ _ ps note w3 (HT.out w3 B3.out).1 HI.out h4 t0 t1 a0 a1 HPP.out (by omega); clear ho3 hb3)
        | (go_at_call 5; refine Calls.mono TX.out ?_; rintro r w4 ⟨rfl, hb4⟩; have B4 : Hid (Below w.heap.size w w4) := below_then B3.out hb4; have TY : Hid (Calls _ _ _ _ _) := mcmText_any t at_ _ ps note w4 (HT.out w4 B4.out).2.2.2.2 h4 t0 t1 a0 a1 HPP.out (by omega); clear hb4)
        | (go_at_call 6; refine Calls.mono TY.out ?_; rintro r w5 ⟨rfl, hb5⟩; have B5 : Hid (Below w.heap.size w w5) := below_then B4.out hb5; clear hb5))
      have RD : Hid (Calls _ _ _ _ _) := cmRead_any p x w5 (HT.out w5 B5.out).2.1 (HT.out w5 B5.out).2.2.1 (by omega)
      clear TX TY HI HPP CM
      go_wp2_with fail
      refine Calls.mono RD.out ?_
      rintro r w6 ⟨hb6, hR⟩
      obtain ⟨t6, a6, n6, va, vn, vc, ev, rfl⟩ := readIs_form hR
      have HR : Hid (_) := hR
      have K7 : Hid ((w6.alloc (.cells #[.int .i64 t6, .slice va vn vc, .int .i64 a6, .string n6] 26)).heap[w6.heap.size]? = some (.cells #[.int .i64 t6, .slice va vn vc, .int .i64 a6, .string n6] 26 (0, 0))) := block_at _ rfl
      have B7 : Hid (Below w.heap.size w (w6.alloc (.cells #[.int .i64 t6, .slice va vn vc, .int .i64 a6, .string n6] 26))) := below_then (below_then B5.out hb6) (below_alloc _ _)
      have B67 : Hid (Below w6.heap.size w6 (w6.alloc (.cells #[.int .i64 t6, .slice va vn vc, .int .i64 a6, .string n6] 26))) := below_alloc _ _
      clear hR hb6 RD
      go_upto_region 16 with (fail)
      have HS7 : Hid (w6.heap.size < (w6.alloc (.cells #[.int .i64 t6, .slice va vn vc, .int .i64 a6, .string n6] 26)).heap.size) := by show _ < _; rw [World.size_alloc]; omega
      generalize w6.alloc (.cells #[.int .i64 t6, .slice va vn vc, .int .i64 a6, .string n6] 26) = w7 at K7 B7 B67 HS7 ⊢
      generalize hq6 : w6.heap.size = q6 at K7 HS7 ⊢
      have RM : Hid (Calls _ _ _ _ _) := mcmRead_any x w7 (by omega)
      go_wp2_with fail
      refine Calls.mono RM.out ?_
      rintro r w8 ⟨hb8, hM⟩
      obtain ⟨t8, a8, n8, ma, mn, mc, e, rfl⟩ := mread_form hM
      obtain ⟨rfl, rfl, rfl, ⟨qs, hi, hg⟩, hcode⟩ := read_match HR.out hM
      have B78 : Hid (_) := hb8
      have HC : Hid (_) := hcode
      have HX : Hid (Ints w6 (.slice va vn vc) qs ∧ Got w8 (.slice ma mn mc) qs) := ⟨hi, hg⟩
      clear hb8 hM RM hi hg hcode HR
      have K9 : Hid ((w8.alloc (.cells #[.int .i64 t8, .slice ma mn mc, .int .i64 a8, .string n8] 28)).heap[w8.heap.size]? = some (.cells #[.int .i64 t8, .slice ma mn mc, .int .i64 a8, .string n8] 28 (0, 0))) := block_at _ rfl
      have B89 : Hid (Below w8.heap.size w8 (w8.alloc (.cells #[.int .i64 t8, .slice ma mn mc, .int .i64 a8, .string n8] 28))) := below_alloc _ _
      go_upto_region 17 with (fail)
      generalize w8.alloc (.cells #[.int .i64 t8, .slice ma mn mc, .int .i64 a8, .string n8] 28) = w9 at K9 B89 ⊢
      have B79 : Hid (Below w7.heap.size w7 w9) := below_then B78.out B89.out
      have K79 : Hid (w9.heap[q6]? = some (.cells #[.int .i64 t8, .slice va vn vc, .int .i64 a8, .string n8] 26 (0, 0))) := (B79.out.block _ HS7.out).trans K7.out
      have B9 : Hid (Below w.heap.size w w9) := below_then B7.out B79.out
      have HX9 : Hid (Ints w9 (.slice va vn vc) qs ∧ Got w9 (.slice ma mn mc) qs) := ⟨(HX.out.1.step B67.out).step B79.out, HX.out.2.step B89.out⟩
      generalize w8.heap.size = q8 at K9 ⊢
      have HK9 : Hid (∀ W, Below w9.heap.size w9 W → W.heap[q6]? = some (.cells #[.int .i64 t8, .slice va vn vc, .int .i64 a8, .string n8] 26 (0, 0)) ∧ W.heap[q8]? = some (.cells #[.int .i64 t8, .slice ma mn mc, .int .i64 a8, .string n8] 28 (0, 0))) := fun W hW => ⟨(hW.block _ (Array.getElem?_eq_some_iff.1 K79.out).1).trans K79.out, (hW.block _ (Array.getElem?_eq_some_iff.1 K9.out).1).trans K9.out⟩
      have CD : Hid (Calls Tryz.prog 9 #[ev, .int .i64 e] w9 fun r w' => r = .returned (.bool true) ∧ Below w9.heap.size w9 w') := by
        have hs := (HT.out w9 B9.out).2.2.2.1
        rcases HC.out with ⟨rfl, rfl⟩ | ⟨rfl, rfl⟩ | ⟨rfl, rfl⟩
        · exact (coded5_nil w9).mono fun r w' ⟨h1, h2⟩ => ⟨h1, by rw [h2]; exact Below.refl _ _⟩
        · rw [hp0]; exact coded5_err s 0 w9 hs (by decide)
        · rw [hp1]; exact coded5_err s 1 w9 hs (by decide)
      have SC : Hid (∀ W, Below w9.heap.size w9 W → Calls _ _ _ _ _) := fun W hW => sameCommit_any t8 a8 (.slice va vn vc) (.slice ma mn mc) qs n8 W (HX9.out.1.step hW) (HX9.out.2.step hW)
      clear HX HC K9 K79 B67 B89 B78 K7
      obtain ⟨c0, c1, c2, c3⟩ := blkC (HK9.out w9 (Below.refl _ _)).1
      obtain ⟨m0, m1, m2, m3⟩ := blkC (HK9.out w9 (Below.refl _ _)).2
      go_wp2_with (first
        | (go_at_call 9; refine Calls.mono CD.out ?_; rintro r wA ⟨rfl, hbA⟩; obtain ⟨d0, d1, d2, d3⟩ := blkC (HK9.out wA hbA).1; obtain ⟨e0, e1, e2, e3⟩ := blkC (HK9.out wA hbA).2; have BA : Hid (Below w9.heap.size w9 wA) := hbA; clear hbA)
        | (go_at_call 10; refine Calls.mono (SC.out _ BA.out) ?_; rintro r wB ⟨rfl, hbB⟩; have BB : Hid (Below w.heap.size w wB) := below_then (below_then B9.out BA.out) hbB; clear hbB))
      go_ret
      exact ⟨rfl, BB.out⟩
end Go.Proofs.YtkjfbeempmfipaaGreatDoor
