/- What the law CommitTexts holds side by side: two commits, an error and its number. -/
import Derived.Test.YtckdjamdpellaaaGreatDoorCmL
import Derived.Test.YtckdjamdpellaaaGreatDoorCode2
import Derived.Laws.StructEq
namespace Go.Proofs.YtckdjamdpellaaaGreatDoor
open Go Go.RowKit Go.Sort Cal
attribute [local go_sem] Oper.semAt_some

theorem got_formC {W : World} {sl : Value} {xs : List Int} (h : Got W sl xs) : ∃ a c, sl = .slice a xs.length c := by
  obtain ⟨a, c, e, _⟩ := h
  exact ⟨a, c, e⟩
theorem got_atC {W : World} {a : Option Addr} {cap : Nat} {xs : List Int} (h : Got W (.slice a xs.length cap) xs) (j : Nat) (hj : j < xs.length) : ∃ ad, a = some ad ∧ W.cell? (ad.add j) = some (.int .i64 xs[j]) := by
  obtain ⟨a', c', e, hn, hs⟩ := h
  cases e
  cases a with
  | none => exact absurd (hn rfl).1 (by omega)
  | some ad => exact ⟨ad, rfl, (hs ad rfl j hj).2⟩
theorem same_mixC {W : World} {v1 v2 : Value} {o : List Int} (h1 : Ints W v1 o) (h2 : Got W v2 o) :
    Calls Tryz.prog 24 #[v1, v2] W fun e w' => e = .returned (.bool true) ∧ Below W.heap.size W w' := by
  obtain ⟨a1, c1, rfl, hl, _, h1⟩ := h1
  obtain ⟨a2, c2, rfl⟩ := got_formC h2
  have HA : Hid (_) := h1
  have HB : Hid (∀ (j : Nat) (hj : j < o.length), ∃ ad, a2 = some ad ∧ W.cell? (ad.add j) = some (.int .i64 o[j])) := fun j hj => got_atC h2 j hj
  clear h1 h2
  go_enter Tryz.func24, Tryz.ntmps24
  go_wp2
  go_loopw [5] (fun i wr => ∃ k q : Nat, k ≤ o.length ∧ i = .int .i64 k ∧ wr = W.drewN q) (fun i _ => o.length - (intOf i).toNat)
  case atStart => exact ⟨0, 0, Nat.zero_le _, rfl, rfl⟩
  case round =>
    obtain ⟨k, q, hk, rfl, rfl⟩ := hrel
    by_cases hlt : k < o.length
    · obtain ⟨b, rfl, _, p1⟩ := HA.out k hlt
      obtain ⟨ad, rfl, p2⟩ := HB.out k hlt
      have hlt' : (k : Int) < (o.length : Int) := by omega
      generalize o[k] = y at p1 p2
      clear HA HB
      cases k with
      | zero =>
        have p3 : W.cell? ad = some (.int .i64 y) := p2
        have hl1 : 0 < o.length := by omega
        go_wp2
        go_quiet (fail)
        go_wp2
        go_roundw
        case rel => exact ⟨0 + 1, _, by omega, by go_num, rfl⟩
        case measure => simp [intOf]; omega
      | succ k =>
        have p3 : W.cell? ⟨ad.block, ad.off + (k + 1), none⟩ = some (.int .i64 y) := p2
        have hl1 : (k : Int) + 1 < (o.length : Int) := by omega
        have hl2 : k + 1 < o.length := by omega
        have hq0 : 0 ≤ (k : Int) + 1 := by omega
        have hq1 : ((k : Int) + 1).toNat = k + 1 := by omega
        go_wp2
        go_quiet (fail)
        go_wp2
        go_roundw
        case rel => exact ⟨k + 1 + 1, _, by omega, by go_num, rfl⟩
        case measure => simp [intOf]; omega
    · go_wp2
      go_ret
      exact ⟨rfl, drewN_below _ _⟩
theorem coded5_nil (w : World) :
    Calls Tryz.prog 9 #[.nilIface, .int .i64 0] w fun e w' => e = .returned (.bool true) ∧ w' = w := by
  go_enter Tryz.func9, Tryz.ntmps9
  go_wp2_with (go_at_call 23; refine (code_nil _).mono ?_; rintro e w' ⟨rfl, rfl⟩)
  go_ret
  exact ⟨rfl, rfl⟩
theorem coded5_err (s : Nat → Addr) (j : Nat) (w : World) (g : Sents s w) (hj : j < 11) :
    Calls Tryz.prog 9 #[.iface 221 (.pointer (some (s j))), .int .i64 (j + 1)] w fun e w' => e = .returned (.bool true) ∧ Below w.heap.size w w' := by
  have hc := code_gen s j (s j) w g (by omega) (fun k hk => g.ne j k hj (by omega) (by omega)) (fun _ => rfl) (g.blk j hj)
  rw [cnum_lt hj] at hc
  have HC : Hid (_) := hc
  clear hc
  go_enter Tryz.func9, Tryz.ntmps9
  go_wp2_with (go_at_call 23; refine (Calls.mono HC.out ?_); rintro e w' ⟨rfl, hb⟩)
  go_ret
  exact ⟨rfl, hb⟩
set_option maxHeartbeats 2000000 in
theorem sameCommit_any (t at_ : Int) (v1 v2 : Value) (ps : List Int) (note : ByteArray) (w : World) (h1 : Ints w v1 ps) (h2 : Got w v2 ps) :
    Calls Tryz.prog 10 #[.agg #[.int .i64 t, v1, .int .i64 at_, .string note], .agg #[.int .i64 t, v2, .int .i64 at_, .string note]] w fun r w' => r = .returned (.bool true) ∧ Below w.heap.size w w' := by
  have hA := below_box2 w (.cells #[.int .i64 t, v1, .int .i64 at_, .string note] 26) (.cells #[.int .i64 t, v2, .int .i64 at_, .string note] 28)
  have k0 : ((w.alloc (.cells #[.int .i64 t, v1, .int .i64 at_, .string note] 26)).alloc (.cells #[.int .i64 t, v2, .int .i64 at_, .string note] 28)).heap[w.heap.size]? = some (.cells #[.int .i64 t, v1, .int .i64 at_, .string note] 26 (0, 0)) := block_alloc _ (block_at _ rfl)
  have k1 : ((w.alloc (.cells #[.int .i64 t, v1, .int .i64 at_, .string note] 26)).alloc (.cells #[.int .i64 t, v2, .int .i64 at_, .string note] 28)).heap[w.heap.size + 1]? = some (.cells #[.int .i64 t, v2, .int .i64 at_, .string note] 28 (0, 0)) := block_at _ (by simp)
  have SI : Hid (Calls _ _ _ _ _) := same_mixC (h1.step hA) (h2.step hA)
  obtain ⟨a1, c1, rfl, _⟩ := h1
  obtain ⟨a2, c2, rfl⟩ := got_formC h2
  have HA : Hid (_) := hA
  clear hA h2
  generalize hw0 : (w.alloc (.cells #[.int .i64 t, .slice a1 ps.length c1, .int .i64 at_, .string note] 26)).alloc (.cells #[.int .i64 t, .slice a2 ps.length c2, .int .i64 at_, .string note] 28) = w0 at HA k0 k1 SI
  obtain ⟨x0, x1, x2, x3⟩ := blkC k0
  obtain ⟨y0, y1, y2, y3⟩ := blkC k1
  clear k0 k1
  go_enter Tryz.func10, Tryz.ntmps10
  go_wp2_with (go_at_call 24; refine Calls.mono SI.out ?_; rintro r w1 ⟨rfl, hb1⟩)
  go_ret
  exact ⟨rfl, below_then HA.out hb1⟩
end Go.Proofs.YtckdjamdpellaaaGreatDoor
