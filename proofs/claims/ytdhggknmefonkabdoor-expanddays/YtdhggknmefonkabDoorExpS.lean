/- Package expand's In where the rule or the start is not well; the document's own SameInts over lists that were built. -/
import Derived.Test.YtdhggknmefonkabDoorExpIn
namespace Go.Proofs.YtdhggknmefonkabDoor
open Go Go.RowKit Go.Shelf Cal
attribute [local go_sem] Oper.semAt_some

theorem in_bad (f : ByteArray) (e : Int) (sl : Value) (c u : Int) (ds : List Int) (st fr0 to0 : Int) (p : Addr) (w : World) (hd : Days w sl ds)
    (CK0 : ∀ W, Below w.heap.size w W → Calls Tryd.prog 20 #[.int .i64 st, rv f e sl c u] W fun r w' => r = .returned (.iface 102 (.pointer (some p))) ∧ Below W.heap.size W w') :
    Calls Tryd.prog 9 #[.int .i64 st, rv f e sl c u, .int .i64 fr0, .int .i64 to0] w fun r w' => r = .returned (.tuple #[.slice none 0 0, .iface 102 (.pointer (some p))]) ∧ Below w.heap.size w w' := by
  obtain ⟨hpz, hpb, hpr, hp1, hp2, hp3, hp4⟩ := pw_all w f e sl c u fr0 to0
  have CK : Hid (_) := CK0 _ hpb
  obtain ⟨ad, cap, rfl, _, _, _⟩ := id hd
  have PB : Hid (_) := hpb
  have P5 : Hid (_) := hpz
  have P3 : Hid (_) := hp3
  have P4 : Hid (_) := hp4
  obtain ⟨x0, x1, x2, x3, x4⟩ := blk5 hpr
  clear CK0 hd hpz hpb hpr hp1 hp2 hp3 hp4
  unfold PW at CK x0 x1 x2 x3 x4
  unfold rv at CK ⊢
  refine (callsIn_wide (n := 40)).1 ?_
  refine callsIn_of_wp_marks Tryd.func9 rfl trivial ?_ rfl
  simp only [Tryd.ntmps9, List.size_toArray, List.length_cons, List.length_nil, Nat.reduceAdd, Nat.reduceSub, Array.replicate_succ, Array.replicate_zero, List.push_toArray, List.append_toArray, List.nil_append, List.cons_append]
  gi_wp2_with (refine ⟨trivial, ?_⟩; gi_at_call 20; refine (callsIn_wide.2 CK.out).mono ?_; rintro r z ⟨rfl, hbz⟩; change Below (PW w f e (.slice ad ds.length cap) c u fr0 to0).heap.size (PW w f e (.slice ad ds.length cap) c u fr0 to0) z at hbz; have q3 : Boxed z (w.heap.size + 3) 22 (.slice none 0 0) := (hbz.block _ (by rw [P5.out]; omega)).trans P3.out; have q4 : Boxed z (w.heap.size + 4) 29 .nilIface := (hbz.block _ (by rw [P5.out]; omega)).trans P4.out; have c3 := Boxed.cell q3; have f3 := Boxed.frozen q3; have c4 := Boxed.cell (Boxed.other q4 (show w.heap.size + 4 ≠ w.heap.size + 3 by omega) (.slice none 0 0)); have f4 := Boxed.frozen (Boxed.other q4 (show w.heap.size + 4 ≠ w.heap.size + 3 by omega) (.slice none 0 0)); have Q3 : Hid (Boxed z (w.heap.size + 3) 22 (.slice none 0 0)) := q3; have Q4 : Hid (Boxed z (w.heap.size + 4) 29 .nilIface) := q4; clear q3 q4)
  have j3 := Boxed.cell (Boxed.other (Boxed.set (.slice none 0 0) Q3.out) (show w.heap.size + 3 ≠ w.heap.size + 4 by omega) (.iface 102 (.pointer (some p))))
  have j4 := Boxed.cell (Boxed.set (.iface 102 (.pointer (some p))) (Boxed.other Q4.out (show w.heap.size + 4 ≠ w.heap.size + 3 by omega) (.slice none 0 0)))
  have hb2 := below_then PB.out hbz
  have hb3 := (hb2.setCell (p := ⟨w.heap.size + 3, 0, none⟩) (by show _ ≤ w.heap.size + 3; omega) (.slice none 0 0)).setCell (p := ⟨w.heap.size + 4, 0, none⟩) (by show _ ≤ w.heap.size + 4; omega) (.iface 102 (.pointer (some p)))
  refine ⟨.tuple #[.slice none 0 0, .iface 102 (.pointer (some p))], ?_, rfl, hb3⟩
  simp [results, Tryd.f9, go_sem, j3, j4]

theorem same_yes (ba bb n ca cb : Nat) (z : Nat → Int) (w : World) (hn : n ≤ 100000) (ha : ∀ i, i < n → w.cell? ⟨ba, i, none⟩ = some (.int .i64 (z i))) (hb : ∀ i, i < n → w.cell? ⟨bb, i, none⟩ = some (.int .i64 (z i))) :
    Calls Tryd.prog 17 #[.slice (some ⟨ba, 0, none⟩) n ca, .slice (some ⟨bb, 0, none⟩) n cb] w fun e w' => e = .returned (.bool true) ∧ Below w.heap.size w w' := by
  have HA : Hid (∀ i, i < n → w.cell? ⟨ba, i, none⟩ = some (.int .i64 (z i))) := ha
  have HB : Hid (∀ i, i < n → w.cell? ⟨bb, i, none⟩ = some (.int .i64 (z i))) := hb
  clear ha hb
  go_enter Tryd.func17, Tryd.ntmps17
  go_wp2
  go_loopw [5] (fun i wr => ∃ k q : Nat, k ≤ n ∧ i = .int .i64 k ∧ wr = w.drewN q) (fun i _ => n - (intOf i).toNat)
  case atStart => exact ⟨0, 0, Nat.zero_le _, rfl, rfl⟩
  case round =>
    obtain ⟨k, q, hk, rfl, rfl⟩ := hrel
    by_cases hlt : k < n
    · have h1 := HA.out k hlt
      have h2 := HB.out k hlt
      go_wp2
      go_quiet (fail)
      go_wp2
      go_roundw
      case rel => exact ⟨k + 1, _, by omega, by go_num, rfl⟩
      case measure => simp [intOf]; omega
    · go_wp2
      go_ret
      exact ⟨rfl, drewN_below _ _⟩
theorem same_zero (a b : Option Addr) (ca cb : Nat) (w : World) :
    Calls Tryd.prog 17 #[.slice a 0 ca, .slice b 0 cb] w fun e w' => e = .returned (.bool true) ∧ Below w.heap.size w w' := by
  go_enter Tryd.func17, Tryd.ntmps17
  go_wp2
  go_loop [5] (fun i => i = .int .i64 0) (fun _ => 0)
  case atStart => rfl
  case round =>
    subst hrel
    go_wp2
    go_ret
    exact ⟨rfl, Below.refl _ _⟩
theorem same_ow {b1 b2 : Nat} {W : World} {v1 v2 : Value} {o : List Int} (h1 : Ow b1 W v1 o) (h2 : Ow b2 W v2 o) (hl : o.length ≤ 100000) :
    Calls Tryd.prog 17 #[v1, v2] W fun e w' => e = .returned (.bool true) ∧ Below W.heap.size W w' := by
  by_cases h0 : o.length = 0
  · obtain ⟨a1, c1, rfl⟩ := ow_form h1
    obtain ⟨a2, c2, rfl⟩ := ow_form h2
    rw [h0]
    exact same_zero a1 a2 c1 c2 W
  · rcases h1.2 with ⟨_, q⟩ | ⟨g1, c1, cur1, hv1, _⟩
    · exact absurd q h0
    · rcases h2.2 with ⟨_, q⟩ | ⟨g2, c2, cur2, hv2, _⟩
      · exact absurd q h0
      · subst hv1 hv2
        refine same_yes g1 g2 o.length c1 c2 (fun i => o.getD i 0) W hl (fun i hi => ?_) (fun i hi => ?_)
        · have := World.ownsRow.cellAt h1 i (by omega)
          rw [this, List.getElem?_map, List.getElem?_eq_getElem hi, List.getD_eq_getElem?_getD, List.getElem?_eq_getElem hi]; rfl
        · have := World.ownsRow.cellAt h2 i (by omega)
          rw [this, List.getElem?_map, List.getElem?_eq_getElem hi, List.getD_eq_getElem?_getD, List.getElem?_eq_getElem hi]; rfl
end Go.Proofs.YtdhggknmefonkabDoor
