/- The contract of plain.Code at a Fault that wraps an error of package api: the error's number, and the Fault's place. -/
import Derived.Test.YtfnajhpcbajhfaaDoorCode
namespace Go.Proofs.YtfnajhpcbajhfaaDoor
open Go.RowKit

theorem as_hit_below (e t : Addr) (old : Value) (w : World) (hg : w.cell? ⟨11, 0, none⟩ = some (.iface 77 (.agg #[.pointer (some ⟨15, 25, none⟩)]))) (ht0 : w.cell? t = some old) (hf0 : w.frozen? t = false) :
    Calls Tryd.prog 27 #[.iface 29 (.pointer (some e)), .iface 54 (.pointer (some t))] w fun ev w' => ev = .returned (.bool true) ∧ Below t.block w w' ∧ w'.cell? t = some (.pointer (some e)) := by
  refine (as_hit e t old w hg ht0 hf0).mono ?_
  rintro ev w' ⟨rfl, rfl⟩
  have hlt := cell_lt ht0
  refine ⟨rfl, ?_, ?_⟩
  · exact (((((Below.refl _ _).alloc (by omega) _).alloc (by simp; omega) _).alloc (by simp; omega) _).alloc (by simp; omega) _).setCell (Nat.le_refl _) _
  · refine World.cell?_setCell_same _ _ _ (u := old) ?_
    rw [World.cell?_alloc_lt _ _ t (by simp; omega), World.cell?_alloc_lt _ _ t (by simp; omega), World.cell?_alloc_lt _ _ t (by simp; omega), World.cell?_alloc_lt _ _ t hlt]
    exact ht0

set_option maxHeartbeats 1000000 in
theorem code_fault (s : Nat → Addr) (j : Nat) (pb po : Nat) (p : Int) (w : World) (g : Sents s w) (hj : j < 11) (h0 : w.cell? ⟨pb, po, none⟩ = some (.int .i64 p)) (h1 : w.cell? ⟨pb, po + 1, none⟩ = some (.iface 56 (.pointer (some (s j))))) :
    Calls Tryd.prog 9 #[.iface 29 (.pointer (some ⟨pb, po, none⟩))] w fun e w' => e = .returned (.tuple #[.int .i64 (j + 1), .int .i64 p]) ∧ Below w.heap.size w w' := by
  have g1 := g.alloc (.cells #[.pointer none] 29)
  have hA : Hid (_) := as_hit_below ⟨pb, po, none⟩ ⟨w.heap.size, 0, none⟩ (.pointer none) (w.alloc (.cells #[.pointer none] 29)) g1.et (by simp) (by simp)
  have hp := cell_lt h0
  go_enter Tryd.func9, Tryd.ntmps9
  go_wp2_with fail
  go_at_call 27
  refine (Calls.mono hA.out ?_)
  rintro e w2 ⟨rfl, k2, ht⟩
  have k3 : Below w.heap.size w w2 := ((Below.refl _ _).alloc (Nat.le_refl _) _).trans k2
  have g2 := g.step k3
  have m0 := cell_stepB h0 k3 (Nat.le_refl _)
  have m1 := cell_stepB h1 k3 (Nat.le_refl _)
  clear g1 hA k2 h0 h1
  have c0 := g2.c0
  have c1 := g2.c1
  have c2 := g2.c2
  have c3 := g2.c3
  have c4 := g2.c4
  have c5 := g2.c5
  have c6 := g2.c6
  have c7 := g2.c7
  have c8 := g2.c8
  have c9 := g2.c9
  have c10 := g2.c10
  go_wp2_with fail
  have gW := g2.alloc (row11 s)
  have hcell := row11_cell s w2
  have kW : Below w.heap.size w (w2.alloc (row11 s)) := k3.alloc k3.size _
  have mW : (w2.alloc (row11 s)).cell? ⟨pb, po + 1, none⟩ = some (.iface 56 (.pointer (some (s j)))) :=
    cell_stepB m1 ((Below.refl _ _).alloc (Nat.le_refl _) _) (Nat.le_refl _)
  change Code.wp _ _ _ _ (w2.alloc (row11 s))
  generalize w2.alloc (row11 s) = W at gW hcell kW mW ⊢
  generalize w2.heap.size = N at hcell ⊢
  clear c0 c1 c2 c3 c4 c5 c6 c7 c8 c9 c10 g2 k3 m0 m1 ht
  go_loop [3, 29] (fun q i => q = .int .i64 p ∧ ∃ k : Nat, k ≤ j ∧ i = .int .i64 k) (fun _ i => j - (intOf i).toNat)
  case atStart => exact ⟨rfl, 0, Nat.zero_le _, rfl⟩
  case round =>
    obtain ⟨rfl, k, hk, rfl⟩ := hrel
    have hc := hcell k (by omega)
    clear hcell
    by_cases hlt : k < j
    · obtain ⟨ca, ta, hba⟩ := gW.blk j hj
      obtain ⟨cb, tb, hbb⟩ := gW.blk k (by omega)
      have hne := gW.ne j k hj (by omega) (by omega)
      have Q : Hid (_) := is_wrap_other pb po (s k) (s j) ca cb ta tb W mW hne hba hbb
      clear hba hbb hne
      go_wp2_with (go_at_call 28; refine (Calls.mono Q.out ?_); rintro e w' ⟨rfl, rfl⟩)
      go_round
      case rel => exact ⟨rfl, k + 1, by omega, by go_num⟩
      case measure => simp [intOf]; omega
    · obtain rfl : k = j := by omega
      have Q : Hid (_) := is_wrap_same pb po (s k) W mW
      go_wp2_with (go_at_call 28; refine (Calls.mono Q.out ?_); rintro e w' ⟨rfl, rfl⟩)
      go_ret2
      exact ⟨rfl, kW⟩
end Go.Proofs.YtfnajhpcbajhfaaDoor
