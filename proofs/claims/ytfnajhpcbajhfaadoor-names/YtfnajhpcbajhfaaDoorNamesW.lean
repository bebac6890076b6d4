/- The walk of the closed sentence Names: it returns true, and memory that was there is as it was. -/
import Derived.Test.YtfnajhpcbajhfaaDoorCode2
import Derived.Test.YtfnajhpcbajhfaaDoorDated
namespace Go.Proofs.YtfnajhpcbajhfaaDoor
open Go.RowKit

theorem other_code (s : Nat → Addr) (a : Addr) (w : World) (g : Sents s w) (hno : ∀ k, k < 11 → a ≠ s k) (hblk : ∃ c t, w.heap[a.block]? = some (.cells c t (0, 0))) :
    Calls Tryd.prog 9 #[.iface 56 (.pointer (some a))] w fun e w' => e = .returned (.tuple #[.int .i64 (-1), .int .i64 (-1)]) ∧ Below w.heap.size w w' :=
  code_gen s 11 a w g (Nat.le_refl _) hno (fun h => absurd h (by omega)) hblk

theorem alloc_blk (w : World) (c : Array Value) (t : TypeId) : ∃ c' t', (w.alloc (.cells c t)).heap[w.heap.size]? = some (.cells c' t' (0, 0)) :=
  ⟨c, t, by show (w.heap.push _)[w.heap.size]? = _; simp⟩

theorem new_any (t : ByteArray) (w : World) :
    Calls Tryd.prog 11 #[.string t] w fun e w' => e = .returned (.iface 56 (.pointer (some ⟨w.heap.size, 0, none⟩))) ∧ w' = w.alloc (.cells #[.string t] 58) := by
  go_enter Tryd.func11, Tryd.ntmps11
  go_wp2
  go_ret
  exact ⟨rfl, rfl⟩

set_option maxHeartbeats 1000000 in
theorem sameInts_yes (ba bb n ca cb : Nat) (z : Nat → Int) (w : World) (hn : n ≤ 1000) (ha : ∀ i, i < n → w.cell? ⟨ba, i, none⟩ = some (.int .i64 (z i))) (hb : ∀ i, i < n → w.cell? ⟨bb, i, none⟩ = some (.int .i64 (z i))) :
    Calls Tryd.prog 8 #[.slice (some ⟨ba, 0, none⟩) n ca, .slice (some ⟨bb, 0, none⟩) n cb] w fun e w' => e = .returned (.bool true) ∧ Below w.heap.size w w' := by
  have HA : Hid (∀ i, i < n → w.cell? ⟨ba, i, none⟩ = some (.int .i64 (z i))) := ha
  have HB : Hid (∀ i, i < n → w.cell? ⟨bb, i, none⟩ = some (.int .i64 (z i))) := hb
  clear ha hb
  go_enter Tryd.func8, Tryd.ntmps8
  go_wp2
  go_loopw [5] (fun i wr => ∃ k q : Nat, k ≤ n ∧ i = .int .i64 k ∧ wr = w.drewN q) (fun i _ => n - (intOf i).toNat)
  case atStart => exact ⟨0, 0, Nat.zero_le _, rfl, rfl⟩
  case round =>
    obtain ⟨k, q, hk, rfl, rfl⟩ := hrel
    by_cases hlt : k < n
    · have h1 := HA.out k hlt
      have h2 := HB.out k hlt
      go_wp2
      go_quiet (fail)
      go_wp2
      go_roundw
      case rel => exact ⟨k + 1, _, by omega, by go_num, rfl⟩
      case measure => simp [intOf]; omega
    · go_wp2
      go_ret
      exact ⟨rfl, drewN_below _ _⟩

/-- the numbers of package api -/
def nums19 : List Int := [2000, 2199, 73048, 100, 1000, 1000, 60, 20, 12, 40, 60, 1000, 10000, 40, 20, 1099511627776, 1048576, 80, 16]
def row19 : Obj := .cells #[.int .i64 2000, .int .i64 2199, .int .i64 73048, .int .i64 100, .int .i64 1000, .int .i64 1000, .int .i64 60, .int .i64 20, .int .i64 12, .int .i64 40, .int .i64 60, .int .i64 1000, .int .i64 10000, .int .i64 40, .int .i64 20, .int .i64 1099511627776, .int .i64 1048576, .int .i64 80, .int .i64 16] 3
theorem row19_cell (w : World) (i : Nat) (hi : i < 19) : (w.alloc row19).cell? ⟨w.heap.size, i, none⟩ = some (.int .i64 (nums19.getD i 0)) := by
  unfold row19
  rw [World.cell?_alloc_new]
  match i, hi with
  | 0, _ => rfl
  | 1, _ => rfl
  | 2, _ => rfl
  | 3, _ => rfl
  | 4, _ => rfl
  | 5, _ => rfl
  | 6, _ => rfl
  | 7, _ => rfl
  | 8, _ => rfl
  | 9, _ => rfl
  | 10, _ => rfl
  | 11, _ => rfl
  | 12, _ => rfl
  | 13, _ => rfl
  | 14, _ => rfl
  | 15, _ => rfl
  | 16, _ => rfl
  | 17, _ => rfl
  | 18, _ => rfl
  | j + 19, h => exact absurd h (by omega)

set_option maxHeartbeats 4000000 in
set_option maxRecDepth 100000 in
theorem names_all (s : Nat → Addr) (w : World) (g : Sents s w) :
    Calls Tryd.prog 3 #[] w fun e w' => e = .returned (.bool true) ∧ Below w.heap.size w w' := by
  have hS : Hid (_) := sameInts_yes w.heap.size (w.heap.size + 1) 19 19 19 (fun i => nums19.getD i 0) ((w.alloc row19).alloc row19) (by omega)
    (fun i hi => cell_stepB (row19_cell w i hi) ((Below.refl _ _).alloc (Nat.le_refl _) _) (Nat.le_refl _))
    (fun i hi => by have := row19_cell (w.alloc row19) i hi; simpa using this)
  go_enter Tryd.func3, Tryd.ntmps3
  go_wp2_with fail
  go_at_call 8
  refine (Calls.mono hS.out ?_)
  rintro e w1 ⟨rfl, k1⟩
  have k1' : Below w.heap.size w w1 := (((Below.refl _ _).alloc (Nat.le_refl _) _).alloc (by simp) _).trans (k1.mono (by simp; omega))
  have g1 := g.step k1'
  clear k1 hS
  have c0 := g1.c0
  have c1 := g1.c1
  have c2 := g1.c2
  have c3 := g1.c3
  have c4 := g1.c4
  have c5 := g1.c5
  have c6 := g1.c6
  have c7 := g1.c7
  have c8 := g1.c8
  have c9 := g1.c9
  have c10 := g1.c10
  go_wp2_with fail
  have gW := g1.alloc (row11 s)
  have hcell := row11_cell s w1
  have kW : Below w.heap.size w (w1.alloc (row11 s)) := k1'.alloc k1'.size _
  change Code.wp _ _ _ _ (w1.alloc (row11 s))
  generalize w1.alloc (row11 s) = W at gW hcell kW ⊢
  generalize w1.heap.size = N at hcell ⊢
  clear c0 c1 c2 c3 c4 c5 c6 c7 c8 c9 c10 g1 k1'
  go_loopw [4] (fun i wr => ∃ k : Nat, k ≤ 11 ∧ i = .int .i64 k ∧ Hid (Sents s wr ∧ Below w.heap.size w wr ∧ ∀ j, j < 11 → wr.cell? ⟨N, j, none⟩ = some (.iface 56 (.pointer (some (s j)))))) (fun i _ => 11 - (intOf i).toNat)
  case atStart => exact ⟨0, Nat.zero_le _, rfl, gW, kW, hcell⟩
  case round =>
    obtain ⟨k, hk, rfl, hH⟩ := hrel
    clear gW hcell kW
    obtain ⟨gr, kr, hr⟩ := hH.out
    clear hH
    have HR : Hid (_) := hr
    by_cases hlt : k < 11
    · have hc := hr k hlt
      clear hr
      have gF := gr.alloc (.cells #[.int .i64 7, .iface 56 (.pointer (some (s k)))] 31)
      have kF : Below wr.heap.size wr (wr.alloc (.cells #[.int .i64 7, .iface 56 (.pointer (some (s k)))] 31)) := (Below.refl _ _).alloc (Nat.le_refl _) _
      have hF : Hid (_) := code_fault s k wr.heap.size 0 7 _ gF hlt (by simp) (by simp)
      go_wp2_with fail
      go_at_call 9
      refine (Calls.mono hF.out ?_)
      rintro e w2 ⟨rfl, k2⟩
      have k2' := below_then kF k2
      have g2 := gF.step k2
      have hc2 := cell_stepB hc k2' (Nat.le_refl _)
      clear hF kF gF k2 hc
      go_wp2_with fail
      go_at_call 10
      refine (coded_err s k _ g2 hlt).mono ?_
      rintro e w3 ⟨rfl, k3⟩
      have g3 := g2.step k3
      have k3' := below_then k2' k3
      have kk := below_then kr k3'
      clear k3 g2 hc2 k2'
      go_wp2
      go_roundw
      case rel => exact ⟨k + 1, by omega, by go_num, g3, kk, fun j hj => cell_stepB (HR.out j hj) k3' (Nat.le_refl _)⟩
      case measure => simp [intOf]; omega
    · clear hr HR
      have gN := gr.alloc (.cells #[.string ⟨#[97, 110, 111, 116, 104, 101, 114, 32, 111, 110, 101]⟩] 58)
      have kN : Below wr.heap.size wr (wr.alloc (.cells #[.string ⟨#[97, 110, 111, 116, 104, 101, 114, 32, 111, 110, 101]⟩] 58)) := (Below.refl _ _).alloc (Nat.le_refl _) _
      have hN : Hid (_) := other_code s ⟨wr.heap.size, 0, none⟩ _ gN (fun j hj e => by
        obtain ⟨c, t, hb⟩ := gr.blk j hj
        have hl := blk_lt hb
        rw [← e] at hl
        exact Nat.lt_irrefl _ hl) (alloc_blk _ _ _)
      go_wp2_with fail
      go_at_call 11
      refine (new_any _ _).mono ?_
      rintro e w' ⟨rfl, rfl⟩
      go_wp2_with fail
      go_at_call 9
      refine (Calls.mono hN.out ?_)
      rintro e w2 ⟨rfl, k2⟩
      have kk := below_then kr (below_then kN k2)
      clear hN kN gN k2
      go_wp2_with (go_at_call 10; refine (coded_nil 0 _).mono ?_; rintro e w' ⟨rfl, rfl⟩)
      go_ret
      exact ⟨rfl, kk⟩
end Go.Proofs.YtfnajhpcbajhfaaDoor
