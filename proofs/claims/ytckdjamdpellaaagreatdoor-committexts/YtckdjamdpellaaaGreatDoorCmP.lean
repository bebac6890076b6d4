/- Package commit's New; package pool's Copy of an empty pool; a graph in memory. -/
import Derived.Test.YtckdjamdpellaaaGreatDoorCmL
import Derived.Test.YtckdjamdpellaaaGreatDoorPlB
import Derived.Shelf.SlMaps.Clone
import Derived.Deep.RegionWith
namespace Go.Proofs.YtckdjamdpellaaaGreatDoor
open Go Go.RowKit Go.Maps Go.Sort Cal
attribute [local go_sem] Oper.semAt_some

set_option maxHeartbeats 1000000 in
set_option maxRecDepth 100000 in
theorem mcloneC_any (b : Nat) (es : Array MapEntry) (clock : Nat) (w : World) (hb : w.heap[b]? = some (.map es clock)) :
    Calls Tryz.prog 62 #[.map (some b)] w fun e w' => e = .returned (.map (some w.heap.size)) ∧ w' = w.alloc (.map es clock) := by
  have hq := fun w => run_eql_map_nil_sl (P := Tryz.prog) w 85 _ _ (some b) Tryz.underlying85
  go_enter Tryz.func62, Tryz.ntmps62
  go_wp2
  rw [run_callFunc_extern Tryz.func83 (by kernel_rfl) (by kernel_rfl) (by kernel_rfl) (e := Extern.MapsClone.clone) (by kernel_rfl), run_maps_clone_sl w 85 hb]
  simp only [Result.andThen]
  rw [Oper.upon_value]
  go_wp2
  rw [run_typeAssert_map_sl _ 85 20 _ _ _ Tryz.underlying85]
  simp only [Result.andThen]
  rw [Oper.upon_value]
  go_wp2
  go_ret
  exact ⟨rfl, rfl⟩
theorem pl_drewC (w : World) : Below w.heap.size w w.drew := ⟨rfl, rfl, rfl, Nat.le_refl _, fun _ _ => rfl⟩
theorem cloneS_nil (w : World) : Calls Tryz.prog 61 #[.slice none 0 0] w fun r w' => r = .returned (.slice none 0 0) ∧ w' = w := by
  have q22 : ∀ (w : World) (a : Option Addr) (n c n' c' : Nat), (binOp .eql 44 (.slice a n c) (.slice none n' c')).run Tryz.prog w = .ok (.bool a.isNone) w := fun w a n c n' c' => Lib.run_eql_slice_nil w _ _ a n c n' c' Tryz.underlying44
  go_enter Tryz.func61, Tryz.ntmps61
  go_wp2
  go_ret
  exact ⟨rfl, rfl⟩
set_option maxHeartbeats 2000000 in
set_option maxRecDepth 100000 in
theorem pcopy_0 (lo pb mb : Nat) (w : World) (h : PoolAt lo w pb mb (.slice none 0 0) []) :
    Calls Tryz.prog 42 #[.pointer (some ⟨pb, 0, none⟩)] w fun r w' => ∃ qb mq, r = .returned (.pointer (some ⟨qb, 0, none⟩)) ∧ PoolAt w'.heap.size w' qb mq (.slice none 0 0) [] ∧ w.heap.size ≤ qb ∧ w.heap.size ≤ mq ∧ Below w.heap.size w w' := by
  obtain ⟨D, hom, hlook⟩ := h.map
  have hom' := hom
  obtain ⟨es, clock, hbm, hfit⟩ := hom'
  have MC : Hid (∀ W, Below w.heap.size w W → Calls Tryz.prog 62 #[.map (some mb)] W fun r w' => r = .returned (.map (some W.heap.size)) ∧ w' = W.alloc (.map es clock)) := fun W hW => mcloneC_any mb es clock W ((hW.block mb (Array.getElem?_eq_some_iff.1 hbm).1).trans hbm)
  have XC : Hid (∀ W, Below w.heap.size w W → W.cell? ⟨pb, 0, none⟩ = some (.slice none 0 0) ∧ W.cell? ⟨pb, 1, none⟩ = some (.map (some mb))) := fun W hW => (h.step hW).cells
  have CS : Hid (∀ W, Calls Tryz.prog 61 #[.slice none 0 0] W fun r w' => r = .returned (.slice none 0 0) ∧ w' = W) := fun W => cloneS_nil W
  have HM : Hid (∀ (W : World) (b : Nat), W.heap[b]? = some (Obj.map es clock) → ∃ D : DataW Value, W.ownsMap Tryz.prog 9 (plainElem Tryz.prog 3) b ([] : List ByteArray).length D ∧ PLook D []) := fun W b hb => ⟨D, ⟨es, clock, hb, hfit⟩, hlook⟩
  obtain ⟨x0, x1⟩ := XC.out w (Below.refl _ _)
  clear h hbm hom hfit hlook
  go_enter Tryz.func42, Tryz.ntmps42
  go_upto_region 1 with (fail)
  go_region_with (first
    | (go_at_call 61; refine Calls.mono (CS.out _) ?_; rintro r wC ⟨rfl, hqC⟩; have hqC := hqC.symm; subst hqC)
    | (go_at_call 62; refine Calls.mono (MC.out _ ?_) ?_; (first | with_reducible assumption | with_reducible exact pl_drewC _); rintro r wM ⟨rfl, hqM⟩; have kM : Below w.heap.size w wM := (by rw [hqM]; exact below_then (pl_drewC _) (below_alloc _ _)); have hbM : wM.heap[w.heap.size]? = some (.map es clock) := (by rw [hqM]; exact block_at _ rfl); clear hqM; obtain ⟨xM0, xM1⟩ := XC.out wM kM))
  all_goals
    go_wp2
    go_ret
    have hlt := (Array.getElem?_eq_some_iff.1 hbM).1
    exact ⟨wM.heap.size, w.heap.size, rfl, ⟨by rw [World.size_alloc]; omega, by rw [World.size_alloc]; omega, by omega, Nat.le_refl _, block_at _ rfl, World.ownsRow_nil _ _ _ _, HM.out _ _ (block_alloc _ hbM)⟩, Nat.le_of_lt hlt, Nat.le_refl _, below_then kM (below_alloc _ _)⟩
end Go.Proofs.YtckdjamdpellaaaGreatDoor
