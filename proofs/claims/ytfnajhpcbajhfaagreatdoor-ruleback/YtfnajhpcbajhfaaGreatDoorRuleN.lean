/- Contract of rule.readName: a weekday's name is read as it. -/
import Derived.Test.YtfnajhpcbajhfaaGreatDoorRuleR
namespace Go.Proofs.YtfnajhpcbajhfaaGreatDoor
open Go Go.RowKit Cal

set_option maxRecDepth 100000 in
theorem readName_any (d : Nat) (hd : d < 7) (w : World) (g : GlobR w) :
    Calls Tryz.prog 55 #[.string (bs (nm d))] w fun r w' => r = .returned (.tuple #[.int .i64 d, .bool true]) ∧ w' = w := by
  have n0 : w.cell? ⟨5, 0, none⟩ = some (.string ⟨#[109, 111]⟩) := g.days 0 (by omega)
  have n1 : w.cell? ⟨5, 1, none⟩ = some (.string ⟨#[116, 117]⟩) := g.days 1 (by omega)
  have n2 : w.cell? ⟨5, 2, none⟩ = some (.string ⟨#[119, 101]⟩) := g.days 2 (by omega)
  have n3 : w.cell? ⟨5, 3, none⟩ = some (.string ⟨#[116, 104]⟩) := g.days 3 (by omega)
  have n4 : w.cell? ⟨5, 4, none⟩ = some (.string ⟨#[102, 114]⟩) := g.days 4 (by omega)
  have n5 : w.cell? ⟨5, 5, none⟩ = some (.string ⟨#[115, 97]⟩) := g.days 5 (by omega)
  have n6 : w.cell? ⟨5, 6, none⟩ = some (.string ⟨#[115, 117]⟩) := g.days 6 (by omega)
  have hx0 : ∀ w, (Instr.index 53 (.agg #[.string ⟨#[109, 111]⟩, .string ⟨#[116, 117]⟩, .string ⟨#[119, 101]⟩, .string ⟨#[116, 104]⟩, .string ⟨#[102, 114]⟩, .string ⟨#[115, 97]⟩, .string ⟨#[115, 117]⟩]) (.int .i64 0)).run Tryz.prog w = .ok (.string ⟨#[109, 111]⟩) w := fun w => by kernel_rfl
  have hx1 : ∀ w, (Instr.index 53 (.agg #[.string ⟨#[109, 111]⟩, .string ⟨#[116, 117]⟩, .string ⟨#[119, 101]⟩, .string ⟨#[116, 104]⟩, .string ⟨#[102, 114]⟩, .string ⟨#[115, 97]⟩, .string ⟨#[115, 117]⟩]) (.int .i64 1)).run Tryz.prog w = .ok (.string ⟨#[116, 117]⟩) w := fun w => by kernel_rfl
  have hx2 : ∀ w, (Instr.index 53 (.agg #[.string ⟨#[109, 111]⟩, .string ⟨#[116, 117]⟩, .string ⟨#[119, 101]⟩, .string ⟨#[116, 104]⟩, .string ⟨#[102, 114]⟩, .string ⟨#[115, 97]⟩, .string ⟨#[115, 117]⟩]) (.int .i64 2)).run Tryz.prog w = .ok (.string ⟨#[119, 101]⟩) w := fun w => by kernel_rfl
  have hx3 : ∀ w, (Instr.index 53 (.agg #[.string ⟨#[109, 111]⟩, .string ⟨#[116, 117]⟩, .string ⟨#[119, 101]⟩, .string ⟨#[116, 104]⟩, .string ⟨#[102, 114]⟩, .string ⟨#[115, 97]⟩, .string ⟨#[115, 117]⟩]) (.int .i64 3)).run Tryz.prog w = .ok (.string ⟨#[116, 104]⟩) w := fun w => by kernel_rfl
  have hx4 : ∀ w, (Instr.index 53 (.agg #[.string ⟨#[109, 111]⟩, .string ⟨#[116, 117]⟩, .string ⟨#[119, 101]⟩, .string ⟨#[116, 104]⟩, .string ⟨#[102, 114]⟩, .string ⟨#[115, 97]⟩, .string ⟨#[115, 117]⟩]) (.int .i64 4)).run Tryz.prog w = .ok (.string ⟨#[102, 114]⟩) w := fun w => by kernel_rfl
  have hx5 : ∀ w, (Instr.index 53 (.agg #[.string ⟨#[109, 111]⟩, .string ⟨#[116, 117]⟩, .string ⟨#[119, 101]⟩, .string ⟨#[116, 104]⟩, .string ⟨#[102, 114]⟩, .string ⟨#[115, 97]⟩, .string ⟨#[115, 117]⟩]) (.int .i64 5)).run Tryz.prog w = .ok (.string ⟨#[115, 97]⟩) w := fun w => by kernel_rfl
  have hx6 : ∀ w, (Instr.index 53 (.agg #[.string ⟨#[109, 111]⟩, .string ⟨#[116, 117]⟩, .string ⟨#[119, 101]⟩, .string ⟨#[116, 104]⟩, .string ⟨#[102, 114]⟩, .string ⟨#[115, 97]⟩, .string ⟨#[115, 117]⟩]) (.int .i64 6)).run Tryz.prog w = .ok (.string ⟨#[115, 117]⟩) w := fun w => by kernel_rfl
  clear g
  have hcases : d = 0 ∨ d = 1 ∨ d = 2 ∨ d = 3 ∨ d = 4 ∨ d = 5 ∨ d = 6 := by omega
  rcases hcases with rfl | rfl | rfl | rfl | rfl | rfl | rfl
  · change Calls _ _ #[.string ⟨#[109, 111]⟩] _ _
    go_enter Tryz.func55, Tryz.ntmps55
    go_wp2
    go_loop [4, 5, 7] (fun _ _ i => ∃ k : Nat, k ≤ 0 ∧ i = .int .i64 k) (fun _ _ i => 7 - (intOf i).toNat)
    case atStart => exact ⟨0, by omega, rfl⟩
    case round =>
      obtain ⟨k, hk, rfl⟩ := hrel
      have hkc : k = 0 := by omega
      clear hk
      rcases hkc with rfl
      · go_wp2
        go_ret2
        exact ⟨rfl, rfl⟩
  · change Calls _ _ #[.string ⟨#[116, 117]⟩] _ _
    go_enter Tryz.func55, Tryz.ntmps55
    go_wp2
    go_loop [4, 5, 7] (fun _ _ i => ∃ k : Nat, k ≤ 1 ∧ i = .int .i64 k) (fun _ _ i => 7 - (intOf i).toNat)
    case atStart => exact ⟨0, by omega, rfl⟩
    case round =>
      obtain ⟨k, hk, rfl⟩ := hrel
      have hkc : k = 0 ∨ k = 1 := by omega
      clear hk
      rcases hkc with rfl | rfl
      · go_wp2
        go_round
        case rel => exact ⟨1, by omega, rfl⟩
        case measure => simp [intOf]
      · go_wp2
        go_ret2
        exact ⟨rfl, rfl⟩
  · change Calls _ _ #[.string ⟨#[119, 101]⟩] _ _
    go_enter Tryz.func55, Tryz.ntmps55
    go_wp2
    go_loop [4, 5, 7] (fun _ _ i => ∃ k : Nat, k ≤ 2 ∧ i = .int .i64 k) (fun _ _ i => 7 - (intOf i).toNat)
    case atStart => exact ⟨0, by omega, rfl⟩
    case round =>
      obtain ⟨k, hk, rfl⟩ := hrel
      have hkc : k = 0 ∨ k = 1 ∨ k = 2 := by omega
      clear hk
      rcases hkc with rfl | rfl | rfl
      · go_wp2
        go_round
        case rel => exact ⟨1, by omega, rfl⟩
        case measure => simp [intOf]
      · go_wp2
        go_round
        case rel => exact ⟨2, by omega, rfl⟩
        case measure => simp [intOf]
      · go_wp2
        go_ret2
        exact ⟨rfl, rfl⟩
  · change Calls _ _ #[.string ⟨#[116, 104]⟩] _ _
    go_enter Tryz.func55, Tryz.ntmps55
    go_wp2
    go_loop [4, 5, 7] (fun _ _ i => ∃ k : Nat, k ≤ 3 ∧ i = .int .i64 k) (fun _ _ i => 7 - (intOf i).toNat)
    case atStart => exact ⟨0, by omega, rfl⟩
    case round =>
      obtain ⟨k, hk, rfl⟩ := hrel
      have hkc : k = 0 ∨ k = 1 ∨ k = 2 ∨ k = 3 := by omega
      clear hk
      rcases hkc with rfl | rfl | rfl | rfl
      · go_wp2
        go_round
        case rel => exact ⟨1, by omega, rfl⟩
        case measure => simp [intOf]
      · go_wp2
        go_round
        case rel => exact ⟨2, by omega, rfl⟩
        case measure => simp [intOf]
      · go_wp2
        go_round
        case rel => exact ⟨3, by omega, rfl⟩
        case measure => simp [intOf]
      · go_wp2
        go_ret2
        exact ⟨rfl, rfl⟩
  · change Calls _ _ #[.string ⟨#[102, 114]⟩] _ _
    go_enter Tryz.func55, Tryz.ntmps55
    go_wp2
    go_loop [4, 5, 7] (fun _ _ i => ∃ k : Nat, k ≤ 4 ∧ i = .int .i64 k) (fun _ _ i => 7 - (intOf i).toNat)
    case atStart => exact ⟨0, by omega, rfl⟩
    case round =>
      obtain ⟨k, hk, rfl⟩ := hrel
      have hkc : k = 0 ∨ k = 1 ∨ k = 2 ∨ k = 3 ∨ k = 4 := by omega
      clear hk
      rcases hkc with rfl | rfl | rfl | rfl | rfl
      · go_wp2
        go_round
        case rel => exact ⟨1, by omega, rfl⟩
        case measure => simp [intOf]
      · go_wp2
        go_round
        case rel => exact ⟨2, by omega, rfl⟩
        case measure => simp [intOf]
      · go_wp2
        go_round
        case rel => exact ⟨3, by omega, rfl⟩
        case measure => simp [intOf]
      · go_wp2
        go_round
        case rel => exact ⟨4, by omega, rfl⟩
        case measure => simp [intOf]
      · go_wp2
        go_ret2
        exact ⟨rfl, rfl⟩
  · change Calls _ _ #[.string ⟨#[115, 97]⟩] _ _
    go_enter Tryz.func55, Tryz.ntmps55
    go_wp2
    go_loop [4, 5, 7] (fun _ _ i => ∃ k : Nat, k ≤ 5 ∧ i = .int .i64 k) (fun _ _ i => 7 - (intOf i).toNat)
    case atStart => exact ⟨0, by omega, rfl⟩
    case round =>
      obtain ⟨k, hk, rfl⟩ := hrel
      have hkc : k = 0 ∨ k = 1 ∨ k = 2 ∨ k = 3 ∨ k = 4 ∨ k = 5 := by omega
      clear hk
      rcases hkc with rfl | rfl | rfl | rfl | rfl | rfl
      · go_wp2
        go_round
        case rel => exact ⟨1, by omega, rfl⟩
        case measure => simp [intOf]
      · go_wp2
        go_round
        case rel => exact ⟨2, by omega, rfl⟩
        case measure => simp [intOf]
      · go_wp2
        go_round
        case rel => exact ⟨3, by omega, rfl⟩
        case measure => simp [intOf]
      · go_wp2
        go_round
        case rel => exact ⟨4, by omega, rfl⟩
        case measure => simp [intOf]
      · go_wp2
        go_round
        case rel => exact ⟨5, by omega, rfl⟩
        case measure => simp [intOf]
      · go_wp2
        go_ret2
        exact ⟨rfl, rfl⟩
  · change Calls _ _ #[.string ⟨#[115, 117]⟩] _ _
    go_enter Tryz.func55, Tryz.ntmps55
    go_wp2
    go_loop [4, 5, 7] (fun _ _ i => ∃ k : Nat, k ≤ 6 ∧ i = .int .i64 k) (fun _ _ i => 7 - (intOf i).toNat)
    case atStart => exact ⟨0, by omega, rfl⟩
    case round =>
      obtain ⟨k, hk, rfl⟩ := hrel
      have hkc : k = 0 ∨ k = 1 ∨ k = 2 ∨ k = 3 ∨ k = 4 ∨ k = 5 ∨ k = 6 := by omega
      clear hk
      rcases hkc with rfl | rfl | rfl | rfl | rfl | rfl | rfl
      · go_wp2
        go_round
        case rel => exact ⟨1, by omega, rfl⟩
        case measure => simp [intOf]
      · go_wp2
        go_round
        case rel => exact ⟨2, by omega, rfl⟩
        case measure => simp [intOf]
      · go_wp2
        go_round
        case rel => exact ⟨3, by omega, rfl⟩
        case measure => simp [intOf]
      · go_wp2
        go_round
        case rel => exact ⟨4, by omega, rfl⟩
        case measure => simp [intOf]
      · go_wp2
        go_round
        case rel => exact ⟨5, by omega, rfl⟩
        case measure => simp [intOf]
      · go_wp2
        go_round
        case rel => exact ⟨6, by omega, rfl⟩
        case measure => simp [intOf]
      · go_wp2
        go_ret2
        exact ⟨rfl, rfl⟩

end Go.Proofs.YtfnajhpcbajhfaaGreatDoor
