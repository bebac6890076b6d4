/- Contract of rule.daysText. -/
import Derived.Test.YtfnajhpcbajhfaaGreatDoorRuleV
import Derived.Test.YtfnajhpcbajhfaaGreatDoorJoinW
import Derived.WalkKit
namespace Go.Proofs.YtfnajhpcbajhfaaGreatDoor
open Go.RowKit Cal

theorem nm7 (m : Nat) (h : m ≤ 6) {w : World} (g : GlobR w) : w.cell? ⟨5, m, none⟩ = some (.string (bs (nm m))) := g.days m (by omega)

set_option maxHeartbeats 1600000 in
set_option maxRecDepth 100000 in
theorem daysText_any (sl : Value) (ds : List Int) (w : World) (g : GlobR w) (hd : Days w sl ds) (h0 : ds ≠ []) (hD : bD ds) :
    Calls Tryz.prog 19 #[sl] w fun e w' => e = .returned (.string (bs (Lib.join (ds.map nm) [44]))) ∧ Below w.heap.size w w' := by
  obtain ⟨a, cap, rfl, h20, hcap, hc⟩ := hd
  obtain ⟨i0, hi, hz0, hz1, hz2⟩ := info_parts info_str
  have HC : Hid (_) := hc
  have HD : Hid (bD ds) := hD
  have G : Hid (GlobR w) := g
  have H0 : Hid (ds ≠ []) := h0
  clear hc hD g h0
  go_enter Tryz.func19, Tryz.ntmps19
  go_wp2
  go_loopw [3, 5, 8] (fun v d i wr => ∃ k : Nat, k ≤ ds.length ∧ i = .int .i64 k ∧ wr.ownsRow w.heap.size 9 1 v k (((ds.take k).map nm).map sv) ∧ Below w.heap.size w wr) (fun _ _ i _ => ds.length - (intOf i).toNat)
  case atStart => exact ⟨0, Nat.zero_le _, rfl, World.ownsRow_nil _ _ _ _, Below.refl _ _⟩
  case round =>
    obtain ⟨k, hk, rfl, hown, hB⟩ := hrel
    by_cases hlt : k < ds.length
    · obtain ⟨blk, rfl, hblk, hcell⟩ := HC.out k hlt
      have hdk := HD.out ds[k] (List.getElem_mem hlt)
      have HT : Hid (ds.take (k + 1) = ds.take k ++ [ds[k]]) := List.take_succ_eq_append_getElem hlt
      have hcell2 := cell_step hcell hB
      clear hcell HC HD H0
      generalize ds[k] = d at hcell2 hdk HT
      obtain ⟨m, rfl⟩ : ∃ m : Nat, d = m := ⟨d.toNat, by omega⟩
      have hm6 : m ≤ 6 := by omega
      have hn2 := nm7 m hm6 (G.out.step hB)
      clear hdk
      generalize hbm : bs (nm m) = bm at hn2
      have HBM : Hid (bs (nm m) = bm) := hbm
      clear hbm
      generalize hL : ((ds.take k).map nm).map sv = xs at hown
      have HL : Hid (((ds.take k).map nm).map sv = xs) := hL
      clear hL
      go_wp2_with (first
        | (at_builtin; refine wpList_append_own _ rfl _ _ 45 rfl w.heap.size 9 i0 (.string ⟨#[]⟩) 1 16 Tryz.underlying45 hi hz0 hz1 hz2 rfl (by decide) _ _ _ rfl (hown.alloc _) ⟨wr.heap.size, 0, none⟩ 1 1 [.string bm] rfl rfl ?c1 ?c2 ?c3 ?c4 ?c5 ?_)
        | go_in)
      case c1 =>
        intro j u hj
        match j, hj with
        | 0, hj => simp at hj; subst hj; simp [Addr.add]
      case c2 => intro u hu; simp at hu; subst hu; rfl
      case c3 => unfold maxLen; omega
      case c4 => omega
      case c5 => have := hB.size; simp; omega
      · intro v' w1 hown' hgrow _
        have hb1 : Below w.heap.size w w1 := (hB.alloc hB.size _).grown hgrow (by have := hB.size; simp; omega) (fun j ej => (hown.lt j ej).1)
        have HOW : Hid (_) := hown'
        clear hown'
        go_wp2
        go_roundw
        case rel =>
          refine ⟨k + 1, by omega, by go_num, ?_, hb1⟩
          rw [HT.out, List.map_append, List.map_append]
          show w1.ownsRow _ _ _ _ _ (_ ++ [Value.string (bs (nm m))])
          rw [HBM.out, HL.out]; exact HOW.out
        case measure => simp [intOf]; omega
    · have ek : k = ds.length := by omega
      subst ek
      have hown2 : wr.ownsRow w.heap.size 9 1 u3 (ds.map nm).length ((ds.map nm).map sv) := by
        rw [List.length_map]; rw [List.take_length] at hown; exact hown
      have J := join_any u3 w.heap.size (ds.map nm) [44] wr (by simpa using H0.out) hown2 (by simp; omega) (by have := days_len ds; omega)
      have JJ : Hid (_) := J
      clear J hown hown2 HC HD
      go_wp2_with (go_at_call 21; refine Calls.mono JJ.out ?_; rintro e w1 ⟨rfl, hb1⟩)
      go_ret
      exact ⟨rfl, hB.trans (hb1.mono hB.size)⟩
end Go.Proofs.YtfnajhpcbajhfaaGreatDoor
