/- Contract of rule.Text, once and otherwise. -/
import Derived.Test.YtfnajhpcbajhfaaGreatDoorRuleX
namespace Go.Proofs.YtfnajhpcbajhfaaGreatDoor
open Go.RowKit Cal

theorem rtext_once (f : ByteArray) (e : Int) (sl : Value) (c u : Int) (ds : List Int) (t : List UInt8) (w : World) (hd : Days w sl ds) (hw : Well (rd f e ds c u))
    (hne : (f.toList == [111, 110, 99, 101]) = true) :
    Calls Tryz.prog 9 #[rv f e sl c u] w fun r w' => r = .returned (.string (bs (rtext (rd f e ds c u) t))) ∧ Below w.heap.size w w' := by
  have D : Hid (Days w sl ds) := hd
  obtain ⟨a, cap, rfl, h20, hcap, hc⟩ := hd
  have W : Hid (Well (rd f e ds c u)) := hw
  have HR : Hid (bs (rtext (rd f e ds c u) t) = ⟨#[111, 110, 99, 101]⟩) := by
    unfold rtext words
    rw [if_pos (show (rd f e ds c u).freq = onceW by rw [beq_iff_eq] at hne; exact hne), Lib.join_one]
    exact rfl
  rw [HR.out]
  clear hc hw HR
  unfold rv
  go_enter Tryz.func9, Tryz.ntmps9
  go_wp2_with (go_at_call 7; refine (check_ok f e _ c u ds _ (D.out.step (below_alloc _ _)) W.out).mono ?_; rintro r w1 ⟨rfl, hb1⟩; obtain ⟨x0, x1, x2, x3, x4⟩ := box5 hb1)
  go_ret
  exact ⟨rfl, below_then (below_alloc _ _) hb1⟩

theorem rtext_any (f : ByteArray) (e : Int) (sl : Value) (c u : Int) (ds : List Int) (t : List UInt8) (w : World) (g : GlobR w) (hd : Days w sl ds) (hw : Well (rd f e ds c u)) (ht : UT (rd f e ds c u) t) :
    Calls Tryz.prog 9 #[rv f e sl c u] w fun r w' => r = .returned (.string (bs (rtext (rd f e ds c u) t))) ∧ Below w.heap.size w w' := by
  cases hne : (f.toList == [111, 110, 99, 101]) with
  | true => exact rtext_once f e sl c u ds t w hd hw hne
  | false => exact rtext_more f e sl c u ds t w g hd hw ht hne
end Go.Proofs.YtfnajhpcbajhfaaGreatDoor
