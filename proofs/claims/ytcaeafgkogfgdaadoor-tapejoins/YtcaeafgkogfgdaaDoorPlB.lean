/- Texts: Put, putNew. -/
import Derived.Test.YtcaeafgkogfgdaaDoorPlA
import Derived.Lib.SmallJoins
import Derived.Deep.DeepCutAuto
import Derived.WalkArith
namespace Go.Proofs.YtcaeafgkogfgdaaDoor
open Go Go.RowKit Go.Maps Cal
attribute [local go_sem] Oper.semAt_some

theorem pl_drew (w : World) (n : Nat) : Below w.heap.size w (w.drewN n) := ⟨rfl, rfl, rfl, Nat.le_refl _, fun _ _ => rfl⟩
theorem pl_info : (Tryd.prog.info? 9).map (fun i => (i.zero, i.size, i.bytes)) = some (some (.string ⟨#[]⟩), 1, 16) := by kernel_rfl
/-- an error of a pool: 1 text, 2 bound, 3 exist, 4 full, 5 none -/
def perr (s : Nat → Addr) (k : Nat) : Value := .iface 90 (.pointer (some (s (if k = 1 then 0 else if k = 2 then 1 else if k = 3 then 3 else if k = 4 then 4 else 2))))

end Go.Proofs.YtcaeafgkogfgdaaDoor
