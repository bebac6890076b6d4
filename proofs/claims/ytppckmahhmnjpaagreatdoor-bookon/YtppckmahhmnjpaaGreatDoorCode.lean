/- errors.Is, errors.As over package api's errors; plain.Code and the law's own coded -/
import Derived.Test.YtppckmahhmnjpaaGreatDoorProg
import Derived.WalkKit
import Derived.WalkSpells
import Derived.WalkLawsBesides
import Derived.LaidEql
import Derived.Stop.Asserts
import Derived.RowKitTokens
namespace Go.Proofs.YtppckmahhmnjpaaGreatDoor
open Go.RowKit Go.Extern.Stop Go.Stop Go.Extern

/-- what the model does at a function without a body -/
def ext (fn : Func) : Array Value → Sem Value := (Extern.find fn).getD (fun _ => pure (.bool false))
theorem isComp : (Tryz.prog.info? 150).map (·.comparable) = some true := by kernel_rfl
theorem isSize : (Tryz.prog.info? 167).map (·.size) = some 1 := by kernel_rfl
end Go.Proofs.YtppckmahhmnjpaaGreatDoor
namespace Go.Proofs.YtppckmahhmnjpaaGreatDoor
open Go.RowKit Go.Extern.Stop Go.Stop Go.Extern

theorem rlm (z : Sem Value) (f : TypeId → Addr → Nat → Nat → Sem Value) (v : Value) :
    ReflectliteValue.method z f #[v] = (do match ← ReflectliteValue.parts v with | none => z | some (t, a, fl) => f t a fl (fl % 32)) := rfl
theorem setMatch (v x : Value) (f : Value → Value → Sem Value) (g : Array Value → Sem Value) : ReflectliteValue.set.match_3 (fun _ => Sem Value) #[v, x] f g = f v x := rfl
end Go.Proofs.YtppckmahhmnjpaaGreatDoor
namespace Go.Proofs.YtppckmahhmnjpaaGreatDoor
open Go.RowKit Go.Extern.Stop Go.Stop Go.Extern

end Go.Proofs.YtppckmahhmnjpaaGreatDoor
namespace Go.Proofs.YtppckmahhmnjpaaGreatDoor
open Go.RowKit Go.Extern.Stop Go.Stop Go.Extern

end Go.Proofs.YtppckmahhmnjpaaGreatDoor
namespace Go.Proofs.YtppckmahhmnjpaaGreatDoor
open Go.RowKit

theorem cell_lt {w : World} {p : Addr} {v : Value} (h : w.cell? p = some v) : p.block < w.heap.size := by
  rcases Nat.lt_or_ge p.block w.heap.size with hl | hl
  · exact hl
  · simp [World.cell?, Array.getElem?_eq_none hl] at h
theorem blk_lt {w : World} {b : Nat} {o : Obj} (h : w.heap[b]? = some o) : b < w.heap.size := by
  rcases Nat.lt_or_ge b w.heap.size with hl | hl
  · exact hl
  · rw [Array.getElem?_eq_none hl] at h; exact absurd h (by simp)
theorem cell_stepB {w w' : World} {p : Addr} {v : Value} {B : Nat} (h : w.cell? p = some v) (hb : Below B w w') (hB : w.heap.size ≤ B) : w'.cell? p = some v := by
  rw [hb.cell (p := p) (Nat.lt_of_lt_of_le (cell_lt h) hB)]; exact h
/-- the row of the eleven errors, as Code lays it -/
def row11 (s : Nat → Addr) : Obj := .cells #[.iface 150 (.pointer (some (s 0))), .iface 150 (.pointer (some (s 1))), .iface 150 (.pointer (some (s 2))), .iface 150 (.pointer (some (s 3))), .iface 150 (.pointer (some (s 4))), .iface 150 (.pointer (some (s 5))), .iface 150 (.pointer (some (s 6))), .iface 150 (.pointer (some (s 7))), .iface 150 (.pointer (some (s 8))), .iface 150 (.pointer (some (s 9))), .iface 150 (.pointer (some (s 10)))] 44
theorem row11_cell (s : Nat → Addr) (w : World) (k : Nat) (hk : k < 11) : (w.alloc (row11 s)).cell? ⟨w.heap.size, k, none⟩ = some (.iface 150 (.pointer (some (s k)))) := by
  unfold row11
  rw [World.cell?_alloc_new]
  match k, hk with
  | 0, _ => rfl
  | 1, _ => rfl
  | 2, _ => rfl
  | 3, _ => rfl
  | 4, _ => rfl
  | 5, _ => rfl
  | 6, _ => rfl
  | 7, _ => rfl
  | 8, _ => rfl
  | 9, _ => rfl
  | 10, _ => rfl

theorem ret_two {k : IntKind} {a b : Int} {v : Value} (h : a = b) : Ending.returned (.tuple #[.int k a, v]) = .returned (.tuple #[.int k b, v]) := by rw [h]
/-- the number of the j-th error; beyond them: another one -/
def cnum (j : Nat) : Int := if j < 11 then (j : Int) + 1 else -1
theorem cnum_lt {j : Nat} (h : j < 11) : cnum j = (j : Int) + 1 := by unfold cnum; rw [if_pos h]
theorem cnum_ge {j : Nat} (h : ¬ j < 11) : cnum j = -1 := by unfold cnum; rw [if_neg h]

end Go.Proofs.YtppckmahhmnjpaaGreatDoor
