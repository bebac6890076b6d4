/- Package pool's cutText, of any text. -/
import Derived.Test.YtbocknocmggcpaaGreatDoorPlN
namespace Go.Proofs.YtbocknocmggcpaaGreatDoor
open Go Go.RowKit Go.Maps Cal
attribute [local go_sem] Oper.semAt_some

/-- the first text of a pool's text, and what stands behind its line end; ahead of them which error it is (0: none) -/
def cutK (l : List UInt8) : Nat × List UInt8 × List UInt8 :=
  if Lib.indexByte l 58 < 0 then (1, [], []) else
    match numOf (l.take (Lib.indexByte l 58).toNat) with
    | none => (1, [], [])
    | some n =>
      if 10000 < n then (2, [], []) else
        if ((l.drop ((Lib.indexByte l 58).toNat + 1)).length : Int) < n then (1, [], []) else
          if (l.drop ((Lib.indexByte l 58).toNat + 1))[n.toNat]? = some 10 then (0, (l.drop ((Lib.indexByte l 58).toNat + 1)).take n.toNat, (l.drop ((Lib.indexByte l 58).toNat + 1)).drop (n.toNat + 1)) else (1, [], [])
/-- its error -/
def cutE (s : Nat → Addr) (k : Nat) : Value := if k = 0 then .nilIface else perr s k

theorem has_one (l : List UInt8) (c : UInt8) : Lib.hasPrefix l [c] = true ↔ l[0]? = some c := by
  unfold Lib.hasPrefix
  cases l with
  | nil => simp
  | cons a r =>
    show (c == a && true) = true ↔ some a = some c
    rw [Bool.and_true, beq_iff_eq, Option.some.injEq]
    exact eq_comm

end Go.Proofs.YtbocknocmggcpaaGreatDoor
