/- Package pool's Text. -/
import Derived.Test.YtfodjcdpggjcnaaGreatDoorPlN
namespace Go.Proofs.YtfodjcdpggjcnaaGreatDoor
open Go Go.RowKit Go.Maps Cal
attribute [local go_sem] Oper.semAt_some

/-- a pool's text -/
noncomputable def plT (ts : List ByteArray) : List UInt8 := ts.flatMap fun t => Lib.itoa t.size ++ [58] ++ t.data.toList ++ [10]
theorem plT_snoc (ts : List ByteArray) (t : ByteArray) : plT (ts ++ [t]) = plT ts ++ Lib.itoa t.size ++ [58] ++ t.data.toList ++ [10] := by
  unfold plT
  rw [List.flatMap_append, List.flatMap_cons, List.flatMap_nil, List.append_nil]
  simp only [List.append_assoc]
theorem plT_cons (t : ByteArray) (ts : List ByteArray) : plT (t :: ts) = Lib.itoa t.size ++ [58] ++ t.data.toList ++ [10] ++ plT ts := rfl
theorem plT_len {ts : List ByteArray} {B : Nat} (hB : B ≤ 999999) (h : ∀ t ∈ ts, t.size ≤ B) : (plT ts).length ≤ ts.length * (B + 8) := by
  induction ts with
  | nil => simp [plT]
  | cons t r ih =>
    have h1 := h t List.mem_cons_self
    have h2 := itoa_len (t.size : Int) (by omega) (by omega)
    have h3 := ih (fun x hx => h x (List.mem_cons_of_mem _ hx))
    have h4 : t.data.toList.length = t.size := (Lib.size_eq t).symm
    rw [plT_cons]
    simp only [List.length_append, List.length_cons, List.length_nil]
    rw [Nat.add_mul]
    omega

end Go.Proofs.YtfodjcdpggjcnaaGreatDoor
