/- strings.Builder: the library's contracts of WriteString and String, laid at this program. -/
import Derived.Test.YtbocknocmggcpaaGreatDoorPlB
import Derived.Shelf.Strings.BuilderK
namespace Go.Proofs
open Go.Shelf
def Tryz.plys166_ren : Go.Shelf.Ren := ⟨fun | 166 => 19 | 169 => 23 | 240 => 48 | 276 => 63 | n => n, fun | 9 => 9 | 3 => 3 | 4 => 4 | 0 => 0 | 20 => 20 | 72 => 50 | 70 => 47 | 37 => 48 | 75 => 42 | 164 => 118 | 5 => 5 | 80 => 38 | 127 => 99 | n => n, fun | n => n⟩
theorem Tryz.plys166 : Go.Proofs.Lays.n166 Tryz.prog Tryz.plys166_ren := {
  mixed := by kernel_rfl
  f166 := Tryz.func19.trans (congrArg some (by kernel_rfl))
  f240 := Tryz.func48.trans (congrArg some (by kernel_rfl))
  f276 := Tryz.func63.trans (congrArg some (by kernel_rfl))
  t0 := Tryz.underlying0
  a0 := Tryz.isAgg0
  z0 := Tryz.sizeOf0
  v0 := Tryz.zeroValue0
  t3 := Tryz.underlying3
  a3 := Tryz.isAgg3
  z3 := Tryz.sizeOf3
  v3 := Tryz.zeroValue3
  t4 := Tryz.underlying4
  a4 := Tryz.isAgg4
  z4 := Tryz.sizeOf4
  v4 := Tryz.zeroValue4
  t9 := Tryz.underlying9
  a9 := Tryz.isAgg9
  z9 := Tryz.sizeOf9
  v9 := Tryz.zeroValue9
  t20 := Tryz.underlying20
  a20 := Tryz.isAgg20
  z20 := Tryz.sizeOf20
  v20 := Tryz.zeroValue20
  t37 := Tryz.underlying48
  a37 := Tryz.isAgg48
  z37 := Tryz.sizeOf48
  v37 := Tryz.zeroValue48
  t70 := Tryz.underlying47
  a70 := Tryz.isAgg47
  z70 := Tryz.sizeOf47
  v70 := Tryz.zeroValue47
  t72 := Tryz.underlying50
  a72 := Tryz.isAgg50
  z72 := Tryz.sizeOf50
  v72 := Tryz.zeroValue50
  t75 := Tryz.underlying42
  a75 := Tryz.isAgg42
  z75 := Tryz.sizeOf42
  v75 := Tryz.zeroValue42
  t164 := Tryz.underlying118
  a164 := Tryz.isAgg118
  z164 := Tryz.sizeOf118
  v164 := Tryz.zeroValue118 }
theorem Tryz.plys169 : Go.Proofs.Lays.n169 Tryz.prog Tryz.plys166_ren := {
  mixed := by kernel_rfl
  f169 := Tryz.func23.trans (congrArg some (by kernel_rfl))
  t0 := Tryz.underlying0
  a0 := Tryz.isAgg0
  z0 := Tryz.sizeOf0
  v0 := Tryz.zeroValue0
  t3 := Tryz.underlying3
  a3 := Tryz.isAgg3
  z3 := Tryz.sizeOf3
  v3 := Tryz.zeroValue3
  t9 := Tryz.underlying9
  a9 := Tryz.isAgg9
  z9 := Tryz.sizeOf9
  v9 := Tryz.zeroValue9
  t37 := Tryz.underlying48
  a37 := Tryz.isAgg48
  z37 := Tryz.sizeOf48
  v37 := Tryz.zeroValue48
  t70 := Tryz.underlying47
  a70 := Tryz.isAgg47
  z70 := Tryz.sizeOf47
  v70 := Tryz.zeroValue47
  t72 := Tryz.underlying50
  a72 := Tryz.isAgg50
  z72 := Tryz.sizeOf50
  v72 := Tryz.zeroValue50
  t127 := Tryz.underlying99
  a127 := Tryz.isAgg99
  z127 := Tryz.sizeOf99
  v127 := Tryz.zeroValue99 }
theorem Tryz.Builder_Extra_pl : Builder.Extra Tryz.prog Tryz.plys166_ren := {
  sizeBuilder := by kernel_rfl
  liesBuilder := by kernel_rfl
  t5 := Tryz.underlying5
  a5 := Tryz.isAgg5
  z5 := Tryz.sizeOf5
  v5 := Tryz.zeroValue5
  infoByte := by kernel_rfl
  cellsByte := by kernel_rfl
  sizeByte := by kernel_rfl
  neB5 := by decide }
end Go.Proofs
namespace Go.Proofs.YtbocknocmggcpaaGreatDoor
open Go Go.RowKit Go.Shelf Cal

theorem pb_step {T e : TypeId} {B b : Nat} {l : List Value} {w w' : World} (h : Lib.IsBuilderF T e B b l w) (hb : Below w.heap.size w w') : Lib.IsBuilderF T e B b l w' := by
  have key : ∀ p, Lib.BuilderAtF T e B b p l w → Lib.BuilderAtF T e B b p l w' := fun p ⟨h1, v, h2, h3, h4⟩ => ⟨h1, v, (hb.block _ (Array.getElem?_eq_some_iff.1 h2).1).trans h2, h3.kept (grown_below hb none) (by cases v.ownBlock <;> simp), h4⟩
  exact h.imp (key _) (key _)
/-- a builder (made behind w0) that holds acc -/
def PB (w0 : World) (acc : List UInt8) (W : World) : Prop := Below w0.heap.size w0 W ∧ w0.heap.size < W.heap.size ∧ Lib.IsBuilderF 50 5 w0.heap.size w0.heap.size (Lib.byteCells acc) W
theorem PB.new (w0 : World) : PB w0 [] (w0.alloc (.cells #[.pointer none, .slice none 0 0] 50)) := ⟨below_alloc _ _, by rw [World.size_alloc]; omega, Lib.IsBuilderF.of (Lib.fresh_isBuilder _ _ w0)⟩
theorem PB.step {w0 W W' : World} {acc : List UInt8} (h : PB w0 acc W) (hb : Below W.heap.size W W') : PB w0 acc W' := ⟨below_then h.1 hb, Nat.lt_of_lt_of_le h.2.1 hb.size, pb_step h.2.2 hb⟩
theorem pl_both {B : Nat} {a b c : World} (h : Below B a b) (k : Below B b c) : Below B a c := ⟨k.os.trans h.os, k.tape.trans h.tape, k.output.trans h.output, Nat.le_trans h.size k.size, fun i hi => (k.block i hi).trans (h.block i hi)⟩
theorem pwrite (w0 : World) (acc : List UInt8) (x : ByteArray) (W : World) (h : PB w0 acc W) (hl : acc.length + x.size ≤ 140737488355328) :
    Calls Tryz.prog 19 #[.pointer (some ⟨w0.heap.size, 0, none⟩), .string x] W fun r w' => r = .returned (.tuple #[.int .i64 x.size, .nilIface]) ∧ PB w0 (acc ++ x.data.toList) w' := by
  obtain ⟨h1, h2, h3⟩ := h
  refine Calls.mono (Any.Builder_WriteString_k Tryz.plys166 Tryz.Builder_Extra_pl w0.heap.size w0.heap.size (Lib.byteCells acc) x W h3 (by rw [Lib.byteCells_length]; exact hl) (by omega)) ?_
  rintro r w' ⟨rfl, k1, k2, k3⟩
  refine ⟨rfl, pl_both h1 k2, Nat.lt_of_lt_of_le h2 k2.size, .inr ?_⟩
  rw [Lib.byteCells_append, ← Lib.strCells_eq]
  exact k1
theorem pstring (w0 : World) (acc : List UInt8) (W : World) (h : PB w0 acc W) :
    Calls Tryz.prog 23 #[.pointer (some ⟨w0.heap.size, 0, none⟩)] W fun r w' => r = .returned (.string ⟨acc.toArray⟩) ∧ Below w0.heap.size w0 w' := by
  obtain ⟨h1, h2, h3⟩ := h
  refine Calls.mono (Any.Builder_String_any_k Tryz.plys169 Tryz.Builder_Extra_pl w0.heap.size w0.heap.size acc W h3 (by omega)) ?_
  rintro r w' ⟨rfl, k1, k2, k3⟩
  exact ⟨rfl, pl_both h1 k2⟩
end Go.Proofs.YtbocknocmggcpaaGreatDoor
