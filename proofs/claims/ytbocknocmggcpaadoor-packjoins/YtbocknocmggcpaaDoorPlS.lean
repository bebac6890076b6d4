/- strings.Builder: the library's contracts of WriteString and String, laid at this program. -/
import Derived.Test.YtbocknocmggcpaaDoorPlB
import Derived.Shelf.Strings.BuilderK
namespace Go.Proofs
open Go.Shelf
def Tryd.plys166_ren : Go.Shelf.Ren := ⟨fun | 166 => 9 | 169 => 10 | 240 => 14 | 276 => 18 | n => n, fun | 9 => 9 | 3 => 3 | 4 => 4 | 0 => 0 | 20 => 20 | 72 => 31 | 70 => 28 | 37 => 29 | 75 => 24 | 164 => 48 | 5 => 5 | 80 => 41 | 127 => 45 | n => n, fun | n => n⟩
theorem Tryd.plys166 : Go.Proofs.Lays.n166 Tryd.prog Tryd.plys166_ren := {
  mixed := by kernel_rfl
  f166 := Tryd.func9.trans (congrArg some (by kernel_rfl))
  f240 := Tryd.func14.trans (congrArg some (by kernel_rfl))
  f276 := Tryd.func18.trans (congrArg some (by kernel_rfl))
  t0 := Tryd.underlying0
  a0 := Tryd.isAgg0
  z0 := Tryd.sizeOf0
  v0 := Tryd.zeroValue0
  t3 := Tryd.underlying3
  a3 := Tryd.isAgg3
  z3 := Tryd.sizeOf3
  v3 := Tryd.zeroValue3
  t4 := Tryd.underlying4
  a4 := Tryd.isAgg4
  z4 := Tryd.sizeOf4
  v4 := Tryd.zeroValue4
  t9 := Tryd.underlying9
  a9 := Tryd.isAgg9
  z9 := Tryd.sizeOf9
  v9 := Tryd.zeroValue9
  t20 := Tryd.underlying20
  a20 := Tryd.isAgg20
  z20 := Tryd.sizeOf20
  v20 := Tryd.zeroValue20
  t37 := Tryd.underlying29
  a37 := Tryd.isAgg29
  z37 := Tryd.sizeOf29
  v37 := Tryd.zeroValue29
  t70 := Tryd.underlying28
  a70 := Tryd.isAgg28
  z70 := Tryd.sizeOf28
  v70 := Tryd.zeroValue28
  t72 := Tryd.underlying31
  a72 := Tryd.isAgg31
  z72 := Tryd.sizeOf31
  v72 := Tryd.zeroValue31
  t75 := Tryd.underlying24
  a75 := Tryd.isAgg24
  z75 := Tryd.sizeOf24
  v75 := Tryd.zeroValue24
  t164 := Tryd.underlying48
  a164 := Tryd.isAgg48
  z164 := Tryd.sizeOf48
  v164 := Tryd.zeroValue48 }
theorem Tryd.plys169 : Go.Proofs.Lays.n169 Tryd.prog Tryd.plys166_ren := {
  mixed := by kernel_rfl
  f169 := Tryd.func10.trans (congrArg some (by kernel_rfl))
  t0 := Tryd.underlying0
  a0 := Tryd.isAgg0
  z0 := Tryd.sizeOf0
  v0 := Tryd.zeroValue0
  t3 := Tryd.underlying3
  a3 := Tryd.isAgg3
  z3 := Tryd.sizeOf3
  v3 := Tryd.zeroValue3
  t9 := Tryd.underlying9
  a9 := Tryd.isAgg9
  z9 := Tryd.sizeOf9
  v9 := Tryd.zeroValue9
  t37 := Tryd.underlying29
  a37 := Tryd.isAgg29
  z37 := Tryd.sizeOf29
  v37 := Tryd.zeroValue29
  t70 := Tryd.underlying28
  a70 := Tryd.isAgg28
  z70 := Tryd.sizeOf28
  v70 := Tryd.zeroValue28
  t72 := Tryd.underlying31
  a72 := Tryd.isAgg31
  z72 := Tryd.sizeOf31
  v72 := Tryd.zeroValue31
  t127 := Tryd.underlying45
  a127 := Tryd.isAgg45
  z127 := Tryd.sizeOf45
  v127 := Tryd.zeroValue45 }
theorem Tryd.Builder_Extra_pl : Builder.Extra Tryd.prog Tryd.plys166_ren := {
  sizeBuilder := by kernel_rfl
  liesBuilder := by kernel_rfl
  t5 := Tryd.underlying5
  a5 := Tryd.isAgg5
  z5 := Tryd.sizeOf5
  v5 := Tryd.zeroValue5
  infoByte := by kernel_rfl
  cellsByte := by kernel_rfl
  sizeByte := by kernel_rfl
  neB5 := by decide }
end Go.Proofs
namespace Go.Proofs.YtbocknocmggcpaaDoor
open Go Go.RowKit Go.Shelf Cal

theorem pb_step {T e : TypeId} {B b : Nat} {l : List Value} {w w' : World} (h : Lib.IsBuilderF T e B b l w) (hb : Below w.heap.size w w') : Lib.IsBuilderF T e B b l w' := by
  have key : ∀ p, Lib.BuilderAtF T e B b p l w → Lib.BuilderAtF T e B b p l w' := fun p ⟨h1, v, h2, h3, h4⟩ => ⟨h1, v, (hb.block _ (Array.getElem?_eq_some_iff.1 h2).1).trans h2, h3.kept (grown_below hb none) (by cases v.ownBlock <;> simp), h4⟩
  exact h.imp (key _) (key _)
/-- a builder (made behind w0) that holds acc -/
def PB (w0 : World) (acc : List UInt8) (W : World) : Prop := Below w0.heap.size w0 W ∧ w0.heap.size < W.heap.size ∧ Lib.IsBuilderF 31 5 w0.heap.size w0.heap.size (Lib.byteCells acc) W
theorem PB.new (w0 : World) : PB w0 [] (w0.alloc (.cells #[.pointer none, .slice none 0 0] 31)) := ⟨below_alloc _ _, by rw [World.size_alloc]; omega, Lib.IsBuilderF.of (Lib.fresh_isBuilder _ _ w0)⟩
theorem PB.step {w0 W W' : World} {acc : List UInt8} (h : PB w0 acc W) (hb : Below W.heap.size W W') : PB w0 acc W' := ⟨below_then h.1 hb, Nat.lt_of_lt_of_le h.2.1 hb.size, pb_step h.2.2 hb⟩
theorem pl_both {B : Nat} {a b c : World} (h : Below B a b) (k : Below B b c) : Below B a c := ⟨k.os.trans h.os, k.tape.trans h.tape, k.output.trans h.output, Nat.le_trans h.size k.size, fun i hi => (k.block i hi).trans (h.block i hi)⟩
theorem pwrite (w0 : World) (acc : List UInt8) (x : ByteArray) (W : World) (h : PB w0 acc W) (hl : acc.length + x.size ≤ 140737488355328) :
    Calls Tryd.prog 9 #[.pointer (some ⟨w0.heap.size, 0, none⟩), .string x] W fun r w' => r = .returned (.tuple #[.int .i64 x.size, .nilIface]) ∧ PB w0 (acc ++ x.data.toList) w' := by
  obtain ⟨h1, h2, h3⟩ := h
  refine Calls.mono (Any.Builder_WriteString_k Tryd.plys166 Tryd.Builder_Extra_pl w0.heap.size w0.heap.size (Lib.byteCells acc) x W h3 (by rw [Lib.byteCells_length]; exact hl) (by omega)) ?_
  rintro r w' ⟨rfl, k1, k2, k3⟩
  refine ⟨rfl, pl_both h1 k2, Nat.lt_of_lt_of_le h2 k2.size, .inr ?_⟩
  rw [Lib.byteCells_append, ← Lib.strCells_eq]
  exact k1
theorem pstring (w0 : World) (acc : List UInt8) (W : World) (h : PB w0 acc W) :
    Calls Tryd.prog 10 #[.pointer (some ⟨w0.heap.size, 0, none⟩)] W fun r w' => r = .returned (.string ⟨acc.toArray⟩) ∧ Below w0.heap.size w0 w' := by
  obtain ⟨h1, h2, h3⟩ := h
  refine Calls.mono (Any.Builder_String_any_k Tryd.plys169 Tryd.Builder_Extra_pl w0.heap.size w0.heap.size acc W h3 (by omega)) ?_
  rintro r w' ⟨rfl, k1, k2, k3⟩
  exact ⟨rfl, pl_both h1 k2⟩
end Go.Proofs.YtbocknocmggcpaaDoor
