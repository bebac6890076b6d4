/- What the rows' lists of package-level variables give a walk: where the eleven errors of package api lie, that they are different ones, and the handle of the type error. -/
import Derived.Test.YtkjfbeempmfipaaGreatDoorJtAC
import Derived.Test.YtkjfbeempmfipaaGreatDoorCodeP
import Derived.Stop.LaidTwo
import Derived.LaidSub
import Derived.LaidHandle
namespace Go.Proofs.YtkjfbeempmfipaaGreatDoor
open Go.ChangeShapes Go.WideShapes Go.ChangeAt Go.RowKit

/-- the eleven errors, as the rows list them -/
def laid11 : List (String × DataW Unit) := [("lammastide/api.ErrText", Rows.laid_lammastide_api_ErrText), ("lammastide/api.ErrBound", Rows.laid_lammastide_api_ErrBound), ("lammastide/api.ErrShape", Rows.laid_lammastide_api_ErrShape), ("lammastide/api.ErrName", Rows.laid_lammastide_api_ErrName), ("lammastide/api.ErrNone", Rows.laid_lammastide_api_ErrNone), ("lammastide/api.ErrExist", Rows.laid_lammastide_api_ErrExist), ("lammastide/api.ErrFull", Rows.laid_lammastide_api_ErrFull), ("lammastide/api.ErrOrder", Rows.laid_lammastide_api_ErrOrder), ("lammastide/api.ErrStale", Rows.laid_lammastide_api_ErrStale), ("lammastide/api.ErrClash", Rows.laid_lammastide_api_ErrClash), ("lammastide/api.ErrOff", Rows.laid_lammastide_api_ErrOff)]

theorem pair_ne {l : List (String × DataW Unit)} {n0 n1 : String} {d0 d1 : DataW Unit} {t0 t1 : List UInt8} {g0 g1 : Nat} {a0 a1 : Addr} {W : World} (h : laidMet Tryz.prog l W)
    (hf : l.filter (fun x => x.1 == n0 || x.1 == n1) = [(n0, d0), (n1, d1)]) (hd0 : d0 = .iface "*errors.errorString" (.ptr (.agg [.lit (.string t0)]))) (hd1 : d1 = .iface "*errors.errorString" (.ptr (.agg [.lit (.string t1)])))
    (hg0 : Tryz.prog.globalNamed n0 = some g0) (ht0 : (Tryz.prog.globals[g0]?).map (·.type) = some 30) (hg1 : Tryz.prog.globalNamed n1 = some g1) (ht1 : (Tryz.prog.globals[g1]?).map (·.type) = some 30)
    (c0 : W.cell? ⟨g0, 0, none⟩ = some (.iface 221 (.pointer (some a0)))) (c1 : W.cell? ⟨g1, 0, none⟩ = some (.iface 221 (.pointer (some a1)))) :
    a0 ≠ a1 ∧ (∃ c t, W.heap[a0.block]? = some (.cells c t (0, 0))) ∧ (∃ c t, W.heap[a1.block]? = some (.cells c t (0, 0))) := by
  have h2 := h.filter (fun x => x.1 == n0 || x.1 == n1)
  rw [hf, hd0, hd1] at h2
  obtain ⟨b0, b1, s0, s1, e0, e1, u0, u1, hv0, hv1, _, _, _, _, _, _, hne, hb0, hb1⟩ := laid_sentinels2 h2 hg0 ht0 hg1 ht1 Tryz.underlying30 rowErrStr Tryz.underlying221 Tryz.underlying223 rfl rfl Tryz.underlying9 cErrStr cStr
  have f0 : W.cell? ⟨g0, 0, none⟩ = some (.iface 221 (.pointer (some b0))) := by simpa using World.var?_cell hg0 hv0 0
  have f1 : W.cell? ⟨g1, 0, none⟩ = some (.iface 221 (.pointer (some b1))) := by simpa using World.var?_cell hg1 hv1 0
  obtain rfl : b0 = a0 := by rw [c0] at f0; simpa using f0.symm
  obtain rfl : b1 = a1 := by rw [c1] at f1; simpa using f1.symm
  exact ⟨hne, ⟨e0, u0, hb0⟩, ⟨e1, u1, hb1⟩⟩

theorem gErrText : Tryz.prog.globalNamed "lammastide/api.ErrText" = some 0 := by kernel_rfl
theorem tyErrText : (Tryz.prog.globals[0]?).map (·.type) = some 30 := by kernel_rfl
theorem gErrBound : Tryz.prog.globalNamed "lammastide/api.ErrBound" = some 1 := by kernel_rfl
theorem tyErrBound : (Tryz.prog.globals[1]?).map (·.type) = some 30 := by kernel_rfl
theorem gErrShape : Tryz.prog.globalNamed "lammastide/api.ErrShape" = some 2 := by kernel_rfl
theorem tyErrShape : (Tryz.prog.globals[2]?).map (·.type) = some 30 := by kernel_rfl
theorem gErrName : Tryz.prog.globalNamed "lammastide/api.ErrName" = some 3 := by kernel_rfl
theorem tyErrName : (Tryz.prog.globals[3]?).map (·.type) = some 30 := by kernel_rfl
theorem gErrNone : Tryz.prog.globalNamed "lammastide/api.ErrNone" = some 4 := by kernel_rfl
theorem tyErrNone : (Tryz.prog.globals[4]?).map (·.type) = some 30 := by kernel_rfl
theorem gErrExist : Tryz.prog.globalNamed "lammastide/api.ErrExist" = some 5 := by kernel_rfl
theorem tyErrExist : (Tryz.prog.globals[5]?).map (·.type) = some 30 := by kernel_rfl
theorem gErrFull : Tryz.prog.globalNamed "lammastide/api.ErrFull" = some 6 := by kernel_rfl
theorem tyErrFull : (Tryz.prog.globals[6]?).map (·.type) = some 30 := by kernel_rfl
theorem gErrOrder : Tryz.prog.globalNamed "lammastide/api.ErrOrder" = some 7 := by kernel_rfl
theorem tyErrOrder : (Tryz.prog.globals[7]?).map (·.type) = some 30 := by kernel_rfl
theorem gErrStale : Tryz.prog.globalNamed "lammastide/api.ErrStale" = some 8 := by kernel_rfl
theorem tyErrStale : (Tryz.prog.globals[8]?).map (·.type) = some 30 := by kernel_rfl
theorem gErrClash : Tryz.prog.globalNamed "lammastide/api.ErrClash" = some 9 := by kernel_rfl
theorem tyErrClash : (Tryz.prog.globals[9]?).map (·.type) = some 30 := by kernel_rfl
theorem gErrOff : Tryz.prog.globalNamed "lammastide/api.ErrOff" = some 10 := by kernel_rfl
theorem tyErrOff : (Tryz.prog.globals[10]?).map (·.type) = some 30 := by kernel_rfl

/-- where the k-th lies -/
def pick11 (l : List Addr) (d : Addr) (k : Nat) : Addr := l.getD k d
theorem sents_of_laid {W : World} (h : laidMet Tryz.prog laid11 W) (et : W.cell? ⟨11, 0, none⟩ = some (.iface 138 (.agg #[.pointer (some ⟨21, 30, none⟩)]))) : ∃ s, Sents s W := by
  obtain ⟨a0, c0⟩ := sentinel (h) gErrText tyErrText
  obtain ⟨a1, c1⟩ := sentinel (h.tail) gErrBound tyErrBound
  obtain ⟨a2, c2⟩ := sentinel (h.tail.tail) gErrShape tyErrShape
  obtain ⟨a3, c3⟩ := sentinel (h.tail.tail.tail) gErrName tyErrName
  obtain ⟨a4, c4⟩ := sentinel (h.tail.tail.tail.tail) gErrNone tyErrNone
  obtain ⟨a5, c5⟩ := sentinel (h.tail.tail.tail.tail.tail) gErrExist tyErrExist
  obtain ⟨a6, c6⟩ := sentinel (h.tail.tail.tail.tail.tail.tail) gErrFull tyErrFull
  obtain ⟨a7, c7⟩ := sentinel (h.tail.tail.tail.tail.tail.tail.tail) gErrOrder tyErrOrder
  obtain ⟨a8, c8⟩ := sentinel (h.tail.tail.tail.tail.tail.tail.tail.tail) gErrStale tyErrStale
  obtain ⟨a9, c9⟩ := sentinel (h.tail.tail.tail.tail.tail.tail.tail.tail.tail) gErrClash tyErrClash
  obtain ⟨a10, c10⟩ := sentinel (h.tail.tail.tail.tail.tail.tail.tail.tail.tail.tail) gErrOff tyErrOff
  have p0x1 := pair_ne h (n0 := "lammastide/api.ErrText") (n1 := "lammastide/api.ErrBound") (d0 := Rows.laid_lammastide_api_ErrText) (d1 := Rows.laid_lammastide_api_ErrBound) (by kernel_rfl) rfl rfl gErrText tyErrText gErrBound tyErrBound c0 c1
  have p0x2 := pair_ne h (n0 := "lammastide/api.ErrText") (n1 := "lammastide/api.ErrShape") (d0 := Rows.laid_lammastide_api_ErrText) (d1 := Rows.laid_lammastide_api_ErrShape) (by kernel_rfl) rfl rfl gErrText tyErrText gErrShape tyErrShape c0 c2
  have p0x3 := pair_ne h (n0 := "lammastide/api.ErrText") (n1 := "lammastide/api.ErrName") (d0 := Rows.laid_lammastide_api_ErrText) (d1 := Rows.laid_lammastide_api_ErrName) (by kernel_rfl) rfl rfl gErrText tyErrText gErrName tyErrName c0 c3
  have p0x4 := pair_ne h (n0 := "lammastide/api.ErrText") (n1 := "lammastide/api.ErrNone") (d0 := Rows.laid_lammastide_api_ErrText) (d1 := Rows.laid_lammastide_api_ErrNone) (by kernel_rfl) rfl rfl gErrText tyErrText gErrNone tyErrNone c0 c4
  have p0x5 := pair_ne h (n0 := "lammastide/api.ErrText") (n1 := "lammastide/api.ErrExist") (d0 := Rows.laid_lammastide_api_ErrText) (d1 := Rows.laid_lammastide_api_ErrExist) (by kernel_rfl) rfl rfl gErrText tyErrText gErrExist tyErrExist c0 c5
  have p0x6 := pair_ne h (n0 := "lammastide/api.ErrText") (n1 := "lammastide/api.ErrFull") (d0 := Rows.laid_lammastide_api_ErrText) (d1 := Rows.laid_lammastide_api_ErrFull) (by kernel_rfl) rfl rfl gErrText tyErrText gErrFull tyErrFull c0 c6
  have p0x7 := pair_ne h (n0 := "lammastide/api.ErrText") (n1 := "lammastide/api.ErrOrder") (d0 := Rows.laid_lammastide_api_ErrText) (d1 := Rows.laid_lammastide_api_ErrOrder) (by kernel_rfl) rfl rfl gErrText tyErrText gErrOrder tyErrOrder c0 c7
  have p0x8 := pair_ne h (n0 := "lammastide/api.ErrText") (n1 := "lammastide/api.ErrStale") (d0 := Rows.laid_lammastide_api_ErrText) (d1 := Rows.laid_lammastide_api_ErrStale) (by kernel_rfl) rfl rfl gErrText tyErrText gErrStale tyErrStale c0 c8
  have p0x9 := pair_ne h (n0 := "lammastide/api.ErrText") (n1 := "lammastide/api.ErrClash") (d0 := Rows.laid_lammastide_api_ErrText) (d1 := Rows.laid_lammastide_api_ErrClash) (by kernel_rfl) rfl rfl gErrText tyErrText gErrClash tyErrClash c0 c9
  have p0x10 := pair_ne h (n0 := "lammastide/api.ErrText") (n1 := "lammastide/api.ErrOff") (d0 := Rows.laid_lammastide_api_ErrText) (d1 := Rows.laid_lammastide_api_ErrOff) (by kernel_rfl) rfl rfl gErrText tyErrText gErrOff tyErrOff c0 c10
  have p1x2 := pair_ne h (n0 := "lammastide/api.ErrBound") (n1 := "lammastide/api.ErrShape") (d0 := Rows.laid_lammastide_api_ErrBound) (d1 := Rows.laid_lammastide_api_ErrShape) (by kernel_rfl) rfl rfl gErrBound tyErrBound gErrShape tyErrShape c1 c2
  have p1x3 := pair_ne h (n0 := "lammastide/api.ErrBound") (n1 := "lammastide/api.ErrName") (d0 := Rows.laid_lammastide_api_ErrBound) (d1 := Rows.laid_lammastide_api_ErrName) (by kernel_rfl) rfl rfl gErrBound tyErrBound gErrName tyErrName c1 c3
  have p1x4 := pair_ne h (n0 := "lammastide/api.ErrBound") (n1 := "lammastide/api.ErrNone") (d0 := Rows.laid_lammastide_api_ErrBound) (d1 := Rows.laid_lammastide_api_ErrNone) (by kernel_rfl) rfl rfl gErrBound tyErrBound gErrNone tyErrNone c1 c4
  have p1x5 := pair_ne h (n0 := "lammastide/api.ErrBound") (n1 := "lammastide/api.ErrExist") (d0 := Rows.laid_lammastide_api_ErrBound) (d1 := Rows.laid_lammastide_api_ErrExist) (by kernel_rfl) rfl rfl gErrBound tyErrBound gErrExist tyErrExist c1 c5
  have p1x6 := pair_ne h (n0 := "lammastide/api.ErrBound") (n1 := "lammastide/api.ErrFull") (d0 := Rows.laid_lammastide_api_ErrBound) (d1 := Rows.laid_lammastide_api_ErrFull) (by kernel_rfl) rfl rfl gErrBound tyErrBound gErrFull tyErrFull c1 c6
  have p1x7 := pair_ne h (n0 := "lammastide/api.ErrBound") (n1 := "lammastide/api.ErrOrder") (d0 := Rows.laid_lammastide_api_ErrBound) (d1 := Rows.laid_lammastide_api_ErrOrder) (by kernel_rfl) rfl rfl gErrBound tyErrBound gErrOrder tyErrOrder c1 c7
  have p1x8 := pair_ne h (n0 := "lammastide/api.ErrBound") (n1 := "lammastide/api.ErrStale") (d0 := Rows.laid_lammastide_api_ErrBound) (d1 := Rows.laid_lammastide_api_ErrStale) (by kernel_rfl) rfl rfl gErrBound tyErrBound gErrStale tyErrStale c1 c8
  have p1x9 := pair_ne h (n0 := "lammastide/api.ErrBound") (n1 := "lammastide/api.ErrClash") (d0 := Rows.laid_lammastide_api_ErrBound) (d1 := Rows.laid_lammastide_api_ErrClash) (by kernel_rfl) rfl rfl gErrBound tyErrBound gErrClash tyErrClash c1 c9
  have p1x10 := pair_ne h (n0 := "lammastide/api.ErrBound") (n1 := "lammastide/api.ErrOff") (d0 := Rows.laid_lammastide_api_ErrBound) (d1 := Rows.laid_lammastide_api_ErrOff) (by kernel_rfl) rfl rfl gErrBound tyErrBound gErrOff tyErrOff c1 c10
  have p2x3 := pair_ne h (n0 := "lammastide/api.ErrShape") (n1 := "lammastide/api.ErrName") (d0 := Rows.laid_lammastide_api_ErrShape) (d1 := Rows.laid_lammastide_api_ErrName) (by kernel_rfl) rfl rfl gErrShape tyErrShape gErrName tyErrName c2 c3
  have p2x4 := pair_ne h (n0 := "lammastide/api.ErrShape") (n1 := "lammastide/api.ErrNone") (d0 := Rows.laid_lammastide_api_ErrShape) (d1 := Rows.laid_lammastide_api_ErrNone) (by kernel_rfl) rfl rfl gErrShape tyErrShape gErrNone tyErrNone c2 c4
  have p2x5 := pair_ne h (n0 := "lammastide/api.ErrShape") (n1 := "lammastide/api.ErrExist") (d0 := Rows.laid_lammastide_api_ErrShape) (d1 := Rows.laid_lammastide_api_ErrExist) (by kernel_rfl) rfl rfl gErrShape tyErrShape gErrExist tyErrExist c2 c5
  have p2x6 := pair_ne h (n0 := "lammastide/api.ErrShape") (n1 := "lammastide/api.ErrFull") (d0 := Rows.laid_lammastide_api_ErrShape) (d1 := Rows.laid_lammastide_api_ErrFull) (by kernel_rfl) rfl rfl gErrShape tyErrShape gErrFull tyErrFull c2 c6
  have p2x7 := pair_ne h (n0 := "lammastide/api.ErrShape") (n1 := "lammastide/api.ErrOrder") (d0 := Rows.laid_lammastide_api_ErrShape) (d1 := Rows.laid_lammastide_api_ErrOrder) (by kernel_rfl) rfl rfl gErrShape tyErrShape gErrOrder tyErrOrder c2 c7
  have p2x8 := pair_ne h (n0 := "lammastide/api.ErrShape") (n1 := "lammastide/api.ErrStale") (d0 := Rows.laid_lammastide_api_ErrShape) (d1 := Rows.laid_lammastide_api_ErrStale) (by kernel_rfl) rfl rfl gErrShape tyErrShape gErrStale tyErrStale c2 c8
  have p2x9 := pair_ne h (n0 := "lammastide/api.ErrShape") (n1 := "lammastide/api.ErrClash") (d0 := Rows.laid_lammastide_api_ErrShape) (d1 := Rows.laid_lammastide_api_ErrClash) (by kernel_rfl) rfl rfl gErrShape tyErrShape gErrClash tyErrClash c2 c9
  have p2x10 := pair_ne h (n0 := "lammastide/api.ErrShape") (n1 := "lammastide/api.ErrOff") (d0 := Rows.laid_lammastide_api_ErrShape) (d1 := Rows.laid_lammastide_api_ErrOff) (by kernel_rfl) rfl rfl gErrShape tyErrShape gErrOff tyErrOff c2 c10
  have p3x4 := pair_ne h (n0 := "lammastide/api.ErrName") (n1 := "lammastide/api.ErrNone") (d0 := Rows.laid_lammastide_api_ErrName) (d1 := Rows.laid_lammastide_api_ErrNone) (by kernel_rfl) rfl rfl gErrName tyErrName gErrNone tyErrNone c3 c4
  have p3x5 := pair_ne h (n0 := "lammastide/api.ErrName") (n1 := "lammastide/api.ErrExist") (d0 := Rows.laid_lammastide_api_ErrName) (d1 := Rows.laid_lammastide_api_ErrExist) (by kernel_rfl) rfl rfl gErrName tyErrName gErrExist tyErrExist c3 c5
  have p3x6 := pair_ne h (n0 := "lammastide/api.ErrName") (n1 := "lammastide/api.ErrFull") (d0 := Rows.laid_lammastide_api_ErrName) (d1 := Rows.laid_lammastide_api_ErrFull) (by kernel_rfl) rfl rfl gErrName tyErrName gErrFull tyErrFull c3 c6
  have p3x7 := pair_ne h (n0 := "lammastide/api.ErrName") (n1 := "lammastide/api.ErrOrder") (d0 := Rows.laid_lammastide_api_ErrName) (d1 := Rows.laid_lammastide_api_ErrOrder) (by kernel_rfl) rfl rfl gErrName tyErrName gErrOrder tyErrOrder c3 c7
  have p3x8 := pair_ne h (n0 := "lammastide/api.ErrName") (n1 := "lammastide/api.ErrStale") (d0 := Rows.laid_lammastide_api_ErrName) (d1 := Rows.laid_lammastide_api_ErrStale) (by kernel_rfl) rfl rfl gErrName tyErrName gErrStale tyErrStale c3 c8
  have p3x9 := pair_ne h (n0 := "lammastide/api.ErrName") (n1 := "lammastide/api.ErrClash") (d0 := Rows.laid_lammastide_api_ErrName) (d1 := Rows.laid_lammastide_api_ErrClash) (by kernel_rfl) rfl rfl gErrName tyErrName gErrClash tyErrClash c3 c9
  have p3x10 := pair_ne h (n0 := "lammastide/api.ErrName") (n1 := "lammastide/api.ErrOff") (d0 := Rows.laid_lammastide_api_ErrName) (d1 := Rows.laid_lammastide_api_ErrOff) (by kernel_rfl) rfl rfl gErrName tyErrName gErrOff tyErrOff c3 c10
  have p4x5 := pair_ne h (n0 := "lammastide/api.ErrNone") (n1 := "lammastide/api.ErrExist") (d0 := Rows.laid_lammastide_api_ErrNone) (d1 := Rows.laid_lammastide_api_ErrExist) (by kernel_rfl) rfl rfl gErrNone tyErrNone gErrExist tyErrExist c4 c5
  have p4x6 := pair_ne h (n0 := "lammastide/api.ErrNone") (n1 := "lammastide/api.ErrFull") (d0 := Rows.laid_lammastide_api_ErrNone) (d1 := Rows.laid_lammastide_api_ErrFull) (by kernel_rfl) rfl rfl gErrNone tyErrNone gErrFull tyErrFull c4 c6
  have p4x7 := pair_ne h (n0 := "lammastide/api.ErrNone") (n1 := "lammastide/api.ErrOrder") (d0 := Rows.laid_lammastide_api_ErrNone) (d1 := Rows.laid_lammastide_api_ErrOrder) (by kernel_rfl) rfl rfl gErrNone tyErrNone gErrOrder tyErrOrder c4 c7
  have p4x8 := pair_ne h (n0 := "lammastide/api.ErrNone") (n1 := "lammastide/api.ErrStale") (d0 := Rows.laid_lammastide_api_ErrNone) (d1 := Rows.laid_lammastide_api_ErrStale) (by kernel_rfl) rfl rfl gErrNone tyErrNone gErrStale tyErrStale c4 c8
  have p4x9 := pair_ne h (n0 := "lammastide/api.ErrNone") (n1 := "lammastide/api.ErrClash") (d0 := Rows.laid_lammastide_api_ErrNone) (d1 := Rows.laid_lammastide_api_ErrClash) (by kernel_rfl) rfl rfl gErrNone tyErrNone gErrClash tyErrClash c4 c9
  have p4x10 := pair_ne h (n0 := "lammastide/api.ErrNone") (n1 := "lammastide/api.ErrOff") (d0 := Rows.laid_lammastide_api_ErrNone) (d1 := Rows.laid_lammastide_api_ErrOff) (by kernel_rfl) rfl rfl gErrNone tyErrNone gErrOff tyErrOff c4 c10
  have p5x6 := pair_ne h (n0 := "lammastide/api.ErrExist") (n1 := "lammastide/api.ErrFull") (d0 := Rows.laid_lammastide_api_ErrExist) (d1 := Rows.laid_lammastide_api_ErrFull) (by kernel_rfl) rfl rfl gErrExist tyErrExist gErrFull tyErrFull c5 c6
  have p5x7 := pair_ne h (n0 := "lammastide/api.ErrExist") (n1 := "lammastide/api.ErrOrder") (d0 := Rows.laid_lammastide_api_ErrExist) (d1 := Rows.laid_lammastide_api_ErrOrder) (by kernel_rfl) rfl rfl gErrExist tyErrExist gErrOrder tyErrOrder c5 c7
  have p5x8 := pair_ne h (n0 := "lammastide/api.ErrExist") (n1 := "lammastide/api.ErrStale") (d0 := Rows.laid_lammastide_api_ErrExist) (d1 := Rows.laid_lammastide_api_ErrStale) (by kernel_rfl) rfl rfl gErrExist tyErrExist gErrStale tyErrStale c5 c8
  have p5x9 := pair_ne h (n0 := "lammastide/api.ErrExist") (n1 := "lammastide/api.ErrClash") (d0 := Rows.laid_lammastide_api_ErrExist) (d1 := Rows.laid_lammastide_api_ErrClash) (by kernel_rfl) rfl rfl gErrExist tyErrExist gErrClash tyErrClash c5 c9
  have p5x10 := pair_ne h (n0 := "lammastide/api.ErrExist") (n1 := "lammastide/api.ErrOff") (d0 := Rows.laid_lammastide_api_ErrExist) (d1 := Rows.laid_lammastide_api_ErrOff) (by kernel_rfl) rfl rfl gErrExist tyErrExist gErrOff tyErrOff c5 c10
  have p6x7 := pair_ne h (n0 := "lammastide/api.ErrFull") (n1 := "lammastide/api.ErrOrder") (d0 := Rows.laid_lammastide_api_ErrFull) (d1 := Rows.laid_lammastide_api_ErrOrder) (by kernel_rfl) rfl rfl gErrFull tyErrFull gErrOrder tyErrOrder c6 c7
  have p6x8 := pair_ne h (n0 := "lammastide/api.ErrFull") (n1 := "lammastide/api.ErrStale") (d0 := Rows.laid_lammastide_api_ErrFull) (d1 := Rows.laid_lammastide_api_ErrStale) (by kernel_rfl) rfl rfl gErrFull tyErrFull gErrStale tyErrStale c6 c8
  have p6x9 := pair_ne h (n0 := "lammastide/api.ErrFull") (n1 := "lammastide/api.ErrClash") (d0 := Rows.laid_lammastide_api_ErrFull) (d1 := Rows.laid_lammastide_api_ErrClash) (by kernel_rfl) rfl rfl gErrFull tyErrFull gErrClash tyErrClash c6 c9
  have p6x10 := pair_ne h (n0 := "lammastide/api.ErrFull") (n1 := "lammastide/api.ErrOff") (d0 := Rows.laid_lammastide_api_ErrFull) (d1 := Rows.laid_lammastide_api_ErrOff) (by kernel_rfl) rfl rfl gErrFull tyErrFull gErrOff tyErrOff c6 c10
  have p7x8 := pair_ne h (n0 := "lammastide/api.ErrOrder") (n1 := "lammastide/api.ErrStale") (d0 := Rows.laid_lammastide_api_ErrOrder) (d1 := Rows.laid_lammastide_api_ErrStale) (by kernel_rfl) rfl rfl gErrOrder tyErrOrder gErrStale tyErrStale c7 c8
  have p7x9 := pair_ne h (n0 := "lammastide/api.ErrOrder") (n1 := "lammastide/api.ErrClash") (d0 := Rows.laid_lammastide_api_ErrOrder) (d1 := Rows.laid_lammastide_api_ErrClash) (by kernel_rfl) rfl rfl gErrOrder tyErrOrder gErrClash tyErrClash c7 c9
  have p7x10 := pair_ne h (n0 := "lammastide/api.ErrOrder") (n1 := "lammastide/api.ErrOff") (d0 := Rows.laid_lammastide_api_ErrOrder) (d1 := Rows.laid_lammastide_api_ErrOff) (by kernel_rfl) rfl rfl gErrOrder tyErrOrder gErrOff tyErrOff c7 c10
  have p8x9 := pair_ne h (n0 := "lammastide/api.ErrStale") (n1 := "lammastide/api.ErrClash") (d0 := Rows.laid_lammastide_api_ErrStale) (d1 := Rows.laid_lammastide_api_ErrClash) (by kernel_rfl) rfl rfl gErrStale tyErrStale gErrClash tyErrClash c8 c9
  have p8x10 := pair_ne h (n0 := "lammastide/api.ErrStale") (n1 := "lammastide/api.ErrOff") (d0 := Rows.laid_lammastide_api_ErrStale) (d1 := Rows.laid_lammastide_api_ErrOff) (by kernel_rfl) rfl rfl gErrStale tyErrStale gErrOff tyErrOff c8 c10
  have p9x10 := pair_ne h (n0 := "lammastide/api.ErrClash") (n1 := "lammastide/api.ErrOff") (d0 := Rows.laid_lammastide_api_ErrClash) (d1 := Rows.laid_lammastide_api_ErrOff) (by kernel_rfl) rfl rfl gErrClash tyErrClash gErrOff tyErrOff c9 c10
  refine ⟨pick11 [a0, a1, a2, a3, a4, a5, a6, a7, a8, a9, a10] a0, c0, c1, c2, c3, c4, c5, c6, c7, c8, c9, c10, ?_, ?_, et⟩
  · intro k hk
    match k, hk with
    | 0, _ => exact p0x10.2.1
    | 1, _ => exact p1x10.2.1
    | 2, _ => exact p2x10.2.1
    | 3, _ => exact p3x10.2.1
    | 4, _ => exact p4x10.2.1
    | 5, _ => exact p5x10.2.1
    | 6, _ => exact p6x10.2.1
    | 7, _ => exact p7x10.2.1
    | 8, _ => exact p8x10.2.1
    | 9, _ => exact p9x10.2.1
    | 10, _ => exact p0x10.2.2
  · have key : ∀ j k, j < k → k < 11 → pick11 [a0, a1, a2, a3, a4, a5, a6, a7, a8, a9, a10] a0 j ≠ pick11 [a0, a1, a2, a3, a4, a5, a6, a7, a8, a9, a10] a0 k := by
      intro j k hjk hk
      match j, k, hjk, hk with
      | 0, 1, _, _ => exact p0x1.1
      | 0, 2, _, _ => exact p0x2.1
      | 0, 3, _, _ => exact p0x3.1
      | 0, 4, _, _ => exact p0x4.1
      | 0, 5, _, _ => exact p0x5.1
      | 0, 6, _, _ => exact p0x6.1
      | 0, 7, _, _ => exact p0x7.1
      | 0, 8, _, _ => exact p0x8.1
      | 0, 9, _, _ => exact p0x9.1
      | 0, 10, _, _ => exact p0x10.1
      | 1, 2, _, _ => exact p1x2.1
      | 1, 3, _, _ => exact p1x3.1
      | 1, 4, _, _ => exact p1x4.1
      | 1, 5, _, _ => exact p1x5.1
      | 1, 6, _, _ => exact p1x6.1
      | 1, 7, _, _ => exact p1x7.1
      | 1, 8, _, _ => exact p1x8.1
      | 1, 9, _, _ => exact p1x9.1
      | 1, 10, _, _ => exact p1x10.1
      | 2, 3, _, _ => exact p2x3.1
      | 2, 4, _, _ => exact p2x4.1
      | 2, 5, _, _ => exact p2x5.1
      | 2, 6, _, _ => exact p2x6.1
      | 2, 7, _, _ => exact p2x7.1
      | 2, 8, _, _ => exact p2x8.1
      | 2, 9, _, _ => exact p2x9.1
      | 2, 10, _, _ => exact p2x10.1
      | 3, 4, _, _ => exact p3x4.1
      | 3, 5, _, _ => exact p3x5.1
      | 3, 6, _, _ => exact p3x6.1
      | 3, 7, _, _ => exact p3x7.1
      | 3, 8, _, _ => exact p3x8.1
      | 3, 9, _, _ => exact p3x9.1
      | 3, 10, _, _ => exact p3x10.1
      | 4, 5, _, _ => exact p4x5.1
      | 4, 6, _, _ => exact p4x6.1
      | 4, 7, _, _ => exact p4x7.1
      | 4, 8, _, _ => exact p4x8.1
      | 4, 9, _, _ => exact p4x9.1
      | 4, 10, _, _ => exact p4x10.1
      | 5, 6, _, _ => exact p5x6.1
      | 5, 7, _, _ => exact p5x7.1
      | 5, 8, _, _ => exact p5x8.1
      | 5, 9, _, _ => exact p5x9.1
      | 5, 10, _, _ => exact p5x10.1
      | 6, 7, _, _ => exact p6x7.1
      | 6, 8, _, _ => exact p6x8.1
      | 6, 9, _, _ => exact p6x9.1
      | 6, 10, _, _ => exact p6x10.1
      | 7, 8, _, _ => exact p7x8.1
      | 7, 9, _, _ => exact p7x9.1
      | 7, 10, _, _ => exact p7x10.1
      | 8, 9, _, _ => exact p8x9.1
      | 8, 10, _, _ => exact p8x10.1
      | 9, 10, _, _ => exact p9x10.1
      | j + 10, k, hjk, hk => exact absurd hjk (by omega)
    intro j k hj hk hne
    rcases Nat.lt_or_gt_of_ne hne with x | x
    · exact key j k x hk
    · exact (key k j x hj).symm
end Go.Proofs.YtkjfbeempmfipaaGreatDoor

/- What the rows' lists give a walk: the handle of the type error, which errors.As reads. -/
namespace Go.Proofs.YtkjfbeempmfipaaGreatDoor
open Go.ChangeShapes Go.WideShapes Go.ChangeAt Go.RowKit

theorem et_of_handles {l : List (String × DataW Unit)} {W : World} (h : handlesMet Tryz.prog l W) (hm : ("errors.errorType", Rows.laid_errors_errorType) ∈ l) : W.cell? ⟨11, 0, none⟩ = some (.iface 138 (.agg #[.pointer (some ⟨21, 30, none⟩)])) := by
  obtain ⟨name, u, ty, e1, e2, e3, e4, e5⟩ := h _ hm
  have en : name = [101, 114, 114, 111, 114] := (Option.some.inj e1).symm
  subst en
  obtain rfl := Option.some.inj ((show (Tryz.prog.cutTypes.find? (·.1 == "internal/reflectlite.rtype")).map (·.2) = some 138 by kernel_rfl).symm.trans e2)
  have hs : Tryz.prog.types.size = 262 := by kernel_rfl
  have ho : ((List.range 262).filter fun t => Tryz.prog.rowNamed t [101, 114, 114, 111, 114]) = [30] := by kernel_rfl
  have hm : ty ∈ (List.range 262).filter fun t => Tryz.prog.rowNamed t [101, 114, 114, 111, 114] := List.mem_filter.2 ⟨List.mem_range.2 (by rw [← hs]; exact e3), e4⟩
  rw [ho] at hm
  obtain rfl := List.mem_singleton.1 hm
  have hh : typeHandle Tryz.prog 30 = .pointer (some ⟨21, 30, none⟩) := by kernel_rfl
  rw [hh] at e5
  simpa using World.var?_cell (show Tryz.prog.globalNamed "errors.errorType" = some 11 by kernel_rfl) e5 0
end Go.Proofs.YtkjfbeempmfipaaGreatDoor
