/- What the rows' lists of package-level variables give the walks over package expand: the errors' cells; a rule as an argument, opened. -/
import Derived.Test.YtfnajhpcbajhfabDoorRows
import Derived.Test.YtfnajhpcbajhfabDoorExpO
import Derived.WalkKit
import Derived.ProofKit
import Derived.LaidMore
import Derived.ChangeSlices
import Derived.Stop.LaidErr
import Derived.Stop.Joined
namespace Go.Proofs.YtfnajhpcbajhfabDoor
open Go.ChangeShapes Go.WideShapes Go.ChangeAt Go.RowKit Cal

theorem own : ownKnob Tryd.prog.godebug = none := by kernel_rfl
theorem gBound : Tryd.prog.globalNamed "lammastide/api.ErrBound" = some 2 := by kernel_rfl
theorem tBound : (Tryd.prog.globals[2]?).map (·.type) = some 29 := by kernel_rfl
theorem gShape : Tryd.prog.globalNamed "lammastide/api.ErrShape" = some 3 := by kernel_rfl
theorem tShape : (Tryd.prog.globals[3]?).map (·.type) = some 29 := by kernel_rfl
theorem gName : Tryd.prog.globalNamed "lammastide/api.ErrName" = some 1 := by kernel_rfl
theorem tName : (Tryd.prog.globals[1]?).map (·.type) = some 29 := by kernel_rfl
theorem gOrder : Tryd.prog.globalNamed "lammastide/api.ErrOrder" = some 4 := by kernel_rfl
theorem tOrder : (Tryd.prog.globals[4]?).map (·.type) = some 29 := by kernel_rfl
theorem cErrStr : Tryd.prog.cellsOf 125 = 1 := by kernel_rfl
theorem cStr : Tryd.prog.cellsOf 9 = 1 := by kernel_rfl
theorem star : "*" ++ "errors.errorString" = "*errors.errorString" := by decide
theorem rowErrStr (u : TypeId) (h : Tryd.prog.typeName? 3 u = some "*errors.errorString") : u = 103 :=
  typeName_ptr_named (nm := "errors.errorString") (by rw [star]; kernel_rfl) (by kernel_rfl) (by decide) u (by rw [star]; exact h)

/-- an error of errors.New's make at the head of the list: its cell -/
theorem sentinel {n : String} {g : Nat} {text : List UInt8} {r : List (String × DataW Unit)} {W : World}
    (h : laidMet Tryd.prog ((n, .iface "*errors.errorString" (.ptr (.agg [.lit (.string text)]))) :: r) W) (hg : Tryd.prog.globalNamed n = some g) (ht : (Tryd.prog.globals[g]?).map (·.type) = some 29) :
    ∃ a : Addr, W.cell? ⟨g, 0, none⟩ = some (.iface 103 (.pointer (some a))) := by
  obtain ⟨a, s, hv, _, _, _⟩ := laid_sentinel h hg ht Tryd.underlying29 rowErrStr Tryd.underlying103 Tryd.underlying125 rfl rfl Tryd.underlying9 cErrStr cStr
  exact ⟨a, by simpa using World.var?_cell hg hv 0⟩
theorem array5 {α : Type} {cs : Array α} (h : cs.size = 5) : ∃ c0 c1 c2 c3 c4, cs = #[c0, c1, c2, c3, c4] := by
  obtain ⟨l⟩ := cs
  match l, h with
  | [a, b, c, d, e], _ => exact ⟨a, b, c, d, e, rfl⟩
theorem cRule : Tryd.prog.cellsOf 24 = 5 := by kernel_rfl
theorem cInt : Tryd.prog.cellsOf 3 = 1 := by kernel_rfl
theorem cInts : Tryd.prog.cellsOf 22 = 1 := by kernel_rfl

set_option maxRecDepth 100000 in
/-- a rule that was handed over: its parts -/
theorem open_rule {H : Type} {enc : TypeId × Value → H} {W : World} {b0 : Nat} {v : Value} {d : DataW H} {p : List MemPlace}
    (hv : Value.okWide Tryd.prog W .any b0 24 v) (h : DataW.Trod enc Tryd.prog W 0 (fun _ => true) true 24 v d p) :
    ∃ (f : ByteArray) (e : Int) (sl : Value) (c u : Int) (ds : List Int), v = rv f e sl c u ∧ Got W sl ds := by
  obtain ⟨cs, rfl, hsz⟩ := okWide_struct Tryd.underlying24 hv
  obtain ⟨c0, c1, c2, c3, c4, rfl⟩ := array5 (hsz.trans cRule)
  obtain ⟨fuel, hf⟩ := h
  obtain ⟨xs, n, _, _, hl, hlen, hfl⟩ := DataW.trod_struct Tryd.underlying24 hf
  have h0 := hfl 0 _ rfl
  have h1 := hfl 1 _ rfl
  have h2 := hfl 2 _ rfl
  have h3 := hfl 3 _ rfl
  have h4 := hfl 4 _ rfl
  match xs, hlen with
  | [y0, y1, y2, y3, y4], _ =>
  simp [Value.cells, cStr, cInt, cInts] at h0 h1 h2 h3 h4
  obtain ⟨s, e0, _, _⟩ := DataW.trod_string Tryd.underlying9 h0
  obtain ⟨e, e1, _, _⟩ := DataW.trod_int Tryd.underlying3 h1
  obtain ⟨c, e3, _, _⟩ := DataW.trod_int Tryd.underlying3 h3
  obtain ⟨u, e4, _, _⟩ := DataW.trod_int Tryd.underlying3 h4
  cases e0
  cases e1
  cases e3
  cases e4
  rcases open_ints Tryd.underlying22 Tryd.underlying3 cInt h2 with ⟨e2, _⟩ | ⟨a, len, cap, zs, e2, _, hlc, _, hz, _, hc, _⟩
  · cases e2
    exact ⟨s, e, _, c, u, [], rfl, none, 0, rfl, fun _ => ⟨rfl, rfl⟩, fun ad ha => by cases ha⟩
  · cases e2
    have hzl : zs.length = cap := by simpa using hz
    have hl' : (zs.take len).length = len := by simp; omega
    refine ⟨s, e, _, c, u, zs.take len, rfl, some a, cap, by rw [hl'], fun ha => (by cases ha), fun ad ha j hj => ?_⟩
    cases ha
    have hj' : j < len := by omega
    have hcell := hc j (by omega)
    have e5 : zs.getD j 0 = (zs.take len)[j] := by simp [List.getD, List.getElem?_eq_getElem (show j < zs.length by omega)]
    rw [e5] at hcell
    refine ⟨?_, hcell⟩
    rcases Nat.lt_or_ge a.block W.heap.size with h | h
    · exact h
    · have hb : W.heap.size ≤ (a.add j).block := by rw [addr_add_block]; exact h
      simp [World.cell?, Array.getElem?_eq_none hb] at hcell
end Go.Proofs.YtfnajhpcbajhfabDoor
