/- What the rows' lists of package-level variables give: the names of the days. -/
import Derived.Test.YtpdcjnkgkpbdgaaGreatDoorFrameEvJ
import Derived.Test.YtpdcjnkgkpbdgaaGreatDoorJeN
import Derived.Lay
import Derived.WideKeyArgs
namespace Go.Proofs.YtpdcjnkgkpbdgaaGreatDoor
open Go.ChangeShapes Go.WideShapes Go.ChangeAt Go.RowKit Cal

theorem gNames : Tryz.prog.globalNamed "lammastide/rule.dayNames" = some 7 := by kernel_rfl
theorem tNames : (Tryz.prog.globals[7]?).map (·.type) = some 134 := by kernel_rfl
theorem cNames : Tryz.prog.cellsOf 134 = 7 := by kernel_rfl

/-- an array of texts that reads as the list: its cells -/
theorem cells_of_texts {H : Type} {enc : TypeId × Value → H} {P : Program} {w : World} {base : Nat} {sp : Nat → Bool} {held : Bool} {fuel : Nat} {t e : TypeId} {n : Nat} {cs : List Value} {zs : List (List UInt8)} {p : List MemPlace}
    (ht : P.underlying t = some (.array n e)) (he : P.underlying e = some .string) (hce : P.cellsOf e = 1) (hct : P.cellsOf t = n)
    (h : DataW.trod enc P w base sp held fuel t cs = some (.agg (zs.map fun z => .lit (.string z)), p)) (i : Nat) (z : List UInt8) (hz : zs[i]? = some z) : cs[i]? = some (.string ⟨z.toArray⟩) := by
  cases fuel with
  | zero => simp [DataW.trod] at h
  | succ fuel =>
    simp only [DataW.trod, ht, hce, hct, Nat.mul_one] at h
    split at h
    · rename_i hl
      obtain ⟨xs, hm, hx⟩ := Option.map_eq_some_iff.1 h
      have hxs : xs.map (·.1) = zs.map fun z => (DataW.lit (.string z) : DataW H) := by
        have := congrArg Prod.fst hx
        simpa using this
      have hxl : xs.length = n := by simpa using Lib.mapM_length hm
      have hzl : zs.length = n := by
        have := congrArg List.length hxs
        simp at this
        omega
      have hi : i < n := by
        have := (List.getElem?_eq_some_iff.1 hz).1
        omega
      obtain ⟨b, hb, hf⟩ := Lib.mapM_at hm i i (by simp [hi])
      obtain ⟨s, hc, rfl, _⟩ := DataW.trod_string he hf
      have h1 : cs[i]? = some (.string s) := by
        have := congrArg (·[0]?) hc
        simpa [List.getElem?_take, List.getElem?_drop] using this
      have h2 : (xs.map (·.1))[i]? = some (DataW.lit (.string s.data.toList) : DataW H) := by simp [hb]
      rw [hxs, List.getElem?_map, hz] at h2
      simp only [Option.map_some, Option.some.injEq, DataW.lit.injEq, Lit.string.injEq] at h2
      rw [h1, h2]
    · cases h
theorem names_of {r : List (String × DataW Unit)} {W : World} (h : laidMet Tryz.prog (("lammastide/rule.dayNames", Rows.laid_lammastide_rule_dayNames) :: r) W) (d : Nat) (hd : d < 7) :
    W.cell? ⟨7, d, none⟩ = some (.string ⟨(nm d).toArray⟩) := by
  obtain ⟨ps, ⟨g', t', cs, fuel, p, q, hg', ht', hvar, hd', _, _⟩, _⟩ := h
  obtain rfl := Option.some.inj (gNames.symm.trans hg')
  obtain rfl := Option.some.inj (tNames.symm.trans ht')
  have hc := cells_of_texts (zs := [nm 0, nm 1, nm 2, nm 3, nm 4, nm 5, nm 6]) Tryz.underlying134 Tryz.underlying9 cStr cNames hd' d (nm d) (by
    match d, hd with
    | 0, _ => rfl
    | 1, _ => rfl
    | 2, _ => rfl
    | 3, _ => rfl
    | 4, _ => rfl
    | 5, _ => rfl
    | 6, _ => rfl)
  rw [World.var?_cell gNames hvar d]
  simpa using hc
end Go.Proofs.YtpdcjnkgkpbdgaaGreatDoor
