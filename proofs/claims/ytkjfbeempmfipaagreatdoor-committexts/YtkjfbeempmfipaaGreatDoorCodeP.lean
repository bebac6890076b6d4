/- errors.Is, errors.As over package api's errors; plain.Code and the law's own coded -/
import Derived.Test.YtkjfbeempmfipaaGreatDoorProg
import Derived.WalkKit
import Derived.WalkSpells
import Derived.WalkLawsBesides
import Derived.LaidEql
import Derived.Stop.Asserts
import Derived.RowKitTokens
namespace Go.Proofs.YtkjfbeempmfipaaGreatDoor
open Go.RowKit Go.Extern.Stop Go.Stop Go.Extern

/-- what the model does at a function without a body -/
def ext (fn : Func) : Array Value → Sem Value := (Extern.find fn).getD (fun _ => pure (.bool false))
theorem isTypeOf (v : Value) (w : World) : (ext Tryz.f59 #[.iface 221 v]).run Tryz.prog w = .ok (.iface 138 (.agg #[.pointer (some ⟨21, 221, none⟩)])) w := by kernel_rfl
theorem isComparable (w : World) : (ext Tryz.f193 #[.agg #[.pointer (some ⟨21, 221, none⟩)]]).run Tryz.prog w = .ok (.bool true) w := by kernel_rfl
theorem isMethodComparable (v : Value) (w : World) : (Go.method 362 138 v "Comparable").run Tryz.prog w = .ok (193, v) w := by kernel_rfl
theorem isComp : (Tryz.prog.info? 221).map (·.comparable) = some true := by kernel_rfl
theorem isSize : (Tryz.prog.info? 223).map (·.size) = some 1 := by kernel_rfl
theorem noIsE (v : Value) (xT : TypeId) (w : World) : (Instr.typeAssert (.iface 221 v) xT 149 true).run Tryz.prog w = .ok (.tuple #[.nilIface, .bool false]) w := run_typeAssert_lacksB Tryz.underlying149 (by kernel_rfl) (by kernel_rfl) v xT w
theorem noUnwrapE (v : Value) (xT : TypeId) (w : World) : (Instr.typeAssert (.iface 221 v) xT 145 true).run Tryz.prog w = .ok (.tuple #[.nilIface, .bool false]) w := run_typeAssert_lacksB Tryz.underlying145 (by kernel_rfl) (by kernel_rfl) v xT w
theorem noUnwrapsE (v : Value) (xT : TypeId) (w : World) : (Instr.typeAssert (.iface 221 v) xT 147 true).run Tryz.prog w = .ok (.tuple #[.nilIface, .bool false]) w := run_typeAssert_lacksB Tryz.underlying147 (by kernel_rfl) (by kernel_rfl) v xT w
theorem noIsW (v : Value) (xT : TypeId) (w : World) : (Instr.typeAssert (.iface 78 v) xT 149 true).run Tryz.prog w = .ok (.tuple #[.nilIface, .bool false]) w := run_typeAssert_lacksB Tryz.underlying149 (by kernel_rfl) (by kernel_rfl) v xT w
theorem hasUnwrapW (v : Value) (xT : TypeId) (w : World) : (Instr.typeAssert (.iface 78 v) xT 145 true).run Tryz.prog w = .ok (.tuple #[.iface 78 v, .bool true]) w := run_typeAssert_hasB Tryz.underlying145 (by kernel_rfl) v xT w
theorem methodUnwrap (v : Value) (w : World) : (Go.method 362 78 v "Unwrap").run Tryz.prog w = .ok (187, v) w := by kernel_rfl

/-- errors.Is at the error itself. -/
theorem is_same (a : Addr) (w : World) :
    Calls Tryz.prog 41 #[.iface 221 (.pointer (some a)), .iface 221 (.pointer (some a))] w fun e w' => e = .returned (.bool true) ∧ w' = w := by
  obtain ⟨i, hi, hcmp⟩ := Option.map_eq_some_iff.1 isComp
  obtain ⟨j, hj, hjs⟩ := Option.map_eq_some_iff.1 isSize
  have h8 := @run_callFunc_extern Tryz.prog 59 _ (ext Tryz.f59) Tryz.func59 (by kernel_rfl) (by kernel_rfl) (by kernel_rfl) (by kernel_rfl)
  have h32 := @run_callFunc_extern Tryz.prog 193 _ (ext Tryz.f193) Tryz.func193 (by kernel_rfl) (by kernel_rfl) (by kernel_rfl) (by kernel_rfl)
  have tT := isTypeOf
  have cT := isComparable
  have mR := isMethodComparable
  have heq := run_eql_iface_ptr_same (P := Tryz.prog) w a Tryz.underlying30 Tryz.underlying221 hi hcmp hj
  go_enter Tryz.func41, Tryz.ntmps41
  go_wp2
  refine wp_loop_rounds 1 ?_
  rw [rounds_succ]
  go_wp2
  go_ret
  exact ⟨rfl, rfl⟩

/-- errors.Is at another error of errors.New's make. -/
theorem is_other (a b : Addr) (ca cb : Array Value) (ta tb : TypeId) (w : World) (hne : a ≠ b) (ha : w.heap[a.block]? = some (.cells ca ta (0, 0))) (hb : w.heap[b.block]? = some (.cells cb tb (0, 0))) :
    Calls Tryz.prog 41 #[.iface 221 (.pointer (some a)), .iface 221 (.pointer (some b))] w fun e w' => e = .returned (.bool false) ∧ w' = w := by
  obtain ⟨i, hi, hcmp⟩ := Option.map_eq_some_iff.1 isComp
  obtain ⟨j, hj, hjs⟩ := Option.map_eq_some_iff.1 isSize
  have h8 := @run_callFunc_extern Tryz.prog 59 _ (ext Tryz.f59) Tryz.func59 (by kernel_rfl) (by kernel_rfl) (by kernel_rfl) (by kernel_rfl)
  have h32 := @run_callFunc_extern Tryz.prog 193 _ (ext Tryz.f193) Tryz.func193 (by kernel_rfl) (by kernel_rfl) (by kernel_rfl) (by kernel_rfl)
  have tT := isTypeOf
  have cT := isComparable
  have mR := isMethodComparable
  have nE := noIsE
  have uE := noUnwrapE
  have vE := noUnwrapsE
  have heq := run_eql_iface_ptr_other (P := Tryz.prog) w Tryz.underlying30 Tryz.underlying221 hi hcmp hj (by rw [hjs]; decide) hne ha hb
  go_enter Tryz.func41, Tryz.ntmps41
  go_wp2
  refine wp_loop_rounds 1 ?_
  rw [rounds_succ]
  go_wp2
  go_ret
  exact ⟨rfl, rfl⟩

/-- errors.Is at a Fault that wraps the error. -/
theorem is_wrap_same (pb po : Nat) (b : Addr) (w : World) (h1 : w.cell? ⟨pb, po + 1, none⟩ = some (.iface 221 (.pointer (some b)))) :
    Calls Tryz.prog 41 #[.iface 78 (.pointer (some ⟨pb, po, none⟩)), .iface 221 (.pointer (some b))] w fun e w' => e = .returned (.bool true) ∧ w' = w := by
  obtain ⟨i, hi, hcmp⟩ := Option.map_eq_some_iff.1 isComp
  obtain ⟨j, hj, hjs⟩ := Option.map_eq_some_iff.1 isSize
  have h8 := @run_callFunc_extern Tryz.prog 59 _ (ext Tryz.f59) Tryz.func59 (by kernel_rfl) (by kernel_rfl) (by kernel_rfl) (by kernel_rfl)
  have h32 := @run_callFunc_extern Tryz.prog 193 _ (ext Tryz.f193) Tryz.func193 (by kernel_rfl) (by kernel_rfl) (by kernel_rfl) (by kernel_rfl)
  have tT := isTypeOf
  have cT := isComparable
  have mR := isMethodComparable
  have nW := noIsW
  have uW := hasUnwrapW
  have mU := methodUnwrap
  have heq := run_eql_iface_ptr_same (P := Tryz.prog) w b Tryz.underlying30 Tryz.underlying221 hi hcmp hj
  have hty := run_eql_iface_types (P := Tryz.prog) 78 221 (.pointer (some ⟨pb, po, none⟩)) (.pointer (some b)) Tryz.underlying30 (by decide) w
  go_enter Tryz.func41, Tryz.ntmps41
  go_wp2
  refine wp_loop_rounds 2 ?_
  rw [rounds_succ]
  go_wp2
  rw [rounds_succ]
  go_wp2
  go_ret
  exact ⟨rfl, rfl⟩

/-- errors.Is at a Fault that wraps another error. -/
theorem is_wrap_other (pb po : Nat) (b a : Addr) (ca cb : Array Value) (ta tb : TypeId) (w : World) (h1 : w.cell? ⟨pb, po + 1, none⟩ = some (.iface 221 (.pointer (some a)))) (hne : a ≠ b) (ha : w.heap[a.block]? = some (.cells ca ta (0, 0))) (hb : w.heap[b.block]? = some (.cells cb tb (0, 0))) :
    Calls Tryz.prog 41 #[.iface 78 (.pointer (some ⟨pb, po, none⟩)), .iface 221 (.pointer (some b))] w fun e w' => e = .returned (.bool false) ∧ w' = w := by
  obtain ⟨i, hi, hcmp⟩ := Option.map_eq_some_iff.1 isComp
  obtain ⟨j, hj, hjs⟩ := Option.map_eq_some_iff.1 isSize
  have h8 := @run_callFunc_extern Tryz.prog 59 _ (ext Tryz.f59) Tryz.func59 (by kernel_rfl) (by kernel_rfl) (by kernel_rfl) (by kernel_rfl)
  have h32 := @run_callFunc_extern Tryz.prog 193 _ (ext Tryz.f193) Tryz.func193 (by kernel_rfl) (by kernel_rfl) (by kernel_rfl) (by kernel_rfl)
  have tT := isTypeOf
  have cT := isComparable
  have mR := isMethodComparable
  have nE := noIsE
  have uE := noUnwrapE
  have vE := noUnwrapsE
  have nW := noIsW
  have uW := hasUnwrapW
  have mU := methodUnwrap
  have heq := run_eql_iface_ptr_other (P := Tryz.prog) w Tryz.underlying30 Tryz.underlying221 hi hcmp hj (by rw [hjs]; decide) hne ha hb
  have hty := run_eql_iface_types (P := Tryz.prog) 78 221 (.pointer (some ⟨pb, po, none⟩)) (.pointer (some b)) Tryz.underlying30 (by decide) w
  go_enter Tryz.func41, Tryz.ntmps41
  go_wp2
  refine wp_loop_rounds 2 ?_
  rw [rounds_succ]
  go_wp2
  rw [rounds_succ]
  go_wp2
  go_ret
  exact ⟨rfl, rfl⟩
end Go.Proofs.YtkjfbeempmfipaaGreatDoor
namespace Go.Proofs.YtkjfbeempmfipaaGreatDoor
open Go.RowKit Go.Extern.Stop Go.Stop Go.Extern

theorem asValueOf (t : Addr) (w : World) : (ext Tryz.f55 #[.iface 80 (.pointer (some t))]).run Tryz.prog w
    = .ok (.agg #[.pointer (some ⟨21, 80, none⟩), .pointer (some ⟨w.heap.size, 0, none⟩), .int .u64 150]) (w.alloc (.cells #[.pointer (some t)] 80)) := by kernel_rfl
theorem asValueOfE (e : Addr) (w : World) : (ext Tryz.f55 #[.iface 78 (.pointer (some e))]).run Tryz.prog w
    = .ok (.agg #[.pointer (some ⟨21, 78, none⟩), .pointer (some ⟨w.heap.size, 0, none⟩), .int .u64 150]) (w.alloc (.cells #[.pointer (some e)] 78)) := by kernel_rfl
theorem asType (a : Addr) (w : World) : (ext Tryz.f56 #[.agg #[.pointer (some ⟨21, 80, none⟩), .pointer (some a), .int .u64 150]]).run Tryz.prog w
    = .ok (.iface 138 (.agg #[.pointer (some ⟨21, 80, none⟩)])) w := by kernel_rfl
theorem asMethodKind (h : Value) (w : World) : (Go.method 362 138 (.agg #[h]) "Kind").run Tryz.prog w = .ok (180, h) w := by kernel_rfl
theorem asMethodElem (h : Value) (w : World) : (Go.method 362 138 (.agg #[h]) "Elem").run Tryz.prog w = .ok (194, .agg #[h]) w := by kernel_rfl
theorem asMethodImplements (h : Value) (w : World) : (Go.method 362 138 (.agg #[h]) "Implements").run Tryz.prog w = .ok (195, .agg #[h]) w := by kernel_rfl
theorem asMethodAssignableTo (h : Value) (w : World) : (Go.method 362 138 (.agg #[h]) "AssignableTo").run Tryz.prog w = .ok (192, .agg #[h]) w := by kernel_rfl
theorem asKindPP (w : World) : (ext Tryz.f180 #[.pointer (some ⟨21, 80, none⟩)]).run Tryz.prog w = .ok (.int .u8 22) w := by kernel_rfl
theorem asKindP (w : World) : (ext Tryz.f180 #[.pointer (some ⟨21, 78, none⟩)]).run Tryz.prog w = .ok (.int .u8 22) w := by kernel_rfl
theorem asElem (w : World) : (ext Tryz.f194 #[.agg #[.pointer (some ⟨21, 80, none⟩)]]).run Tryz.prog w = .ok (.iface 138 (.agg #[.pointer (some ⟨21, 78, none⟩)])) w := by kernel_rfl
theorem asImplements (w : World) : (ext Tryz.f195 #[.agg #[.pointer (some ⟨21, 78, none⟩)], .iface 138 (.agg #[.pointer (some ⟨21, 30, none⟩)])]).run Tryz.prog w = .ok (.bool true) w := by kernel_rfl
theorem asTypeOfF (v : Value) (w : World) : (ext Tryz.f59 #[.iface 78 v]).run Tryz.prog w = .ok (.iface 138 (.agg #[.pointer (some ⟨21, 78, none⟩)])) w := by kernel_rfl
theorem asAssignF (w : World) : (ext Tryz.f192 #[.agg #[.pointer (some ⟨21, 78, none⟩)], .iface 138 (.agg #[.pointer (some ⟨21, 78, none⟩)])]).run Tryz.prog w = .ok (.bool true) w := by kernel_rfl
theorem asAssignE (w : World) : (ext Tryz.f192 #[.agg #[.pointer (some ⟨21, 221, none⟩)], .iface 138 (.agg #[.pointer (some ⟨21, 78, none⟩)])]).run Tryz.prog w = .ok (.bool false) w := by kernel_rfl
theorem noAsE (v : Value) (xT : TypeId) (w : World) : (Instr.typeAssert (.iface 221 v) xT 142 true).run Tryz.prog w = .ok (.tuple #[.nilIface, .bool false]) w := run_typeAssert_lacksB Tryz.underlying142 (by kernel_rfl) (by kernel_rfl) v xT w

theorem rlm (z : Sem Value) (f : TypeId → Addr → Nat → Nat → Sem Value) (v : Value) :
    ReflectliteValue.method z f #[v] = (do match ← ReflectliteValue.parts v with | none => z | some (t, a, fl) => f t a fl (fl % 32)) := rfl
theorem asParts (a : Addr) (w : World) : (ReflectliteValue.parts (.agg #[.pointer (some ⟨21, 80, none⟩), .pointer (some a), .int .u64 150])).run Tryz.prog w = .ok (some (80, a, 150)) w := by kernel_rfl
theorem extIsNil : ext Tryz.f57 = ReflectliteValue.method (ReflectliteValue.valueError "reflectlite.Value.IsNil" 0) ReflectliteValue.isNil := by kernel_rfl
theorem extElem : ext Tryz.f81 = ReflectliteValue.method (ReflectliteValue.valueError "reflectlite.Value.Elem" 0) ReflectliteValue.elem := by kernel_rfl
theorem extSet : ext Tryz.f82 = ReflectliteValue.set := by kernel_rfl
theorem asIsNil (a p : Addr) (W : World) (ha : W.cell? a = some (.pointer (some p))) :
    (ext Tryz.f57 #[.agg #[.pointer (some ⟨21, 80, none⟩), .pointer (some a), .int .u64 150]]).run Tryz.prog W = .ok (.bool false) W := by
  rw [extIsNil, rlm]
  simp only [Sem.run_bind, asParts, Result.andThen]
  simp [ReflectliteValue.isNil, loadVar, isAgg, underlying, Tryz.underlying80, ha, Result.andThen]
theorem asElemOf (w : World) : (Rtype.elem? 80).run Tryz.prog w = .ok (some 78) w := by kernel_rfl
theorem asMk (p : Addr) (w : World) : (ReflectliteValue.mk 78 p ReflectliteValue.flagAddr).run Tryz.prog w = .ok (.agg #[.pointer (some ⟨21, 78, none⟩), .pointer (some p), .int .u64 406]) w := by kernel_rfl
theorem asElemV (a p : Addr) (W : World) (ha : W.cell? a = some (.pointer (some p))) :
    (ext Tryz.f81 #[.agg #[.pointer (some ⟨21, 80, none⟩), .pointer (some a), .int .u64 150]]).run Tryz.prog W
      = .ok (.agg #[.pointer (some ⟨21, 78, none⟩), .pointer (some p), .int .u64 406]) W := by
  rw [extElem, rlm]
  simp only [Sem.run_bind, asParts, Result.andThen]
  simp [ReflectliteValue.elem, loadVar, isAgg, underlying, Tryz.underlying80, ha, Result.andThen, asElemOf, asMk]
theorem asPartsA (a : Addr) (w : World) : (ReflectliteValue.parts (.agg #[.pointer (some ⟨21, 78, none⟩), .pointer (some a), .int .u64 406])).run Tryz.prog w = .ok (some (78, a, 406)) w := by kernel_rfl
theorem asPartsB (a : Addr) (w : World) : (ReflectliteValue.parts (.agg #[.pointer (some ⟨21, 78, none⟩), .pointer (some a), .int .u64 150])).run Tryz.prog w = .ok (some (78, a, 150)) w := by kernel_rfl
theorem asDirect (w : World) : (Rtype.directlyAssignable 78 78).run Tryz.prog w = .ok true w := by kernel_rfl
theorem setMatch (v x : Value) (f : Value → Value → Sem Value) (g : Array Value → Sem Value) : ReflectliteValue.set.match_3 (fun _ => Sem Value) #[v, x] f g = f v x := rfl
theorem asSet (ta b e : Addr) (old : Value) (W : World) (hb : W.cell? b = some (.pointer (some e))) (ht : W.cell? ta = some old) (hf : W.frozen? ta = false) :
    (ext Tryz.f82 #[.agg #[.pointer (some ⟨21, 78, none⟩), .pointer (some ta), .int .u64 406], .agg #[.pointer (some ⟨21, 78, none⟩), .pointer (some b), .int .u64 150]]).run Tryz.prog W
      = .ok (.tuple #[]) (W.setCell ta (.pointer (some e))) := by
  rw [extSet]
  unfold ReflectliteValue.set
  rw [setMatch]
  simp only [Sem.run_bind, asPartsA, asPartsB, Result.andThen]
  simp [ReflectliteValue.flagAddr, loadVar, isAgg, underlying, Tryz.underlying78, hb, Result.andThen, asDirect, storeVar, Value.cells, storeCells, Addr.add]
  rw [run_store Tryz.prog W ta _ _ (by rfl)]
  simp [ht, hf]
end Go.Proofs.YtkjfbeempmfipaaGreatDoor
namespace Go.Proofs.YtkjfbeempmfipaaGreatDoor
open Go.RowKit Go.Extern.Stop Go.Stop Go.Extern

theorem as_miss (a t : Addr) (w : World) (hg : w.cell? ⟨11, 0, none⟩ = some (.iface 138 (.agg #[.pointer (some ⟨21, 30, none⟩)]))) :
    Calls Tryz.prog 40 #[.iface 221 (.pointer (some a)), .iface 80 (.pointer (some t))] w fun ev w' => ev = .returned (.bool false) ∧ Below w.heap.size w w' := by
  have h6 := @run_callFunc_extern Tryz.prog 55 _ (ext Tryz.f55) Tryz.func55 (by kernel_rfl) (by kernel_rfl) (by kernel_rfl) (by kernel_rfl)
  have h7 := @run_callFunc_extern Tryz.prog 56 _ (ext Tryz.f56) Tryz.func56 (by kernel_rfl) (by kernel_rfl) (by kernel_rfl) (by kernel_rfl)
  have h8 := @run_callFunc_extern Tryz.prog 57 _ (ext Tryz.f57) Tryz.func57 (by kernel_rfl) (by kernel_rfl) (by kernel_rfl) (by kernel_rfl)
  have h27 := @run_callFunc_extern Tryz.prog 180 _ (ext Tryz.f180) Tryz.func180 (by kernel_rfl) (by kernel_rfl) (by kernel_rfl) (by kernel_rfl)
  have h37 := @run_callFunc_extern Tryz.prog 194 _ (ext Tryz.f194) Tryz.func194 (by kernel_rfl) (by kernel_rfl) (by kernel_rfl) (by kernel_rfl)
  have h38 := @run_callFunc_extern Tryz.prog 195 _ (ext Tryz.f195) Tryz.func195 (by kernel_rfl) (by kernel_rfl) (by kernel_rfl) (by kernel_rfl)
  have h10 := @run_callFunc_extern Tryz.prog 59 _ (ext Tryz.f59) Tryz.func59 (by kernel_rfl) (by kernel_rfl) (by kernel_rfl) (by kernel_rfl)
  have h35 := @run_callFunc_extern Tryz.prog 192 _ (ext Tryz.f192) Tryz.func192 (by kernel_rfl) (by kernel_rfl) (by kernel_rfl) (by kernel_rfl)
  have tO := isTypeOf
  have mA := asMethodAssignableTo
  have aE := asAssignE
  have f6 := asValueOf
  have f7 := asType
  have mK := asMethodKind
  have mE := asMethodElem
  have mI := asMethodImplements
  have k27 := asKindPP
  have k25 := asKindP
  have e27 := asElem
  have i25 := asImplements
  have nA := noAsE
  have uE := noUnwrapE
  have vE := noUnwrapsE
  have n8 := asIsNil ⟨w.heap.size, 0, none⟩ t ((w.alloc (.cells #[.pointer (some t)] 80)).alloc (.cells #[.pointer (some ⟨21, 80, none⟩), .pointer (some ⟨w.heap.size, 0, none⟩), .int .u64 150] 104)) (by simp)
  have hlt : 11 < w.heap.size := by
    rcases Nat.lt_or_ge 11 w.heap.size with h | h
    · exact h
    · simp [World.cell?, Array.getElem?_eq_none h] at hg
  have hg2 : ((w.alloc (.cells #[.pointer (some t)] 80)).alloc (.cells #[.pointer (some ⟨21, 80, none⟩), .pointer (some ⟨w.heap.size, 0, none⟩), .int .u64 150] 104)).cell? ⟨11, 0, none⟩ = some (.iface 138 (.agg #[.pointer (some ⟨21, 30, none⟩)])) := by
    rw [World.cell?_alloc_lt _ _ ⟨11, 0, none⟩ (by simp; omega), World.cell?_alloc_lt _ _ ⟨11, 0, none⟩ hlt]; exact hg
  go_enter Tryz.func40, Tryz.ntmps40
  go_wp2
  refine wp_loop_rounds 1 ?_
  rw [rounds_succ]
  go_wp2
  go_ret
  exact ⟨rfl, (((Below.refl _ _).alloc (Nat.le_refl _) _).alloc (by simp) _).alloc (by simp; omega) _⟩
end Go.Proofs.YtkjfbeempmfipaaGreatDoor
namespace Go.Proofs.YtkjfbeempmfipaaGreatDoor
open Go.RowKit Go.Extern.Stop Go.Stop Go.Extern

set_option maxHeartbeats 4000000 in
theorem as_hit (e t : Addr) (old : Value) (w : World) (hg : w.cell? ⟨11, 0, none⟩ = some (.iface 138 (.agg #[.pointer (some ⟨21, 30, none⟩)]))) (ht0 : w.cell? t = some old) (hf0 : w.frozen? t = false) :
    Calls Tryz.prog 40 #[.iface 78 (.pointer (some e)), .iface 80 (.pointer (some t))] w fun ev w' => ev = .returned (.bool true) ∧ w' = ((((w.alloc (.cells #[.pointer (some t)] 80)).alloc (.cells #[.pointer (some ⟨21, 80, none⟩), .pointer (some ⟨w.heap.size, 0, none⟩), .int .u64 150] 104)).alloc (.cells #[.pointer (some ⟨21, 80, none⟩), .pointer (some ⟨w.heap.size, 0, none⟩), .int .u64 150] 104)).alloc (.cells #[.pointer (some e)] 78)).setCell t (.pointer (some e)) := by
  have h6 := @run_callFunc_extern Tryz.prog 55 _ (ext Tryz.f55) Tryz.func55 (by kernel_rfl) (by kernel_rfl) (by kernel_rfl) (by kernel_rfl)
  have h7 := @run_callFunc_extern Tryz.prog 56 _ (ext Tryz.f56) Tryz.func56 (by kernel_rfl) (by kernel_rfl) (by kernel_rfl) (by kernel_rfl)
  have h8 := @run_callFunc_extern Tryz.prog 57 _ (ext Tryz.f57) Tryz.func57 (by kernel_rfl) (by kernel_rfl) (by kernel_rfl) (by kernel_rfl)
  have h27 := @run_callFunc_extern Tryz.prog 180 _ (ext Tryz.f180) Tryz.func180 (by kernel_rfl) (by kernel_rfl) (by kernel_rfl) (by kernel_rfl)
  have h37 := @run_callFunc_extern Tryz.prog 194 _ (ext Tryz.f194) Tryz.func194 (by kernel_rfl) (by kernel_rfl) (by kernel_rfl) (by kernel_rfl)
  have h38 := @run_callFunc_extern Tryz.prog 195 _ (ext Tryz.f195) Tryz.func195 (by kernel_rfl) (by kernel_rfl) (by kernel_rfl) (by kernel_rfl)
  have h10 := @run_callFunc_extern Tryz.prog 59 _ (ext Tryz.f59) Tryz.func59 (by kernel_rfl) (by kernel_rfl) (by kernel_rfl) (by kernel_rfl)
  have h35 := @run_callFunc_extern Tryz.prog 192 _ (ext Tryz.f192) Tryz.func192 (by kernel_rfl) (by kernel_rfl) (by kernel_rfl) (by kernel_rfl)
  have h11 := @run_callFunc_extern Tryz.prog 81 _ (ext Tryz.f81) Tryz.func81 (by kernel_rfl) (by kernel_rfl) (by kernel_rfl) (by kernel_rfl)
  have h12 := @run_callFunc_extern Tryz.prog 82 _ (ext Tryz.f82) Tryz.func82 (by kernel_rfl) (by kernel_rfl) (by kernel_rfl) (by kernel_rfl)
  have tO := asTypeOfF
  have mA := asMethodAssignableTo
  have a25 := asAssignF
  have v25 := asValueOfE
  have f6 := asValueOf
  have f7 := asType
  have mK := asMethodKind
  have mE := asMethodElem
  have mI := asMethodImplements
  have k27 := asKindPP
  have k25 := asKindP
  have e27 := asElem
  have i25 := asImplements
  have n8 := asIsNil ⟨w.heap.size, 0, none⟩ t ((w.alloc (.cells #[.pointer (some t)] 80)).alloc (.cells #[.pointer (some ⟨21, 80, none⟩), .pointer (some ⟨w.heap.size, 0, none⟩), .int .u64 150] 104)) (by simp)
  have hlt : 11 < w.heap.size := by
    rcases Nat.lt_or_ge 11 w.heap.size with h | h
    · exact h
    · simp [World.cell?, Array.getElem?_eq_none h] at hg
  have hg2 : ((w.alloc (.cells #[.pointer (some t)] 80)).alloc (.cells #[.pointer (some ⟨21, 80, none⟩), .pointer (some ⟨w.heap.size, 0, none⟩), .int .u64 150] 104)).cell? ⟨11, 0, none⟩ = some (.iface 138 (.agg #[.pointer (some ⟨21, 30, none⟩)])) := by
    rw [World.cell?_alloc_lt _ _ ⟨11, 0, none⟩ (by simp; omega), World.cell?_alloc_lt _ _ ⟨11, 0, none⟩ hlt]; exact hg
  have htl : t.block < w.heap.size := by
    rcases Nat.lt_or_ge t.block w.heap.size with h | h
    · exact h
    · simp [World.cell?, Array.getElem?_eq_none h] at ht0
  have el := asElemV ⟨w.heap.size, 0, none⟩ t (((w.alloc (.cells #[.pointer (some t)] 80)).alloc (.cells #[.pointer (some ⟨21, 80, none⟩), .pointer (some ⟨w.heap.size, 0, none⟩), .int .u64 150] 104)).alloc (.cells #[.pointer (some ⟨21, 80, none⟩), .pointer (some ⟨w.heap.size, 0, none⟩), .int .u64 150] 104)) (by rw [World.cell?_alloc_lt _ _ ⟨w.heap.size, 0, none⟩ (by simp; omega)]; simp)
  have st := asSet t ⟨w.heap.size + 1 + 1 + 1, 0, none⟩ e old ((((w.alloc (.cells #[.pointer (some t)] 80)).alloc (.cells #[.pointer (some ⟨21, 80, none⟩), .pointer (some ⟨w.heap.size, 0, none⟩), .int .u64 150] 104)).alloc (.cells #[.pointer (some ⟨21, 80, none⟩), .pointer (some ⟨w.heap.size, 0, none⟩), .int .u64 150] 104)).alloc (.cells #[.pointer (some e)] 78))
    (by rw [World.cell?_alloc_at _ _ _ _ (by simp)]; rfl)
    (by rw [World.cell?_alloc_lt _ _ t (by simp; omega), World.cell?_alloc_lt _ _ t (by simp; omega), World.cell?_alloc_lt _ _ t (by simp; omega), World.cell?_alloc_lt _ _ t htl]; exact ht0)
    (by rw [World.frozen?_alloc_old _ _ t (by simp; omega), World.frozen?_alloc_old _ _ t (by simp; omega), World.frozen?_alloc_old _ _ t (by simp; omega), World.frozen?_alloc_old _ _ t (Nat.ne_of_lt htl)]; exact hf0)
  go_enter Tryz.func40, Tryz.ntmps40
  go_wp2
  refine wp_loop_rounds 1 ?_
  rw [rounds_succ]
  go_wp2
  go_ret
  exact ⟨rfl, rfl⟩
end Go.Proofs.YtkjfbeempmfipaaGreatDoor
namespace Go.Proofs.YtkjfbeempmfipaaGreatDoor
open Go.RowKit

/-- where the eleven errors of package api lie -/
structure Sents (s : Nat → Addr) (w : World) : Prop where
  c0 : w.cell? ⟨0, 0, none⟩ = some (.iface 221 (.pointer (some (s 0))))
  c1 : w.cell? ⟨1, 0, none⟩ = some (.iface 221 (.pointer (some (s 1))))
  c2 : w.cell? ⟨2, 0, none⟩ = some (.iface 221 (.pointer (some (s 2))))
  c3 : w.cell? ⟨3, 0, none⟩ = some (.iface 221 (.pointer (some (s 3))))
  c4 : w.cell? ⟨4, 0, none⟩ = some (.iface 221 (.pointer (some (s 4))))
  c5 : w.cell? ⟨5, 0, none⟩ = some (.iface 221 (.pointer (some (s 5))))
  c6 : w.cell? ⟨6, 0, none⟩ = some (.iface 221 (.pointer (some (s 6))))
  c7 : w.cell? ⟨7, 0, none⟩ = some (.iface 221 (.pointer (some (s 7))))
  c8 : w.cell? ⟨8, 0, none⟩ = some (.iface 221 (.pointer (some (s 8))))
  c9 : w.cell? ⟨9, 0, none⟩ = some (.iface 221 (.pointer (some (s 9))))
  c10 : w.cell? ⟨10, 0, none⟩ = some (.iface 221 (.pointer (some (s 10))))
  blk : ∀ k, k < 11 → ∃ c t, w.heap[(s k).block]? = some (.cells c t (0, 0))
  ne : ∀ j k, j < 11 → k < 11 → j ≠ k → s j ≠ s k
  et : w.cell? ⟨11, 0, none⟩ = some (.iface 138 (.agg #[.pointer (some ⟨21, 30, none⟩)]))

theorem cell_lt {w : World} {p : Addr} {v : Value} (h : w.cell? p = some v) : p.block < w.heap.size := by
  rcases Nat.lt_or_ge p.block w.heap.size with hl | hl
  · exact hl
  · simp [World.cell?, Array.getElem?_eq_none hl] at h
theorem blk_lt {w : World} {b : Nat} {o : Obj} (h : w.heap[b]? = some o) : b < w.heap.size := by
  rcases Nat.lt_or_ge b w.heap.size with hl | hl
  · exact hl
  · rw [Array.getElem?_eq_none hl] at h; exact absurd h (by simp)
theorem cell_stepB {w w' : World} {p : Addr} {v : Value} {B : Nat} (h : w.cell? p = some v) (hb : Below B w w') (hB : w.heap.size ≤ B) : w'.cell? p = some v := by
  rw [hb.cell (p := p) (Nat.lt_of_lt_of_le (cell_lt h) hB)]; exact h
theorem Sents.step {s : Nat → Addr} {w w' : World} (g : Sents s w) (hb : Below w.heap.size w w') : Sents s w' where
  c0 := cell_stepB g.c0 hb (Nat.le_refl _)
  c1 := cell_stepB g.c1 hb (Nat.le_refl _)
  c2 := cell_stepB g.c2 hb (Nat.le_refl _)
  c3 := cell_stepB g.c3 hb (Nat.le_refl _)
  c4 := cell_stepB g.c4 hb (Nat.le_refl _)
  c5 := cell_stepB g.c5 hb (Nat.le_refl _)
  c6 := cell_stepB g.c6 hb (Nat.le_refl _)
  c7 := cell_stepB g.c7 hb (Nat.le_refl _)
  c8 := cell_stepB g.c8 hb (Nat.le_refl _)
  c9 := cell_stepB g.c9 hb (Nat.le_refl _)
  c10 := cell_stepB g.c10 hb (Nat.le_refl _)
  blk := fun k hk => by
    obtain ⟨c, t, h⟩ := g.blk k hk
    exact ⟨c, t, by rw [hb.block _ (blk_lt h)]; exact h⟩
  ne := g.ne
  et := cell_stepB g.et hb (Nat.le_refl _)
theorem Sents.alloc {s : Nat → Addr} {w : World} (g : Sents s w) (o : Obj) : Sents s (w.alloc o) :=
  g.step ((Below.refl _ _).alloc (Nat.le_refl _) _)

/-- the row of the eleven errors, as Code lays it -/
def row11 (s : Nat → Addr) : Obj := .cells #[.iface 221 (.pointer (some (s 0))), .iface 221 (.pointer (some (s 1))), .iface 221 (.pointer (some (s 2))), .iface 221 (.pointer (some (s 3))), .iface 221 (.pointer (some (s 4))), .iface 221 (.pointer (some (s 5))), .iface 221 (.pointer (some (s 6))), .iface 221 (.pointer (some (s 7))), .iface 221 (.pointer (some (s 8))), .iface 221 (.pointer (some (s 9))), .iface 221 (.pointer (some (s 10)))] 30
theorem row11_cell (s : Nat → Addr) (w : World) (k : Nat) (hk : k < 11) : (w.alloc (row11 s)).cell? ⟨w.heap.size, k, none⟩ = some (.iface 221 (.pointer (some (s k)))) := by
  unfold row11
  rw [World.cell?_alloc_new]
  match k, hk with
  | 0, _ => rfl
  | 1, _ => rfl
  | 2, _ => rfl
  | 3, _ => rfl
  | 4, _ => rfl
  | 5, _ => rfl
  | 6, _ => rfl
  | 7, _ => rfl
  | 8, _ => rfl
  | 9, _ => rfl
  | 10, _ => rfl

theorem code_nil (w : World) : Calls Tryz.prog 23 #[.nilIface] w fun e w' => e = .returned (.tuple #[.int .i64 0, .int .i64 (-1)]) ∧ w' = w := by
  go_enter Tryz.func23, Tryz.ntmps23
  go_wp2
  go_ret2
  exact ⟨rfl, rfl⟩

theorem ret_two {k : IntKind} {a b : Int} {v : Value} (h : a = b) : Ending.returned (.tuple #[.int k a, v]) = .returned (.tuple #[.int k b, v]) := by rw [h]
/-- the number of the j-th error; beyond them: another one -/
def cnum (j : Nat) : Int := if j < 11 then (j : Int) + 1 else -1
theorem cnum_lt {j : Nat} (h : j < 11) : cnum j = (j : Int) + 1 := by unfold cnum; rw [if_pos h]
theorem cnum_ge {j : Nat} (h : ¬ j < 11) : cnum j = -1 := by unfold cnum; rw [if_neg h]

set_option maxHeartbeats 1000000 in
theorem code_gen (s : Nat → Addr) (j : Nat) (a : Addr) (w : World) (g : Sents s w) (hj : j ≤ 11) (hno : ∀ k, k < j → a ≠ s k) (hyes : j < 11 → a = s j) (hblk : ∃ c t, w.heap[a.block]? = some (.cells c t (0, 0))) :
    Calls Tryz.prog 23 #[.iface 221 (.pointer (some a))] w fun e w' => e = .returned (.tuple #[.int .i64 (cnum j), .int .i64 (-1)]) ∧ Below w.heap.size w w' := by
  have HN : Hid (∀ k, k < j → a ≠ s k) := hno
  have HY : Hid (j < 11 → a = s j) := hyes
  clear hno hyes
  obtain ⟨ca, ta, hba⟩ := hblk
  have HB : Hid (w.heap[a.block]? = some (.cells ca ta (0, 0))) := hba
  clear hba
  have g1 := g.alloc (.cells #[.pointer none] 78)
  go_enter Tryz.func23, Tryz.ntmps23
  go_wp2_with fail
  go_at_call 40
  refine (as_miss a _ _ g1.et).mono ?_
  rintro e w2 ⟨rfl, k2⟩
  have g2 := g1.step k2
  have c0 := g2.c0
  have c1 := g2.c1
  have c2 := g2.c2
  have c3 := g2.c3
  have c4 := g2.c4
  have c5 := g2.c5
  have c6 := g2.c6
  have c7 := g2.c7
  have c8 := g2.c8
  have c9 := g2.c9
  have c10 := g2.c10
  go_wp2_with fail
  have gW := g2.alloc (row11 s)
  have hcell := row11_cell s w2
  have kW : Below w.heap.size w (w2.alloc (row11 s)) :=
    ((Below.refl _ _).alloc (Nat.le_refl _) _).trans ((k2.mono (by simp)).trans ((Below.refl _ _).alloc (by have := k2.size; simp at this; omega) _))
  have hcW : ∀ b, b < w2.heap.size → True := fun _ _ => trivial
  change Code.wp _ _ _ _ (w2.alloc (row11 s))
  generalize w2.alloc (row11 s) = W at gW hcell kW ⊢
  generalize w2.heap.size = N at hcell ⊢
  clear c0 c1 c2 c3 c4 c5 c6 c7 c8 c9 c10 g2 g1 hcW k2
  go_loop [3, 29] (fun p i => p = .int .i64 (-1) ∧ ∃ k : Nat, k ≤ j ∧ i = .int .i64 k) (fun _ i => j - (intOf i).toNat)
  case atStart => exact ⟨rfl, 0, Nat.zero_le _, rfl⟩
  case round =>
    obtain ⟨rfl, k, hk, rfl⟩ := hrel
    have HC : Hid (∀ k, k < 11 → W.cell? ⟨N, k, none⟩ = some (.iface 221 (.pointer (some (s k))))) := hcell
    clear hcell
    by_cases hlt : k < j
    · have hc := HC.out k (by omega)
      obtain ⟨cb, tb, hbb⟩ := gW.blk k (by omega)
      have hne := HN.out k hlt
      have hbW : W.heap[a.block]? = some (.cells ca ta (0, 0)) := by rw [kW.block _ (blk_lt HB.out)]; exact HB.out
      have Q : Hid (_) := is_other a (s k) ca cb ta tb W hne hbW hbb
      clear hbb hne hbW
      go_wp2_with (go_at_call 41; refine (Calls.mono Q.out ?_); rintro e w' ⟨rfl, rfl⟩)
      go_round
      case rel => exact ⟨rfl, k + 1, by omega, by go_num⟩
      case measure => simp [intOf]; omega
    · obtain rfl : k = j := by omega
      by_cases h11 : k < 11
      · have ha := HY.out h11
        have Q : Hid (_) := is_same (s k) W
        have hc := HC.out k h11
        subst ha
        go_wp2_with (go_at_call 41; refine (Calls.mono Q.out ?_); rintro e w' ⟨rfl, rfl⟩)
        go_ret2
        exact ⟨ret_two (cnum_lt h11).symm, kW⟩
      · go_wp2
        go_ret2
        exact ⟨ret_two (cnum_ge h11).symm, kW⟩

end Go.Proofs.YtkjfbeempmfipaaGreatDoor
