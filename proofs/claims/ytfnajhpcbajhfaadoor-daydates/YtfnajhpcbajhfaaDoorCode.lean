/- errors.Is, errors.As over package api's errors; plain.Code and the law's own coded -/
import Derived.Test.YtfnajhpcbajhfaaDoorProg
import Derived.WalkKit
import Derived.WalkSpells
import Derived.WalkLawsBesides
import Derived.LaidEql
import Derived.Stop.Asserts
import Derived.RowKitTokens
namespace Go.Proofs.YtfnajhpcbajhfaaDoor
open Go.RowKit Go.Extern.Stop Go.Stop Go.Extern

/-- what the model does at a function without a body -/
def ext (fn : Func) : Array Value → Sem Value := (Extern.find fn).getD (fun _ => pure (.bool false))
theorem isTypeOf (v : Value) (w : World) : (ext Tryd.f43 #[.iface 56 v]).run Tryd.prog w = .ok (.iface 77 (.agg #[.pointer (some ⟨15, 56, none⟩)])) w := by kernel_rfl
theorem isComparable (w : World) : (ext Tryd.f87 #[.agg #[.pointer (some ⟨15, 56, none⟩)]]).run Tryd.prog w = .ok (.bool true) w := by kernel_rfl
theorem isMethodComparable (v : Value) (w : World) : (Go.method 237 77 v "Comparable").run Tryd.prog w = .ok (87, v) w := by kernel_rfl
theorem isComp : (Tryd.prog.info? 56).map (·.comparable) = some true := by kernel_rfl
theorem isSize : (Tryd.prog.info? 58).map (·.size) = some 1 := by kernel_rfl
theorem noIsE (v : Value) (xT : TypeId) (w : World) : (Instr.typeAssert (.iface 56 v) xT 88 true).run Tryd.prog w = .ok (.tuple #[.nilIface, .bool false]) w := run_typeAssert_lacksB Tryd.underlying88 (by kernel_rfl) (by kernel_rfl) v xT w
theorem noUnwrapE (v : Value) (xT : TypeId) (w : World) : (Instr.typeAssert (.iface 56 v) xT 84 true).run Tryd.prog w = .ok (.tuple #[.nilIface, .bool false]) w := run_typeAssert_lacksB Tryd.underlying84 (by kernel_rfl) (by kernel_rfl) v xT w
theorem noUnwrapsE (v : Value) (xT : TypeId) (w : World) : (Instr.typeAssert (.iface 56 v) xT 86 true).run Tryd.prog w = .ok (.tuple #[.nilIface, .bool false]) w := run_typeAssert_lacksB Tryd.underlying86 (by kernel_rfl) (by kernel_rfl) v xT w
theorem noIsW (v : Value) (xT : TypeId) (w : World) : (Instr.typeAssert (.iface 29 v) xT 88 true).run Tryd.prog w = .ok (.tuple #[.nilIface, .bool false]) w := run_typeAssert_lacksB Tryd.underlying88 (by kernel_rfl) (by kernel_rfl) v xT w
theorem hasUnwrapW (v : Value) (xT : TypeId) (w : World) : (Instr.typeAssert (.iface 29 v) xT 84 true).run Tryd.prog w = .ok (.tuple #[.iface 29 v, .bool true]) w := run_typeAssert_hasB Tryd.underlying84 (by kernel_rfl) v xT w
theorem methodUnwrap (v : Value) (w : World) : (Go.method 237 29 v "Unwrap").run Tryd.prog w = .ok (80, v) w := by kernel_rfl

/-- errors.Is at the error itself. -/
theorem is_same (a : Addr) (w : World) :
    Calls Tryd.prog 28 #[.iface 56 (.pointer (some a)), .iface 56 (.pointer (some a))] w fun e w' => e = .returned (.bool true) ∧ w' = w := by
  obtain ⟨i, hi, hcmp⟩ := Option.map_eq_some_iff.1 isComp
  obtain ⟨j, hj, hjs⟩ := Option.map_eq_some_iff.1 isSize
  have h8 := @run_callFunc_extern Tryd.prog 43 _ (ext Tryd.f43) Tryd.func43 (by kernel_rfl) (by kernel_rfl) (by kernel_rfl) (by kernel_rfl)
  have h32 := @run_callFunc_extern Tryd.prog 87 _ (ext Tryd.f87) Tryd.func87 (by kernel_rfl) (by kernel_rfl) (by kernel_rfl) (by kernel_rfl)
  have tT := isTypeOf
  have cT := isComparable
  have mR := isMethodComparable
  have heq := run_eql_iface_ptr_same (P := Tryd.prog) w a Tryd.underlying25 Tryd.underlying56 hi hcmp hj
  go_enter Tryd.func28, Tryd.ntmps28
  go_wp2
  refine wp_loop_rounds 1 ?_
  rw [rounds_succ]
  go_wp2
  go_ret
  exact ⟨rfl, rfl⟩

/-- errors.Is at another error of errors.New's make. -/
theorem is_other (a b : Addr) (ca cb : Array Value) (ta tb : TypeId) (w : World) (hne : a ≠ b) (ha : w.heap[a.block]? = some (.cells ca ta (0, 0))) (hb : w.heap[b.block]? = some (.cells cb tb (0, 0))) :
    Calls Tryd.prog 28 #[.iface 56 (.pointer (some a)), .iface 56 (.pointer (some b))] w fun e w' => e = .returned (.bool false) ∧ w' = w := by
  obtain ⟨i, hi, hcmp⟩ := Option.map_eq_some_iff.1 isComp
  obtain ⟨j, hj, hjs⟩ := Option.map_eq_some_iff.1 isSize
  have h8 := @run_callFunc_extern Tryd.prog 43 _ (ext Tryd.f43) Tryd.func43 (by kernel_rfl) (by kernel_rfl) (by kernel_rfl) (by kernel_rfl)
  have h32 := @run_callFunc_extern Tryd.prog 87 _ (ext Tryd.f87) Tryd.func87 (by kernel_rfl) (by kernel_rfl) (by kernel_rfl) (by kernel_rfl)
  have tT := isTypeOf
  have cT := isComparable
  have mR := isMethodComparable
  have nE := noIsE
  have uE := noUnwrapE
  have vE := noUnwrapsE
  have heq := run_eql_iface_ptr_other (P := Tryd.prog) w Tryd.underlying25 Tryd.underlying56 hi hcmp hj (by rw [hjs]; decide) hne ha hb
  go_enter Tryd.func28, Tryd.ntmps28
  go_wp2
  refine wp_loop_rounds 1 ?_
  rw [rounds_succ]
  go_wp2
  go_ret
  exact ⟨rfl, rfl⟩

/-- errors.Is at a Fault that wraps the error. -/
theorem is_wrap_same (pb po : Nat) (b : Addr) (w : World) (h1 : w.cell? ⟨pb, po + 1, none⟩ = some (.iface 56 (.pointer (some b)))) :
    Calls Tryd.prog 28 #[.iface 29 (.pointer (some ⟨pb, po, none⟩)), .iface 56 (.pointer (some b))] w fun e w' => e = .returned (.bool true) ∧ w' = w := by
  obtain ⟨i, hi, hcmp⟩ := Option.map_eq_some_iff.1 isComp
  obtain ⟨j, hj, hjs⟩ := Option.map_eq_some_iff.1 isSize
  have h8 := @run_callFunc_extern Tryd.prog 43 _ (ext Tryd.f43) Tryd.func43 (by kernel_rfl) (by kernel_rfl) (by kernel_rfl) (by kernel_rfl)
  have h32 := @run_callFunc_extern Tryd.prog 87 _ (ext Tryd.f87) Tryd.func87 (by kernel_rfl) (by kernel_rfl) (by kernel_rfl) (by kernel_rfl)
  have tT := isTypeOf
  have cT := isComparable
  have mR := isMethodComparable
  have nW := noIsW
  have uW := hasUnwrapW
  have mU := methodUnwrap
  have heq := run_eql_iface_ptr_same (P := Tryd.prog) w b Tryd.underlying25 Tryd.underlying56 hi hcmp hj
  have hty := run_eql_iface_types (P := Tryd.prog) 29 56 (.pointer (some ⟨pb, po, none⟩)) (.pointer (some b)) Tryd.underlying25 (by decide) w
  go_enter Tryd.func28, Tryd.ntmps28
  go_wp2
  refine wp_loop_rounds 2 ?_
  rw [rounds_succ]
  go_wp2
  rw [rounds_succ]
  go_wp2
  go_ret
  exact ⟨rfl, rfl⟩

/-- errors.Is at a Fault that wraps another error. -/
theorem is_wrap_other (pb po : Nat) (b a : Addr) (ca cb : Array Value) (ta tb : TypeId) (w : World) (h1 : w.cell? ⟨pb, po + 1, none⟩ = some (.iface 56 (.pointer (some a)))) (hne : a ≠ b) (ha : w.heap[a.block]? = some (.cells ca ta (0, 0))) (hb : w.heap[b.block]? = some (.cells cb tb (0, 0))) :
    Calls Tryd.prog 28 #[.iface 29 (.pointer (some ⟨pb, po, none⟩)), .iface 56 (.pointer (some b))] w fun e w' => e = .returned (.bool false) ∧ w' = w := by
  obtain ⟨i, hi, hcmp⟩ := Option.map_eq_some_iff.1 isComp
  obtain ⟨j, hj, hjs⟩ := Option.map_eq_some_iff.1 isSize
  have h8 := @run_callFunc_extern Tryd.prog 43 _ (ext Tryd.f43) Tryd.func43 (by kernel_rfl) (by kernel_rfl) (by kernel_rfl) (by kernel_rfl)
  have h32 := @run_callFunc_extern Tryd.prog 87 _ (ext Tryd.f87) Tryd.func87 (by kernel_rfl) (by kernel_rfl) (by kernel_rfl) (by kernel_rfl)
  have tT := isTypeOf
  have cT := isComparable
  have mR := isMethodComparable
  have nE := noIsE
  have uE := noUnwrapE
  have vE := noUnwrapsE
  have nW := noIsW
  have uW := hasUnwrapW
  have mU := methodUnwrap
  have heq := run_eql_iface_ptr_other (P := Tryd.prog) w Tryd.underlying25 Tryd.underlying56 hi hcmp hj (by rw [hjs]; decide) hne ha hb
  have hty := run_eql_iface_types (P := Tryd.prog) 29 56 (.pointer (some ⟨pb, po, none⟩)) (.pointer (some b)) Tryd.underlying25 (by decide) w
  go_enter Tryd.func28, Tryd.ntmps28
  go_wp2
  refine wp_loop_rounds 2 ?_
  rw [rounds_succ]
  go_wp2
  rw [rounds_succ]
  go_wp2
  go_ret
  exact ⟨rfl, rfl⟩
end Go.Proofs.YtfnajhpcbajhfaaDoor
namespace Go.Proofs.YtfnajhpcbajhfaaDoor
open Go.RowKit Go.Extern.Stop Go.Stop Go.Extern

theorem asValueOf (t : Addr) (w : World) : (ext Tryd.f39 #[.iface 54 (.pointer (some t))]).run Tryd.prog w
    = .ok (.agg #[.pointer (some ⟨15, 54, none⟩), .pointer (some ⟨w.heap.size, 0, none⟩), .int .u64 150]) (w.alloc (.cells #[.pointer (some t)] 54)) := by kernel_rfl
theorem asValueOfE (e : Addr) (w : World) : (ext Tryd.f39 #[.iface 29 (.pointer (some e))]).run Tryd.prog w
    = .ok (.agg #[.pointer (some ⟨15, 29, none⟩), .pointer (some ⟨w.heap.size, 0, none⟩), .int .u64 150]) (w.alloc (.cells #[.pointer (some e)] 29)) := by kernel_rfl
theorem asType (a : Addr) (w : World) : (ext Tryd.f40 #[.agg #[.pointer (some ⟨15, 54, none⟩), .pointer (some a), .int .u64 150]]).run Tryd.prog w
    = .ok (.iface 77 (.agg #[.pointer (some ⟨15, 54, none⟩)])) w := by kernel_rfl
theorem asMethodKind (h : Value) (w : World) : (Go.method 237 77 (.agg #[h]) "Kind").run Tryd.prog w = .ok (76, h) w := by kernel_rfl
theorem asMethodElem (h : Value) (w : World) : (Go.method 237 77 (.agg #[h]) "Elem").run Tryd.prog w = .ok (88, .agg #[h]) w := by kernel_rfl
theorem asMethodImplements (h : Value) (w : World) : (Go.method 237 77 (.agg #[h]) "Implements").run Tryd.prog w = .ok (89, .agg #[h]) w := by kernel_rfl
theorem asMethodAssignableTo (h : Value) (w : World) : (Go.method 237 77 (.agg #[h]) "AssignableTo").run Tryd.prog w = .ok (86, .agg #[h]) w := by kernel_rfl
theorem asKindPP (w : World) : (ext Tryd.f76 #[.pointer (some ⟨15, 54, none⟩)]).run Tryd.prog w = .ok (.int .u8 22) w := by kernel_rfl
theorem asKindP (w : World) : (ext Tryd.f76 #[.pointer (some ⟨15, 29, none⟩)]).run Tryd.prog w = .ok (.int .u8 22) w := by kernel_rfl
theorem asElem (w : World) : (ext Tryd.f88 #[.agg #[.pointer (some ⟨15, 54, none⟩)]]).run Tryd.prog w = .ok (.iface 77 (.agg #[.pointer (some ⟨15, 29, none⟩)])) w := by kernel_rfl
theorem asImplements (w : World) : (ext Tryd.f89 #[.agg #[.pointer (some ⟨15, 29, none⟩)], .iface 77 (.agg #[.pointer (some ⟨15, 25, none⟩)])]).run Tryd.prog w = .ok (.bool true) w := by kernel_rfl
theorem asTypeOfF (v : Value) (w : World) : (ext Tryd.f43 #[.iface 29 v]).run Tryd.prog w = .ok (.iface 77 (.agg #[.pointer (some ⟨15, 29, none⟩)])) w := by kernel_rfl
theorem asAssignF (w : World) : (ext Tryd.f86 #[.agg #[.pointer (some ⟨15, 29, none⟩)], .iface 77 (.agg #[.pointer (some ⟨15, 29, none⟩)])]).run Tryd.prog w = .ok (.bool true) w := by kernel_rfl
theorem asAssignE (w : World) : (ext Tryd.f86 #[.agg #[.pointer (some ⟨15, 56, none⟩)], .iface 77 (.agg #[.pointer (some ⟨15, 29, none⟩)])]).run Tryd.prog w = .ok (.bool false) w := by kernel_rfl
theorem noAsE (v : Value) (xT : TypeId) (w : World) : (Instr.typeAssert (.iface 56 v) xT 81 true).run Tryd.prog w = .ok (.tuple #[.nilIface, .bool false]) w := run_typeAssert_lacksB Tryd.underlying81 (by kernel_rfl) (by kernel_rfl) v xT w

theorem rlm (z : Sem Value) (f : TypeId → Addr → Nat → Nat → Sem Value) (v : Value) :
    ReflectliteValue.method z f #[v] = (do match ← ReflectliteValue.parts v with | none => z | some (t, a, fl) => f t a fl (fl % 32)) := rfl
theorem asParts (a : Addr) (w : World) : (ReflectliteValue.parts (.agg #[.pointer (some ⟨15, 54, none⟩), .pointer (some a), .int .u64 150])).run Tryd.prog w = .ok (some (54, a, 150)) w := by kernel_rfl
theorem extIsNil : ext Tryd.f41 = ReflectliteValue.method (ReflectliteValue.valueError "reflectlite.Value.IsNil" 0) ReflectliteValue.isNil := by kernel_rfl
theorem extElem : ext Tryd.f47 = ReflectliteValue.method (ReflectliteValue.valueError "reflectlite.Value.Elem" 0) ReflectliteValue.elem := by kernel_rfl
theorem extSet : ext Tryd.f48 = ReflectliteValue.set := by kernel_rfl
theorem asIsNil (a p : Addr) (W : World) (ha : W.cell? a = some (.pointer (some p))) :
    (ext Tryd.f41 #[.agg #[.pointer (some ⟨15, 54, none⟩), .pointer (some a), .int .u64 150]]).run Tryd.prog W = .ok (.bool false) W := by
  rw [extIsNil, rlm]
  simp only [Sem.run_bind, asParts, Result.andThen]
  simp [ReflectliteValue.isNil, loadVar, isAgg, underlying, Tryd.underlying54, ha, Result.andThen]
theorem asElemOf (w : World) : (Rtype.elem? 54).run Tryd.prog w = .ok (some 29) w := by kernel_rfl
theorem asMk (p : Addr) (w : World) : (ReflectliteValue.mk 29 p ReflectliteValue.flagAddr).run Tryd.prog w = .ok (.agg #[.pointer (some ⟨15, 29, none⟩), .pointer (some p), .int .u64 406]) w := by kernel_rfl
theorem asElemV (a p : Addr) (W : World) (ha : W.cell? a = some (.pointer (some p))) :
    (ext Tryd.f47 #[.agg #[.pointer (some ⟨15, 54, none⟩), .pointer (some a), .int .u64 150]]).run Tryd.prog W
      = .ok (.agg #[.pointer (some ⟨15, 29, none⟩), .pointer (some p), .int .u64 406]) W := by
  rw [extElem, rlm]
  simp only [Sem.run_bind, asParts, Result.andThen]
  simp [ReflectliteValue.elem, loadVar, isAgg, underlying, Tryd.underlying54, ha, Result.andThen, asElemOf, asMk]
theorem asPartsA (a : Addr) (w : World) : (ReflectliteValue.parts (.agg #[.pointer (some ⟨15, 29, none⟩), .pointer (some a), .int .u64 406])).run Tryd.prog w = .ok (some (29, a, 406)) w := by kernel_rfl
theorem asPartsB (a : Addr) (w : World) : (ReflectliteValue.parts (.agg #[.pointer (some ⟨15, 29, none⟩), .pointer (some a), .int .u64 150])).run Tryd.prog w = .ok (some (29, a, 150)) w := by kernel_rfl
theorem asDirect (w : World) : (Rtype.directlyAssignable 29 29).run Tryd.prog w = .ok true w := by kernel_rfl
theorem setMatch (v x : Value) (f : Value → Value → Sem Value) (g : Array Value → Sem Value) : ReflectliteValue.set.match_3 (fun _ => Sem Value) #[v, x] f g = f v x := rfl
theorem asSet (ta b e : Addr) (old : Value) (W : World) (hb : W.cell? b = some (.pointer (some e))) (ht : W.cell? ta = some old) (hf : W.frozen? ta = false) :
    (ext Tryd.f48 #[.agg #[.pointer (some ⟨15, 29, none⟩), .pointer (some ta), .int .u64 406], .agg #[.pointer (some ⟨15, 29, none⟩), .pointer (some b), .int .u64 150]]).run Tryd.prog W
      = .ok (.tuple #[]) (W.setCell ta (.pointer (some e))) := by
  rw [extSet]
  unfold ReflectliteValue.set
  rw [setMatch]
  simp only [Sem.run_bind, asPartsA, asPartsB, Result.andThen]
  simp [ReflectliteValue.flagAddr, loadVar, isAgg, underlying, Tryd.underlying29, hb, Result.andThen, asDirect, storeVar, Value.cells, storeCells, Addr.add]
  rw [run_store Tryd.prog W ta _ _ (by rfl)]
  simp [ht, hf]
end Go.Proofs.YtfnajhpcbajhfaaDoor
namespace Go.Proofs.YtfnajhpcbajhfaaDoor
open Go.RowKit Go.Extern.Stop Go.Stop Go.Extern

theorem as_miss (a t : Addr) (w : World) (hg : w.cell? ⟨11, 0, none⟩ = some (.iface 77 (.agg #[.pointer (some ⟨15, 25, none⟩)]))) :
    Calls Tryd.prog 27 #[.iface 56 (.pointer (some a)), .iface 54 (.pointer (some t))] w fun ev w' => ev = .returned (.bool false) ∧ Below w.heap.size w w' := by
  have h6 := @run_callFunc_extern Tryd.prog 39 _ (ext Tryd.f39) Tryd.func39 (by kernel_rfl) (by kernel_rfl) (by kernel_rfl) (by kernel_rfl)
  have h7 := @run_callFunc_extern Tryd.prog 40 _ (ext Tryd.f40) Tryd.func40 (by kernel_rfl) (by kernel_rfl) (by kernel_rfl) (by kernel_rfl)
  have h8 := @run_callFunc_extern Tryd.prog 41 _ (ext Tryd.f41) Tryd.func41 (by kernel_rfl) (by kernel_rfl) (by kernel_rfl) (by kernel_rfl)
  have h27 := @run_callFunc_extern Tryd.prog 76 _ (ext Tryd.f76) Tryd.func76 (by kernel_rfl) (by kernel_rfl) (by kernel_rfl) (by kernel_rfl)
  have h37 := @run_callFunc_extern Tryd.prog 88 _ (ext Tryd.f88) Tryd.func88 (by kernel_rfl) (by kernel_rfl) (by kernel_rfl) (by kernel_rfl)
  have h38 := @run_callFunc_extern Tryd.prog 89 _ (ext Tryd.f89) Tryd.func89 (by kernel_rfl) (by kernel_rfl) (by kernel_rfl) (by kernel_rfl)
  have h10 := @run_callFunc_extern Tryd.prog 43 _ (ext Tryd.f43) Tryd.func43 (by kernel_rfl) (by kernel_rfl) (by kernel_rfl) (by kernel_rfl)
  have h35 := @run_callFunc_extern Tryd.prog 86 _ (ext Tryd.f86) Tryd.func86 (by kernel_rfl) (by kernel_rfl) (by kernel_rfl) (by kernel_rfl)
  have tO := isTypeOf
  have mA := asMethodAssignableTo
  have aE := asAssignE
  have f6 := asValueOf
  have f7 := asType
  have mK := asMethodKind
  have mE := asMethodElem
  have mI := asMethodImplements
  have k27 := asKindPP
  have k25 := asKindP
  have e27 := asElem
  have i25 := asImplements
  have nA := noAsE
  have uE := noUnwrapE
  have vE := noUnwrapsE
  have n8 := asIsNil ⟨w.heap.size, 0, none⟩ t ((w.alloc (.cells #[.pointer (some t)] 54)).alloc (.cells #[.pointer (some ⟨15, 54, none⟩), .pointer (some ⟨w.heap.size, 0, none⟩), .int .u64 150] 65)) (by simp)
  have hlt : 11 < w.heap.size := by
    rcases Nat.lt_or_ge 11 w.heap.size with h | h
    · exact h
    · simp [World.cell?, Array.getElem?_eq_none h] at hg
  have hg2 : ((w.alloc (.cells #[.pointer (some t)] 54)).alloc (.cells #[.pointer (some ⟨15, 54, none⟩), .pointer (some ⟨w.heap.size, 0, none⟩), .int .u64 150] 65)).cell? ⟨11, 0, none⟩ = some (.iface 77 (.agg #[.pointer (some ⟨15, 25, none⟩)])) := by
    rw [World.cell?_alloc_lt _ _ ⟨11, 0, none⟩ (by simp; omega), World.cell?_alloc_lt _ _ ⟨11, 0, none⟩ hlt]; exact hg
  go_enter Tryd.func27, Tryd.ntmps27
  go_wp2
  refine wp_loop_rounds 1 ?_
  rw [rounds_succ]
  go_wp2
  go_ret
  exact ⟨rfl, (((Below.refl _ _).alloc (Nat.le_refl _) _).alloc (by simp) _).alloc (by simp; omega) _⟩
end Go.Proofs.YtfnajhpcbajhfaaDoor
namespace Go.Proofs.YtfnajhpcbajhfaaDoor
open Go.RowKit Go.Extern.Stop Go.Stop Go.Extern

set_option maxHeartbeats 4000000 in
theorem as_hit (e t : Addr) (old : Value) (w : World) (hg : w.cell? ⟨11, 0, none⟩ = some (.iface 77 (.agg #[.pointer (some ⟨15, 25, none⟩)]))) (ht0 : w.cell? t = some old) (hf0 : w.frozen? t = false) :
    Calls Tryd.prog 27 #[.iface 29 (.pointer (some e)), .iface 54 (.pointer (some t))] w fun ev w' => ev = .returned (.bool true) ∧ w' = ((((w.alloc (.cells #[.pointer (some t)] 54)).alloc (.cells #[.pointer (some ⟨15, 54, none⟩), .pointer (some ⟨w.heap.size, 0, none⟩), .int .u64 150] 65)).alloc (.cells #[.pointer (some ⟨15, 54, none⟩), .pointer (some ⟨w.heap.size, 0, none⟩), .int .u64 150] 65)).alloc (.cells #[.pointer (some e)] 29)).setCell t (.pointer (some e)) := by
  have h6 := @run_callFunc_extern Tryd.prog 39 _ (ext Tryd.f39) Tryd.func39 (by kernel_rfl) (by kernel_rfl) (by kernel_rfl) (by kernel_rfl)
  have h7 := @run_callFunc_extern Tryd.prog 40 _ (ext Tryd.f40) Tryd.func40 (by kernel_rfl) (by kernel_rfl) (by kernel_rfl) (by kernel_rfl)
  have h8 := @run_callFunc_extern Tryd.prog 41 _ (ext Tryd.f41) Tryd.func41 (by kernel_rfl) (by kernel_rfl) (by kernel_rfl) (by kernel_rfl)
  have h27 := @run_callFunc_extern Tryd.prog 76 _ (ext Tryd.f76) Tryd.func76 (by kernel_rfl) (by kernel_rfl) (by kernel_rfl) (by kernel_rfl)
  have h37 := @run_callFunc_extern Tryd.prog 88 _ (ext Tryd.f88) Tryd.func88 (by kernel_rfl) (by kernel_rfl) (by kernel_rfl) (by kernel_rfl)
  have h38 := @run_callFunc_extern Tryd.prog 89 _ (ext Tryd.f89) Tryd.func89 (by kernel_rfl) (by kernel_rfl) (by kernel_rfl) (by kernel_rfl)
  have h10 := @run_callFunc_extern Tryd.prog 43 _ (ext Tryd.f43) Tryd.func43 (by kernel_rfl) (by kernel_rfl) (by kernel_rfl) (by kernel_rfl)
  have h35 := @run_callFunc_extern Tryd.prog 86 _ (ext Tryd.f86) Tryd.func86 (by kernel_rfl) (by kernel_rfl) (by kernel_rfl) (by kernel_rfl)
  have h11 := @run_callFunc_extern Tryd.prog 47 _ (ext Tryd.f47) Tryd.func47 (by kernel_rfl) (by kernel_rfl) (by kernel_rfl) (by kernel_rfl)
  have h12 := @run_callFunc_extern Tryd.prog 48 _ (ext Tryd.f48) Tryd.func48 (by kernel_rfl) (by kernel_rfl) (by kernel_rfl) (by kernel_rfl)
  have tO := asTypeOfF
  have mA := asMethodAssignableTo
  have a25 := asAssignF
  have v25 := asValueOfE
  have f6 := asValueOf
  have f7 := asType
  have mK := asMethodKind
  have mE := asMethodElem
  have mI := asMethodImplements
  have k27 := asKindPP
  have k25 := asKindP
  have e27 := asElem
  have i25 := asImplements
  have n8 := asIsNil ⟨w.heap.size, 0, none⟩ t ((w.alloc (.cells #[.pointer (some t)] 54)).alloc (.cells #[.pointer (some ⟨15, 54, none⟩), .pointer (some ⟨w.heap.size, 0, none⟩), .int .u64 150] 65)) (by simp)
  have hlt : 11 < w.heap.size := by
    rcases Nat.lt_or_ge 11 w.heap.size with h | h
    · exact h
    · simp [World.cell?, Array.getElem?_eq_none h] at hg
  have hg2 : ((w.alloc (.cells #[.pointer (some t)] 54)).alloc (.cells #[.pointer (some ⟨15, 54, none⟩), .pointer (some ⟨w.heap.size, 0, none⟩), .int .u64 150] 65)).cell? ⟨11, 0, none⟩ = some (.iface 77 (.agg #[.pointer (some ⟨15, 25, none⟩)])) := by
    rw [World.cell?_alloc_lt _ _ ⟨11, 0, none⟩ (by simp; omega), World.cell?_alloc_lt _ _ ⟨11, 0, none⟩ hlt]; exact hg
  have htl : t.block < w.heap.size := by
    rcases Nat.lt_or_ge t.block w.heap.size with h | h
    · exact h
    · simp [World.cell?, Array.getElem?_eq_none h] at ht0
  have el := asElemV ⟨w.heap.size, 0, none⟩ t (((w.alloc (.cells #[.pointer (some t)] 54)).alloc (.cells #[.pointer (some ⟨15, 54, none⟩), .pointer (some ⟨w.heap.size, 0, none⟩), .int .u64 150] 65)).alloc (.cells #[.pointer (some ⟨15, 54, none⟩), .pointer (some ⟨w.heap.size, 0, none⟩), .int .u64 150] 65)) (by rw [World.cell?_alloc_lt _ _ ⟨w.heap.size, 0, none⟩ (by simp; omega)]; simp)
  have st := asSet t ⟨w.heap.size + 1 + 1 + 1, 0, none⟩ e old ((((w.alloc (.cells #[.pointer (some t)] 54)).alloc (.cells #[.pointer (some ⟨15, 54, none⟩), .pointer (some ⟨w.heap.size, 0, none⟩), .int .u64 150] 65)).alloc (.cells #[.pointer (some ⟨15, 54, none⟩), .pointer (some ⟨w.heap.size, 0, none⟩), .int .u64 150] 65)).alloc (.cells #[.pointer (some e)] 29))
    (by rw [World.cell?_alloc_at _ _ _ _ (by simp)]; rfl)
    (by rw [World.cell?_alloc_lt _ _ t (by simp; omega), World.cell?_alloc_lt _ _ t (by simp; omega), World.cell?_alloc_lt _ _ t (by simp; omega), World.cell?_alloc_lt _ _ t htl]; exact ht0)
    (by rw [World.frozen?_alloc_old _ _ t (by simp; omega), World.frozen?_alloc_old _ _ t (by simp; omega), World.frozen?_alloc_old _ _ t (by simp; omega), World.frozen?_alloc_old _ _ t (Nat.ne_of_lt htl)]; exact hf0)
  go_enter Tryd.func27, Tryd.ntmps27
  go_wp2
  refine wp_loop_rounds 1 ?_
  rw [rounds_succ]
  go_wp2
  go_ret
  exact ⟨rfl, rfl⟩
end Go.Proofs.YtfnajhpcbajhfaaDoor
namespace Go.Proofs.YtfnajhpcbajhfaaDoor
open Go.RowKit

/-- where the eleven errors of package api lie -/
structure Sents (s : Nat → Addr) (w : World) : Prop where
  c0 : w.cell? ⟨0, 0, none⟩ = some (.iface 56 (.pointer (some (s 0))))
  c1 : w.cell? ⟨1, 0, none⟩ = some (.iface 56 (.pointer (some (s 1))))
  c2 : w.cell? ⟨2, 0, none⟩ = some (.iface 56 (.pointer (some (s 2))))
  c3 : w.cell? ⟨3, 0, none⟩ = some (.iface 56 (.pointer (some (s 3))))
  c4 : w.cell? ⟨4, 0, none⟩ = some (.iface 56 (.pointer (some (s 4))))
  c5 : w.cell? ⟨5, 0, none⟩ = some (.iface 56 (.pointer (some (s 5))))
  c6 : w.cell? ⟨6, 0, none⟩ = some (.iface 56 (.pointer (some (s 6))))
  c7 : w.cell? ⟨7, 0, none⟩ = some (.iface 56 (.pointer (some (s 7))))
  c8 : w.cell? ⟨8, 0, none⟩ = some (.iface 56 (.pointer (some (s 8))))
  c9 : w.cell? ⟨9, 0, none⟩ = some (.iface 56 (.pointer (some (s 9))))
  c10 : w.cell? ⟨10, 0, none⟩ = some (.iface 56 (.pointer (some (s 10))))
  blk : ∀ k, k < 11 → ∃ c t, w.heap[(s k).block]? = some (.cells c t (0, 0))
  ne : ∀ j k, j < 11 → k < 11 → j ≠ k → s j ≠ s k
  et : w.cell? ⟨11, 0, none⟩ = some (.iface 77 (.agg #[.pointer (some ⟨15, 25, none⟩)]))

theorem cell_lt {w : World} {p : Addr} {v : Value} (h : w.cell? p = some v) : p.block < w.heap.size := by
  rcases Nat.lt_or_ge p.block w.heap.size with hl | hl
  · exact hl
  · simp [World.cell?, Array.getElem?_eq_none hl] at h
theorem blk_lt {w : World} {b : Nat} {o : Obj} (h : w.heap[b]? = some o) : b < w.heap.size := by
  rcases Nat.lt_or_ge b w.heap.size with hl | hl
  · exact hl
  · rw [Array.getElem?_eq_none hl] at h; exact absurd h (by simp)
theorem cell_stepB {w w' : World} {p : Addr} {v : Value} {B : Nat} (h : w.cell? p = some v) (hb : Below B w w') (hB : w.heap.size ≤ B) : w'.cell? p = some v := by
  rw [hb.cell (p := p) (Nat.lt_of_lt_of_le (cell_lt h) hB)]; exact h
theorem Sents.step {s : Nat → Addr} {w w' : World} (g : Sents s w) (hb : Below w.heap.size w w') : Sents s w' where
  c0 := cell_stepB g.c0 hb (Nat.le_refl _)
  c1 := cell_stepB g.c1 hb (Nat.le_refl _)
  c2 := cell_stepB g.c2 hb (Nat.le_refl _)
  c3 := cell_stepB g.c3 hb (Nat.le_refl _)
  c4 := cell_stepB g.c4 hb (Nat.le_refl _)
  c5 := cell_stepB g.c5 hb (Nat.le_refl _)
  c6 := cell_stepB g.c6 hb (Nat.le_refl _)
  c7 := cell_stepB g.c7 hb (Nat.le_refl _)
  c8 := cell_stepB g.c8 hb (Nat.le_refl _)
  c9 := cell_stepB g.c9 hb (Nat.le_refl _)
  c10 := cell_stepB g.c10 hb (Nat.le_refl _)
  blk := fun k hk => by
    obtain ⟨c, t, h⟩ := g.blk k hk
    exact ⟨c, t, by rw [hb.block _ (blk_lt h)]; exact h⟩
  ne := g.ne
  et := cell_stepB g.et hb (Nat.le_refl _)
theorem Sents.alloc {s : Nat → Addr} {w : World} (g : Sents s w) (o : Obj) : Sents s (w.alloc o) :=
  g.step ((Below.refl _ _).alloc (Nat.le_refl _) _)

/-- the row of the eleven errors, as Code lays it -/
def row11 (s : Nat → Addr) : Obj := .cells #[.iface 56 (.pointer (some (s 0))), .iface 56 (.pointer (some (s 1))), .iface 56 (.pointer (some (s 2))), .iface 56 (.pointer (some (s 3))), .iface 56 (.pointer (some (s 4))), .iface 56 (.pointer (some (s 5))), .iface 56 (.pointer (some (s 6))), .iface 56 (.pointer (some (s 7))), .iface 56 (.pointer (some (s 8))), .iface 56 (.pointer (some (s 9))), .iface 56 (.pointer (some (s 10)))] 25
theorem row11_cell (s : Nat → Addr) (w : World) (k : Nat) (hk : k < 11) : (w.alloc (row11 s)).cell? ⟨w.heap.size, k, none⟩ = some (.iface 56 (.pointer (some (s k)))) := by
  unfold row11
  rw [World.cell?_alloc_new]
  match k, hk with
  | 0, _ => rfl
  | 1, _ => rfl
  | 2, _ => rfl
  | 3, _ => rfl
  | 4, _ => rfl
  | 5, _ => rfl
  | 6, _ => rfl
  | 7, _ => rfl
  | 8, _ => rfl
  | 9, _ => rfl
  | 10, _ => rfl

theorem code_nil (w : World) : Calls Tryd.prog 9 #[.nilIface] w fun e w' => e = .returned (.tuple #[.int .i64 0, .int .i64 (-1)]) ∧ w' = w := by
  go_enter Tryd.func9, Tryd.ntmps9
  go_wp2
  go_ret2
  exact ⟨rfl, rfl⟩

theorem ret_two {k : IntKind} {a b : Int} {v : Value} (h : a = b) : Ending.returned (.tuple #[.int k a, v]) = .returned (.tuple #[.int k b, v]) := by rw [h]
/-- the number of the j-th error; beyond them: another one -/
def cnum (j : Nat) : Int := if j < 11 then (j : Int) + 1 else -1
theorem cnum_lt {j : Nat} (h : j < 11) : cnum j = (j : Int) + 1 := by unfold cnum; rw [if_pos h]
theorem cnum_ge {j : Nat} (h : ¬ j < 11) : cnum j = -1 := by unfold cnum; rw [if_neg h]

set_option maxHeartbeats 1000000 in
theorem code_gen (s : Nat → Addr) (j : Nat) (a : Addr) (w : World) (g : Sents s w) (hj : j ≤ 11) (hno : ∀ k, k < j → a ≠ s k) (hyes : j < 11 → a = s j) (hblk : ∃ c t, w.heap[a.block]? = some (.cells c t (0, 0))) :
    Calls Tryd.prog 9 #[.iface 56 (.pointer (some a))] w fun e w' => e = .returned (.tuple #[.int .i64 (cnum j), .int .i64 (-1)]) ∧ Below w.heap.size w w' := by
  have HN : Hid (∀ k, k < j → a ≠ s k) := hno
  have HY : Hid (j < 11 → a = s j) := hyes
  clear hno hyes
  obtain ⟨ca, ta, hba⟩ := hblk
  have HB : Hid (w.heap[a.block]? = some (.cells ca ta (0, 0))) := hba
  clear hba
  have g1 := g.alloc (.cells #[.pointer none] 29)
  go_enter Tryd.func9, Tryd.ntmps9
  go_wp2_with fail
  go_at_call 27
  refine (as_miss a _ _ g1.et).mono ?_
  rintro e w2 ⟨rfl, k2⟩
  have g2 := g1.step k2
  have c0 := g2.c0
  have c1 := g2.c1
  have c2 := g2.c2
  have c3 := g2.c3
  have c4 := g2.c4
  have c5 := g2.c5
  have c6 := g2.c6
  have c7 := g2.c7
  have c8 := g2.c8
  have c9 := g2.c9
  have c10 := g2.c10
  go_wp2_with fail
  have gW := g2.alloc (row11 s)
  have hcell := row11_cell s w2
  have kW : Below w.heap.size w (w2.alloc (row11 s)) :=
    ((Below.refl _ _).alloc (Nat.le_refl _) _).trans ((k2.mono (by simp)).trans ((Below.refl _ _).alloc (by have := k2.size; simp at this; omega) _))
  have hcW : ∀ b, b < w2.heap.size → True := fun _ _ => trivial
  change Code.wp _ _ _ _ (w2.alloc (row11 s))
  generalize w2.alloc (row11 s) = W at gW hcell kW ⊢
  generalize w2.heap.size = N at hcell ⊢
  clear c0 c1 c2 c3 c4 c5 c6 c7 c8 c9 c10 g2 g1 hcW k2
  go_loop [3, 29] (fun p i => p = .int .i64 (-1) ∧ ∃ k : Nat, k ≤ j ∧ i = .int .i64 k) (fun _ i => j - (intOf i).toNat)
  case atStart => exact ⟨rfl, 0, Nat.zero_le _, rfl⟩
  case round =>
    obtain ⟨rfl, k, hk, rfl⟩ := hrel
    have HC : Hid (∀ k, k < 11 → W.cell? ⟨N, k, none⟩ = some (.iface 56 (.pointer (some (s k))))) := hcell
    clear hcell
    by_cases hlt : k < j
    · have hc := HC.out k (by omega)
      obtain ⟨cb, tb, hbb⟩ := gW.blk k (by omega)
      have hne := HN.out k hlt
      have hbW : W.heap[a.block]? = some (.cells ca ta (0, 0)) := by rw [kW.block _ (blk_lt HB.out)]; exact HB.out
      have Q : Hid (_) := is_other a (s k) ca cb ta tb W hne hbW hbb
      clear hbb hne hbW
      go_wp2_with (go_at_call 28; refine (Calls.mono Q.out ?_); rintro e w' ⟨rfl, rfl⟩)
      go_round
      case rel => exact ⟨rfl, k + 1, by omega, by go_num⟩
      case measure => simp [intOf]; omega
    · obtain rfl : k = j := by omega
      by_cases h11 : k < 11
      · have ha := HY.out h11
        have Q : Hid (_) := is_same (s k) W
        have hc := HC.out k h11
        subst ha
        go_wp2_with (go_at_call 28; refine (Calls.mono Q.out ?_); rintro e w' ⟨rfl, rfl⟩)
        go_ret2
        exact ⟨ret_two (cnum_lt h11).symm, kW⟩
      · go_wp2
        go_ret2
        exact ⟨ret_two (cnum_ge h11).symm, kW⟩

/-- coded: an error's number, without a place -/
theorem coded_nil (c : Int) (w : World) :
    Calls Tryd.prog 10 #[.nilIface, .int .i64 c] w fun e w' => e = .returned (.bool (0 == c)) ∧ w' = w := by
  by_cases h : c = 0
  · subst h
    go_enter Tryd.func10, Tryd.ntmps10
    go_wp2_with (go_at_call 9; refine (code_nil _).mono ?_; rintro e w' ⟨rfl, rfl⟩)
    go_ret
    exact ⟨rfl, rfl⟩
  · have h' : ((0 : Int) == c) = false := by simp; omega
    rw [h']
    go_enter Tryd.func10, Tryd.ntmps10
    go_wp2_with (go_at_call 9; refine (code_nil _).mono ?_; rintro e w' ⟨rfl, rfl⟩)
    go_ret
    exact ⟨rfl, rfl⟩
theorem coded_err (s : Nat → Addr) (j : Nat) (w : World) (g : Sents s w) (hj : j < 11) :
    Calls Tryd.prog 10 #[.iface 56 (.pointer (some (s j))), .int .i64 (j + 1)] w fun e w' => e = .returned (.bool true) ∧ Below w.heap.size w w' := by
  have hc := code_gen s j (s j) w g (by omega) (fun k hk => g.ne j k hj (by omega) (by omega)) (fun _ => rfl) (g.blk j hj)
  rw [cnum_lt hj] at hc
  have HC : Hid (_) := hc
  clear hc
  go_enter Tryd.func10, Tryd.ntmps10
  go_wp2_with (go_at_call 9; refine (Calls.mono HC.out ?_); rintro e w' ⟨rfl, hb⟩)
  go_ret
  exact ⟨rfl, hb⟩
end Go.Proofs.YtfnajhpcbajhfaaDoor
