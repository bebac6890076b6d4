/- Texts (package pool): a pool in memory; New, Find, Len, Get, Put. -/
import Derived.Test.YtcaeafgkogfgdaaDoorExpL
import Derived.Maps.OwnSet
import Derived.Maps.OwnOps
import Derived.Maps.AppendAt
import Derived.Maps.Views
import Derived.Carry
namespace Go.Proofs.YtcaeafgkogfgdaaDoor
open Go Go.RowKit Go.Maps Cal
attribute [local go_sem] Oper.semAt_some

theorem plLaw : Keyed Tryd.prog 9 := string_keyed Tryd.underlying9
/-- the key of a text -/
def plKey (s : ByteArray) : Lit := .string s.data.toList
theorem plKey_of {s : ByteArray} (h : s.size ≤ 100000) : keyOf Tryd.prog 9 (.string s) = some (plKey s) := Go.WideMaps.keyOf_string_mk Tryd.underlying9 (by unfold maxLen; omega)
theorem pl_ext {a b : ByteArray} (h : a.data.toList = b.data.toList) : a = b := by
  cases a; cases b
  congr 1
  exact Array.toList_inj.1 h
theorem plKey_ne {a b : ByteArray} (h : a ≠ b) : plKey a ≠ plKey b := fun q => h (pl_ext (Lit.string.inj q))
theorem plKey_lit (a : ByteArray) : WideAt.IsKeyLit (plKey a) := trivial
theorem pl_zeroI (w : World) : (zeroValue 3).run Tryd.prog w = .ok (.int .i64 0) w := Tryd.zeroValue3 w

/-- the numbers of texts, in a map -/
def PLook (D : DataW Value) (ts : List ByteArray) : Prop :=
  ∀ s : ByteArray, (∀ i : Nat, ts[i]? = some s → Maps.has D (plKey s) = true ∧ D.atKey (plKey s) (.lit (.int .i64 0)) = .lit (.int .i64 i)) ∧ (s ∉ ts → Maps.has D (plKey s) = false)
theorem PLook.nil : PLook (.map []) [] := fun s => ⟨fun i h => by simp at h, fun _ => rfl⟩
theorem PLook.put {D : DataW Value} {ts : List ByteArray} (h : PLook D ts) (hD : IsMap D) {s : ByteArray} (hs : s ∉ ts) : PLook (D.put (plKey s) (.lit (.int .i64 ts.length))) (ts ++ [s]) := by
  intro x
  by_cases hx : x = s
  · subst hx
    refine ⟨fun i hi => ⟨has_put_same hD (plKey_lit _) _, ?_⟩, fun q => absurd (List.mem_append_right _ (List.mem_singleton.2 rfl)) q⟩
    rw [atKey_put_same hD (plKey_lit _)]
    rcases Nat.lt_or_ge i ts.length with hl | hl
    · rw [List.getElem?_append_left hl] at hi
      exact absurd (List.mem_of_getElem? hi) hs
    · rw [List.getElem?_append_right hl] at hi
      have : i - ts.length = 0 := by
        rcases Nat.eq_zero_or_pos (i - ts.length) with q | q
        · exact q
        · rw [List.getElem?_eq_none (by simp; omega)] at hi; cases hi
      have e : i = ts.length := by omega
      rw [e]
  · rw [has_put_other (plKey_ne hx), atKey_put_other (plKey_ne hx)]
    refine ⟨fun i hi => (h x).1 i ?_, fun q => (h x).2 (fun m => q (List.mem_append_left _ m))⟩
    rcases Nat.lt_or_ge i ts.length with hl | hl
    · rwa [List.getElem?_append_left hl] at hi
    · rw [List.getElem?_append_right hl] at hi
      have hm := List.mem_of_getElem? hi
      exact absurd (List.mem_singleton.1 hm) hx

/-- what Put leaves -/
structure PKept (w w' : World) (pb mb : Nat) (tv : Value) : Prop where
  os : w'.os = w.os
  tape : w'.tape = w.tape
  output : w'.output = w.output
  size : w.heap.size ≤ w'.heap.size
  block : ∀ k, k < w.heap.size → k ≠ pb → k ≠ mb → tv.ownBlock ≠ some k → w'.heap[k]? = w.heap[k]?
theorem PKept.same {w w' : World} (hb : Below w.heap.size w w') (pb mb : Nat) (tv : Value) : PKept w w' pb mb tv := ⟨hb.os, hb.tape, hb.output, hb.size, fun k hk _ _ _ => hb.block k hk⟩

end Go.Proofs.YtcaeafgkogfgdaaDoor
