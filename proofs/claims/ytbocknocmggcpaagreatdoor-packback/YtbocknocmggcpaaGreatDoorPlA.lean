/- Texts (package pool): a pool in memory; New, Find, Len, Get, Put. -/
import Derived.Test.YtbocknocmggcpaaGreatDoorExpL
import Derived.Maps.OwnSet
import Derived.Maps.OwnOps
import Derived.Maps.AppendAt
import Derived.Maps.Views
import Derived.Carry
namespace Go.Proofs.YtbocknocmggcpaaGreatDoor
open Go Go.RowKit Go.Maps Cal
attribute [local go_sem] Oper.semAt_some

theorem plLaw : Keyed Tryz.prog 9 := string_keyed Tryz.underlying9
/-- the key of a text -/
def plKey (s : ByteArray) : Lit := .string s.data.toList
theorem plKey_of {s : ByteArray} (h : s.size ≤ 100000) : keyOf Tryz.prog 9 (.string s) = some (plKey s) := Go.WideMaps.keyOf_string_mk Tryz.underlying9 (by unfold maxLen; omega)
theorem pl_ext {a b : ByteArray} (h : a.data.toList = b.data.toList) : a = b := by
  cases a; cases b
  congr 1
  exact Array.toList_inj.1 h
theorem plKey_ne {a b : ByteArray} (h : a ≠ b) : plKey a ≠ plKey b := fun q => h (pl_ext (Lit.string.inj q))
theorem plKey_lit (a : ByteArray) : WideAt.IsKeyLit (plKey a) := trivial
theorem pl_zeroI (w : World) : (zeroValue 3).run Tryz.prog w = .ok (.int .i64 0) w := Tryz.zeroValue3 w

/-- the numbers of texts, in a map -/
def PLook (D : DataW Value) (ts : List ByteArray) : Prop :=
  ∀ s : ByteArray, (∀ i : Nat, ts[i]? = some s → Maps.has D (plKey s) = true ∧ D.atKey (plKey s) (.lit (.int .i64 0)) = .lit (.int .i64 i)) ∧ (s ∉ ts → Maps.has D (plKey s) = false)
theorem PLook.nil : PLook (.map []) [] := fun s => ⟨fun i h => by simp at h, fun _ => rfl⟩
theorem PLook.put {D : DataW Value} {ts : List ByteArray} (h : PLook D ts) (hD : IsMap D) {s : ByteArray} (hs : s ∉ ts) : PLook (D.put (plKey s) (.lit (.int .i64 ts.length))) (ts ++ [s]) := by
  intro x
  by_cases hx : x = s
  · subst hx
    refine ⟨fun i hi => ⟨has_put_same hD (plKey_lit _) _, ?_⟩, fun q => absurd (List.mem_append_right _ (List.mem_singleton.2 rfl)) q⟩
    rw [atKey_put_same hD (plKey_lit _)]
    rcases Nat.lt_or_ge i ts.length with hl | hl
    · rw [List.getElem?_append_left hl] at hi
      exact absurd (List.mem_of_getElem? hi) hs
    · rw [List.getElem?_append_right hl] at hi
      have : i - ts.length = 0 := by
        rcases Nat.eq_zero_or_pos (i - ts.length) with q | q
        · exact q
        · rw [List.getElem?_eq_none (by simp; omega)] at hi; cases hi
      have e : i = ts.length := by omega
      rw [e]
  · rw [has_put_other (plKey_ne hx), atKey_put_other (plKey_ne hx)]
    refine ⟨fun i hi => (h x).1 i ?_, fun q => (h x).2 (fun m => q (List.mem_append_left _ m))⟩
    rcases Nat.lt_or_ge i ts.length with hl | hl
    · rwa [List.getElem?_append_left hl] at hi
    · rw [List.getElem?_append_right hl] at hi
      have hm := List.mem_of_getElem? hi
      exact absurd (List.mem_singleton.1 hm) hx

/-- block pb is a pool (its map: mb, its list: tv); ts: its texts by numbers -/
structure PoolAt (lo : Nat) (W : World) (pb mb : Nat) (tv : Value) (ts : List ByteArray) : Prop where
  hp : pb < lo
  hm : mb < lo
  ne : mb ≠ pb
  le : lo ≤ W.heap.size
  blk : W.heap[pb]? = some (.cells #[tv, .map (some mb)] 88 (0, 0))
  row : W.ownsRow lo 9 1 tv ts.length (ts.map Value.string)
  map : ∃ D : DataW Value, W.ownsMap Tryz.prog 9 (plainElem Tryz.prog 3) mb ts.length D ∧ PLook D ts
/-- what such a one hangs on -/
theorem PoolAt.far {lo : Nat} {W W' : World} {pb mb : Nat} {tv : Value} {ts : List ByteArray} (h : PoolAt lo W pb mb tv ts) (hs : W.heap.size ≤ W'.heap.size) (hk : ∀ k, k < W.heap.size → (k = pb ∨ k = mb ∨ tv.ownBlock = some k) → W'.heap[k]? = W.heap[k]?) : PoolAt lo W' pb mb tv ts := by
  have hle := h.le
  have hpl := h.hp
  have hml := h.hm
  refine ⟨h.hp, h.hm, h.ne, Nat.le_trans h.le hs, (hk pb (by omega) (.inl rfl)).trans h.blk, ⟨h.row.1, ?_⟩, ?_⟩
  · rcases h.row.2 with h2 | ⟨g, cap, cur, hv, hg, hh, r⟩
    · exact .inl h2
    · refine .inr ⟨g, cap, cur, hv, hg, (hk g (Array.getElem?_eq_some_iff.1 hh).1 (.inr (.inr ?_))).trans hh, r⟩
      rw [hv]; rfl
  · obtain ⟨D, ⟨es, clock, hb, F, hs2, rfl⟩, hl⟩ := h.map
    exact ⟨_, ⟨es, clock, (hk mb (by omega) (.inr (.inl rfl))).trans hb, F, hs2, rfl⟩, hl⟩
theorem PoolAt.step {lo : Nat} {W W' : World} {pb mb : Nat} {tv : Value} {ts : List ByteArray} (h : PoolAt lo W pb mb tv ts) (hb : Below W.heap.size W W') : PoolAt lo W' pb mb tv ts := h.far hb.size (fun k hk _ => hb.block k hk)
theorem PoolAt.cells {lo : Nat} {W : World} {pb mb : Nat} {tv : Value} {ts : List ByteArray} (h : PoolAt lo W pb mb tv ts) : W.cell? ⟨pb, 0, none⟩ = some tv ∧ W.cell? ⟨pb, 1, none⟩ = some (.map (some mb)) := by
  constructor <;> simp [World.cell?, h.blk]
theorem PoolAt.form {lo : Nat} {W : World} {pb mb : Nat} {tv : Value} {ts : List ByteArray} (h : PoolAt lo W pb mb tv ts) : ∃ a c, tv = .slice a ts.length c ∧ ∀ (j : Nat) (hj : j < ts.length), ∃ b, a = some ⟨b, 0, none⟩ ∧ b < W.heap.size ∧ W.cell? ⟨b, j, none⟩ = some (.string ts[j]) := by
  rcases h.row.2 with ⟨rfl, h0⟩ | ⟨g, cap, cur, rfl, hg, hh, hcap, hmax, hsz, htake⟩
  · exact ⟨none, 0, by rw [h0], fun j hj => by omega⟩
  · refine ⟨_, _, rfl, fun j hj => ⟨g, rfl, (Array.getElem?_eq_some_iff.1 hh).1, ?_⟩⟩
    have e := congrArg (fun z : List Value => z[j]?) htake
    simp only [List.getElem?_take, List.getElem?_map, Array.getElem?_toList] at e
    rw [if_pos (by omega), List.getElem?_eq_getElem hj] at e
    simp only [World.cell?, hh]
    exact e
/-- what Put leaves -/
structure PKept (w w' : World) (pb mb : Nat) (tv : Value) : Prop where
  os : w'.os = w.os
  tape : w'.tape = w.tape
  output : w'.output = w.output
  size : w.heap.size ≤ w'.heap.size
  block : ∀ k, k < w.heap.size → k ≠ pb → k ≠ mb → tv.ownBlock ≠ some k → w'.heap[k]? = w.heap[k]?
theorem PKept.same {w w' : World} (hb : Below w.heap.size w w') (pb mb : Nat) (tv : Value) : PKept w w' pb mb tv := ⟨hb.os, hb.tape, hb.output, hb.size, fun k hk _ _ _ => hb.block k hk⟩

theorem pnew_any (w : World) : Calls Tryz.prog 26 #[] w fun r w' => r = .returned (.pointer (some ⟨w.heap.size + 1, 0, none⟩)) ∧ PoolAt (w.heap.size + 2) w' (w.heap.size + 1) w.heap.size (.slice none 0 0) [] ∧ Below w.heap.size w w' := by
  have hmm := @run_makeMap Tryz.prog
  go_enter Tryz.func26, Tryz.ntmps26
  go_wp2
  go_ret
  refine ⟨rfl, ⟨by omega, by omega, by omega, by simp [World.size_alloc], block_at _ (World.size_alloc _ _), World.ownsRow_nil _ _ _ _, ?_⟩, below_then (below_alloc _ _) (below_alloc _ _)⟩
  exact ⟨.map [], World.ownsMap.alloc (World.ownsMap_made w Tryz.prog 9 (plainElem Tryz.prog 3)) _, PLook.nil⟩

set_option maxRecDepth 100000 in
/-- a look-up whose number is known -/
theorem wpList_lookup_pl (w : World) {ops : Array Oper} {rest : List Oper} {o : Oper} {a : Act} {Q : Exit → Act → World → Prop} (hg : o.guard = none) (m x : Operand) (hop : o.op = Op.lookup 86 m x true)
    (b n : Nat) (D : DataW Value) (hm : a.eval m = .map (some b)) (hown : w.ownsMap Tryz.prog 9 (plainElem Tryz.prog 3) b n D) (k : Value) (kl : Lit) (hx : a.eval x = k) (hkey : keyOf Tryz.prog 9 k = some kl) (c : Int) (hat : D.atKey kl (.lit (.int .i64 0)) = .lit (.int .i64 c)) (bo : Bool) (hbo : Maps.has D kl = bo)
    (hK : wpList Tryz.prog ops Q rest (a.put o.dst (.tuple #[.int .i64 c, .bool bo])) w) : wpList Tryz.prog ops Q (o :: rest) a w :=
  wpList_lookup_own_ok_int w hg m x 86 hop 9 3 .i64 plLaw Tryz.underlying86 Tryz.underlying3 (pl_zeroI w) b n D hm hown k kl hx hkey (fun c' h' _ => by
    rw [hat] at h'
    have e : c' = c := by injection h' with q; injection q with _ q2; exact q2.symm
    subst e; subst hbo
    exact hK)

set_option maxRecDepth 100000 in
theorem pfind_any (lo pb mb : Nat) (tv : Value) (ts : List ByteArray) (s : ByteArray) (w : World) (h : PoolAt lo w pb mb tv ts) (hs : s.size ≤ 100000) :
    Calls Tryz.prog 51 #[.pointer (some ⟨pb, 0, none⟩), .string s] w fun r w' => w' = w ∧ ((∃ i : Nat, ts[i]? = some s ∧ r = .returned (.tuple #[.int .i64 i, .bool true])) ∨ (s ∉ ts ∧ r = .returned (.tuple #[.int .i64 0, .bool false]))) := by
  obtain ⟨D, hown, hl⟩ := h.map
  have x1 := h.cells.2
  have HKY : Hid (keyOf Tryz.prog 9 (.string s) = some (plKey s)) := plKey_of hs
  have HO : Hid (World.ownsMap _ _ _ _ _ _ _) := hown
  by_cases hm : s ∈ ts
  · obtain ⟨i, hi⟩ := List.getElem?_of_mem hm
    have HAT : Hid (_) := ((hl s).1 i hi).2
    have HH : Hid (_) := ((hl s).1 i hi).1
    clear h hl hown hm
    go_enter Tryz.func51, Tryz.ntmps51
    go_wp2_with (first
      | (at_lookup; refine wpList_lookup_pl _ rfl _ _ rfl mb _ D rfl HO.out _ (plKey s) rfl HKY.out i HAT.out true HH.out ?_)
      | go_in)
    go_ret2
    exact ⟨rfl, .inl ⟨i, hi, rfl⟩⟩
  · have HH : Hid (Maps.has D (plKey s) = false) := (hl s).2 hm
    have HAT : Hid (D.atKey (plKey s) (.lit (.int .i64 0)) = .lit (.int .i64 0)) := atKey_of_not_has HH.out _
    clear h hl hown
    go_enter Tryz.func51, Tryz.ntmps51
    go_wp2_with (first
      | (at_lookup; refine wpList_lookup_pl _ rfl _ _ rfl mb _ D rfl HO.out _ (plKey s) rfl HKY.out 0 HAT.out false HH.out ?_)
      | go_in)
    go_ret2
    exact ⟨rfl, .inr ⟨hm, rfl⟩⟩

set_option maxRecDepth 100000 in
theorem plen_any (lo pb mb : Nat) (tv : Value) (ts : List ByteArray) (w : World) (h : PoolAt lo w pb mb tv ts) :
    Calls Tryz.prog 30 #[.pointer (some ⟨pb, 0, none⟩)] w fun r w' => r = .returned (.int .i64 ts.length) ∧ w' = w := by
  have x0 := h.cells.1
  obtain ⟨a, c, rfl, _⟩ := h.form
  clear h
  go_enter Tryz.func30, Tryz.ntmps30
  go_wp2
  go_ret
  exact ⟨rfl, rfl⟩

set_option maxRecDepth 100000 in
theorem pget_ok (lo pb mb : Nat) (tv : Value) (ts : List ByteArray) (i : Nat) (hi : i < ts.length) (w : World) (h : PoolAt lo w pb mb tv ts) :
    Calls Tryz.prog 31 #[.pointer (some ⟨pb, 0, none⟩), .int .i64 i] w fun r w' => r = .returned (.tuple #[.string ts[i], .nilIface]) ∧ w' = w := by
  have L : Hid (Calls _ _ _ _ _) := plen_any lo pb mb tv ts w h
  have x0 := h.cells.1
  obtain ⟨a, c, rfl, hc⟩ := h.form
  obtain ⟨b, rfl, hb, hcell⟩ := hc i hi
  generalize ts[i] = t at hcell ⊢
  clear h hc
  generalize ts.length = n at L x0 hi
  go_enter Tryz.func31, Tryz.ntmps31
  go_wp2_with (go_at_call 30; refine Calls.mono L.out ?_; rintro r w' ⟨rfl, hq⟩; have hq := hq.symm; subst hq)
  go_ret2
  exact ⟨rfl, rfl⟩
end Go.Proofs.YtbocknocmggcpaaGreatDoor
