/- Texts (package pool): a pool in memory; New, Find, Len, Get, Put. -/
import Derived.Test.YtkjfbeempmfipaaGreatDoorJtAB
import Derived.Maps.OwnSet
import Derived.Maps.OwnOps
import Derived.Maps.AppendAt
import Derived.Maps.Views
import Derived.Carry
import Derived.Lib.SmallJoins
import Derived.Deep.DeepCutAuto
import Derived.WalkArith
import Derived.Shelf.Strings.BuilderK
namespace Go.Proofs.YtkjfbeempmfipaaGreatDoor
open Go Go.RowKit Go.Maps Cal
attribute [local go_sem] Oper.semAt_some

theorem plLaw : Keyed Tryz.prog 9 := string_keyed Tryz.underlying9
/-- the key of a text -/
def plKey (s : ByteArray) : Lit := .string s.data.toList
theorem plKey_of {s : ByteArray} (h : s.size ≤ 100000) : keyOf Tryz.prog 9 (.string s) = some (plKey s) := Go.WideMaps.keyOf_string_mk Tryz.underlying9 (by unfold maxLen; omega)
theorem pl_ext {a b : ByteArray} (h : a.data.toList = b.data.toList) : a = b := by
  cases a; cases b
  congr 1
  exact Array.toList_inj.1 h
theorem plKey_ne {a b : ByteArray} (h : a ≠ b) : plKey a ≠ plKey b := fun q => h (pl_ext (Lit.string.inj q))
theorem plKey_lit (a : ByteArray) : WideAt.IsKeyLit (plKey a) := trivial
theorem pl_zeroI (w : World) : (zeroValue 3).run Tryz.prog w = .ok (.int .i64 0) w := Tryz.zeroValue3 w

/-- the numbers of texts, in a map -/
def PLook (D : DataW Value) (ts : List ByteArray) : Prop :=
  ∀ s : ByteArray, (∀ i : Nat, ts[i]? = some s → Maps.has D (plKey s) = true ∧ D.atKey (plKey s) (.lit (.int .i64 0)) = .lit (.int .i64 i)) ∧ (s ∉ ts → Maps.has D (plKey s) = false)
theorem PLook.nil : PLook (.map []) [] := fun s => ⟨fun i h => by simp at h, fun _ => rfl⟩
theorem PLook.put {D : DataW Value} {ts : List ByteArray} (h : PLook D ts) (hD : IsMap D) {s : ByteArray} (hs : s ∉ ts) : PLook (D.put (plKey s) (.lit (.int .i64 ts.length))) (ts ++ [s]) := by
  intro x
  by_cases hx : x = s
  · subst hx
    refine ⟨fun i hi => ⟨has_put_same hD (plKey_lit _) _, ?_⟩, fun q => absurd (List.mem_append_right _ (List.mem_singleton.2 rfl)) q⟩
    rw [atKey_put_same hD (plKey_lit _)]
    rcases Nat.lt_or_ge i ts.length with hl | hl
    · rw [List.getElem?_append_left hl] at hi
      exact absurd (List.mem_of_getElem? hi) hs
    · rw [List.getElem?_append_right hl] at hi
      have : i - ts.length = 0 := by
        rcases Nat.eq_zero_or_pos (i - ts.length) with q | q
        · exact q
        · rw [List.getElem?_eq_none (by simp; omega)] at hi; cases hi
      have e : i = ts.length := by omega
      rw [e]
  · rw [has_put_other (plKey_ne hx), atKey_put_other (plKey_ne hx)]
    refine ⟨fun i hi => (h x).1 i ?_, fun q => (h x).2 (fun m => q (List.mem_append_left _ m))⟩
    rcases Nat.lt_or_ge i ts.length with hl | hl
    · rwa [List.getElem?_append_left hl] at hi
    · rw [List.getElem?_append_right hl] at hi
      have hm := List.mem_of_getElem? hi
      exact absurd (List.mem_singleton.1 hm) hx

/-- block pb is a pool (its map: mb, its list: tv); ts: its texts by numbers -/
structure PoolAt (lo : Nat) (W : World) (pb mb : Nat) (tv : Value) (ts : List ByteArray) : Prop where
  hp : pb < lo
  hm : mb < lo
  ne : mb ≠ pb
  le : lo ≤ W.heap.size
  blk : W.heap[pb]? = some (.cells #[tv, .map (some mb)] 87 (0, 0))
  row : W.ownsRow lo 9 1 tv ts.length (ts.map Value.string)
  map : ∃ D : DataW Value, W.ownsMap Tryz.prog 9 (plainElem Tryz.prog 3) mb ts.length D ∧ PLook D ts
/-- what such a one hangs on -/
theorem PoolAt.far {lo : Nat} {W W' : World} {pb mb : Nat} {tv : Value} {ts : List ByteArray} (h : PoolAt lo W pb mb tv ts) (hs : W.heap.size ≤ W'.heap.size) (hk : ∀ k, k < W.heap.size → (k = pb ∨ k = mb ∨ tv.ownBlock = some k) → W'.heap[k]? = W.heap[k]?) : PoolAt lo W' pb mb tv ts := by
  have hle := h.le
  have hpl := h.hp
  have hml := h.hm
  refine ⟨h.hp, h.hm, h.ne, Nat.le_trans h.le hs, (hk pb (by omega) (.inl rfl)).trans h.blk, ⟨h.row.1, ?_⟩, ?_⟩
  · rcases h.row.2 with h2 | ⟨g, cap, cur, hv, hg, hh, r⟩
    · exact .inl h2
    · refine .inr ⟨g, cap, cur, hv, hg, (hk g (Array.getElem?_eq_some_iff.1 hh).1 (.inr (.inr ?_))).trans hh, r⟩
      rw [hv]; rfl
  · obtain ⟨D, ⟨es, clock, hb, F, hs2, rfl⟩, hl⟩ := h.map
    exact ⟨_, ⟨es, clock, (hk mb (by omega) (.inr (.inl rfl))).trans hb, F, hs2, rfl⟩, hl⟩
theorem PoolAt.step {lo : Nat} {W W' : World} {pb mb : Nat} {tv : Value} {ts : List ByteArray} (h : PoolAt lo W pb mb tv ts) (hb : Below W.heap.size W W') : PoolAt lo W' pb mb tv ts := h.far hb.size (fun k hk _ => hb.block k hk)
theorem PoolAt.cells {lo : Nat} {W : World} {pb mb : Nat} {tv : Value} {ts : List ByteArray} (h : PoolAt lo W pb mb tv ts) : W.cell? ⟨pb, 0, none⟩ = some tv ∧ W.cell? ⟨pb, 1, none⟩ = some (.map (some mb)) := by
  constructor <;> simp [World.cell?, h.blk]
theorem PoolAt.form {lo : Nat} {W : World} {pb mb : Nat} {tv : Value} {ts : List ByteArray} (h : PoolAt lo W pb mb tv ts) : ∃ a c, tv = .slice a ts.length c ∧ ∀ (j : Nat) (hj : j < ts.length), ∃ b, a = some ⟨b, 0, none⟩ ∧ b < W.heap.size ∧ W.cell? ⟨b, j, none⟩ = some (.string ts[j]) := by
  rcases h.row.2 with ⟨rfl, h0⟩ | ⟨g, cap, cur, rfl, hg, hh, hcap, hmax, hsz, htake⟩
  · exact ⟨none, 0, by rw [h0], fun j hj => by omega⟩
  · refine ⟨_, _, rfl, fun j hj => ⟨g, rfl, (Array.getElem?_eq_some_iff.1 hh).1, ?_⟩⟩
    have e := congrArg (fun z : List Value => z[j]?) htake
    simp only [List.getElem?_take, List.getElem?_map, Array.getElem?_toList] at e
    rw [if_pos (by omega), List.getElem?_eq_getElem hj] at e
    simp only [World.cell?, hh]
    exact e
/-- what Put leaves -/
structure PKept (w w' : World) (pb mb : Nat) (tv : Value) : Prop where
  os : w'.os = w.os
  tape : w'.tape = w.tape
  output : w'.output = w.output
  size : w.heap.size ≤ w'.heap.size
  block : ∀ k, k < w.heap.size → k ≠ pb → k ≠ mb → tv.ownBlock ≠ some k → w'.heap[k]? = w.heap[k]?
theorem PKept.same {w w' : World} (hb : Below w.heap.size w w') (pb mb : Nat) (tv : Value) : PKept w w' pb mb tv := ⟨hb.os, hb.tape, hb.output, hb.size, fun k hk _ _ _ => hb.block k hk⟩

theorem pnew_any (w : World) : Calls Tryz.prog 25 #[] w fun r w' => r = .returned (.pointer (some ⟨w.heap.size + 1, 0, none⟩)) ∧ PoolAt (w.heap.size + 2) w' (w.heap.size + 1) w.heap.size (.slice none 0 0) [] ∧ Below w.heap.size w w' := by
  have hmm := @run_makeMap Tryz.prog
  go_enter Tryz.func25, Tryz.ntmps25
  go_wp2
  go_ret
  refine ⟨rfl, ⟨by omega, by omega, by omega, by simp [World.size_alloc], block_at _ (World.size_alloc _ _), World.ownsRow_nil _ _ _ _, ?_⟩, below_then (below_alloc _ _) (below_alloc _ _)⟩
  exact ⟨.map [], World.ownsMap.alloc (World.ownsMap_made w Tryz.prog 9 (plainElem Tryz.prog 3)) _, PLook.nil⟩

set_option maxRecDepth 100000 in
/-- a look-up whose number is known -/
theorem wpList_lookup_pl (w : World) {ops : Array Oper} {rest : List Oper} {o : Oper} {a : Act} {Q : Exit → Act → World → Prop} (hg : o.guard = none) (m x : Operand) (hop : o.op = Op.lookup 85 m x true)
    (b n : Nat) (D : DataW Value) (hm : a.eval m = .map (some b)) (hown : w.ownsMap Tryz.prog 9 (plainElem Tryz.prog 3) b n D) (k : Value) (kl : Lit) (hx : a.eval x = k) (hkey : keyOf Tryz.prog 9 k = some kl) (c : Int) (hat : D.atKey kl (.lit (.int .i64 0)) = .lit (.int .i64 c)) (bo : Bool) (hbo : Maps.has D kl = bo)
    (hK : wpList Tryz.prog ops Q rest (a.put o.dst (.tuple #[.int .i64 c, .bool bo])) w) : wpList Tryz.prog ops Q (o :: rest) a w :=
  wpList_lookup_own_ok_int w hg m x 85 hop 9 3 .i64 plLaw Tryz.underlying85 Tryz.underlying3 (pl_zeroI w) b n D hm hown k kl hx hkey (fun c' h' _ => by
    rw [hat] at h'
    have e : c' = c := by injection h' with q; injection q with _ q2; exact q2.symm
    subst e; subst hbo
    exact hK)

set_option maxRecDepth 100000 in
theorem pfind_any (lo pb mb : Nat) (tv : Value) (ts : List ByteArray) (s : ByteArray) (w : World) (h : PoolAt lo w pb mb tv ts) (hs : s.size ≤ 100000) :
    Calls Tryz.prog 63 #[.pointer (some ⟨pb, 0, none⟩), .string s] w fun r w' => w' = w ∧ ((∃ i : Nat, ts[i]? = some s ∧ r = .returned (.tuple #[.int .i64 i, .bool true])) ∨ (s ∉ ts ∧ r = .returned (.tuple #[.int .i64 0, .bool false]))) := by
  obtain ⟨D, hown, hl⟩ := h.map
  have x1 := h.cells.2
  have HKY : Hid (keyOf Tryz.prog 9 (.string s) = some (plKey s)) := plKey_of hs
  have HO : Hid (World.ownsMap _ _ _ _ _ _ _) := hown
  by_cases hm : s ∈ ts
  · obtain ⟨i, hi⟩ := List.getElem?_of_mem hm
    have HAT : Hid (_) := ((hl s).1 i hi).2
    have HH : Hid (_) := ((hl s).1 i hi).1
    clear h hl hown hm
    go_enter Tryz.func63, Tryz.ntmps63
    go_wp2_with (first
      | (at_lookup; refine wpList_lookup_pl _ rfl _ _ rfl mb _ D rfl HO.out _ (plKey s) rfl HKY.out i HAT.out true HH.out ?_)
      | go_in)
    go_ret2
    exact ⟨rfl, .inl ⟨i, hi, rfl⟩⟩
  · have HH : Hid (Maps.has D (plKey s) = false) := (hl s).2 hm
    have HAT : Hid (D.atKey (plKey s) (.lit (.int .i64 0)) = .lit (.int .i64 0)) := atKey_of_not_has HH.out _
    clear h hl hown
    go_enter Tryz.func63, Tryz.ntmps63
    go_wp2_with (first
      | (at_lookup; refine wpList_lookup_pl _ rfl _ _ rfl mb _ D rfl HO.out _ (plKey s) rfl HKY.out 0 HAT.out false HH.out ?_)
      | go_in)
    go_ret2
    exact ⟨rfl, .inr ⟨hm, rfl⟩⟩

set_option maxRecDepth 100000 in
theorem plen_any (lo pb mb : Nat) (tv : Value) (ts : List ByteArray) (w : World) (h : PoolAt lo w pb mb tv ts) :
    Calls Tryz.prog 47 #[.pointer (some ⟨pb, 0, none⟩)] w fun r w' => r = .returned (.int .i64 ts.length) ∧ w' = w := by
  have x0 := h.cells.1
  obtain ⟨a, c, rfl, _⟩ := h.form
  clear h
  go_enter Tryz.func47, Tryz.ntmps47
  go_wp2
  go_ret
  exact ⟨rfl, rfl⟩

set_option maxRecDepth 100000 in
theorem pget_ok (lo pb mb : Nat) (tv : Value) (ts : List ByteArray) (i : Nat) (hi : i < ts.length) (w : World) (h : PoolAt lo w pb mb tv ts) :
    Calls Tryz.prog 29 #[.pointer (some ⟨pb, 0, none⟩), .int .i64 i] w fun r w' => r = .returned (.tuple #[.string ts[i], .nilIface]) ∧ w' = w := by
  have L : Hid (Calls _ _ _ _ _) := plen_any lo pb mb tv ts w h
  have x0 := h.cells.1
  obtain ⟨a, c, rfl, hc⟩ := h.form
  obtain ⟨b, rfl, hb, hcell⟩ := hc i hi
  generalize ts[i] = t at hcell ⊢
  clear h hc
  generalize ts.length = n at L x0 hi
  go_enter Tryz.func29, Tryz.ntmps29
  go_wp2_with (go_at_call 47; refine Calls.mono L.out ?_; rintro r w' ⟨rfl, hq⟩; have hq := hq.symm; subst hq)
  go_ret2
  exact ⟨rfl, rfl⟩
end Go.Proofs.YtkjfbeempmfipaaGreatDoor

/- Texts: Put, putNew. -/
namespace Go.Proofs.YtkjfbeempmfipaaGreatDoor
open Go Go.RowKit Go.Maps Cal
attribute [local go_sem] Oper.semAt_some

theorem pl_drew (w : World) (n : Nat) : Below w.heap.size w (w.drewN n) := ⟨rfl, rfl, rfl, Nat.le_refl _, fun _ _ => rfl⟩
theorem pl_info : (Tryz.prog.info? 9).map (fun i => (i.zero, i.size, i.bytes)) = some (some (.string ⟨#[]⟩), 1, 16) := by kernel_rfl
/-- the errors of package pool -/
structure GlobP (s : Nat → Addr) (w : World) : Prop where
  text : w.cell? ⟨0, 0, none⟩ = some (.iface 221 (.pointer (some (s 0))))
  bound : w.cell? ⟨1, 0, none⟩ = some (.iface 221 (.pointer (some (s 1))))
  none_ : w.cell? ⟨4, 0, none⟩ = some (.iface 221 (.pointer (some (s 2))))
  exist : w.cell? ⟨5, 0, none⟩ = some (.iface 221 (.pointer (some (s 3))))
  full : w.cell? ⟨6, 0, none⟩ = some (.iface 221 (.pointer (some (s 4))))
theorem GlobP.step {s : Nat → Addr} {w w' : World} (h : GlobP s w) (hb : Below w.heap.size w w') : GlobP s w' := ⟨cell_step h.text hb, cell_step h.bound hb, cell_step h.none_ hb, cell_step h.exist hb, cell_step h.full hb⟩
/-- an error of a pool: 1 text, 2 bound, 3 exist, 4 full, 5 none -/
def perr (s : Nat → Addr) (k : Nat) : Value := .iface 221 (.pointer (some (s (if k = 1 then 0 else if k = 2 then 1 else if k = 3 then 3 else if k = 4 then 4 else 2))))

set_option maxRecDepth 100000 in
theorem pput_long (pb : Nat) (x : ByteArray) (s : Nat → Addr) (w : World) (g : GlobP s w) (hx : 10000 < x.size) :
    Calls Tryz.prog 43 #[.pointer (some ⟨pb, 0, none⟩), .string x] w fun r w' => r = .returned (.tuple #[.int .i64 0, perr s 2]) ∧ Below w.heap.size w w' := by
  have hB := g.bound
  have hx' : (10000 : Int) < (x.size : Int) := by omega
  clear g
  go_enter Tryz.func43, Tryz.ntmps43
  go_wp2
  go_quiet (fail)
  go_wp2
  go_ret2
  exact ⟨rfl, pl_drew _ _⟩

set_option maxRecDepth 100000 in
theorem pput_old (lo pb mb : Nat) (tv : Value) (ts : List ByteArray) (x : ByteArray) (i : Nat) (w : World) (h : PoolAt lo w pb mb tv ts) (hx : x.size ≤ 10000) (hi : ts[i]? = some x) :
    Calls Tryz.prog 43 #[.pointer (some ⟨pb, 0, none⟩), .string x] w fun r w' => r = .returned (.tuple #[.int .i64 i, .nilIface]) ∧ w' = w := by
  have F : Hid (Calls Tryz.prog 63 #[.pointer (some ⟨pb, 0, none⟩), .string x] w fun r w' => w' = w ∧ r = .returned (.tuple #[.int .i64 i, .bool true])) := by
    refine Calls.mono (pfind_any lo pb mb tv ts x w h (by omega)) ?_
    rintro r w' ⟨rfl, hr⟩
    obtain ⟨D, hown, hl⟩ := h.map
    rcases hr with ⟨j, hj, rfl⟩ | ⟨hn, _⟩
    · have e1 := ((hl x).1 i hi).2
      have e2 := ((hl x).1 j hj).2
      rw [e1] at e2
      have e : (i : Int) = j := by injection e2 with q; injection q
      exact ⟨rfl, by rw [e]⟩
    · exact absurd (List.mem_of_getElem? hi) hn
  have hx' : (x.size : Int) ≤ 10000 := by omega
  clear h hi
  go_enter Tryz.func43, Tryz.ntmps43
  go_wp2_with (go_at_call 63; refine Calls.mono F.out ?_; rintro r w' ⟨hq, rfl⟩; have hq := hq.symm; subst hq)
  go_ret2
  exact ⟨rfl, rfl⟩

set_option maxRecDepth 100000 in
theorem pput_full (lo pb mb : Nat) (tv : Value) (ts : List ByteArray) (x : ByteArray) (s : Nat → Addr) (w : World) (g : GlobP s w) (h : PoolAt lo w pb mb tv ts) (hx : x.size ≤ 10000) (hm : x ∉ ts) (hl : 1000 ≤ ts.length) :
    Calls Tryz.prog 43 #[.pointer (some ⟨pb, 0, none⟩), .string x] w fun r w' => r = .returned (.tuple #[.int .i64 0, perr s 4]) ∧ Below w.heap.size w w' := by
  have F : Hid (Calls Tryz.prog 63 #[.pointer (some ⟨pb, 0, none⟩), .string x] w fun r w' => w' = w ∧ r = .returned (.tuple #[.int .i64 0, .bool false])) := by
    refine Calls.mono (pfind_any lo pb mb tv ts x w h (by omega)) ?_
    rintro r w' ⟨rfl, hr⟩
    rcases hr with ⟨j, hj, rfl⟩ | ⟨hn, rfl⟩
    · exact absurd (List.mem_of_getElem? hj) hm
    · exact ⟨rfl, rfl⟩
  have L : Hid (Calls _ _ _ _ _) := plen_any lo pb mb tv ts w h
  have hB := g.full
  have hx' : (x.size : Int) ≤ 10000 := by omega
  have hl' : (1000 : Int) ≤ (ts.length : Int) := by omega
  clear h g hm
  go_enter Tryz.func43, Tryz.ntmps43
  go_wp2_with (first
    | (go_at_call 63; refine Calls.mono F.out ?_; rintro r w' ⟨hq, rfl⟩; have hq := hq.symm; subst hq)
    | (go_at_call 47; refine Calls.mono L.out ?_; rintro r w' ⟨rfl, hq⟩; have hq := hq.symm; subst hq))
  go_quiet (fail)
  go_wp2
  go_ret2
  exact ⟨rfl, pl_drew _ _⟩

set_option maxHeartbeats 1000000 in
set_option maxRecDepth 100000 in
theorem pput_new (lo pb mb : Nat) (tv : Value) (ts : List ByteArray) (x : ByteArray) (w : World) (h : PoolAt lo w pb mb tv ts) (hx : x.size ≤ 10000) (hm : x ∉ ts) (hl : ts.length < 1000) :
    Calls Tryz.prog 43 #[.pointer (some ⟨pb, 0, none⟩), .string x] w fun r w' => r = .returned (.tuple #[.int .i64 ts.length, .nilIface]) ∧ ∃ tv', PoolAt lo w' pb mb tv' (ts ++ [x]) ∧ PKept w w' pb mb tv ∧ (tv'.ownBlock = tv.ownBlock ∨ ∃ k, w.heap.size ≤ k ∧ tv'.ownBlock = some k) := by
  have F : Hid (Calls Tryz.prog 63 #[.pointer (some ⟨pb, 0, none⟩), .string x] w fun r w' => w' = w ∧ r = .returned (.tuple #[.int .i64 0, .bool false])) := by
    refine Calls.mono (pfind_any lo pb mb tv ts x w h (by omega)) ?_
    rintro r w' ⟨rfl, hr⟩
    rcases hr with ⟨j, hj, rfl⟩ | ⟨hn, rfl⟩
    · exact absurd (List.mem_of_getElem? hj) hm
    · exact ⟨rfl, rfl⟩
  have L : Hid (Calls _ _ _ _ _) := plen_any lo pb mb tv ts w h
  have x0 := h.cells.1
  obtain ⟨i0, hi, hz0, hz1, hz2⟩ := info_parts pl_info
  obtain ⟨D, hown, hlook⟩ := h.map
  have hA := below_alloc w (.cells #[.string x] 9)
  have HROW : Hid (World.ownsRow (w.alloc (.cells #[.string x] 9)) lo 9 1 tv ts.length (ts.map Value.string)) := (h.step hA).row
  have HBLK : Hid (w.heap[pb]? = some (.cells #[tv, .map (some mb)] 87 (0, 0))) := h.blk
  have HOWN : Hid (World.ownsMap _ _ _ _ _ _ _) := hown
  have HLOOK : Hid (PLook D ts) := hlook
  have HKY : Hid (keyOf Tryz.prog 9 (.string x) = some (plKey x)) := plKey_of (by omega)
  have HP : Hid (pb < lo ∧ mb < lo ∧ mb ≠ pb ∧ lo ≤ w.heap.size) := ⟨h.hp, h.hm, h.ne, h.le⟩
  have HNB : Hid (∀ k, k < lo → tv.ownBlock ≠ some k) := fun k hk q => by have := (World.ownsRow.lt h.row k q).1; omega
  have HMEM : Hid (x ∉ ts) := hm
  have HROW0 : Hid (∀ k, tv.ownBlock = some k → k < w.heap.size) := fun k q => (World.ownsRow.lt h.row k q).2
  have hx' : (x.size : Int) ≤ 10000 := by omega
  have hl' : (ts.length : Int) < 1000 := by omega
  have HV : Hid (plainElem (H := Value) Tryz.prog 3 (.int .i64 ts.length) = some (.lit (.int .i64 ts.length), [])) := plainElem_int Tryz.underlying3 (Go.WalkArith.wf_i64 (by omega))
  have HNM : Hid (ts.length < maxLen) := by show ts.length < maxLen; unfold maxLen; omega
  have NC : Hid (∀ (j : Nat) (u : Value), [Value.string x][j]? = some u → (w.alloc (.cells #[.string x] 9)).cell? ((⟨w.heap.size, 0, none⟩ : Addr).add j) = some u) := fun j u hj => by
    match j, hj with
    | 0, hj => simp at hj; subst hj; simp [Addr.add]
  obtain ⟨ta, tc, rfl, _⟩ := h.form
  clear h hm hown hlook
  go_enter Tryz.func43, Tryz.ntmps43
  go_upto_region 9 with (first
    | (go_at_call 63; refine Calls.mono F.out ?_; rintro r w' ⟨hq, rfl⟩; have hq := hq.symm; subst hq)
    | (go_at_call 47; refine Calls.mono L.out ?_; rintro r w' ⟨rfl, hq⟩; have hq := hq.symm; subst hq))
  clear F L
  go_upto_region 10 with (at_builtin; refine wpList_append_own_at _ rfl _ _ 44 rfl lo 9 i0 (.string ⟨#[]⟩) 1 16 Tryz.underlying44 hi hz0 hz1 hz2 rfl (by decide) _ _ _ rfl HROW.out ⟨w.heap.size, 0, none⟩ 1 1 [.string x] rfl rfl NC.out (fun v hv => by rw [List.mem_singleton.1 hv]; rfl) (by unfold maxLen; omega) (by omega) (by have := HP.out.2.2.2; rw [World.size_alloc]; omega) ?_; intro v' w3 hown' hgrow _ hat; obtain ⟨gb, capb, rfl⟩ := Joins.ownsRow_form hown' (by omega); have hblk3 : w3.heap[pb]? = some (.cells #[.slice ta ts.length tc, .map (some mb)] 87 (0, 0)) := (hgrow.block pb (by have := HP.out; rw [World.size_alloc]; omega) (fun q => HNB.out pb HP.out.1 q.symm)).trans (block_alloc _ HBLK.out); have y0 : w3.cell? ⟨pb, 0, none⟩ = some (.slice ta ts.length tc) := (by simp [World.cell?, hblk3]); have y1 : w3.cell? ⟨pb, 1, none⟩ = some (.map (some mb)) := (by simp [World.cell?, hblk3]); have z0 : w3.frozen? ⟨pb, 0, none⟩ = false := (by simp [World.frozen?, hblk3]))
  have HG3 : Hid (World.grownBy (w.alloc (.cells #[.string x] 9)) w3 (Value.slice ta ts.length tc).ownBlock) := hgrow
  have HO3 : Hid (World.ownsRow _ _ _ _ _ _ _) := hown'
  have HB3 : Hid (_) := hblk3
  have HAT : Hid ((Value.slice (some ⟨gb, 0, none⟩) (ts.length + 1) capb).ownBlock = (Value.slice ta ts.length tc).ownBlock ∨ (Value.slice (some ⟨gb, 0, none⟩) (ts.length + 1) capb).ownBlock = some (w.heap.size + 1)) := by rw [World.size_alloc] at hat; exact hat
  have HM3 : Hid (World.ownsMap (w3.setCell ⟨pb, 0, none⟩ (.slice (some ⟨gb, 0, none⟩) (ts.length + 1) capb)) Tryz.prog 9 (plainElem Tryz.prog 3) mb ts.length D) := World.ownsMap.setCell ((HOWN.out.alloc _).kept hgrow (fun q => HNB.out mb HP.out.2.1 q.symm)) HP.out.2.2.1 _
  have HBW : Hid ((w3.setCell ⟨pb, 0, none⟩ (.slice (some ⟨gb, 0, none⟩) (ts.length + 1) capb)).heap[pb]? = some (.cells #[.slice (some ⟨gb, 0, none⟩) (ts.length + 1) capb, .map (some mb)] 87 (0, 0))) := set_block (i := 0) _ hblk3
  have y2 : (w3.setCell ⟨pb, 0, none⟩ (.slice (some ⟨gb, 0, none⟩) (ts.length + 1) capb)).cell? ⟨pb, 1, none⟩ = some (.map (some mb)) := by simp [World.cell?, HBW.out]
  have HSZ : Hid ((w3.setCell ⟨pb, 0, none⟩ (.slice (some ⟨gb, 0, none⟩) (ts.length + 1) capb)).heap.size = w3.heap.size) := set_size _ _ _
  have HGS : Hid (w3.grownBy (w3.setCell ⟨pb, 0, none⟩ (.slice (some ⟨gb, 0, none⟩) (ts.length + 1) capb)) (some pb)) := grown_set w3 ⟨pb, 0, none⟩ _
  have HO4 : Hid (World.ownsRow (w3.setCell ⟨pb, 0, none⟩ (.slice (some ⟨gb, 0, none⟩) (ts.length + 1) capb)) lo 9 1 (.slice (some ⟨gb, 0, none⟩) (ts.length + 1) capb) (ts.length + 1) (ts.map Value.string ++ [.string x])) := hown'.kept HGS.out (.inr (fun q => by have := (World.ownsRow.lt hown' pb q).1; have := HP.out.1; omega))
  clear hgrow hown' hblk3 hat y0 y1 z0 HROW NC
  generalize w3.setCell ⟨pb, 0, none⟩ (.slice (some ⟨gb, 0, none⟩) (ts.length + 1) capb) = w4 at HM3 HBW y2 HSZ HGS HO4 ⊢
  go_wp2_with (at_mapUpdate; refine wpList_mapUpdate_in _ rfl _ _ _ 85 rfl 9 3 plLaw Tryz.underlying85 _ mb _ D rfl HM3.out HNM.out _ _ (plKey x) rfl rfl HKY.out (.lit (.int .i64 ts.length)) [] HV.out ?_; intro w5 hown5 hturn5)
  go_ret2
  have hp1 := HP.out.1
  have hp2 := HP.out.2.1
  have hle := HP.out.2.2.2
  have hs3 := HG3.out.size
  rw [World.size_alloc] at hs3
  have hs4 := HSZ.out
  have hs5 := hturn5.grown.size
  refine ⟨rfl, _, ⟨hp1, hp2, HP.out.2.2.1, by omega, (hturn5.grown.block pb (by omega) (fun q => HP.out.2.2.1 (Option.some.inj q).symm)).trans HBW.out, ?_, _, ?_, HLOOK.out.put HOWN.out.isMap HMEM.out⟩, ⟨?_, ?_, ?_, by omega, fun k hk h1 h2 h3 => ?_⟩, ?_⟩
  · rw [List.length_append, List.map_append]
    exact HO4.out.kept hturn5.grown (.inr (fun q => by have := (World.ownsRow.lt HO4.out mb q).1; omega))
  · rw [List.length_append]
    exact hown5
  · exact hturn5.grown.os.trans (HGS.out.os.trans HG3.out.os)
  · exact hturn5.grown.tape.trans (HGS.out.tape.trans HG3.out.tape)
  · exact hturn5.grown.output.trans (HGS.out.output.trans HG3.out.output)
  · exact (hturn5.grown.block k (by omega) (fun q => h2 (Option.some.inj q))).trans ((HGS.out.block k (by omega) (fun q => h1 (Option.some.inj q))).trans ((HG3.out.block k (by rw [World.size_alloc]; omega) (fun q => h3 q.symm)).trans (hA.block k hk)))
  · rcases HAT.out with q | q
    · exact .inl q
    · exact .inr ⟨_, Nat.le_succ _, q⟩

/-- Put: where it is there, where it is new, and where it fails -/
theorem pput_any (lo pb mb : Nat) (tv : Value) (ts : List ByteArray) (x : ByteArray) (s : Nat → Addr) (w : World) (g : GlobP s w) (h : PoolAt lo w pb mb tv ts) :
    Calls Tryz.prog 43 #[.pointer (some ⟨pb, 0, none⟩), .string x] w fun r w' =>
      (10000 < x.size ∧ r = .returned (.tuple #[.int .i64 0, perr s 2]) ∧ Below w.heap.size w w') ∨
      (x.size ≤ 10000 ∧ ∃ i : Nat, ts[i]? = some x ∧ r = .returned (.tuple #[.int .i64 i, .nilIface]) ∧ w' = w) ∨
      (x.size ≤ 10000 ∧ x ∉ ts ∧ 1000 ≤ ts.length ∧ r = .returned (.tuple #[.int .i64 0, perr s 4]) ∧ Below w.heap.size w w') ∨
      (x.size ≤ 10000 ∧ x ∉ ts ∧ ts.length < 1000 ∧ r = .returned (.tuple #[.int .i64 ts.length, .nilIface]) ∧ ∃ tv', PoolAt lo w' pb mb tv' (ts ++ [x]) ∧ PKept w w' pb mb tv ∧ (tv'.ownBlock = tv.ownBlock ∨ ∃ k, w.heap.size ≤ k ∧ tv'.ownBlock = some k)) := by
  rcases Nat.lt_or_ge 10000 x.size with h1 | h1
  · refine Calls.mono (pput_long pb x s w g h1) ?_
    rintro r w' ⟨q1, q2⟩
    exact .inl ⟨h1, q1, q2⟩
  · by_cases hm : x ∈ ts
    · obtain ⟨i, hi⟩ := List.getElem?_of_mem hm
      refine Calls.mono (pput_old lo pb mb tv ts x i w h h1 hi) ?_
      rintro r w' ⟨q1, q2⟩
      exact .inr (.inl ⟨h1, i, hi, q1, q2⟩)
    · rcases Nat.lt_or_ge ts.length 1000 with h2 | h2
      · refine Calls.mono (pput_new lo pb mb tv ts x w h h1 hm h2) ?_
        rintro r w' ⟨q1, q2⟩
        exact .inr (.inr (.inr ⟨h1, hm, h2, q1, q2⟩))
      · refine Calls.mono (pput_full lo pb mb tv ts x s w g h h1 hm h2) ?_
        rintro r w' ⟨q1, q2⟩
        exact .inr (.inr (.inl ⟨h1, hm, h2, q1, q2⟩))

end Go.Proofs.YtkjfbeempmfipaaGreatDoor

/- strings.Builder: the library's contracts of WriteString and String, laid at this program. -/
namespace Go.Proofs
open Go.Shelf
def Tryz.plys166_ren : Go.Shelf.Ren := ⟨fun | 166 => 32 | 169 => 33 | 240 => 49 | 276 => 73 | n => n, fun | 9 => 9 | 3 => 3 | 4 => 4 | 0 => 0 | 20 => 20 | 72 => 68 | 70 => 65 | 37 => 66 | 75 => 30 | 164 => 101 | 5 => 5 | 80 => 62 | 127 => 99 | n => n, fun | n => n⟩
theorem Tryz.plys166 : Go.Proofs.Lays.n166 Tryz.prog Tryz.plys166_ren := {
  mixed := by kernel_rfl
  f166 := Tryz.func32.trans (congrArg some (by kernel_rfl))
  f240 := Tryz.func49.trans (congrArg some (by kernel_rfl))
  f276 := Tryz.func73.trans (congrArg some (by kernel_rfl))
  t0 := Tryz.underlying0
  a0 := Tryz.isAgg0
  z0 := Tryz.sizeOf0
  v0 := Tryz.zeroValue0
  t3 := Tryz.underlying3
  a3 := Tryz.isAgg3
  z3 := Tryz.sizeOf3
  v3 := Tryz.zeroValue3
  t4 := Tryz.underlying4
  a4 := Tryz.isAgg4
  z4 := Tryz.sizeOf4
  v4 := Tryz.zeroValue4
  t9 := Tryz.underlying9
  a9 := Tryz.isAgg9
  z9 := Tryz.sizeOf9
  v9 := Tryz.zeroValue9
  t20 := Tryz.underlying20
  a20 := Tryz.isAgg20
  z20 := Tryz.sizeOf20
  v20 := Tryz.zeroValue20
  t37 := Tryz.underlying66
  a37 := Tryz.isAgg66
  z37 := Tryz.sizeOf66
  v37 := Tryz.zeroValue66
  t70 := Tryz.underlying65
  a70 := Tryz.isAgg65
  z70 := Tryz.sizeOf65
  v70 := Tryz.zeroValue65
  t72 := Tryz.underlying68
  a72 := Tryz.isAgg68
  z72 := Tryz.sizeOf68
  v72 := Tryz.zeroValue68
  t75 := Tryz.underlying30
  a75 := Tryz.isAgg30
  z75 := Tryz.sizeOf30
  v75 := Tryz.zeroValue30
  t164 := Tryz.underlying101
  a164 := Tryz.isAgg101
  z164 := Tryz.sizeOf101
  v164 := Tryz.zeroValue101 }
theorem Tryz.plys169 : Go.Proofs.Lays.n169 Tryz.prog Tryz.plys166_ren := {
  mixed := by kernel_rfl
  f169 := Tryz.func33.trans (congrArg some (by kernel_rfl))
  t0 := Tryz.underlying0
  a0 := Tryz.isAgg0
  z0 := Tryz.sizeOf0
  v0 := Tryz.zeroValue0
  t3 := Tryz.underlying3
  a3 := Tryz.isAgg3
  z3 := Tryz.sizeOf3
  v3 := Tryz.zeroValue3
  t9 := Tryz.underlying9
  a9 := Tryz.isAgg9
  z9 := Tryz.sizeOf9
  v9 := Tryz.zeroValue9
  t37 := Tryz.underlying66
  a37 := Tryz.isAgg66
  z37 := Tryz.sizeOf66
  v37 := Tryz.zeroValue66
  t70 := Tryz.underlying65
  a70 := Tryz.isAgg65
  z70 := Tryz.sizeOf65
  v70 := Tryz.zeroValue65
  t72 := Tryz.underlying68
  a72 := Tryz.isAgg68
  z72 := Tryz.sizeOf68
  v72 := Tryz.zeroValue68
  t127 := Tryz.underlying99
  a127 := Tryz.isAgg99
  z127 := Tryz.sizeOf99
  v127 := Tryz.zeroValue99 }
theorem Tryz.Builder_Extra_pl : Builder.Extra Tryz.prog Tryz.plys166_ren := {
  sizeBuilder := by kernel_rfl
  liesBuilder := by kernel_rfl
  t5 := Tryz.underlying5
  a5 := Tryz.isAgg5
  z5 := Tryz.sizeOf5
  v5 := Tryz.zeroValue5
  infoByte := by kernel_rfl
  cellsByte := by kernel_rfl
  sizeByte := by kernel_rfl
  neB5 := by decide }
end Go.Proofs
namespace Go.Proofs.YtkjfbeempmfipaaGreatDoor
open Go Go.RowKit Go.Shelf Cal

theorem pb_step {T e : TypeId} {B b : Nat} {l : List Value} {w w' : World} (h : Lib.IsBuilderF T e B b l w) (hb : Below w.heap.size w w') : Lib.IsBuilderF T e B b l w' := by
  have key : ∀ p, Lib.BuilderAtF T e B b p l w → Lib.BuilderAtF T e B b p l w' := fun p ⟨h1, v, h2, h3, h4⟩ => ⟨h1, v, (hb.block _ (Array.getElem?_eq_some_iff.1 h2).1).trans h2, h3.kept (grown_below hb none) (by cases v.ownBlock <;> simp), h4⟩
  exact h.imp (key _) (key _)
/-- a builder (made behind w0) that holds acc -/
def PB (w0 : World) (acc : List UInt8) (W : World) : Prop := Below w0.heap.size w0 W ∧ w0.heap.size < W.heap.size ∧ Lib.IsBuilderF 68 5 w0.heap.size w0.heap.size (Lib.byteCells acc) W
theorem PB.new (w0 : World) : PB w0 [] (w0.alloc (.cells #[.pointer none, .slice none 0 0] 68)) := ⟨below_alloc _ _, by rw [World.size_alloc]; omega, Lib.IsBuilderF.of (Lib.fresh_isBuilder _ _ w0)⟩
theorem PB.step {w0 W W' : World} {acc : List UInt8} (h : PB w0 acc W) (hb : Below W.heap.size W W') : PB w0 acc W' := ⟨below_then h.1 hb, Nat.lt_of_lt_of_le h.2.1 hb.size, pb_step h.2.2 hb⟩
theorem pl_both {B : Nat} {a b c : World} (h : Below B a b) (k : Below B b c) : Below B a c := ⟨k.os.trans h.os, k.tape.trans h.tape, k.output.trans h.output, Nat.le_trans h.size k.size, fun i hi => (k.block i hi).trans (h.block i hi)⟩
theorem pwrite (w0 : World) (acc : List UInt8) (x : ByteArray) (W : World) (h : PB w0 acc W) (hl : acc.length + x.size ≤ 140737488355328) :
    Calls Tryz.prog 32 #[.pointer (some ⟨w0.heap.size, 0, none⟩), .string x] W fun r w' => r = .returned (.tuple #[.int .i64 x.size, .nilIface]) ∧ PB w0 (acc ++ x.data.toList) w' := by
  obtain ⟨h1, h2, h3⟩ := h
  refine Calls.mono (Any.Builder_WriteString_k Tryz.plys166 Tryz.Builder_Extra_pl w0.heap.size w0.heap.size (Lib.byteCells acc) x W h3 (by rw [Lib.byteCells_length]; exact hl) (by omega)) ?_
  rintro r w' ⟨rfl, k1, k2, k3⟩
  refine ⟨rfl, pl_both h1 k2, Nat.lt_of_lt_of_le h2 k2.size, .inr ?_⟩
  rw [Lib.byteCells_append, ← Lib.strCells_eq]
  exact k1
theorem pstring (w0 : World) (acc : List UInt8) (W : World) (h : PB w0 acc W) :
    Calls Tryz.prog 33 #[.pointer (some ⟨w0.heap.size, 0, none⟩)] W fun r w' => r = .returned (.string ⟨acc.toArray⟩) ∧ Below w0.heap.size w0 w' := by
  obtain ⟨h1, h2, h3⟩ := h
  refine Calls.mono (Any.Builder_String_any_k Tryz.plys169 Tryz.Builder_Extra_pl w0.heap.size w0.heap.size acc W h3 (by omega)) ?_
  rintro r w' ⟨rfl, k1, k2, k3⟩
  exact ⟨rfl, pl_both h1 k2⟩
end Go.Proofs.YtkjfbeempmfipaaGreatDoor
