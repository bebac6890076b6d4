/- Package book's Put. -/
import Derived.Test.YtmjojifhpglhoaaGreatDoorJkAI
import Derived.Deep.DeepCutAuto
import Derived.Lib.SliceRun
import Derived.Shelf.Abstract
import Derived.Shelf.SlIter.Nil
import Derived.Shelf.SortM.Plain
import Derived.Shelf.SortM.SortNone
import Derived.Test.YtmjojifhpglhoaaGreatDoorProg
import Derived.TacticsInMore
import Derived.Test.YtmjojifhpglhoaaGreatDoorJkAD
import Derived.Deep.LoopGhost
import Derived.Test.YtmjojifhpglhoaaGreatDoorJkAE
import Derived.Test.YtmjojifhpglhoaaGreatDoorJkAH
import Derived.BigRegionIn
import Derived.OrdersIn
namespace Go.Proofs.YtmjojifhpglhoaaGreatDoor
open Go Go.RowKit Go.Maps Cal
attribute [local go_sem] Oper.semAt_some

theorem look_eq {bb n : Nat} {mo : Option Nat} {D : DataW Value} {W : World} (h : Bok W bb mo n D) {id : ByteArray} (hid : id.size ≤ 1000) {u : Value} (hat : D.atKey (key id) (.held zV) = .held u) :
    (Instr.lookup 83 (.map mo) (.string id) true).run Tryz.prog W = .ok (.tuple #[u, .bool (Maps.has D (key id))]) W := by
  cases mo with
  | none =>
    have hD : D = .map [] := h.2
    subst hD
    have hu : zV = u := by
      have : (DataW.held zV : DataW Value) = .held u := hat
      cases this; rfl
    rw [← hu]
    exact Maps.look_nil true law Tryz.underlying83 (zeroE W) (key_of hid)
  | some mb =>
    obtain ⟨v, ps, hrun, hv⟩ := h.2.2.look_ok law Tryz.underlying83 (zeroE W) (zd := .held zV) (zp := []) rfl (key_of hid)
    have h1 := hld_inv hv
    rw [hat] at h1
    cases h1
    exact hrun
theorem len_eq {bb n : Nat} {mo : Option Nat} {D : DataW Value} {W : World} (h : Bok W bb mo n D) (ty : TypeId) : (Builtin.len_ #[83] ty #[.map mo]).run Tryz.prog W = .ok (.int .i64 (Maps.size D)) W := by
  cases mo with
  | none =>
    have hD : D = .map [] := h.2
    subst hD
    exact Maps.len_nil Tryz.underlying83 ty
  | some mb => exact h.2.2.len Tryz.underlying83 ty

set_option maxHeartbeats 2000000 in
set_option maxRecDepth 100000 in
/-- Put, up to where the event is kept -/
theorem put_of (bb n : Nat) (mo : Option Nat) (D : DataW Value) (E U : EV) (sl skv mvv : Value) (ua : Option Addr) (un uc : Nat) (va : Option Addr) (vn vc : Nat) (wa : Option Addr) (wn wd : Nat) (k : Int) (s : Nat → Addr) (w : World) (g : GlobK s w) (h : Bok w bb mo n D) (hn : n ≤ 100000) (hi : E.id.size ≤ 60) (ht : E.ti.size ≤ 60) (hL : Ls w E sl skv mvv) (hk : EvK E k)
    (hat : D.atKey (key E.id) (.held zV) = .held (ev U (.slice ua un uc) (.slice va vn vc) (.slice wa wn wd))) (R : World → Prop)
    (hkeep : k = 0 → ∀ W, Below w.heap.size w W → Calls Tryz.prog 44 #[.pointer (some ⟨bb, 0, none⟩), ev E sl skv mvv] W fun r w' => (∃ v, r = .returned v) ∧ R w') :
    Calls Tryz.prog 18 #[.pointer (some ⟨bb, 0, none⟩), ev E sl skv mvv] w fun r w' =>
      (k ≠ 0 ∧ r = .returned (errV s k) ∧ Below w.heap.size w w') ∨ (k = 0 ∧ (Maps.has D (key E.id) = false ∧ 60 ≤ Maps.size D) ∧ r = .returned (.iface 273 (.pointer (some (s 6)))) ∧ Below w.heap.size w w') ∨ (k = 0 ∧ ¬ (Maps.has D (key E.id) = false ∧ 60 ≤ Maps.size D) ∧ r = .returned .nilIface ∧ R w') := by
  have hA := below_alloc w (.cells #[.string E.id, .string E.ti, .int .i64 E.st, .int .i64 E.lg, .string E.f, .int .i64 E.e, sl, .int .i64 E.c, .int .i64 E.u, skv, mvv] 49)
  have kE := EB.new w E sl skv mvv
  have CK := evCheck_k E sl skv mvv k s _ (g.step hA) (hL.step hA).d (hL.step hA).s (hL.step hA).m hi ht hk
  have h0 := h.step hA
  have g0 := g.step hA
  have HKP : Hid (k = 0 → ∀ W, Below w.heap.size w W → Calls Tryz.prog 44 #[.pointer (some ⟨bb, 0, none⟩), ev E sl skv mvv] W fun r w' => (∃ v, r = .returned v) ∧ R w') := hkeep
  obtain ⟨ra, rc, rfl, _⟩ := hL.d
  obtain ⟨sa, sc, rfl, _⟩ := hL.s
  obtain ⟨ma, mc, rfl, _⟩ := hL.m
  unfold ev at CK HKP hat
  have HAT : Hid (D.atKey (key E.id) (.held zV) = .held (.agg #[.string U.id, .string U.ti, .int .i64 U.st, .int .i64 U.lg, .string U.f, .int .i64 U.e, .slice ua un uc, .int .i64 U.c, .int .i64 U.u, .slice va vn vc, .slice wa wn wd])) := hat
  have HCK : Hid (Calls _ _ _ _ _) := CK
  have HA : Hid (_) := hA
  have HB0 : Hid (Bok _ bb mo n D) := h0
  have HG0 : Hid (GlobK s _) := g0
  have KE : Hid (EB _ _ E (.slice ra E.ds.length rc) (.slice sa E.sk.length sc) (.slice ma E.mv.length mc)) := kE
  have hi2 : E.id.size ≤ 1000 := by omega
  have hsz : Maps.size D ≤ 100000 := by
    cases mo with
    | none => have hD : D = .map [] := h.2; subst hD; simp [Maps.size]
    | some mb => have := h.2.2.size_le; omega
  clear CK hA h0 g0 kE hat hkeep hL g h
  unfold ev
  generalize hw0 : w.alloc (.cells #[.string E.id, .string E.ti, .int .i64 E.st, .int .i64 E.lg, .string E.f, .int .i64 E.e, .slice ra E.ds.length rc, .int .i64 E.c, .int .i64 E.u, .slice sa E.sk.length sc, .slice ma E.mv.length mc] 49) = w0 at HCK HA HB0 HG0 KE
  obtain ⟨x0, x1, x2, x3, x4, x5, x6, x7, x8, x9, x10⟩ := blk11 (show w0.heap[w.heap.size]? = _ from KE.out)
  by_cases hk0 : k = 0
  case neg =>
    obtain ⟨p, hp⟩ := errV_ne (s := s) hk0
    rw [hp] at HCK
    have HP : Hid (errV s k = .iface 273 (.pointer (some p))) := hp
    have HK0 : Hid (k ≠ 0) := hk0
    clear hp hk0
    go_enter Tryz.func18, Tryz.ntmps18
    go_wp2_with (go_at_call 43; refine Calls.mono HCK.out ?_; rintro r w1 ⟨rfl, hb1⟩)
    go_ret
    exact .inl ⟨HK0.out, by rw [HP.out]; rfl, below_then HA.out hb1⟩
  case pos =>
    rw [hk0, errV_0] at HCK
    have HK0 : Hid (k = 0) := hk0
    clear hk0 hk
    go_enter Tryz.func18, Tryz.ntmps18
    go_upto_region 6 with (go_at_call 43; refine Calls.mono HCK.out ?_; rintro r w1 ⟨rfl, hb1⟩)
    have BW1 : Hid (Below w.heap.size w w1) := below_then HA.out hb1
    have HB1 : Hid (Bok w1 bb mo n D) := HB0.out.step hb1
    have HG1 : Hid (GlobK s w1) := HG0.out.step hb1
    have KE1 : Hid (EB w1 w.heap.size E (.slice ra E.ds.length rc) (.slice sa E.sk.length sc) (.slice ma E.mv.length mc)) := KE.out.step hb1
    clear hb1 HB0 HG0 KE HA HCK x0 x1 x2 x3 x4 x5 x6 x7 x8 x9 x10 hw0
    obtain ⟨x0, x1, x2, x3, x4, x5, x6, x7, x8, x9, x10⟩ := blk11 (show w1.heap[w.heap.size]? = _ from KE1.out)
    have cB := HB1.out.cell
    have KS : Hid (∀ W, Below w1.heap.size w1 W → Below w1.heap.size w1 W ∧ W.cell? ⟨bb, 0, none⟩ = some (.map mo) ∧ W.cell? ⟨w.heap.size, 0, none⟩ = some (.string E.id) ∧ (Instr.lookup 83 (.map mo) (.string E.id) true).run Tryz.prog W = .ok (.tuple #[.agg #[.string U.id, .string U.ti, .int .i64 U.st, .int .i64 U.lg, .string U.f, .int .i64 U.e, .slice ua un uc, .int .i64 U.c, .int .i64 U.u, .slice va vn vc, .slice wa wn wd], .bool (Maps.has D (key E.id))]) W) := fun W hW => ⟨hW, cell_step cB hW, cell_step x0 hW, look_eq (HB1.out.step hW) hi2 HAT.out⟩
    generalize hbh : Maps.has D (key E.id) = bh at KS
    have HBH : Hid (Maps.has D (key E.id) = bh) := hbh
    clear hbh
    go_cut [6, 7] (fun v6 v7 wx => v7 = .bool bh ∧ (∃ b : Nat, v6 = .pointer (some ⟨b, 0, none⟩)) ∧ Hid (Below w1.heap.size w1 wx))
    case first =>
      go_region_held3 (fun W => Below w1.heap.size w1 W ∧ W.cell? ⟨bb, 0, none⟩ = some (.map mo) ∧ W.cell? ⟨w.heap.size, 0, none⟩ = some (.string E.id) ∧ (Instr.lookup 83 (.map mo) (.string E.id) true).run Tryz.prog W = .ok (.tuple #[.agg #[.string U.id, .string U.ti, .int .i64 U.st, .int .i64 U.lg, .string U.f, .int .i64 U.e, .slice ua un uc, .int .i64 U.c, .int .i64 U.u, .slice va vn vc, .slice wa wn wd], .bool bh]) W) ((refine KS.out _ ?_; (first | with_reducible assumption | with_reducible exact drew_below _ | with_reducible exact below_then (below_alloc _ _) (drew_below _) | with_reducible exact below_then (drew_below _) (below_alloc _ _)))) (fail)
      all_goals
        go_wp2_with fail
        go_meet
        case rel => first | exact ⟨rfl, ⟨_, rfl⟩, below_then (below_alloc _ _) (drew_below _)⟩ | exact ⟨rfl, ⟨_, rfl⟩, below_then (drew_below _) (below_alloc _ _)⟩
    case rest =>
      obtain ⟨rfl, ⟨b6, rfl⟩, HBc⟩ := hcut
      have LN : ∀ ty, (Builtin.len_ #[83] ty #[.map mo]).run Tryz.prog wc = .ok (.int .i64 (Maps.size D)) wc := fun ty => len_eq (HB1.out.step HBc.out) ty
      have BWc : Hid (Below w.heap.size w wc) := below_then BW1.out HBc.out
      have cF := (HG1.out.step HBc.out).c6
      have KEc := KE1.out.step HBc.out
      have cBc := (HB1.out.step HBc.out).cell
      have HKc : Hid (Calls _ _ _ _ _) := HKP.out HK0.out wc BWc.out
      clear KS cB x0 x1 x2 x3 x4 x5 x6 x7 x8 x9 x10 HB1 HG1 KE1 BW1 HBc HAT HKP
      obtain ⟨x0, x1, x2, x3, x4, x5, x6, x7, x8, x9, x10⟩ := blk11 (show wc.heap[w.heap.size]? = _ from KEc)
      clear KEc
      cases bh with
      | true =>
        have HNF : Hid (¬ (Maps.has D (key E.id) = false ∧ 60 ≤ Maps.size D)) := by
          intro q
          have := HBH.out.symm.trans q.1
          cases this
        go_wp2_with (go_at_call 44; refine Calls.mono HKc.out ?_; rintro r w5 ⟨⟨v, rfl⟩, hr⟩)
        go_ret
        exact .inr (.inr ⟨HK0.out, HNF.out, rfl, hr⟩)
      | false =>
        by_cases h60 : 60 ≤ Maps.size D
        · have h60' : (60 : Int) ≤ (Maps.size D : Int) := by omega
          have H60 : Hid (60 ≤ Maps.size D) := h60
          clear h60 HKc
          generalize hgs : Maps.size D = sz at LN h60'
          clear hgs
          go_wp2
          go_ret
          exact .inr (.inl ⟨HK0.out, ⟨HBH.out, H60.out⟩, rfl, BWc.out⟩)
        · have h60' : (Maps.size D : Int) < 60 := by omega
          have HNF : Hid (¬ (Maps.has D (key E.id) = false ∧ 60 ≤ Maps.size D)) := by
            intro q
            exact h60 q.2
          clear h60
          generalize hgs : Maps.size D = sz at LN h60'
          clear hgs
          go_wp2_with (go_at_call 44; refine Calls.mono HKc.out ?_; rintro r w5 ⟨⟨v, rfl⟩, hr⟩)
          go_ret
          exact .inr (.inr ⟨HK0.out, HNF.out, rfl, hr⟩)
end Go.Proofs.YtmjojifhpglhoaaGreatDoor

/- Package book's Drop, where the event is not there. -/
namespace Go.Proofs.YtmjojifhpglhoaaGreatDoor
open Go Go.RowKit Go.Maps Cal
attribute [local go_sem] Oper.semAt_some

end Go.Proofs.YtmjojifhpglhoaaGreatDoor

/- slices.IndexFunc and DeleteFunc at texts, with a function that leaves what lay. -/
namespace Go.Proofs.YtmjojifhpglhoaaGreatDoor
open Go Go.RowKit Go.Maps Cal
attribute [local go_sem] Oper.semAt_some

/-- block B is a row of texts -/
structure RowS (W : World) (B cap : Nat) (l : List ByteArray) : Prop where
  ex : ∃ cur, W.heap[B]? = some (.cells cur 9 (0, 0)) ∧ cur.size = cap ∧ ∀ (j : Nat) (h : j < l.length), cur[j]? = some (.string l[j])
  le : l.length ≤ cap
theorem RowS.lt {W : World} {B cap : Nat} {l : List ByteArray} (h : RowS W B cap l) : B < W.heap.size := by
  obtain ⟨cur, h1, _⟩ := h.ex
  exact (Array.getElem?_eq_some_iff.1 h1).1
theorem RowS.cell {W : World} {B cap : Nat} {l : List ByteArray} (h : RowS W B cap l) (j : Nat) (hj : j < l.length) : W.cell? ⟨B, j, none⟩ = some (.string l[j]) := by
  obtain ⟨cur, h1, _, h3⟩ := h.ex
  simp [World.cell?, h1, h3 j hj]
theorem RowS.cold {W : World} {B cap : Nat} {l : List ByteArray} (h : RowS W B cap l) (j : Nat) : W.frozen? ⟨B, j, none⟩ = false := by
  obtain ⟨cur, h1, _⟩ := h.ex
  exact blk11_frozen h1 j
theorem RowS.step {W W' : World} {B cap : Nat} {l : List ByteArray} (h : RowS W B cap l) (hb : Below W.heap.size W W') : RowS W' B cap l := by
  have hlt := h.lt
  obtain ⟨⟨cur, h1, h2, h3⟩, h4⟩ := h
  exact ⟨⟨cur, (hb.block _ hlt).trans h1, h2, h3⟩, h4⟩
theorem RowS.set {W : World} {B cap : Nat} {l : List ByteArray} (h : RowS W B cap l) (i : Nat) (x : ByteArray) : RowS (W.setCell ⟨B, i, none⟩ (.string x)) B cap (l.set i x) := by
  obtain ⟨⟨cur, h1, h2, h3⟩, h4⟩ := h
  refine ⟨⟨_, set_block (i := i) _ h1, by simp [h2], fun j hj => ?_⟩, by simpa using h4⟩
  have hj' : j < l.length := by simpa using hj
  rw [Array.getElem?_setIfInBounds, List.getElem_set]
  by_cases e : i = j
  · subst e
    have : i < cur.size := by omega
    simp [this]
  · simp [e, h3 j hj']
theorem RowS.far {W : World} {B cap : Nat} {l : List ByteArray} (h : RowS W B cap l) (i : Nat) (hi : l.length ≤ i) (v : Value) : RowS (W.setCell ⟨B, i, none⟩ v) B cap l := by
  obtain ⟨⟨cur, h1, h2, h3⟩, h4⟩ := h
  refine ⟨⟨_, set_block (i := i) _ h1, by simp [h2], fun j hj => ?_⟩, h4⟩
  rw [Array.getElem?_setIfInBounds]
  have : i ≠ j := by omega
  simp [this, h3 j hj]
theorem RowS.fars {B cap : Nat} {l : List ByteArray} : ∀ (vs : List Value) (i : Nat) {W : World}, RowS W B cap l → l.length ≤ i → RowS (W.setCells B i vs) B cap l
  | [], _, _, h, _ => h
  | v :: r, i, _, h, hi => RowS.fars r (i + 1) (h.far i hi v) (by omega)
theorem grown_sets (B : Nat) : ∀ (vs : List Value) (i : Nat) (W : World), W.grownBy (W.setCells B i vs) (some B)
  | [], _, W => grown_below (Below.refl _ W) _
  | v :: r, i, W => grown_then (grown_set W ⟨B, i, none⟩ v) (grown_sets B r (i + 1) _)
theorem RowS.take {W : World} {B cap : Nat} {l : List ByteArray} (h : RowS W B cap l) (i : Nat) : RowS W B cap (l.take i) := by
  obtain ⟨⟨cur, h1, h2, h3⟩, h4⟩ := h
  refine ⟨⟨cur, h1, h2, fun j hj => ?_⟩, by rw [List.length_take]; omega⟩
  have hj' : j < l.length := by rw [List.length_take] at hj; omega
  rw [h3 j hj', List.getElem_take]

/-- the row while texts are dropped: what is kept of the first b lies ahead, the rest is as it was -/
structure Inv (l : List ByteArray) (p : ByteArray → Bool) (a b : Nat) (L : List ByteArray) : Prop where
  len : L.length = l.length
  ahead : L.take a = (l.take b).filter fun x => !p x
  rest : L.drop b = l.drop b
  fst : a < b
theorem Inv.get {l : List ByteArray} {p : ByteArray → Bool} {a b : Nat} {L : List ByteArray} (h : Inv l p a b L) (hb : b < l.length) : L[b]'(by rw [h.len]; exact hb) = l[b] := by
  have e := congrArg (fun z : List ByteArray => z[0]?) h.rest
  simp only [List.getElem?_drop, Nat.add_zero] at e
  rw [List.getElem?_eq_getElem hb, List.getElem?_eq_getElem (by rw [h.len]; exact hb)] at e
  exact Option.some.inj e
theorem drop_more {L l : List ByteArray} {b : Nat} (h : L.drop b = l.drop b) : L.drop (b + 1) = l.drop (b + 1) := by
  rw [← List.drop_drop, ← List.drop_drop, h]
theorem Inv.skip {l : List ByteArray} {p : ByteArray → Bool} {a b : Nat} {L : List ByteArray} (h : Inv l p a b L) (hb : b < l.length) (q : p l[b] = true) : Inv l p a (b + 1) L :=
  ⟨h.len, by rw [h.ahead, List.take_succ_eq_append_getElem hb, List.filter_append]; simp [q], drop_more h.rest, by have := h.fst; omega⟩
theorem Inv.keep {l : List ByteArray} {p : ByteArray → Bool} {a b : Nat} {L : List ByteArray} (h : Inv l p a b L) (hb : b < l.length) (q : p l[b] = false) : Inv l p (a + 1) (b + 1) (L.set a l[b]) := by
  have hf := h.fst
  have hl := h.len
  refine ⟨by simpa using hl, ?_, ?_, by omega⟩
  · rw [List.take_succ_eq_append_getElem (by rw [List.length_set]; omega), List.take_set_of_le (Nat.le_refl _), List.getElem_set_self, h.ahead, List.take_succ_eq_append_getElem hb, List.filter_append]
    simp [q]
  · rw [List.drop_set_of_lt (by omega)]
    exact drop_more h.rest
end Go.Proofs.YtmjojifhpglhoaaGreatDoor

/- slices.DeleteFunc at texts, with a function that leaves what lay. -/
namespace Go.Proofs.YtmjojifhpglhoaaGreatDoor
open Go Go.RowKit Go.Maps Cal
attribute [local go_sem] Oper.semAt_some

theorem Inv.start {l : List ByteArray} {p : ByteArray → Bool} {k : Nat} (hk : k < l.length) (q : p l[k] = true) (h : ∀ (j : Nat) (hj : j < l.length), j < k → p l[j] = false) : Inv l p k (k + 1) l := by
  refine ⟨rfl, ?_, rfl, Nat.lt_succ_self _⟩
  rw [List.take_succ_eq_append_getElem hk, List.filter_append]
  have : (l.take k).filter (fun x => !p x) = l.take k := by
    rw [List.filter_eq_self]
    intro x hx
    obtain ⟨j, hj, rfl⟩ := List.mem_iff_getElem.1 hx
    rw [List.length_take] at hj
    rw [List.getElem_take, h j (by omega) (by omega)]; rfl
  rw [this]
  simp [q]
theorem Inv.done {l : List ByteArray} {p : ByteArray → Bool} {a b : Nat} {L : List ByteArray} (h : Inv l p a b L) (hb : l.length ≤ b) : L.take a = l.filter fun x => !p x := by
  rw [h.ahead, List.take_of_length_le hb]

end Go.Proofs.YtmjojifhpglhoaaGreatDoor

/- The library's own contracts of slices.Sorted at what maps.Keys hands back, laid at this program. -/
namespace Go.Proofs
open Go.Shelf
def Tryz.keys38_ren : Go.Shelf.Ren := ⟨fun | 7 => 38 | 10 => 66 | n => n, fun | 23 => 83 | 26 => 9 | 3 => 49 | 28 => 81 | 0 => 0 | 27 => 80 | 33 => 114 | 4 => 4 | n => n, fun | n => n⟩
theorem Tryz.keys38 : Go.Proofs.SlLaysZ.n7 Tryz.prog Tryz.keys38_ren := {
  mixed := by kernel_rfl
  f7 := ⟨Tryz.f38.name, by decide, Tryz.func38.trans (congrArg some (by kernel_rfl))⟩
  f10 := ⟨Tryz.f66.name, by decide, Tryz.func66.trans (congrArg some (by kernel_rfl))⟩
  t0 := Tryz.underlying0
  a0 := Tryz.isAgg0
  z0 := Tryz.sizeOf0
  v0 := Tryz.zeroValue0
  t4 := Tryz.underlying4
  a4 := Tryz.isAgg4
  z4 := Tryz.sizeOf4
  v4 := Tryz.zeroValue4
  t23 := Tryz.underlying83
  a23 := Tryz.isAgg83
  z23 := Tryz.sizeOf83
  v23 := Tryz.zeroValue83
  t26 := Tryz.underlying9
  a26 := Tryz.isAgg9
  z26 := Tryz.sizeOf9
  v26 := Tryz.zeroValue9
  t27 := Tryz.underlying80
  a27 := Tryz.isAgg80
  z27 := Tryz.sizeOf80
  v27 := Tryz.zeroValue80
  t28 := Tryz.underlying81
  a28 := Tryz.isAgg81
  z28 := Tryz.sizeOf81
  v28 := Tryz.zeroValue81
  t33 := Tryz.underlying114
  a33 := Tryz.isAgg114
  z33 := Tryz.sizeOf114
  v33 := Tryz.zeroValue114 }
def Tryz.sorted37_ren : Go.Shelf.Ren := ⟨fun | 6 => 37 | 8 => 65 | 9 => 49 | 11 => 99 | 13 => 82 | 12 => 81 | 23 => 122 | 24 => 123 | 14 => 113 | 15 => 114 | 16 => 115 | 17 => 116 | 18 => 117 | 19 => 118 | 20 => 119 | 21 => 120 | 22 => 121 | 25 => 151 | 26 => 152 | 27 => 153 | 28 => 154 | 29 => 155 | 30 => 156 | 31 => 183 | n => n, fun | 26 => 9 | 28 => 81 | 24 => 42 | 0 => 0 | 3 => 3 | 37 => 126 | 48 => 159 | 50 => 161 | 4 => 4 | 40 => 152 | 39 => 151 | 45 => 156 | 5 => 5 | 9 => 9 | 51 => 185 | 55 => 189 | 57 => 216 | 58 => 133 | 33 => 114 | n => n, fun | n => n⟩
theorem Tryz.sorted37 : Go.Proofs.SlLaysZ.n6 Tryz.prog Tryz.sorted37_ren := {
  mixed := by kernel_rfl
  f6 := ⟨Tryz.f37.name, by decide, Tryz.func37.trans (congrArg some (by kernel_rfl))⟩
  f8 := ⟨Tryz.f65.name, by decide, Tryz.func65.trans (congrArg some (by kernel_rfl))⟩
  f11 := ⟨Tryz.f99.name, by decide, Tryz.func99.trans (congrArg some (by kernel_rfl))⟩
  t0 := Tryz.underlying0
  a0 := Tryz.isAgg0
  z0 := Tryz.sizeOf0
  v0 := Tryz.zeroValue0
  t24 := Tryz.underlying42
  a24 := Tryz.isAgg42
  z24 := Tryz.sizeOf42
  v24 := Tryz.zeroValue42
  t26 := Tryz.underlying9
  a26 := Tryz.isAgg9
  z26 := Tryz.sizeOf9
  v26 := Tryz.zeroValue9
  t28 := Tryz.underlying81
  a28 := Tryz.isAgg81
  z28 := Tryz.sizeOf81
  v28 := Tryz.zeroValue81
  i26 := by kernel_rfl }
def Tryz.sort49_ren : Go.Shelf.Ren := ⟨fun | 6 => 49 | 8 => 82 | 9 => 81 | 19 => 122 | 20 => 123 | 21 => 113 | 22 => 114 | 23 => 115 | 24 => 116 | 25 => 117 | 26 => 118 | 27 => 119 | 28 => 120 | 29 => 121 | 36 => 151 | 31 => 152 | 32 => 153 | 37 => 154 | 38 => 155 | 39 => 156 | 41 => 183 | n => n, fun | 27 => 42 | 29 => 9 | 3 => 3 | 32 => 126 | 26 => 42 | 0 => 0 | 44 => 159 | 46 => 161 | 4 => 4 | 36 => 152 | 35 => 151 | 41 => 156 | 5 => 5 | 9 => 9 | 53 => 185 | 57 => 189 | 63 => 216 | 64 => 133 | n => n, fun | n => n⟩
theorem Tryz.sort49 : Go.Proofs.SlLaysM.n6 Tryz.prog Tryz.sort49_ren := {
  mixed := by kernel_rfl
  f6 := ⟨Tryz.f49.name, by decide, Tryz.func49.trans (congrArg some (by kernel_rfl))⟩
  f8 := Tryz.func82.trans (congrArg some (by kernel_rfl))
  f9 := ⟨Tryz.f81.name, by decide, Tryz.func81.trans (congrArg some (by kernel_rfl))⟩
  f19 := Tryz.func122.trans (congrArg some (by kernel_rfl))
  f20 := Tryz.func123.trans (congrArg some (by kernel_rfl))
  f21 := ⟨Tryz.f113.name, by decide, Tryz.func113.trans (congrArg some (by kernel_rfl))⟩
  f22 := ⟨Tryz.f114.name, by decide, Tryz.func114.trans (congrArg some (by kernel_rfl))⟩
  f23 := ⟨Tryz.f115.name, by decide, Tryz.func115.trans (congrArg some (by kernel_rfl))⟩
  f24 := ⟨Tryz.f116.name, by decide, Tryz.func116.trans (congrArg some (by kernel_rfl))⟩
  f25 := ⟨Tryz.f117.name, by decide, Tryz.func117.trans (congrArg some (by kernel_rfl))⟩
  f26 := ⟨Tryz.f118.name, by decide, Tryz.func118.trans (congrArg some (by kernel_rfl))⟩
  f27 := ⟨Tryz.f119.name, by decide, Tryz.func119.trans (congrArg some (by kernel_rfl))⟩
  f28 := ⟨Tryz.f120.name, by decide, Tryz.func120.trans (congrArg some (by kernel_rfl))⟩
  f29 := ⟨Tryz.f121.name, by decide, Tryz.func121.trans (congrArg some (by kernel_rfl))⟩
  f31 := Tryz.func152.trans (congrArg some (by kernel_rfl))
  f32 := Tryz.func153.trans (congrArg some (by kernel_rfl))
  f36 := ⟨Tryz.f151.name, by decide, Tryz.func151.trans (congrArg some (by kernel_rfl))⟩
  f37 := ⟨Tryz.f154.name, by decide, Tryz.func154.trans (congrArg some (by kernel_rfl))⟩
  f38 := ⟨Tryz.f155.name, by decide, Tryz.func155.trans (congrArg some (by kernel_rfl))⟩
  f39 := ⟨Tryz.f156.name, by decide, Tryz.func156.trans (congrArg some (by kernel_rfl))⟩
  f41 := ⟨Tryz.f183.name, by decide, Tryz.func183.trans (congrArg some (by kernel_rfl))⟩
  t0 := Tryz.underlying0
  a0 := Tryz.isAgg0
  z0 := Tryz.sizeOf0
  v0 := Tryz.zeroValue0
  t3 := Tryz.underlying3
  a3 := Tryz.isAgg3
  z3 := Tryz.sizeOf3
  v3 := Tryz.zeroValue3
  t4 := Tryz.underlying4
  a4 := Tryz.isAgg4
  z4 := Tryz.sizeOf4
  v4 := Tryz.zeroValue4
  t5 := Tryz.underlying5
  a5 := Tryz.isAgg5
  z5 := Tryz.sizeOf5
  v5 := Tryz.zeroValue5
  t9 := Tryz.underlying9
  a9 := Tryz.isAgg9
  z9 := Tryz.sizeOf9
  v9 := Tryz.zeroValue9
  t26 := Tryz.underlying42
  a26 := Tryz.isAgg42
  z26 := Tryz.sizeOf42
  v26 := Tryz.zeroValue42
  t27 := Tryz.underlying42
  a27 := Tryz.isAgg42
  z27 := Tryz.sizeOf42
  v27 := Tryz.zeroValue42
  t29 := Tryz.underlying9
  a29 := Tryz.isAgg9
  z29 := Tryz.sizeOf9
  v29 := Tryz.zeroValue9
  t32 := Tryz.underlying126
  a32 := Tryz.isAgg126
  z32 := Tryz.sizeOf126
  v32 := Tryz.zeroValue126
  t35 := Tryz.underlying151
  a35 := Tryz.isAgg151
  z35 := Tryz.sizeOf151
  v35 := Tryz.zeroValue151
  t36 := Tryz.underlying152
  a36 := Tryz.isAgg152
  z36 := Tryz.sizeOf152
  v36 := Tryz.zeroValue152
  t41 := Tryz.underlying156
  a41 := Tryz.isAgg156
  z41 := Tryz.sizeOf156
  v41 := Tryz.zeroValue156
  t44 := Tryz.underlying159
  a44 := Tryz.isAgg159
  z44 := Tryz.sizeOf159
  v44 := Tryz.zeroValue159
  t46 := Tryz.underlying161
  a46 := Tryz.isAgg161
  z46 := Tryz.sizeOf161
  v46 := Tryz.zeroValue161
  t53 := Tryz.underlying185
  a53 := Tryz.isAgg185
  z53 := Tryz.sizeOf185
  v53 := Tryz.zeroValue185
  t57 := Tryz.underlying189
  a57 := Tryz.isAgg189
  z57 := Tryz.sizeOf189
  v57 := Tryz.zeroValue189
  t63 := Tryz.underlying216
  a63 := Tryz.isAgg216
  z63 := Tryz.sizeOf216
  v63 := Tryz.zeroValue216
  t64 := Tryz.underlying133
  a64 := Tryz.isAgg133
  z64 := Tryz.sizeOf133
  v64 := Tryz.zeroValue133 }
open Go.RowKit Go.Maps Go.Sort
theorem Tryz.sorts37 (m : Nat) : AnyZ.SortsIn Tryz.prog Tryz.sorted37_ren Fence.wide m :=
  ⟨fun blk off cap ss W hH hblk hsz => callsIn_wide.2 (AnyM.slices_Sort_string Tryz.sort49 blk off cap ss W hH hblk hsz),
   fun p cap W => callsIn_wide.2 (AnyM.slices_Sort_string_none Tryz.sort49 p cap W)⟩

theorem Tryz.maps_Keys_38 (mb : Option Nat) (W : World) : CallsIn Fence.wide 5 Tryz.prog 38 #[.map mb] W fun e w' => e = .returned (.func (.func 66) #[] #[.pointer (some ⟨W.heap.size, 0, none⟩)]) ∧ w' = W.alloc (.cells #[.map mb] 83) :=
  AnyZ.keys_in Tryz.keys38 Fence.wide 5 trivial rfl mb W

set_option maxHeartbeats 1000000 in
theorem Tryz.slices_Sorted_keys_37_38 {H : Type} (b nn : Nat) (D0 : DataW H) (R : Value → Option (DataW H × List MemPlace)) (w : World) (hown : w.ownsMap Tryz.prog 9 R b nn D0) (hmax : Maps.size D0 ≤ maxLen) (hbytes : Maps.size D0 * 16 ≤ 140737488355328) :
    CallsIn Fence.wide 5 Tryz.prog 37 #[.func (.func 66) #[] #[.pointer (some ⟨w.heap.size, 0, none⟩)]] (w.alloc (.cells #[.map (some b)] 83)) fun e w' => ∃ (v : Value) (ss : List (List UInt8)), e = .returned v ∧ ss.Perm (strKeys D0) ∧
      w'.ownsRow (w.alloc (.cells #[.map (some b)] 83)).heap.size 9 1 v ss.length ((ss.mergeSort (fun x y => decide (x ≤ y))).map encStr) ∧ (v = .slice none 0 0 ↔ ss = []) ∧ Below (w.alloc (.cells #[.map (some b)] 83)).heap.size (w.alloc (.cells #[.map (some b)] 83)) w' := by
  have hbl := hown.lt
  have hseq : SeqGives Fence.wide 2 Tryz.prog 66 #[.pointer (some ⟨w.heap.size, 0, none⟩)] encStr (fun ss => ss.Perm (strKeys D0)) (Maps.size D0) (w.alloc (.cells #[.map (some b)] 83)) :=
    AnyZ.keys_gives (ρ := Tryz.keys38_ren) { Tryz.keys38 with } Fence.wide _ trivial rfl (by omega) w.heap.size b nn D0 _ (by simp) (by simp) (by
      obtain ⟨es, clock, hb, Ft, hs, hD⟩ := hown
      exact ⟨es, clock, (Below.heap_alloc _ _ b hbl).trans hb, Ft, hs, hD⟩)
  exact AnyZ.sorted_in Tryz.sorted37 Fence.wide 5 trivial trivial trivial trivial rfl (by omega) (Tryz.sorts37 _) (enters_of Tryz.func49 (by kernel_rfl) rfl) 66 #[.pointer (some ⟨w.heap.size, 0, none⟩)] trivial (enters_of Tryz.func66 (by kernel_rfl) rfl) _ _ hmax hbytes _ hseq

set_option maxHeartbeats 1000000 in
theorem Tryz.slices_Sorted_keys_nil_37_38 (w : World) :
    CallsIn Fence.wide 5 Tryz.prog 37 #[.func (.func 66) #[] #[.pointer (some ⟨w.heap.size, 0, none⟩)]] (w.alloc (.cells #[.map none] 83)) fun e w' => ∃ (v : Value) (ss : List (List UInt8)), e = .returned v ∧ ss = [] ∧
      w'.ownsRow (w.alloc (.cells #[.map none] 83)).heap.size 9 1 v ss.length ((ss.mergeSort (fun x y => decide (x ≤ y))).map encStr) ∧ (v = .slice none 0 0 ↔ ss = []) ∧ Below (w.alloc (.cells #[.map none] 83)).heap.size (w.alloc (.cells #[.map none] 83)) w' := by
  have hseq : SeqGives Fence.wide 2 Tryz.prog 66 #[.pointer (some ⟨w.heap.size, 0, none⟩)] encStr (fun ss : List (List UInt8) => ss = []) 0 (w.alloc (.cells #[.map none] 83)) :=
    AnyZ.keys_gives_nil (ρ := Tryz.keys38_ren) { Tryz.keys38 with } Fence.wide _ trivial rfl w.heap.size _ (by simp) (by simp)
  exact AnyZ.sorted_in Tryz.sorted37 Fence.wide 5 trivial trivial trivial trivial rfl (by omega) (Tryz.sorts37 _) (enters_of Tryz.func49 (by kernel_rfl) rfl) 66 #[.pointer (some ⟨w.heap.size, 0, none⟩)] trivial (enters_of Tryz.func66 (by kernel_rfl) rfl) _ 0 (Nat.zero_le _) (by omega) _ hseq
end Go.Proofs

/- Package book's IDs, Get and Drop. -/
namespace Go.Proofs.YtmjojifhpglhoaaGreatDoor
open Go Go.RowKit Go.Maps Go.Sort Cal
attribute [local go_sem] Oper.semAt_some

set_option maxHeartbeats 1000000 in
theorem ids_any (bb : Nat) (mo : Option Nat) (n : Nat) (D : DataW Value) (w : World) (h : Bok w bb mo n D) (hn : n ≤ 100000) :
    Calls Tryz.prog 14 #[.pointer (some ⟨bb, 0, none⟩)] w fun r w' => ∃ (v : Value) (ss : List (List UInt8)), r = .returned v ∧ ss.Perm (strKeys D) ∧ w'.ownsRow w.heap.size 9 1 v ss.length ((ss.mergeSort (fun x y => decide (x ≤ y))).map encStr) ∧ Below w.heap.size w w' := by
  have AL : Hid (Calls _ _ _ _ _) := all_any bb mo n D w h
  obtain ⟨h1, h2⟩ := h
  clear h1
  cases mo with
  | none =>
    subst h2
    have SK := Tryz.slices_Sorted_keys_nil_37_38 w
    have HK : Hid (CallsIn _ _ _ _ _ _ _) := SK
    clear SK
    refine (callsIn_wide (n := 6)).1 ?_
    have hfK : Fence.wide.fn 38 := trivial
    have hfS : Fence.wide.fn 37 := trivial
    have hfA : Fence.wide.fn 39 := trivial
    refine callsIn_of_wp Tryz.func14 rfl trivial ?_ rfl
    simp only [Tryz.ntmps14, List.size_toArray, List.length_cons, List.length_nil, Nat.reduceAdd, Nat.reduceSub, Array.replicate_succ, Array.replicate_zero, List.push_toArray, List.append_toArray, List.nil_append, List.cons_append]
    gi_wp2_with (first
      | (gi_at_call 39; refine (callsIn_wide.2 AL.out).mono ?_; rintro r w' ⟨rfl, rfl⟩)
      | (gi_at_call 38; refine (Tryz.maps_Keys_38 _ _).mono ?_; rintro e w' ⟨rfl, rfl⟩)
      | (gi_at_call 37; refine CallsIn.mono HK.out ?_; rintro e w' ⟨v, ss, rfl, hS, hrow, hnil, hb⟩))
    go_ret
    exact ⟨v, ss, rfl, by rw [hS]; rfl, own_base hrow (by rw [World.size_alloc]; omega), below_then (below_alloc _ _) hb⟩
  | some mb =>
    obtain ⟨_, hown⟩ := h2
    have hsz := hown.size_le
    have SK := Tryz.slices_Sorted_keys_37_38 mb n D hld w hown (by unfold maxLen; omega) (by omega)
    have HK : Hid (CallsIn _ _ _ _ _ _ _) := SK
    clear SK
    refine (callsIn_wide (n := 6)).1 ?_
    have hfK : Fence.wide.fn 38 := trivial
    have hfS : Fence.wide.fn 37 := trivial
    have hfA : Fence.wide.fn 39 := trivial
    refine callsIn_of_wp Tryz.func14 rfl trivial ?_ rfl
    simp only [Tryz.ntmps14, List.size_toArray, List.length_cons, List.length_nil, Nat.reduceAdd, Nat.reduceSub, Array.replicate_succ, Array.replicate_zero, List.push_toArray, List.append_toArray, List.nil_append, List.cons_append]
    gi_wp2_with (first
      | (gi_at_call 39; refine (callsIn_wide.2 AL.out).mono ?_; rintro r w' ⟨rfl, rfl⟩)
      | (gi_at_call 38; refine (Tryz.maps_Keys_38 _ _).mono ?_; rintro e w' ⟨rfl, rfl⟩)
      | (gi_at_call 37; refine CallsIn.mono HK.out ?_; rintro e w' ⟨v, ss, rfl, hS, hrow, hnil, hb⟩))
    go_ret
    exact ⟨v, ss, rfl, hS, own_base hrow (by rw [World.size_alloc]; omega), below_then (below_alloc _ _) hb⟩
end Go.Proofs.YtmjojifhpglhoaaGreatDoor

/- Lists that are searched: slices.BinarySearch over rising numbers, BinarySearchFunc over moves, and package event's movedTo. -/
namespace Go.Proofs.YtmjojifhpglhoaaGreatDoor
open Go Go.RowKit Cal
attribute [local go_sem] Oper.semAt_some

end Go.Proofs.YtmjojifhpglhoaaGreatDoor

/- The days of an event that is well, as package event's daysUpTo gives them. -/
namespace Go.Proofs.YtmjojifhpglhoaaGreatDoor
open Go Go.RowKit Go.Shelf Cal
attribute [local go_sem] Oper.semAt_some

end Go.Proofs.YtmjojifhpglhoaaGreatDoor
