/- Package book's Put. -/
import Derived.Test.YtekminpoiokgfaaGreatDoorYaI
import Derived.Deep.DeepCutAuto
import Derived.Lib.SliceRun
import Derived.Shelf.Abstract
import Derived.Shelf.SlIter.Nil
import Derived.Shelf.SortM.Plain
import Derived.Shelf.SortM.SortNone
import Derived.Test.YtekminpoiokgfaaGreatDoorProg
import Derived.TacticsInMore
import Derived.Test.YtekminpoiokgfaaGreatDoorYaD
import Derived.Deep.LoopGhost
import Derived.Test.YtekminpoiokgfaaGreatDoorYaE
import Derived.Test.YtekminpoiokgfaaGreatDoorYaH
import Derived.BigRegionIn
import Derived.OrdersIn
namespace Go.Proofs.YtekminpoiokgfaaGreatDoor
open Go Go.RowKit Go.Maps Cal
attribute [local go_sem] Oper.semAt_some

theorem look_eq {bb n : Nat} {mo : Option Nat} {D : DataW Value} {W : World} (h : Bok W bb mo n D) {id : ByteArray} (hid : id.size ≤ 1000) {u : Value} (hat : D.atKey (key id) (.held zV) = .held u) :
    (Instr.lookup 67 (.map mo) (.string id) true).run Tryz.prog W = .ok (.tuple #[u, .bool (Maps.has D (key id))]) W := by
  cases mo with
  | none =>
    have hD : D = .map [] := h.2
    subst hD
    have hu : zV = u := by
      have : (DataW.held zV : DataW Value) = .held u := hat
      cases this; rfl
    rw [← hu]
    exact Maps.look_nil true law Tryz.underlying67 (zeroE W) (key_of hid)
  | some mb =>
    obtain ⟨v, ps, hrun, hv⟩ := h.2.2.look_ok law Tryz.underlying67 (zeroE W) (zd := .held zV) (zp := []) rfl (key_of hid)
    have h1 := hld_inv hv
    rw [hat] at h1
    cases h1
    exact hrun
theorem len_eq {bb n : Nat} {mo : Option Nat} {D : DataW Value} {W : World} (h : Bok W bb mo n D) (ty : TypeId) : (Builtin.len_ #[67] ty #[.map mo]).run Tryz.prog W = .ok (.int .i64 (Maps.size D)) W := by
  cases mo with
  | none =>
    have hD : D = .map [] := h.2
    subst hD
    exact Maps.len_nil Tryz.underlying67 ty
  | some mb => exact h.2.2.len Tryz.underlying67 ty

set_option maxHeartbeats 2000000 in
set_option maxRecDepth 100000 in
/-- Put, up to where the event is kept -/
theorem put_of (bb n : Nat) (mo : Option Nat) (D : DataW Value) (E U : EV) (sl skv mvv : Value) (ua : Option Addr) (un uc : Nat) (va : Option Addr) (vn vc : Nat) (wa : Option Addr) (wn wd : Nat) (k : Int) (s : Nat → Addr) (w : World) (g : GlobK s w) (h : Bok w bb mo n D) (hn : n ≤ 100000) (hi : E.id.size ≤ 60) (ht : E.ti.size ≤ 60) (hL : Ls w E sl skv mvv) (hk : EvK E k)
    (hat : D.atKey (key E.id) (.held zV) = .held (ev U (.slice ua un uc) (.slice va vn vc) (.slice wa wn wd))) (R : World → Prop)
    (hkeep : k = 0 → ∀ W, Below w.heap.size w W → Calls Tryz.prog 31 #[.pointer (some ⟨bb, 0, none⟩), ev E sl skv mvv] W fun r w' => (∃ v, r = .returned v) ∧ R w') :
    Calls Tryz.prog 14 #[.pointer (some ⟨bb, 0, none⟩), ev E sl skv mvv] w fun r w' =>
      (k ≠ 0 ∧ r = .returned (errV s k) ∧ Below w.heap.size w w') ∨ (k = 0 ∧ (Maps.has D (key E.id) = false ∧ 60 ≤ Maps.size D) ∧ r = .returned (.iface 250 (.pointer (some (s 6)))) ∧ Below w.heap.size w w') ∨ (k = 0 ∧ ¬ (Maps.has D (key E.id) = false ∧ 60 ≤ Maps.size D) ∧ r = .returned .nilIface ∧ R w') := by
  have hA := below_alloc w (.cells #[.string E.id, .string E.ti, .int .i64 E.st, .int .i64 E.lg, .string E.f, .int .i64 E.e, sl, .int .i64 E.c, .int .i64 E.u, skv, mvv] 44)
  have kE := EB.new w E sl skv mvv
  have CK := evCheck_k E sl skv mvv k s _ (g.step hA) (hL.step hA).d (hL.step hA).s (hL.step hA).m hi ht hk
  have h0 := h.step hA
  have g0 := g.step hA
  have HKP : Hid (k = 0 → ∀ W, Below w.heap.size w W → Calls Tryz.prog 31 #[.pointer (some ⟨bb, 0, none⟩), ev E sl skv mvv] W fun r w' => (∃ v, r = .returned v) ∧ R w') := hkeep
  obtain ⟨ra, rc, rfl, _⟩ := hL.d
  obtain ⟨sa, sc, rfl, _⟩ := hL.s
  obtain ⟨ma, mc, rfl, _⟩ := hL.m
  unfold ev at CK HKP hat
  have HAT : Hid (D.atKey (key E.id) (.held zV) = .held (.agg #[.string U.id, .string U.ti, .int .i64 U.st, .int .i64 U.lg, .string U.f, .int .i64 U.e, .slice ua un uc, .int .i64 U.c, .int .i64 U.u, .slice va vn vc, .slice wa wn wd])) := hat
  have HCK : Hid (Calls _ _ _ _ _) := CK
  have HA : Hid (_) := hA
  have HB0 : Hid (Bok _ bb mo n D) := h0
  have HG0 : Hid (GlobK s _) := g0
  have KE : Hid (EB _ _ E (.slice ra E.ds.length rc) (.slice sa E.sk.length sc) (.slice ma E.mv.length mc)) := kE
  have hi2 : E.id.size ≤ 1000 := by omega
  have hsz : Maps.size D ≤ 100000 := by
    cases mo with
    | none => have hD : D = .map [] := h.2; subst hD; simp [Maps.size]
    | some mb => have := h.2.2.size_le; omega
  clear CK hA h0 g0 kE hat hkeep hL g h
  unfold ev
  generalize hw0 : w.alloc (.cells #[.string E.id, .string E.ti, .int .i64 E.st, .int .i64 E.lg, .string E.f, .int .i64 E.e, .slice ra E.ds.length rc, .int .i64 E.c, .int .i64 E.u, .slice sa E.sk.length sc, .slice ma E.mv.length mc] 44) = w0 at HCK HA HB0 HG0 KE
  obtain ⟨x0, x1, x2, x3, x4, x5, x6, x7, x8, x9, x10⟩ := blk11 (show w0.heap[w.heap.size]? = _ from KE.out)
  by_cases hk0 : k = 0
  case neg =>
    obtain ⟨p, hp⟩ := errV_ne (s := s) hk0
    rw [hp] at HCK
    have HP : Hid (errV s k = .iface 250 (.pointer (some p))) := hp
    have HK0 : Hid (k ≠ 0) := hk0
    clear hp hk0
    go_enter Tryz.func14, Tryz.ntmps14
    go_wp2_with (go_at_call 30; refine Calls.mono HCK.out ?_; rintro r w1 ⟨rfl, hb1⟩)
    go_ret
    exact .inl ⟨HK0.out, by rw [HP.out]; rfl, below_then HA.out hb1⟩
  case pos =>
    rw [hk0, errV_0] at HCK
    have HK0 : Hid (k = 0) := hk0
    clear hk0 hk
    go_enter Tryz.func14, Tryz.ntmps14
    go_upto_region 6 with (go_at_call 30; refine Calls.mono HCK.out ?_; rintro r w1 ⟨rfl, hb1⟩)
    have BW1 : Hid (Below w.heap.size w w1) := below_then HA.out hb1
    have HB1 : Hid (Bok w1 bb mo n D) := HB0.out.step hb1
    have HG1 : Hid (GlobK s w1) := HG0.out.step hb1
    have KE1 : Hid (EB w1 w.heap.size E (.slice ra E.ds.length rc) (.slice sa E.sk.length sc) (.slice ma E.mv.length mc)) := KE.out.step hb1
    clear hb1 HB0 HG0 KE HA HCK x0 x1 x2 x3 x4 x5 x6 x7 x8 x9 x10 hw0
    obtain ⟨x0, x1, x2, x3, x4, x5, x6, x7, x8, x9, x10⟩ := blk11 (show w1.heap[w.heap.size]? = _ from KE1.out)
    have cB := HB1.out.cell
    have KS : Hid (∀ W, Below w1.heap.size w1 W → Below w1.heap.size w1 W ∧ W.cell? ⟨bb, 0, none⟩ = some (.map mo) ∧ W.cell? ⟨w.heap.size, 0, none⟩ = some (.string E.id) ∧ (Instr.lookup 67 (.map mo) (.string E.id) true).run Tryz.prog W = .ok (.tuple #[.agg #[.string U.id, .string U.ti, .int .i64 U.st, .int .i64 U.lg, .string U.f, .int .i64 U.e, .slice ua un uc, .int .i64 U.c, .int .i64 U.u, .slice va vn vc, .slice wa wn wd], .bool (Maps.has D (key E.id))]) W) := fun W hW => ⟨hW, cell_step cB hW, cell_step x0 hW, look_eq (HB1.out.step hW) hi2 HAT.out⟩
    generalize hbh : Maps.has D (key E.id) = bh at KS
    have HBH : Hid (Maps.has D (key E.id) = bh) := hbh
    clear hbh
    go_cut [6, 7] (fun v6 v7 wx => v7 = .bool bh ∧ (∃ b : Nat, v6 = .pointer (some ⟨b, 0, none⟩)) ∧ Hid (Below w1.heap.size w1 wx))
    case first =>
      go_region_held3 (fun W => Below w1.heap.size w1 W ∧ W.cell? ⟨bb, 0, none⟩ = some (.map mo) ∧ W.cell? ⟨w.heap.size, 0, none⟩ = some (.string E.id) ∧ (Instr.lookup 67 (.map mo) (.string E.id) true).run Tryz.prog W = .ok (.tuple #[.agg #[.string U.id, .string U.ti, .int .i64 U.st, .int .i64 U.lg, .string U.f, .int .i64 U.e, .slice ua un uc, .int .i64 U.c, .int .i64 U.u, .slice va vn vc, .slice wa wn wd], .bool bh]) W) ((refine KS.out _ ?_; (first | with_reducible assumption | with_reducible exact drew_below _ | with_reducible exact below_then (below_alloc _ _) (drew_below _) | with_reducible exact below_then (drew_below _) (below_alloc _ _)))) (fail)
      all_goals
        go_wp2_with fail
        go_meet
        case rel => first | exact ⟨rfl, ⟨_, rfl⟩, below_then (below_alloc _ _) (drew_below _)⟩ | exact ⟨rfl, ⟨_, rfl⟩, below_then (drew_below _) (below_alloc _ _)⟩
    case rest =>
      obtain ⟨rfl, ⟨b6, rfl⟩, HBc⟩ := hcut
      have LN : ∀ ty, (Builtin.len_ #[67] ty #[.map mo]).run Tryz.prog wc = .ok (.int .i64 (Maps.size D)) wc := fun ty => len_eq (HB1.out.step HBc.out) ty
      have BWc : Hid (Below w.heap.size w wc) := below_then BW1.out HBc.out
      have cF := (HG1.out.step HBc.out).c6
      have KEc := KE1.out.step HBc.out
      have cBc := (HB1.out.step HBc.out).cell
      have HKc : Hid (Calls _ _ _ _ _) := HKP.out HK0.out wc BWc.out
      clear KS cB x0 x1 x2 x3 x4 x5 x6 x7 x8 x9 x10 HB1 HG1 KE1 BW1 HBc HAT HKP
      obtain ⟨x0, x1, x2, x3, x4, x5, x6, x7, x8, x9, x10⟩ := blk11 (show wc.heap[w.heap.size]? = _ from KEc)
      clear KEc
      cases bh with
      | true =>
        have HNF : Hid (¬ (Maps.has D (key E.id) = false ∧ 60 ≤ Maps.size D)) := by
          intro q
          have := HBH.out.symm.trans q.1
          cases this
        go_wp2_with (go_at_call 31; refine Calls.mono HKc.out ?_; rintro r w5 ⟨⟨v, rfl⟩, hr⟩)
        go_ret
        exact .inr (.inr ⟨HK0.out, HNF.out, rfl, hr⟩)
      | false =>
        by_cases h60 : 60 ≤ Maps.size D
        · have h60' : (60 : Int) ≤ (Maps.size D : Int) := by omega
          have H60 : Hid (60 ≤ Maps.size D) := h60
          clear h60 HKc
          generalize hgs : Maps.size D = sz at LN h60'
          clear hgs
          go_wp2
          go_ret
          exact .inr (.inl ⟨HK0.out, ⟨HBH.out, H60.out⟩, rfl, BWc.out⟩)
        · have h60' : (Maps.size D : Int) < 60 := by omega
          have HNF : Hid (¬ (Maps.has D (key E.id) = false ∧ 60 ≤ Maps.size D)) := by
            intro q
            exact h60 q.2
          clear h60
          generalize hgs : Maps.size D = sz at LN h60'
          clear hgs
          go_wp2_with (go_at_call 31; refine Calls.mono HKc.out ?_; rintro r w5 ⟨⟨v, rfl⟩, hr⟩)
          go_ret
          exact .inr (.inr ⟨HK0.out, HNF.out, rfl, hr⟩)
end Go.Proofs.YtekminpoiokgfaaGreatDoor

/- Package book's Drop, where the event is not there. -/
namespace Go.Proofs.YtekminpoiokgfaaGreatDoor
open Go Go.RowKit Go.Maps Cal
attribute [local go_sem] Oper.semAt_some

end Go.Proofs.YtekminpoiokgfaaGreatDoor

/- slices.IndexFunc and DeleteFunc at texts, with a function that leaves what lay. -/
namespace Go.Proofs.YtekminpoiokgfaaGreatDoor
open Go Go.RowKit Go.Maps Cal
attribute [local go_sem] Oper.semAt_some

/-- block B is a row of texts -/
structure RowS (W : World) (B cap : Nat) (l : List ByteArray) : Prop where
  ex : ∃ cur, W.heap[B]? = some (.cells cur 9 (0, 0)) ∧ cur.size = cap ∧ ∀ (j : Nat) (h : j < l.length), cur[j]? = some (.string l[j])
  le : l.length ≤ cap
theorem RowS.lt {W : World} {B cap : Nat} {l : List ByteArray} (h : RowS W B cap l) : B < W.heap.size := by
  obtain ⟨cur, h1, _⟩ := h.ex
  exact (Array.getElem?_eq_some_iff.1 h1).1
theorem RowS.cell {W : World} {B cap : Nat} {l : List ByteArray} (h : RowS W B cap l) (j : Nat) (hj : j < l.length) : W.cell? ⟨B, j, none⟩ = some (.string l[j]) := by
  obtain ⟨cur, h1, _, h3⟩ := h.ex
  simp [World.cell?, h1, h3 j hj]
theorem RowS.cold {W : World} {B cap : Nat} {l : List ByteArray} (h : RowS W B cap l) (j : Nat) : W.frozen? ⟨B, j, none⟩ = false := by
  obtain ⟨cur, h1, _⟩ := h.ex
  exact blk11_frozen h1 j
theorem RowS.step {W W' : World} {B cap : Nat} {l : List ByteArray} (h : RowS W B cap l) (hb : Below W.heap.size W W') : RowS W' B cap l := by
  have hlt := h.lt
  obtain ⟨⟨cur, h1, h2, h3⟩, h4⟩ := h
  exact ⟨⟨cur, (hb.block _ hlt).trans h1, h2, h3⟩, h4⟩
theorem RowS.set {W : World} {B cap : Nat} {l : List ByteArray} (h : RowS W B cap l) (i : Nat) (x : ByteArray) : RowS (W.setCell ⟨B, i, none⟩ (.string x)) B cap (l.set i x) := by
  obtain ⟨⟨cur, h1, h2, h3⟩, h4⟩ := h
  refine ⟨⟨_, set_block (i := i) _ h1, by simp [h2], fun j hj => ?_⟩, by simpa using h4⟩
  have hj' : j < l.length := by simpa using hj
  rw [Array.getElem?_setIfInBounds, List.getElem_set]
  by_cases e : i = j
  · subst e
    have : i < cur.size := by omega
    simp [this]
  · simp [e, h3 j hj']
theorem RowS.far {W : World} {B cap : Nat} {l : List ByteArray} (h : RowS W B cap l) (i : Nat) (hi : l.length ≤ i) (v : Value) : RowS (W.setCell ⟨B, i, none⟩ v) B cap l := by
  obtain ⟨⟨cur, h1, h2, h3⟩, h4⟩ := h
  refine ⟨⟨_, set_block (i := i) _ h1, by simp [h2], fun j hj => ?_⟩, h4⟩
  rw [Array.getElem?_setIfInBounds]
  have : i ≠ j := by omega
  simp [this, h3 j hj]
theorem RowS.fars {B cap : Nat} {l : List ByteArray} : ∀ (vs : List Value) (i : Nat) {W : World}, RowS W B cap l → l.length ≤ i → RowS (W.setCells B i vs) B cap l
  | [], _, _, h, _ => h
  | v :: r, i, _, h, hi => RowS.fars r (i + 1) (h.far i hi v) (by omega)
theorem grown_sets (B : Nat) : ∀ (vs : List Value) (i : Nat) (W : World), W.grownBy (W.setCells B i vs) (some B)
  | [], _, W => grown_below (Below.refl _ W) _
  | v :: r, i, W => grown_then (grown_set W ⟨B, i, none⟩ v) (grown_sets B r (i + 1) _)
theorem RowS.take {W : World} {B cap : Nat} {l : List ByteArray} (h : RowS W B cap l) (i : Nat) : RowS W B cap (l.take i) := by
  obtain ⟨⟨cur, h1, h2, h3⟩, h4⟩ := h
  refine ⟨⟨cur, h1, h2, fun j hj => ?_⟩, by rw [List.length_take]; omega⟩
  have hj' : j < l.length := by rw [List.length_take] at hj; omega
  rw [h3 j hj', List.getElem_take]

/-- the row while texts are dropped: what is kept of the first b lies ahead, the rest is as it was -/
structure Inv (l : List ByteArray) (p : ByteArray → Bool) (a b : Nat) (L : List ByteArray) : Prop where
  len : L.length = l.length
  ahead : L.take a = (l.take b).filter fun x => !p x
  rest : L.drop b = l.drop b
  fst : a < b
theorem Inv.get {l : List ByteArray} {p : ByteArray → Bool} {a b : Nat} {L : List ByteArray} (h : Inv l p a b L) (hb : b < l.length) : L[b]'(by rw [h.len]; exact hb) = l[b] := by
  have e := congrArg (fun z : List ByteArray => z[0]?) h.rest
  simp only [List.getElem?_drop, Nat.add_zero] at e
  rw [List.getElem?_eq_getElem hb, List.getElem?_eq_getElem (by rw [h.len]; exact hb)] at e
  exact Option.some.inj e
theorem drop_more {L l : List ByteArray} {b : Nat} (h : L.drop b = l.drop b) : L.drop (b + 1) = l.drop (b + 1) := by
  rw [← List.drop_drop, ← List.drop_drop, h]
theorem Inv.skip {l : List ByteArray} {p : ByteArray → Bool} {a b : Nat} {L : List ByteArray} (h : Inv l p a b L) (hb : b < l.length) (q : p l[b] = true) : Inv l p a (b + 1) L :=
  ⟨h.len, by rw [h.ahead, List.take_succ_eq_append_getElem hb, List.filter_append]; simp [q], drop_more h.rest, by have := h.fst; omega⟩
theorem Inv.keep {l : List ByteArray} {p : ByteArray → Bool} {a b : Nat} {L : List ByteArray} (h : Inv l p a b L) (hb : b < l.length) (q : p l[b] = false) : Inv l p (a + 1) (b + 1) (L.set a l[b]) := by
  have hf := h.fst
  have hl := h.len
  refine ⟨by simpa using hl, ?_, ?_, by omega⟩
  · rw [List.take_succ_eq_append_getElem (by rw [List.length_set]; omega), List.take_set_of_le (Nat.le_refl _), List.getElem_set_self, h.ahead, List.take_succ_eq_append_getElem hb, List.filter_append]
    simp [q]
  · rw [List.drop_set_of_lt (by omega)]
    exact drop_more h.rest
end Go.Proofs.YtekminpoiokgfaaGreatDoor

/- slices.DeleteFunc at texts, with a function that leaves what lay. -/
namespace Go.Proofs.YtekminpoiokgfaaGreatDoor
open Go Go.RowKit Go.Maps Cal
attribute [local go_sem] Oper.semAt_some

theorem Inv.start {l : List ByteArray} {p : ByteArray → Bool} {k : Nat} (hk : k < l.length) (q : p l[k] = true) (h : ∀ (j : Nat) (hj : j < l.length), j < k → p l[j] = false) : Inv l p k (k + 1) l := by
  refine ⟨rfl, ?_, rfl, Nat.lt_succ_self _⟩
  rw [List.take_succ_eq_append_getElem hk, List.filter_append]
  have : (l.take k).filter (fun x => !p x) = l.take k := by
    rw [List.filter_eq_self]
    intro x hx
    obtain ⟨j, hj, rfl⟩ := List.mem_iff_getElem.1 hx
    rw [List.length_take] at hj
    rw [List.getElem_take, h j (by omega) (by omega)]; rfl
  rw [this]
  simp [q]
theorem Inv.done {l : List ByteArray} {p : ByteArray → Bool} {a b : Nat} {L : List ByteArray} (h : Inv l p a b L) (hb : l.length ≤ b) : L.take a = l.filter fun x => !p x := by
  rw [h.ahead, List.take_of_length_le hb]

end Go.Proofs.YtekminpoiokgfaaGreatDoor

/- The library's own contracts of slices.Sorted at what maps.Keys hands back, laid at this program. -/
namespace Go.Proofs
open Go.Shelf
def Tryz.keys25_ren : Go.Shelf.Ren := ⟨fun | 7 => 25 | 10 => 47 | n => n, fun | 23 => 67 | 26 => 9 | 3 => 44 | 28 => 65 | 0 => 0 | 27 => 64 | 33 => 95 | 4 => 4 | n => n, fun | n => n⟩
theorem Tryz.keys25 : Go.Proofs.SlLaysZ.n7 Tryz.prog Tryz.keys25_ren := {
  mixed := by kernel_rfl
  f7 := ⟨Tryz.f25.name, by decide, Tryz.func25.trans (congrArg some (by kernel_rfl))⟩
  f10 := ⟨Tryz.f47.name, by decide, Tryz.func47.trans (congrArg some (by kernel_rfl))⟩
  t0 := Tryz.underlying0
  a0 := Tryz.isAgg0
  z0 := Tryz.sizeOf0
  v0 := Tryz.zeroValue0
  t4 := Tryz.underlying4
  a4 := Tryz.isAgg4
  z4 := Tryz.sizeOf4
  v4 := Tryz.zeroValue4
  t23 := Tryz.underlying67
  a23 := Tryz.isAgg67
  z23 := Tryz.sizeOf67
  v23 := Tryz.zeroValue67
  t26 := Tryz.underlying9
  a26 := Tryz.isAgg9
  z26 := Tryz.sizeOf9
  v26 := Tryz.zeroValue9
  t27 := Tryz.underlying64
  a27 := Tryz.isAgg64
  z27 := Tryz.sizeOf64
  v27 := Tryz.zeroValue64
  t28 := Tryz.underlying65
  a28 := Tryz.isAgg65
  z28 := Tryz.sizeOf65
  v28 := Tryz.zeroValue65
  t33 := Tryz.underlying95
  a33 := Tryz.isAgg95
  z33 := Tryz.sizeOf95
  v33 := Tryz.zeroValue95 }
def Tryz.sorted24_ren : Go.Shelf.Ren := ⟨fun | 6 => 24 | 8 => 46 | 9 => 38 | 11 => 73 | 13 => 64 | 12 => 63 | 23 => 96 | 24 => 97 | 14 => 87 | 15 => 88 | 16 => 89 | 17 => 90 | 18 => 91 | 19 => 92 | 20 => 93 | 21 => 94 | 22 => 95 | 25 => 119 | 26 => 120 | 27 => 121 | 28 => 122 | 29 => 123 | 30 => 124 | 31 => 149 | n => n, fun | 26 => 9 | 28 => 65 | 24 => 37 | 0 => 0 | 3 => 3 | 37 => 108 | 48 => 134 | 50 => 136 | 4 => 4 | 40 => 127 | 39 => 126 | 45 => 131 | 5 => 5 | 9 => 9 | 51 => 160 | 55 => 164 | 57 => 190 | 58 => 191 | 33 => 95 | n => n, fun | n => n⟩
theorem Tryz.sorted24 : Go.Proofs.SlLaysZ.n6 Tryz.prog Tryz.sorted24_ren := {
  mixed := by kernel_rfl
  f6 := ⟨Tryz.f24.name, by decide, Tryz.func24.trans (congrArg some (by kernel_rfl))⟩
  f8 := ⟨Tryz.f46.name, by decide, Tryz.func46.trans (congrArg some (by kernel_rfl))⟩
  f11 := ⟨Tryz.f73.name, by decide, Tryz.func73.trans (congrArg some (by kernel_rfl))⟩
  t0 := Tryz.underlying0
  a0 := Tryz.isAgg0
  z0 := Tryz.sizeOf0
  v0 := Tryz.zeroValue0
  t24 := Tryz.underlying37
  a24 := Tryz.isAgg37
  z24 := Tryz.sizeOf37
  v24 := Tryz.zeroValue37
  t26 := Tryz.underlying9
  a26 := Tryz.isAgg9
  z26 := Tryz.sizeOf9
  v26 := Tryz.zeroValue9
  t28 := Tryz.underlying65
  a28 := Tryz.isAgg65
  z28 := Tryz.sizeOf65
  v28 := Tryz.zeroValue65
  i26 := by kernel_rfl }
def Tryz.sort38_ren : Go.Shelf.Ren := ⟨fun | 6 => 38 | 8 => 64 | 9 => 63 | 19 => 96 | 20 => 97 | 21 => 87 | 22 => 88 | 23 => 89 | 24 => 90 | 25 => 91 | 26 => 92 | 27 => 93 | 28 => 94 | 29 => 95 | 36 => 119 | 31 => 120 | 32 => 121 | 37 => 122 | 38 => 123 | 39 => 124 | 41 => 149 | n => n, fun | 27 => 37 | 29 => 9 | 3 => 3 | 32 => 108 | 26 => 37 | 0 => 0 | 44 => 134 | 46 => 136 | 4 => 4 | 36 => 127 | 35 => 126 | 41 => 131 | 5 => 5 | 9 => 9 | 53 => 160 | 57 => 164 | 63 => 190 | 64 => 191 | n => n, fun | n => n⟩
theorem Tryz.sort38 : Go.Proofs.SlLaysM.n6 Tryz.prog Tryz.sort38_ren := {
  mixed := by kernel_rfl
  f6 := ⟨Tryz.f38.name, by decide, Tryz.func38.trans (congrArg some (by kernel_rfl))⟩
  f8 := Tryz.func64.trans (congrArg some (by kernel_rfl))
  f9 := ⟨Tryz.f63.name, by decide, Tryz.func63.trans (congrArg some (by kernel_rfl))⟩
  f19 := Tryz.func96.trans (congrArg some (by kernel_rfl))
  f20 := Tryz.func97.trans (congrArg some (by kernel_rfl))
  f21 := ⟨Tryz.f87.name, by decide, Tryz.func87.trans (congrArg some (by kernel_rfl))⟩
  f22 := ⟨Tryz.f88.name, by decide, Tryz.func88.trans (congrArg some (by kernel_rfl))⟩
  f23 := ⟨Tryz.f89.name, by decide, Tryz.func89.trans (congrArg some (by kernel_rfl))⟩
  f24 := ⟨Tryz.f90.name, by decide, Tryz.func90.trans (congrArg some (by kernel_rfl))⟩
  f25 := ⟨Tryz.f91.name, by decide, Tryz.func91.trans (congrArg some (by kernel_rfl))⟩
  f26 := ⟨Tryz.f92.name, by decide, Tryz.func92.trans (congrArg some (by kernel_rfl))⟩
  f27 := ⟨Tryz.f93.name, by decide, Tryz.func93.trans (congrArg some (by kernel_rfl))⟩
  f28 := ⟨Tryz.f94.name, by decide, Tryz.func94.trans (congrArg some (by kernel_rfl))⟩
  f29 := ⟨Tryz.f95.name, by decide, Tryz.func95.trans (congrArg some (by kernel_rfl))⟩
  f31 := Tryz.func120.trans (congrArg some (by kernel_rfl))
  f32 := Tryz.func121.trans (congrArg some (by kernel_rfl))
  f36 := ⟨Tryz.f119.name, by decide, Tryz.func119.trans (congrArg some (by kernel_rfl))⟩
  f37 := ⟨Tryz.f122.name, by decide, Tryz.func122.trans (congrArg some (by kernel_rfl))⟩
  f38 := ⟨Tryz.f123.name, by decide, Tryz.func123.trans (congrArg some (by kernel_rfl))⟩
  f39 := ⟨Tryz.f124.name, by decide, Tryz.func124.trans (congrArg some (by kernel_rfl))⟩
  f41 := ⟨Tryz.f149.name, by decide, Tryz.func149.trans (congrArg some (by kernel_rfl))⟩
  t0 := Tryz.underlying0
  a0 := Tryz.isAgg0
  z0 := Tryz.sizeOf0
  v0 := Tryz.zeroValue0
  t3 := Tryz.underlying3
  a3 := Tryz.isAgg3
  z3 := Tryz.sizeOf3
  v3 := Tryz.zeroValue3
  t4 := Tryz.underlying4
  a4 := Tryz.isAgg4
  z4 := Tryz.sizeOf4
  v4 := Tryz.zeroValue4
  t5 := Tryz.underlying5
  a5 := Tryz.isAgg5
  z5 := Tryz.sizeOf5
  v5 := Tryz.zeroValue5
  t9 := Tryz.underlying9
  a9 := Tryz.isAgg9
  z9 := Tryz.sizeOf9
  v9 := Tryz.zeroValue9
  t26 := Tryz.underlying37
  a26 := Tryz.isAgg37
  z26 := Tryz.sizeOf37
  v26 := Tryz.zeroValue37
  t27 := Tryz.underlying37
  a27 := Tryz.isAgg37
  z27 := Tryz.sizeOf37
  v27 := Tryz.zeroValue37
  t29 := Tryz.underlying9
  a29 := Tryz.isAgg9
  z29 := Tryz.sizeOf9
  v29 := Tryz.zeroValue9
  t32 := Tryz.underlying108
  a32 := Tryz.isAgg108
  z32 := Tryz.sizeOf108
  v32 := Tryz.zeroValue108
  t35 := Tryz.underlying126
  a35 := Tryz.isAgg126
  z35 := Tryz.sizeOf126
  v35 := Tryz.zeroValue126
  t36 := Tryz.underlying127
  a36 := Tryz.isAgg127
  z36 := Tryz.sizeOf127
  v36 := Tryz.zeroValue127
  t41 := Tryz.underlying131
  a41 := Tryz.isAgg131
  z41 := Tryz.sizeOf131
  v41 := Tryz.zeroValue131
  t44 := Tryz.underlying134
  a44 := Tryz.isAgg134
  z44 := Tryz.sizeOf134
  v44 := Tryz.zeroValue134
  t46 := Tryz.underlying136
  a46 := Tryz.isAgg136
  z46 := Tryz.sizeOf136
  v46 := Tryz.zeroValue136
  t53 := Tryz.underlying160
  a53 := Tryz.isAgg160
  z53 := Tryz.sizeOf160
  v53 := Tryz.zeroValue160
  t57 := Tryz.underlying164
  a57 := Tryz.isAgg164
  z57 := Tryz.sizeOf164
  v57 := Tryz.zeroValue164
  t63 := Tryz.underlying190
  a63 := Tryz.isAgg190
  z63 := Tryz.sizeOf190
  v63 := Tryz.zeroValue190
  t64 := Tryz.underlying191
  a64 := Tryz.isAgg191
  z64 := Tryz.sizeOf191
  v64 := Tryz.zeroValue191 }
open Go.RowKit Go.Maps Go.Sort
theorem Tryz.sorts24 (m : Nat) : AnyZ.SortsIn Tryz.prog Tryz.sorted24_ren Fence.wide m :=
  ⟨fun blk off cap ss W hH hblk hsz => callsIn_wide.2 (AnyM.slices_Sort_string Tryz.sort38 blk off cap ss W hH hblk hsz),
   fun p cap W => callsIn_wide.2 (AnyM.slices_Sort_string_none Tryz.sort38 p cap W)⟩

theorem Tryz.maps_Keys_25 (mb : Option Nat) (W : World) : CallsIn Fence.wide 5 Tryz.prog 25 #[.map mb] W fun e w' => e = .returned (.func (.func 47) #[] #[.pointer (some ⟨W.heap.size, 0, none⟩)]) ∧ w' = W.alloc (.cells #[.map mb] 67) :=
  AnyZ.keys_in Tryz.keys25 Fence.wide 5 trivial rfl mb W

set_option maxHeartbeats 1000000 in
theorem Tryz.slices_Sorted_keys_24_25 {H : Type} (b nn : Nat) (D0 : DataW H) (R : Value → Option (DataW H × List MemPlace)) (w : World) (hown : w.ownsMap Tryz.prog 9 R b nn D0) (hmax : Maps.size D0 ≤ maxLen) (hbytes : Maps.size D0 * 16 ≤ 140737488355328) :
    CallsIn Fence.wide 5 Tryz.prog 24 #[.func (.func 47) #[] #[.pointer (some ⟨w.heap.size, 0, none⟩)]] (w.alloc (.cells #[.map (some b)] 67)) fun e w' => ∃ (v : Value) (ss : List (List UInt8)), e = .returned v ∧ ss.Perm (strKeys D0) ∧
      w'.ownsRow (w.alloc (.cells #[.map (some b)] 67)).heap.size 9 1 v ss.length ((ss.mergeSort (fun x y => decide (x ≤ y))).map encStr) ∧ (v = .slice none 0 0 ↔ ss = []) ∧ Below (w.alloc (.cells #[.map (some b)] 67)).heap.size (w.alloc (.cells #[.map (some b)] 67)) w' := by
  have hbl := hown.lt
  have hseq : SeqGives Fence.wide 2 Tryz.prog 47 #[.pointer (some ⟨w.heap.size, 0, none⟩)] encStr (fun ss => ss.Perm (strKeys D0)) (Maps.size D0) (w.alloc (.cells #[.map (some b)] 67)) :=
    AnyZ.keys_gives (ρ := Tryz.keys25_ren) { Tryz.keys25 with } Fence.wide _ trivial rfl (by omega) w.heap.size b nn D0 _ (by simp) (by simp) (by
      obtain ⟨es, clock, hb, Ft, hs, hD⟩ := hown
      exact ⟨es, clock, (Below.heap_alloc _ _ b hbl).trans hb, Ft, hs, hD⟩)
  exact AnyZ.sorted_in Tryz.sorted24 Fence.wide 5 trivial trivial trivial trivial rfl (by omega) (Tryz.sorts24 _) (enters_of Tryz.func38 (by kernel_rfl) rfl) 47 #[.pointer (some ⟨w.heap.size, 0, none⟩)] trivial (enters_of Tryz.func47 (by kernel_rfl) rfl) _ _ hmax hbytes _ hseq

set_option maxHeartbeats 1000000 in
theorem Tryz.slices_Sorted_keys_nil_24_25 (w : World) :
    CallsIn Fence.wide 5 Tryz.prog 24 #[.func (.func 47) #[] #[.pointer (some ⟨w.heap.size, 0, none⟩)]] (w.alloc (.cells #[.map none] 67)) fun e w' => ∃ (v : Value) (ss : List (List UInt8)), e = .returned v ∧ ss = [] ∧
      w'.ownsRow (w.alloc (.cells #[.map none] 67)).heap.size 9 1 v ss.length ((ss.mergeSort (fun x y => decide (x ≤ y))).map encStr) ∧ (v = .slice none 0 0 ↔ ss = []) ∧ Below (w.alloc (.cells #[.map none] 67)).heap.size (w.alloc (.cells #[.map none] 67)) w' := by
  have hseq : SeqGives Fence.wide 2 Tryz.prog 47 #[.pointer (some ⟨w.heap.size, 0, none⟩)] encStr (fun ss : List (List UInt8) => ss = []) 0 (w.alloc (.cells #[.map none] 67)) :=
    AnyZ.keys_gives_nil (ρ := Tryz.keys25_ren) { Tryz.keys25 with } Fence.wide _ trivial rfl w.heap.size _ (by simp) (by simp)
  exact AnyZ.sorted_in Tryz.sorted24 Fence.wide 5 trivial trivial trivial trivial rfl (by omega) (Tryz.sorts24 _) (enters_of Tryz.func38 (by kernel_rfl) rfl) 47 #[.pointer (some ⟨w.heap.size, 0, none⟩)] trivial (enters_of Tryz.func47 (by kernel_rfl) rfl) _ 0 (Nat.zero_le _) (by omega) _ hseq
end Go.Proofs

/- Package book's IDs, Get and Drop. -/
namespace Go.Proofs.YtekminpoiokgfaaGreatDoor
open Go Go.RowKit Go.Maps Go.Sort Cal
attribute [local go_sem] Oper.semAt_some

set_option maxHeartbeats 1000000 in
theorem ids_any (bb : Nat) (mo : Option Nat) (n : Nat) (D : DataW Value) (w : World) (h : Bok w bb mo n D) (hn : n ≤ 100000) :
    Calls Tryz.prog 10 #[.pointer (some ⟨bb, 0, none⟩)] w fun r w' => ∃ (v : Value) (ss : List (List UInt8)), r = .returned v ∧ ss.Perm (strKeys D) ∧ w'.ownsRow w.heap.size 9 1 v ss.length ((ss.mergeSort (fun x y => decide (x ≤ y))).map encStr) ∧ Below w.heap.size w w' := by
  have AL : Hid (Calls _ _ _ _ _) := all_any bb mo n D w h
  obtain ⟨h1, h2⟩ := h
  clear h1
  cases mo with
  | none =>
    subst h2
    have SK := Tryz.slices_Sorted_keys_nil_24_25 w
    have HK : Hid (CallsIn _ _ _ _ _ _ _) := SK
    clear SK
    refine (callsIn_wide (n := 6)).1 ?_
    have hfK : Fence.wide.fn 25 := trivial
    have hfS : Fence.wide.fn 24 := trivial
    have hfA : Fence.wide.fn 26 := trivial
    refine callsIn_of_wp Tryz.func10 rfl trivial ?_ rfl
    simp only [Tryz.ntmps10, List.size_toArray, List.length_cons, List.length_nil, Nat.reduceAdd, Nat.reduceSub, Array.replicate_succ, Array.replicate_zero, List.push_toArray, List.append_toArray, List.nil_append, List.cons_append]
    gi_wp2_with (first
      | (gi_at_call 26; refine (callsIn_wide.2 AL.out).mono ?_; rintro r w' ⟨rfl, rfl⟩)
      | (gi_at_call 25; refine (Tryz.maps_Keys_25 _ _).mono ?_; rintro e w' ⟨rfl, rfl⟩)
      | (gi_at_call 24; refine CallsIn.mono HK.out ?_; rintro e w' ⟨v, ss, rfl, hS, hrow, hnil, hb⟩))
    go_ret
    exact ⟨v, ss, rfl, by rw [hS]; rfl, own_base hrow (by rw [World.size_alloc]; omega), below_then (below_alloc _ _) hb⟩
  | some mb =>
    obtain ⟨_, hown⟩ := h2
    have hsz := hown.size_le
    have SK := Tryz.slices_Sorted_keys_24_25 mb n D hld w hown (by unfold maxLen; omega) (by omega)
    have HK : Hid (CallsIn _ _ _ _ _ _ _) := SK
    clear SK
    refine (callsIn_wide (n := 6)).1 ?_
    have hfK : Fence.wide.fn 25 := trivial
    have hfS : Fence.wide.fn 24 := trivial
    have hfA : Fence.wide.fn 26 := trivial
    refine callsIn_of_wp Tryz.func10 rfl trivial ?_ rfl
    simp only [Tryz.ntmps10, List.size_toArray, List.length_cons, List.length_nil, Nat.reduceAdd, Nat.reduceSub, Array.replicate_succ, Array.replicate_zero, List.push_toArray, List.append_toArray, List.nil_append, List.cons_append]
    gi_wp2_with (first
      | (gi_at_call 26; refine (callsIn_wide.2 AL.out).mono ?_; rintro r w' ⟨rfl, rfl⟩)
      | (gi_at_call 25; refine (Tryz.maps_Keys_25 _ _).mono ?_; rintro e w' ⟨rfl, rfl⟩)
      | (gi_at_call 24; refine CallsIn.mono HK.out ?_; rintro e w' ⟨v, ss, rfl, hS, hrow, hnil, hb⟩))
    go_ret
    exact ⟨v, ss, rfl, hS, own_base hrow (by rw [World.size_alloc]; omega), below_then (below_alloc _ _) hb⟩
end Go.Proofs.YtekminpoiokgfaaGreatDoor

/- Lists that are searched: slices.BinarySearch over rising numbers, BinarySearchFunc over moves, and package event's movedTo. -/
namespace Go.Proofs.YtekminpoiokgfaaGreatDoor
open Go Go.RowKit Cal
attribute [local go_sem] Oper.semAt_some

end Go.Proofs.YtekminpoiokgfaaGreatDoor

/- The days of an event that is well, as package event's daysUpTo gives them. -/
namespace Go.Proofs.YtekminpoiokgfaaGreatDoor
open Go Go.RowKit Go.Shelf Cal
attribute [local go_sem] Oper.semAt_some

end Go.Proofs.YtekminpoiokgfaaGreatDoor
