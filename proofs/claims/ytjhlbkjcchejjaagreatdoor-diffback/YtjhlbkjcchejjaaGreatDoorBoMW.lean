/- Calendars: a book's map of events; package book's all, Get and Drop. -/
import Derived.Test.YtjhlbkjcchejjaaGreatDoorYaI
import Derived.Maps.OwnSet
import Derived.Maps.OwnOps
namespace Go.Proofs.YtjhlbkjcchejjaaGreatDoor
open Go Go.RowKit Go.Maps Cal
attribute [local go_sem] Oper.semAt_some

theorem law : Keyed Tryz.prog 9 := string_keyed Tryz.underlying9
/-- an element of the map, as it is -/
def hld (v : Value) : Option (DataW Value × List MemPlace) := some (.held v, [])
theorem hld_inv {v : Value} {d : DataW Value} {ps : List MemPlace} (h : hld v = some (d, ps)) : d = .held v := by
  unfold hld at h
  cases h
  rfl
theorem zeroE (w : World) : (zeroValue 27).run Tryz.prog w = .ok zV w := by unfold zV; kernel_rfl
/-- the key of an ID -/
def key (s : ByteArray) : Lit := .string s.data.toList
theorem key_of {s : ByteArray} (h : s.size ≤ 1000) : keyOf Tryz.prog 9 (.string s) = some (key s) := Go.WideMaps.keyOf_string_mk Tryz.underlying9 (by unfold maxLen; omega)

/-- block bb is a book; mo: its map, D: what it holds -/
def Bok (W : World) (bb : Nat) (mo : Option Nat) (n : Nat) (D : DataW Value) : Prop :=
  W.heap[bb]? = some (.cells #[.map mo] 129 (0, 0)) ∧ match mo with
    | none => D = .map []
    | some mb => mb ≠ bb ∧ W.ownsMap Tryz.prog 9 hld mb n D
theorem Bok.step {W W' : World} {bb : Nat} {mo : Option Nat} {n : Nat} {D : DataW Value} (h : Bok W bb mo n D) (hb : Below W.heap.size W W') : Bok W' bb mo n D := by
  obtain ⟨h1, h2⟩ := h
  refine ⟨(hb.block _ (Array.getElem?_eq_some_iff.1 h1).1).trans h1, ?_⟩
  cases mo with
  | none => exact h2
  | some mb => exact ⟨h2.1, h2.2.kept (grown_below hb none) (by simp)⟩
theorem Bok.cell {W : World} {bb : Nat} {mo : Option Nat} {n : Nat} {D : DataW Value} (h : Bok W bb mo n D) : W.cell? ⟨bb, 0, none⟩ = some (.map mo) := by simp [World.cell?, h.1]

theorem all_any (bb : Nat) (mo : Option Nat) (n : Nat) (D : DataW Value) (w : World) (h : Bok w bb mo n D) :
    Calls Tryz.prog 97 #[.pointer (some ⟨bb, 0, none⟩)] w fun r w' => r = .returned (.map mo) ∧ w' = w := by
  have hc := h.cell
  clear h
  go_enter Tryz.func97, Tryz.ntmps97
  go_wp2
  go_ret
  exact ⟨rfl, rfl⟩

/-- a look-up whose element is known -/
theorem wpList_lookup_held (w : World) {ops : Array Oper} {rest : List Oper} {o : Oper} {a : Act} {Q : Exit → Act → World → Prop} (hg : o.guard = none) (m x : Operand) (hop : o.op = Op.lookup 127 m x true)
    (b n : Nat) (D : DataW Value) (hm : a.eval m = .map (some b)) (hown : w.ownsMap Tryz.prog 9 hld b n D) (k : Value) (kl : Lit) (hx : a.eval x = k) (hkey : keyOf Tryz.prog 9 k = some kl) (u : Value) (hat : D.atKey kl (.held zV) = .held u)
    (hK : wpList Tryz.prog ops Q rest (a.put o.dst (.tuple #[u, .bool (Maps.has D kl)])) w) : wpList Tryz.prog ops Q (o :: rest) a w :=
  wpList_lookup_own_ok w hg m x 127 hop 9 27 law Tryz.underlying127 hld (zeroE w) (.held zV) [] rfl b n D hm hown k kl hx hkey (fun v ps hv => by
    have h := hld_inv hv
    rw [hat] at h
    cases h
    exact hK)

set_option maxHeartbeats 4000000 in
set_option maxRecDepth 100000 in
/-- Get of an event that is there (or of the zero event where it is not) -/
theorem bget_any (bb mb n : Nat) (D : DataW Value) (id : ByteArray) (E : EV) (sl skv mvv : Value) (w : World) (h : Bok w bb (some mb) n D) (hid : id.size ≤ 1000) (hat : D.atKey (key id) (.held zV) = .held (ev E sl skv mvv)) (hL : Ls w E sl skv mvv) (k20 : E.sk.length ≤ 20) (m20 : E.mv.length ≤ 20) :
    Calls Tryz.prog 94 #[.pointer (some ⟨bb, 0, none⟩), .string id] w fun r w' => ∃ sl' skv' mvv', r = .returned (.tuple #[ev E sl' skv' mvv', .bool (Maps.has D (key id))]) ∧ Ls w' E sl' skv' mvv' ∧ Below w.heap.size w w' := by
  have HD20 : Hid (E.ds.length ≤ 20) := by obtain ⟨_, _, _, q, _⟩ := hL.d; exact q
  have HL : Hid (Ls w E sl skv mvv) := hL
  obtain ⟨hd, hs, hm⟩ := hL
  obtain ⟨ra, rc, rfl, _⟩ := hd
  obtain ⟨sa, sc, rfl, _⟩ := hs
  obtain ⟨ma, mc, rfl, _⟩ := hm
  unfold ev at hat
  have hA := below_alloc w (.cells #[.string ⟨#[]⟩, .string ⟨#[]⟩, .int .i64 0, .int .i64 0, .string ⟨#[]⟩, .int .i64 0, .slice none 0 0, .int .i64 0, .int .i64 0, .slice none 0 0, .slice none 0 0] 27)
  have kR : (w.alloc (.cells #[.string ⟨#[]⟩, .string ⟨#[]⟩, .int .i64 0, .int .i64 0, .string ⟨#[]⟩, .int .i64 0, .slice none 0 0, .int .i64 0, .int .i64 0, .slice none 0 0, .slice none 0 0] 27)).heap[w.heap.size]? = some (.cells #[.string ⟨#[]⟩, .string ⟨#[]⟩, .int .i64 0, .int .i64 0, .string ⟨#[]⟩, .int .i64 0, .slice none 0 0, .int .i64 0, .int .i64 0, .slice none 0 0, .slice none 0 0] 27 (0, 0)) := block_at _ rfl
  have hz : (w.alloc (.cells #[.string ⟨#[]⟩, .string ⟨#[]⟩, .int .i64 0, .int .i64 0, .string ⟨#[]⟩, .int .i64 0, .slice none 0 0, .int .i64 0, .int .i64 0, .slice none 0 0, .slice none 0 0] 27)).heap.size = w.heap.size + 1 := World.size_alloc _ _
  have AL : Hid (Calls _ _ _ _ _) := all_any bb (some mb) n D _ (h.step hA)
  have HO : Hid (World.ownsMap _ _ _ _ _ _ _) := (h.step hA).2.2
  have HAT : Hid (D.atKey (key id) (.held zV) = .held (.agg #[.string E.id, .string E.ti, .int .i64 E.st, .int .i64 E.lg, .string E.f, .int .i64 E.e, .slice ra E.ds.length rc, .int .i64 E.c, .int .i64 E.u, .slice sa E.sk.length sc, .slice ma E.mv.length mc])) := hat
  have HKY : Hid (keyOf Tryz.prog 9 (.string id) = some (key id)) := key_of hid
  have HA : Hid (_) := hA
  have KR : Hid (_) := kR
  have HZ : Hid (_) := hz
  clear hA kR hz hat h
  unfold ev
  go_enter Tryz.func94, Tryz.ntmps94
  generalize hw0 : w.alloc (.cells #[.string ⟨#[]⟩, .string ⟨#[]⟩, .int .i64 0, .int .i64 0, .string ⟨#[]⟩, .int .i64 0, .slice none 0 0, .int .i64 0, .int .i64 0, .slice none 0 0, .slice none 0 0] 27) = w0 at AL HO HA KR HZ
  go_upto_region 2 with (first
    | (go_at_call 97; refine Calls.mono AL.out ?_; rintro r w' ⟨rfl, hq⟩; have hq := hq.symm; subst hq)
    | (at_lookup; refine wpList_lookup_held _ rfl _ _ rfl mb n D rfl HO.out _ (key id) rfl HKY.out _ HAT.out ?_)
    | go_in)
  have KE : Hid (EB (w0.alloc (.cells #[.string E.id, .string E.ti, .int .i64 E.st, .int .i64 E.lg, .string E.f, .int .i64 E.e, .slice ra E.ds.length rc, .int .i64 E.c, .int .i64 E.u, .slice sa E.sk.length sc, .slice ma E.mv.length mc] 27)) w0.heap.size E (.slice ra E.ds.length rc) (.slice sa E.sk.length sc) (.slice ma E.mv.length mc)) := EB.new w0 E _ _ _
  have LE : Hid (Ls (w0.alloc (.cells #[.string E.id, .string E.ti, .int .i64 E.st, .int .i64 E.lg, .string E.f, .int .i64 E.e, .slice ra E.ds.length rc, .int .i64 E.c, .int .i64 E.u, .slice sa E.sk.length sc, .slice ma E.mv.length mc] 27)) E (.slice ra E.ds.length rc) (.slice sa E.sk.length sc) (.slice ma E.mv.length mc)) := HL.out.step (below_then HA.out (below_alloc _ _))
  have KR1 : Hid ((w0.alloc (.cells #[.string E.id, .string E.ti, .int .i64 E.st, .int .i64 E.lg, .string E.f, .int .i64 E.e, .slice ra E.ds.length rc, .int .i64 E.c, .int .i64 E.u, .slice sa E.sk.length sc, .slice ma E.mv.length mc] 27)).heap[w.heap.size]? = some (.cells #[.string ⟨#[]⟩, .string ⟨#[]⟩, .int .i64 0, .int .i64 0, .string ⟨#[]⟩, .int .i64 0, .slice none 0 0, .int .i64 0, .int .i64 0, .slice none 0 0, .slice none 0 0] 27 (0, 0))) := block_alloc _ KR.out
  have B1 : Hid (Below w.heap.size w (w0.alloc (.cells #[.string E.id, .string E.ti, .int .i64 E.st, .int .i64 E.lg, .string E.f, .int .i64 E.e, .slice ra E.ds.length rc, .int .i64 E.c, .int .i64 E.u, .slice sa E.sk.length sc, .slice ma E.mv.length mc] 27))) := below_then HA.out (below_alloc _ _)
  have hs1 : w.heap.size + 1 ≤ (w0.alloc (.cells #[.string E.id, .string E.ti, .int .i64 E.st, .int .i64 E.lg, .string E.f, .int .i64 E.e, .slice ra E.ds.length rc, .int .i64 E.c, .int .i64 E.u, .slice sa E.sk.length sc, .slice ma E.mv.length mc] 27)).heap.size := by rw [World.size_alloc, HZ.out]; omega
  clear AL HO HAT HKY HA KR HZ HL
  generalize w0.alloc (.cells #[.string E.id, .string E.ti, .int .i64 E.st, .int .i64 E.lg, .string E.f, .int .i64 E.e, .slice ra E.ds.length rc, .int .i64 E.c, .int .i64 E.u, .slice sa E.sk.length sc, .slice ma E.mv.length mc] 27) = w1 at KE LE KR1 B1 hs1 ⊢
  generalize w0.heap.size = be at KE ⊢
  have CP := copy_any E _ _ _ w1 LE.out k20 m20
  unfold ev at CP
  have HCP : Hid (Calls _ _ _ _ _) := CP
  clear CP LE
  obtain ⟨x0, x1, x2, x3, x4, x5, x6, x7, x8, x9, x10⟩ := blk11 (show w1.heap[be]? = _ from KE.out)
  have m8 : E.mv.length ≤ 80000 := by omega
  go_wp2_with (go_at_call 38; refine Calls.mono HCP.out ?_; rintro r w5 ⟨sl2, sk2, mv2, rfl, ho1, ho2, ho3, hb5⟩; obtain ⟨r2, rc2, rfl⟩ := ow_form ho1; obtain ⟨s2, sc2, rfl⟩ := ow_form ho2; obtain ⟨m2, mc2, rfl⟩ := gotM_form (owm_movs ho3 m8).2; have KR5 : Hid (w5.heap[w.heap.size]? = some (.cells #[.string ⟨#[]⟩, .string ⟨#[]⟩, .int .i64 0, .int .i64 0, .string ⟨#[]⟩, .int .i64 0, .slice none 0 0, .int .i64 0, .int .i64 0, .slice none 0 0, .slice none 0 0] 27 (0, 0))) := (hb5.block _ (Nat.lt_of_succ_le hs1)).trans KR1.out; obtain ⟨t0, t1, t2, t3, t4, t5, t6, t7, t8, t9, t10⟩ := blk11 KR5.out; have f0 := blk11_frozen KR5.out 0; have f1 := blk11_frozen KR5.out 1; have f2 := blk11_frozen KR5.out 2; have f3 := blk11_frozen KR5.out 3; have f4 := blk11_frozen KR5.out 4; have f5 := blk11_frozen KR5.out 5; have f6 := blk11_frozen KR5.out 6; have f7 := blk11_frozen KR5.out 7; have f8 := blk11_frozen KR5.out 8; have f9 := blk11_frozen KR5.out 9; have f10 := blk11_frozen KR5.out 10)
  rw [put11_fold]
  have n10 := put11_blk (.string E.id) (.string E.ti) (.int .i64 E.st) (.int .i64 E.lg) (.string E.f) (.int .i64 E.e) (.slice r2 E.ds.length rc2) (.int .i64 E.c) (.int .i64 E.u) (.slice s2 E.sk.length sc2) (.slice m2 E.mv.length mc2) KR5.out
  have g7 := put11_grown w5 w.heap.size (.string E.id) (.string E.ti) (.int .i64 E.st) (.int .i64 E.lg) (.string E.f) (.int .i64 E.e) (.slice r2 E.ds.length rc2) (.int .i64 E.c) (.int .i64 E.u) (.slice s2 E.sk.length sc2) (.slice m2 E.mv.length mc2)
  clear x0 x1 x2 x3 x4 x5 x6 x7 x8 x9 x10 t0 t1 t2 t3 t4 t5 t6 t7 t8 t9 t10 f0 f1 f2 f3 f4 f5 f6 f7 f8 f9 f10
  have o1 := Ow.grown ho1 g7 (by omega)
  have o2 := Ow.grown ho2 g7 (by omega)
  have o3 := OwM.grown ho3 g7 (by omega)
  generalize put11 w5 w.heap.size (.string E.id) (.string E.ti) (.int .i64 E.st) (.int .i64 E.lg) (.string E.f) (.int .i64 E.e) (.slice r2 E.ds.length rc2) (.int .i64 E.c) (.int .i64 E.u) (.slice s2 E.sk.length sc2) (.slice m2 E.mv.length mc2) = w7 at n10 g7 o1 o2 o3 ⊢
  obtain ⟨c0, c1, c2, c3, c4, c5, c6, c7, c8, c9, c10⟩ := blk11 n10
  refine bodyPost_ret (v := .tuple #[.agg #[.string E.id, .string E.ti, .int .i64 E.st, .int .i64 E.lg, .string E.f, .int .i64 E.e, .slice r2 E.ds.length rc2, .int .i64 E.c, .int .i64 E.u, .slice s2 E.sk.length sc2, .slice m2 E.mv.length mc2], .bool (Maps.has D (key id))]) (by simp [results, Tryz.f94, go_sem, c0, c1, c2, c3, c4, c5, c6, c7, c8, c9, c10]) rfl ⟨_, _, _, rfl, ⟨ow_days o1 HD20.out, ow_ints o2 (by omega), (owm_movs o3 m8).1⟩, (below_then B1.out hb5).grown g7 (below_then B1.out hb5).size (fun k q => by cases q; exact Nat.le_refl _)⟩

set_option maxHeartbeats 4000000 in
set_option maxRecDepth 100000 in
/-- Drop of an event that is there -/
theorem drop_yes (bb mb n : Nat) (D : DataW Value) (id : ByteArray) (E : EV) (ra : Option Addr) (rn rc : Nat) (sa : Option Addr) (sn sc : Nat) (ma : Option Addr) (mn mc : Nat) (w : World) (h : Bok w bb (some mb) n D) (hid : id.size ≤ 1000) (hat : D.atKey (key id) (.held zV) = .held (ev E (.slice ra rn rc) (.slice sa sn sc) (.slice ma mn mc))) (hh : Maps.has D (key id) = true) :
    Calls Tryz.prog 135 #[.pointer (some ⟨bb, 0, none⟩), .string id] w fun r w' => r = .returned .nilIface ∧ Bok w' bb (some mb) n (D.del (key id)) ∧ w.grownBy w' (some mb) := by
  have AL : Hid (Calls _ _ _ _ _) := all_any bb (some mb) n D _ h
  unfold ev at hat
  have HAT : Hid (D.atKey (key id) (.held zV) = .held (.agg #[.string E.id, .string E.ti, .int .i64 E.st, .int .i64 E.lg, .string E.f, .int .i64 E.e, .slice ra rn rc, .int .i64 E.c, .int .i64 E.u, .slice sa sn sc, .slice ma mn mc])) := hat
  have HKY : Hid (keyOf Tryz.prog 9 (.string id) = some (key id)) := key_of hid
  have HH : Hid (Maps.has D (key id) = true) := hh
  have HB : Hid (Bok w bb (some mb) n D) := h
  clear hat hh h
  go_enter Tryz.func135, Tryz.ntmps135
  go_upto_region 5 with (first
    | (go_at_call 97; refine Calls.mono AL.out ?_; rintro r w' ⟨rfl, hq⟩; have hq := hq.symm; subst hq)
    | (at_lookup; refine wpList_lookup_held _ rfl _ _ rfl mb n D rfl HB.out.2.2 _ (key id) rfl HKY.out _ HAT.out ?_; rw [HH.out])
    | go_in)
  have HO1 : Hid (World.ownsMap _ _ _ _ _ _ _) := HB.out.2.2.alloc (.cells #[.string E.id, .string E.ti, .int .i64 E.st, .int .i64 E.lg, .string E.f, .int .i64 E.e, .slice ra rn rc, .int .i64 E.c, .int .i64 E.u, .slice sa sn sc, .slice ma mn mc] 27)
  have K1 : Hid ((w.alloc (.cells #[.string E.id, .string E.ti, .int .i64 E.st, .int .i64 E.lg, .string E.f, .int .i64 E.e, .slice ra rn rc, .int .i64 E.c, .int .i64 E.u, .slice sa sn sc, .slice ma mn mc] 27)).heap[bb]? = some (.cells #[.map (some mb)] 129 (0, 0))) := block_alloc _ HB.out.1
  have G1 : Hid (w.grownBy (w.alloc (.cells #[.string E.id, .string E.ti, .int .i64 E.st, .int .i64 E.lg, .string E.f, .int .i64 E.e, .slice ra rn rc, .int .i64 E.c, .int .i64 E.u, .slice sa sn sc, .slice ma mn mc] 27)) (some mb)) := grown_below (below_alloc _ _) _
  have hne : mb ≠ bb := HB.out.2.1
  generalize w.alloc (.cells #[.string E.id, .string E.ti, .int .i64 E.st, .int .i64 E.lg, .string E.f, .int .i64 E.e, .slice ra rn rc, .int .i64 E.c, .int .i64 E.u, .slice sa sn sc, .slice ma mn mc] 27) = w1 at HO1 K1 G1 ⊢
  clear AL HAT HB
  go_wp2_with (first
    | (at_delete; refine wpList_delete_own _ rfl _ _ 127 9 rfl 27 law Tryz.underlying127 _ mb n D rfl HO1.out _ (key id) rfl HKY.out ?_; intro w2 hown2 hturn2)
    | go_in)
  go_ret
  exact ⟨rfl, ⟨(hturn2.grown.block bb (Array.getElem?_eq_some_iff.1 K1.out).1 (fun q => hne (Option.some.inj q).symm)).trans K1.out, hne, hown2⟩, grown_then G1.out hturn2.grown⟩
end Go.Proofs.YtjhlbkjcchejjaaGreatDoor
