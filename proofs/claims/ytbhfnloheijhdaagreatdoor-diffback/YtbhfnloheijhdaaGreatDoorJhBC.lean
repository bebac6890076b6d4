/- Package book's Text: the events' texts, a line each. -/
import Derived.Test.YtbhfnloheijhdaaGreatDoorJhAN
import Derived.Test.YtbhfnloheijhdaaGreatDoorJhAP
import Derived.Test.YtbhfnloheijhdaaGreatDoorJhAF
import Derived.Shelf.Strings.BuilderK
import Derived.Test.YtbhfnloheijhdaaGreatDoorJhBB
import Derived.Test.YtbhfnloheijhdaaGreatDoorJhAL
import Derived.Laws.AppendOwnNone
import Derived.Laws.StructEq
import Derived.Test.YtbhfnloheijhdaaGreatDoorRows
import Derived.JoinedOf
namespace Go.Proofs.YtbhfnloheijhdaaGreatDoor
open Go Go.RowKit Go.Maps Go.Shelf Cal
attribute [local go_sem] Oper.semAt_some

/-- a calendar's text -/
noncomputable def bkT (C : List EV) : List UInt8 := C.flatMap fun E => eT E ++ [10]
theorem bkT_len {C : List EV} (h : ∀ E ∈ C, EW E ∧ E.ds.length ≤ 20) : (bkT C).length ≤ C.length * 10001 := by
  induction C with
  | nil => simp [bkT]
  | cons E r ih =>
    have h1 := eT_len (h E (List.mem_cons_self)).1 (h E (List.mem_cons_self)).2
    have h2 := ih (fun F hF => h F (List.mem_cons_of_mem _ hF))
    have e : bkT (E :: r) = eT E ++ [10] ++ bkT r := rfl
    rw [e, List.length_append, List.length_append, List.length_cons]
    simp only [List.length_cons, List.length_nil]
    omega
theorem bkT_snoc (C : List EV) (E : EV) : bkT (C ++ [E]) = bkT C ++ eT E ++ [10] := by
  unfold bkT
  rw [List.flatMap_append, List.flatMap_cons, List.flatMap_nil, List.append_nil, List.append_assoc]

theorem builder_step {T e : TypeId} {B b : Nat} {l : List Value} {w w' : World} (h : Lib.IsBuilderF T e B b l w) (hb : Below w.heap.size w w') : Lib.IsBuilderF T e B b l w' := by
  have key : ∀ p, Lib.BuilderAtF T e B b p l w → Lib.BuilderAtF T e B b p l w' := fun p ⟨h1, v, h2, h3, h4⟩ => ⟨h1, v, (hb.block _ (Array.getElem?_eq_some_iff.1 h2).1).trans h2, h3.kept (grown_below hb none) (by cases v.ownBlock <;> simp), h4⟩
  exact h.imp (key _) (key _)
theorem bwrite (B b : Nat) (l : List UInt8) (x : ByteArray) (w : World) (h : Lib.IsBuilderF 96 5 B b (Lib.byteCells l) w) (hlen : l.length + x.size ≤ 140737488355328) (hB : B ≤ w.heap.size) :
    Calls Tryz.prog 59 #[.pointer (some ⟨b, 0, none⟩), .string x] w fun r w' => r = .returned (.tuple #[.int .i64 x.size, .nilIface]) ∧ Lib.IsBuilderF 96 5 B b (Lib.byteCells (l ++ x.data.toList)) w' ∧ Below B w w' ∧ Lib.OthersKept 5 (some b) w w' := by
  refine Calls.mono (Any.Builder_WriteString_k { Tryz.lays156 with } Tryz.Builder_Extra_156 B b (Lib.byteCells l) x w h (by rw [Lib.byteCells_length]; exact hlen) hB) ?_
  rintro r w' ⟨rfl, h1, h2, h3⟩
  refine ⟨rfl, .inr ?_, h2, h3⟩
  rw [Lib.byteCells_append, ← Lib.strCells_eq]
  exact h1
theorem bstring (B b : Nat) (l : List UInt8) (w : World) (h : Lib.IsBuilderF 96 5 B b (Lib.byteCells l) w) (hB : B ≤ w.heap.size) :
    Calls Tryz.prog 60 #[.pointer (some ⟨b, 0, none⟩)] w fun r w' => r = .returned (.string (bs l)) ∧ Below B w w' := by
  refine Calls.mono (Any.Builder_String_any_k { Tryz.lays156 with } Tryz.Builder_Extra_156 B b l w h hB) ?_
  rintro r w' ⟨rfl, h1, h2, h3⟩
  exact ⟨rfl, h2⟩
/-- a row of texts stays while a builder is written -/
theorem rowS_kept {W W' : World} {B b cap : Nat} {l : List ByteArray} (h : RowS W B cap l) (hk : Lib.OthersKept 5 (some b) W W') (hne : B ≠ b) : RowS W' B cap l := by
  obtain ⟨⟨cur, h1, h2, h3⟩, h4⟩ := h
  exact ⟨⟨cur, hk B _ h1 (fun q => hne (Option.some.inj q)) (fun c fz q => by injection q with _ q2 _; exact absurd q2 (by decide)), h2, h3⟩, h4⟩

set_option maxHeartbeats 2000000 in
set_option maxRecDepth 100000 in
theorem btext_C (lo bb n : Nat) (mo : Option Nat) (C : List EV) (s : Nat → Addr) (w : World) (gk : GlobK s w) (g : GlobR w) (h : BookAt lo w bb mo n C) (hn : n ≤ 100000) (hC : C.length ≤ 60) :
    Calls Tryz.prog 20 #[.pointer (some ⟨bb, 0, none⟩)] w fun r w' => r = .returned (.string (bs (bkT C))) ∧ Below w.heap.size w w' := by
  have hbk := h
  obtain ⟨D, h1, h2, h3, h4⟩ := h
  have hw20 : ∀ E ∈ C, EW E ∧ E.ds.length ≤ 20 := fun E hE => (h4.at_ E hE).1
  have AL : Hid (Calls _ _ _ _ _) := all_any bb mo n D w h1
  have hA := below_alloc w (.cells #[.pointer none, .slice none 0 0] 96)
  have ID : Hid (Calls _ _ _ _ _) := ids_C lo bb n mo C _ (hbk.step hA) hn
  have HBD : Hid (Lib.IsBuilderF 96 5 w.heap.size w.heap.size (Lib.byteCells []) (w.alloc (.cells #[.pointer none, .slice none 0 0] 96))) := Lib.IsBuilderF.of (Lib.fresh_isBuilder _ _ w)
  have HA : Hid (_) := hA
  have hz : (w.alloc (.cells #[.pointer none, .slice none 0 0] 96)).heap.size = w.heap.size + 1 := World.size_alloc _ _
  have HZ : Hid (_) := hz
  have HBK : Hid (Bok w bb mo n D) := h1
  generalize htx : bs (bkT C) = tx
  have HTX : Hid (bs (bkT C) = tx) := htx
  clear htx
  have HH : Hid (Holds (NotIn lo bb mo) w D C) := h4
  have HW20 : Hid (_) := hw20
  have GK : Hid (GlobK s w) := gk
  have G : Hid (GlobR w) := g
  have hLn : (bkT C).length ≤ 1000000 := by have := bkT_len hw20; omega
  clear hA hz h1 h4 hw20 gk g hbk
  go_enter Tryz.func20, Tryz.ntmps20
  generalize hw0 : w.alloc (.cells #[.pointer none, .slice none 0 0] 96) = w0 at ID HBD HA HZ
  have hL2 : (C.map EV.id).length ≤ 80000 := by rw [List.length_map]; omega
  go_wp2_with (first
    | (go_at_call 58; refine Calls.mono AL.out ?_; rintro r w' ⟨rfl, hq⟩; have hq := hq.symm; subst hq)
    | (go_at_call 23; refine Calls.mono ID.out ?_; rintro r w1 ⟨vid, rfl, hrid, hb1⟩; have HRID : Hid (RowV w0.heap.size w1 vid (C.map EV.id)) := hrid; obtain ⟨ia, ic, rfl, _, hcl, _⟩ := hrid.txs hL2))
  have B1 : Hid (Below w.heap.size w w1) := below_then HA.out hb1
  have HBD1 : Hid (Lib.IsBuilderF 96 5 w.heap.size w.heap.size (Lib.byteCells (bkT [])) w1) := builder_step HBD.out hb1
  have hs1 : w.heap.size + 1 ≤ w1.heap.size := by rw [← HZ.out]; exact hb1.size
  rw [List.length_map] at hcl
  have HROW : Hid (∀ W, Below w1.heap.size w1 W → (C.length = 0 ∨ ∃ ib, ia = some ⟨ib, 0, none⟩ ∧ w.heap.size < ib ∧ RowS W ib ic (C.map EV.id))) := fun W hW => by
    rcases HRID.out with ⟨q1, q2⟩ | ⟨ib, cap, q1, q2, q3⟩
    · left
      have := congrArg List.length q2
      simpa using this
    · right
      have hz := HZ.out
      have e1 : ia = some ⟨ib, 0, none⟩ ∧ ic = cap := by
        rw [List.length_map] at q1
        injection q1 with a1 a2 a3
        exact ⟨a1, a3⟩
      exact ⟨ib, e1.1, by omega, by rw [e1.2]; exact q3.step hW⟩
  clear AL ID HBD hb1 hrid HRID
  go_loopw [12] (fun i wr => ∃ m : Nat, m ≤ C.length ∧ i = .int .i64 m ∧ Hid (Below w.heap.size w wr) ∧ Hid (w.heap.size + 1 ≤ wr.heap.size) ∧ Hid (Lib.IsBuilderF 96 5 w.heap.size w.heap.size (Lib.byteCells (bkT (C.take m))) wr) ∧ Hid (C.length = 0 ∨ ∃ ib, ia = some ⟨ib, 0, none⟩ ∧ w.heap.size < ib ∧ RowS wr ib ic (C.map EV.id))) (fun i _ => C.length - (intOf i).toNat)
  case atStart => exact ⟨0, Nat.zero_le _, rfl, B1.out, hs1, HBD1.out, HROW.out _ (Below.refl _ _)⟩
  case round =>
    obtain ⟨m, hm, rfl, HB, HS, HBD, HR⟩ := hrel
    by_cases hlt : m < C.length
    · obtain ⟨ib, rfl, hib, hrow⟩ : ∃ ib, ia = some ⟨ib, 0, none⟩ ∧ w.heap.size < ib ∧ RowS wr ib ic (C.map EV.id) := by
        rcases HR.out with q | q
        · omega
        · exact q
      have hcr := hrow.cell m (by rw [List.length_map]; exact hlt)
      rw [List.getElem_map] at hcr
      have hE : C[m] ∈ C := List.getElem_mem hlt
      obtain ⟨⟨hw, h20⟩, sl, skv, mvv, q1, q2⟩ := HH.out.at_ C[m] hE
      obtain ⟨i12, _, _, _⟩ := ew_bd hw
      have q2' := q2.step HB.out
      have ET : Hid (Calls Tryz.prog 12 #[ev C[m] sl skv mvv] wr fun r w' => r = .returned (.string (bs (eT C[m]))) ∧ Below wr.heap.size wr w') := etext_any C[m] sl skv mvv s wr (GK.out.step HB.out) (G.out.step HB.out) (q2'.ls h20).d (q2'.ls h20).s (q2'.ls h20).m hw
      obtain ⟨a1, c1, rfl, _⟩ := q2.d
      obtain ⟨a2, c2, rfl, _⟩ := q2.s
      obtain ⟨a3, c3, rfl, _⟩ := q2.m
      unfold ev at ET q1
      have LK := look1_eq (HBK.out.step HB.out) (show C[m].id.size ≤ 1000 by omega) q1
      have HTK : Hid (bkT (C.take (m + 1)) = bkT (C.take m) ++ eT C[m] ++ [10]) := by
        show _ = _
        rw [List.take_succ_eq_append_getElem hlt, bkT_snoc]
      have hl1 : (bkT (C.take m)).length ≤ 1000000 := by
        have := bkT_len (C := C.take m) (fun F hF => HW20.out F (List.mem_of_mem_take hF))
        rw [List.length_take] at this
        omega
      have hl2 : (eT C[m]).length ≤ 10000 := eT_len hw h20
      have hl2' : (bs (eT C[m])).size = (eT C[m]).length := by rw [Lib.size_eq, bs_data]
      have HROWr : Hid (RowS wr ib ic (C.map EV.id)) := hrow
      clear HR q1 q2 q2' hw h20 hE hrow
      generalize C[m] = E at hcr ET LK HTK hl2 hl2' i12
      generalize bkT (C.take m) = acc at HBD HTK hl1
      generalize hx : bs (eT E) = x at ET hl2'
      have HX : Hid (x.data.toList = eT E) := by show _ = _; rw [← hx, bs_data]
      clear hx
      have HBW : Hid (∀ (W : World), Below wr.heap.size wr W → Calls Tryz.prog 59 #[.pointer (some ⟨w.heap.size, 0, none⟩), .string x] W fun r w' => r = .returned (.tuple #[.int .i64 x.size, .nilIface]) ∧ Lib.IsBuilderF 96 5 w.heap.size w.heap.size (Lib.byteCells (acc ++ x.data.toList)) w' ∧ Below w.heap.size W w' ∧ Lib.OthersKept 5 (some w.heap.size) W w') := fun W hW => bwrite w.heap.size w.heap.size acc x W (builder_step HBD.out hW) (by omega) (Nat.le_trans (by have := HS.out; omega) hW.size)
      go_upto_region 7 with (first
        | (go_at_call 12; refine Calls.mono ET.out ?_; rintro r w2 ⟨rfl, hb2⟩; have BW2 : Hid (Calls _ _ _ _ _) := HBW.out w2 hb2; have HB2 : Hid (Below wr.heap.size wr w2) := hb2)
        | (go_at_call 59; refine Calls.mono BW2.out ?_; rintro r w3 ⟨rfl, hbd3, hb3, hk3⟩))
      have HS3 : Hid (w.heap.size + 1 ≤ w3.heap.size) := Nat.le_trans HS.out (Nat.le_trans HB2.out.size hb3.size)
      have hlx : (acc ++ x.data.toList).length + (⟨#[10]⟩ : ByteArray).size ≤ 140737488355328 := by
        have : (⟨#[10]⟩ : ByteArray).size = 1 := rfl
        rw [List.length_append, HX.out, this]
        omega
      have BW3 : Hid (Calls _ _ _ _ _) := bwrite w.heap.size w.heap.size (acc ++ x.data.toList) ⟨#[10]⟩ w3 hbd3 hlx (by have := HS3.out; omega)
      have HB3 : Hid (_) := hb3
      have HK3 : Hid (_) := hk3
      clear hbd3 hb3 hk3 hlx
      go_wp2_with (go_at_call 59; refine Calls.mono BW3.out ?_; rintro r w4 ⟨rfl, hbd4, hb4, hk4⟩)
      go_roundw
      case rel =>
        have hz := HS.out
        have hz3 := HS3.out
        have hbb : Below w.heap.size w w3 := ⟨HB3.out.os.trans ((below_then HB.out HB2.out).os), HB3.out.tape.trans ((below_then HB.out HB2.out).tape), HB3.out.output.trans ((below_then HB.out HB2.out).output), by omega, fun k hk => (HB3.out.block k hk).trans ((below_then HB.out HB2.out).block k hk)⟩
        have hb4' : Below w.heap.size w w4 := ⟨hb4.os.trans hbb.os, hb4.tape.trans hbb.tape, hb4.output.trans hbb.output, Nat.le_trans hbb.size hb4.size, fun k hk => (hb4.block k hk).trans (hbb.block k hk)⟩
        refine ⟨m + 1, by omega, by go_num, hb4', Nat.le_trans hz3 hb4.size, ?_, .inr ⟨ib, rfl, hib, rowS_kept (rowS_kept (HROWr.out.step HB2.out) HK3.out (by omega)) hk4 (by omega)⟩⟩
        show Lib.IsBuilderF _ _ _ _ (Lib.byteCells (bkT (C.take (m + 1)))) w4
        rw [HTK.out, ← HX.out]
        exact hbd4
      case measure => simp [intOf]; omega
    · have hfin : C.take m = C := List.take_of_length_le (by omega)
      have HBE : Hid (Calls Tryz.prog 60 #[.pointer (some ⟨w.heap.size, 0, none⟩)] wr fun r w' => r = .returned (.string (bs (bkT C))) ∧ Below w.heap.size wr w') := by
        have := HBD.out
        rw [hfin] at this
        exact bstring w.heap.size w.heap.size (bkT C) wr this (by have := HS.out; omega)
      clear HR HBD hfin
      rw [HTX.out] at HBE
      go_wp2_with (go_at_call 60; refine Calls.mono HBE.out ?_; rintro r w5 ⟨rfl, hb5⟩)
      go_ret
      exact ⟨rfl, ⟨hb5.os.trans HB.out.os, hb5.tape.trans HB.out.tape, hb5.output.trans HB.out.output, Nat.le_trans HB.out.size hb5.size, fun k hk => (hb5.block k hk).trans (HB.out.block k hk)⟩⟩
end Go.Proofs.YtbhfnloheijhdaaGreatDoor

/- Package book's Same: by the texts. -/
namespace Go.Proofs.YtbhfnloheijhdaaGreatDoor
open Go Go.RowKit Cal
attribute [local go_sem] Oper.semAt_some

theorem same_C (a b : Value) (ta tb : ByteArray) (w : World) (ha : Calls Tryz.prog 20 #[a] w fun r w' => r = .returned (.string ta) ∧ Below w.heap.size w w')
    (hb : ∀ W, Below w.heap.size w W → Calls Tryz.prog 20 #[b] W fun r w' => r = .returned (.string tb) ∧ Below W.heap.size W w') :
    Calls Tryz.prog 22 #[a, b] w fun r w' => r = .returned (.bool (ta.toList == tb.toList)) ∧ Below w.heap.size w w' := by
  have HA : Hid (Calls _ _ _ _ _) := ha
  have HB : Hid (∀ W, Below w.heap.size w W → Calls Tryz.prog 20 #[b] W fun r w' => r = .returned (.string tb) ∧ Below W.heap.size W w') := hb
  clear ha hb
  go_enter Tryz.func22, Tryz.ntmps22
  go_wp2_with fail
  go_at_call 20
  refine Calls.mono HA.out ?_
  rintro r w1 ⟨rfl, hb1⟩
  have HB1 : Hid (Calls _ _ _ _ _) := HB.out w1 hb1
  go_wp2_with (go_at_call 20; refine Calls.mono HB1.out ?_; rintro r w2 ⟨rfl, hb2⟩)
  go_ret
  exact ⟨rfl, below_then hb1 hb2⟩
end Go.Proofs.YtbhfnloheijhdaaGreatDoor

/- The law DiffChain. -/
namespace Go.Proofs.YtbhfnloheijhdaaGreatDoor
open Go Go.RowKit Go.Shelf Cal
attribute [local go_sem] Oper.semAt_some

theorem bookOf_C (Es : List EV) (v : Value) (s : Nat → Addr) (w : World) (g : GlobK s w) (hE : EvsL w v Es) (h70 : Es.length ≤ 70) (hl : ∀ E ∈ Es, lngE E = 0) :
    Calls Tryz.prog 19 #[v] w fun r w' => ∃ lo bb mo n va vn vc, r = .returned (.tuple #[.pointer (some ⟨bb, 0, none⟩), .agg #[.slice va vn vc]]) ∧ BookAt lo w' bb mo n (calOf Es) ∧ n ≤ 70 ∧ Below w.heap.size w w' := by
  refine Calls.mono (bookOf_any Es v s w g hE h70 hl) ?_
  rintro r w' ⟨bb, mo, n, vm, Xs, rfl, _, h1, h2, hmr, _, _, h3⟩
  obtain ⟨oa, oc, rfl, _, _⟩ := hmr.form
  exact ⟨_, bb, mo, n, _, _, _, rfl, h1, h2, h3⟩
theorem same_ok (la ba na : Nat) (ma : Option Nat) (lb bb nb : Nat) (mb : Option Nat) (C : List EV) (s : Nat → Addr) (w : World) (g : GlobD s w) (hX : BookAt la w ba ma na C) (hY : BookAt lb w bb mb nb C) (hn1 : na ≤ 100000) (hn2 : nb ≤ 100000) (hC : C.length ≤ 60) :
    Calls Tryz.prog 22 #[.pointer (some ⟨ba, 0, none⟩), .pointer (some ⟨bb, 0, none⟩)] w fun r w' => r = .returned (.bool true) ∧ Below w.heap.size w w' := by
  refine Calls.mono (same_C _ _ _ _ w (btext_C la ba na ma C s w g.gk g.gr hX hn1 hC) (fun W hW => btext_C lb bb nb mb C s W (g.step hW).gk (g.step hW).gr (hY.step hW) hn2 hC)) ?_
  rintro r w' ⟨rfl, hb⟩
  exact ⟨by rw [beq_self_eq_true], hb⟩

/-- what Diff told, applied: the other calendar, or an error and none -/
theorem apply_dif (lx xb xn : Nat) (xm : Option Nat) (X : List EV) (ly yb yn : Nat) (ym : Option Nat) (Y : List EV) (base : Nat) (vl : Value) (s : Nat → Addr) (w : World) (g : GlobD s w) (hX : BookAt lx w xb xm xn X) (hY : BookAt ly w yb ym yn Y) (hx : X.length ≤ 60) (hy : Y.length ≤ 60) (hL : ChR base w vl (dif X Y)) :
    Calls Tryz.prog 32 #[.pointer (some ⟨xb, 0, none⟩), vl] w fun r w' => (∃ lp pb pm pn, r = .returned (.tuple #[.pointer (some ⟨pb, 0, none⟩), .nilIface]) ∧ BookAt lp w' pb pm pn Y ∧ pn ≤ 100000 ∧ Runs X (dif X Y) Y ∧ Below w.heap.size w w') ∨ (∃ T x, r = .returned (.tuple #[.pointer none, .iface T x]) ∧ Below w.heap.size w w') := by
  refine Calls.mono (applyAll_C lx xb xn xm X base vl (dif X Y) (dif_ok hX.ook hY.ook) (Nat.le_trans (dif_len hx hy) (by decide)) s w g hX hx hL) ?_
  rintro r w' (⟨C', mo', n', hr, rfl, hB, hn, _, hb⟩ | ⟨_, ⟨T, x, rfl⟩, hb⟩)
  · have e := dif_runs hX.rises.1 hY.rises.1 hX.ook hY.ook hr
    subst e
    exact .inl ⟨_, _, _, _, rfl, hB, Nat.le_trans hn (by decide), hr, hb⟩
  · exact .inr ⟨T, x, rfl, hb⟩
end Go.Proofs.YtbhfnloheijhdaaGreatDoor

/- The law's own sameChanges: two rows of changes with the same texts are the same. -/
namespace Go.Proofs.YtbhfnloheijhdaaGreatDoor
open Go Go.RowKit Go.Shelf Cal
attribute [local go_sem] Oper.semAt_some

theorem turn_turn (c : DC) : c.turn.turn = c := rfl
theorem back_back (l : List DC) : ((l.reverse.map DC.turn).reverse.map DC.turn) = l := by
  rw [← List.map_reverse, List.reverse_reverse, List.map_map]
  exact List.map_id'' turn_turn l

set_option maxRecDepth 100000 in
theorem sameChanges_any (b1 b2 : Nat) (v u : Value) (l : List DC) (hl : l.length ≤ 5000) (w : World) (h1 : ChR b1 w v l) (h2 : ChR b2 w u l) :
    Calls Tryz.prog 31 #[v, u] w fun r w' => r = .returned (.bool true) ∧ Below w.heap.size w w' := by
  obtain ⟨a, ca, rfl, hca, hA⟩ := h1.form
  obtain ⟨b, cb, rfl, hcb, hB⟩ := h2.form
  have HA : Hid (_) := hA
  have HB : Hid (_) := hB
  clear hA hB h1 h2
  generalize hL : l.length = L at hl hca hcb ⊢
  have HL : Hid (l.length = L) := hL
  clear hL
  go_enter Tryz.func31, Tryz.ntmps31
  go_wp2
  go_loopw [5] (fun i wr => ∃ k q : Nat, k ≤ L ∧ i = .int .i64 k ∧ wr = w.drewN q) (fun i _ => L - (intOf i).toNat)
  case atStart => exact ⟨0, 0, Nat.zero_le _, rfl, rfl⟩
  case round =>
    obtain ⟨k, q, hk, rfl, rfl⟩ := hrel
    by_cases hlt : k < L
    · have hkl : k < l.length := by rw [HL.out]; exact hlt
      obtain ⟨x, rfl, _, p0, p1, p2, p3⟩ := HA.out k hkl
      obtain ⟨y, rfl, _, q0, q1, q2, q3⟩ := HB.out k hkl
      have hlt' : (k : Int) < (L : Int) := by omega
      generalize l[k].id = ci at p0 q0
      generalize fieldB l[k].k = cf at p1 q1
      generalize bs (oT l[k].k l[k].a) = co at p2 q2
      generalize bs (oT l[k].k l[k].b) = cn at p3 q3
      clear HA HB
      go_wp2
      go_quiet (fail)
      go_wp2
      go_roundw
      case rel => exact ⟨k + 1, _, by omega, by go_num, rfl⟩
      case measure => simp [intOf]; omega
    · go_wp2
      go_ret
      exact ⟨rfl, drewN_below _ _⟩
end Go.Proofs.YtbhfnloheijhdaaGreatDoor

/- The law DiffBack. -/
namespace Go.Proofs.YtbhfnloheijhdaaGreatDoor
open Go Go.RowKit Go.Shelf Cal
attribute [local go_sem] Oper.semAt_some

theorem ChR.long {base N : Nat} {W : World} {v : Value} {l : List DC} (h : ChR base W v l) (hn : l.length = N) : ∃ a cap, v = .slice a N cap := by
  obtain ⟨a, cap, hv, _, _⟩ := h.form
  exact ⟨a, cap, by rw [hv, hn]⟩
/-- the changes turned round, applied: the first calendar, or an error and none -/
theorem apply_back (lx xb xn : Nat) (xm : Option Nat) (X : List EV) (ly yb yn : Nat) (ym : Option Nat) (Y : List EV) (base : Nat) (vl : Value) (s : Nat → Addr) (w : World) (g : GlobD s w) (hX : BookAt lx w xb xm xn X) (hY : BookAt ly w yb ym yn Y) (hx : X.length ≤ 60) (hy : Y.length ≤ 60) (hL : ChR base w vl ((dif X Y).reverse.map DC.turn)) :
    Calls Tryz.prog 32 #[.pointer (some ⟨yb, 0, none⟩), vl] w fun r w' => (∃ lp pb pm pn, r = .returned (.tuple #[.pointer (some ⟨pb, 0, none⟩), .nilIface]) ∧ BookAt lp w' pb pm pn X ∧ pn ≤ 100000 ∧ Below w.heap.size w w') ∨ (∃ T x, r = .returned (.tuple #[.pointer none, .iface T x]) ∧ Below w.heap.size w w') := by
  refine Calls.mono (applyAll_C ly yb yn ym Y base vl ((dif X Y).reverse.map DC.turn) (fun c hc => ?_) ?_ s w g hY hy hL) ?_
  · obtain ⟨d, hd, rfl⟩ := List.mem_map.1 hc
    exact turn_ok (dif_ok hX.ook hY.ook d (List.mem_reverse.1 hd))
  · have h1 := dif_len hx hy
    rw [List.length_map, List.length_reverse]
    omega
  · rintro r w' (⟨C', mo', n', hr, rfl, hB, hn, _, hb⟩ | ⟨_, ⟨T, x, rfl⟩, hb⟩)
    · have e := dif_back hX.rises.1 hY.rises.1 hX.ook hY.ook hr
      subst e
      exact .inl ⟨_, _, _, _, rfl, hB, Nat.le_trans hn (by decide), hb⟩
    · exact .inr ⟨T, x, rfl, hb⟩

set_option maxHeartbeats 4000000 in
set_option maxRecDepth 100000 in
theorem dback_all (E1 E2 : List EV) (v1 v2 : Value) (s : Nat → Addr) (w : World) (g : GlobD s w) (h1 : EvsL w v1 E1) (h2 : EvsL w v2 E2) :
    Calls Tryz.prog 5 #[v1, v2] w fun r w' => r = .returned (.bool true) ∧ Below w.heap.size w w' := by
  have DF : Hid (Calls _ _ _ _ _) := differed_any s w g
  have HG : Hid (GlobD s w) := g
  have LE : Hid (∀ (v : Value) (E : List EV) W, EvsL w v E → Below w.heap.size w W → Calls Tryz.prog 18 #[v] W fun r w' => ∃ k : Int, r = .returned (.int .i64 k) ∧ (k = 1 ∨ (k = 0 ∧ E.length ≤ 70 ∧ ∀ F ∈ E, lngE F = 0)) ∧ Below W.heap.size W w') := fun v E W h hW => longEvents_any E v W (h.step hW)
  have HV1 : Hid (EvsL w v1 E1) := h1
  have HV2 : Hid (EvsL w v2 E2) := h2
  clear g h1 h2
  go_enter Tryz.func5, Tryz.ntmps5
  go_upto_region 2 with (go_at_call 28; refine Calls.mono DF.out ?_; rintro r w1 ⟨rfl, hb1⟩)
  have B1 : Hid (Below w.heap.size w w1) := hb1
  clear hb1 DF
  go_upto_if 25 with (first
    | (go_at_call_of 18 v1; refine Calls.mono (LE.out v1 E1 _ HV1.out B1.out) ?_; rintro r w2 ⟨k1, rfl, hk1, hb2⟩; have B2 : Hid (Below w.heap.size w w2) := below_then B1.out hb2; have HK1 : Hid (k1 = 1 ∨ (k1 = 0 ∧ E1.length ≤ 70 ∧ ∀ F ∈ E1, lngE F = 0)) := hk1; have p1 : 0 ≤ k1 ∧ k1 ≤ 1 := (by rcases hk1 with rfl | ⟨rfl, _⟩ <;> decide); clear hk1 hb2)
    | (go_at_call_of 18 v2; refine Calls.mono (LE.out v2 E2 _ HV2.out B2.out) ?_; rintro r w3 ⟨k2, rfl, hk2, hb3⟩; have B3 : Hid (Below w.heap.size w w3) := below_then B2.out hb3; have HK2 : Hid (k2 = 1 ∨ (k2 = 0 ∧ E2.length ≤ 70 ∧ ∀ F ∈ E2, lngE F = 0)) := hk2; have p2 : 0 ≤ k2 ∧ k2 ≤ 1 := (by rcases hk2 with rfl | ⟨rfl, _⟩ <;> decide); clear hk2 hb3))
  by_cases hz : 0 < k1 + k2
  · go_wp2
    go_ret
    exact ⟨rfl, B3.out⟩
  · obtain ⟨a1, b1⟩ : E1.length ≤ 70 ∧ ∀ F ∈ E1, lngE F = 0 := by
      rcases HK1.out with q | ⟨_, q⟩
      · omega
      · exact q
    obtain ⟨a2, b2⟩ : E2.length ≤ 70 ∧ ∀ F ∈ E2, lngE F = 0 := by
      rcases HK2.out with q | ⟨_, q⟩
      · omega
      · exact q
    have BO1 : Hid (∀ W, Below w.heap.size w W → _) := fun W hW => bookOf_C E1 v1 s W (HG.out.step hW).gk (HV1.out.step hW) a1 b1
    have BO2 : Hid (∀ W, Below w.heap.size w W → _) := fun W hW => bookOf_C E2 v2 s W (HG.out.step hW).gk (HV2.out.step hW) a2 b2
    have HX60 : Hid ((calOf E1).length ≤ 60) := (calOf_ok E1).2
    have HY60 : Hid ((calOf E2).length ≤ 60) := (calOf_ok E2).2
    clear a1 b1 a2 b2 HK1 HK2 p1 p2 LE HV1 HV2
    generalize calOf E1 = X at BO1 HX60
    generalize calOf E2 = Y at BO2 HY60
    obtain ⟨N, hN⟩ : ∃ N, (dif X Y).length = N := ⟨_, rfl⟩
    have HN : Hid ((dif X Y).length = N) := hN
    have HN5 : Hid ((dif X Y).length ≤ 5000) := Nat.le_trans (dif_len HX60.out HY60.out) (by decide)
    have HM : Hid (((dif X Y).reverse.map DC.turn).length = N) := by
      show _ = _
      rw [List.length_map, List.length_reverse]
      exact hN
    have HM5 : Hid (((dif X Y).reverse.map DC.turn).length ≤ 5000) := by
      show _ ≤ _
      rw [List.length_map, List.length_reverse]
      exact HN5.out
    clear hN
    go_wp2_with (first
      | (go_at_call_of 19 v1; refine Calls.mono (BO1.out _ B3.out) ?_; rintro r w5 ⟨lx, xb, xm, xn, xa, xl, xc, rfl, hX, hxn, hb5⟩; have B5 : Hid (Below w.heap.size w (w5.alloc (.cells #[.slice xa xl xc] 46))) := below_then (below_then B3.out hb5) (below_alloc _ _); have X5 : Hid (BookAt lx (w5.alloc (.cells #[.slice xa xl xc] 46)) xb xm xn X) := hX.step (below_alloc _ _); have NX : Hid (xn ≤ 70) := hxn; clear hX hxn hb5)
      | (go_at_call_of 19 v2; refine Calls.mono (BO2.out _ B5.out) ?_; rintro r w6 ⟨ly, yb, ym, yn, ya, yl, yc, rfl, hY, hyn, hb6⟩; have B6 : Hid (Below w.heap.size w (w6.alloc (.cells #[.slice ya yl yc] 46))) := below_then (below_then B5.out hb6) (below_alloc _ _); have X6 : Hid (BookAt lx (w6.alloc (.cells #[.slice ya yl yc] 46)) xb xm xn X) := X5.out.step (below_then hb6 (below_alloc _ _)); have Y6 : Hid (BookAt ly (w6.alloc (.cells #[.slice ya yl yc] 46)) yb ym yn Y) := hY.step (below_alloc _ _); have NY : Hid (yn ≤ 70) := hyn; clear hY hyn hb6)
      | (go_at_call_of 29 (Value.pointer (some ⟨yb, 0, none⟩)); refine Calls.mono (diff_C lx xb xn xm X ly yb yn ym Y s (w6.alloc (.cells #[.slice ya yl yc] 46)) (HG.out.step B6.out) X6.out Y6.out (Nat.le_trans NX.out (by decide)) (Nat.le_trans NY.out (by decide)) HX60.out HY60.out) ?_; rintro r w8 ⟨vl, rfl, hL, hb8⟩; have B8 : Hid (Below w.heap.size w w8) := below_then B6.out hb8; have X8 : Hid (BookAt lx w8 xb xm xn X) := X6.out.step hb8; have Y8 : Hid (BookAt ly w8 yb ym yn Y) := Y6.out.step hb8; obtain ⟨la, lc, rfl⟩ := ChR.long hL HN.out; have L8 : Hid (ChR (w6.alloc (.cells #[.slice ya yl yc] 46)).heap.size w8 (.slice la N lc) (dif X Y)) := hL; clear hL hb8)
      | (go_at_call 30; refine Calls.mono (back_C (w6.alloc (.cells #[.slice ya yl yc] 46)).heap.size (.slice la N lc) (dif X Y) HN5.out w8 L8.out) ?_; rintro r w9 ⟨vm, rfl, hM, hb9⟩; have B9 : Hid (Below w.heap.size w w9) := below_then B8.out hb9; have X9 : Hid (BookAt lx w9 xb xm xn X) := X8.out.step hb9; have Y9 : Hid (BookAt ly w9 yb ym yn Y) := Y8.out.step hb9; have L9 : Hid (ChR (w6.alloc (.cells #[.slice ya yl yc] 46)).heap.size w9 (.slice la N lc) (dif X Y)) := L8.out.step hb9; obtain ⟨ma, mc, rfl⟩ := ChR.long hM HM.out; have M9 : Hid (ChR w8.heap.size w9 (.slice ma N mc) ((dif X Y).reverse.map DC.turn)) := hM; clear hM hb9))
    refine Calls.mono (diff_C lx xb xn xm X lx xb xn xm X s w9 (HG.out.step B9.out) X9.out X9.out (Nat.le_trans NX.out (by decide)) (Nat.le_trans NX.out (by decide)) HX60.out HX60.out) ?_
    rintro r w10 ⟨vs, rfl, hS, hb10⟩
    have hS0 : ChR w9.heap.size w10 vs (dif X X) := hS
    rw [dif_self] at hS0
    obtain ⟨sa, sc, rfl⟩ := ChR.long (N := 0) hS0 rfl
    have B10 : Hid (Below w.heap.size w w10) := below_then B9.out hb10
    have X10 : Hid (BookAt lx w10 xb xm xn X) := X9.out.step hb10
    have Y10 : Hid (BookAt ly w10 yb ym yn Y) := Y9.out.step hb10
    have L10 : Hid (ChR (w6.alloc (.cells #[.slice ya yl yc] 46)).heap.size w10 (.slice la N lc) (dif X Y)) := L9.out.step hb10
    have M10 : Hid (ChR w8.heap.size w10 (.slice ma N mc) ((dif X Y).reverse.map DC.turn)) := M9.out.step hb10
    clear hS hS0 hb10 B1 B2 B3 B5 B6 B8 B9 X5 X6 X8 X9 Y6 Y8 Y9 L8 L9 M9 BO1 BO2
    go_wp2_with (first
      | (go_at_call 30; refine Calls.mono (back_C w8.heap.size (.slice ma N mc) ((dif X Y).reverse.map DC.turn) HM5.out w10 M10.out) ?_; rintro r w11 ⟨vb, rfl, hBk, hb11⟩; have K11 : Hid (ChR w10.heap.size w11 vb (dif X Y)) := (by rw [back_back] at hBk; exact hBk); have B11 : Hid (Below w10.heap.size w10 w11) := hb11; clear hBk hb11)
      | (go_at_call 31; refine Calls.mono (sameChanges_any _ _ vb (.slice la N lc) (dif X Y) HN5.out w11 K11.out (L10.out.step B11.out)) ?_; rintro r w12 ⟨rfl, hb12⟩; have B12 : Hid (Below w10.heap.size w10 w12) := below_then B11.out hb12; clear hb12))
    have X12 : Hid (BookAt lx w12 xb xm xn X) := X10.out.step B12.out
    have Y12 : Hid (BookAt ly w12 yb ym yn Y) := Y10.out.step B12.out
    have AP1 : Hid (Calls _ _ _ _ _) := apply_dif lx xb xn xm X ly yb yn ym Y _ (.slice la N lc) s w12 (HG.out.step (below_then B10.out B12.out)) X12.out Y12.out HX60.out HY60.out (L10.out.step B12.out)
    refine Calls.mono AP1.out ?_
    rintro r w13 (⟨lp, pb, pm, pn, rfl, hP, hpn, _, hb13⟩ | ⟨T1, x1, rfl, hb13⟩)
    · have B13 : Hid (Below w12.heap.size w12 w13) := hb13
      have P13 : Hid (BookAt lp w13 pb pm pn Y) := hP
      have NP : Hid (pn ≤ 100000) := hpn
      clear hb13 hP hpn AP1
      go_wp2_with (go_at_call_of 22 (Value.pointer (some ⟨pb, 0, none⟩)); refine Calls.mono (same_ok lp pb pn pm ly yb yn ym Y s w13 (HG.out.step (below_then (below_then B10.out B12.out) B13.out)) P13.out (Y12.out.step B13.out) NP.out (Nat.le_trans NY.out (by decide)) HY60.out) ?_; rintro r w14 ⟨rfl, hb14⟩; have B14 : Hid (Below w12.heap.size w12 w14) := below_then B13.out hb14; clear hb14)
      have AP2 : Hid (Calls _ _ _ _ _) := apply_back lx xb xn xm X ly yb yn ym Y _ (.slice ma N mc) s w14 (HG.out.step (below_then (below_then B10.out B12.out) B14.out)) (X12.out.step B14.out) (Y12.out.step B14.out) HX60.out HY60.out ((M10.out.step B12.out).step B14.out)
      refine Calls.mono AP2.out ?_
      rintro r w15 (⟨lq, qb, qm, qn, rfl, hQ, hqn, hb15⟩ | ⟨T2, x2, rfl, hb15⟩)
      · have B15 : Hid (Below w12.heap.size w12 w15) := below_then B14.out hb15
        have Q15 : Hid (BookAt lq w15 qb qm qn X) := hQ
        have NQ : Hid (qn ≤ 100000) := hqn
        clear hb15 hQ hqn AP2
        go_wp2_with (go_at_call_of 22 (Value.pointer (some ⟨qb, 0, none⟩)); refine Calls.mono (same_ok lq qb qn qm lx xb xn xm X s w15 (HG.out.step (below_then (below_then B10.out B12.out) B15.out)) Q15.out (X12.out.step B15.out) NQ.out (Nat.le_trans NX.out (by decide)) HX60.out) ?_; rintro r w16 ⟨rfl, hb16⟩)
        go_ret
        exact ⟨rfl, below_then (below_then (below_then B10.out B12.out) B15.out) hb16⟩
      · go_wp2
        go_ret
        exact ⟨rfl, below_then (below_then (below_then B10.out B12.out) B14.out) hb15⟩
    · go_wp2
      go_ret
      exact ⟨rfl, below_then (below_then B10.out B12.out) hb13⟩
end Go.Proofs.YtbhfnloheijhdaaGreatDoor

/- The closed facts of the law DiffBack's row, one by one. -/
namespace Go.Proofs.YtbhfnloheijhdaaGreatDoor

theorem dbk_z1 : Rows.diffBackRow.wf (OpenSpec.ofChange Rows.diffBackSpec) = true := by kernel_rfl
theorem dbk_z2 : laidOutB Tryz.prog = true := by kernel_rfl
theorem dbk_z3 : mapsRowed Tryz.prog = true := by kernel_rfl
theorem dbk_z4 : Tryz.f5.params.all (Tryz.prog.readableRec ·) = true := by kernel_rfl
theorem dbk_z5 : namedTie Tryz.prog Rows.diffBackRow.named Rows.diffBackSpec.vars = true := by kernel_rfl
theorem dbk_z6 : (Rows.diffBackRow.inPlace == Tryz.prog.inPlace 5) = true := by kernel_rfl
theorem dbk_z7 : (Rows.diffBackRow.unfollowed == Tryz.prog.unfollowed 5) = true := by kernel_rfl
theorem dbk_z8 : (Rows.diffBackRow.recurses == Tryz.prog.recurses 5) = true := by kernel_rfl
theorem dbk_z9 : (Rows.diffBackRow.named == Tryz.prog.varsNamed 5) = true := by kernel_rfl
theorem dbk_z10 : (Rows.diffBackRow.plainKeys == Tryz.prog.plainKeys) = true := by kernel_rfl
theorem dbk_z11 : Tryz.prog.stopsHeard = true := by kernel_rfl
theorem dbk_z12 : Tryz.prog.mayEnter = true := by kernel_rfl
theorem dbk_z13 : (Rows.diffBackRow.lifted == Tryz.prog.liftsFinal) = true := by kernel_rfl
theorem dbk_z14 : (Tryz.prog.make == some Rows.diffBackRow.make) = true := by kernel_rfl
theorem dbk_closed : joinedFacts Tryz.prog 5 Tryz.f5 Rows.diffBackSpec Rows.diffBackRow = true := by
  unfold joinedFacts
  rw [dbk_z1, dbk_z2, dbk_z3, dbk_z4, dbk_z5, dbk_z6, dbk_z7, dbk_z8, dbk_z9, dbk_z10, dbk_z11, dbk_z12, dbk_z13, dbk_z14]
  kernel_rfl
end Go.Proofs.YtbhfnloheijhdaaGreatDoor
