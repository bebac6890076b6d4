/- Package book's Text: the events' texts, a line each. -/
import Derived.Test.YtjhlbkjcchejjaaGreatDoorYaS
import Derived.Test.YtjhlbkjcchejjaaGreatDoorYaL
import Derived.Test.YtjhlbkjcchejjaaGreatDoorYaF
import Derived.Shelf.Strings.BuilderK
import Derived.Test.YtjhlbkjcchejjaaGreatDoorYbA
import Derived.Test.YtjhlbkjcchejjaaGreatDoorYaR
import Derived.Laws.AppendOwnNone
namespace Go.Proofs.YtjhlbkjcchejjaaGreatDoor
open Go Go.RowKit Go.Maps Go.Shelf Cal
attribute [local go_sem] Oper.semAt_some

/-- a calendar's text -/
noncomputable def bkT (C : List EV) : List UInt8 := C.flatMap fun E => eT E ++ [10]
theorem bkT_len {C : List EV} (h : ∀ E ∈ C, EW E ∧ E.ds.length ≤ 20) : (bkT C).length ≤ C.length * 10001 := by
  induction C with
  | nil => simp [bkT]
  | cons E r ih =>
    have h1 := eT_len (h E (List.mem_cons_self)).1 (h E (List.mem_cons_self)).2
    have h2 := ih (fun F hF => h F (List.mem_cons_of_mem _ hF))
    have e : bkT (E :: r) = eT E ++ [10] ++ bkT r := rfl
    rw [e, List.length_append, List.length_append, List.length_cons]
    simp only [List.length_cons, List.length_nil]
    omega
theorem bkT_snoc (C : List EV) (E : EV) : bkT (C ++ [E]) = bkT C ++ eT E ++ [10] := by
  unfold bkT
  rw [List.flatMap_append, List.flatMap_cons, List.flatMap_nil, List.append_nil, List.append_assoc]

theorem builder_step {T e : TypeId} {B b : Nat} {l : List Value} {w w' : World} (h : Lib.IsBuilderF T e B b l w) (hb : Below w.heap.size w w') : Lib.IsBuilderF T e B b l w' := by
  have key : ∀ p, Lib.BuilderAtF T e B b p l w → Lib.BuilderAtF T e B b p l w' := fun p ⟨h1, v, h2, h3, h4⟩ => ⟨h1, v, (hb.block _ (Array.getElem?_eq_some_iff.1 h2).1).trans h2, h3.kept (grown_below hb none) (by cases v.ownBlock <;> simp), h4⟩
  exact h.imp (key _) (key _)
theorem bwrite (B b : Nat) (l : List UInt8) (x : ByteArray) (w : World) (h : Lib.IsBuilderF 119 5 B b (Lib.byteCells l) w) (hlen : l.length + x.size ≤ 140737488355328) (hB : B ≤ w.heap.size) :
    Calls Tryz.prog 76 #[.pointer (some ⟨b, 0, none⟩), .string x] w fun r w' => r = .returned (.tuple #[.int .i64 x.size, .nilIface]) ∧ Lib.IsBuilderF 119 5 B b (Lib.byteCells (l ++ x.data.toList)) w' ∧ Below B w w' ∧ Lib.OthersKept 5 (some b) w w' := by
  refine Calls.mono (Any.Builder_WriteString_k { Tryz.lays156 with } Tryz.Builder_Extra_156 B b (Lib.byteCells l) x w h (by rw [Lib.byteCells_length]; exact hlen) hB) ?_
  rintro r w' ⟨rfl, h1, h2, h3⟩
  refine ⟨rfl, .inr ?_, h2, h3⟩
  rw [Lib.byteCells_append, ← Lib.strCells_eq]
  exact h1
theorem bstring (B b : Nat) (l : List UInt8) (w : World) (h : Lib.IsBuilderF 119 5 B b (Lib.byteCells l) w) (hB : B ≤ w.heap.size) :
    Calls Tryz.prog 77 #[.pointer (some ⟨b, 0, none⟩)] w fun r w' => r = .returned (.string (bs l)) ∧ Below B w w' := by
  refine Calls.mono (Any.Builder_String_any_k { Tryz.lays156 with } Tryz.Builder_Extra_156 B b l w h hB) ?_
  rintro r w' ⟨rfl, h1, h2, h3⟩
  exact ⟨rfl, h2⟩
/-- a row of texts stays while a builder is written -/
theorem rowS_kept {W W' : World} {B b cap : Nat} {l : List ByteArray} (h : RowS W B cap l) (hk : Lib.OthersKept 5 (some b) W W') (hne : B ≠ b) : RowS W' B cap l := by
  obtain ⟨⟨cur, h1, h2, h3⟩, h4⟩ := h
  exact ⟨⟨cur, hk B _ h1 (fun q => hne (Option.some.inj q)) (fun c fz q => by injection q with _ q2 _; exact absurd q2 (by decide)), h2, h3⟩, h4⟩

set_option maxHeartbeats 2000000 in
set_option maxRecDepth 100000 in
theorem btext_C (lo bb n : Nat) (mo : Option Nat) (C : List EV) (s : Nat → Addr) (w : World) (gk : GlobK s w) (g : GlobR w) (h : BookAt lo w bb mo n C) (hn : n ≤ 100000) (hC : C.length ≤ 60) :
    Calls Tryz.prog 54 #[.pointer (some ⟨bb, 0, none⟩)] w fun r w' => r = .returned (.string (bs (bkT C))) ∧ Below w.heap.size w w' := by
  have hbk := h
  obtain ⟨D, h1, h2, h3, h4⟩ := h
  have hw20 : ∀ E ∈ C, EW E ∧ E.ds.length ≤ 20 := fun E hE => (h4.at_ E hE).1
  have AL : Hid (Calls _ _ _ _ _) := all_any bb mo n D w h1
  have hA := below_alloc w (.cells #[.pointer none, .slice none 0 0] 119)
  have ID : Hid (Calls _ _ _ _ _) := ids_C lo bb n mo C _ (hbk.step hA) hn
  have HBD : Hid (Lib.IsBuilderF 119 5 w.heap.size w.heap.size (Lib.byteCells []) (w.alloc (.cells #[.pointer none, .slice none 0 0] 119))) := Lib.IsBuilderF.of (Lib.fresh_isBuilder _ _ w)
  have HA : Hid (_) := hA
  have hz : (w.alloc (.cells #[.pointer none, .slice none 0 0] 119)).heap.size = w.heap.size + 1 := World.size_alloc _ _
  have HZ : Hid (_) := hz
  have HBK : Hid (Bok w bb mo n D) := h1
  generalize htx : bs (bkT C) = tx
  have HTX : Hid (bs (bkT C) = tx) := htx
  clear htx
  have HH : Hid (Holds (NotIn lo bb mo) w D C) := h4
  have HW20 : Hid (_) := hw20
  have GK : Hid (GlobK s w) := gk
  have G : Hid (GlobR w) := g
  have hLn : (bkT C).length ≤ 1000000 := by have := bkT_len hw20; omega
  clear hA hz h1 h4 hw20 gk g hbk
  go_enter Tryz.func54, Tryz.ntmps54
  generalize hw0 : w.alloc (.cells #[.pointer none, .slice none 0 0] 119) = w0 at ID HBD HA HZ
  have hL2 : (C.map EV.id).length ≤ 80000 := by rw [List.length_map]; omega
  go_wp2_with (first
    | (go_at_call 97; refine Calls.mono AL.out ?_; rintro r w' ⟨rfl, hq⟩; have hq := hq.symm; subst hq)
    | (go_at_call 90; refine Calls.mono ID.out ?_; rintro r w1 ⟨vid, rfl, hrid, hb1⟩; have HRID : Hid (RowV w0.heap.size w1 vid (C.map EV.id)) := hrid; obtain ⟨ia, ic, rfl, _, hcl, _⟩ := hrid.txs hL2))
  have B1 : Hid (Below w.heap.size w w1) := below_then HA.out hb1
  have HBD1 : Hid (Lib.IsBuilderF 119 5 w.heap.size w.heap.size (Lib.byteCells (bkT [])) w1) := builder_step HBD.out hb1
  have hs1 : w.heap.size + 1 ≤ w1.heap.size := by rw [← HZ.out]; exact hb1.size
  rw [List.length_map] at hcl
  have HROW : Hid (∀ W, Below w1.heap.size w1 W → (C.length = 0 ∨ ∃ ib, ia = some ⟨ib, 0, none⟩ ∧ w.heap.size < ib ∧ RowS W ib ic (C.map EV.id))) := fun W hW => by
    rcases HRID.out with ⟨q1, q2⟩ | ⟨ib, cap, q1, q2, q3⟩
    · left
      have := congrArg List.length q2
      simpa using this
    · right
      have hz := HZ.out
      have e1 : ia = some ⟨ib, 0, none⟩ ∧ ic = cap := by
        rw [List.length_map] at q1
        injection q1 with a1 a2 a3
        exact ⟨a1, a3⟩
      exact ⟨ib, e1.1, by omega, by rw [e1.2]; exact q3.step hW⟩
  clear AL ID HBD hb1 hrid HRID
  go_loopw [12] (fun i wr => ∃ m : Nat, m ≤ C.length ∧ i = .int .i64 m ∧ Hid (Below w.heap.size w wr) ∧ Hid (w.heap.size + 1 ≤ wr.heap.size) ∧ Hid (Lib.IsBuilderF 119 5 w.heap.size w.heap.size (Lib.byteCells (bkT (C.take m))) wr) ∧ Hid (C.length = 0 ∨ ∃ ib, ia = some ⟨ib, 0, none⟩ ∧ w.heap.size < ib ∧ RowS wr ib ic (C.map EV.id))) (fun i _ => C.length - (intOf i).toNat)
  case atStart => exact ⟨0, Nat.zero_le _, rfl, B1.out, hs1, HBD1.out, HROW.out _ (Below.refl _ _)⟩
  case round =>
    obtain ⟨m, hm, rfl, HB, HS, HBD, HR⟩ := hrel
    by_cases hlt : m < C.length
    · obtain ⟨ib, rfl, hib, hrow⟩ : ∃ ib, ia = some ⟨ib, 0, none⟩ ∧ w.heap.size < ib ∧ RowS wr ib ic (C.map EV.id) := by
        rcases HR.out with q | q
        · omega
        · exact q
      have hcr := hrow.cell m (by rw [List.length_map]; exact hlt)
      rw [List.getElem_map] at hcr
      have hE : C[m] ∈ C := List.getElem_mem hlt
      obtain ⟨⟨hw, h20⟩, sl, skv, mvv, q1, q2⟩ := HH.out.at_ C[m] hE
      obtain ⟨i12, _, _, _⟩ := ew_bd hw
      have q2' := q2.step HB.out
      have ET : Hid (Calls Tryz.prog 11 #[ev C[m] sl skv mvv] wr fun r w' => r = .returned (.string (bs (eT C[m]))) ∧ Below wr.heap.size wr w') := etext_any C[m] sl skv mvv s wr (GK.out.step HB.out) (G.out.step HB.out) (q2'.ls h20).d (q2'.ls h20).s (q2'.ls h20).m hw
      obtain ⟨a1, c1, rfl, _⟩ := q2.d
      obtain ⟨a2, c2, rfl, _⟩ := q2.s
      obtain ⟨a3, c3, rfl, _⟩ := q2.m
      unfold ev at ET q1
      have LK := look1_eq (HBK.out.step HB.out) (show C[m].id.size ≤ 1000 by omega) q1
      have HTK : Hid (bkT (C.take (m + 1)) = bkT (C.take m) ++ eT C[m] ++ [10]) := by
        show _ = _
        rw [List.take_succ_eq_append_getElem hlt, bkT_snoc]
      have hl1 : (bkT (C.take m)).length ≤ 1000000 := by
        have := bkT_len (C := C.take m) (fun F hF => HW20.out F (List.mem_of_mem_take hF))
        rw [List.length_take] at this
        omega
      have hl2 : (eT C[m]).length ≤ 10000 := eT_len hw h20
      have hl2' : (bs (eT C[m])).size = (eT C[m]).length := by rw [Lib.size_eq, bs_data]
      have HROWr : Hid (RowS wr ib ic (C.map EV.id)) := hrow
      clear HR q1 q2 q2' hw h20 hE hrow
      generalize C[m] = E at hcr ET LK HTK hl2 hl2' i12
      generalize bkT (C.take m) = acc at HBD HTK hl1
      generalize hx : bs (eT E) = x at ET hl2'
      have HX : Hid (x.data.toList = eT E) := by show _ = _; rw [← hx, bs_data]
      clear hx
      have HBW : Hid (∀ (W : World), Below wr.heap.size wr W → Calls Tryz.prog 76 #[.pointer (some ⟨w.heap.size, 0, none⟩), .string x] W fun r w' => r = .returned (.tuple #[.int .i64 x.size, .nilIface]) ∧ Lib.IsBuilderF 119 5 w.heap.size w.heap.size (Lib.byteCells (acc ++ x.data.toList)) w' ∧ Below w.heap.size W w' ∧ Lib.OthersKept 5 (some w.heap.size) W w') := fun W hW => bwrite w.heap.size w.heap.size acc x W (builder_step HBD.out hW) (by omega) (Nat.le_trans (by have := HS.out; omega) hW.size)
      go_upto_region 7 with (first
        | (go_at_call 11; refine Calls.mono ET.out ?_; rintro r w2 ⟨rfl, hb2⟩; have BW2 : Hid (Calls _ _ _ _ _) := HBW.out w2 hb2; have HB2 : Hid (Below wr.heap.size wr w2) := hb2)
        | (go_at_call 76; refine Calls.mono BW2.out ?_; rintro r w3 ⟨rfl, hbd3, hb3, hk3⟩))
      have HS3 : Hid (w.heap.size + 1 ≤ w3.heap.size) := Nat.le_trans HS.out (Nat.le_trans HB2.out.size hb3.size)
      have hlx : (acc ++ x.data.toList).length + (⟨#[10]⟩ : ByteArray).size ≤ 140737488355328 := by
        have : (⟨#[10]⟩ : ByteArray).size = 1 := rfl
        rw [List.length_append, HX.out, this]
        omega
      have BW3 : Hid (Calls _ _ _ _ _) := bwrite w.heap.size w.heap.size (acc ++ x.data.toList) ⟨#[10]⟩ w3 hbd3 hlx (by have := HS3.out; omega)
      have HB3 : Hid (_) := hb3
      have HK3 : Hid (_) := hk3
      clear hbd3 hb3 hk3 hlx
      go_wp2_with (go_at_call 76; refine Calls.mono BW3.out ?_; rintro r w4 ⟨rfl, hbd4, hb4, hk4⟩)
      go_roundw
      case rel =>
        have hz := HS.out
        have hz3 := HS3.out
        have hbb : Below w.heap.size w w3 := ⟨HB3.out.os.trans ((below_then HB.out HB2.out).os), HB3.out.tape.trans ((below_then HB.out HB2.out).tape), HB3.out.output.trans ((below_then HB.out HB2.out).output), by omega, fun k hk => (HB3.out.block k hk).trans ((below_then HB.out HB2.out).block k hk)⟩
        have hb4' : Below w.heap.size w w4 := ⟨hb4.os.trans hbb.os, hb4.tape.trans hbb.tape, hb4.output.trans hbb.output, Nat.le_trans hbb.size hb4.size, fun k hk => (hb4.block k hk).trans (hbb.block k hk)⟩
        refine ⟨m + 1, by omega, by go_num, hb4', Nat.le_trans hz3 hb4.size, ?_, .inr ⟨ib, rfl, hib, rowS_kept (rowS_kept (HROWr.out.step HB2.out) HK3.out (by omega)) hk4 (by omega)⟩⟩
        show Lib.IsBuilderF _ _ _ _ (Lib.byteCells (bkT (C.take (m + 1)))) w4
        rw [HTK.out, ← HX.out]
        exact hbd4
      case measure => simp [intOf]; omega
    · have hfin : C.take m = C := List.take_of_length_le (by omega)
      have HBE : Hid (Calls Tryz.prog 77 #[.pointer (some ⟨w.heap.size, 0, none⟩)] wr fun r w' => r = .returned (.string (bs (bkT C))) ∧ Below w.heap.size wr w') := by
        have := HBD.out
        rw [hfin] at this
        exact bstring w.heap.size w.heap.size (bkT C) wr this (by have := HS.out; omega)
      clear HR HBD hfin
      rw [HTX.out] at HBE
      go_wp2_with (go_at_call 77; refine Calls.mono HBE.out ?_; rintro r w5 ⟨rfl, hb5⟩)
      go_ret
      exact ⟨rfl, ⟨hb5.os.trans HB.out.os, hb5.tape.trans HB.out.tape, hb5.output.trans HB.out.output, Nat.le_trans HB.out.size hb5.size, fun k hk => (hb5.block k hk).trans (HB.out.block k hk)⟩⟩
end Go.Proofs.YtjhlbkjcchejjaaGreatDoor

/- Package book's Same: by the texts. -/
namespace Go.Proofs.YtjhlbkjcchejjaaGreatDoor
open Go Go.RowKit Cal
attribute [local go_sem] Oper.semAt_some

theorem same_C (a b : Value) (ta tb : ByteArray) (w : World) (ha : Calls Tryz.prog 54 #[a] w fun r w' => r = .returned (.string ta) ∧ Below w.heap.size w w')
    (hb : ∀ W, Below w.heap.size w W → Calls Tryz.prog 54 #[b] W fun r w' => r = .returned (.string tb) ∧ Below W.heap.size W w') :
    Calls Tryz.prog 23 #[a, b] w fun r w' => r = .returned (.bool (ta.toList == tb.toList)) ∧ Below w.heap.size w w' := by
  have HA : Hid (Calls _ _ _ _ _) := ha
  have HB : Hid (∀ W, Below w.heap.size w W → Calls Tryz.prog 54 #[b] W fun r w' => r = .returned (.string tb) ∧ Below W.heap.size W w') := hb
  clear ha hb
  go_enter Tryz.func23, Tryz.ntmps23
  go_wp2_with fail
  go_at_call 54
  refine Calls.mono HA.out ?_
  rintro r w1 ⟨rfl, hb1⟩
  have HB1 : Hid (Calls _ _ _ _ _) := HB.out w1 hb1
  go_wp2_with (go_at_call 54; refine Calls.mono HB1.out ?_; rintro r w2 ⟨rfl, hb2⟩)
  go_ret
  exact ⟨rfl, below_then hb1 hb2⟩
end Go.Proofs.YtjhlbkjcchejjaaGreatDoor

/- The law DiffChain. -/
namespace Go.Proofs.YtjhlbkjcchejjaaGreatDoor
open Go Go.RowKit Go.Shelf Cal
attribute [local go_sem] Oper.semAt_some

/-- append of a row of changes to one that is owned -/
theorem app_ch {ops : Array Oper} {rest : List Oper} {o : Oper} {a : Act} {Q : Exit → Act → World → Prop} {w : World} (hgd : o.guard = none) (s x : Operand)
    (ho : o.op = .call { callee := .builtin .append, args := #[s, x], argTypes := #[49, 49] })
    (base b2 : Nat) (l1 l2 : List DC) (v u : Value) (hs : a.eval s = v) (hown : ChR base w v l1) (hx : a.eval x = u) (hg : ChR b2 w u l2) (hl : l1.length + l2.length ≤ 5000) (hbase : base ≤ w.heap.size)
    (h : ∀ v' w', ChR base w' v' (l1 ++ l2) → Below base w w' → wpList Tryz.prog ops Q rest (a.put o.dst v') w') : wpList Tryz.prog ops Q (o :: rest) a w := by
  obtain ⟨i0, hi, hz0, hz1, hz2⟩ := info_parts info_change
  rcases hg.2 with ⟨hv, h0⟩ | ⟨g, cap, cur, hv, _, hgc, hcap, _, _, htake⟩
  · have e : l2 = [] := List.eq_nil_of_length_eq_zero h0
    refine wpList_append_own_none hgd s x 49 ho base 82 i0 4 Tryz.underlying49 hi v l1.length (l1.flatMap DC.cells) hs hown (hx.trans hv) ?_
    exact h v w (by rw [e, List.append_nil]; exact hown) (Below.refl _ _)
  · refine wpList_append_own w hgd s x 49 ho base 82 i0 (.agg #[.string ⟨#[]⟩, .string ⟨#[]⟩, .string ⟨#[]⟩, .string ⟨#[]⟩]) 4 64 Tryz.underlying49 hi hz0 hz1 hz2 rfl (by decide) v l1.length (l1.flatMap DC.cells) hs hown ⟨g, 0, none⟩ l2.length cap (l2.flatMap DC.cells) (hx.trans hv) hg.1 ?_ (fun u hu => ?_) (by unfold maxLen; omega) (by omega) hbase ?_
    · intro j u hj
      have hc : w.cell? ⟨g, j, none⟩ = some u := by
        have h' : cur.toList[j]? = some u := by
          rw [← htake] at hj
          obtain ⟨hlt, he⟩ := List.getElem?_eq_some_iff.1 hj
          rw [List.getElem_take] at he
          exact List.getElem?_eq_some_iff.2 ⟨by rw [List.length_take] at hlt; omega, he⟩
        rw [Array.getElem?_toList] at h'
        simp [World.cell?, hgc, h']
      cases j with
      | zero => exact hc
      | succ j => simpa [Addr.add] using hc
    · obtain ⟨c, _, hu⟩ := List.mem_flatMap.1 hu
      unfold DC.cells at hu
      simp only [List.mem_cons, List.not_mem_nil, or_false] at hu
      rcases hu with rfl | rfl | rfl | rfl <;> rfl
    · intro v' w' h1 h2 _
      refine h v' w' ?_ ?_
      · show World.ownsRow _ _ _ _ _ _ _
        rw [List.length_append, List.flatMap_append]
        exact h1
      · exact ⟨h2.os, h2.tape, h2.output, h2.size, fun k hk => h2.block k (by omega) (fun q => by have := (World.ownsRow.lt hown k q.symm).1; omega)⟩

theorem bookOf_C (Es : List EV) (v : Value) (s : Nat → Addr) (w : World) (g : GlobK s w) (hE : EvsL w v Es) (h70 : Es.length ≤ 70) (hl : ∀ E ∈ Es, lngE E = 0) :
    Calls Tryz.prog 18 #[v] w fun r w' => ∃ lo bb mo n va vn vc, r = .returned (.tuple #[.pointer (some ⟨bb, 0, none⟩), .agg #[.slice va vn vc]]) ∧ BookAt lo w' bb mo n (calOf Es) ∧ n ≤ 70 ∧ Below w.heap.size w w' := by
  refine Calls.mono (bookOf_any Es v s w g hE h70 hl) ?_
  rintro r w' ⟨bb, mo, n, vm, Xs, rfl, _, h1, h2, hmr, _, _, h3⟩
  obtain ⟨oa, oc, rfl, _, _⟩ := hmr.form
  exact ⟨_, bb, mo, n, _, _, _, rfl, h1, h2, h3⟩
theorem same_ok (la ba na : Nat) (ma : Option Nat) (lb bb nb : Nat) (mb : Option Nat) (C : List EV) (s : Nat → Addr) (w : World) (g : GlobD s w) (hX : BookAt la w ba ma na C) (hY : BookAt lb w bb mb nb C) (hn1 : na ≤ 100000) (hn2 : nb ≤ 100000) (hC : C.length ≤ 60) :
    Calls Tryz.prog 23 #[.pointer (some ⟨ba, 0, none⟩), .pointer (some ⟨bb, 0, none⟩)] w fun r w' => r = .returned (.bool true) ∧ Below w.heap.size w w' := by
  refine Calls.mono (same_C _ _ _ _ w (btext_C la ba na ma C s w g.gk g.gr hX hn1 hC) (fun W hW => btext_C lb bb nb mb C s W (g.step hW).gk (g.step hW).gr (hY.step hW) hn2 hC)) ?_
  rintro r w' ⟨rfl, hb⟩
  exact ⟨by rw [beq_self_eq_true], hb⟩

theorem below_two {b : Nat} {w w1 w2 : World} (h1 : Below b w w1) (h2 : Below b w1 w2) : Below b w w2 :=
  ⟨h2.os.trans h1.os, h2.tape.trans h1.tape, h2.output.trans h1.output, Nat.le_trans h1.size h2.size, fun k hk => (h2.block k hk).trans (h1.block k hk)⟩
/-- what Diff told, applied: the other calendar, or an error and none -/
theorem apply_dif (lx xb xn : Nat) (xm : Option Nat) (X : List EV) (ly yb yn : Nat) (ym : Option Nat) (Y : List EV) (base : Nat) (vl : Value) (s : Nat → Addr) (w : World) (g : GlobD s w) (hX : BookAt lx w xb xm xn X) (hY : BookAt ly w yb ym yn Y) (hx : X.length ≤ 60) (hy : Y.length ≤ 60) (hL : ChR base w vl (dif X Y)) :
    Calls Tryz.prog 22 #[.pointer (some ⟨xb, 0, none⟩), vl] w fun r w' => (∃ lp pb pm pn, r = .returned (.tuple #[.pointer (some ⟨pb, 0, none⟩), .nilIface]) ∧ BookAt lp w' pb pm pn Y ∧ pn ≤ 100000 ∧ Runs X (dif X Y) Y ∧ Below w.heap.size w w') ∨ (∃ T x, r = .returned (.tuple #[.pointer none, .iface T x]) ∧ Below w.heap.size w w') := by
  refine Calls.mono (applyAll_C lx xb xn xm X base vl (dif X Y) (dif_ok hX.ook hY.ook) (Nat.le_trans (dif_len hx hy) (by decide)) s w g hX hx hL) ?_
  rintro r w' (⟨C', mo', n', hr, rfl, hB, hn, _, hb⟩ | ⟨_, ⟨T, x, rfl⟩, hb⟩)
  · have e := dif_runs hX.rises.1 hY.rises.1 hX.ook hY.ook hr
    subst e
    exact .inl ⟨_, _, _, _, rfl, hB, Nat.le_trans hn (by decide), hr, hb⟩
  · exact .inr ⟨T, x, rfl, hb⟩
theorem apply_two (lx xb xn : Nat) (xm : Option Nat) (X : List EV) (ly yb yn : Nat) (ym : Option Nat) (Y : List EV) (lz zb zn : Nat) (zm : Option Nat) (Z : List EV) (base : Nat) (va : Value) (s : Nat → Addr) (w : World) (g : GlobD s w) (hX : BookAt lx w xb xm xn X) (hY : BookAt ly w yb ym yn Y) (hZ : BookAt lz w zb zm zn Z) (hx : X.length ≤ 60) (hy : Y.length ≤ 60) (hz : Z.length ≤ 60) (hL : ChR base w va (dif X Y ++ dif Y Z)) (r1 : Runs X (dif X Y) Y) (r2 : Runs Y (dif Y Z) Z) :
    Calls Tryz.prog 22 #[.pointer (some ⟨xb, 0, none⟩), va] w fun r w' => ∃ lp pb pm pn, r = .returned (.tuple #[.pointer (some ⟨pb, 0, none⟩), .nilIface]) ∧ BookAt lp w' pb pm pn Z ∧ pn ≤ 100000 ∧ Below w.heap.size w w' := by
  have hr : Runs X (dif X Y ++ dif Y Z) Z := runs_split.2 ⟨Y, r1, r2⟩
  refine Calls.mono (applyAll_C lx xb xn xm X base va (dif X Y ++ dif Y Z) (fun c hc => ?_) ?_ s w g hX hx hL) ?_
  · rcases List.mem_append.1 hc with hc | hc
    · exact dif_ok hX.ook hY.ook c hc
    · exact dif_ok hY.ook hZ.ook c hc
  · have h1 := dif_len hx hy
    have h2 := dif_len hy hz
    rw [List.length_append]
    omega
  · rintro r w' (⟨C', mo', n', hr', rfl, hB, hn, _, hb⟩ | ⟨hno, _, _⟩)
    · have e := runs_det hX.rises.1 hr' hr
      subst e
      exact ⟨_, _, _, _, rfl, hB, Nat.le_trans hn (by decide), hb⟩
    · exact absurd ⟨Z, hr⟩ hno

set_option maxHeartbeats 4000000 in
set_option maxRecDepth 100000 in
theorem dchain_all (E1 E2 E3 : List EV) (v1 v2 v3 : Value) (s : Nat → Addr) (w : World) (g : GlobD s w) (h1 : EvsL w v1 E1) (h2 : EvsL w v2 E2) (h3 : EvsL w v3 E3) :
    Calls Tryz.prog 5 #[v1, v2, v3] w fun r w' => r = .returned (.bool true) ∧ Below w.heap.size w w' := by
  have DF : Hid (Calls _ _ _ _ _) := differed_any s w g
  have HG : Hid (GlobD s w) := g
  have LE : Hid (∀ (v : Value) (E : List EV) W, EvsL w v E → Below w.heap.size w W → Calls Tryz.prog 17 #[v] W fun r w' => ∃ k : Int, r = .returned (.int .i64 k) ∧ (k = 1 ∨ (k = 0 ∧ E.length ≤ 70 ∧ ∀ F ∈ E, lngE F = 0)) ∧ Below W.heap.size W w') := fun v E W h hW => longEvents_any E v W (h.step hW)
  have HV1 : Hid (EvsL w v1 E1) := h1
  have HV2 : Hid (EvsL w v2 E2) := h2
  have HV3 : Hid (EvsL w v3 E3) := h3
  clear g h1 h2 h3
  go_enter Tryz.func5, Tryz.ntmps5
  go_upto_region 2 with (go_at_call 16; refine Calls.mono DF.out ?_; rintro r w1 ⟨rfl, hb1⟩)
  have B1 : Hid (Below w.heap.size w w1) := hb1
  clear hb1 DF
  go_upto_if 36 with (first
    | (go_at_call_of 17 v1; refine Calls.mono (LE.out v1 E1 _ HV1.out B1.out) ?_; rintro r w2 ⟨k1, rfl, hk1, hb2⟩; have B2 : Hid (Below w.heap.size w w2) := below_then B1.out hb2; have HK1 : Hid (k1 = 1 ∨ (k1 = 0 ∧ E1.length ≤ 70 ∧ ∀ F ∈ E1, lngE F = 0)) := hk1; have p1 : 0 ≤ k1 ∧ k1 ≤ 1 := (by rcases hk1 with rfl | ⟨rfl, _⟩ <;> decide); clear hk1 hb2)
    | (go_at_call_of 17 v2; refine Calls.mono (LE.out v2 E2 _ HV2.out B2.out) ?_; rintro r w3 ⟨k2, rfl, hk2, hb3⟩; have B3 : Hid (Below w.heap.size w w3) := below_then B2.out hb3; have HK2 : Hid (k2 = 1 ∨ (k2 = 0 ∧ E2.length ≤ 70 ∧ ∀ F ∈ E2, lngE F = 0)) := hk2; have p2 : 0 ≤ k2 ∧ k2 ≤ 1 := (by rcases hk2 with rfl | ⟨rfl, _⟩ <;> decide); clear hk2 hb3)
    | (go_at_call_of 17 v3; refine Calls.mono (LE.out v3 E3 _ HV3.out B3.out) ?_; rintro r w4 ⟨k3, rfl, hk3, hb4⟩; have B4 : Hid (Below w.heap.size w w4) := below_then B3.out hb4; have HK3 : Hid (k3 = 1 ∨ (k3 = 0 ∧ E3.length ≤ 70 ∧ ∀ F ∈ E3, lngE F = 0)) := hk3; have p3 : 0 ≤ k3 ∧ k3 ≤ 1 := (by rcases hk3 with rfl | ⟨rfl, _⟩ <;> decide); clear hk3 hb4))
  by_cases hz : 0 < k1 + k2 + k3
  · go_wp2
    go_ret
    exact ⟨rfl, B4.out⟩
  · obtain ⟨a1, b1⟩ : E1.length ≤ 70 ∧ ∀ F ∈ E1, lngE F = 0 := by
      rcases HK1.out with q | ⟨_, q⟩
      · omega
      · exact q
    obtain ⟨a2, b2⟩ : E2.length ≤ 70 ∧ ∀ F ∈ E2, lngE F = 0 := by
      rcases HK2.out with q | ⟨_, q⟩
      · omega
      · exact q
    obtain ⟨a3, b3⟩ : E3.length ≤ 70 ∧ ∀ F ∈ E3, lngE F = 0 := by
      rcases HK3.out with q | ⟨_, q⟩
      · omega
      · exact q
    have BO1 : Hid (∀ W, Below w.heap.size w W → _) := fun W hW => bookOf_C E1 v1 s W (HG.out.step hW).gk (HV1.out.step hW) a1 b1
    have BO2 : Hid (∀ W, Below w.heap.size w W → _) := fun W hW => bookOf_C E2 v2 s W (HG.out.step hW).gk (HV2.out.step hW) a2 b2
    have BO3 : Hid (∀ W, Below w.heap.size w W → _) := fun W hW => bookOf_C E3 v3 s W (HG.out.step hW).gk (HV3.out.step hW) a3 b3
    have HX60 : Hid ((calOf E1).length ≤ 60) := (calOf_ok E1).2
    have HY60 : Hid ((calOf E2).length ≤ 60) := (calOf_ok E2).2
    have HZ60 : Hid ((calOf E3).length ≤ 60) := (calOf_ok E3).2
    clear a1 b1 a2 b2 a3 b3 HK1 HK2 HK3 p1 p2 p3 LE HV1 HV2 HV3
    generalize calOf E1 = X at BO1 HX60
    generalize calOf E2 = Y at BO2 HY60
    generalize calOf E3 = Z at BO3 HZ60
    go_wp2_with (first
      | (go_at_call_of 18 v1; refine Calls.mono (BO1.out _ B4.out) ?_; rintro r w5 ⟨lx, xb, xm, xn, xa, xl, xc, rfl, hX, hxn, hb5⟩; have B5 : Hid (Below w.heap.size w (w5.alloc (.cells #[.slice xa xl xc] 46))) := below_then (below_then B4.out hb5) (below_alloc _ _); have X5 : Hid (BookAt lx (w5.alloc (.cells #[.slice xa xl xc] 46)) xb xm xn X) := hX.step (below_alloc _ _); have NX : Hid (xn ≤ 70) := hxn; clear hX hxn hb5)
      | (go_at_call_of 18 v2; refine Calls.mono (BO2.out _ B5.out) ?_; rintro r w6 ⟨ly, yb, ym, yn, ya, yl, yc, rfl, hY, hyn, hb6⟩; have B6 : Hid (Below w.heap.size w (w6.alloc (.cells #[.slice ya yl yc] 46))) := below_then (below_then B5.out hb6) (below_alloc _ _); have X6 : Hid (BookAt lx (w6.alloc (.cells #[.slice ya yl yc] 46)) xb xm xn X) := X5.out.step (below_then hb6 (below_alloc _ _)); have Y6 : Hid (BookAt ly (w6.alloc (.cells #[.slice ya yl yc] 46)) yb ym yn Y) := hY.step (below_alloc _ _); have NY : Hid (yn ≤ 70) := hyn; clear hY hyn hb6)
      | (go_at_call_of 18 v3; refine Calls.mono (BO3.out _ B6.out) ?_; rintro r w7 ⟨lz, zb, zm, zn, za, zl, zc, rfl, hZ, hzn, hb7⟩; have B7 : Hid (Below w.heap.size w (w7.alloc (.cells #[.slice za zl zc] 46))) := below_then (below_then B6.out hb7) (below_alloc _ _); have X7 : Hid (BookAt lx (w7.alloc (.cells #[.slice za zl zc] 46)) xb xm xn X) := X6.out.step (below_then hb7 (below_alloc _ _)); have Y7 : Hid (BookAt ly (w7.alloc (.cells #[.slice za zl zc] 46)) yb ym yn Y) := Y6.out.step (below_then hb7 (below_alloc _ _)); have Z7 : Hid (BookAt lz (w7.alloc (.cells #[.slice za zl zc] 46)) zb zm zn Z) := hZ.step (below_alloc _ _); have NZ : Hid (zn ≤ 70) := hzn; clear hZ hzn hb7)
      | (go_at_call_of 19 (Value.pointer (some ⟨xb, 0, none⟩)); refine Calls.mono (diff_C lx xb xn xm X ly yb yn ym Y s (w7.alloc (.cells #[.slice za zl zc] 46)) (HG.out.step B7.out) X7.out Y7.out (Nat.le_trans NX.out (by decide)) (Nat.le_trans NY.out (by decide)) HX60.out HY60.out) ?_; rintro r w8 ⟨vl, rfl, hL, hb8⟩; have B8 : Hid (Below w.heap.size w w8) := below_then B7.out hb8; have X8 : Hid (BookAt lx w8 xb xm xn X) := X7.out.step hb8; have Y8 : Hid (BookAt ly w8 yb ym yn Y) := Y7.out.step hb8; have Z8 : Hid (BookAt lz w8 zb zm zn Z) := Z7.out.step hb8; have L8 : Hid (ChR (w7.alloc (.cells #[.slice za zl zc] 46)).heap.size w8 vl (dif X Y)) := hL; clear hL hb8)
      | (go_at_call_of 19 (Value.pointer (some ⟨zb, 0, none⟩)); refine Calls.mono (diff_C ly yb yn ym Y lz zb zn zm Z s w8 (HG.out.step B8.out) Y8.out Z8.out (Nat.le_trans NY.out (by decide)) (Nat.le_trans NZ.out (by decide)) HY60.out HZ60.out) ?_; rintro r w9 ⟨vm, rfl, hM, hb9⟩; have B9 : Hid (Below w.heap.size w w9) := below_then B8.out hb9; have X9 : Hid (BookAt lx w9 xb xm xn X) := X8.out.step hb9; have Y9 : Hid (BookAt ly w9 yb ym yn Y) := Y8.out.step hb9; have Z9 : Hid (BookAt lz w9 zb zm zn Z) := Z8.out.step hb9; have L9 : Hid (ChR (w7.alloc (.cells #[.slice za zl zc] 46)).heap.size w9 vl (dif X Y)) := L8.out.step hb9; have M9 : Hid (ChR w8.heap.size w9 vm (dif Y Z)) := hM; clear hM hb9))
    have AP1 : Hid (Calls _ _ _ _ _) := apply_dif lx xb xn xm X ly yb yn ym Y _ vl s w9 (HG.out.step B9.out) X9.out Y9.out HX60.out HY60.out L9.out
    have AP2 : Hid (∀ W, Below w9.heap.size w9 W → _) := fun W hW => apply_dif ly yb yn ym Y lz zb zn zm Z _ vm s W (HG.out.step (below_then B9.out hW)) (Y9.out.step hW) (Z9.out.step hW) HY60.out HZ60.out (M9.out.step hW)
    clear B1 B2 B3 B4 B5 B6 B7 B8 X5 X6 X7 X8 Y6 Y7 Y8 Z7 Z8 L8 BO1 BO2 BO3
    refine Calls.mono AP1.out ?_
    rintro r w10 (⟨lp, pb, pm, pn, rfl, hP, hpn, hr1, hb10⟩ | ⟨T1, x1, rfl, hb10⟩)
    · have B10 : Hid (Below w9.heap.size w9 w10) := hb10
      have P10 : Hid (BookAt lp w10 pb pm pn Y) := hP
      have NP : Hid (pn ≤ 100000) := hpn
      have R1 : Hid (Runs X (dif X Y) Y) := hr1
      clear hb10 hP hpn hr1
      go_wp2_with (fail)
      refine Calls.mono (AP2.out w10 B10.out) ?_
      rintro r w11 (⟨lq, qb, qm, qn, rfl, hQ, hqn, hr2, hb11⟩ | ⟨T2, x2, rfl, hb11⟩)
      · have B11 : Hid (Below w9.heap.size w9 w11) := below_then B10.out hb11
        have P11 : Hid (BookAt lp w11 pb pm pn Y) := P10.out.step hb11
        have Q11 : Hid (BookAt lq w11 qb qm qn Z) := hQ
        have NQ : Hid (qn ≤ 100000) := hqn
        have R2 : Hid (Runs Y (dif Y Z) Z) := hr2
        have X11 : Hid (BookAt lx w11 xb xm xn X) := X9.out.step B11.out
        have Y11 : Hid (BookAt ly w11 yb ym yn Y) := Y9.out.step B11.out
        have Z11 : Hid (BookAt lz w11 zb zm zn Z) := Z9.out.step B11.out
        have L11 : Hid (ChR (w7.alloc (.cells #[.slice za zl zc] 46)).heap.size w11 vl (dif X Y)) := L9.out.step B11.out
        have M11 : Hid (ChR w8.heap.size w11 vm (dif Y Z)) := M9.out.step B11.out
        have HN1 : Hid (([] : List DC).length + (dif X Y).length ≤ 5000) := by
          have h1 := dif_len HX60.out HY60.out
          show _ ≤ _
          rw [List.length_nil]
          omega
        have HN2 : Hid ((dif X Y).length + (dif Y Z).length ≤ 5000) := by
          have h1 := dif_len HX60.out HY60.out
          have h2 := dif_len HY60.out HZ60.out
          show _ ≤ _
          omega
        have AP3 : Hid (∀ (va : Value) (W : World), Below w11.heap.size w11 W → ChR w11.heap.size W va (dif X Y ++ dif Y Z) → _) := fun va W hW hc => apply_two lx xb xn xm X ly yb yn ym Y lz zb zn zm Z w11.heap.size va s W (HG.out.step (below_then (below_then B9.out B11.out) hW)) (X11.out.step hW) (Y11.out.step hW) (Z11.out.step hW) HX60.out HY60.out HZ60.out hc R1.out R2.out
        clear hb11 hQ hqn hr2 AP1 AP2 X9 Y9 Z9 L9 M9 P10
        go_wp2_with (first
          | (at_builtin; refine app_ch rfl _ _ rfl w11.heap.size _ [] (dif X Y) _ _ rfl (ChR.nil _ _) rfl L11.out HN1.out (Nat.le_refl _) ?_; intro va w12 hA hb12; have A12 : Hid (ChR w11.heap.size w12 va (dif X Y)) := hA; have B12 : Hid (Below w11.heap.size w11 w12) := hb12; clear hA hb12)
          | (at_builtin; refine app_ch rfl _ _ rfl w11.heap.size _ (dif X Y) (dif Y Z) _ _ rfl A12.out rfl (M11.out.step B12.out) HN2.out B12.out.size ?_; intro vb w13 hA hb13; have A13 : Hid (ChR w11.heap.size w13 vb (dif X Y ++ dif Y Z)) := hA; have B13 : Hid (Below w11.heap.size w11 w13) := below_two B12.out hb13; clear hA hb13)
          | (go_at_call 22; refine Calls.mono (AP3.out vb w13 B13.out A13.out) ?_; rintro r w14 ⟨lr, rb, rm, rn, rfl, hR, hrn, hb14⟩; have B14 : Hid (Below w11.heap.size w11 w14) := below_then B13.out hb14; have R14 : Hid (BookAt lr w14 rb rm rn Z) := hR; have NR : Hid (rn ≤ 100000) := hrn; clear hR hrn hb14)
          | (go_at_call_of 23 (Value.pointer (some ⟨pb, 0, none⟩)); refine Calls.mono (same_ok lp pb pn pm ly yb yn ym Y s w14 (HG.out.step (below_then (below_then B9.out B11.out) B14.out)) (P11.out.step B14.out) (Y11.out.step B14.out) NP.out (Nat.le_trans NY.out (by decide)) HY60.out) ?_; rintro r w15 ⟨rfl, hb15⟩; have B15 : Hid (Below w14.heap.size w14 w15) := hb15; clear hb15)
          | (go_at_call_of 23 (Value.pointer (some ⟨qb, 0, none⟩)); refine Calls.mono (same_ok lq qb qn qm lz zb zn zm Z s w15 (HG.out.step (below_then (below_then (below_then B9.out B11.out) B14.out) B15.out)) (Q11.out.step (below_then B14.out B15.out)) (Z11.out.step (below_then B14.out B15.out)) NQ.out (Nat.le_trans NZ.out (by decide)) HZ60.out) ?_; rintro r w16 ⟨rfl, hb16⟩; have B16 : Hid (Below w14.heap.size w14 w16) := below_then B15.out hb16; clear hb16)
          | (go_at_call_of 23 (Value.pointer (some ⟨rb, 0, none⟩)); refine Calls.mono (same_ok lr rb rn rm lz zb zn zm Z s w16 (HG.out.step (below_then (below_then (below_then B9.out B11.out) B14.out) B16.out)) (R14.out.step B16.out) (Z11.out.step (below_then B14.out B16.out)) NR.out (Nat.le_trans NZ.out (by decide)) HZ60.out) ?_; rintro r w17 ⟨rfl, hb17⟩; have B17 : Hid (Below w14.heap.size w14 w17) := below_then B16.out hb17; clear hb17))
        go_ret
        exact ⟨rfl, below_then (below_then (below_then B9.out B11.out) B14.out) B17.out⟩
      · go_wp2
        go_ret
        exact ⟨rfl, below_then B9.out (below_then B10.out hb11)⟩
    · have B10 : Hid (Below w9.heap.size w9 w10) := hb10
      clear hb10
      go_wp2_with (fail)
      refine Calls.mono (AP2.out w10 B10.out) ?_
      rintro r w11 (⟨lq, qb, qm, qn, rfl, _, _, _, hb11⟩ | ⟨T2, x2, rfl, hb11⟩)
      all_goals
        go_wp2
        go_ret
        exact ⟨rfl, below_then B9.out (below_then B10.out hb11)⟩
end Go.Proofs.YtjhlbkjcchejjaaGreatDoor
