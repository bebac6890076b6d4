/- Package book's Text: the events' texts, a line each. -/
import Derived.Test.YtbhidomccdhdkaaGreatDoorJaH
import Derived.Test.YtbhidomccdhdkaaGreatDoorBkTJ
import Derived.Test.YtbhidomccdhdkaaGreatDoorJaB
import Derived.Shelf.Strings.BuilderK
import Derived.Test.YtbhidomccdhdkaaGreatDoorJaT
import Derived.Test.YtbhidomccdhdkaaGreatDoorJaR
import Derived.Test.YtbhidomccdhdkaaGreatDoorBpFJ
namespace Go.Proofs.YtbhidomccdhdkaaGreatDoor
open Go Go.RowKit Go.Maps Go.Shelf Cal
attribute [local go_sem] Oper.semAt_some

/-- a calendar's text -/
noncomputable def bkT (C : List EV) : List UInt8 := C.flatMap fun E => eT E ++ [10]
theorem bkT_len {C : List EV} (h : ∀ E ∈ C, EW E ∧ E.ds.length ≤ 20) : (bkT C).length ≤ C.length * 10001 := by
  induction C with
  | nil => simp [bkT]
  | cons E r ih =>
    have h1 := eT_len (h E (List.mem_cons_self)).1 (h E (List.mem_cons_self)).2
    have h2 := ih (fun F hF => h F (List.mem_cons_of_mem _ hF))
    have e : bkT (E :: r) = eT E ++ [10] ++ bkT r := rfl
    rw [e, List.length_append, List.length_append, List.length_cons]
    simp only [List.length_cons, List.length_nil]
    omega
theorem bkT_snoc (C : List EV) (E : EV) : bkT (C ++ [E]) = bkT C ++ eT E ++ [10] := by
  unfold bkT
  rw [List.flatMap_append, List.flatMap_cons, List.flatMap_nil, List.append_nil, List.append_assoc]

theorem builder_step {T e : TypeId} {B b : Nat} {l : List Value} {w w' : World} (h : Lib.IsBuilderF T e B b l w) (hb : Below w.heap.size w w') : Lib.IsBuilderF T e B b l w' := by
  have key : ∀ p, Lib.BuilderAtF T e B b p l w → Lib.BuilderAtF T e B b p l w' := fun p ⟨h1, v, h2, h3, h4⟩ => ⟨h1, v, (hb.block _ (Array.getElem?_eq_some_iff.1 h2).1).trans h2, h3.kept (grown_below hb none) (by cases v.ownBlock <;> simp), h4⟩
  exact h.imp (key _) (key _)
theorem bwrite (B b : Nat) (l : List UInt8) (x : ByteArray) (w : World) (h : Lib.IsBuilderF 88 5 B b (Lib.byteCells l) w) (hlen : l.length + x.size ≤ 140737488355328) (hB : B ≤ w.heap.size) :
    Calls Tryz.prog 42 #[.pointer (some ⟨b, 0, none⟩), .string x] w fun r w' => r = .returned (.tuple #[.int .i64 x.size, .nilIface]) ∧ Lib.IsBuilderF 88 5 B b (Lib.byteCells (l ++ x.data.toList)) w' ∧ Below B w w' ∧ Lib.OthersKept 5 (some b) w w' := by
  refine Calls.mono (Any.Builder_WriteString_k { Tryz.lays156 with } Tryz.Builder_Extra_156 B b (Lib.byteCells l) x w h (by rw [Lib.byteCells_length]; exact hlen) hB) ?_
  rintro r w' ⟨rfl, h1, h2, h3⟩
  refine ⟨rfl, .inr ?_, h2, h3⟩
  rw [Lib.byteCells_append, ← Lib.strCells_eq]
  exact h1
theorem bstring (B b : Nat) (l : List UInt8) (w : World) (h : Lib.IsBuilderF 88 5 B b (Lib.byteCells l) w) (hB : B ≤ w.heap.size) :
    Calls Tryz.prog 44 #[.pointer (some ⟨b, 0, none⟩)] w fun r w' => r = .returned (.string (bs l)) ∧ Below B w w' := by
  refine Calls.mono (Any.Builder_String_any_k { Tryz.lays156 with } Tryz.Builder_Extra_156 B b l w h hB) ?_
  rintro r w' ⟨rfl, h1, h2, h3⟩
  exact ⟨rfl, h2⟩
/-- a row of texts stays while a builder is written -/
theorem rowS_kept {W W' : World} {B b cap : Nat} {l : List ByteArray} (h : RowS W B cap l) (hk : Lib.OthersKept 5 (some b) W W') (hne : B ≠ b) : RowS W' B cap l := by
  obtain ⟨⟨cur, h1, h2, h3⟩, h4⟩ := h
  exact ⟨⟨cur, hk B _ h1 (fun q => hne (Option.some.inj q)) (fun c fz q => by injection q with _ q2 _; exact absurd q2 (by decide)), h2, h3⟩, h4⟩

set_option maxHeartbeats 2000000 in
set_option maxRecDepth 100000 in
theorem btext_C (lo bb n : Nat) (mo : Option Nat) (C : List EV) (s : Nat → Addr) (w : World) (gk : GlobK s w) (g : GlobR w) (h : BookAt lo w bb mo n C) (hn : n ≤ 1000) (hC : C.length ≤ 60) :
    Calls Tryz.prog 11 #[.pointer (some ⟨bb, 0, none⟩)] w fun r w' => r = .returned (.string (bs (bkT C))) ∧ Below w.heap.size w w' := by
  have hbk := h
  obtain ⟨D, h1, h2, h3, h4⟩ := h
  have hw20 : ∀ E ∈ C, EW E ∧ E.ds.length ≤ 20 := fun E hE => (h4.at_ E hE).1
  have AL : Hid (Calls _ _ _ _ _) := all_any bb mo n D w h1
  have hA := below_alloc w (.cells #[.pointer none, .slice none 0 0] 88)
  have ID : Hid (Calls _ _ _ _ _) := ids_C lo bb n mo C _ (hbk.step hA) hn
  have HBD : Hid (Lib.IsBuilderF 88 5 w.heap.size w.heap.size (Lib.byteCells []) (w.alloc (.cells #[.pointer none, .slice none 0 0] 88))) := Lib.IsBuilderF.of (Lib.fresh_isBuilder _ _ w)
  have HA : Hid (_) := hA
  have hz : (w.alloc (.cells #[.pointer none, .slice none 0 0] 88)).heap.size = w.heap.size + 1 := World.size_alloc _ _
  have HZ : Hid (_) := hz
  have HBK : Hid (Bok w bb mo n D) := h1
  generalize htx : bs (bkT C) = tx
  have HTX : Hid (bs (bkT C) = tx) := htx
  clear htx
  have HH : Hid (Holds (NotIn lo bb mo) w D C) := h4
  have HW20 : Hid (_) := hw20
  have GK : Hid (GlobK s w) := gk
  have G : Hid (GlobR w) := g
  have hLn : (bkT C).length ≤ 1000000 := by have := bkT_len hw20; omega
  clear hA hz h1 h4 hw20 gk g hbk
  go_enter Tryz.func11, Tryz.ntmps11
  generalize hw0 : w.alloc (.cells #[.pointer none, .slice none 0 0] 88) = w0 at ID HBD HA HZ
  have hL2 : (C.map EV.id).length ≤ 80000 := by rw [List.length_map]; omega
  go_wp2_with (first
    | (go_at_call 41; refine Calls.mono AL.out ?_; rintro r w' ⟨rfl, hq⟩; have hq := hq.symm; subst hq)
    | (go_at_call 14; refine Calls.mono ID.out ?_; rintro r w1 ⟨vid, rfl, hrid, hb1⟩; have HRID : Hid (RowV w0.heap.size w1 vid (C.map EV.id)) := hrid; obtain ⟨ia, ic, rfl, _, hcl, _⟩ := hrid.txs hL2))
  have B1 : Hid (Below w.heap.size w w1) := below_then HA.out hb1
  have HBD1 : Hid (Lib.IsBuilderF 88 5 w.heap.size w.heap.size (Lib.byteCells (bkT [])) w1) := builder_step HBD.out hb1
  have hs1 : w.heap.size + 1 ≤ w1.heap.size := by rw [← HZ.out]; exact hb1.size
  rw [List.length_map] at hcl
  have HROW : Hid (∀ W, Below w1.heap.size w1 W → (C.length = 0 ∨ ∃ ib, ia = some ⟨ib, 0, none⟩ ∧ w.heap.size < ib ∧ RowS W ib ic (C.map EV.id))) := fun W hW => by
    rcases HRID.out with ⟨q1, q2⟩ | ⟨ib, cap, q1, q2, q3⟩
    · left
      have := congrArg List.length q2
      simpa using this
    · right
      have hz := HZ.out
      have e1 : ia = some ⟨ib, 0, none⟩ ∧ ic = cap := by
        rw [List.length_map] at q1
        injection q1 with a1 a2 a3
        exact ⟨a1, a3⟩
      exact ⟨ib, e1.1, by omega, by rw [e1.2]; exact q3.step hW⟩
  clear AL ID HBD hb1 hrid HRID
  go_loopw [12] (fun i wr => ∃ m : Nat, m ≤ C.length ∧ i = .int .i64 m ∧ Hid (Below w.heap.size w wr) ∧ Hid (w.heap.size + 1 ≤ wr.heap.size) ∧ Hid (Lib.IsBuilderF 88 5 w.heap.size w.heap.size (Lib.byteCells (bkT (C.take m))) wr) ∧ Hid (C.length = 0 ∨ ∃ ib, ia = some ⟨ib, 0, none⟩ ∧ w.heap.size < ib ∧ RowS wr ib ic (C.map EV.id))) (fun i _ => C.length - (intOf i).toNat)
  case atStart => exact ⟨0, Nat.zero_le _, rfl, B1.out, hs1, HBD1.out, HROW.out _ (Below.refl _ _)⟩
  case round =>
    obtain ⟨m, hm, rfl, HB, HS, HBD, HR⟩ := hrel
    by_cases hlt : m < C.length
    · obtain ⟨ib, rfl, hib, hrow⟩ : ∃ ib, ia = some ⟨ib, 0, none⟩ ∧ w.heap.size < ib ∧ RowS wr ib ic (C.map EV.id) := by
        rcases HR.out with q | q
        · omega
        · exact q
      have hcr := hrow.cell m (by rw [List.length_map]; exact hlt)
      rw [List.getElem_map] at hcr
      have hE : C[m] ∈ C := List.getElem_mem hlt
      obtain ⟨⟨hw, h20⟩, sl, skv, mvv, q1, q2⟩ := HH.out.at_ C[m] hE
      obtain ⟨i12, _, _, _⟩ := ew_bd hw
      have q2' := q2.step HB.out
      have ET : Hid (Calls Tryz.prog 43 #[ev C[m] sl skv mvv] wr fun r w' => r = .returned (.string (bs (eT C[m]))) ∧ Below wr.heap.size wr w') := etext_any C[m] sl skv mvv s wr (GK.out.step HB.out) (G.out.step HB.out) (q2'.ls h20).d (q2'.ls h20).s (q2'.ls h20).m hw
      obtain ⟨a1, c1, rfl, _⟩ := q2.d
      obtain ⟨a2, c2, rfl, _⟩ := q2.s
      obtain ⟨a3, c3, rfl, _⟩ := q2.m
      unfold ev at ET q1
      have LK := look1_eq (HBK.out.step HB.out) (show C[m].id.size ≤ 1000 by omega) q1
      have HTK : Hid (bkT (C.take (m + 1)) = bkT (C.take m) ++ eT C[m] ++ [10]) := by
        show _ = _
        rw [List.take_succ_eq_append_getElem hlt, bkT_snoc]
      have hl1 : (bkT (C.take m)).length ≤ 1000000 := by
        have := bkT_len (C := C.take m) (fun F hF => HW20.out F (List.mem_of_mem_take hF))
        rw [List.length_take] at this
        omega
      have hl2 : (eT C[m]).length ≤ 10000 := eT_len hw h20
      have hl2' : (bs (eT C[m])).size = (eT C[m]).length := by rw [Lib.size_eq, bs_data]
      have HROWr : Hid (RowS wr ib ic (C.map EV.id)) := hrow
      clear HR q1 q2 q2' hw h20 hE hrow
      generalize C[m] = E at hcr ET LK HTK hl2 hl2' i12
      generalize bkT (C.take m) = acc at HBD HTK hl1
      generalize hx : bs (eT E) = x at ET hl2'
      have HX : Hid (x.data.toList = eT E) := by show _ = _; rw [← hx, bs_data]
      clear hx
      have HBW : Hid (∀ (W : World), Below wr.heap.size wr W → Calls Tryz.prog 42 #[.pointer (some ⟨w.heap.size, 0, none⟩), .string x] W fun r w' => r = .returned (.tuple #[.int .i64 x.size, .nilIface]) ∧ Lib.IsBuilderF 88 5 w.heap.size w.heap.size (Lib.byteCells (acc ++ x.data.toList)) w' ∧ Below w.heap.size W w' ∧ Lib.OthersKept 5 (some w.heap.size) W w') := fun W hW => bwrite w.heap.size w.heap.size acc x W (builder_step HBD.out hW) (by omega) (Nat.le_trans (by have := HS.out; omega) hW.size)
      go_upto_region 7 with (first
        | (go_at_call 43; refine Calls.mono ET.out ?_; rintro r w2 ⟨rfl, hb2⟩; have BW2 : Hid (Calls _ _ _ _ _) := HBW.out w2 hb2; have HB2 : Hid (Below wr.heap.size wr w2) := hb2)
        | (go_at_call 42; refine Calls.mono BW2.out ?_; rintro r w3 ⟨rfl, hbd3, hb3, hk3⟩))
      have HS3 : Hid (w.heap.size + 1 ≤ w3.heap.size) := Nat.le_trans HS.out (Nat.le_trans HB2.out.size hb3.size)
      have hlx : (acc ++ x.data.toList).length + (⟨#[10]⟩ : ByteArray).size ≤ 140737488355328 := by
        have : (⟨#[10]⟩ : ByteArray).size = 1 := rfl
        rw [List.length_append, HX.out, this]
        omega
      have BW3 : Hid (Calls _ _ _ _ _) := bwrite w.heap.size w.heap.size (acc ++ x.data.toList) ⟨#[10]⟩ w3 hbd3 hlx (by have := HS3.out; omega)
      have HB3 : Hid (_) := hb3
      have HK3 : Hid (_) := hk3
      clear hbd3 hb3 hk3 hlx
      go_wp2_with (go_at_call 42; refine Calls.mono BW3.out ?_; rintro r w4 ⟨rfl, hbd4, hb4, hk4⟩)
      go_roundw
      case rel =>
        have hz := HS.out
        have hz3 := HS3.out
        have hbb : Below w.heap.size w w3 := ⟨HB3.out.os.trans ((below_then HB.out HB2.out).os), HB3.out.tape.trans ((below_then HB.out HB2.out).tape), HB3.out.output.trans ((below_then HB.out HB2.out).output), by omega, fun k hk => (HB3.out.block k hk).trans ((below_then HB.out HB2.out).block k hk)⟩
        have hb4' : Below w.heap.size w w4 := ⟨hb4.os.trans hbb.os, hb4.tape.trans hbb.tape, hb4.output.trans hbb.output, Nat.le_trans hbb.size hb4.size, fun k hk => (hb4.block k hk).trans (hbb.block k hk)⟩
        refine ⟨m + 1, by omega, by go_num, hb4', Nat.le_trans hz3 hb4.size, ?_, .inr ⟨ib, rfl, hib, rowS_kept (rowS_kept (HROWr.out.step HB2.out) HK3.out (by omega)) hk4 (by omega)⟩⟩
        show Lib.IsBuilderF _ _ _ _ (Lib.byteCells (bkT (C.take (m + 1)))) w4
        rw [HTK.out, ← HX.out]
        exact hbd4
      case measure => simp [intOf]; omega
    · have hfin : C.take m = C := List.take_of_length_le (by omega)
      have HBE : Hid (Calls Tryz.prog 44 #[.pointer (some ⟨w.heap.size, 0, none⟩)] wr fun r w' => r = .returned (.string (bs (bkT C))) ∧ Below w.heap.size wr w') := by
        have := HBD.out
        rw [hfin] at this
        exact bstring w.heap.size w.heap.size (bkT C) wr this (by have := HS.out; omega)
      clear HR HBD hfin
      rw [HTX.out] at HBE
      go_wp2_with (go_at_call 44; refine Calls.mono HBE.out ?_; rintro r w5 ⟨rfl, hb5⟩)
      go_ret
      exact ⟨rfl, ⟨hb5.os.trans HB.out.os, hb5.tape.trans HB.out.tape, hb5.output.trans HB.out.output, Nat.le_trans HB.out.size hb5.size, fun k hk => (hb5.block k hk).trans (HB.out.block k hk)⟩⟩
end Go.Proofs.YtbhidomccdhdkaaGreatDoor

/- Reading a calendar: no event's text has a line's end; book.Same, readLine, Read. -/
namespace Go.Proofs.YtbhidomccdhdkaaGreatDoor
open Go Go.RowKit Go.Maps Go.Shelf Cal
attribute [local go_sem] Oper.semAt_some

theorem ut_least {r : RV} {t : List UInt8} (h : UT r t) : ∀ c ∈ t, 45 ≤ c.toNat := by
  rcases h with ⟨_, rfl⟩ | ⟨_, y, m, d, hv, _, rfl⟩
  · intro c hc; simp at hc
  · exact txt_signs hv
theorem words_nl {r : RV} {t : List UInt8} (h : Well r) (ht : ∀ c ∈ t, 45 ≤ c.toNat) : ∀ x ∈ words r t, (10 : UInt8) ∉ x := by
  intro x hx
  unfold words at hx
  split at hx
  · simp at hx; subst hx; decide
  · rcases List.mem_cons.1 hx with rfl | hx
    · rcases h.fr with e | e | e | e | e <;> rw [e] <;> decide
    rcases List.mem_cons.1 hx with rfl | hx
    · intro hm; have := itoa_digs _ (show 0 ≤ r.every by have := h.ev; omega) _ hm; revert this; decide
    rcases List.mem_append.1 hx with hx | hx
    · unfold wDays at hx
      split at hx
      · simp at hx
      · simp at hx; subst hx
        refine join_no 10 44 (by decide) _ (fun y hy => ?_)
        obtain ⟨d, _, rfl⟩ := List.mem_map.1 hy
        unfold nm
        repeat' split
        all_goals decide
    rcases List.mem_append.1 hx with hx | hx
    · unfold wCount at hx
      split at hx
      · simp at hx
      · simp at hx
        rcases hx with rfl | rfl
        · decide
        · intro hm; have := itoa_digs _ (show 0 ≤ r.count by have := h.co; omega) _ hm; revert this; decide
    · unfold wUntil at hx
      split at hx
      · simp at hx
      · simp at hx
        rcases hx with rfl | rfl
        · decide
        · intro hm; have := ht _ hm; revert this; decide
theorem ruT_nl {r : RV} (h : Well r) : (10 : UInt8) ∉ ruT r := by
  obtain ⟨t, ht, e⟩ := ruT_ok h
  rw [e]
  exact join_no 10 32 (by decide) _ (words_nl h (ut_least ht))
theorem fT_nl {E : EV} (h : EW E) (k : Nat) : (10 : UInt8) ∉ fT E k := by
  match k with
  | 0 =>
    intro hm
    change (10 : UInt8) ∈ E.ti.data.toList at hm
    obtain ⟨j, hj, he⟩ := List.mem_iff_getElem.1 hm
    have := h.ti.1 j (by simpa using hj)
    unfold okt at this
    have e2 : E.ti[j]'(by simpa using hj) = 10 := by
      show E.ti.data[j] = 10
      simpa using he
    rw [e2] at this
    simp at this
  | 1 => exact dtx_no _ _ (by decide)
  | 2 => intro hm; have := itoa_digs _ (show 0 ≤ E.lg by have := h.bd.2.1; omega) _ hm; revert this; decide
  | 3 => exact ruT_nl h.rl
  | 4 => exact join_no 10 44 (by decide) _ (fun y hy => by obtain ⟨d, _, rfl⟩ := List.mem_map.1 hy; exact dtx_no _ _ (by decide))
  | k + 5 => exact join_no 10 44 (by decide) _ (fun y hy => by obtain ⟨d, _, rfl⟩ := List.mem_map.1 hy; exact mtx_no _ _ (by decide))
theorem id_nl {E : EV} (h : EW E) : (10 : UInt8) ∉ E.id.data.toList := by
  intro hm
  obtain ⟨j, hj, he⟩ := List.mem_iff_getElem.1 hm
  have := h.id.1 j (by simpa using hj)
  unfold okc at this
  have e2 : E.id[j]'(by simpa using hj) = 10 := by
    show E.id.data[j] = 10
    simpa using he
  rw [e2] at this
  simp at this
theorem eT_nl {E : EV} (h : EW E) : (10 : UInt8) ∉ eT E := by
  unfold eT
  refine join_no 10 124 (by decide) _ (fun y hy => ?_)
  rcases List.mem_cons.1 hy with rfl | hy
  · exact id_nl h
  · obtain ⟨k, _, rfl⟩ := pT_mem hy
    exact fT_nl h k
/-- a calendar's lines -/
noncomputable def lns (C : List EV) : List (List UInt8) := C.map fun E => eT E ++ [10]
theorem lns_flat (C : List EV) : (lns C).flatten = bkT C := by
  unfold lns bkT
  rw [List.flatMap_def]
theorem lns_ok {C : List EV} (h : ∀ E ∈ C, EW E) : ∀ x ∈ lns C, ∃ y, x = y ++ [10] ∧ (10 : UInt8) ∉ y := fun x hx => by
  obtain ⟨E, hE, rfl⟩ := List.mem_map.1 hx
  exact ⟨eT E, rfl, eT_nl (h E hE)⟩

theorem same_C (a b : Value) (ta tb : ByteArray) (w : World) (ha : Calls Tryz.prog 11 #[a] w fun r w' => r = .returned (.string ta) ∧ Below w.heap.size w w')
    (hb : ∀ W, Below w.heap.size w W → Calls Tryz.prog 11 #[b] W fun r w' => r = .returned (.string tb) ∧ Below W.heap.size W w') :
    Calls Tryz.prog 13 #[a, b] w fun r w' => r = .returned (.bool (ta.toList == tb.toList)) ∧ Below w.heap.size w w' := by
  have HA : Hid (Calls _ _ _ _ _) := ha
  have HB : Hid (∀ W, Below w.heap.size w W → Calls Tryz.prog 11 #[b] W fun r w' => r = .returned (.string tb) ∧ Below W.heap.size W w') := hb
  clear ha hb
  go_enter Tryz.func13, Tryz.ntmps13
  go_wp2_with fail
  go_at_call 11
  refine Calls.mono HA.out ?_
  rintro r w1 ⟨rfl, hb1⟩
  have HB1 : Hid (Calls _ _ _ _ _) := HB.out w1 hb1
  go_wp2_with (go_at_call 11; refine Calls.mono HB1.out ?_; rintro r w2 ⟨rfl, hb2⟩)
  go_ret
  exact ⟨rfl, below_then hb1 hb2⟩
theorem off_blkI {W : World} {v : Value} {xs : List Int} {B : Nat} {x : ByteArray} (h : Ints W v xs) (h30 : xs.length ≤ 30) (hb : W.cell? ⟨B, 0, none⟩ = some (.string x)) : OffI (· = B) W v xs := by
  obtain ⟨a, c, h1, h2, h3, h4⟩ := h
  refine ⟨a, c, h1, h30, h3, fun j hj => ?_⟩
  obtain ⟨b, e, hl, hc⟩ := h4 j hj
  refine ⟨b, e, fun q => ?_, hl, hc⟩
  obtain ⟨b', e', _, hc'⟩ := h4 0 (by omega)
  have eb : b' = b := by rw [e] at e'; cases e'; rfl
  have q' : b = B := q
  rw [eb, q', hb] at hc'
  cases hc'
theorem off_blkM {W : World} {v : Value} {xs : List (Int × Int)} {B : Nat} {x : ByteArray} (h : Movs W v xs) (h30 : xs.length ≤ 30) (hb : W.cell? ⟨B, 0, none⟩ = some (.string x)) : OffM (· = B) W v xs := by
  obtain ⟨a, c, h1, h2, h3, h4⟩ := h
  refine ⟨a, c, h1, h30, h3, fun j hj => ?_⟩
  obtain ⟨b, e, hl, hc⟩ := h4 j hj
  refine ⟨b, e, fun q => ?_, hl, hc⟩
  obtain ⟨b', e', _, hc', _⟩ := h4 0 (by omega)
  have eb : b' = b := by rw [e] at e'; cases e'; rfl
  have q' : b = B := q
  rw [eb, q', Nat.zero_mul, hb] at hc'
  cases hc'
theorem cut_line (l : List UInt8) : Lib.trimSuffix (l ++ [10]) [10] = l ∧ Lib.hasSuffix (l ++ [10]) [10] = true := by
  unfold Lib.trimSuffix Lib.hasSuffix
  simp
theorem not_ahead {a : ByteArray} {E : EV} (h : a.data.toList < kb E) : (Op.bytesLess E.id.toList a.toList || E.id.toList == a.toList) = false := by
  rw [bytesLess_eq, ByteArray.toList_eq, ByteArray.toList_eq, Bool.or_eq_false_iff]
  refine ⟨decide_eq_false (fun q => List.lt_irrefl _ (List.lt_trans h q)), ?_⟩
  rw [beq_eq_false_iff_ne]
  intro q
  unfold kb at h
  rw [q] at h
  exact List.lt_irrefl _ h

set_option maxHeartbeats 2000000 in
set_option maxRecDepth 100000 in
theorem readLine_C (E : EV) (ah : ByteArray) (s : Nat → Addr) (w : World) (gk : GlobK s w) (g : GlobR w) (hE : EW E) (h20 : E.ds.length ≤ 20) (hah : ah.data.toList < kb E) :
    Calls Tryz.prog 46 #[.string (bs (eT E ++ [10])), .string ah] w fun r w' => ∃ sl skv mvv, r = .returned (.tuple #[ev E sl skv mvv, .nilIface]) ∧ Ls w' E sl skv mvv ∧ Below w.heap.size w w' := by
  have hA := below_alloc w (.cells #[.string ⟨#[]⟩, .string ⟨#[]⟩, .int .i64 0, .int .i64 0, .string ⟨#[]⟩, .int .i64 0, .slice none 0 0, .int .i64 0, .int .i64 0, .slice none 0 0, .slice none 0 0] 44)
  have k4 : (w.alloc (.cells #[.string ⟨#[]⟩, .string ⟨#[]⟩, .int .i64 0, .int .i64 0, .string ⟨#[]⟩, .int .i64 0, .slice none 0 0, .int .i64 0, .int .i64 0, .slice none 0 0, .slice none 0 0] 44)).heap[w.heap.size]? = some (.cells #[.string ⟨#[]⟩, .string ⟨#[]⟩, .int .i64 0, .int .i64 0, .string ⟨#[]⟩, .int .i64 0, .slice none 0 0, .int .i64 0, .int .i64 0, .slice none 0 0, .slice none 0 0] 44 (0, 0)) := block_at _ rfl
  have hz : (w.alloc (.cells #[.string ⟨#[]⟩, .string ⟨#[]⟩, .int .i64 0, .int .i64 0, .string ⟨#[]⟩, .int .i64 0, .slice none 0 0, .int .i64 0, .int .i64 0, .slice none 0 0, .slice none 0 0] 44)).heap.size = w.heap.size + 1 := World.size_alloc _ _
  have hcs := Tryz.strings_CutSuffix (bs (eT E ++ [10])) ⟨#[10]⟩ (w.alloc (.cells #[.string ⟨#[]⟩, .string ⟨#[]⟩, .int .i64 0, .int .i64 0, .string ⟨#[]⟩, .int .i64 0, .slice none 0 0, .int .i64 0, .int .i64 0, .slice none 0 0, .slice none 0 0] 44)) (by rw [Lib.size_eq, bs_data]; have := eT_len hE h20; simp; omega)
  rw [bs_data, show (⟨#[10]⟩ : ByteArray).data.toList = [10] from rfl, (cut_line (eT E)).1, (cut_line (eT E)).2] at hcs
  have CS : Hid (Calls _ _ _ _ _) := hcs
  have ER : Hid (Calls _ _ _ _ _) := eread_any E s _ (gk.step hA) (g.step hA) hE h20
  have HNA := not_ahead hah
  have hd20 := h20
  have HA : Hid (_) := hA
  have K4 : Hid (_) := k4
  have HZ : Hid (_) := hz
  clear hA k4 hz hcs gk g hah
  generalize bs (eT E ++ [10]) = ln at CS
  change Hid (Calls Tryz.prog 82 #[.string ln, .string ⟨#[10]⟩] _ fun e w' => e = .returned (.tuple #[.string (bs (eT E)), .bool true]) ∧ w' = _) at CS
  generalize bs (eT E) = tx at CS ER
  unfold ev at ER ⊢
  go_enter Tryz.func46, Tryz.ntmps46
  generalize hw0 : w.alloc (.cells #[.string ⟨#[]⟩, .string ⟨#[]⟩, .int .i64 0, .int .i64 0, .string ⟨#[]⟩, .int .i64 0, .slice none 0 0, .int .i64 0, .int .i64 0, .slice none 0 0, .slice none 0 0] 44) = w0 at CS ER HA K4 HZ
  go_upto_region 5 with (first
    | (go_at_call 82; refine Calls.mono CS.out ?_; rintro r w' ⟨rfl, hq⟩; have hq := hq.symm; subst hq)
    | (go_at_call 83; refine Calls.mono ER.out ?_; rintro r w1 ⟨sl, skv, mvv, rfl, hL1, hb1⟩; have HL1 : Hid (Ls w1 E sl skv mvv) := hL1; obtain ⟨ra, rc, rfl, _⟩ := hL1.d; obtain ⟨sa, sc, rfl, _⟩ := hL1.s; obtain ⟨ma, mc, rfl, _⟩ := hL1.m))
  have hb2 : Below w0.heap.size w0 (w1.alloc (.cells #[.string E.id, .string E.ti, .int .i64 E.st, .int .i64 E.lg, .string E.f, .int .i64 E.e, .slice ra E.ds.length rc, .int .i64 E.c, .int .i64 E.u, .slice sa E.sk.length sc, .slice ma E.mv.length mc] 44)) := below_then hb1 (below_alloc _ _)
  have kE := EB.new w1 E (.slice ra E.ds.length rc) (.slice sa E.sk.length sc) (.slice ma E.mv.length mc)
  have KR5 : (w1.alloc (.cells #[.string E.id, .string E.ti, .int .i64 E.st, .int .i64 E.lg, .string E.f, .int .i64 E.e, .slice ra E.ds.length rc, .int .i64 E.c, .int .i64 E.u, .slice sa E.sk.length sc, .slice ma E.mv.length mc] 44)).heap[w.heap.size]? = some (.cells #[.string ⟨#[]⟩, .string ⟨#[]⟩, .int .i64 0, .int .i64 0, .string ⟨#[]⟩, .int .i64 0, .slice none 0 0, .int .i64 0, .int .i64 0, .slice none 0 0, .slice none 0 0] 44 (0, 0)) := (hb2.block _ (by rw [HZ.out]; omega)).trans K4.out
  have HL2 : Hid (Ls _ E (.slice ra E.ds.length rc) (.slice sa E.sk.length sc) (.slice ma E.mv.length mc)) := HL1.out.step (below_alloc w1 (.cells #[.string E.id, .string E.ti, .int .i64 E.st, .int .i64 E.lg, .string E.f, .int .i64 E.e, .slice ra E.ds.length rc, .int .i64 E.c, .int .i64 E.u, .slice sa E.sk.length sc, .slice ma E.mv.length mc] 44))
  have HB2 : Hid (_) := below_then HA.out hb2
  have hw1 : w.heap.size + 1 ≤ w1.heap.size := by rw [← HZ.out]; exact hb1.size
  generalize w1.alloc (.cells #[.string E.id, .string E.ti, .int .i64 E.st, .int .i64 E.lg, .string E.f, .int .i64 E.e, .slice ra E.ds.length rc, .int .i64 E.c, .int .i64 E.u, .slice sa E.sk.length sc, .slice ma E.mv.length mc] 44) = w2 at hb2 kE KR5 HL2 HB2 ⊢
  obtain ⟨x0, x1, x2, x3, x4, x5, x6, x7, x8, x9, x10⟩ := blk11 (show w2.heap[w1.heap.size]? = _ from kE)
  obtain ⟨t0, t1, t2, t3, t4, t5, t6, t7, t8, t9, t10⟩ := blk11 KR5
  have f0 := blk11_frozen KR5 0
  have f1 := blk11_frozen KR5 1
  have f2 := blk11_frozen KR5 2
  have f3 := blk11_frozen KR5 3
  have f4 := blk11_frozen KR5 4
  have f5 := blk11_frozen KR5 5
  have f6 := blk11_frozen KR5 6
  have f7 := blk11_frozen KR5 7
  have f8 := blk11_frozen KR5 8
  have f9 := blk11_frozen KR5 9
  have f10 := blk11_frozen KR5 10
  have HKR : Hid (_) := KR5
  have HT0 : Hid (w2.cell? ⟨w.heap.size, 0, none⟩ = some (.string ⟨#[]⟩)) := t0
  clear kE KR5 hb1 hb2 CS ER hL1
  go_wp2
  rw [put11_fold]
  have n10 := put11_blk (.string E.id) (.string E.ti) (.int .i64 E.st) (.int .i64 E.lg) (.string E.f) (.int .i64 E.e) (.slice ra E.ds.length rc) (.int .i64 E.c) (.int .i64 E.u) (.slice sa E.sk.length sc) (.slice ma E.mv.length mc) HKR.out
  have OFL : Off (· = w.heap.size) w2 E (.slice ra E.ds.length rc) (.slice sa E.sk.length sc) (.slice ma E.mv.length mc) := ⟨off_blkI (days_ints HL2.out.d) (by omega) HT0.out, off_blkI HL2.out.s (by have := (ew_bd hE).2.2.1; omega) HT0.out, off_blkM HL2.out.m (by have := (ew_bd hE).2.2.2; omega) HT0.out⟩
  have g7 := put11_grown w2 w.heap.size (.string E.id) (.string E.ti) (.int .i64 E.st) (.int .i64 E.lg) (.string E.f) (.int .i64 E.e) (.slice ra E.ds.length rc) (.int .i64 E.c) (.int .i64 E.u) (.slice sa E.sk.length sc) (.slice ma E.mv.length mc)
  have OF7 := OFL.grown (B := w.heap.size) rfl g7
  have HB7 : Below w.heap.size w (put11 w2 w.heap.size (.string E.id) (.string E.ti) (.int .i64 E.st) (.int .i64 E.lg) (.string E.f) (.int .i64 E.e) (.slice ra E.ds.length rc) (.int .i64 E.c) (.int .i64 E.u) (.slice sa E.sk.length sc) (.slice ma E.mv.length mc)) := ⟨g7.os.trans HB2.out.os, g7.tape.trans HB2.out.tape, g7.output.trans HB2.out.output, Nat.le_trans HB2.out.size g7.size, fun k hk => (g7.block k (Nat.lt_of_lt_of_le hk HB2.out.size) (fun q => by have : k = w.heap.size := Option.some.inj q; omega)).trans (HB2.out.block k hk)⟩
  clear x0 x1 x2 x3 x4 x5 x6 x7 x8 x9 x10 t0 t1 t2 t3 t4 t5 t6 t7 t8 t9 t10 f0 f1 f2 f3 f4 f5 f6 f7 f8 f9 f10 OFL g7
  generalize put11 w2 w.heap.size (.string E.id) (.string E.ti) (.int .i64 E.st) (.int .i64 E.lg) (.string E.f) (.int .i64 E.e) (.slice ra E.ds.length rc) (.int .i64 E.c) (.int .i64 E.u) (.slice sa E.sk.length sc) (.slice ma E.mv.length mc) = w7 at n10 OF7 HB7 ⊢
  obtain ⟨c0, c1, c2, c3, c4, c5, c6, c7, c8, c9, c10⟩ := blk11 n10
  refine bodyPost_ret (v := .tuple #[.agg #[.string E.id, .string E.ti, .int .i64 E.st, .int .i64 E.lg, .string E.f, .int .i64 E.e, .slice ra E.ds.length rc, .int .i64 E.c, .int .i64 E.u, .slice sa E.sk.length sc, .slice ma E.mv.length mc], .nilIface]) (by simp [results, Tryz.f46, go_sem, c0, c1, c2, c3, c4, c5, c6, c7, c8, c9, c10]) rfl ⟨_, _, _, rfl, OF7.ls hd20, HB7⟩
end Go.Proofs.YtbhidomccdhdkaaGreatDoor

/- Reading a calendar: package book's Read at a calendar's text. -/
namespace Go.Proofs.YtbhidomccdhdkaaGreatDoor
open Go Go.RowKit Go.Maps Go.Shelf Cal
attribute [local go_sem] Oper.semAt_some

theorem insE_end {E : EV} : ∀ {L : List EV}, (∀ F ∈ L, kb F < kb E) → insE E L = L ++ [E]
  | [], _ => rfl
  | Y :: r, h => by
    unfold insE
    rw [ltE_eq, if_neg]
    · rw [insE_end (fun F hF => h F (List.mem_cons_of_mem _ hF))]; rfl
    · rw [decide_eq_true_iff]
      exact fun q => List.lt_irrefl _ (List.lt_trans q (h Y (List.mem_cons_self)))
theorem putC_end {E : EV} {L : List EV} (h : ∀ F ∈ L, kb F < kb E) : putC E L = L ++ [E] := by
  unfold putC
  rw [woC_same, insE_end h]
  exact fun F hF q => by
    have := h F hF
    unfold kb at this
    rw [q] at this
    exact List.lt_irrefl _ this
/-- the ID of the last one -/
def lastId (L : List EV) : ByteArray := match L.getLast? with
  | some E => E.id
  | none => ⟨#[]⟩
theorem lastId_snoc (L : List EV) (E : EV) : lastId (L ++ [E]) = E.id := by
  unfold lastId
  rw [List.getLast?_concat]
theorem rises_at {C : List EV} (h : Rises C) {k : Nat} (hk : k < C.length) : ∀ F ∈ C.take k, kb F < kb C[k] := fun F hF => by
  obtain ⟨j, hj, rfl⟩ := List.mem_take_iff_getElem.1 hF
  exact List.pairwise_iff_getElem.1 h j k (by omega) hk (by omega)
theorem lastId_lt {C : List EV} (h : Rises C) (hw : ∀ E ∈ C, EW E) {k : Nat} (hk : k < C.length) : (lastId (C.take k)).data.toList < kb C[k] := by
  unfold lastId
  cases hq : (C.take k).getLast? with
  | none =>
    have h1 := (hw C[k] (List.getElem_mem hk)).id.2.1
    have h2 : kb C[k] ≠ [] := fun q => by
      have h3 : C[k].id.size = 0 := by
        rw [Lib.size_eq]
        unfold kb at q
        rw [q]
        rfl
      omega
    cases hb : kb C[k] with
    | nil => exact absurd hb h2
    | cons a r => exact List.nil_lt_cons _ _
  | some F => exact rises_at h hk F (List.mem_of_getLast? hq)

theorem new_eq (w : World) : Calls Tryz.prog 15 #[] w fun r w' => r = .returned (.pointer (some ⟨w.heap.size, 0, none⟩)) ∧ w' = w.alloc (.cells #[.map none] 103) := by
  go_enter Tryz.func15, Tryz.ntmps15
  go_wp2
  go_ret
  exact ⟨rfl, rfl⟩
/-- where the loop over the lines begins -/
def RBk (w : World) (sb : ByteArray) : World :=
  ((((((w.alloc (.cells #[.pointer none] 25)).alloc (.cells #[.nilIface] 32)).alloc (.cells #[.map none] 103)).alloc (.cells #[.pointer (some ⟨w.heap.size + 1 + 1, 0, none⟩)] 25)).alloc (.cells #[.int .i64 0] 3)).alloc (.cells #[.string ⟨#[]⟩] 9)).alloc (.cells #[.string sb] 9)
theorem rbk_size (w : World) (sb : ByteArray) : (RBk w sb).heap.size = w.heap.size + 7 := by
  unfold RBk
  simp
theorem rbk_below (w : World) (sb : ByteArray) : Below w.heap.size w (RBk w sb) := by
  unfold RBk
  exact below_then (below_alloc _ _) (below_then (below_alloc _ _) (below_then (below_alloc _ _) (below_then (below_alloc _ _) (below_then (below_alloc _ _) (below_then (below_alloc _ _) (below_alloc _ _))))))
theorem rbk_boxes (w : World) (sb : ByteArray) :
    Boxed (RBk w sb) w.heap.size 25 (.pointer none) ∧ Boxed (RBk w sb) (w.heap.size + 1) 32 .nilIface ∧ (RBk w sb).heap[w.heap.size + 2]? = some (.cells #[.map none] 103 (0, 0)) ∧ Boxed (RBk w sb) (w.heap.size + 3) 25 (.pointer (some ⟨w.heap.size + 1 + 1, 0, none⟩)) ∧
      Boxed (RBk w sb) (w.heap.size + 4) 3 (.int .i64 0) ∧ Boxed (RBk w sb) (w.heap.size + 5) 9 (.string ⟨#[]⟩) ∧ Boxed (RBk w sb) (w.heap.size + 6) 9 (.string sb) := by
  unfold RBk
  refine ⟨?_, ?_, ?_, ?_, ?_, ?_, ?_⟩
  · exact block_alloc _ (block_alloc _ (block_alloc _ (block_alloc _ (block_alloc _ (block_alloc _ (block_at _ rfl))))))
  · exact block_alloc _ (block_alloc _ (block_alloc _ (block_alloc _ (block_alloc _ (block_at _ (by simp))))))
  · exact block_alloc _ (block_alloc _ (block_alloc _ (block_alloc _ (block_at _ (by simp)))))
  · exact block_alloc _ (block_alloc _ (block_alloc _ (block_at _ (by simp))))
  · exact block_alloc _ (block_alloc _ (block_at _ (by simp)))
  · exact block_alloc _ (block_at _ (by simp))
  · exact block_at _ (by simp)
/-- the loop's own variables -/
structure RJ (w W : World) (r : Loop) (k : Int) (ah : ByteArray) : Prop where
  b0 : Boxed W w.heap.size 25 (.pointer none)
  b1 : Boxed W (w.heap.size + 1) 32 .nilIface
  b3 : Boxed W (w.heap.size + 3) 25 (.pointer (some ⟨w.heap.size + 1 + 1, 0, none⟩))
  b4 : Boxed W (w.heap.size + 4) 3 (.int .i64 k)
  b5 : Boxed W (w.heap.size + 5) 9 (.string ah)
  d : W.heap[w.heap.size + 7]? = some (.deferred (some []))
  l : W.heap[w.heap.size + 8]? = some (.loop r)
  bw : Below w.heap.size w W
  sz : w.heap.size + 9 ≤ W.heap.size
theorem RJ.move {w W W' : World} {r r' : Loop} {k : Int} {ah : ByteArray} (h : RJ w W r k ah) (hF : ∀ b, b < w.heap.size + 9 → b ≠ w.heap.size + 2 → b ≠ w.heap.size + 6 → b ≠ w.heap.size + 8 → W'.heap[b]? = W.heap[b]?) (hl : W'.heap[w.heap.size + 8]? = some (.loop r')) (ho : W'.os = W.os ∧ W'.tape = W.tape ∧ W'.output = W.output) (hs : W.heap.size ≤ W'.heap.size) : RJ w W' r' k ah :=
  ⟨(hF _ (by omega) (by omega) (by omega) (by omega)).trans h.b0, (hF _ (by omega) (by omega) (by omega) (by omega)).trans h.b1, (hF _ (by omega) (by omega) (by omega) (by omega)).trans h.b3, (hF _ (by omega) (by omega) (by omega) (by omega)).trans h.b4, (hF _ (by omega) (by omega) (by omega) (by omega)).trans h.b5, (hF _ (by omega) (by omega) (by omega) (by omega)).trans h.d, hl,
    ⟨ho.1.trans h.bw.os, ho.2.1.trans h.bw.tape, ho.2.2.trans h.bw.output, Nat.le_trans h.bw.size hs, fun b hb => (hF b (by omega) (by omega) (by omega) (by omega)).trans (h.bw.block b hb)⟩, Nat.le_trans h.sz hs⟩

set_option maxHeartbeats 4000000 in
set_option maxRecDepth 100000 in
theorem read_C (C : List EV) (s : Nat → Addr) (w : World) (gk : GlobK s w) (g : GlobR w) (hup : Rises C) (hw : ∀ E ∈ C, EW E ∧ E.ds.length ≤ 20) (hC : C.length ≤ 60) (h10 : (bkT C).length ≤ 10000) :
    Calls Tryz.prog 12 #[.string (bs (bkT C))] w fun r w' => ∃ bb mo n, r = .returned (.tuple #[.pointer (some ⟨bb, 0, none⟩), .nilIface]) ∧ w.heap.size ≤ bb ∧ BookAt w.heap.size w' bb mo n C ∧ n ≤ 60 ∧ Below w.heap.size w w' := by
  have hsz : (bs (bkT C)).size ≤ 10000 := by rw [Lib.size_eq, bs_data]; exact h10
  have hfl : (bs (bkT C)).data.toList = (lns C).flatten := by rw [bs_data, lns_flat]
  have hlk : (lns C).length = C.length := by unfold lns; rw [List.length_map]
  generalize bs (bkT C) = sb at hsz hfl
  have HFL : Hid (sb.data.toList = (lns C).flatten) := hfl
  have GK : Hid (GlobK s w) := gk
  have G : Hid (GlobR w) := g
  have HUP : Hid (Rises C) := hup
  have HW : Hid (∀ E ∈ C, EW E ∧ E.ds.length ≤ 20) := hw
  have LN : Hid (∀ w, _) := fun w => lines_any sb w
  have NW : Hid (∀ w, _) := fun w => new_eq w
  have hszI : (sb.size : Int) ≤ 10000 := by omega
  clear hfl gk g hup hw
  refine (callsIn_wide (n := 10)).1 ?_
  refine callsIn_of_wp_marks Tryz.func12 rfl trivial ?_ rfl
  simp only [Tryz.ntmps12, List.size_toArray, List.length_cons, List.length_nil, Nat.reduceAdd, Nat.reduceSub, Array.replicate_succ, Array.replicate_zero, List.push_toArray, List.append_toArray, List.nil_append, List.cons_append]
  gi_wp2_with (first
    | (refine ⟨trivial, ?_⟩; gi_at_call 45; refine (callsIn_wide.2 (LN.out _)).mono ?_; rintro r w' ⟨rfl, rfl⟩)
    | (refine ⟨trivial, ?_⟩; gi_at_call 15; refine (callsIn_wide.2 (NW.out _)).mono ?_; rintro r w' ⟨rfl, rfl⟩))
  change Code.wpIn _ _ _ _ _ _ (RBk w sb)
  obtain ⟨b0, b1, b2, b3, b4, b5, b6⟩ := rbk_boxes w sb
  have hbw := rbk_below w sb
  have hs6 := rbk_size w sb
  generalize RBk w sb = W6 at b0 b1 b2 b3 b4 b5 b6 hbw hs6
  refine rangeFunc_of rfl (enters_of Tryz.func80 (by kernel_rfl) rfl) (fun r0 hr0 => ?_)
  have hl8 : W6.heap.size + 1 = w.heap.size + 8 := by omega
  rw [hl8]
  refine (lines_iter 9 (w.heap.size + 8) (w.heap.size + 6) (lns C)
    (fun k W => ∃ mo n, BookAt (w.heap.size + 9) W (w.heap.size + 2) mo n (C.take k) ∧ n ≤ k ∧ RJ w W r0 k (lastId (C.take k)))
    (fun _ _ => False) (by omega) (lns_ok (fun E hE => (HW.out E hE).1)) ?hJs ?hY _ sb (by omega) HFL.out ?hBox ?h0).mono ?post
  case hJs =>
    rintro k W W' ⟨mo, n, q1, q2, q3⟩ hg
    refine ⟨mo, n, q1.grown hg (by omega) (by omega), q2, q3.move (fun b hb _ h6 _ => hg.block b (by have := q3.sz; omega) (fun q => h6 (Option.some.inj q))) ((hg.block _ (by have := q3.sz; omega) (fun q => by have := Option.some.inj q; omega)).trans q3.l) ⟨hg.os, hg.tape, hg.output⟩ hg.size⟩
  case hBox =>
    have hb := below_then (below_alloc W6 (.deferred (some []))) (below_alloc _ (.loop r0))
    exact (hb.block _ (by omega)).trans b6
  case h0 =>
    have hb := below_then (below_alloc W6 (.deferred (some []))) (below_alloc _ (.loop r0))
    have hsz2 : ((W6.alloc (.deferred (some []))).alloc (.loop r0)).heap.size = w.heap.size + 9 := by rw [World.size_alloc, World.size_alloc, hs6]
    refine ⟨none, 0, ⟨.map [], ⟨(hb.block _ (by omega)).trans b2, rfl⟩, by omega, (fun mb e => by cases e), Holds.none _ _⟩, Nat.le_refl _, ?_⟩
    have hd7 : ((W6.alloc (.deferred (some []))).alloc (.loop r0)).heap[w.heap.size + 7]? = some (.deferred (some [])) := block_alloc _ (block_at _ hs6)
    have hl : ((W6.alloc (.deferred (some []))).alloc (.loop r0)).heap[w.heap.size + 8]? = some (.loop r0) := by rw [← hl8]; exact rec_start _ _
    exact ⟨(hb.block _ (by omega)).trans b0, (hb.block _ (by omega)).trans b1, (hb.block _ (by omega)).trans b3, (hb.block _ (by omega)).trans b4, (hb.block _ (by omega)).trans b5, hd7, hl, below_then hbw hb, by omega⟩
  case hY =>
    rintro k hk W ⟨mo, n, q1, q2, q3⟩
    have hkC : k < C.length := by omega
    have hwE := HW.out C[k] (List.getElem_mem hkC)
    have hln : (lns C)[k] = eT C[k] ++ [10] := by simp [lns]
    have hgb := grownBy_putObj' W (w.heap.size + 8) (.loop { r0 with state := .busy })
    have q1b := q1.grown hgb (by omega) (by omega)
    have lrec : (W.putObj (w.heap.size + 8) (.loop { r0 with state := .busy })).heap[w.heap.size + 8]? = some (.loop { r0 with state := .busy }) := World.putObj_heap_same (Array.getElem?_eq_some_iff.1 q3.l).1
    have q3b : RJ w (W.putObj (w.heap.size + 8) (.loop { r0 with state := .busy })) { r0 with state := .busy } k (lastId (C.take k)) := q3.move (fun b hb _ _ h8 => World.putObj_heap_other h8) lrec ⟨hgb.os, hgb.tape, hgb.output⟩ hgb.size
    have e6 : (W.putObj (w.heap.size + 8) (.loop { r0 with state := .busy })).heap[w.heap.size + 6]? = W.heap[w.heap.size + 6]? := World.putObj_heap_other (by omega)
    have hlt := lastId_lt HUP.out (fun E hE => (HW.out E hE).1) hkC
    have hpc : putC C[k] (C.take k) = C.take (k + 1) := by rw [putC_end (rises_at HUP.out hkC), List.take_succ_eq_append_getElem hkC]
    have hlast : lastId (C.take (k + 1)) = C[k].id := by rw [List.take_succ_eq_append_getElem hkC, lastId_snoc]
    have hnf : ¬ ((¬ ∃ F ∈ C.take k, F.id = C[k].id) ∧ 60 ≤ (C.take k).length) := fun q => by
      have := q.2
      rw [List.length_take] at this
      omega
    rw [hln]
    have hl6 := q3.l
    have HQ4 : Hid (_) := hl6
    change YieldAt _ _ _ _ #[.string (bs (eT C[k] ++ [10]))] _ _
    generalize hWb : W.putObj (w.heap.size + 8) (.loop { r0 with state := .busy }) = Wb at q1b q3b lrec e6
    have RL : Hid (Calls _ _ _ _ _) := readLine_C C[k] (lastId (C.take k)) s Wb (GK.out.step q3b.bw) (G.out.step q3b.bw) hwE.1 hwE.2 hlt
    obtain ⟨i12, t40, _, _⟩ := ew_bd hwE.1
    have PUT : Hid (∀ (W' : World) (sl skv mvv : Value), Below Wb.heap.size Wb W' → Ls W' C[k] sl skv mvv → Calls Tryz.prog 17 #[.pointer (some ⟨w.heap.size + 1 + 1, 0, none⟩), ev C[k] sl skv mvv] W' fun r w' => r = .returned .nilIface ∧ PutTo (w.heap.size + 9) W' w' (w.heap.size + 2) mo n (C.take (k + 1))) := fun W' sl skv mvv hW' hL => by
      obtain ⟨kk, hkk⟩ := evK_ex C[k]
      have hk0 := (evK_0 hkk).2 hwE.1
      refine Calls.mono (put_C (w.heap.size + 9) (w.heap.size + 2) n mo (C.take k) C[k] sl skv mvv kk s W' (GK.out.step (below_then q3b.bw hW')) (q1b.step hW') (by omega) (by omega) (by omega) hL hkk) ?_
      rintro r w' (⟨z0, _⟩ | ⟨_, z1, _⟩ | ⟨_, _, rfl, z3⟩)
      · exact absurd hk0 z0
      · exact absurd z1 hnf
      · rw [hpc] at z3
        exact ⟨rfl, z3⟩
    have HJ3 : Hid (RJ w Wb { r0 with state := .busy } k (lastId (C.take k))) := q3b
    have HLAST : Hid (lastId (C.take (k + 1)) = C[k].id) := hlast
    have HE6 : Hid (_) := e6
    have HMO : Hid (∀ mb, mo = some mb → w.heap.size + 9 ≤ mb) := by
      obtain ⟨_, _, _, z, _⟩ := q1b
      exact z
    have HMB1 : Hid (∀ mb, mo = some mb → mb < Wb.heap.size) := q1b.lt.2
    have c5 := q3b.b5.cell
    have c3 := q3b.b3.cell
    have hkz : (k : Int) < 1000 := by omega
    clear q1 q1b q3 q3b lrec e6 hlt hpc hlast hnf hln b0 b1 b2 b3 b4 b5 b6 hgb hl6
    generalize bs (eT C[k] ++ [10]) = x at RL
    generalize C[k] = E at RL PUT HLAST
    generalize lastId (C.take k) = ah at RL HJ3 c5
    unfold ev at RL PUT
    refine yieldAt_of hr0 ({ tmps := #[.string sb, undef, .pointer (some ⟨w.heap.size, 0, none⟩), .pointer (some ⟨w.heap.size + 1, 0, none⟩), .pointer (some ⟨w.heap.size + 1 + 1 + 1, 0, none⟩), .pointer (some ⟨w.heap.size + 1 + 1 + 1 + 1, 0, none⟩), .pointer (some ⟨w.heap.size + 1 + 1 + 1 + 1 + 1, 0, none⟩), .string x, undef, undef, .string sb, .int .i64 sb.size, .bool (decide ((10000 : Int) < (sb.size : Int))), undef, .pointer (some ⟨w.heap.size + 1 + 1, 0, none⟩), .string sb, .func (.func 80) #[] #[.pointer (some ⟨w.heap.size + 1 + 1 + 1 + 1 + 1 + 1, 0, none⟩)], .string x, undef, undef, undef, undef, undef, undef, undef, undef, undef, undef, undef, undef, undef, undef, undef, undef, undef, undef, undef, undef, undef, undef, undef], defers := [] }) HQ4.out rfl ?assign ?body
    case assign =>
      intro K hK
      gi_wp2
      exact hK
    case body =>
      rw [hWb]
      gi_upto_region 12 with (first
        | (refine ⟨trivial, ?_⟩; gi_at_call 46; refine (CallsIn.inRound (w.heap.size + 8) (callsIn_wide.2 RL.out)).mono ?_; rintro r w1 ⟨sl1, sk1, mv1, rfl, hL1, hb1⟩; have HL1 : Hid (Ls w1 E sl1 sk1 mv1) := hL1; obtain ⟨ra, rc, rfl, _⟩ := hL1.d; obtain ⟨sa, sc, rfl, _⟩ := hL1.s; obtain ⟨ma, mc, rfl, _⟩ := hL1.m; have hb2 : Below Wb.heap.size Wb (w1.alloc (.cells #[.string E.id, .string E.ti, .int .i64 E.st, .int .i64 E.lg, .string E.f, .int .i64 E.e, .slice ra E.ds.length rc, .int .i64 E.c, .int .i64 E.u, .slice sa E.sk.length sc, .slice ma E.mv.length mc] 44)) := below_then hb1 (below_alloc _ _); have PT : Hid (Calls _ _ _ _ _) := PUT.out _ _ _ _ hb2 (HL1.out.step (below_alloc _ _)); obtain ⟨x0, x1, x2, x3, x4, x5, x6, x7, x8, x9, x10⟩ := blk11 (EB.new w1 E (.slice ra E.ds.length rc) (.slice sa E.sk.length sc) (.slice ma E.mv.length mc)); have c32 := cell_step c3 hb2; have HB2 : Hid (_) := hb2)
        | (refine ⟨trivial, ?_⟩; gi_at_call 17; refine (CallsIn.inRound (w.heap.size + 8) (callsIn_wide.2 PT.out)).mono ?_; rintro r w3 ⟨rfl, hPT⟩))
      obtain ⟨mo', hbk3, hK3, _⟩ := hPT
      have hz1 : w.heap.size + 9 ≤ Wb.heap.size := HJ3.out.sz
      have hz2 : w.heap.size + 9 ≤ (w1.alloc (.cells #[.string E.id, .string E.ti, .int .i64 E.st, .int .i64 E.lg, .string E.f, .int .i64 E.e, .slice ra E.ds.length rc, .int .i64 E.c, .int .i64 E.u, .slice sa E.sk.length sc, .slice ma E.mv.length mc] 44)).heap.size := Nat.le_trans hz1 HB2.out.size
      have hF3 : ∀ b, b < w.heap.size + 9 → b ≠ w.heap.size + 2 → w3.heap[b]? = Wb.heap[b]? := fun b hb hne => (hK3.block b (by omega) hne (fun q => by have := HMO.out b q.symm; omega)).trans (HB2.out.block b (by omega))
      have hJ3 : RJ w w3 { r0 with state := .busy } k ah := HJ3.out.move (fun b hb h2 _ _ => hF3 b hb h2) ((hF3 _ (by omega) (by omega)).trans HJ3.out.l) ⟨hK3.os.trans HB2.out.os, hK3.tape.trans HB2.out.tape, hK3.output.trans HB2.out.output⟩ (Nat.le_trans HB2.out.size hK3.size)
      have he6 : w3.heap[w.heap.size + 6]? = W.heap[w.heap.size + 6]? := (hF3 _ (by omega) (by omega)).trans HE6.out
      have x03 : w3.cell? ⟨w1.heap.size, 0, none⟩ = some (.string E.id) := kept_cellM hK3 x0 (by have := HL1.out; have : Wb.heap.size ≤ w1.heap.size := hb1.size; omega) (fun q => by
        have h1 := HMB1.out w1.heap.size q.symm
        have : Wb.heap.size ≤ w1.heap.size := hb1.size
        omega)
      have c4 : w3.cell? ⟨w.heap.size + 1 + 1 + 1 + 1, 0, none⟩ = some (.int .i64 k) := hJ3.b4.cell
      have f4 : w3.frozen? ⟨w.heap.size + 1 + 1 + 1 + 1, 0, none⟩ = false := hJ3.b4.frozen
      have c5' : w3.cell? ⟨w.heap.size + 1 + 1 + 1 + 1 + 1, 0, none⟩ = some (.string ah) := hJ3.b5.cell
      have f5 : w3.frozen? ⟨w.heap.size + 1 + 1 + 1 + 1 + 1, 0, none⟩ = false := hJ3.b5.frozen
      have HJ33 : Hid (_) := hJ3
      have HBK3 : Hid (_) := hbk3
      have HE63 : Hid (_) := he6
      clear hJ3 hbk3 he6 hF3 hK3 x0 x1 x2 x3 x4 x5 x6 x7 x8 x9 x10 c32 c3 c5 RL PUT PT hL1
      have hn4 : w1.heap.size ≠ w.heap.size + 1 + 1 + 1 + 1 := by have : Wb.heap.size ≤ w1.heap.size := hb1.size; omega
      have hn5 : w1.heap.size ≠ w.heap.size + 1 + 1 + 1 + 1 + 1 := by have : Wb.heap.size ≤ w1.heap.size := hb1.size; omega
      have hkk : (k : Int) + 1 ≤ 1001 := by omega
      have hmix : Tryz.prog.follows .mixedOrders = true := by kernel_rfl
      have x04 : ∀ v, (w3.drew.setCell ⟨w.heap.size + 1 + 1 + 1 + 1, 0, none⟩ v).cell? ⟨w1.heap.size, 0, none⟩ = some (.string E.id) := fun v => grown_cell (grown_set w3.drew ⟨w.heap.size + 1 + 1 + 1 + 1, 0, none⟩ v) x03 hn4
      have FIN : Hid (∀ v, v = .int .i64 ((k + 1 : Nat) : Int) → (((w3.setCell ⟨w.heap.size + 1 + 1 + 1 + 1, 0, none⟩ v).setCell ⟨w.heap.size + 1 + 1 + 1 + 1 + 1, 0, none⟩ (.string E.id)).drew).heap[w.heap.size + 8]? = some (.loop { r0 with state := .busy }) ∧
          (∃ mo n, BookAt (w.heap.size + 9) ((((w3.setCell ⟨w.heap.size + 1 + 1 + 1 + 1, 0, none⟩ v).setCell ⟨w.heap.size + 1 + 1 + 1 + 1 + 1, 0, none⟩ (.string E.id)).drew).putObj (w.heap.size + 8) (.loop { r0 with state := .ready, pending := none })) (w.heap.size + 2) mo n (C.take (k + 1)) ∧ n ≤ k + 1 ∧ RJ w ((((w3.setCell ⟨w.heap.size + 1 + 1 + 1 + 1, 0, none⟩ v).setCell ⟨w.heap.size + 1 + 1 + 1 + 1 + 1, 0, none⟩ (.string E.id)).drew).putObj (w.heap.size + 8) (.loop { r0 with state := .ready, pending := none })) r0 ((k + 1 : Nat) : Int) (lastId (C.take (k + 1)))) ∧
          ((((w3.setCell ⟨w.heap.size + 1 + 1 + 1 + 1, 0, none⟩ v).setCell ⟨w.heap.size + 1 + 1 + 1 + 1 + 1, 0, none⟩ (.string E.id)).drew).putObj (w.heap.size + 8) (.loop { r0 with state := .ready, pending := none })).heap[w.heap.size + 6]? = W.heap[w.heap.size + 6]?) := fun v hv => by
        have gA := grown_set w3 ⟨w.heap.size + 1 + 1 + 1 + 1, 0, none⟩ v
        have gB := grown_set (w3.setCell ⟨w.heap.size + 1 + 1 + 1 + 1, 0, none⟩ v) ⟨w.heap.size + 1 + 1 + 1 + 1 + 1, 0, none⟩ (.string E.id)
        have z3 := HJ33.out.sz
        have F4 : ∀ b, b < w.heap.size + 9 → b ≠ w.heap.size + 4 → b ≠ w.heap.size + 5 → (((w3.setCell ⟨w.heap.size + 1 + 1 + 1 + 1, 0, none⟩ v).setCell ⟨w.heap.size + 1 + 1 + 1 + 1 + 1, 0, none⟩ (.string E.id)).drew).heap[b]? = w3.heap[b]? := fun b hb h4 h5 => (gB.block b (by have := gA.size; omega) (fun q => h5 (by have := Option.some.inj q; omega))).trans (gA.block b (by omega) (fun q => h4 (by have := Option.some.inj q; omega)))
        have hl4 : (((w3.setCell ⟨w.heap.size + 1 + 1 + 1 + 1, 0, none⟩ v).setCell ⟨w.heap.size + 1 + 1 + 1 + 1 + 1, 0, none⟩ (.string E.id)).drew).heap[w.heap.size + 8]? = some (.loop { r0 with state := .busy }) := (F4 _ (by omega) (by omega) (by omega)).trans HJ33.out.l
        have b44 : Boxed (w3.setCell ⟨w.heap.size + 1 + 1 + 1 + 1, 0, none⟩ v) (w.heap.size + 4) 3 v := HJ33.out.b4.set v
        have b54 : Boxed (((w3.setCell ⟨w.heap.size + 1 + 1 + 1 + 1, 0, none⟩ v).setCell ⟨w.heap.size + 1 + 1 + 1 + 1 + 1, 0, none⟩ (.string E.id)).drew) (w.heap.size + 5) 9 (.string E.id) := Boxed.set _ ((HJ33.out.b5).other (by omega) v)
        have b44' : Boxed (((w3.setCell ⟨w.heap.size + 1 + 1 + 1 + 1, 0, none⟩ v).setCell ⟨w.heap.size + 1 + 1 + 1 + 1 + 1, 0, none⟩ (.string E.id)).drew) (w.heap.size + 4) 3 v := b44.other (by omega) _
        have gP := grownBy_putObj' (((w3.setCell ⟨w.heap.size + 1 + 1 + 1 + 1, 0, none⟩ v).setCell ⟨w.heap.size + 1 + 1 + 1 + 1 + 1, 0, none⟩ (.string E.id)).drew) (w.heap.size + 8) (.loop { r0 with state := .ready, pending := none })
        have hbk4 := ((BookAt.grown (B := w.heap.size + 1 + 1 + 1 + 1) HBK3.out gA (by omega) (by omega)).grown (B := w.heap.size + 1 + 1 + 1 + 1 + 1) gB (by omega) (by omega)).step (drew_below _)
        have P : ∀ b, b ≠ w.heap.size + 8 → ((((w3.setCell ⟨w.heap.size + 1 + 1 + 1 + 1, 0, none⟩ v).setCell ⟨w.heap.size + 1 + 1 + 1 + 1 + 1, 0, none⟩ (.string E.id)).drew).putObj (w.heap.size + 8) (.loop { r0 with state := .ready, pending := none })).heap[b]? = (((w3.setCell ⟨w.heap.size + 1 + 1 + 1 + 1, 0, none⟩ v).setCell ⟨w.heap.size + 1 + 1 + 1 + 1 + 1, 0, none⟩ (.string E.id)).drew).heap[b]? := fun b hb => World.putObj_heap_other hb
        refine ⟨hl4, ⟨mo', n + 1, hbk4.grown gP (by omega) (by omega), by omega, ?_⟩, (P _ (by omega)).trans ((F4 _ (by omega) (by omega) (by omega)).trans HE63.out)⟩
        rw [HLAST.out]
        refine ⟨(P _ (by omega)).trans ((F4 _ (by omega) (by omega) (by omega)).trans HJ33.out.b0), (P _ (by omega)).trans ((F4 _ (by omega) (by omega) (by omega)).trans HJ33.out.b1), (P _ (by omega)).trans ((F4 _ (by omega) (by omega) (by omega)).trans HJ33.out.b3), (P _ (by omega)).trans (hv ▸ b44'), (P _ (by omega)).trans b54, (P _ (by omega)).trans ((F4 _ (by omega) (by omega) (by omega)).trans HJ33.out.d), ?_, ?_, ?_⟩
        · rw [hr0.again]; exact World.putObj_heap_same (Array.getElem?_eq_some_iff.1 hl4).1
        · have hbw3 := HJ33.out.bw
          exact ⟨gP.os.trans (gB.os.trans (gA.os.trans hbw3.os)), gP.tape.trans (gB.tape.trans (gA.tape.trans hbw3.tape)), gP.output.trans (gB.output.trans (gA.output.trans hbw3.output)), Nat.le_trans hbw3.size (Nat.le_trans gA.size (Nat.le_trans gB.size gP.size)), fun b hb => (P b (by omega)).trans ((F4 b (by omega) (by omega) (by omega)).trans (hbw3.block b hb))⟩
        · exact Nat.le_trans z3 (Nat.le_trans gA.size (Nat.le_trans gB.size gP.size))
      have hwr : (Value.int .i64 (IntKind.i64.wrap ((k : Int) + 1))) = .int .i64 ((k + 1 : Nat) : Int) := by
        have e : IntKind.i64.wrap ((k : Int) + 1) = ((k + 1 : Nat) : Int) := by rw [IntKind.wrap_i64]; omega
        rw [e]
      have HWR : Hid (_) := hwr
      clear hwr
      gi_region
      all_goals
        obtain ⟨z1, z2, z3⟩ := FIN.out _ HWR.out
        exact ⟨z1, Or.inl ⟨rfl, z2, z3⟩⟩
  case post =>
    rintro e2 W2 ⟨hv, (⟨mo, n, q1, q2, q3⟩ | ⟨k, hx⟩)⟩
    · rw [hlk] at q1 q2
      rw [List.take_of_length_le (Nat.le_refl _)] at q1
      refine ⟨hv, _, q3.l, by rw [hr0.state]; decide, .inl ⟨hr0.pending, ?_⟩⟩
      have gP := grownBy_putObj' W2 (w.heap.size + 8) (.loop { r0 with state := .exhausted })
      have q1' := q1.grown gP (by omega) (by omega)
      have P : ∀ b, b ≠ w.heap.size + 8 → (W2.putObj (w.heap.size + 8) (.loop { r0 with state := .exhausted })).heap[b]? = W2.heap[b]? := fun b hb => World.putObj_heap_other hb
      have c0 : Boxed (W2.putObj (w.heap.size + 8) (.loop { r0 with state := .exhausted })) w.heap.size 25 (.pointer none) := (P _ (by omega)).trans q3.b0
      have c1 : Boxed (W2.putObj (w.heap.size + 8) (.loop { r0 with state := .exhausted })) (w.heap.size + 1) 32 .nilIface := (P _ (by omega)).trans q3.b1
      have c3 : Boxed (W2.putObj (w.heap.size + 8) (.loop { r0 with state := .exhausted })) (w.heap.size + 3) 25 (.pointer (some ⟨w.heap.size + 1 + 1, 0, none⟩)) := (P _ (by omega)).trans q3.b3
      have cd : (W2.putObj (w.heap.size + 8) (.loop { r0 with state := .exhausted })).heap[w.heap.size + 7]? = some (.deferred (some [])) := (P _ (by omega)).trans q3.d
      have bw3 : Below w.heap.size w (W2.putObj (w.heap.size + 8) (.loop { r0 with state := .exhausted })) := ⟨gP.os.trans q3.bw.os, gP.tape.trans q3.bw.tape, gP.output.trans q3.bw.output, Nat.le_trans q3.bw.size gP.size, fun b hb => (P b (by omega)).trans (q3.bw.block b hb)⟩
      have z3 : w.heap.size + 9 ≤ (W2.putObj (w.heap.size + 8) (.loop { r0 with state := .exhausted })).heap.size := Nat.le_trans q3.sz gP.size
      generalize W2.putObj (w.heap.size + 8) (.loop { r0 with state := .exhausted }) = W3 at q1' c0 c1 c3 cd bw3 z3 ⊢
      rw [show W6.heap.size = w.heap.size + 7 from hs6]
      have FIN : Hid (((W3.setCell ⟨w.heap.size, 0, none⟩ (.pointer (some ⟨w.heap.size + 1 + 1, 0, none⟩))).setCell ⟨w.heap.size + 1, 0, none⟩ .nilIface).heap[w.heap.size + 7]? = some (.deferred (some [])) ∧ Boxed (((W3.setCell ⟨w.heap.size, 0, none⟩ (.pointer (some ⟨w.heap.size + 1 + 1, 0, none⟩))).setCell ⟨w.heap.size + 1, 0, none⟩ .nilIface).putObj (w.heap.size + 7) (.deferred none)) w.heap.size 25 (.pointer (some ⟨w.heap.size + 1 + 1, 0, none⟩)) ∧ Boxed (((W3.setCell ⟨w.heap.size, 0, none⟩ (.pointer (some ⟨w.heap.size + 1 + 1, 0, none⟩))).setCell ⟨w.heap.size + 1, 0, none⟩ .nilIface).putObj (w.heap.size + 7) (.deferred none)) (w.heap.size + 1) 32 .nilIface ∧ BookAt w.heap.size (((W3.setCell ⟨w.heap.size, 0, none⟩ (.pointer (some ⟨w.heap.size + 1 + 1, 0, none⟩))).setCell ⟨w.heap.size + 1, 0, none⟩ .nilIface).putObj (w.heap.size + 7) (.deferred none)) (w.heap.size + 2) mo n C ∧ Below w.heap.size w (((W3.setCell ⟨w.heap.size, 0, none⟩ (.pointer (some ⟨w.heap.size + 1 + 1, 0, none⟩))).setCell ⟨w.heap.size + 1, 0, none⟩ .nilIface).putObj (w.heap.size + 7) (.deferred none))) := by
        have gA := grown_set W3 ⟨w.heap.size, 0, none⟩ (.pointer (some ⟨w.heap.size + 1 + 1, 0, none⟩))
        have gB := grown_set (W3.setCell ⟨w.heap.size, 0, none⟩ (.pointer (some ⟨w.heap.size + 1 + 1, 0, none⟩))) ⟨w.heap.size + 1, 0, none⟩ .nilIface
        have gD := grownBy_putObj' ((W3.setCell ⟨w.heap.size, 0, none⟩ (.pointer (some ⟨w.heap.size + 1 + 1, 0, none⟩))).setCell ⟨w.heap.size + 1, 0, none⟩ .nilIface) (w.heap.size + 7) (.deferred none)
        have F4 : ∀ b, b < w.heap.size + 9 → b ≠ w.heap.size → b ≠ w.heap.size + 1 → ((W3.setCell ⟨w.heap.size, 0, none⟩ (.pointer (some ⟨w.heap.size + 1 + 1, 0, none⟩))).setCell ⟨w.heap.size + 1, 0, none⟩ .nilIface).heap[b]? = W3.heap[b]? := fun b hb h4 h5 => (gB.block b (by have := gA.size; omega) (fun q => h5 (by have := Option.some.inj q; omega))).trans (gA.block b (by omega) (fun q => h4 (by have := Option.some.inj q; omega)))
        have hd := (F4 (w.heap.size + 7) (by omega) (by omega) (by omega)).trans cd
        have b0' : Boxed ((W3.setCell ⟨w.heap.size, 0, none⟩ (.pointer (some ⟨w.heap.size + 1 + 1, 0, none⟩))).setCell ⟨w.heap.size + 1, 0, none⟩ .nilIface) w.heap.size 25 (.pointer (some ⟨w.heap.size + 1 + 1, 0, none⟩)) := (c0.set (.pointer (some ⟨w.heap.size + 1 + 1, 0, none⟩))).other (by omega) _
        have b1' : Boxed ((W3.setCell ⟨w.heap.size, 0, none⟩ (.pointer (some ⟨w.heap.size + 1 + 1, 0, none⟩))).setCell ⟨w.heap.size + 1, 0, none⟩ .nilIface) (w.heap.size + 1) 32 .nilIface := Boxed.set _ (c1.other (by omega) _)
        have PD : ∀ b, b ≠ w.heap.size + 7 → (((W3.setCell ⟨w.heap.size, 0, none⟩ (.pointer (some ⟨w.heap.size + 1 + 1, 0, none⟩))).setCell ⟨w.heap.size + 1, 0, none⟩ .nilIface).putObj (w.heap.size + 7) (.deferred none)).heap[b]? = ((W3.setCell ⟨w.heap.size, 0, none⟩ (.pointer (some ⟨w.heap.size + 1 + 1, 0, none⟩))).setCell ⟨w.heap.size + 1, 0, none⟩ .nilIface).heap[b]? := fun b hb => World.putObj_heap_other hb
        refine ⟨hd, (PD _ (by omega)).trans b0', (PD _ (by omega)).trans b1', BookAt.low (lo := w.heap.size + 9) (((q1'.grown (B := w.heap.size) gA (by omega) (by omega)).grown (B := w.heap.size + 1) gB (by omega) (by omega)).grown (B := w.heap.size + 7) gD (by omega) (by omega)) (by omega), ?_⟩
        exact ⟨gD.os.trans (gB.os.trans (gA.os.trans bw3.os)), gD.tape.trans (gB.tape.trans (gA.tape.trans bw3.tape)), gD.output.trans (gB.output.trans (gA.output.trans bw3.output)), Nat.le_trans bw3.size (Nat.le_trans gA.size (Nat.le_trans gB.size gD.size)), fun b hb => (PD b (by omega)).trans ((F4 b (by omega) (by omega) (by omega)).trans (bw3.block b hb))⟩
      have d0 := c0.cell
      have e0 := c0.frozen
      have d1 := c1.cell
      have e1 := c1.frozen
      have d3 : W3.cell? ⟨w.heap.size + 1 + 1 + 1, 0, none⟩ = some (.pointer (some ⟨w.heap.size + 1 + 1, 0, none⟩)) := c3.cell
      have HN : Hid (n ≤ 60) := by show n ≤ 60; omega
      clear q1 q2 q3 q1' c0 c1 c3 cd bw3 gP P b0 b1 b2 b3 b4 b5 b6 LN NW
      gi_wp2
      obtain ⟨fd, fb0, fb1, fbk, fbw⟩ := FIN.out
      refine ⟨by simp, .inl ⟨_, _, rfl, run_takeDeferred fd, ?_⟩⟩
      have c0 := fb0.cell
      have c1 := fb1.cell
      refine ⟨.tuple #[.pointer (some ⟨w.heap.size + 1 + 1, 0, none⟩), .nilIface], ?_, _, rfl, by omega, mo, n, fbk, HN.out, fbw⟩
      simp [results, Tryz.f12, go_sem, c0, c1]
    · exact hx.elim
end Go.Proofs.YtbhidomccdhdkaaGreatDoor
