/- The law BookBack: a calendar is read as it was written; in another order of putting it is the same; what is dropped is gone. -/
import Derived.Test.YtnpecjccajebiaaGreatDoorBpSW
import Derived.Test.YtnpecjccajebiaaGreatDoorBpFW
import Derived.Test.YtnpecjccajebiaaGreatDoorRows
import Derived.JoinedOf
namespace Go.Proofs.YtnpecjccajebiaaGreatDoor
open Go Go.RowKit Go.Maps Go.Shelf Go.Sort Cal
attribute [local go_sem] Oper.semAt_some

theorem all_nil (w : World) : Calls Tryz.prog 33 #[.pointer none] w fun r w' => r = .returned (.map none) ∧ w' = w := by
  go_enter Tryz.func33, Tryz.ntmps33
  go_wp2
  go_ret
  exact ⟨rfl, rfl⟩
set_option maxHeartbeats 1000000 in
theorem ids_nil (w : World) : Calls Tryz.prog 12 #[.pointer none] w fun r w' => ∃ v, r = .returned v ∧ RowV w.heap.size w' v [] ∧ Below w.heap.size w w' := by
  have AL : Hid (Calls _ _ _ _ _) := all_nil w
  have SK := Tryz.slices_Sorted_keys_nil_39_40 w
  have HK : Hid (CallsIn _ _ _ _ _ _ _) := SK
  clear SK
  refine (callsIn_wide (n := 6)).1 ?_
  have hfK : Fence.wide.fn 40 := trivial
  have hfS : Fence.wide.fn 39 := trivial
  have hfA : Fence.wide.fn 33 := trivial
  refine callsIn_of_wp Tryz.func12 rfl trivial ?_ rfl
  simp only [Tryz.ntmps12, List.size_toArray, List.length_cons, List.length_nil, Nat.reduceAdd, Nat.reduceSub, Array.replicate_succ, Array.replicate_zero, List.push_toArray, List.append_toArray, List.nil_append, List.cons_append]
  gi_wp2_with (first
    | (gi_at_call 33; refine (callsIn_wide.2 AL.out).mono ?_; rintro r w' ⟨rfl, rfl⟩)
    | (gi_at_call 40; refine (Tryz.maps_Keys_40 _ _).mono ?_; rintro e w' ⟨rfl, rfl⟩)
    | (gi_at_call 39; refine CallsIn.mono HK.out ?_; rintro e w' ⟨v, ss, rfl, hS, hrow, hnil, hb⟩))
  go_ret
  have h2 : ss = [] := by simpa using hS
  have h1 := rowV_own hrow
  rw [h2] at h1
  exact ⟨v, rfl, RowV.base (by simpa using h1) (by first | omega | (rw [World.size_alloc]; omega)), below_then (below_alloc _ _) hb⟩
set_option maxHeartbeats 1000000 in
theorem btext_nil (w : World) : Calls Tryz.prog 9 #[.pointer none] w fun r w' => r = .returned (.string ⟨#[]⟩) ∧ Below w.heap.size w w' := by
  have AL : Hid (Calls _ _ _ _ _) := all_nil w
  have hA := below_alloc w (.cells #[.pointer none, .slice none 0 0] 75)
  have ID : Hid (Calls _ _ _ _ _) := ids_nil (w.alloc (.cells #[.pointer none, .slice none 0 0] 75))
  have HBD : Hid (Lib.IsBuilderF 75 5 w.heap.size w.heap.size (Lib.byteCells []) (w.alloc (.cells #[.pointer none, .slice none 0 0] 75))) := Lib.IsBuilderF.of (Lib.fresh_isBuilder _ _ w)
  have HA : Hid (_) := hA
  clear hA
  go_enter Tryz.func9, Tryz.ntmps9
  generalize hw0 : w.alloc (.cells #[.pointer none, .slice none 0 0] 75) = w0 at ID HBD HA
  go_wp2_with (first
    | (go_at_call 33; refine Calls.mono AL.out ?_; rintro r w' ⟨rfl, hq⟩; have hq := hq.symm; subst hq)
    | (go_at_call 12; refine Calls.mono ID.out ?_; rintro r w1 ⟨vid, rfl, hrid, hb1⟩; obtain ⟨ia, ic, rfl, _⟩ := hrid.txs (by simp)))
  have B1 : Hid (Below w.heap.size w w1) := below_then HA.out hb1
  have BS : Hid (Calls _ _ _ _ _) := bstring w.heap.size w.heap.size [] w1 (builder_step HBD.out hb1) B1.out.size
  clear ID HBD hb1 hrid
  go_loopw [12] (fun i wr => i = .int .i64 0 ∧ wr = w1) (fun _ _ => 0)
  case atStart => exact ⟨rfl, rfl⟩
  case round =>
    obtain ⟨rfl, rfl⟩ := hrel
    go_wp2_with (go_at_call 36; refine Calls.mono BS.out ?_; rintro r w5 ⟨rfl, hb5⟩)
    go_ret
    exact ⟨rfl, ⟨hb5.os.trans B1.out.os, hb5.tape.trans B1.out.tape, hb5.output.trans B1.out.output, Nat.le_trans B1.out.size hb5.size, fun k hk => (hb5.block k hk).trans (B1.out.block k hk)⟩⟩

theorem insE_front {E : EV} : ∀ {L : List EV}, (∀ F ∈ L, kb E < kb F) → insE E L = E :: L
  | [], _ => rfl
  | Y :: r, h => by
    unfold insE
    rw [ltE_eq, if_pos]
    exact decide_eq_true (h Y (List.mem_cons_self))
theorem putC_front {E : EV} {L : List EV} (h : ∀ F ∈ L, kb E < kb F) : putC E L = E :: L := by
  unfold putC
  rw [woC_same, insE_front h]
  exact fun F hF q => by
    have := h F hF
    unfold kb at this
    rw [q] at this
    exact List.lt_irrefl _ this
theorem rises_drop {C : List EV} (h : Rises C) {k : Nat} (hk : k < C.length) : ∀ F ∈ C.drop (k + 1), kb C[k] < kb F := fun F hF => by
  obtain ⟨j, hj, rfl⟩ := List.mem_iff_getElem.1 hF
  rw [List.getElem_drop]
  rw [List.length_drop] at hj
  exact List.pairwise_iff_getElem.1 h k (k + 1 + j) hk (by omega) (by omega)
theorem put_drop {C : List EV} (h : Rises C) {k : Nat} (hk : k < C.length) : putC C[k] (C.drop (k + 1)) = C.drop k := by
  rw [putC_front (rises_drop h hk), ← List.drop_eq_getElem_cons hk]
theorem wo_drop {C : List EV} (h : Rises C) {k : Nat} (hk : k < C.length) : woC C[k].id (C.drop k) = C.drop (k + 1) := by
  rw [List.drop_eq_getElem_cons hk]
  unfold woC
  rw [List.filter_cons_of_neg (by simp)]
  exact woC_same (fun F hF q => by
    have := rises_drop h hk F hF
    unfold kb at this
    rw [q] at this
    exact List.lt_irrefl _ this)
theorem mem_drop {C : List EV} {k : Nat} (hk : k < C.length) : ∃ E ∈ C.drop k, E.id = C[k].id := ⟨C[k], by rw [List.drop_eq_getElem_cons hk]; exact List.mem_cons_self, rfl⟩
theorem not_drop {C : List EV} (h : Rises C) {k : Nat} (hk : k < C.length) : ¬ ∃ E ∈ C.drop (k + 1), E.id = C[k].id := fun ⟨F, hF, q⟩ => by
  have := rises_drop h hk F hF
  unfold kb at this
  rw [q] at this
  exact List.lt_irrefl _ this

set_option maxHeartbeats 8000000 in
set_option maxRecDepth 100000 in
theorem bookBack_all (Es : List EV) (v : Value) (s : Nat → Addr) (p : Addr) (w : World) (g : GlobK s w) (gr : GlobR w) (hN : w.cell? ⟨3, 0, none⟩ = some (.iface 288 (.pointer (some p)))) (hE : EvsL w v Es) :
    Calls Tryz.prog 3 #[v] w fun r w' => r = .returned (.bool true) ∧ Below w.heap.size w w' := by
  have BK : Hid (Calls _ _ _ _ _) := booked_any s w g
  have LE : Hid (∀ W, Below w.heap.size w W → Calls Tryz.prog 7 #[v] W fun r w' => ∃ k : Int, r = .returned (.int .i64 k) ∧ (k = 1 ∨ (k = 0 ∧ Es.length ≤ 70 ∧ ∀ E ∈ Es, lngE E = 0)) ∧ Below W.heap.size W w') := fun W hW => longEvents_any Es v W (hE.step hW)
  have BO : Hid (∀ W, Below w.heap.size w W → Es.length ≤ 70 → (∀ E ∈ Es, lngE E = 0) → Calls Tryz.prog 8 #[v] W fun r w' => ∃ bb mo n vm Xs, r = .returned (.tuple #[.pointer (some ⟨bb, 0, none⟩), .agg #[vm]]) ∧ W.heap.size ≤ bb ∧ BookAt W.heap.size w' bb mo n (calOf Es) ∧ n ≤ 70 ∧ MR W.heap.size w' vm Xs ∧ Xs.map EX.E = calOf Es ∧ (∀ X ∈ Xs, XGot W X) ∧ Below W.heap.size W w') := fun W hW h1 h2 => bookOf_any Es v s W (g.step hW) (hE.step hW) h1 h2
  obtain ⟨a, cap, rfl, _, _, _⟩ := hE
  have HG : Hid (GlobK s w) := g
  have HGR : Hid (GlobR w) := gr
  have HN : Hid (_) := hN
  clear g hN gr
  go_enter Tryz.func3, Tryz.ntmps3
  go_upto_region 2 with (go_at_call 6; refine Calls.mono BK.out ?_; rintro r w1 ⟨rfl, hb1⟩)
  have LE1 : Hid (Calls _ _ _ _ _) := LE.out w1 hb1
  have B1 : Hid (Below w.heap.size w w1) := hb1
  clear LE BK hb1
  go_upto_if 21 with (go_at_call 7; refine Calls.mono LE1.out ?_; rintro r w2 ⟨k, rfl, hk, hb2⟩; rcases hk with rfl | ⟨rfl, h70, hl⟩)
  · go_wp2
    go_ret
    exact ⟨rfl, below_then B1.out hb2⟩
  · have B2 : Hid (Below w.heap.size w w2) := below_then B1.out hb2
    have BO2 : Hid (Calls _ _ _ _ _) := BO.out w2 B2.out h70 hl
    have HC60 : Hid ((calOf Es).length ≤ 60) := (calOf_ok Es).2
    clear BO B1 LE1 hb2 hl h70
    generalize calOf Es = C at BO2 HC60
    go_upto_region 5 with (go_at_call 8; refine Calls.mono BO2.out ?_; rintro r w3 ⟨bb, mo, n, vm, Xs, rfl, hbb, hbk, hn, hmr, hsm, _, hb3⟩; obtain ⟨oa, oc, rfl, _, _⟩ := hmr.form)
    have BK3 : Hid (BookAt w2.heap.size (w3.alloc (.cells #[.slice oa Xs.length oc] 27)) bb mo n C) := hbk.step (below_alloc _ _)
    have B3 : Hid (Below w.heap.size w (w3.alloc (.cells #[.slice oa Xs.length oc] 27))) := below_then B2.out (below_then hb3 (below_alloc _ _))
    clear hbk hmr hsm hb3 BO2
    generalize w3.alloc (.cells #[.slice oa Xs.length oc] 27) = w4 at BK3 B3 ⊢
    have hC60 : C.length ≤ 60 := HC60.out
    have HRS : Hid (Rises C ∧ ∀ E ∈ C, EW E) := BK3.out.rises
    have HDS : Hid (∀ E ∈ C, EW E ∧ E.ds.length ≤ 20) := by
      obtain ⟨D, _, _, _, h4⟩ := BK3.out
      exact fun E hE => (h4.at_ E hE).1
    have BT : Hid (∀ W, Below w4.heap.size w4 W → Calls Tryz.prog 9 #[.pointer (some ⟨bb, 0, none⟩)] W fun r w' => r = .returned (.string (bs (bkT C))) ∧ Below W.heap.size W w') := fun W hW => btext_C w2.heap.size bb n mo C s W (HG.out.step (below_then B3.out hW)) (HGR.out.step (below_then B3.out hW)) (BK3.out.step hW) (by omega) hC60
    have hsz : (bs (bkT C)).size = (bkT C).length := by rw [Lib.size_eq, bs_data]
    have hsz2 : (bkT C).length ≤ 1000000 := by have := bkT_len HDS.out; omega
    have RD : Hid ((bkT C).length ≤ 10000 → ∀ W, Below w4.heap.size w4 W → Calls Tryz.prog 10 #[.string (bs (bkT C))] W fun r w' => ∃ cb cmo cn, r = .returned (.tuple #[.pointer (some ⟨cb, 0, none⟩), .nilIface]) ∧ W.heap.size ≤ cb ∧ BookAt W.heap.size w' cb cmo cn C ∧ cn ≤ 60 ∧ Below W.heap.size W w') := fun h10 W hW => read_C C s W (HG.out.step (below_then B3.out hW)) (HGR.out.step (below_then B3.out hW)) HRS.out.1 HDS.out hC60 h10
    have CT : Hid (∀ (cb cn : Nat) (cmo : Option Nat) (lo : Nat) (W : World), Below w4.heap.size w4 W → BookAt lo W cb cmo cn C → cn ≤ 60 → Calls Tryz.prog 9 #[.pointer (some ⟨cb, 0, none⟩)] W fun r w' => r = .returned (.string (bs (bkT C))) ∧ Below W.heap.size W w') := fun cb cn cmo lo W hW hbk hcn => btext_C lo cb cn cmo C s W (HG.out.step (below_then B3.out hW)) (HGR.out.step (below_then B3.out hW)) hbk (by omega) hC60
    have CX : Hid (∀ (cb cn : Nat) (cmo : Option Nat) (lo : Nat) (W : World), Below w4.heap.size w4 W → BookAt lo W cb cmo cn C → cn ≤ 1000 → Calls Tryz.prog 9 #[.pointer (some ⟨cb, 0, none⟩)] W fun r w' => r = .returned (.string (bs (bkT C))) ∧ Below W.heap.size W w') := fun cb cn cmo lo W hW hbk hcn => btext_C lo cb cn cmo C s W (HG.out.step (below_then B3.out hW)) (HGR.out.step (below_then B3.out hW)) hbk (Nat.le_trans hcn (by decide)) hC60
    have BT4 : Hid (Calls _ _ _ _ _) := BT.out w4 (Below.refl _ _)
    generalize htx : bs (bkT C) = tx at BT RD CT CX BT4 hsz
    have htxI : (tx.size : Int) ≤ 1000000 := by omega
    have HSZ : Hid (tx.size = (bkT C).length) := hsz
    clear htx hsz hsz2
    go_upto_if 33 with (go_at_call 9; refine Calls.mono BT4.out ?_; rintro r w5 ⟨rfl, hb5⟩)
    have HB5 : Hid (Below w4.heap.size w4 w5) := hb5
    clear hb5 BT4
    go_cut [] (fun wx => Hid (Below w4.heap.size w4 wx))
    case first =>
      by_cases h10 : (bkT C).length ≤ 10000
      · have htx10 : (tx.size : Int) ≤ 10000 := by have := HSZ.out; omega
        have BT5 : Hid (Calls _ _ _ _ _) := BT.out w5 HB5.out
        have RD5 : Hid (∀ W, Below w4.heap.size w4 W → Calls Tryz.prog 10 #[.string tx] W fun r w' => ∃ cb cmo cn, r = .returned (.tuple #[.pointer (some ⟨cb, 0, none⟩), .nilIface]) ∧ W.heap.size ≤ cb ∧ BookAt W.heap.size w' cb cmo cn C ∧ cn ≤ 60 ∧ Below W.heap.size W w') := RD.out h10
        clear h10 RD
        go_wp2_with fail
        go_at_call 9
        refine Calls.mono BT5.out ?_
        rintro r w6 ⟨rfl, hb6⟩
        have HB6 : Hid (Below w4.heap.size w4 w6) := below_then HB5.out hb6
        have RD6 : Hid (Calls _ _ _ _ _) := RD5.out w6 HB6.out
        go_wp2_with fail
        go_at_call 10
        refine Calls.mono RD6.out ?_
        rintro r w7 ⟨cb, cmo, cn, rfl, hcb, hbk7, hcn, hb7⟩
        have HB7 : Hid (Below w4.heap.size w4 w7) := below_then HB6.out hb7
        have HBK7 : Hid (BookAt w6.heap.size w7 cb cmo cn C) := hbk7
        have SM7 : Hid (Calls _ _ _ _ _) := same_C (.pointer (some ⟨bb, 0, none⟩)) (.pointer (some ⟨cb, 0, none⟩)) tx tx w7 (BT.out w7 HB7.out) (fun W hW => CT.out cb cn cmo w6.heap.size W (below_then HB7.out hW) (HBK7.out.step hW) hcn)
        rw [beq_self_eq_true] at SM7
        clear hb6 hb7 hbk7 BT5 RD5 RD6
        go_wp2_with fail
        go_at_call 11
        refine Calls.mono SM7.out ?_
        rintro r w8 ⟨rfl, hb8⟩
        have HB8 : Hid (Below w4.heap.size w4 w8) := below_then HB7.out hb8
        have CT8 : Hid (Calls _ _ _ _ _) := CT.out cb cn cmo w6.heap.size w8 HB8.out (HBK7.out.step hb8) hcn
        clear SM7
        go_wp2_with fail
        go_at_call 9
        refine Calls.mono CT8.out ?_
        rintro r w9 ⟨rfl, hb9⟩
        have HB9 : Hid (Below w4.heap.size w4 w9) := below_then HB8.out hb9
        have BT9 : Hid (Calls _ _ _ _ _) := BT.out w9 HB9.out
        clear CT8
        go_wp2_with fail
        go_at_call 9
        refine Calls.mono BT9.out ?_
        rintro r w10 ⟨rfl, hb10⟩
        go_wp2_with fail
        go_meet
        case rel => exact below_then HB9.out hb10
      · have htx10 : (10000 : Int) < (tx.size : Int) := by have := HSZ.out; omega
        clear RD h10
        go_wp2_with fail
        go_meet
        case rel => exact HB5.out
    case rest =>
      clear RD HB5
      have Bc : Hid (Below w.heap.size w wc) := below_then B3.out hcut.out
      have BKc : Hid (BookAt w2.heap.size wc bb mo n C) := BK3.out.step hcut.out
      have HBTc : Hid (∀ W, Below wc.heap.size wc W → Calls Tryz.prog 9 #[.pointer (some ⟨bb, 0, none⟩)] W fun r w' => r = .returned (.string tx) ∧ Below W.heap.size W w') := fun W hW => BT.out W (below_then hcut.out hW)
      have ID : Hid (Calls _ _ _ _ _) := ids_C w2.heap.size bb n mo C wc BKc.out (by omega)
      have hL2 : (C.map EV.id).length ≤ 80000 := by rw [List.length_map]; omega
      have HTX : Hid (∀ (db dn : Nat) (dmo : Option Nat) (lo : Nat) (W : World), Below wc.heap.size wc W → BookAt lo W db dmo dn C → dn ≤ 1000 → Calls Tryz.prog 9 #[.pointer (some ⟨db, 0, none⟩)] W fun r w' => r = .returned (.string tx) ∧ Below W.heap.size W w') := fun db dn dmo lo W hW hbk hdn => CX.out db dn dmo lo W (below_then hcut.out hW) hbk hdn
      clear BT CT CX hcut BK3 B3
      go_upto_region 12 with (go_at_call 12; refine Calls.mono ID.out ?_; rintro r w6 ⟨vid, rfl, hrid, hb6⟩; have HTI : Hid (Txs w6 vid (C.map EV.id)) := hrid.txs hL2; obtain ⟨ia, ic, rfl, hil, hic, hcl⟩ := hrid.txs hL2)
      rw [List.length_map] at hil hic
      have HCL2 : Hid (∀ (j : Nat) (h : j < C.length), ∃ b : Nat, ia = some ⟨b, 0, none⟩ ∧ b < w6.heap.size ∧ w6.cell? ⟨b, j, none⟩ = some (.string C[j].id)) := fun j hj => by
        obtain ⟨b, q1, q2, q3⟩ := hcl j (by rw [List.length_map]; exact hj)
        rw [List.getElem_map] at q3
        exact ⟨b, q1, q2, q3⟩
      have NW : Hid (Calls _ _ _ _ _) := bookAt_new w6
      have B6 : Hid (Below w.heap.size w w6) := below_then Bc.out hb6
      have BK6 : Hid (BookAt w2.heap.size w6 bb mo n C) := BKc.out.step hb6
      have Bc6 : Hid (Below wc.heap.size wc w6) := hb6
      clear ID hrid hcl hb6 HTI Bc BKc hL2
      go_upto_region 13 with (go_at_call 13; refine Calls.mono NW.out ?_; rintro r w7 ⟨rfl, hbk7, hb7⟩)
      have BK7 : Hid (BookAt w6.heap.size w7 w6.heap.size none 0 []) := hbk7
      have B67 : Hid (Below w6.heap.size w6 w7) := hb7
      clear hbk7 hb7 NW
      go_wp2
      go_loopw [10] (fun i wr => ∃ m : Nat, m ≤ C.length ∧ i = .int .i64 ((m : Int) - 1) ∧ Hid (Below w6.heap.size w6 wr) ∧ Hid (∃ dmo dn, BookAt w6.heap.size wr w6.heap.size dmo dn (C.drop m) ∧ dn + m ≤ C.length)) (fun i _ => (intOf i + 1).toNat)
      case atStart => exact ⟨C.length, Nat.le_refl _, rfl, B67.out, none, 0, by rw [List.drop_length]; exact BK7.out, by omega⟩
      case round =>
        obtain ⟨m, hm, rfl, HBr, HD⟩ := hrel
        cases m with
        | succ j =>
          have ej : ((j + 1 : Nat) : Int) - 1 = (j : Int) := by omega
          rw [ej]
          have hj : j < C.length := by omega
          obtain ⟨dmo, dn, hbkd, hdn⟩ := HD.out
          obtain ⟨ib, rfl, hib, hcell⟩ := HCL2.out j hj
          have hcr := cell_step hcell HBr.out
          have hcell6 : Hid (w6.cell? ⟨ib, j, none⟩ = some (.string C[j].id)) := hcell
          have hE : C[j] ∈ C := List.getElem_mem hj
          have hwE := HDS.out _ hE
          obtain ⟨i12, t40, k20, m20⟩ := ew_bd hwE.1
          have GT : Hid (Calls _ _ _ _ _) := get_C w2.heap.size bb n mo C C[j] hE wr (BK6.out.step HBr.out)
          have hpd := put_drop HRS.out.1 hj
          have hnf : ¬ ((¬ ∃ F ∈ C.drop (j + 1), F.id = C[j].id) ∧ 60 ≤ (C.drop (j + 1)).length) := fun q => by
            have := q.2
            rw [List.length_drop] at this
            omega
          have PUT : Hid (∀ (W' : World) (sl skv mvv : Value), Below wr.heap.size wr W' → Ls W' C[j] sl skv mvv → Calls Tryz.prog 15 #[.pointer (some ⟨w6.heap.size, 0, none⟩), ev C[j] sl skv mvv] W' fun r w' => r = .returned .nilIface ∧ Below w6.heap.size w6 w' ∧ ∃ dmo dn, BookAt w6.heap.size w' w6.heap.size dmo dn (C.drop j) ∧ dn + j ≤ C.length) := fun W' sl skv mvv hW' hL => by
            obtain ⟨kk, hkk⟩ := evK_ex C[j]
            have hk0 := (evK_0 hkk).2 hwE.1
            refine Calls.mono (put_C w6.heap.size w6.heap.size dn dmo (C.drop (j + 1)) C[j] sl skv mvv kk s W' (HG.out.step (below_then B6.out (below_then HBr.out hW'))) (hbkd.step hW') (by omega) (by omega) (by omega) hL hkk) ?_
            rintro r w' (⟨z0, _⟩ | ⟨_, z1, _⟩ | ⟨_, _, rfl, dmo', z3, z4, z5⟩)
            · exact absurd hk0 z0
            · exact absurd z1 hnf
            · rw [hpd] at z3
              refine ⟨rfl, z4.below (below_then HBr.out hW') (Nat.le_refl _) (fun mb e => ?_), dmo', dn + 1, z3, by omega⟩
              obtain ⟨_, _, _, h3, _⟩ := hbkd
              exact h3 mb e
          have HLT : Hid (∀ i (h : i + 1 = j), (Op.bytesLess C[j].id.toList (C[i]'(by omega)).id.toList || C[j].id.toList == (C[i]'(by omega)).id.toList) = false) := fun i h => by
            subst h
            exact not_ahead (List.pairwise_iff_getElem.1 HRS.out.1 i (i + 1) (by omega) hj (by omega))
          have HPR : Hid (∀ i (h : i + 1 = j), w6.cell? ⟨ib, i, none⟩ = some (.string (C[i]'(by omega)).id)) := fun i h => by
            obtain ⟨b', q1, _, q3⟩ := HCL2.out i (by omega)
            have : b' = ib := by injection q1 with q1; injection q1 with q1; exact q1.symm
            rw [this] at q3
            exact q3
          have hjI : (j : Int) < 1000 := by omega
          clear HD hcell hpd hnf hE hwE hbkd
          unfold ev at GT PUT
          go_upto_region 19 with (go_at_call 14; refine Calls.mono GT.out ?_; rintro r w8 ⟨sl7, sk7, mv7, rfl, hL7, hb8⟩; have HL7 : Hid (Ls w8 C[j] sl7 sk7 mv7) := hL7; obtain ⟨r7, rc7, rfl, _⟩ := hL7.d; obtain ⟨s7, sc7, rfl, _⟩ := hL7.s; obtain ⟨m7, mc7, rfl, _⟩ := hL7.m)
          have hB9 : Below wr.heap.size wr (w8.alloc (.cells #[.string C[j].id, .string C[j].ti, .int .i64 C[j].st, .int .i64 C[j].lg, .string C[j].f, .int .i64 C[j].e, .slice r7 C[j].ds.length rc7, .int .i64 C[j].c, .int .i64 C[j].u, .slice s7 C[j].sk.length sc7, .slice m7 C[j].mv.length mc7] 44)) := below_then hb8 (below_alloc _ _)
          have kE := EB.new w8 C[j] (.slice r7 C[j].ds.length rc7) (.slice s7 C[j].sk.length sc7) (.slice m7 C[j].mv.length mc7)
          have PT : Hid (Calls _ _ _ _ _) := PUT.out _ _ _ _ hB9 (HL7.out.step (below_alloc _ _))
          generalize w8.alloc (.cells #[.string C[j].id, .string C[j].ti, .int .i64 C[j].st, .int .i64 C[j].lg, .string C[j].f, .int .i64 C[j].e, .slice r7 C[j].ds.length rc7, .int .i64 C[j].c, .int .i64 C[j].u, .slice s7 C[j].sk.length sc7, .slice m7 C[j].mv.length mc7] 44) = w9 at hB9 kE PT ⊢
          obtain ⟨x0, x1, x2, x3, x4, x5, x6, x7, x8, x9, x10⟩ := blk11 (show w9.heap[w8.heap.size]? = _ from kE)
          clear kE PUT GT hL7 HL7 hb8 hcr
          go_upto_region 21 with (go_at_call 15; refine Calls.mono PT.out ?_; rintro r w10 ⟨rfl, hb10, hbk10⟩)
          have HB10 : Hid (Below w6.heap.size w6 w10) := hb10
          have HBK10 : Hid (_) := hbk10
          have c1 := cell_step hcell6.out hb10
          clear x0 x1 x2 x3 x4 x5 x6 x7 x8 x9 x10 PT hb10 hbk10 hB9
          cases j with
          | zero =>
            go_quiet (fail)
            go_wp2
            go_roundw
            case rel => exact ⟨0, by omega, by go_num, below_then HB10.out (drewN_below _ _), by
              obtain ⟨dmo, dn, z1, z2⟩ := HBK10.out
              exact ⟨dmo, dn, BookAt.step z1 (drewN_below _ _), z2⟩⟩
            case measure => simp [intOf]
          | succ i =>
            have c2 := cell_step (HPR.out i rfl) HB10.out
            have hlt := HLT.out i rfl
            generalize C[i + 1].id = ida at c1 hlt
            generalize C[i].id = idb at c2 hlt
            have ei : ((i + 1 : Nat) : Int) = (i : Int) + 1 := by omega
            go_quiet (fail)
            go_wp2
            refine ⟨⟨i + 1, by omega, by rw [show (((i + 1 : Nat) : Int) - 1) = (i : Int) by omega], below_then HB10.out (drewN_below _ _), ?_⟩, by simp [intOf]; omega⟩
            obtain ⟨dmo, dn, z1, z2⟩ := HBK10.out
            exact ⟨dmo, dn, BookAt.step z1 (drewN_below _ _), z2⟩
        | zero =>
          obtain ⟨dmo, dn, hbkd, hdn⟩ := HD.out
          rw [List.drop_zero] at hbkd
          have HBKD : Hid (BookAt w6.heap.size wr w6.heap.size dmo dn C) := hbkd
          have Bcr : Hid (Below wc.heap.size wc wr) := below_then Bc6.out HBr.out
          have SM : Hid (Calls _ _ _ _ _) := same_C (.pointer (some ⟨bb, 0, none⟩)) (.pointer (some ⟨w6.heap.size, 0, none⟩)) tx tx wr (HBTc.out wr Bcr.out) (fun W hW => HTX.out w6.heap.size dn dmo w6.heap.size W (below_then Bcr.out hW) (HBKD.out.step hW) (by omega))
          rw [beq_self_eq_true] at SM
          clear HD hbkd
          go_upto_region 25 with (go_at_call 11; refine Calls.mono SM.out ?_; rintro r w11 ⟨rfl, hb11⟩)
          have HB11 : Hid (Below w6.heap.size w6 w11) := below_then HBr.out hb11
          have BK11 : Hid (BookAt w6.heap.size w11 w6.heap.size dmo dn C) := HBKD.out.step hb11
          clear SM hb11 HBKD HBTc HTX Bcr
          go_wp2
          go_loopw [13] (fun i wx => ∃ m : Nat, m ≤ C.length ∧ i = .int .i64 m ∧ Hid (Below w6.heap.size w6 wx) ∧ Hid (BookAt w6.heap.size wx w6.heap.size dmo dn (C.drop m))) (fun i _ => C.length - (intOf i).toNat)
          case atStart => exact ⟨0, Nat.zero_le _, rfl, HB11.out, by rw [List.drop_zero]; exact BK11.out⟩
          case round =>
            obtain ⟨m, hm, rfl, HBx, HBK⟩ := hrel
            by_cases hlt : m < C.length
            · obtain ⟨ib, rfl, hib, hcell⟩ := HCL2.out m hlt
              have hcr := cell_step hcell HBx.out
              have hcell6 : Hid (w6.cell? ⟨ib, m, none⟩ = some (.string C[m].id)) := hcell
              obtain ⟨i12, _, _, _⟩ := ew_bd (HDS.out _ (List.getElem_mem hlt)).1
              have hNr := cell_step HN.out (below_then B6.out HBx.out)
              have hmo : ∀ mb, dmo = some mb → w6.heap.size ≤ mb := by
                obtain ⟨_, _, _, h3, _⟩ := HBK.out
                exact h3
              have DR : Hid (Calls Tryz.prog 16 #[.pointer (some ⟨w6.heap.size, 0, none⟩), .string C[m].id] wr fun r w' => r = .returned .nilIface ∧ Below w6.heap.size w6 w' ∧ BookAt w6.heap.size w' w6.heap.size dmo dn (C.drop (m + 1))) := by
                refine Calls.mono (drop_C w6.heap.size w6.heap.size dn dmo (C.drop m) C[m].id (by omega) p wr HBK.out hNr) ?_
                rintro r w' (⟨_, rfl, z2, z3⟩ | ⟨z, _⟩)
                · rw [wo_drop HRS.out.1 hlt] at z2
                  exact ⟨rfl, z3.below HBx.out (Nat.le_refl _) hmo, z2⟩
                · exact absurd (mem_drop hlt) z
              have DR2 : Hid (∀ W, Below w6.heap.size w6 W → BookAt w6.heap.size W w6.heap.size dmo dn (C.drop (m + 1)) → Calls Tryz.prog 16 #[.pointer (some ⟨w6.heap.size, 0, none⟩), .string C[m].id] W fun r w' => r = .returned (.iface 288 (.pointer (some p))) ∧ Below w6.heap.size w6 w' ∧ BookAt w6.heap.size w' w6.heap.size dmo dn (C.drop (m + 1))) := fun W hW hbk => by
                refine Calls.mono (drop_C w6.heap.size w6.heap.size dn dmo (C.drop (m + 1)) C[m].id (by omega) p W hbk (cell_step HN.out (below_then B6.out hW))) ?_
                rintro r w' (⟨z, _⟩ | ⟨_, rfl, z2⟩)
                · exact absurd z (not_drop HRS.out.1 hlt)
                · exact ⟨rfl, below_then hW z2, hbk.step z2⟩
              clear hcell hNr hmo HBK
              generalize C[m].id = idm at hcr hcell6 DR DR2
              go_wp2_with fail
              go_at_call 16
              refine Calls.mono DR.out ?_
              rintro r w12 ⟨rfl, hb12, hbk12⟩
              have hcr12 := cell_step hcell6.out hb12
              have DR3 : Hid (Calls _ _ _ _ _) := DR2.out w12 hb12 hbk12
              clear hb12 hbk12 DR DR2
              go_wp2_with (go_at_call 16; refine Calls.mono DR3.out ?_; rintro r w13 ⟨rfl, hb13, hbk13⟩)
              go_roundw
              case rel => exact ⟨m + 1, by omega, by go_num, hb13, hbk13⟩
              case measure => simp [intOf]; omega
            · have hmC : m = C.length := by omega
              have HBKe : Hid (BookAt w6.heap.size wr w6.heap.size dmo dn []) := by
                have := HBK.out
                rw [hmC, List.drop_length] at this
                exact this
              have IDe : Hid (Calls _ _ _ _ _) := ids_C w6.heap.size w6.heap.size dn dmo [] wr HBKe.out (by omega)
              have Bw : Hid (Below w.heap.size w wr) := below_then B6.out HBx.out
              have BTe : Hid (∀ W, Below wr.heap.size wr W → Calls Tryz.prog 9 #[.pointer (some ⟨w6.heap.size, 0, none⟩)] W fun r w' => r = .returned (.string ⟨#[]⟩) ∧ Below W.heap.size W w') := fun W hW => btext_C w6.heap.size w6.heap.size dn dmo [] s W (HG.out.step (below_then Bw.out hW)) (HGR.out.step (below_then Bw.out hW)) (HBKe.out.step hW) (by omega) (by simp)
              clear HBK HCL2
              go_wp2_with fail
              go_at_call 12
              refine Calls.mono IDe.out ?_
              rintro r w12 ⟨v12, rfl, hr12, hb12⟩
              obtain ⟨a12, c12, rfl, _⟩ := hr12.txs (by simp)
              have BT12 : Hid (Calls _ _ _ _ _) := BTe.out w12 hb12
              go_wp2_with fail
              go_at_call 9
              refine Calls.mono BT12.out ?_
              rintro r w13 ⟨rfl, hb13⟩
              have hb14 : Below wr.heap.size wr w13 := below_then hb12 hb13
              have SM13 : Hid (Calls _ _ _ _ _) := same_C (.pointer (some ⟨w6.heap.size, 0, none⟩)) (.pointer none) ⟨#[]⟩ ⟨#[]⟩ w13 (BTe.out w13 hb14) (fun W hW => btext_nil W)
              rw [beq_self_eq_true] at SM13
              go_wp2_with (go_at_call 11; refine Calls.mono SM13.out ?_; rintro r w15 ⟨rfl, hb15⟩)
              go_ret
              exact ⟨rfl, below_then Bw.out (below_then hb14 hb15)⟩
end Go.Proofs.YtnpecjccajebiaaGreatDoor

/- The closed facts of the law BookBack's row, one by one. -/
namespace Go.Proofs.YtnpecjccajebiaaGreatDoor

theorem bbk_z1 : Rows.bookBackRow.wf (OpenSpec.ofChange Rows.bookBackSpec) = true := by kernel_rfl
theorem bbk_z2 : laidOutB Tryz.prog = true := by kernel_rfl
theorem bbk_z3 : mapsRowed Tryz.prog = true := by kernel_rfl
theorem bbk_z4 : Tryz.f3.params.all (Tryz.prog.readableRec ·) = true := by kernel_rfl
theorem bbk_z5 : namedTie Tryz.prog Rows.bookBackRow.named Rows.bookBackSpec.vars = true := by kernel_rfl
theorem bbk_z6 : (Rows.bookBackRow.inPlace == Tryz.prog.inPlace 3) = true := by kernel_rfl
theorem bbk_z7 : (Rows.bookBackRow.unfollowed == Tryz.prog.unfollowed 3) = true := by kernel_rfl
theorem bbk_z8 : (Rows.bookBackRow.recurses == Tryz.prog.recurses 3) = true := by kernel_rfl
theorem bbk_z9 : (Rows.bookBackRow.named == Tryz.prog.varsNamed 3) = true := by kernel_rfl
theorem bbk_z10 : (Rows.bookBackRow.plainKeys == Tryz.prog.plainKeys) = true := by kernel_rfl
theorem bbk_z11 : Tryz.prog.stopsHeard = true := by kernel_rfl
theorem bbk_z12 : Tryz.prog.mayEnter = true := by kernel_rfl
theorem bbk_z13 : (Rows.bookBackRow.lifted == Tryz.prog.liftsFinal) = true := by kernel_rfl
theorem bbk_z14 : (Tryz.prog.make == some Rows.bookBackRow.make) = true := by kernel_rfl
theorem bbk_closed : joinedFacts Tryz.prog 3 Tryz.f3 Rows.bookBackSpec Rows.bookBackRow = true := by
  unfold joinedFacts
  rw [bbk_z1, bbk_z2, bbk_z3, bbk_z4, bbk_z5, bbk_z6, bbk_z7, bbk_z8, bbk_z9, bbk_z10, bbk_z11, bbk_z12, bbk_z13, bbk_z14]
  kernel_rfl
end Go.Proofs.YtnpecjccajebiaaGreatDoor
