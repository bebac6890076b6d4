/- Package diff's Diff. -/
import Derived.Test.YtjhlbkjcchejjaaGreatDoorYaZ
import Derived.Test.YtjhlbkjcchejjaaGreatDoorDfRW
import Derived.Laws.StructEq
namespace Go.Proofs.YtjhlbkjcchejjaaGreatDoor
open Go Go.RowKit Go.Shelf Cal
attribute [local go_sem] Oper.semAt_some

open Classical in
theorem dl_len (id : ByteArray) (p q : Option EV) : (dl id p q).length ≤ 6 := by
  rw [dl_kl, List.length_map]
  refine Nat.le_trans (List.length_filter_le _ _) ?_
  match p, q with
  | some _, some _ => exact Nat.le_refl _
  | some _, none => exact (by decide : (1 : Nat) ≤ 6)
  | none, some _ => exact (by decide : (1 : Nat) ≤ 6)
  | none, none => exact (by decide : (1 : Nat) ≤ 6)
theorem dfs_len (X Y : List EV) : ∀ ids : List ByteArray, (dfs ids X Y).length ≤ 6 * ids.length
  | [] => Nat.le_refl _
  | a :: l => by
    have h1 := dfs_len X Y l
    have h2 := dl_len a (evOf a X) (evOf a Y)
    have e : dfs (a :: l) X Y = dl a (evOf a X) (evOf a Y) ++ dfs l X Y := rfl
    rw [e, List.length_append, List.length_cons]
    omega

set_option maxHeartbeats 4000000 in
set_option maxRecDepth 100000 in
theorem diff_C (la ba na : Nat) (ma : Option Nat) (X : List EV) (lb bb nb : Nat) (mb : Option Nat) (Y : List EV) (s : Nat → Addr) (w : World) (g : GlobD s w) (hX : BookAt la w ba ma na X) (hY : BookAt lb w bb mb nb Y) (hn1 : na ≤ 100000) (hn2 : nb ≤ 100000) (hx : X.length ≤ 60) (hy : Y.length ≤ 60) :
    Calls Tryz.prog 19 #[.pointer (some ⟨ba, 0, none⟩), .pointer (some ⟨bb, 0, none⟩)] w fun r w' => ∃ v', r = .returned v' ∧ ChR w.heap.size w' v' (dfs (idsU X Y) X Y) ∧ Below w.heap.size w w' := by
  have ID : Hid (∀ W, Below w.heap.size w W → Calls Tryz.prog 49 #[.pointer (some ⟨ba, 0, none⟩), .pointer (some ⟨bb, 0, none⟩)] W fun r w' => ∃ v, r = .returned v ∧ Txs w' v (idsU X Y) ∧ Below W.heap.size W w') := fun W hW => idsOf_C la ba na ma lb bb nb mb X Y W (hX.step hW) (hY.step hW) hn1 hn2 hx hy
  have HID : Hid (∀ id ∈ idsU X Y, id.size ≤ 1000) := fun id h => by
    rcases (idsU_mem X Y id).1 h with ⟨E, hE, rfl⟩ | ⟨E, hE, rfl⟩
    · have := (hX.rises.2 E hE).id; exact Nat.le_trans this.2.2 (by decide)
    · have := (hY.rises.2 E hE).id; exact Nat.le_trans this.2.2 (by decide)
  have HUL : Hid ((idsU X Y).length ≤ 120) := idsU_len X Y hx hy
  have HG : Hid (GlobD s w) := g
  have HX : Hid (BookAt la w ba ma na X) := hX
  have HY : Hid (BookAt lb w bb mb nb Y) := hY
  clear g hX hY hn1 hn2 hx hy
  generalize idsU X Y = ids at ID HID HUL
  obtain ⟨i0, hi, hz0, hz1, hz2⟩ := info_parts info_change
  refine (callsIn_wide (n := 20)).1 ?_
  refine callsIn_of_wp_marks Tryz.func19 rfl trivial ?_ rfl
  simp only [Tryz.ntmps19, List.size_toArray, List.length_cons, List.length_nil, Nat.reduceAdd, Nat.reduceSub, Array.replicate_succ, Array.replicate_zero, List.push_toArray, List.append_toArray, List.nil_append, List.cons_append]
  gi_wp2_with (first | (refine ⟨trivial, ?_⟩; gi_at_call 49; refine (callsIn_wide.2 (ID.out _ (below_alloc _ _))).mono ?_; rintro r w1 ⟨v, rfl, hT, hb1⟩; obtain ⟨va, vc, rfl, hT1, hT2, hT3⟩ := hT) | gi_in)
  have HT3 : Hid (∀ (j : Nat) (h : j < ids.length), ∃ b : Nat, va = some ⟨b, 0, none⟩ ∧ b < w1.heap.size ∧ w1.cell? ⟨b, j, none⟩ = some (.string ids[j])) := hT3
  have O0 : Hid (OJ w w1 [] (.slice none 0 0) [] w1) := by
    have hA := below_alloc w (.cells #[.slice none 0 0] 49)
    have hs := hb1.size
    rw [World.size_alloc] at hs
    exact ⟨(hb1.block _ (by rw [World.size_alloc]; omega)).trans (block_at _ rfl), ChR.nil _ _, fun _ => rfl, fun d hd => absurd hd List.not_mem_nil, fun d hd => absurd hd List.not_mem_nil, List.nodup_nil, fun _ _ _ => rfl, Nat.le_refl _, hb1.os.trans hA.os, hb1.tape.trans hA.tape, hb1.output.trans hA.output, by omega, fun k hk => (hb1.block k (by rw [World.size_alloc]; omega)).trans (hA.block k hk)⟩
  clear hT3 hb1 ID
  refine wpIn_loop (fun a' w' => ∃ (u7 u14 u15 u16 u17 u18 u19 u20 u26 : Value) (m : Nat) (ds : List Nat) (v : Value), a' = { tmps := #[.pointer (some ⟨ba, 0, none⟩), .pointer (some ⟨bb, 0, none⟩), undef, undef, .slice none 0 0, .pointer (some ⟨w.heap.size, 0, none⟩), undef, u7, undef, .pointer (some ⟨ba, 0, none⟩), .pointer (some ⟨bb, 0, none⟩), .slice va ids.length vc, .int .i64 ids.length, .int .i64 m, u14, u15, u16, u17, u18, u19, u20, undef, undef, undef, undef, undef, u26, undef], defers := mks ds } ∧ m ≤ ids.length ∧ Hid (OJ w w1 ds v (dfs (ids.take m) X Y) w')) (fun a' _ => ids.length - (intOf (a'.tmps.getD 13 undef)).toNat) ?start ?round
  case start => exact ⟨undef, undef, undef, undef, undef, undef, undef, undef, undef, 0, [], .slice none 0 0, rfl, Nat.zero_le _, by rw [List.take_zero]; exact O0⟩
  case round =>
    rintro _ wr ⟨u7, u14, u15, u16, u17, u18, u19, u20, u26, m, ds, v, rfl, hm, HO⟩
    by_cases hlt : m < ids.length
    · obtain ⟨b, rfl, hbl, hbc⟩ := HT3.out m hlt
      have hbb : b ≠ w.heap.size := fun e => by
        obtain ⟨b', e', _, hc'⟩ := HT3.out 0 (by omega)
        have eb : b' = b := by injection e' with e'; injection e' with e' _ _; exact e'.symm
        rw [eb, e, Boxed.cell O0.out.b0] at hc'
        cases hc'
      have cb : wr.cell? ⟨b, m, none⟩ = some (.string ids[m]) := (World.cell?_of_block (a := ⟨b, m, none⟩) (HO.out.ks b hbl hbb)).trans hbc
      have hmi : (m : Int) < ids.length := by omega
      have HIM : Hid (ids[m].size ≤ 1000) := HID.out _ (List.getElem_mem hlt)
      have HDF : Hid (dfs (ids.take (m + 1)) X Y = dfs (ids.take m) X Y ++ dl ids[m] (evOf ids[m] X) (evOf ids[m] Y)) := by
        show _ = _
        rw [List.take_succ_eq_append_getElem hlt]
        unfold dfs
        rw [List.flatMap_append, List.flatMap_singleton]
      have HPL : Hid ((dfs (ids.take m) X Y).length ≤ 720) := by
        have h1 := dfs_len X Y (ids.take m)
        rw [List.length_take] at h1
        have h2 := HUL.out
        show _ ≤ _
        omega
      have CH : Hid (∀ W, _) := fun W => changesOf_any ids[m] (some ⟨ba, 0, none⟩) (some ⟨bb, 0, none⟩) W
      clear hbc
      generalize ids[m] = id at cb HIM HDF CH
      generalize dfs (ids.take m) X Y = pre at HO HDF HPL
      gi_wp2_with (first | (refine ⟨trivial, ?_⟩; gi_at_call 50; refine (callsIn_wide.2 (CH.out _)).mono ?_; rintro r w' ⟨rfl, rfl⟩) | gi_in)
      have hB : Below wr.heap.size wr (((wr.alloc (.cells #[.string id] 9)).alloc (.cells #[.pointer (some ⟨ba, 0, none⟩)] 44)).alloc (.cells #[.pointer (some ⟨bb, 0, none⟩)] 44)) := below_then (below_then (below_alloc _ _) (below_alloc _ _)) (below_alloc _ _)
      have kbi : Boxed (((wr.alloc (.cells #[.string id] 9)).alloc (.cells #[.pointer (some ⟨ba, 0, none⟩)] 44)).alloc (.cells #[.pointer (some ⟨bb, 0, none⟩)] 44)) wr.heap.size 9 (.string id) := block_alloc _ (block_alloc _ (block_at _ rfl))
      have kba : Boxed (((wr.alloc (.cells #[.string id] 9)).alloc (.cells #[.pointer (some ⟨ba, 0, none⟩)] 44)).alloc (.cells #[.pointer (some ⟨bb, 0, none⟩)] 44)) (wr.heap.size + 1) 44 (.pointer (some ⟨ba, 0, none⟩)) := block_alloc _ (block_at _ (World.size_alloc _ _))
      have kbb : Boxed (((wr.alloc (.cells #[.string id] 9)).alloc (.cells #[.pointer (some ⟨ba, 0, none⟩)] 44)).alloc (.cells #[.pointer (some ⟨bb, 0, none⟩)] 44)) (wr.heap.size + 1 + 1) 44 (.pointer (some ⟨bb, 0, none⟩)) := block_at _ (by rw [World.size_alloc, World.size_alloc])
      have hs2 : (((wr.alloc (.cells #[.string id] 9)).alloc (.cells #[.pointer (some ⟨ba, 0, none⟩)] 44)).alloc (.cells #[.pointer (some ⟨bb, 0, none⟩)] 44)).heap.size = wr.heap.size + 3 := by rw [World.size_alloc, World.size_alloc, World.size_alloc]
      generalize ((wr.alloc (.cells #[.string id] 9)).alloc (.cells #[.pointer (some ⟨ba, 0, none⟩)] 44)).alloc (.cells #[.pointer (some ⟨bb, 0, none⟩)] 44) = W2 at hB kbi kba kbb hs2 ⊢
      have HOW := HO.out.step hB
      have z1 := HO.out.sz
      have z2 := HO.out.lo
      refine rangeFunc_of rfl (enters_of Tryz.func93 (by kernel_rfl) rfl) (fun r0 hr0 => ?_)
      have hl3 : W2.heap.size + 1 = wr.heap.size + 4 := by omega
      rw [hl3]
      have hb := below_then (below_alloc W2 (.deferred (some []))) (below_alloc _ (.loop r0))
      refine (changes_iter 19 (wr.heap.size + 4) w.heap.size wr.heap.size (wr.heap.size + 1) (wr.heap.size + 1 + 1) la ba na ma X lb bb nb mb Y id HIM.out s w HG.out HX.out HY.out (fun o W => W.heap[wr.heap.size + 4]? = some (.loop r0) ∧ ∃ v, OJ w w1 (W2.heap.size :: ds) v (pre ++ o) W) [] (by omega) ?hJb ?hJs ?hJn ?hYd _ ?h0 ?hbi ?hba ?hbb ?hne).mono ?post
      case hJb => rintro o W ⟨_, v, q⟩; exact q.below
      case hJs => rintro o W W' ⟨hl, v, q⟩ hb; exact ⟨(hb.block _ (lt_of_heap hl)).trans hl, v, q.step hb⟩
      case hJn =>
        rintro o W ⟨hl, v, q⟩
        refine ⟨fun b z k hc => ⟨fun e => ?_, fun e => ?_⟩, by have := q.sz; omega, lt_of_heap hl⟩
        · obtain ⟨a, cap, hv, _⟩ := q.row.form
          rw [e, Boxed.cell q.b0, hv] at hc; cases hc
        · rw [e] at hc; simp [World.cell?, hl] at hc
      case h0 =>
        refine ⟨by rw [← hl3]; exact rec_start _ _, v, ?_⟩
        rw [List.append_nil]
        exact (HOW.step hb).mark (block_alloc _ (block_at _ rfl)) (by omega) (fun hd => by have := lt_of_heap (HO.out.dd _ hd); omega)
      case hbi => exact (hb.block _ (Boxed.lt kbi)).trans kbi
      case hba => exact (hb.block _ (Boxed.lt kba)).trans kba
      case hbb => exact (hb.block _ (Boxed.lt kbb)).trans kbb
      case hne => exact ⟨by omega, by omega⟩
      case hYd =>
        rintro o k W hk7 hol ⟨hl, v', q⟩
        have hpl := HPL.out
        have hol2 : (pre ++ o).length ≤ 5000 := by rw [List.length_append]; rw [List.length_nil] at hol; omega
        generalize (⟨id, k, evOf id X, evOf id Y⟩ : DC) = c
        have HTC : Hid (c.cells = [.string c.id, .string (fieldB c.k), .string (bs (oT c.k c.a)), .string (bs (oT c.k c.b))]) := (rfl : _ = _)
        have HAS : Hid (pre ++ (o ++ [c]) = (pre ++ o) ++ [c]) := (List.append_assoc _ _ _).symm
        unfold DC.v chV
        clear hpl hol hk7
        generalize pre ++ (o ++ [c]) = on at HAS ⊢
        generalize pre ++ o = oo at q hol2 HAS
        generalize c.id = ci at HTC ⊢
        generalize fieldB c.k = cf at HTC ⊢
        generalize bs (oT c.k c.a) = co at HTC ⊢
        generalize bs (oT c.k c.b) = cn at HTC ⊢
        obtain ⟨oa, oc, hv', _, _⟩ := q.row.form
        subst hv'
        have z3 := q.sz
        have hA := below_alloc W (.cells #[.string ci, .string cf, .string co, .string cn] 82)
        have hl1 : (W.alloc (.cells #[.string ci, .string cf, .string co, .string cn] 82)).heap[wr.heap.size + 4]? = some (.loop r0) := block_alloc _ hl
        have hll := lt_of_heap hl
        have hgb := grownBy_putObj' (W.alloc (.cells #[.string ci, .string cf, .string co, .string cn] 82)) (wr.heap.size + 4) (.loop { r0 with state := .busy })
        have kc : ((W.alloc (.cells #[.string ci, .string cf, .string co, .string cn] 82)).putObj (wr.heap.size + 4) (.loop { r0 with state := .busy })).heap[W.heap.size]? = some (.cells #[.string ci, .string cf, .string co, .string cn] 82 (0, 0)) := (World.putObj_heap_other (by omega)).trans (block_at _ rfl)
        have P : ∀ b, b < W.heap.size → b ≠ wr.heap.size + 4 → ((W.alloc (.cells #[.string ci, .string cf, .string co, .string cn] 82)).putObj (wr.heap.size + 4) (.loop { r0 with state := .busy })).heap[b]? = W.heap[b]? := fun b hb hne => (World.putObj_heap_other hne).trans (hA.block b hb)
        have lb : ((W.alloc (.cells #[.string ci, .string cf, .string co, .string cn] 82)).putObj (wr.heap.size + 4) (.loop { r0 with state := .busy })).heap[wr.heap.size + 4]? = some (.loop { r0 with state := .busy }) := World.putObj_heap_same (lt_of_heap hl1)
        have szb : W.heap.size < ((W.alloc (.cells #[.string ci, .string cf, .string co, .string cn] 82)).putObj (wr.heap.size + 4) (.loop { r0 with state := .busy })).heap.size := lt_of_heap kc
        have hoW : ((W.alloc (.cells #[.string ci, .string cf, .string co, .string cn] 82)).putObj (wr.heap.size + 4) (.loop { r0 with state := .busy })).os = W.os ∧ ((W.alloc (.cells #[.string ci, .string cf, .string co, .string cn] 82)).putObj (wr.heap.size + 4) (.loop { r0 with state := .busy })).tape = W.tape ∧ ((W.alloc (.cells #[.string ci, .string cf, .string co, .string cn] 82)).putObj (wr.heap.size + 4) (.loop { r0 with state := .busy })).output = W.output := ⟨hgb.os.trans hA.os, hgb.tape.trans hA.tape, hgb.output.trans hA.output⟩
        refine yieldAt_mk hr0 ({ tmps := #[.pointer (some ⟨ba, 0, none⟩), .pointer (some ⟨bb, 0, none⟩), undef, undef, .slice none 0 0, .pointer (some ⟨w.heap.size, 0, none⟩), undef, .string id, .pointer (some ⟨W.heap.size, 0, none⟩), .pointer (some ⟨ba, 0, none⟩), .pointer (some ⟨bb, 0, none⟩), .slice (some ⟨b, 0, none⟩) ids.length vc, .int .i64 ids.length, .int .i64 m, .bool true, .pointer (some ⟨b, m, none⟩), .string id, .string id, .pointer (some ⟨ba, 0, none⟩), .pointer (some ⟨bb, 0, none⟩), .func (.func 93) #[] #[.pointer (some ⟨wr.heap.size + 1, 0, none⟩), .pointer (some ⟨wr.heap.size, 0, none⟩), .pointer (some ⟨wr.heap.size + 1 + 1, 0, none⟩)], .agg #[.string ci, .string cf, .string co, .string cn], undef, undef, undef, undef, u26, undef], defers := [] }) hl hl1 rfl ?assign ?body
        case assign =>
          intro K hK
          gi_wp2
          exact hK
        case body =>
          clear hgb
          generalize hWb : (W.alloc (.cells #[.string ci, .string cf, .string co, .string cn] 82)).putObj (wr.heap.size + 4) (.loop { r0 with state := .busy }) = Wb at kc P lb szb hoW ⊢
          have qb : OJ w w1 (W2.heap.size :: ds) (.slice oa oo.length oc) oo Wb := q.off hl (by omega) hoW.1 hoW.2.1 hoW.2.2 (by omega) P
          have HQB : Hid (OJ w w1 (W2.heap.size :: ds) (.slice oa oo.length oc) oo Wb) := qb
          have cL := Boxed.cell qb.b0
          have fL := Boxed.frozen qb.b0
          have HRW : Hid (ChR w1.heap.size (Wb.alloc (.cells #[.string ci, .string cf, .string co, .string cn] 82)) (.slice oa oo.length oc) oo) := qb.row.step (below_alloc _ _)
          clear qb
          obtain ⟨c0, c1, c2, c3⟩ := blk4 kc
          have NC : Hid (∀ (j : Nat) (v : Value), [Value.string ci, .string cf, .string co, .string cn][j]? = some v → (Wb.alloc (.cells #[.string ci, .string cf, .string co, .string cn] 82)).cell? ((⟨Wb.heap.size, 0, none⟩ : Addr).add j) = some v) := fun j v hv => by
            match j, hv with
            | 0, hv => simp at hv; subst hv; simp [Addr.add]
            | 1, hv => simp at hv; subst hv; simp [Addr.add]
            | 2, hv => simp at hv; subst hv; simp [Addr.add]
            | 3, hv => simp at hv; subst hv; simp [Addr.add]
          have hzb : w1.heap.size ≤ Wb.heap.size := by omega
          gi_wp2_with (first
            | (gi_at_builtin; refine wpListIn_append_own _ rfl _ _ 49 rfl w1.heap.size 82 i0 (.agg #[.string ⟨#[]⟩, .string ⟨#[]⟩, .string ⟨#[]⟩, .string ⟨#[]⟩]) 4 64 Tryz.underlying49 hi hz0 hz1 hz2 rfl (by decide) _ _ _ rfl HRW.out ⟨Wb.heap.size, 0, none⟩ 1 1 [.string ci, .string cf, .string co, .string cn] rfl rfl NC.out ?e1 ?e2 ?e3 ?e4 ?_)
            | gi_in)
          case e1 => exact ⟨rfl, rfl, rfl, rfl⟩
          case e2 => unfold maxLen; omega
          case e3 => omega
          case e4 => omega
          intro v' w3 hown' hgrow _
          obtain ⟨g', cap', rfl⟩ := ownsRow_succ hown'
          have hgr : (Wb.alloc (.cells #[.string ci, .string cf, .string co, .string cn] 82)).grownBy w3 (Value.slice oa oo.length oc).ownBlock := hgrow
          have rowN : ChR w1.heap.size w3 (.slice (some ⟨g', 0, none⟩) (oo.length + 1) cap') (oo ++ [c]) := by
            show World.ownsRow _ _ _ _ _ _ _
            rw [List.length_append, List.flatMap_append, List.flatMap_singleton, HTC.out]
            exact hown'
          have hAl := below_alloc Wb (.cells #[.string ci, .string cf, .string co, .string cn] 82)
          have B1 : Boxed w3 w.heap.size 49 (.slice oa oo.length oc) := (hgr.block _ (by rw [World.size_alloc]; omega) (fun z => by have := (HQB.out.own _ z.symm).1; omega)).trans ((hAl.block _ (by omega)).trans HQB.out.b0)
          have cL1 := Boxed.cell B1
          have fL1 := Boxed.frozen B1
          have HFIN : Hid (_) := OJ.round c q hl (by omega) hr0.again (hAl.os.trans hoW.1) (hAl.tape.trans hoW.2.1) (hAl.output.trans hoW.2.2) (by have := hAl.size; omega) (fun k hk hne => (hAl.block k (by omega)).trans (P k hk hne)) ((hAl.block _ (by omega)).trans lb) rowN hgr
          clear hown' hgrow hgr rowN B1
          gi_wp2
          obtain ⟨y1, y2, y3, y4⟩ := HFIN.out
          exact ⟨y1, rfl, ⟨y2, _, by rw [HAS.out]; exact y3⟩, y4⟩
      case post =>
        rintro e2 W3 ⟨hv, hl9, v', q⟩
        refine ⟨hv, r0, hl9, by rw [hr0.state]; decide, .inl ⟨hr0.pending, ?_⟩⟩
        have gP := grownBy_putObj' W3 (wr.heap.size + 4) (.loop { r0 with state := .exhausted })
        have HQ : Hid (OJ w w1 (W2.heap.size :: ds) v' (dfs (ids.take (m + 1)) X Y) (W3.putObj (wr.heap.size + 4) (.loop { r0 with state := .exhausted }))) := by
          have q2 := q.off hl9 (by omega) gP.os gP.tape gP.output gP.size (fun k _ hk => World.putObj_heap_other hk)
          rw [List.nil_append] at q2
          show OJ _ _ _ _ _ _
          rw [HDF.out]
          exact q2
        generalize W3.putObj (wr.heap.size + 4) (.loop { r0 with state := .exhausted }) = W4 at HQ ⊢
        clear gP q hl9 hB kbi kba kbb HOW hb cb
        rw [hs2] at HQ
        gi_wp2
        exact ⟨⟨_, _, _, _, _, _, _, _, _, m + 1, (wr.heap.size + 3) :: ds, ⟨⟨rfl, by omega, rfl, rfl, rfl, rfl, rfl, rfl, rfl, rfl⟩, rfl⟩, hlt, v', HQ⟩, by simp [intOf]; omega⟩
    · have hmi : ¬ ((m : Int) < ids.length) := by omega
      have HOE : Hid (OJ w w1 ds v (dfs ids X Y) wr) := by
        have := HO.out
        rw [List.take_of_length_le (by omega)] at this
        exact this
      have cL := Boxed.cell HOE.out.b0
      clear HO
      gi_wp2
      change LeavesInM Fence.wide 20 Tryz.prog _ _ _ (mks ds) .returning wr
      refine leaves_marks ds wr HOE.out.nd HOE.out.dd (fun w' hs => ?_)
      have q := HOE.out
      have z1 := q.lo
      have z2 := q.sz
      refine ⟨v, ?_, v, rfl, own_base (q.row.at (fun g hg => hs.block g (fun hd => ?_))) (by omega), hs.os.trans q.os, hs.tape.trans q.tp, hs.output.trans q.ou, by have := hs.size; omega, fun k hk => (hs.block k (fun hd => ?_)).trans (q.below.block k hk)⟩
      · simp [results, Tryz.f19, go_sem]
      · obtain ⟨_, ⟨_, _, hc⟩, _⟩ := q.own g hg
        rw [q.dd g hd] at hc
        cases hc
      · have := q.ge k hd
        omega
end Go.Proofs.YtjhlbkjcchejjaaGreatDoor

/- Differences: what the laws use: Diff of two calendars in plain words; the closed fact of one event that comes. -/
namespace Go.Proofs.YtjhlbkjcchejjaaGreatDoor
open Go Go.RowKit Go.Shelf Cal
attribute [local go_sem] Oper.semAt_some

theorem BookAt.ook {lo bb n : Nat} {mo : Option Nat} {C : List EV} {w : World} (h : BookAt lo w bb mo n C) (id : ByteArray) : OOk id (evOf id C) := fun E hE => by
  obtain ⟨D, h1, h2, h3, h4⟩ := h
  obtain ⟨q1, q2⟩ := evOf_some hE
  exact ⟨(h4.at_ E q1).1.1, (h4.at_ E q1).1.2, q2⟩
/-- what Diff tells of X and Y -/
noncomputable def dif (X Y : List EV) : List DC := dfs (idsU X Y) X Y
theorem dif_ok {X Y : List EV} (hX : ∀ id, OOk id (evOf id X)) (hY : ∀ id, OOk id (evOf id Y)) : ∀ c ∈ dif X Y, c.ok := fun c hc => by
  obtain ⟨id, _, h⟩ := List.mem_flatMap.1 hc
  exact (dl_ok (hX id) (hY id) c h).1
theorem dif_len {X Y : List EV} (hX : X.length ≤ 60) (hY : Y.length ≤ 60) : (dif X Y).length ≤ 720 := by
  have h1 := dfs_len X Y (idsU X Y)
  have h2 := idsU_len X Y hX hY
  unfold dif
  omega
theorem ids_all (X Y : List EV) (id : ByteArray) (h : id ∉ idsU X Y) : evOf id X = none ∧ evOf id Y = none := by
  exact ⟨evOf_none.2 (fun hE => h ((idsU_mem X Y id).2 (.inl hE))), evOf_none.2 (fun hE => h ((idsU_mem X Y id).2 (.inr hE)))⟩
theorem dif_runs {X Y A : List EV} (hX : Rises X) (hY : Rises Y) (okX : ∀ id, OOk id (evOf id X)) (okY : ∀ id, OOk id (evOf id Y)) (h : Runs X (dif X Y) A) : A = Y := runs_diff (idsU_nodup X Y) (ids_all X Y) hX hY okX okY h
theorem dif_back {X Y A : List EV} (hX : Rises X) (hY : Rises Y) (okX : ∀ id, OOk id (evOf id X)) (okY : ∀ id, OOk id (evOf id Y)) (h : Runs Y ((dif X Y).reverse.map DC.turn) A) : A = X := runs_back (idsU_nodup X Y) (ids_all X Y) hX hY okX okY h
theorem dif_self (X : List EV) : dif X X = [] := dfs_self _ _

theorem ids7 : idsU [] [E7] = [⟨#[97]⟩] := by kernel_rfl
theorem dif7 : dif [] [E7] = [⟨⟨#[97]⟩, 6, none, some E7⟩] := by
  have e1 : evOf ⟨#[97]⟩ [E7] = some E7 := by
    cases h : evOf ⟨#[97]⟩ [E7] with
    | none => exact absurd ⟨E7, List.mem_singleton.2 rfl, rfl⟩ (evOf_none.1 h)
    | some F => rw [List.mem_singleton.1 (evOf_some h).1]
  have e0 : evOf ⟨#[97]⟩ [] = none := evOf_none.2 (fun ⟨E, hE, _⟩ => absurd hE List.not_mem_nil)
  unfold dif dfs
  rw [ids7, List.flatMap_singleton, e1, e0]
  rfl
theorem eT7 : bs (oT 6 (some E7)) = ⟨#[97, 124, 124, 50, 48, 48, 48, 45, 48, 49, 45, 48, 56, 124, 49, 124, 111, 110, 99, 101, 124, 124]⟩ := by
  have h1 : dtx 7 = txt 2000 1 8 := by
    obtain ⟨y, m, d, hv, hn, he⟩ := dtx_ok (n := 7) (by decide) (by decide)
    obtain ⟨rfl, rfl, rfl⟩ := num_inj (y := y) (m := m) (d := d) (y' := 2000) (m' := 1) (d' := 8) hv ⟨by decide, by decide, by decide, by decide, by decide, by decide⟩ (hn.trans (by decide))
    exact he
  have h3 : ruT (rd E7.f E7.e E7.ds E7.c E7.u) = [111, 110, 99, 101] := by
    obtain ⟨t, ht, he⟩ := ruT_ok E7_well.rl
    rw [he]
    rcases ht with ⟨_, rfl⟩ | ⟨h, _⟩
    · kernel_rfl
    · exact absurd h (by decide)
  have e : oT 6 (some E7) = Lib.join ([97] :: [[], dtx 7, Lib.itoa 1, ruT (rd E7.f E7.e E7.ds E7.c E7.u), Lib.join [] [44], Lib.join [] [44]]) [124] := rfl
  have h4 : txt 2000 1 8 = [50, 48, 48, 48, 45, 48, 49, 45, 48, 56] := by decide
  have h5 : Lib.itoa 1 = [49] := by first | decide | rfl | kernel_rfl
  rw [e, h1, h3, h4, h5]
  decide

theorem put7_C (lo bb : Nat) (s : Nat → Addr) (w : World) (g : GlobK s w) (h : BookAt lo w bb none 0 []) : Calls Tryz.prog 46 #[.pointer (some ⟨bb, 0, none⟩), ev E7 (.slice none 0 0) (.slice none 0 0) (.slice none 0 0)] w fun r w' => r = .returned .nilIface ∧ PutTo lo w w' bb none 0 [E7] := by
  refine Calls.mono (put_C lo bb 0 none [] E7 _ _ _ 0 s w g h (by decide) (by decide) (by decide) (nilLs _) E7_k) ?_
  rintro r w' (⟨h, _⟩ | ⟨_, ⟨_, h⟩, _⟩ | ⟨_, _, rfl, hP⟩)
  · exact absurd rfl h
  · exact absurd h (by decide)
  · exact ⟨rfl, hP⟩
/-- a row of one change, read -/
theorem row7 {base : Nat} {W : World} {v : Value} (h : ChR base W v (dif [] [E7])) : ∃ b cap : Nat, v = .slice (some ⟨b, 0, none⟩) 1 cap ∧ 1 ≤ cap ∧ W.cell? ⟨b, 0, none⟩ = some (.string ⟨#[97]⟩) ∧ W.cell? ⟨b, 1, none⟩ = some (.string ⟨#[97, 108, 108]⟩) ∧ W.cell? ⟨b, 2, none⟩ = some (.string ⟨#[]⟩) ∧ W.cell? ⟨b, 3, none⟩ = some (.string ⟨#[97, 124, 124, 50, 48, 48, 48, 45, 48, 49, 45, 48, 56, 124, 49, 124, 111, 110, 99, 101, 124, 124]⟩) := by
  rw [dif7] at h
  obtain ⟨a, cap, rfl, hcap, hc⟩ := h.form
  obtain ⟨b, rfl, _, h0, h1, h2, h3⟩ := hc 0 (by decide)
  refine ⟨b, cap, rfl, hcap, h0, h1, h2, h3.trans ?_⟩
  exact congrArg (fun x => some (Value.string x)) eT7

set_option maxRecDepth 100000 in
theorem differed_any (s : Nat → Addr) (w : World) (g : GlobD s w) : Calls Tryz.prog 16 #[] w fun r w' => r = .returned (.bool true) ∧ Below w.heap.size w w' := by
  have NW : Hid (∀ W, _) := fun W => bookAt_new W
  have SM : Hid (∀ W, Calls Tryz.prog 47 #[.string ⟨#[97]⟩, .int .i64 7] W fun r w' => r = .returned (ev E7 (.slice none 0 0) (.slice none 0 0) (.slice none 0 0)) ∧ Below W.heap.size W w') := fun W => small_any _ _ _
  have HG : Hid (GlobD s w) := g
  clear g
  go_enter Tryz.func16, Tryz.ntmps16
  go_wp2_with (first
    | (go_at_call 45; refine Calls.mono (NW.out w) ?_; rintro r w1 ⟨rfl, hB1, hb1⟩; have BA : Hid (BookAt w.heap.size w1 w.heap.size none 0 []) := hB1; have BW1 : Hid (Below w.heap.size w w1) := hb1; clear hB1 hb1)
    | (go_at_call 45; refine Calls.mono (NW.out w1) ?_; rintro r w2 ⟨rfl, hB2, hb2⟩; have BB : Hid (BookAt w1.heap.size w2 w1.heap.size none 0 []) := hB2; have BW2 : Hid (Below w1.heap.size w1 w2) := hb2; clear hB2 hb2)
    | (go_at_call 47; refine Calls.mono (SM.out _) ?_; rintro r w3 ⟨rfl, hb3⟩; have BW3 : Hid (Below w1.heap.size w1 w3) := below_then BW2.out hb3; have BB3 : Hid (BookAt w1.heap.size w3 w1.heap.size none 0 []) := BB.out.step hb3; clear hb3)
    | (go_at_call 46; refine Calls.mono (put7_C w1.heap.size w1.heap.size s w3 (HG.out.step (below_then BW1.out BW3.out)).gk BB3.out) ?_; rintro r w4 ⟨rfl, mo4, hB4, hK4, hm4⟩; have BW4 : Hid (Below w1.heap.size w1 w4) := hK4.below BW3.out (Nat.le_refl _) (fun m q => by cases q); have BB4 : Hid (BookAt w1.heap.size w4 w1.heap.size mo4 (0 + 1) [E7]) := hB4; clear hB4 hK4 hm4)
    | (go_at_call 19; refine Calls.mono (diff_C w.heap.size w.heap.size 0 none [] w1.heap.size w1.heap.size (0 + 1) mo4 [E7] s w4 (HG.out.step (below_then BW1.out BW4.out)) (BA.out.step BW4.out) BB4.out (by decide) (by decide) (by decide) (by decide)) ?_; rintro r w5 ⟨v5, rfl, hR5, hb5⟩; have BW5 : Hid (Below w.heap.size w w5) := below_then (below_then BW1.out BW4.out) hb5; obtain ⟨b, cap, rfl, hcap, c0, c1, c2, c3⟩ := row7 hR5; clear hR5 hb5))
  go_ret
  exact ⟨rfl, BW5.out⟩
end Go.Proofs.YtjhlbkjcchejjaaGreatDoor
