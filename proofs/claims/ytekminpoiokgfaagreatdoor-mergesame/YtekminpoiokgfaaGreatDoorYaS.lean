/- Package merge's joinMoves: where days are moved to, From by From. -/
import Derived.Test.YtekminpoiokgfaaGreatDoorYaO
import Derived.Test.YtekminpoiokgfaaGreatDoorBkFW
import Derived.Test.YtekminpoiokgfaaGreatDoorYaJ
import Derived.Sort.Walk0
namespace Go.Proofs.YtekminpoiokgfaaGreatDoor
open Go Go.RowKit Go.Maps Go.Sort Cal
attribute [local go_sem] Oper.semAt_some

def jSt (l1 l2 l3 : List (Int × Int)) (acc : Option (List (Int × Int))) (f : Int) : Option (List (Int × Int)) := acc.bind fun o => (one3 (gl l1 f) (gl l2 f) (gl l3 f)).map fun p => if p.2 then o ++ [(f, p.1)] else o
/-- what the moves of three become; none: they clash -/
def jMv (l1 l2 l3 : List (Int × Int)) : Option (List (Int × Int)) := (ris (l2.map Prod.fst) (l3.map Prod.fst)).foldl (jSt l1 l2 l3) (some [])
theorem jSt_none (l1 l2 l3 : List (Int × Int)) : ∀ F : List Int, F.foldl (jSt l1 l2 l3) none = none
  | [] => rfl
  | _ :: r => jSt_none l1 l2 l3 r

set_option maxRecDepth 100000 in
/-- a look-up of a goal -/
theorem wpList_lookup_goal (w : World) {ops : Array Oper} {rest : List Oper} {o : Oper} {a : Act} {Q : Exit → Act → World → Prop} (hg : o.guard = none) (m x : Operand) (hop : o.op = Op.lookup 173 m x false)
    (b : Nat) (ms : List (Int × Int)) (hm : a.eval m = .map (some b)) (hG : GM w b ms) (f : Int) (hx : a.eval x = .int .i64 f) (hkey : keyOf Tryz.prog 3 (.int .i64 f) = some (gKey f)) (t : Int) (k : Bool) (hgl : gl ms f = (t, k))
    (hK : wpList Tryz.prog ops Q rest (a.put o.dst (.agg #[.int .i64 t, .bool k])) w) : wpList Tryz.prog ops Q (o :: rest) a w := by
  obtain ⟨D, hown, hat⟩ := hG.own
  refine wpList_plain hg fun K' hK' => ?_
  obtain ⟨v, ps, hrun, hv⟩ := hown.lookup gLaw Tryz.underlying173 (zeroG w) (zd := .held (gV (0, false))) (zp := []) rfl hkey
  have h := hld_inv hv
  rw [hat f, hgl] at h
  have e : v = .agg #[.int .i64 t, .bool k] := by injection h with q; exact q.symm
  subst e
  unfold Oper.wp
  simp [execOp, hop, hm, hx, hrun, Result.andThen]
  exact hK' _ _ hK

set_option maxHeartbeats 4000000 in
set_option maxRecDepth 100000 in
theorem joinMoves_any (v1 v2 v3 : Value) (l1 l2 l3 : List (Int × Int)) (w : World) (h1 : Movs w v1 l1) (h2 : Movs w v2 l2) (h3 : Movs w v3 l3) (hv1 : ∀ m ∈ l1, 0 ≤ m.1 ∧ m.1 ≤ 73048) (hv2 : ∀ m ∈ l2, 0 ≤ m.1 ∧ m.1 ≤ 73048) (hv3 : ∀ m ∈ l3, 0 ≤ m.1 ∧ m.1 ≤ 73048) (hl2 : l2.length ≤ 100) (hl3 : l3.length ≤ 100) (hF : ∀ f ∈ ris (l2.map Prod.fst) (l3.map Prod.fst), 0 ≤ f ∧ f ≤ 73048) :
    Calls Tryz.prog 106 #[v1, v2, v3] w fun r w' => ∃ v', r = .returned (.tuple #[v', .bool (jMv l1 l2 l3).isSome]) ∧ OwM w.heap.size w' v' ((jMv l1 l2 l3).getD []) ∧ Below w.heap.size w w' := by
  obtain ⟨i1, hi1, hy0, hy1, hy2⟩ := info_parts info_move
  have G1 : Hid (∀ W, Below w.heap.size w W → Calls Tryz.prog 134 #[v1] W fun r w' => ∃ b, r = .returned (.map (some b)) ∧ W.heap.size ≤ b ∧ GM w' b l1 ∧ Below W.heap.size W w') := fun W hW => goalsOf_any l1 v1 W (h1.step hW) hv1
  have G2 : Hid (∀ W, Below w.heap.size w W → Calls Tryz.prog 134 #[v2] W fun r w' => ∃ b, r = .returned (.map (some b)) ∧ W.heap.size ≤ b ∧ GM w' b l2 ∧ Below W.heap.size W w') := fun W hW => goalsOf_any l2 v2 W (h2.step hW) hv2
  have G3 : Hid (∀ W, Below w.heap.size w W → Calls Tryz.prog 134 #[v3] W fun r w' => ∃ b, r = .returned (.map (some b)) ∧ W.heap.size ≤ b ∧ GM w' b l3 ∧ Below W.heap.size W w') := fun W hW => goalsOf_any l3 v3 W (h3.step hW) hv3
  have F2 : Hid (∀ W, Below w.heap.size w W → Calls Tryz.prog 135 #[v2] W fun r w' => ∃ v, r = .returned v ∧ Ow W.heap.size w' v (l2.map Prod.fst) ∧ Below W.heap.size W w') := fun W hW => mgFroms_any l2 v2 W (h2.step hW)
  have F3 : Hid (∀ W, Below w.heap.size w W → Calls Tryz.prog 135 #[v3] W fun r w' => ∃ v, r = .returned v ∧ Ow W.heap.size w' v (l3.map Prod.fst) ∧ Below W.heap.size W w') := fun W hW => mgFroms_any l3 v3 W (h3.step hW)
  have HL2 : Hid ((l2.map Prod.fst).length ≤ 100) := by show _ ≤ _; rw [List.length_map]; exact hl2
  have HL3 : Hid ((l3.map Prod.fst).length ≤ 100) := by show _ ≤ _; rw [List.length_map]; exact hl3
  have HJ : Hid (jMv l1 l2 l3 = (ris (l2.map Prod.fst) (l3.map Prod.fst)).foldl (jSt l1 l2 l3) (some [])) := rfl
  have HF : Hid (∀ f ∈ ris (l2.map Prod.fst) (l3.map Prod.fst), 0 ≤ f ∧ f ≤ 73048) := hF
  obtain ⟨a1, c1, rfl, z1⟩ := h1
  obtain ⟨a2, c2, rfl, z2⟩ := h2
  obtain ⟨a3, c3, rfl, z3⟩ := h3
  clear z1 z2 z3 hv1 hv2 hv3 hF hl2 hl3
  generalize l2.map Prod.fst = f2 at F2 HL2 HJ HF
  generalize l3.map Prod.fst = f3 at F3 HL3 HJ HF
  generalize l1.length = n1 at *
  generalize l2.length = n2 at *
  generalize l3.length = n3 at *
  generalize jMv l1 l2 l3 = J at HJ ⊢
  go_enter Tryz.func106, Tryz.ntmps106
  go_wp2_with fail
  go_at_call 134
  refine Calls.mono (G1.out w (Below.refl _ _)) ?_
  rintro r w1 ⟨b1, rfl, hz1, hg1, hb1⟩
  have G2' : Hid (Calls _ _ _ _ _) := G2.out w1 hb1
  have HB1 : Hid (Below w.heap.size w w1) := hb1
  have HG1 : Hid (GM w1 b1 l1) := hg1
  clear G1 G2 hb1 hg1 hz1
  go_wp2_with fail
  go_at_call 134
  refine Calls.mono G2'.out ?_
  rintro r w2 ⟨b2, rfl, hz2, hg2, hb2⟩
  have HB2 : Hid (Below w.heap.size w w2) := below_then HB1.out hb2
  have HG1' : Hid (GM w2 b1 l1) := HG1.out.kept hb2
  have HG2 : Hid (GM w2 b2 l2) := hg2
  have G3' : Hid (Calls _ _ _ _ _) := G3.out w2 HB2.out
  clear G2' G3 hb2 hg2 hz2 HG1 HB1
  go_wp2_with fail
  go_at_call 134
  refine Calls.mono G3'.out ?_
  rintro r w3 ⟨b3, rfl, hz3, hg3, hb3⟩
  have HB3 : Hid (Below w.heap.size w w3) := below_then HB2.out hb3
  have HG1 : Hid (GM w3 b1 l1) := HG1'.out.kept hb3
  have HG2' : Hid (GM w3 b2 l2) := HG2.out.kept hb3
  have HG3 : Hid (GM w3 b3 l3) := hg3
  have F2' : Hid (Calls _ _ _ _ _) := F2.out w3 HB3.out
  clear G3' F2 hb3 hg3 hz3 HG1' HG2 HB2
  go_wp2_with fail
  go_at_call 135
  refine Calls.mono F2'.out ?_
  rintro r w4 ⟨u2, rfl, ho2, hb4⟩
  have HB4 : Hid (Below w3.heap.size w3 w4) := hb4
  have HO2 : Hid (Ow w3.heap.size w4 u2 f2) := ho2
  have F3' : Hid (Calls _ _ _ _ _) := F3.out w4 (below_then HB3.out hb4)
  clear F2' F3 ho2 hb4
  obtain ⟨ua2, uc2, rfl⟩ := ow_form HO2.out
  go_wp2_with fail
  go_at_call 135
  refine Calls.mono F3'.out ?_
  rintro r w5 ⟨u3, rfl, ho3, hb5⟩
  have HB5 : Hid (Below w3.heap.size w3 w5) := below_then HB4.out hb5
  have RI : Hid (Calls _ _ _ _ _) := risingI_any (.slice ua2 f2.length uc2) u3 f2 f3 w5 ((ow_got HO2.out).step hb5) (ow_got ho3) (by have := HL2.out; omega) (by have := HL3.out; omega)
  obtain ⟨ua3, uc3, rfl⟩ := ow_form ho3
  have HFL : Hid ((ris f2 f3).length ≤ 200) := by show _ ≤ _; have := ris_len f2 f3; have := HL2.out; have := HL3.out; omega
  clear F3' ho3 hb5 HO2 HB4
  generalize ris f2 f3 = F at RI HJ HF HFL
  generalize f2.length = q2 at *
  generalize f3.length = q3 at *
  go_wp2_with (go_at_call 131; refine Calls.mono RI.out ?_; rintro r w6 ⟨u6, rfl, ho6, hb6⟩; obtain ⟨ua6, uc6, rfl⟩ := ow_form ho6)
  have HI : Hid (Ints w6 (.slice ua6 F.length uc6) F) := ow_ints ho6 (by have := HFL.out; omega)
  have HB6 : Hid (Below w3.heap.size w3 w6) := below_then HB5.out hb6
  have HG1' : Hid (GM w6 b1 l1) := HG1.out.kept HB6.out
  have HG2 : Hid (GM w6 b2 l2) := HG2'.out.kept HB6.out
  have HG3' : Hid (GM w6 b3 l3) := HG3.out.kept HB6.out
  have HBW : Hid (Below w.heap.size w w6) := below_then HB3.out HB6.out
  have hl6 : F.length ≤ 200 := HFL.out
  clear RI ho6 hb6 HG1 HG2' HG3 HB6 HB5 HB3 HFL HL2 HL3
  go_loopw [11, 13, 14, 15, 28] (fun ov _ _ _ i wr => ∃ (m : Nat) (o : List (Int × Int)), m ≤ F.length ∧ i = .int .i64 m ∧ Hid (Below w6.heap.size w6 wr) ∧ Hid (OwM w6.heap.size wr ov o) ∧ Hid (o.length ≤ m) ∧ Hid ((F.take m).foldl (jSt l1 l2 l3) (some []) = some o)) (fun _ _ _ _ i _ => F.length - (intOf i).toNat)
  case atStart => exact ⟨0, [], Nat.zero_le _, rfl, Below.refl _ _, World.ownsRow_nil _ _ _ _, Nat.le_refl _, rfl⟩
  case round =>
    obtain ⟨m, o, hm, rfl, HB, HO, HOL, HJM⟩ := hrel
    by_cases hlt : m < F.length
    · have HI' := HI.out
      obtain ⟨ia, ic, hie, _, hicap, hcl⟩ := HI'
      obtain ⟨blk, hblk0, hblk, hcell⟩ := hcl m hlt
      have e1 : ua6 = some ⟨blk, 0, none⟩ ∧ uc6 = ic := by
        injection hie with q1 q2 q3
        exact ⟨q1.trans hblk0, q3⟩
      obtain ⟨rfl, rfl⟩ := e1
      have hc1 := cell_step hcell HB.out
      have hf := HF.out F[m] (List.getElem_mem hlt)
      have HSt : Hid ((F.take (m + 1)).foldl (jSt l1 l2 l3) (some []) = jSt l1 l2 l3 (some o) F[m]) := by
        show _ = _
        rw [List.take_succ_eq_append_getElem hlt, List.foldl_append, HJM.out]; rfl
      have HNo : Hid (jSt l1 l2 l3 (some o) F[m] = none → J = none) := fun q => by
        rw [HJ.out, ← List.take_append_drop (m + 1) F, List.foldl_append, HSt.out, q]
        exact jSt_none l1 l2 l3 _
      clear hcl hcell hie hblk0 HJM
      generalize F[m] = f at hc1 hf HSt HNo
      have HKY : Hid (keyOf Tryz.prog 3 (.int .i64 f) = some (gKey f)) := gKey_of hf.1 hf.2
      have L1 : Hid (GM wr b1 l1) := HG1'.out.kept HB.out
      have L2 : Hid (GM wr b2 l2) := HG2.out.kept HB.out
      have L3 : Hid (GM wr b3 l3) := HG3'.out.kept HB.out
      have hJS : jSt l1 l2 l3 (some o) f = (one3 (gl l1 f) (gl l2 f) (gl l3 f)).map fun p => if p.2 then o ++ [(f, p.1)] else o := rfl
      rw [hJS] at HSt HNo
      clear hJS hf
      obtain ⟨⟨t1, k1⟩, E1⟩ : ∃ p, gl l1 f = p := ⟨_, rfl⟩
      obtain ⟨⟨t2, k2⟩, E2⟩ : ∃ p, gl l2 f = p := ⟨_, rfl⟩
      obtain ⟨⟨t3, k3⟩, E3⟩ : ∃ p, gl l3 f = p := ⟨_, rfl⟩
      have HE1 : Hid (gl l1 f = (t1, k1)) := E1
      have HE2 : Hid (gl l2 f = (t2, k2)) := E2
      have HE3 : Hid (gl l3 f = (t3, k3)) := E3
      rw [E1, E2, E3] at HSt HNo
      clear E1 E2 E3
      have OG : Hid (∀ W, Calls Tryz.prog 136 #[.agg #[.int .i64 t1, .bool k1], .agg #[.int .i64 t2, .bool k2], .agg #[.int .i64 t3, .bool k3]] W fun r w' => r = .returned (.tuple #[gV ((one3 (t1, k1) (t2, k2) (t3, k3)).getD (0, false)), .bool (one3 (t1, k1) (t2, k2) (t3, k3)).isSome]) ∧ Below W.heap.size W w') := fun W => oneOfG_any t1 t2 t3 k1 k2 k3 W
      generalize one3 (t1, k1) (t2, k2) (t3, k3) = z at OG HSt HNo
      cases z with
      | none =>
        have HN : Hid (J = none) := HNo.out rfl
        have OG' : Hid (∀ W, Calls Tryz.prog 136 #[.agg #[.int .i64 t1, .bool k1], .agg #[.int .i64 t2, .bool k2], .agg #[.int .i64 t3, .bool k3]] W fun r w' => r = .returned (.tuple #[.agg #[.int .i64 0, .bool false], .bool false]) ∧ Below W.heap.size W w') := OG.out
        clear OG HNo HSt HO
        go_wp2_with (first
          | (at_lookup; first | refine wpList_lookup_goal _ rfl _ _ rfl b1 l1 rfl L1.out f rfl HKY.out t1 k1 HE1.out ?_ | refine wpList_lookup_goal _ rfl _ _ rfl b2 l2 rfl L2.out f rfl HKY.out t2 k2 HE2.out ?_ | refine wpList_lookup_goal _ rfl _ _ rfl b3 l3 rfl L3.out f rfl HKY.out t3 k3 HE3.out ?_)
          | (go_at_call 136; refine Calls.mono (OG'.out _) ?_; rintro r w7 ⟨rfl, hb7⟩)
          | go_in)
        go_ret2
        refine ⟨_, by rw [HN.out]; rfl, by rw [HN.out]; exact World.ownsRow_nil _ _ _ _, below_then HBW.out (below_then HB.out (below_then hb7 (below_alloc _ _)))⟩
      | some p =>
        obtain ⟨pt, pk⟩ := p
        have OG' : Hid (∀ W, Calls Tryz.prog 136 #[.agg #[.int .i64 t1, .bool k1], .agg #[.int .i64 t2, .bool k2], .agg #[.int .i64 t3, .bool k3]] W fun r w' => r = .returned (.tuple #[.agg #[.int .i64 pt, .bool pk], .bool true]) ∧ Below W.heap.size W w') := OG.out
        clear OG HNo
        have hzr : w6.heap.size ≤ wr.heap.size := HB.out.size
        have hol : o.length ≤ 200 := Nat.le_trans HOL.out (by omega)
        obtain ⟨oa, oc, rfl⟩ := gotM_form (owm_movs HO.out (by omega)).2
        go_upto_region 9 with (first
          | (at_lookup; first | refine wpList_lookup_goal _ rfl _ _ rfl b1 l1 rfl L1.out f rfl HKY.out t1 k1 HE1.out ?_ | refine wpList_lookup_goal _ rfl _ _ rfl b2 l2 rfl L2.out f rfl HKY.out t2 k2 HE2.out ?_ | refine wpList_lookup_goal _ rfl _ _ rfl b3 l3 rfl L3.out f rfl HKY.out t3 k3 HE3.out ?_)
          | (go_at_call 136; refine Calls.mono (OG'.out _) ?_; rintro r w7 ⟨rfl, hb7⟩)
          | go_in)
        have n0 : (w7.alloc (.cells #[.int .i64 pt, .bool pk] 176)).cell? ⟨w7.heap.size, 0, none⟩ = some (.int .i64 pt) := by rw [World.cell?_alloc_new]; rfl
        have n1 : (w7.alloc (.cells #[.int .i64 pt, .bool pk] 176)).cell? ⟨w7.heap.size, 1, none⟩ = some (.bool pk) := by rw [World.cell?_alloc_new]; rfl
        have HB7 : Hid (Below wr.heap.size wr (w7.alloc (.cells #[.int .i64 pt, .bool pk] 176))) := below_then hb7 (below_alloc _ _)
        clear hb7 OG' L1 L2 L3 HE1 HE2 HE3 HKY hc1
        generalize w7.alloc (.cells #[.int .i64 pt, .bool pk] 176) = wq at n0 n1 HB7 ⊢
        have hzq : w6.heap.size ≤ wq.heap.size := Nat.le_trans hzr HB7.out.size
        cases pk with
        | false =>
          have HSt' : Hid ((F.take (m + 1)).foldl (jSt l1 l2 l3) (some []) = some o) := HSt.out
          clear HSt
          go_wp2
          go_roundw
          case rel => exact ⟨m + 1, o, by omega, by go_num, below_then HB.out HB7.out, own_step HO.out HB7.out, Nat.le_succ_of_le HOL.out, HSt'.out⟩
          case measure => simp [intOf]; omega
        | true =>
          have HSt' : Hid ((F.take (m + 1)).foldl (jSt l1 l2 l3) (some []) = some (o ++ [(f, pt)])) := HSt.out
          have OW1 : Hid (OwM w6.heap.size (wq.alloc (.cells #[.int .i64 f, .int .i64 pt] 72)) (.slice oa o.length oc) o) := own_step HO.out (below_then HB7.out (below_alloc _ _))
          have NC : Hid (_) := two_cell wq f pt
          clear HSt
          go_upto_region 11 with (first
            | (at_builtin; refine wpList_append_own _ rfl _ _ 42 rfl w6.heap.size 72 i1 (.agg #[.int .i64 0, .int .i64 0]) 2 16 Tryz.underlying42 hi1 hy0 hy1 hy2 rfl (by decide) _ _ _ rfl OW1.out ⟨wq.heap.size, 0, none⟩ 1 1 (mcells [(f, pt)]) rfl rfl NC.out (mcells_one _) (by unfold maxLen; omega) (by omega) (by simp; omega) ?_; intro v' w8 hown' hgrow _; obtain ⟨g', cap', rfl⟩ := ownsRow_succ hown')
            | go_in)
          have OW2 : Hid (OwM w6.heap.size w8 (.slice (some ⟨g', 0, none⟩) (o.length + 1) cap') (o ++ [(f, pt)])) := by
            show World.ownsRow _ _ _ _ _ _ _
            rw [List.length_append, mcells_app]
            exact hown'
          have HB8 : Hid (Below w6.heap.size w6 w8) := (below_then HB.out (below_then HB7.out (below_alloc wq (.cells #[.int .i64 f, .int .i64 pt] 72)))).grown (show (wq.alloc (.cells #[.int .i64 f, .int .i64 pt] 72)).grownBy w8 (Value.slice oa o.length oc).ownBlock from hgrow) (by rw [World.size_alloc]; omega) (fun k q => (World.ownsRow.lt OW1.out k q).1)
          clear hown' hgrow OW1 NC HO HB HB7
          go_wp2
          go_roundw
          case rel => exact ⟨m + 1, o ++ [(f, pt)], by omega, by go_num, HB8.out, OW2.out, by show _ ≤ _; rw [List.length_append]; have := HOL.out; simp; omega, HSt'.out⟩
          case measure => simp [intOf]; omega
    · have HE : Hid (J = some o) := by
        show _ = _
        rw [HJ.out, ← HJM.out, List.take_of_length_le (by omega)]
      have hol : o.length ≤ 200 := Nat.le_trans HOL.out (by omega)
      obtain ⟨oa, oc, rfl⟩ := gotM_form (owm_movs HO.out (by omega)).2
      clear HI HF HJM
      go_wp2
      go_ret2
      exact ⟨_, by rw [HE.out]; rfl, by rw [HE.out]; exact own_base HO.out HBW.out.size, below_then HBW.out HB.out⟩
end Go.Proofs.YtekminpoiokgfaaGreatDoor

/- Calendars in plain words: events, rising by their IDs; what a book's map then holds. -/
namespace Go.Proofs.YtekminpoiokgfaaGreatDoor
open Go Go.RowKit Go.Maps Go.Sort Cal

/-- an ID's bytes -/
def kb (E : EV) : List UInt8 := E.id.data.toList
theorem id_eq {a b : ByteArray} (h : a.data.toList = b.data.toList) : a = b := by
  cases a; cases b
  simpa [Array.toList_inj] using h
theorem kb_inj {E F : EV} (h : kb E = kb F) : E.id = F.id := id_eq h
def ltE (E F : EV) : Bool := Op.bytesLess E.id.toList F.id.toList
theorem ltE_eq (E F : EV) : ltE E F = decide (kb E < kb F) := by
  unfold ltE kb
  rw [bytesLess_eq, ByteArray.toList_eq, ByteArray.toList_eq]
theorem lt_of_not {x y : List UInt8} (h : ¬ x < y) (hne : y ≠ x) : y < x := by
  by_cases q : y < x
  · exact q
  · exact absurd (List.le_antisymm (List.not_lt.1 h) (List.not_lt.1 q)) hne

/-- E put in ahead of the first one that it stands ahead of -/
def insE (E : EV) : List EV → List EV
  | [] => [E]
  | F :: r => if ltE E F then E :: F :: r else F :: insE E r
def woC (id : ByteArray) (C : List EV) : List EV := C.filter fun F => decide (F.id ≠ id)
def putC (E : EV) (C : List EV) : List EV := insE E (woC E.id C)
/-- they rise -/
def Rises (C : List EV) : Prop := C.Pairwise fun a b => kb a < kb b

theorem insE_mem {E F : EV} : ∀ {C : List EV}, F ∈ insE E C ↔ F = E ∨ F ∈ C
  | [] => by simp [insE]
  | Y :: r => by
    unfold insE
    split
    · simp
    · rw [List.mem_cons, insE_mem, List.mem_cons]
      constructor
      · rintro (h | h | h)
        · exact .inr (.inl h)
        · exact .inl h
        · exact .inr (.inr h)
      · rintro (h | h | h)
        · exact .inr (.inl h)
        · exact .inl h
        · exact .inr (.inr h)
theorem insE_len (E : EV) : ∀ C : List EV, (insE E C).length = C.length + 1
  | [] => rfl
  | Y :: r => by
    unfold insE
    split
    · rfl
    · rw [List.length_cons, insE_len E r]; rfl
theorem insE_rises {E : EV} : ∀ {C : List EV}, Rises C → (∀ F ∈ C, F.id ≠ E.id) → Rises (insE E C)
  | [], _, _ => List.pairwise_singleton _ _
  | Y :: r, h, hn => by
    obtain ⟨h1, h2⟩ := List.pairwise_cons.1 h
    unfold insE
    split
    · rename_i hlt
      rw [ltE_eq, decide_eq_true_iff] at hlt
      refine List.pairwise_cons.2 ⟨fun F hF => ?_, h⟩
      rcases List.mem_cons.1 hF with rfl | hF
      · exact hlt
      · exact List.lt_trans hlt (h1 F hF)
    · rename_i hlt
      rw [ltE_eq, decide_eq_true_iff] at hlt
      have hYE : kb Y < kb E := lt_of_not hlt (fun q => hn Y (List.mem_cons_self) (kb_inj q))
      refine List.pairwise_cons.2 ⟨fun F hF => ?_, insE_rises h2 (fun F hF => hn F (List.mem_cons_of_mem _ hF))⟩
      rcases insE_mem.1 hF with rfl | hF
      · exact hYE
      · exact h1 F hF
theorem woC_mem {id : ByteArray} {C : List EV} {F : EV} : F ∈ woC id C ↔ F ∈ C ∧ F.id ≠ id := by
  unfold woC
  rw [List.mem_filter, decide_eq_true_iff]
theorem woC_rises {id : ByteArray} {C : List EV} (h : Rises C) : Rises (woC id C) := h.filter _
theorem putC_mem {E : EV} {C : List EV} {F : EV} : F ∈ putC E C ↔ F = E ∨ (F ∈ C ∧ F.id ≠ E.id) := by
  unfold putC
  rw [insE_mem, woC_mem]
theorem putC_rises {E : EV} {C : List EV} (h : Rises C) : Rises (putC E C) := insE_rises (woC_rises h) (fun _ hF => (woC_mem.1 hF).2)
theorem Rises.uniq {C : List EV} (h : Rises C) {E F : EV} (hE : E ∈ C) (hF : F ∈ C) (e : E.id = F.id) : E = F := by
  induction C with
  | nil => cases hE
  | cons Y r ih =>
    obtain ⟨h1, h2⟩ := List.pairwise_cons.1 h
    have hk : kb E = kb F := by unfold kb; rw [e]
    rcases List.mem_cons.1 hE with rfl | hE' <;> rcases List.mem_cons.1 hF with rfl | hF'
    · rfl
    · exact absurd (h1 F hF') (by rw [hk]; exact List.lt_irrefl _)
    · exact absurd (h1 E hE') (by rw [hk]; exact List.lt_irrefl _)
    · exact ih h2 hE' hF'
theorem woC_same {id : ByteArray} {C : List EV} (h : ∀ F ∈ C, F.id ≠ id) : woC id C = C := by
  unfold woC
  rw [List.filter_eq_self]
  exact fun F hF => decide_eq_true (h F hF)
theorem woC_len {E : EV} {C : List EV} (h : Rises C) (hE : E ∈ C) : (woC E.id C).length + 1 = C.length := by
  induction C with
  | nil => cases hE
  | cons Y r ih =>
    obtain ⟨h1, h2⟩ := List.pairwise_cons.1 h
    by_cases e : Y.id = E.id
    · have hr : woC E.id r = r := woC_same (fun F hF q => by
        have := h1 F hF
        unfold kb at this
        rw [e, q] at this
        exact List.lt_irrefl _ this)
      have : woC E.id (Y :: r) = woC E.id r := by unfold woC; rw [List.filter_cons_of_neg]; simp [e]
      rw [this, hr]; rfl
    · have hE' : E ∈ r := by
        rcases List.mem_cons.1 hE with rfl | q
        · exact absurd rfl e
        · exact q
      have : woC E.id (Y :: r) = Y :: woC E.id r := by unfold woC; rw [List.filter_cons_of_pos]; simp [e]
      rw [this, List.length_cons, ih h2 hE']; rfl

/-- what a book's map holds: an event of C for each ID, its lists off the blocks of N -/
structure Holds (N : Nat → Prop) (W : World) (D : DataW Value) (C : List EV) : Prop where
  up : Rises C
  tidy : Tidy D
  size : Maps.size D = C.length
  has : ∀ x : List UInt8, Maps.has D (.string x) = true ↔ ∃ E ∈ C, kb E = x
  at_ : ∀ E ∈ C, (EW E ∧ E.ds.length ≤ 20) ∧ ∃ sl skv mvv, D.atKey (key E.id) (.held zV) = .held (ev E sl skv mvv) ∧ Off N W E sl skv mvv
theorem Holds.none (N : Nat → Prop) (W : World) : Holds N W (.map []) [] :=
  ⟨List.Pairwise.nil, ⟨[], rfl, List.Pairwise.nil⟩, rfl, fun x => by simp [has_eq], fun E h => absurd h (by simp)⟩
end Go.Proofs.YtekminpoiokgfaaGreatDoor
