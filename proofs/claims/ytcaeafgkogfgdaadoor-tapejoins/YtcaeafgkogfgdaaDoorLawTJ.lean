/- The law TapeJoins: records of two tapes, one behind the other, where the first one is whole, are those of both. -/
import Derived.Test.YtcaeafgkogfgdaaDoorLawTC
import Derived.Laws.AppendOwnNone
namespace Go.Proofs.YtcaeafgkogfgdaaDoor
open Go Go.RowKit Go.Maps Cal Pk
attribute [local go_sem] Oper.semAt_some

theorem txr_cells {base : Nat} {W : World} {a : Addr} {n c : Nat} {Y : List (List UInt8)} (h : TxR base W (.slice (some a) n c) Y) : ∀ (j : Nat) (u : Value), (Y.map fun x => Value.string (bs x))[j]? = some u → W.cell? (a.add j) = some u := fun j u hu => by
  rcases h.2 with ⟨e, _⟩ | ⟨g, cap, cur, e, h1, h2, h3, h4, h5, h6⟩
  · cases e
  · cases e
    exact World.ownsRow.cells h rfl j u hu
/-- a row of texts appended to a row of one's own -/
theorem app_tx {ops : Array Oper} {rest : List Oper} {o : Oper} {a : Act} {Q : Exit → Act → World → Prop} {w : World} (hgd : o.guard = none) (s x : Operand)
    (ho : o.op = .call { callee := .builtin .append, args := #[s, x], argTypes := #[22, 22] })
    (base base2 : Nat) (X Y : List (List UInt8)) (v u : Value) (hs : a.eval s = v) (hown : TxR base w v X) (hx : a.eval x = u) (hg : TxR base2 w u Y) (hl : X.length + Y.length ≤ 100000) (hbase : base ≤ w.heap.size)
    (h : ∀ v' w', TxR base w' v' (X ++ Y) → w.grownBy w' v.ownBlock → wpList Tryd.prog ops Q rest (a.put o.dst v') w') : wpList Tryd.prog ops Q (o :: rest) a w := by
  obtain ⟨i0, hi, hz0, hz1, hz2⟩ := info_parts tx_info
  rcases hg.2 with ⟨rfl, h0⟩ | ⟨g, cap, cur, rfl, _⟩
  · obtain rfl : Y = [] := List.eq_nil_of_length_eq_zero h0
    refine wpList_append_own_none hgd s x 22 ho base 9 i0 1 Tryd.underlying22 hi v X.length (X.map fun x => Value.string (bs x)) hs hown hx ?_
    exact h v w (by rw [List.append_nil]; exact hown) ⟨rfl, rfl, rfl, Nat.le_refl _, fun _ _ _ => rfl⟩
  · refine wpList_append_own w hgd s x 22 ho base 9 i0 (.string ⟨#[]⟩) 1 16 Tryd.underlying22 hi hz0 hz1 hz2 rfl (by decide) v X.length (X.map fun x => Value.string (bs x)) hs hown ⟨g, 0, none⟩ Y.length cap (Y.map fun x => Value.string (bs x)) hx (by simp) (txr_cells hg) (fun v hv => by obtain ⟨x, _, rfl⟩ := List.mem_map.1 hv; rfl) (by unfold maxLen; omega) (by omega) hbase ?_
    intro v' w' h1 h2 _
    refine h v' w' ?_ h2
    unfold TxR
    rw [List.length_append, List.map_append]
    exact h1

theorem map_bs (l : List ByteArray) : (l.map fun s => s.data.toList).map bs = l := by
  rw [List.map_map]
  conv => rhs; rw [← List.map_id l]
  exact List.map_congr_left fun s _ => pl_ext (bs_data _)
/-- the disk with X on it -/
noncomputable def dkT (X : List (List UInt8)) : DK := ⟨tpT X, 0, false, false, 0⟩
theorem dkT_app (X : List (List UInt8)) (s : List UInt8) : (dkT X).app s = (true, dkT (X ++ [s])) := by
  unfold DK.app dkT DK.more
  simp [tpT_snoc]

set_option maxHeartbeats 4000000 in
set_option maxRecDepth 100000 in
theorem tapeJoins_all (xs : List ByteArray) (lv : Value) (b : ByteArray) (w : World) (g : GlobT w) (h : TxA w lv xs) :
    Calls Tryd.prog 4 #[lv, .string b] w fun r w' => r = .returned (.bool true) ∧ Below w.heap.size w w' := by
  have TP : Hid (Calls Tryd.prog 5 #[] w fun r w' => r = .returned (.bool true) ∧ Below w.heap.size w w') := taped_any w g
  have HTL : Hid (TxA w lv xs) := h
  obtain ⟨la, lc, rfl, hlc, hcell⟩ := h
  by_cases h20 : (20 : Int) < (xs.length : Int)
  · clear g hcell
    go_enter Tryd.func4, Tryd.ntmps4
    go_wp2_with (go_at_call 5; refine Calls.mono TP.out ?_; rintro r w1 ⟨rfl, hb1⟩)
    go_ret
    exact ⟨rfl, hb1⟩
  · have h20' : (xs.length : Int) ≤ 20 := by omega
    clear h20
    by_cases hcn : (500 : Int) < (b.size : Int)
    · clear g hcell
      go_enter Tryd.func4, Tryd.ntmps4
      go_wp2_with (go_at_call 5; refine Calls.mono TP.out ?_; rintro r w1 ⟨rfl, hb1⟩)
      go_ret
      exact ⟨rfl, hb1⟩
    · have hcn' : (b.size : Int) ≤ 500 := by omega
      clear hcn
      have HG : Hid (GlobT w) := g
      have HC : Hid (∀ (j : Nat) (h : j < xs.length), ∃ ad : Addr, la = some ad ∧ ad.block < w.heap.size ∧ w.cell? (ad.add j) = some (.string xs[j])) := hcell
      have ND : Hid (∀ W, Below w.heap.size w W → Calls Tryd.prog 6 #[.string ⟨#[]⟩] W fun r w' => ∃ bb, r = .returned (.tuple #[.pointer (some ⟨bb, 0, none⟩), .nilIface]) ∧ DkAt w.heap.size w' bb (dkT []) ∧ Below W.heap.size W w') := fun W hW => newDisk_any W w.heap.size ⟨#[]⟩ hW.size (by decide)
      clear g hcell
      go_enter Tryd.func4, Tryd.ntmps4
      go_upto_region 4 with (go_at_call 5; refine Calls.mono TP.out ?_; rintro r w1 ⟨rfl, hb1⟩)
      go_upto_region 5 with (go_at_call 6; refine Calls.mono (ND.out _ hb1) ?_; rintro r w2 ⟨bb, rfl, hd2, hb2⟩)
      have HD2 : Hid (DkAt w.heap.size w2 bb (dkT []) ∧ Below w.heap.size w w2) := ⟨hd2, below_then hb1 hb2⟩
      clear hb1 hb2 hd2 TP ND
      go_wp2
      go_loopw [8] (fun iv wr => ∃ (m : Nat), m ≤ xs.length ∧ iv = .int .i64 m ∧ Hid ((∀ t ∈ xs.take m, t.size ≤ 200) ∧ DkAt w.heap.size wr bb (dkT ((xs.take m).map fun s => s.data.toList)) ∧ Below w.heap.size w wr)) (fun iv _ => xs.length - (intOf iv).toNat)
      case atStart => exact ⟨0, Nat.zero_le _, rfl, fun t ht => (by simp at ht), HD2.out.1, HD2.out.2⟩
      case round =>
        obtain ⟨m, hm, rfl, HX⟩ := hrel
        obtain ⟨hz, hdk, hb⟩ := HX.out
        clear HX HD2
        have HDK : Hid (DkAt w.heap.size wr bb (dkT ((xs.take m).map fun s => s.data.toList))) := hdk
        have HB : Hid (Below w.heap.size w wr) := hb
        have HZ : Hid (∀ t ∈ xs.take m, t.size ≤ 200) := hz
        have HZ2 : Hid (∀ s ∈ (xs.take m).map (fun s => s.data.toList), s.length ≤ 200) := fun s hs => by
          obtain ⟨t, ht, rfl⟩ := List.mem_map.1 hs
          have := hz t ht
          rw [← Lib.size_eq]
          exact this
        clear hz hdk hb
        have htl := tpT_len _ HZ2.out
        rw [List.length_map, List.length_take] at htl
        by_cases hlt : m < xs.length
        · obtain ⟨ad, rfl, had, hcl⟩ := HC.out m hlt
          have g1 : (0 : Int) ≤ (m : Int) := by omega
          have g2 : (m : Int) < (xs.length : Int) := by omega
          have HCL : Hid (wr.cell? (ad.add m) = some (.string xs[m])) := (HB.out.cell (p := ad.add m) (by rw [addrT_block]; exact had)).trans hcl
          clear hcl had
          have hcl := HCL.out
          by_cases h200 : (200 : Int) < ((xs[m]).size : Int)
          · generalize xs[m] = sx at hcl h200
            go_wp2
            go_ret
            exact ⟨rfl, HB.out⟩
          · have h200' : ((xs[m]).size : Int) ≤ 200 := by omega
            clear h200
            have AP0 := append_any w.heap.size wr bb (dkT ((xs.take m).map fun s => s.data.toList)) xs[m] (GlobL.of HG.out HB.out) HDK.out ⟨fun _ => rfl, fun q => (by cases q), by show (tpT _).length ≤ _; omega⟩ (by omega)
            rw [dkT_app, show (xs.take m).map (fun s => s.data.toList) ++ [xs[m].data.toList] = (xs.take (m + 1)).map (fun s => s.data.toList) by rw [List.take_succ_eq_append_getElem hlt, List.map_append]; rfl] at AP0
            have AP : Hid (Calls Tryd.prog 8 #[.pointer (some ⟨bb, 0, none⟩), .string xs[m]] wr fun r w' => r = .returned .nilIface ∧ DkAt w.heap.size w' bb (dkT ((xs.take (m + 1)).map fun s => s.data.toList)) ∧ TKeep w.heap.size wr w') := by
              refine Calls.mono AP0 ?_
              rintro r w' ⟨v, rfl, hv, q⟩
              have : v = .nilIface := hv
              subst this
              exact ⟨rfl, q⟩
            have HZ3 : Hid (∀ t ∈ xs.take (m + 1), t.size ≤ 200) := fun t ht => by
              rw [List.take_succ_eq_append_getElem hlt] at ht
              rcases List.mem_append.1 ht with q | q
              · exact HZ.out t q
              · rw [List.mem_singleton.1 q]; omega
            clear AP0 HZ HZ2 htl
            generalize xs[m] = sx at AP hcl HCL h200'
            go_wp2_with (go_at_call 8; refine Calls.mono AP.out ?_; rintro r w4 ⟨rfl, hd4, hk4⟩)
            go_roundw
            case rel => exact ⟨m + 1, by omega, by go_num, HZ3.out, hd4, tl_belowT HB.out hk4.1⟩
            case measure => simp [intOf]; omega
        · have g2 : (xs.length : Int) ≤ (m : Int) := by omega
          have hmx : xs.take m = xs := List.take_of_length_le (by omega)
          rw [hmx] at HDK HZ2 htl
          have hz5 : ∀ s ∈ xs.map (fun s => s.data.toList), s.length ≤ 10000 := fun s hs => by have := HZ2.out s hs; omega
          have hbz : b.data.toList.length = b.size := (Lib.size_eq b).symm
          have m1 := rdT_whole _ hz5
          have m2 := rdT_tpT _ b.data.toList hz5
          have m3 := rdT_many b.data.toList
          have m4 := rdT_len b.data.toList
          have m5 : (tpT (xs.map fun s => s.data.toList)).length ≤ 5000 := by omega
          have m6 : (xs.map fun s => s.data.toList).map bs = xs := map_bs xs
          have m7 : (xs.map fun s => s.data.toList).length ≤ 20 := by rw [List.length_map]; omega
          clear hmx HZ htl HC HZ2 hz5
          generalize hXs : xs.map (fun s => s.data.toList) = X at *
          clear hXs
          have BY : Hid (∀ W, DkAt w.heap.size W bb (dkT X) → Calls Tryd.prog 13 #[.pointer (some ⟨bb, 0, none⟩)] W fun r w' => r = .returned (.string (bs (tpT X))) ∧ w' = W) := fun W hd => dkBytes_any w.heap.size W bb _ hd
          have hbs : (bs (tpT X)).size = (tpT X).length := by rw [Lib.size_eq, bs_data]
          have R1 : Hid (∀ W, Below w.heap.size w W → Calls Tryd.prog 12 #[.string (bs (tpT X))] W fun r w' => ∃ v, r = .returned (.tuple #[v, .int .i64 ((bs (tpT X)).size : Int)]) ∧ TxR w.heap.size w' v X ∧ Below W.heap.size W w') := fun W hW => by
            have := tpRead_any (tpT X) W (GlobL.of HG.out hW).at.q (by omega)
            rw [m1] at this
            refine Calls.mono this ?_
            rintro r w' ⟨v, rfl, q1, q2⟩
            exact ⟨v, by rw [hbs]; simp, World.ownsRow.mono q1 hW.size, q2⟩
          obtain ⟨nb, hnb⟩ : ∃ n : Int, n = (b.data.toList.length : Int) - ((rdT b.data.toList).2.length : Int) := ⟨_, rfl⟩
          have R2 : Hid (∀ W, Below w.heap.size w W → Calls Tryd.prog 12 #[.string b] W fun r w' => ∃ v, r = .returned (.tuple #[v, .int .i64 nb]) ∧ TxR w.heap.size w' v (rdT b.data.toList).1 ∧ Below W.heap.size W w') := fun W hW => by
            have := tpRead_any b.data.toList W (GlobL.of HG.out hW).at.q (by omega)
            rw [show bs b.data.toList = b from pl_ext (bs_data _), ← hnb] at this
            refine Calls.mono this ?_
            rintro r w' ⟨v, rfl, q1, q2⟩
            exact ⟨v, rfl, World.ownsRow.mono q1 hW.size, q2⟩
          have hcat : bs (tpT X ++ b.data.toList) = bs (tpT X) ++ b := pl_ext (by simp [bs_data])
          have R3 : Hid (∀ W, Below w.heap.size w W → Calls Tryd.prog 12 #[.string (bs (tpT X) ++ b)] W fun r w' => ∃ v, r = .returned (.tuple #[v, .int .i64 (((bs (tpT X)).size : Int) + nb)]) ∧ TxR w.heap.size w' v (X ++ (rdT b.data.toList).1) ∧ Below W.heap.size W w') := fun W hW => by
            have := tpRead_any (tpT X ++ b.data.toList) W (GlobL.of HG.out hW).at.q (by rw [List.length_append]; omega)
            rw [m2, hcat] at this
            refine Calls.mono this ?_
            rintro r w' ⟨v, rfl, q1, q2⟩
            refine ⟨v, ?_, World.ownsRow.mono q1 hW.size, q2⟩
            have ee : (((tpT X).length + b.data.toList.length : Nat) : Int) - ((rdT b.data.toList).2.length : Int) = ((tpT X).length : Int) + ((b.data.toList.length : Int) - ((rdT b.data.toList).2.length : Int)) := by omega
            rw [hbs, hnb, List.length_append, ee]
          have hnb0 : 0 ≤ nb ∧ nb ≤ 500 := by omega
          have hwr : IntKind.i64.wrap (((bs (tpT X)).size : Int) + nb) = ((bs (tpT X)).size : Int) + nb := by rw [IntKind.wrap_i64]; omega
          have hct : ¬ 9223372036854775807 < (bs (tpT X)).size + b.size := by omega
          have hY : (rdT b.data.toList).1.length ≤ 500 := by omega
          have HTL2 : Hid (∀ W, Below w.heap.size w W → TxA W (.slice la xs.length lc) (X.map bs)) := fun W hW => by rw [m6]; exact TxA.step HTL.out hW
          clear m1 m2 m3 m4 m5 m6 hcat hnb hbz hnb0 hbs HTL
          generalize (rdT b.data.toList).1 = Y at R2 R3 hY
          generalize bs (tpT X) = sb at *
          have HBY : Hid (∀ W, DkAt w.heap.size W bb (dkT X) → Calls Tryd.prog 13 #[.pointer (some ⟨bb, 0, none⟩)] W fun r w' => r = .returned (.string sb) ∧ w' = W) := BY
          clear BY
          go_upto_region 15 with (first
            | (go_at_call 13; refine Calls.mono (HBY.out _ HDK.out) ?_; rintro r w4 ⟨rfl, rfl⟩)
            | (go_at_call 12; refine Calls.mono (R1.out _ HB.out) ?_; rintro r w5 ⟨vx, rfl, ht5, hb5⟩))
          obtain ⟨xa, xc, rfl⟩ := TxR.form ht5
          have HT5 : Hid (TxR w.heap.size w5 (.slice xa X.length xc) X) := ht5
          have HB5 : Hid (Below w.heap.size w w5) := below_then HB.out hb5
          have HD5 : Hid (DkAt w.heap.size w5 bb (dkT X)) := DkAt.step HDK.out hb5
          clear ht5 hb5 HDK HB R1
          go_upto_region 16 with (go_at_call 12; refine Calls.mono (R2.out _ HB5.out) ?_; rintro r w6 ⟨vy, rfl, ht6, hb6⟩)
          obtain ⟨ya, yc, rfl⟩ := TxR.form ht6
          have HT6 : Hid (TxR w.heap.size w6 (.slice xa X.length xc) X ∧ TxR w.heap.size w6 (.slice ya Y.length yc) Y) := ⟨TxR.step HT5.out hb6, ht6⟩
          have HB6 : Hid (Below w.heap.size w w6) := below_then HB5.out hb6
          have HD6 : Hid (DkAt w.heap.size w6 bb (dkT X)) := DkAt.step HD5.out hb6
          clear ht6 hb6 HT5 HB5 HD5 R2
          go_upto_region 18 with (first
            | (go_at_call 13; refine Calls.mono (HBY.out _ HD6.out) ?_; rintro r w7 ⟨rfl, rfl⟩)
            | (go_at_call 12; refine Calls.mono (R3.out _ HB6.out) ?_; rintro r w8 ⟨vz, rfl, ht8, hb8⟩))
          obtain ⟨za, zc, hvz⟩ := TxR.form ht8
          rw [List.length_append] at hvz
          subst hvz
          have HT8 : Hid (TxR w.heap.size w8 (.slice xa X.length xc) X ∧ TxR w.heap.size w8 (.slice ya Y.length yc) Y ∧ TxR w.heap.size w8 (.slice za (X.length + Y.length) zc) (X ++ Y)) := ⟨TxR.step HT6.out.1 hb8, TxR.step HT6.out.2 hb8, ht8⟩
          have HB8 : Hid (Below w.heap.size w w8) := below_then HB6.out hb8
          have HD8 : Hid (DkAt w.heap.size w8 bb (dkT X)) := DkAt.step HD6.out hb8
          clear ht8 hb8 HT6 HB6 HD6 R3
          have HL8 : Hid (TxR w8.heap.size w8 (.slice none 0 0) []) := World.ownsRow_nil _ _ _ _
          go_upto_region 19 with (at_builtin; refine app_tx (by rfl) _ _ (by rfl) w8.heap.size w.heap.size [] X (.slice none 0 0) (.slice xa X.length xc) (by rfl) HL8.out (by rfl) HT8.out.1 (by simp; omega) (Nat.le_refl _) ?_; intro v9 w9 ht9 hg9; have HT9 : Hid (TxR w8.heap.size w9 v9 X) := ht9; have HB9 : Hid (Below w8.heap.size w8 w9) := ⟨hg9.os, hg9.tape, hg9.output, hg9.size, fun i hi => hg9.block i hi (fun q => by cases q)⟩; clear ht9 hg9)
          obtain ⟨va, vc, rfl⟩ := TxR.form HT9.out
          have HY9 : Hid (TxR w.heap.size w9 (.slice ya Y.length yc) Y) := TxR.step HT8.out.2.1 HB9.out
          have HS9 : Hid (w8.heap.size ≤ w9.heap.size) := HB9.out.size
          go_upto_region 20 with (at_builtin; refine app_tx (by rfl) _ _ (by rfl) w8.heap.size w.heap.size X Y (.slice va X.length vc) (.slice ya Y.length yc) (by rfl) HT9.out (by rfl) HY9.out (by omega) HS9.out ?_; intro v10 w10 ht10 hg10; have HT10 : Hid (TxR w8.heap.size w10 v10 (X ++ Y)) := ht10; have HB10 : Hid (Below w8.heap.size w8 w10) := tl_belowT HB9.out ⟨hg10.os, hg10.tape, hg10.output, hg10.size, fun i hi => hg10.block i (Nat.lt_of_lt_of_le hi HS9.out) (fun q => by have := (World.ownsRow.lt HT9.out i q.symm).1; omega)⟩; clear ht10 hg10)
          obtain ⟨oa, oc, hvo⟩ := TxR.form HT10.out
          rw [List.length_append] at hvo
          subst hvo
          have HBA : Hid (Below w.heap.size w w10) := below_then HB8.out HB10.out
          have HD10 : Hid (DkAt w.heap.size w10 bb (dkT X)) := DkAt.step HD8.out HB10.out
          have S1 : Hid (Calls Tryd.prog 10 #[.slice xa X.length xc, .slice la xs.length lc] w10 fun e w' => e = .returned (.bool true) ∧ Below w10.heap.size w10 w') := sameTx_eq (TxR.all (TxR.step HT8.out.1 HB10.out)) (HTL2.out w10 HBA.out) (by rw [List.length_map]; omega)
          have S2 : Hid (∀ W, Below w10.heap.size w10 W → Calls Tryd.prog 10 #[.slice za (X.length + Y.length) zc, .slice oa (X.length + Y.length) oc] W fun e w' => e = .returned (.bool true) ∧ Below W.heap.size W w') := fun W hW => sameTx_eq (TxR.all (TxR.step (TxR.step HT8.out.2.2 HB10.out) hW)) (TxR.all (TxR.step HT10.out hW)) (by rw [List.length_map, List.length_append]; omega)
          clear HT8 HB8 HD8 HT9 HB9 HY9 HS9 HT10 HB10 HTL2
          go_wp2_with (first
            | (go_at_call 13; refine Calls.mono (HBY.out _ (DkAt.step HD10.out hb11)) ?_; rintro r w12 ⟨rfl, rfl⟩)
            | (go_at_call_of 10 (Value.slice xa X.length xc); refine Calls.mono S1.out ?_; rintro r w11 ⟨rfl, hb11⟩)
            | (go_at_call_of 10 (Value.slice za (X.length + Y.length) zc); refine Calls.mono (S2.out _ hb11) ?_; rintro r w13 ⟨rfl, hb13⟩))
          go_ret
          exact ⟨by simp, below_then HBA.out (below_then hb11 hb13)⟩
end Go.Proofs.YtcaeafgkogfgdaaDoor
