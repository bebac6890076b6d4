/- The document's ReadPool. -/
import Derived.Test.YtifbhedomcgonaaGreatDoorPlY
import Derived.BigRegion
namespace Go.Proofs.YtifbhedomcgonaaGreatDoor
open Go Go.RowKit Go.Maps Cal
attribute [local go_sem] Oper.semAt_some

/-- an error's number, as the document has it -/
def mcd (k : Nat) : Int := if k = 1 then 1 else if k = 2 then 2 else if k = 3 then 6 else 7
/-- what ReadPool answers -/
def MReadIs (w : World) (s : ByteArray) (r : Ending) (w' : World) : Prop :=
  (∃ ts lo qb mv, rd [] s.data.toList = (some ts, 0, 0) ∧ r = .returned (.tuple #[.pointer (some ⟨qb, 0, none⟩), .agg #[.int .i64 0, .int .i64 (-1)]]) ∧ MPl lo w' qb mv ts ∧ w.heap.size ≤ qb) ∨
  (∃ k n : Nat, rd [] s.data.toList = (none, k, n) ∧ 1 ≤ k ∧ k ≤ 4 ∧ r = .returned (.tuple #[.pointer none, .agg #[.int .i64 (mcd k), .int .i64 n]]))
theorem blk2 {W : World} {n : Nat} {v0 v1 : Value} {t : TypeId} (h : W.heap[n]? = some (.cells #[v0, v1] t (0, 0))) : W.cell? ⟨n, 0, none⟩ = some v0 ∧ W.cell? ⟨n, 1, none⟩ = some v1 ∧ W.frozen? ⟨n, 0, none⟩ = false ∧ W.frozen? ⟨n, 1, none⟩ = false := by
  refine ⟨?_, ?_, ?_, ?_⟩ <;> simp [World.cell?, World.frozen?, h]
/-- two cells written -/
def put2 (W : World) (B : Nat) (v0 v1 : Value) : World := (W.setCell ⟨B, 0, none⟩ v0).setCell ⟨B, 1, none⟩ v1
theorem put2_blk {W : World} {B : Nat} {u0 u1 : Value} {t : TypeId} (v0 v1 : Value) (h : W.heap[B]? = some (.cells #[u0, u1] t (0, 0))) : (put2 W B v0 v1).heap[B]? = some (.cells #[v0, v1] t (0, 0)) := set_block (i := 1) v1 (set_block (i := 0) v0 h)
theorem put2_grown (W : World) (B : Nat) (v0 v1 : Value) : W.grownBy (put2 W B v0 v1) (some B) := grown_then (grown_set W ⟨B, 0, none⟩ v0) (grown_set _ ⟨B, 1, none⟩ v1)
theorem put2_fold (W : World) (B : Nat) (v0 v1 : Value) : ((W.setCell ⟨B, 0, none⟩ v0).setCell ⟨B, 1, none⟩ v1) = put2 W B v0 v1 := rfl
set_option maxRecDepth 100000 in
theorem fine_any (w : World) : Calls Tryz.prog 32 #[] w fun r w' => r = .returned (.agg #[.int .i64 0, .int .i64 (-1)]) ∧ Below w.heap.size w w' := by
  go_enter Tryz.func32, Tryz.ntmps32
  go_wp2
  obtain ⟨c0, c1, _, _⟩ := blk2 (block_at (W := w) (.cells #[.int .i64 0, .int .i64 (-1)] 46) rfl)
  refine bodyPost_ret (v := .agg #[.int .i64 0, .int .i64 (-1)]) (by simp [results, Tryz.f32, go_sem, c0, c1]) rfl ⟨rfl, below_alloc _ _⟩

set_option maxHeartbeats 4000000 in
set_option maxRecDepth 100000 in
theorem mread_any (s : ByteArray) (w : World) (hl : s.size ≤ 3000) :
    Calls Tryz.prog 17 #[.string s] w fun r w' => MReadIs w s r w' ∧ Below w.heap.size w w' := by
  have hl' : (s.size : Int) ≤ 1048576 := by omega
  go_enter Tryz.func17, Tryz.ntmps17
  go_upto_region 4 with (fail)
  have K0 : Hid (((w.alloc (.cells #[.int .i64 0, .int .i64 0] 46)).alloc (.cells #[.slice none 0 0] 28)).heap[w.heap.size]? = some (.cells #[.int .i64 0, .int .i64 0] 46 (0, 0))) := block_alloc _ (block_at _ rfl)
  have M0 : Hid (MPl (w.heap.size + 2) ((w.alloc (.cells #[.int .i64 0, .int .i64 0] 46)).alloc (.cells #[.slice none 0 0] 28)) (w.heap.size + 1) (.slice none 0 0) []) := ⟨by omega, by simp [World.size_alloc], block_at _ (World.size_alloc _ _), World.ownsRow_nil _ _ _ _⟩
  have B0 : Hid (Below w.heap.size w ((w.alloc (.cells #[.int .i64 0, .int .i64 0] 46)).alloc (.cells #[.slice none 0 0] 28))) := below_then (below_alloc _ _) (below_alloc _ _)
  generalize (w.alloc (.cells #[.int .i64 0, .int .i64 0] 46)).alloc (.cells #[.slice none 0 0] 28) = w0 at K0 M0 B0 ⊢
  go_loopw [0, 5, 6, 7] (fun sv _ _ _ wr => ∃ (s' : ByteArray), sv = .string s' ∧ s'.size ≤ 3000 ∧ Hid (∃ ts mv, MPl (w.heap.size + 2) wr (w.heap.size + 1) mv ts ∧ rd ts s'.data.toList = rd [] s.data.toList ∧ Below w.heap.size w wr ∧ ts.length ≤ 1000 ∧ wr.heap[w.heap.size]? = some (.cells #[.int .i64 0, .int .i64 0] 46 (0, 0)))) (fun sv _ _ _ _ => strLen sv)
  case atStart => exact ⟨s, rfl, hl, [], _, M0.out, rfl, B0.out, by simp, K0.out⟩
  case round =>
    obtain ⟨s', rfl, hs3, HX⟩ := hrel
    obtain ⟨ts, mv, hp, hr, hb, hn, hk⟩ := HX.out
    clear HX
    have hbw : w.heap.size < wr.heap.size := (Array.getElem?_eq_some_iff.1 hk).1
    have HB : Hid (Below w.heap.size w wr) := hb
    have HP : Hid (MPl (w.heap.size + 2) wr (w.heap.size + 1) mv ts) := hp
    have HK : Hid (wr.heap[w.heap.size]? = some (.cells #[.int .i64 0, .int .i64 0] 46 (0, 0))) := hk
    have HN : Hid (ts.length ≤ 1000) := hn
    by_cases hs0 : s'.size = 0
    · have hd : s'.data.toList = [] := List.length_eq_zero_iff.1 ((Lib.size_eq s').symm.trans hs0)
      have HR2 : Hid (rd [] s.data.toList = (some ts, 0, 0)) := by
        show _ = _
        rw [← hr, hd]; rfl
      have hsi : (s'.size : Int) ≤ 0 := by omega
      have HF : Hid (_) := fine_any wr
      clear hr hd hp hb hk hn
      go_wp2_with (go_at_call 32; refine Calls.mono HF.out ?_; rintro r w5 ⟨rfl, hb5⟩; have hk5 : w5.heap[w.heap.size]? = some (.cells #[.int .i64 0, .int .i64 0] 46 (0, 0)) := (hb5.block _ hbw).trans HK.out; obtain ⟨z0, z1, z2, z3⟩ := blk2 hk5)
      rw [put2_fold]
      have c9 := put2_blk (.int .i64 0) (.int .i64 (-1)) hk5
      have g9 := put2_grown w5 w.heap.size (.int .i64 0) (.int .i64 (-1))
      clear z0 z1 z2 z3
      generalize put2 w5 w.heap.size (.int .i64 0) (.int .i64 (-1)) = w9 at c9 g9 ⊢
      obtain ⟨d0, d1, _, _⟩ := blk2 c9
      have BB := below_then HB.out hb5
      refine bodyPost_ret (v := .tuple #[.pointer (some ⟨w.heap.size + 1, 0, none⟩), .agg #[.int .i64 0, .int .i64 (-1)]]) (by simp [results, Tryz.f17, go_sem, d0, d1]) rfl ⟨.inl ⟨ts, _, _, mv, HR2.out, rfl, MPl.far (HP.out.step hb5) g9.size (fun k hk hh => g9.block k hk (fun q => ?_)), by omega⟩, BB.grown g9 BB.size (fun k q => by cases q; exact Nat.le_refl _)⟩
      have q' : k = w.heap.size := Option.some.inj q
      rcases hh with e | e
      · omega
      · have := (World.ownsRow.lt HP.out.row k e).1
        omega
    · have hsi : (0 : Int) < (s'.size : Int) := by omega
      have hne : s'.data.toList ≠ [] := fun q => hs0 (by rw [Lib.size_eq, q]; rfl)
      have hrs := rd_step ts hne
      rw [hr] at hrs
      have HD : Hid (Calls _ _ _ _ _) := head_any s' wr (by omega)
      have x0 := hp.cell
      obtain ⟨ma, mc, rfl, _⟩ := hp.form
      have hsl : s'.data.toList.length = s'.size := (Lib.size_eq s').symm
      obtain ⟨z0, z1, z2, z3⟩ := blk2 hk
      have HRS : Hid (rd [] s.data.toList = if (cutK s'.data.toList).1 ≠ 0 then (none, (cutK s'.data.toList).1, ts.length) else if memB (bs (cutK s'.data.toList).2.1) ts = true then (none, 3, ts.length) else if 1000 ≤ ts.length then (none, 4, ts.length) else rd (ts ++ [bs (cutK s'.data.toList).2.1]) (cutK s'.data.toList).2.2) := hrs
      have HER : Hid (∀ k, (cutK s'.data.toList).1 = k → k ≠ 0 → rd [] s.data.toList = (none, k, ts.length)) := fun k h1 h2 => by rw [HRS.out, h1, if_pos h2]
      clear hr hrs hp hb hk hn
      by_cases hi : Lib.indexByte s'.data.toList 58 < 0
      · have hck : (cutK s'.data.toList).1 = 1 := by unfold cutK; rw [if_pos hi]
        have RDE : Hid (rd [] s.data.toList = (none, 1, ts.length)) := HER.out 1 hck (by decide)
        have HD1 : Hid (Calls Tryz.prog 30 #[.string s', .int .u8 58] wr fun r w' => r = .returned (.tuple #[.int .i64 (-1), .int .i64 0]) ∧ w' = wr) := by
          refine Calls.mono HD.out ?_
          rintro r w' ⟨q1, q2 | ⟨i, q2, _⟩⟩
          · exact ⟨q2.2, q1⟩
          · rw [q2] at hi; omega
        clear HD hi hck HRS HER hne hsl
        go_upto_region 16 with (go_at_call 30; refine Calls.mono HD1.out ?_; rintro r w' ⟨rfl, hq⟩; have hq := hq.symm; subst hq)
        go_wp2
        go_region
        go_wp2
        rw [put2_fold]
        have c9 : (put2 wr w.heap.size (.int .i64 1) (.int .i64 (ts.length : Int))).drew.heap[w.heap.size]? = some (.cells #[.int .i64 1, .int .i64 (ts.length : Int)] 46 (0, 0)) := put2_blk (.int .i64 1) (.int .i64 (ts.length : Int)) HK.out
        have g9 : wr.grownBy (put2 wr w.heap.size (.int .i64 1) (.int .i64 (ts.length : Int))).drew (some w.heap.size) := by have q := put2_grown wr w.heap.size (.int .i64 1) (.int .i64 (ts.length : Int)); exact ⟨q.os, q.tape, q.output, q.size, q.block⟩
        clear z0 z1 z2 z3
        generalize (put2 wr w.heap.size (.int .i64 1) (.int .i64 (ts.length : Int))).drew = w9 at c9 g9 ⊢
        obtain ⟨d0, d1, _, _⟩ := blk2 c9
        refine bodyPost_ret (v := .tuple #[.pointer none, .agg #[.int .i64 1, .int .i64 (ts.length : Int)]]) (by simp [results, Tryz.f17, go_sem, d0, d1]) rfl ⟨.inr ⟨1, ts.length, RDE.out, by omega, by omega, rfl⟩, HB.out.grown g9 HB.out.size (fun k q => by cases q; exact Nat.le_refl _)⟩
      · obtain ⟨i, hi'⟩ : ∃ i : Nat, Lib.indexByte s'.data.toList 58 = i := ⟨(Lib.indexByte s'.data.toList 58).toNat, by omega⟩
        have hilt : i < s'.size := by
          have := (List.getElem?_eq_some_iff.1 (Lib.indexByte_some hi').1).1
          omega
        have HD1 : Hid (Calls Tryz.prog 30 #[.string s', .int .u8 58] wr fun r w' => r = .returned (.tuple #[.int .i64 (numD (s'.data.toList.take i)), .int .i64 ((i : Int) + 1)]) ∧ w' = wr) := by
          refine Calls.mono HD.out ?_
          rintro r w' ⟨q1, q2 | ⟨j, q2, _, q3⟩⟩
          · rw [hi'] at q2; omega
          · rw [hi'] at q2
            have : i = j := by omega
            subst this
            exact ⟨q3, q1⟩
        have HCK : Hid (cutK s'.data.toList = match numOf (s'.data.toList.take i) with
          | none => (1, [], [])
          | some n => if 10000 < n then (2, [], []) else if ((s'.data.toList.drop (i + 1)).length : Int) < n then (1, [], []) else if (s'.data.toList.drop (i + 1))[n.toNat]? = some 10 then (0, (s'.data.toList.drop (i + 1)).take n.toNat, (s'.data.toList.drop (i + 1)).drop (n.toNat + 1)) else (1, [], [])) := by
          show _ = _
          unfold cutK
          rw [if_neg hi, hi']
          rfl
        clear HD hi hi' hne
        cases hno : numOf (s'.data.toList.take i) with
        | none =>
          have hck : (cutK s'.data.toList).1 = 1 := by rw [HCK.out, hno]
          have RDE : Hid (rd [] s.data.toList = (none, 1, ts.length)) := HER.out 1 hck (by decide)
          have hnd : numD (s'.data.toList.take i) = -1 := by unfold numD; rw [hno]
          rw [hnd] at HD1
          clear hck hnd hno HRS HER HCK hsl
          go_upto_region 16 with (go_at_call 30; refine Calls.mono HD1.out ?_; rintro r w' ⟨rfl, hq⟩; have hq := hq.symm; subst hq)
          go_wp2
          go_region
          go_wp2
          rw [put2_fold]
          have c9 : (put2 wr w.heap.size (.int .i64 1) (.int .i64 (ts.length : Int))).drew.heap[w.heap.size]? = some (.cells #[.int .i64 1, .int .i64 (ts.length : Int)] 46 (0, 0)) := put2_blk (.int .i64 1) (.int .i64 (ts.length : Int)) HK.out
          have g9 : wr.grownBy (put2 wr w.heap.size (.int .i64 1) (.int .i64 (ts.length : Int))).drew (some w.heap.size) := by have q := put2_grown wr w.heap.size (.int .i64 1) (.int .i64 (ts.length : Int)); exact ⟨q.os, q.tape, q.output, q.size, q.block⟩
          clear z0 z1 z2 z3
          generalize (put2 wr w.heap.size (.int .i64 1) (.int .i64 (ts.length : Int))).drew = w9 at c9 g9 ⊢
          obtain ⟨d0, d1, _, _⟩ := blk2 c9
          refine bodyPost_ret (v := .tuple #[.pointer none, .agg #[.int .i64 1, .int .i64 (ts.length : Int)]]) (by simp [results, Tryz.f17, go_sem, d0, d1]) rfl ⟨.inr ⟨1, ts.length, RDE.out, by omega, by omega, rfl⟩, HB.out.grown g9 HB.out.size (fun k q => by cases q; exact Nat.le_refl _)⟩
        | some n =>
          obtain ⟨_, _, hn0, _⟩ := numOf_some hno
          obtain ⟨m, rfl⟩ : ∃ m : Nat, n = m := ⟨n.toNat, by omega⟩
          have hnd : numD (s'.data.toList.take i) = m := by unfold numD; rw [hno]
          rw [hnd] at HD1
          have HCK2 : Hid (cutK s'.data.toList = if 10000 < (m : Int) then (2, [], []) else if ((s'.data.toList.drop (i + 1)).length : Int) < m then (1, [], []) else if (s'.data.toList.drop (i + 1))[m]? = some 10 then (0, (s'.data.toList.drop (i + 1)).take m, (s'.data.toList.drop (i + 1)).drop (m + 1)) else (1, [], [])) := by
            show _ = _
            rw [HCK.out, hno]
            rfl
          have hdl : (s'.data.toList.drop (i + 1)).length = s'.size - (i + 1) := by rw [List.length_drop, hsl]
          clear hno hnd hn0 HCK
          by_cases h1 : (10000 : Int) < (m : Int)
          · have hck : (cutK s'.data.toList).1 = 2 := by rw [HCK2.out, if_pos h1]
            have RDE : Hid (rd [] s.data.toList = (none, 2, ts.length)) := HER.out 2 hck (by decide)
            clear hck HRS HER HCK2 hsl hdl
            go_upto_region 16 with (go_at_call 30; refine Calls.mono HD1.out ?_; rintro r w' ⟨rfl, hq⟩; have hq := hq.symm; subst hq)
            go_wp2
            go_region
            go_wp2
            rw [put2_fold]
            have c9 : (put2 wr w.heap.size (.int .i64 2) (.int .i64 (ts.length : Int))).drew.heap[w.heap.size]? = some (.cells #[.int .i64 2, .int .i64 (ts.length : Int)] 46 (0, 0)) := put2_blk (.int .i64 2) (.int .i64 (ts.length : Int)) HK.out
            have g9 : wr.grownBy (put2 wr w.heap.size (.int .i64 2) (.int .i64 (ts.length : Int))).drew (some w.heap.size) := by have q := put2_grown wr w.heap.size (.int .i64 2) (.int .i64 (ts.length : Int)); exact ⟨q.os, q.tape, q.output, q.size, q.block⟩
            clear z0 z1 z2 z3
            generalize (put2 wr w.heap.size (.int .i64 2) (.int .i64 (ts.length : Int))).drew = w9 at c9 g9 ⊢
            obtain ⟨d0, d1, _, _⟩ := blk2 c9
            refine bodyPost_ret (v := .tuple #[.pointer none, .agg #[.int .i64 2, .int .i64 (ts.length : Int)]]) (by simp [results, Tryz.f17, go_sem, d0, d1]) rfl ⟨.inr ⟨2, ts.length, RDE.out, by omega, by omega, rfl⟩, HB.out.grown g9 HB.out.size (fun k q => by cases q; exact Nat.le_refl _)⟩
          · by_cases h2 : (s'.size : Int) - ((i : Int) + 1) ≤ (m : Int)
            · have hck : (cutK s'.data.toList).1 = 1 := by
                rw [HCK2.out, if_neg h1]
                by_cases h3 : ((s'.data.toList.drop (i + 1)).length : Int) < m
                · rw [if_pos h3]
                · rw [if_neg h3, if_neg (by rw [List.getElem?_eq_none (by omega)]; intro q; cases q)]
              have RDE : Hid (rd [] s.data.toList = (none, 1, ts.length)) := HER.out 1 hck (by decide)
              clear hck HRS HER HCK2 hsl hdl
              go_upto_region 16 with (go_at_call 30; refine Calls.mono HD1.out ?_; rintro r w' ⟨rfl, hq⟩; have hq := hq.symm; subst hq)
              go_wp2
              go_region
              go_wp2
              rw [put2_fold]
              have c9 : (put2 wr w.heap.size (.int .i64 1) (.int .i64 (ts.length : Int))).drew.heap[w.heap.size]? = some (.cells #[.int .i64 1, .int .i64 (ts.length : Int)] 46 (0, 0)) := put2_blk (.int .i64 1) (.int .i64 (ts.length : Int)) HK.out
              have g9 : wr.grownBy (put2 wr w.heap.size (.int .i64 1) (.int .i64 (ts.length : Int))).drew (some w.heap.size) := by have q := put2_grown wr w.heap.size (.int .i64 1) (.int .i64 (ts.length : Int)); exact ⟨q.os, q.tape, q.output, q.size, q.block⟩
              clear z0 z1 z2 z3
              generalize (put2 wr w.heap.size (.int .i64 1) (.int .i64 (ts.length : Int))).drew = w9 at c9 g9 ⊢
              obtain ⟨d0, d1, _, _⟩ := blk2 c9
              refine bodyPost_ret (v := .tuple #[.pointer none, .agg #[.int .i64 1, .int .i64 (ts.length : Int)]]) (by simp [results, Tryz.f17, go_sem, d0, d1]) rfl ⟨.inr ⟨1, ts.length, RDE.out, by omega, by omega, rfl⟩, HB.out.grown g9 HB.out.size (fun k q => by cases q; exact Nat.le_refl _)⟩
            · have hlt : i + 1 + m < s'.size := by omega
              have hgd : (s'.data.toList.drop (i + 1))[m]? = some s'[i + 1 + m] := by rw [List.getElem?_drop]; exact Lib.data_getElem? s' _ hlt
              by_cases h4 : s'[i + 1 + m] = 10
              · have hc0 : cutK s'.data.toList = (0, (s'.data.toList.drop (i + 1)).take m, (s'.data.toList.drop (i + 1)).drop (m + 1)) := by
                  rw [HCK2.out, if_neg h1, if_neg (by omega), if_pos (by rw [hgd, h4])]
                have h4' : (s'[i + 1 + m].toNat : Int) = 10 := by rw [h4]; rfl
                have e1 : s'.extract (i + 1) (i + 1 + m) = bs ((s'.data.toList.drop (i + 1)).take m) := pl_ext (by
                  rw [bs_data, ByteArray.data_extract, Array.toList_extract, List.extract_eq_take_drop]
                  congr 1
                  omega)
                have e2 : s'.extract (i + 1 + m + 1) s'.size = bs ((s'.data.toList.drop (i + 1)).drop (m + 1)) := pl_ext (by
                  rw [Lib.extract_to_end, bs_data, List.drop_drop]
                  congr 1)
                have hxs : (bs ((s'.data.toList.drop (i + 1)).take m)).size ≤ 10000 := by
                  rw [Lib.size_eq, bs_data, List.length_take]; omega
                have hys : (bs ((s'.data.toList.drop (i + 1)).drop (m + 1))).size < s'.size := by
                  rw [Lib.size_eq, bs_data, List.length_drop, hdl]; omega
                have FR : Hid (Calls _ _ _ _ _) := mfresh_pl (w.heap.size + 2) (w.heap.size + 1) _ ts (bs ((s'.data.toList.drop (i + 1)).take m)) wr HP.out HN.out hxs
                have HRS2 : Hid (rd [] s.data.toList = if memB (bs ((s'.data.toList.drop (i + 1)).take m)) ts = true then (none, 3, ts.length) else if 1000 ≤ ts.length then (none, 4, ts.length) else rd (ts ++ [bs ((s'.data.toList.drop (i + 1)).take m)]) (bs ((s'.data.toList.drop (i + 1)).drop (m + 1))).data.toList) := by
                  show _ = _
                  rw [HRS.out, hc0, if_neg (fun q => q rfl), bs_data]
                rw [← e1] at FR HRS2
                have E2 : Hid (_) := e2
                clear hc0 HRS HER HCK2 hsl hdl hgd h4 e1 hxs e2
                generalize bs ((s'.data.toList.drop (i + 1)).drop (m + 1)) = y at HRS2 hys E2
                go_upto_region 16 with (first
                  | (go_at_call 30; refine Calls.mono HD1.out ?_; rintro r w' ⟨rfl, hq⟩; have hq := hq.symm; subst hq)
                  | (go_at_call 31; refine Calls.mono FR.out ?_; rintro r w' (⟨k1, rfl, hq⟩ | ⟨k1, k3, rfl, hq⟩ | ⟨k1, k3, rfl, mv', k2, k4, k5⟩)))
                · have hq := hq.symm
                  subst hq
                  have RDE : Hid (rd [] s.data.toList = (none, 3, ts.length)) := by show _ = _; rw [HRS2.out, if_pos ((memB_iff _ _).2 k1)]
                  clear HRS2 FR k1
                  go_wp2
                  go_region
                  go_wp2
                  rw [put2_fold]
                  have c9 : (put2 wr w.heap.size (.int .i64 6) (.int .i64 (ts.length : Int))).drew.heap[w.heap.size]? = some (.cells #[.int .i64 6, .int .i64 (ts.length : Int)] 46 (0, 0)) := put2_blk (.int .i64 6) (.int .i64 (ts.length : Int)) HK.out
                  have g9 : wr.grownBy (put2 wr w.heap.size (.int .i64 6) (.int .i64 (ts.length : Int))).drew (some w.heap.size) := by have q := put2_grown wr w.heap.size (.int .i64 6) (.int .i64 (ts.length : Int)); exact ⟨q.os, q.tape, q.output, q.size, q.block⟩
                  clear z0 z1 z2 z3
                  generalize (put2 wr w.heap.size (.int .i64 6) (.int .i64 (ts.length : Int))).drew = w9 at c9 g9 ⊢
                  obtain ⟨d0, d1, _, _⟩ := blk2 c9
                  refine bodyPost_ret (v := .tuple #[.pointer none, .agg #[.int .i64 6, .int .i64 (ts.length : Int)]]) (by simp [results, Tryz.f17, go_sem, d0, d1]) rfl ⟨.inr ⟨3, ts.length, RDE.out, by omega, by omega, rfl⟩, HB.out.grown g9 HB.out.size (fun k q => by cases q; exact Nat.le_refl _)⟩
                · have hq := hq.symm
                  subst hq
                  have RDE : Hid (rd [] s.data.toList = (none, 4, ts.length)) := by show _ = _; rw [HRS2.out, if_neg (fun q => k1 ((memB_iff _ _).1 q)), if_pos k3]
                  clear HRS2 FR k1 k3
                  go_wp2
                  go_region
                  go_wp2
                  rw [put2_fold]
                  have c9 : (put2 wr w.heap.size (.int .i64 7) (.int .i64 (ts.length : Int))).drew.heap[w.heap.size]? = some (.cells #[.int .i64 7, .int .i64 (ts.length : Int)] 46 (0, 0)) := put2_blk (.int .i64 7) (.int .i64 (ts.length : Int)) HK.out
                  have g9 : wr.grownBy (put2 wr w.heap.size (.int .i64 7) (.int .i64 (ts.length : Int))).drew (some w.heap.size) := by have q := put2_grown wr w.heap.size (.int .i64 7) (.int .i64 (ts.length : Int)); exact ⟨q.os, q.tape, q.output, q.size, q.block⟩
                  clear z0 z1 z2 z3
                  generalize (put2 wr w.heap.size (.int .i64 7) (.int .i64 (ts.length : Int))).drew = w9 at c9 g9 ⊢
                  obtain ⟨d0, d1, _, _⟩ := blk2 c9
                  refine bodyPost_ret (v := .tuple #[.pointer none, .agg #[.int .i64 7, .int .i64 (ts.length : Int)]]) (by simp [results, Tryz.f17, go_sem, d0, d1]) rfl ⟨.inr ⟨4, ts.length, RDE.out, by omega, by omega, rfl⟩, HB.out.grown g9 HB.out.size (fun k q => by cases q; exact Nat.le_refl _)⟩
                · have RDE : Hid (rd [] s.data.toList = rd (ts ++ [s'.extract (i + 1) (i + 1 + m)]) y.data.toList) := by show _ = _; rw [HRS2.out, if_neg (fun q => k1 ((memB_iff _ _).1 q)), if_neg (by omega)]
                  have K3 : Hid (_) := k3
                  have K2 : Hid (MPl _ _ _ _ _) := k2
                  have BX : Hid (Below w.heap.size w w') := ⟨k4.os.trans HB.out.os, k4.tape.trans HB.out.tape, k4.output.trans HB.out.output, Nat.le_trans HB.out.size k4.size, fun k hk => (k4.block k (Nat.lt_of_lt_of_le hk HB.out.size) (by omega) (by omega) (fun q => by have := (World.ownsRow.lt HP.out.row k q).1; omega)).trans (HB.out.block k hk)⟩
                  have KX : Hid (w'.heap[w.heap.size]? = some (.cells #[.int .i64 0, .int .i64 0] 46 (0, 0))) := (k4.block _ hbw (by omega) (by omega) (fun q => by have := (World.ownsRow.lt HP.out.row _ q).1; omega)).trans HK.out
                  have HYS : Hid (y.size < s'.size) := hys
                  clear HRS2 FR k1 k3 k2 k4 k5 z0 z1 z2 z3 x0 hys
                  go_wp2
                  go_roundw
                  case rel =>
                    refine ⟨y, by rw [E2.out], by have := HYS.out; omega, ts ++ [s'.extract (i + 1) (i + 1 + m)], mv', K2.out, RDE.out.symm, BX.out, ?_, KX.out⟩
                    rw [List.length_append]
                    have := K3.out
                    simp
                    omega
                  case measure => simp [strLen]; have := HYS.out; have e := E2.out; first | (rw [e]; omega) | omega
              · have hck : (cutK s'.data.toList).1 = 1 := by
                  rw [HCK2.out, if_neg h1, if_neg (by omega), if_neg (by rw [hgd]; intro q; exact h4 (Option.some.inj q))]
                have RDE : Hid (rd [] s.data.toList = (none, 1, ts.length)) := HER.out 1 hck (by decide)
                have h4' : ¬ ((s'[i + 1 + m].toNat : Int) = 10) := fun q => h4 (UInt8.toNat_inj.1 (by show s'[i + 1 + m].toNat = 10; omega))
                clear hck HRS HER HCK2 hsl hdl hgd h4
                go_upto_region 16 with (go_at_call 30; refine Calls.mono HD1.out ?_; rintro r w' ⟨rfl, hq⟩; have hq := hq.symm; subst hq)
                go_wp2
                go_region
                go_wp2
                rw [put2_fold]
                have c9 : (put2 wr w.heap.size (.int .i64 1) (.int .i64 (ts.length : Int))).drew.heap[w.heap.size]? = some (.cells #[.int .i64 1, .int .i64 (ts.length : Int)] 46 (0, 0)) := put2_blk (.int .i64 1) (.int .i64 (ts.length : Int)) HK.out
                have g9 : wr.grownBy (put2 wr w.heap.size (.int .i64 1) (.int .i64 (ts.length : Int))).drew (some w.heap.size) := by have q := put2_grown wr w.heap.size (.int .i64 1) (.int .i64 (ts.length : Int)); exact ⟨q.os, q.tape, q.output, q.size, q.block⟩
                clear z0 z1 z2 z3
                generalize (put2 wr w.heap.size (.int .i64 1) (.int .i64 (ts.length : Int))).drew = w9 at c9 g9 ⊢
                obtain ⟨d0, d1, _, _⟩ := blk2 c9
                refine bodyPost_ret (v := .tuple #[.pointer none, .agg #[.int .i64 1, .int .i64 (ts.length : Int)]]) (by simp [results, Tryz.f17, go_sem, d0, d1]) rfl ⟨.inr ⟨1, ts.length, RDE.out, by omega, by omega, rfl⟩, HB.out.grown g9 HB.out.size (fun k q => by cases q; exact Nat.le_refl _)⟩
end Go.Proofs.YtifbhedomcgonaaGreatDoor
