/- The law PoolTexts: any texts put; any text as a pool. -/
import Derived.Test.YtifbhedomcgonaaGreatDoorPlW
import Derived.Test.YtifbhedomcgonaaGreatDoorLawPB
namespace Go.Proofs.YtifbhedomcgonaaGreatDoor
open Go Go.RowKit Go.Maps Go.Sort Cal
attribute [local go_sem] Oper.semAt_some

theorem cutK_size {l : List UInt8} (h : (cutK l).1 = 0) : (cutK l).2.1.length ≤ l.length ∧ (cutK l).2.2.length ≤ l.length := by
  unfold cutK at h ⊢
  split at h
  · cases h
  · rename_i hi
    split at h
    · cases h
    · rename_i n hn
      split at h
      · cases h
      · rename_i h1
        split at h
        · cases h
        · rename_i h2
          split at h
          · rename_i h3
            rw [if_neg hi, if_neg h1, if_neg h2, if_pos h3]
            simp only [List.length_take, List.length_drop]
            omega
          · cases h
theorem rdF_some : ∀ (f : Nat) (ts : List ByteArray) (l : List UInt8) (us : List ByteArray) (k n : Nat), rdF f ts l = (some us, k, n) → (k = 0 ∧ n = 0) ∧ ∀ t ∈ us, t ∈ ts ∨ t.size ≤ l.length
  | 0, ts, l, us, k, n, h => by
    unfold rdF at h
    cases h
    exact ⟨⟨rfl, rfl⟩, fun t ht => .inl ht⟩
  | f + 1, ts, l, us, k, n, h => by
    unfold rdF at h
    by_cases h0 : l = []
    · rw [if_pos h0] at h
      cases h
      exact ⟨⟨rfl, rfl⟩, fun t ht => .inl ht⟩
    · rw [if_neg h0] at h
      by_cases h1 : (cutK l).1 ≠ 0
      · rw [if_pos h1] at h; cases congrArg Prod.fst h
      · rw [if_neg h1] at h
        have hc : (cutK l).1 = 0 := Decidable.not_not.1 h1
        by_cases h2 : memB (bs (cutK l).2.1) ts = true
        · rw [if_pos h2] at h; cases congrArg Prod.fst h
        · rw [if_neg h2] at h
          by_cases h3 : 1000 ≤ ts.length
          · rw [if_pos h3] at h; cases congrArg Prod.fst h
          · rw [if_neg h3] at h
            obtain ⟨q1, q2⟩ := rdF_some f _ _ us k n h
            have hle := cutK_size hc
            refine ⟨q1, fun t ht => ?_⟩
            rcases q2 t ht with q | q
            · rcases List.mem_append.1 q with q | q
              · exact .inl q
              · right
                rw [List.mem_singleton.1 q, Lib.size_eq, bs_data]
                exact hle.1
            · right; omega
theorem rd_some {l : List UInt8} {us : List ByteArray} {k n : Nat} (h : rd [] l = (some us, k, n)) : (some us, k, n) = (some us, 0, 0) := by
  obtain ⟨⟨rfl, rfl⟩, _⟩ := rdF_some _ _ _ _ _ _ h
  rfl
theorem rd_size {l : List UInt8} {us : List ByteArray} {k n : Nat} (h : rd [] l = (some us, k, n)) : ∀ t ∈ us, t.size ≤ l.length := fun t ht => by
  rcases (rdF_some _ _ _ _ _ _ h).2 t ht with q | q
  · cases q
  · exact q

set_option maxHeartbeats 8000000 in
set_option maxRecDepth 100000 in
theorem poolTexts_all (xs : List ByteArray) (v : Value) (x : ByteArray) (n : Int) (s : Nat → Addr) (w : World) (g : Sents s w) (gn : GlobN w) (hX : TxA w v xs) :
    Calls Tryz.prog 3 #[v, .string x, .int .i64 n] w fun r w' => r = .returned (.bool true) ∧ Below w.heap.size w w' := by
  obtain ⟨a, cap, rfl, hcap, hc⟩ := hX
  have PO : Hid (Calls _ _ _ _ _) := pooled_any w
  have HG : Hid (Sents s w) := g
  have HGN : Hid (GlobN w) := gn
  have HC : Hid (∀ W, Below w.heap.size w W → ∀ (j : Nat) (h : j < xs.length), ∃ ad : Addr, a = some ad ∧ ad.block < w.heap.size ∧ W.cell? (ad.add j) = some (.string xs[j])) := fun W hW j hj => by
    obtain ⟨ad, q1, q2, q3⟩ := hc j hj
    exact ⟨ad, q1, q2, (hW.cell (p := ad.add j) (by rw [addr_block]; exact q2)).trans q3⟩
  clear g gn hc
  go_enter Tryz.func3, Tryz.ntmps3
  go_upto_region 2 with (go_at_call 4; refine Calls.mono PO.out ?_; rintro r w1 ⟨rfl, hb1⟩)
  clear PO
  by_cases h60 : (60 : Int) < (xs.length : Int)
  · go_wp2
    go_ret
    exact ⟨rfl, hb1⟩
  · by_cases h3000 : (3000 : Int) < (x.size : Int)
    · go_wp2
      go_ret
      exact ⟨rfl, hb1⟩
    · have NW : Hid (Calls _ _ _ _ _) := pnew_any w1
      go_upto_region 9 with (go_at_call 5; refine Calls.mono NW.out ?_; rintro r w2 ⟨rfl, hp2, hb2⟩)
      have hs2 : w1.heap.size + 2 ≤ w2.heap.size := hp2.le
      have BO : Hid (Both (w1.heap.size + 2) (w2.alloc (.cells #[.slice none 0 0] 28)) (w1.heap.size + 1) w1.heap.size w2.heap.size (.slice none 0 0) (.slice none 0 0) []) := ⟨hp2.step (below_alloc _ _), ⟨by omega, by rw [World.size_alloc]; omega, block_at _ rfl, World.ownsRow_nil _ _ _ _⟩, hs2, fun k q => by cases q⟩
      have B2 : Hid (Below w.heap.size w (w2.alloc (.cells #[.slice none 0 0] 28))) := below_then hb1 (below_then hb2 (below_alloc _ _))
      have hw1 : w.heap.size ≤ w1.heap.size := hb1.size
      generalize hqb : w2.heap.size = qb at BO hs2 ⊢
      clear NW hp2 hb1 hb2 hqb
      generalize w2.alloc (.cells #[.slice none 0 0] 28) = w3 at BO B2 ⊢
      go_loopw [10, 11, 12, 13, 14] (fun i _ _ _ _ wr => ∃ m : Nat, m ≤ xs.length ∧ i = .int .i64 m ∧ Hid (Below w.heap.size w wr) ∧ Hid (∃ (ts : List ByteArray) (tv mv : Value), Both (w1.heap.size + 2) wr (w1.heap.size + 1) w1.heap.size qb tv mv ts ∧ ts.length ≤ m ∧ ∀ t ∈ ts, t.size ≤ 300)) (fun i _ _ _ _ _ => xs.length - (intOf i).toNat)
      case atStart => exact ⟨0, Nat.zero_le _, rfl, B2.out, [], _, _, BO.out, by simp, by simp⟩
      case round =>
        obtain ⟨m, hm, rfl, HB, HX⟩ := hrel
        obtain ⟨ts, tv, mv, hbo, htl, htz⟩ := HX.out
        clear HX
        by_cases hlt : m < xs.length
        · obtain ⟨ad, rfl, had, hcell⟩ := HC.out wr HB.out m hlt
          obtain ⟨y, hy⟩ : ∃ y, xs[m] = y := ⟨_, rfl⟩
          have HXM : Hid (xs[m] = y) := hy
          rw [hy] at hcell
          clear hy
          have CL : Hid (∀ W, Below w.heap.size w W → W.cell? (ad.add m) = some (.string y)) := fun W hW => by
            obtain ⟨ad2, e2, _, q⟩ := HC.out W hW m hlt
            obtain rfl : ad = ad2 := Option.some.inj e2
            rw [HXM.out] at q
            exact q
          have HBO : Hid (Both (w1.heap.size + 2) wr (w1.heap.size + 1) w1.heap.size qb tv mv ts) := hbo
          have HTZ : Hid (∀ t ∈ ts, t.size ≤ 300) := htz
          clear hbo htz
          by_cases hlong : (300 : Int) < (y.size : Int)
          · by_cases h1 : (y.size : Int) = 10001
            · have hy1 : y.size = 10001 := by omega
              have PP : Hid (Calls _ _ _ _ _) := pput_long (w1.heap.size + 1) y (fiv s) wr (HG.out.step HB.out).globp (by omega)
              have MP : Hid (∀ W, Below wr.heap.size wr W → Calls Tryz.prog 7 #[.pointer (some ⟨qb, 0, none⟩), .string y] W fun r w' => r = .returned (.tuple #[.int .i64 0, .int .i64 2]) ∧ w' = W) := fun W hW => by
                refine Calls.mono (mput_pl (qb + 1) qb mv ts y W (HBO.out.m.step hW) (by omega)) ?_
                rintro r w' (⟨_, q1, q2⟩ | ⟨q0, _⟩ | ⟨q0, _⟩ | ⟨q0, _⟩)
                · exact ⟨q1, q2⟩
                · omega
                · omega
                · omega
              have CO : Hid (∀ W, Below wr.heap.size wr W → Calls Tryz.prog 8 #[.iface 151 (.pointer (some (s 1))), .int .i64 2] W fun r w' => r = .returned (.bool true) ∧ Below W.heap.size W w') := fun W hW => coded3_err s 1 W (HG.out.step (below_then HB.out hW)) (by omega)
              rw [show perr (fiv s) 2 = .iface 151 (.pointer (some (s 1))) from rfl] at PP
              go_wp2_with (first
                | (go_at_call 6; refine Calls.mono PP.out ?_; rintro r w4 ⟨rfl, hb4⟩; have hc4 := CL.out w4 (below_then HB.out hb4))
                | (go_at_call 7; refine Calls.mono (MP.out _ hb4) ?_; rintro r w5 ⟨rfl, hq⟩; have hq := hq.symm; subst hq)
                | (go_at_call 8; refine Calls.mono (CO.out _ hb4) ?_; rintro r w6 ⟨rfl, hb6⟩))
              go_roundw
              case rel => exact ⟨m + 1, by omega, by go_num, below_then HB.out (below_then hb4 hb6), ts, tv, mv, HBO.out.step (below_then hb4 hb6), by omega, HTZ.out⟩
              case measure => simp [intOf]; omega
            · go_wp2
              go_ret
              exact ⟨rfl, HB.out⟩
          · have hy3 : y.size ≤ 300 := by omega
            by_cases hmem : y ∈ ts
            · obtain ⟨i, hi⟩ := List.getElem?_of_mem hmem
              have PP : Hid (Calls _ _ _ _ _) := pput_old (w1.heap.size + 2) (w1.heap.size + 1) w1.heap.size tv ts y i wr HBO.out.p (by omega) hi
              have MP : Hid (Calls Tryz.prog 7 #[.pointer (some ⟨qb, 0, none⟩), .string y] wr fun r w' => r = .returned (.tuple #[.int .i64 i, .int .i64 0]) ∧ w' = wr) := by
                refine Calls.mono (mput_pl (qb + 1) qb mv ts y wr HBO.out.m (by omega)) ?_
                rintro r w' (⟨q0, _⟩ | ⟨_, i2, q1, q2, q3⟩ | ⟨_, q0, _⟩ | ⟨_, q0, _⟩)
                · omega
                · have := HBO.out.p.one hi q1
                  subst this
                  exact ⟨q2, q3⟩
                · exact absurd hmem q0
                · exact absurd hmem q0
              have CO : Hid (Calls _ _ _ _ _) := coded3_nil wr
              clear hi hmem
              go_wp2_with (first
                | (go_at_call 6; refine Calls.mono PP.out ?_; rintro r w4 ⟨rfl, hq⟩; have hq := hq.symm; subst hq)
                | (go_at_call 7; refine Calls.mono MP.out ?_; rintro r w5 ⟨rfl, hq⟩; have hq := hq.symm; subst hq)
                | (go_at_call 8; refine Calls.mono CO.out ?_; rintro r w6 ⟨rfl, hq⟩; have hq := hq.symm; subst hq))
              go_roundw
              case rel => exact ⟨m + 1, by omega, by go_num, HB.out, ts, tv, mv, HBO.out, by omega, HTZ.out⟩
              case measure => simp [intOf]; omega
            · have PP : Hid (Calls _ _ _ _ _) := pput_new (w1.heap.size + 2) (w1.heap.size + 1) w1.heap.size tv ts y wr HBO.out.p (by omega) hmem (by omega)
              have MP : Hid (∀ W, MPl (qb + 1) W qb mv ts → Calls Tryz.prog 7 #[.pointer (some ⟨qb, 0, none⟩), .string y] W fun r w' => r = .returned (.tuple #[.int .i64 ts.length, .int .i64 0]) ∧ ∃ mv', MPl (qb + 1) w' qb mv' (ts ++ [y]) ∧ PKept W w' qb qb mv ∧ (mv'.ownBlock = mv.ownBlock ∨ ∃ k, W.heap.size ≤ k ∧ mv'.ownBlock = some k)) := fun W hW => by
                refine Calls.mono (mput_pl (qb + 1) qb mv ts y W hW (by omega)) ?_
                rintro r w' (⟨q0, _⟩ | ⟨_, i2, q1, _⟩ | ⟨_, _, q0, _⟩ | ⟨_, _, _, q1, q2⟩)
                · omega
                · exact absurd (List.mem_of_getElem? q1) hmem
                · omega
                · exact ⟨q1, q2⟩
              clear hmem
              go_upto_region 14 with (go_at_call 6; refine Calls.mono PP.out ?_; rintro r w4 ⟨rfl, tv', hp4, hk4, ho4⟩)
              obtain ⟨hm4, ha4⟩ := HBO.out.put1 hk4 ho4
              have B4 : Hid (Below w.heap.size w w4) := hk4.below HBO.out.p HB.out (by omega) (by omega) (by omega)
              have MP4 : Hid (Calls _ _ _ _ _) := MP.out w4 hm4
              have HP4 : Hid (PoolAt _ _ _ _ _ _) := hp4
              have HM4 : Hid (MPl _ _ _ _ _) := hm4
              have HA4 : Hid (∀ k, tv'.ownBlock = some k → mv.ownBlock ≠ some k) := ha4
              have hc4 := CL.out w4 B4.out
              clear PP MP hp4 hk4 ho4 hm4 ha4
              go_upto_region 15 with (go_at_call 7; refine Calls.mono MP4.out ?_; rintro r w5 ⟨rfl, mv', hm5, hk5, ho5⟩)
              have BO5 : Hid (Both (w1.heap.size + 2) w5 (w1.heap.size + 1) w1.heap.size qb tv' mv' (ts ++ [y])) := both_put2 HP4.out HM4.out HBO.out.q HA4.out hk5 hm5 ho5 rfl
              have hq0 := HBO.out.q
              have B5 : Hid (Below w.heap.size w w5) := ⟨hk5.os.trans B4.out.os, hk5.tape.trans B4.out.tape, hk5.output.trans B4.out.output, Nat.le_trans B4.out.size hk5.size, fun k hk => (hk5.block k (Nat.lt_of_lt_of_le hk B4.out.size) (by omega) (by omega) (fun q => by have := (World.ownsRow.lt HM4.out.row k q).1; omega)).trans (B4.out.block k hk)⟩
              have CO : Hid (Calls _ _ _ _ _) := coded3_nil w5
              clear hm5 hk5 ho5 MP4 hc4
              go_wp2_with (go_at_call 8; refine Calls.mono CO.out ?_; rintro r w6 ⟨rfl, hq⟩; have hq := hq.symm; subst hq)
              go_roundw
              case rel =>
                refine ⟨m + 1, by omega, by go_num, B5.out, ts ++ [y], tv', mv', BO5.out, by simp; omega, fun t ht => ?_⟩
                rcases List.mem_append.1 ht with q | q
                · exact HTZ.out t q
                · rw [List.mem_singleton.1 q]; exact hy3
              case measure => simp [intOf]; omega
        · have hmx : m = xs.length := by omega
          have hl60 : ts.length ≤ 60 := by omega
          have HBO : Hid (Both (w1.heap.size + 2) wr (w1.heap.size + 1) w1.heap.size qb tv mv ts) := hbo
          have HZ4 : Hid (∀ t ∈ ts, t.size ≤ 10000) := fun t ht => by have := htz t ht; omega
          have HZ9 : Hid (∀ t ∈ ts, t.size ≤ 9999) := fun t ht => by have := htz t ht; omega
          have CP : Hid (Calls _ _ _ _ _) := pcopy_any (w1.heap.size + 2) (w1.heap.size + 1) w1.heap.size tv ts wr hbo.p (by omega)
          clear hbo htz HC hlt
          go_upto_region 18 with (go_at_call 9; refine Calls.mono CP.out ?_; rintro r w4 ⟨cb, aC, cC, rfl, hx4, hc4, hb4⟩)
          have B4 : Hid (Below w.heap.size w w4) := below_then HB.out hb4
          have BO4 : Hid (Both (w1.heap.size + 2) w4 (w1.heap.size + 1) w1.heap.size qb tv mv ts) := HBO.out.step hb4
          have TP : Hid (∀ d os', Calls Tryz.prog 10 #[.pointer (some ⟨w1.heap.size + 1, 0, none⟩)] (grow (redrawn w4 d) os') fun r w'' => r = .returned (.string (bs (plT ts))) ∧ ∃ p : Regrown, w'' = grow (redrawn w4 p.d) p.os) := fun d os' => Calls.regrown_of (ptext_any (w1.heap.size + 2) (w1.heap.size + 1) w1.heap.size tv ts _ (HGN.out.step (below_then B4.out (below_regrown _ _ _))) (BO4.out.p.step (below_regrown _ _ _)) HZ4.out (by omega))
          have TC : Hid (∀ d os', Calls Tryz.prog 10 #[.pointer (some ⟨cb, 0, none⟩)] (grow (redrawn w4 d) os') fun r w'' => r = .returned (.string (bs (plT ts))) ∧ ∃ p : Regrown, w'' = grow (redrawn w4 p.d) p.os) := fun d os' => Calls.regrown_of (ptext_row cb aC cC ts _ (HGN.out.step (below_then B4.out (below_regrown _ _ _))) (cell_step hx4 (below_regrown _ _ _)) (fun j hj => by
            obtain ⟨b, q1, q2, q3⟩ := hc4 j hj
            exact ⟨b, q1, Nat.lt_of_lt_of_le q2 (below_regrown w4 d os').size, cell_step q3 (below_regrown _ _ _)⟩) HZ4.out (by omega))
          have TM : Hid (∀ d os', Calls Tryz.prog 11 #[.pointer (some ⟨qb, 0, none⟩)] (grow (redrawn w4 d) os') fun r w'' => r = .returned (.string (bs (plT ts))) ∧ ∃ p : Regrown, w'' = grow (redrawn w4 p.d) p.os) := fun d os' => Calls.regrown_of (mtext_pl (qb + 1) qb mv ts _ (BO4.out.m.step (below_regrown _ _ _)) (by omega) HZ9.out)
          have LN : Hid (∀ d os', Calls Tryz.prog 12 #[.pointer (some ⟨w1.heap.size + 1, 0, none⟩)] (grow (redrawn w4 d) os') fun r w'' => r = .returned (.int .i64 ts.length) ∧ ∃ p : Regrown, w'' = grow (redrawn w4 p.d) p.os) := fun d os' => Calls.regrown_of (Calls.mono (plen_any (w1.heap.size + 2) (w1.heap.size + 1) w1.heap.size tv ts _ (BO4.out.p.step (below_regrown _ _ _))) (fun r w' q => ⟨q.1, by rw [q.2]; exact Below.refl _ _⟩))
          have xm4 := BO4.out.m.cell
          obtain ⟨ma, mc, rfl, hmc⟩ := BO4.out.m.form
          have XM := cell_regrown xm4
          clear hx4 hc4 hb4 CP
          generalize bs (plT ts) = tx at TP TC TM
          refine wp_region_quiet_below (by kernel_rfl) (by kernel_rfl) ?_
          repeat (quiet_step (first
            | (go_at_call_of 10 (Value.pointer (some ⟨cb, 0, none⟩)); exact TC.out _ _)
            | (go_at_call 10; exact TP.out _ _)
            | (go_at_call 11; exact TM.out _ _)
            | (go_at_call 12; exact LN.out _ _)))
          refine wpQuiet_nil ?_
          intro w5 hw'
          have hb5 : Below w4.heap.size w4 w5 := by
            obtain ⟨⟨dq, osq⟩, hw''⟩ := hw'
            subst hw''
            exact below_regrown _ _ _
          have B5 : Hid (Below w.heap.size w w5) := below_then B4.out hb5
          have BO5 : Hid (Both (w1.heap.size + 2) w5 (w1.heap.size + 1) w1.heap.size qb tv (.slice ma ts.length mc) ts) := BO4.out.step hb5
          have HMC : Hid (∀ (j : Nat) (hj : j < ts.length), ∃ b, ma = some ⟨b, 0, none⟩ ∧ w5.cell? ⟨b, j, none⟩ = some (.string ts[j])) := fun j hj => by
            obtain ⟨b, q1, q2, q3⟩ := hmc j hj
            exact ⟨b, q1, cell_step q3 hb5⟩
          have xm5 := BO5.out.m.cell
          clear hw' hb5 xm4 XM hmc TP TC TM LN BO4 B4 HBO
          by_cases hn : n < 0 ∨ (ts.length : Int) ≤ n
          · have GT : Hid (Calls Tryz.prog 13 #[.pointer (some ⟨w1.heap.size + 1, 0, none⟩), .int .i64 n] w5 fun r w' => r = .returned (.tuple #[.string ⟨#[]⟩, .iface 151 (.pointer (some (s 4)))]) ∧ Below w5.heap.size w5 w') := pget_no (w1.heap.size + 2) (w1.heap.size + 1) w1.heap.size tv ts n hn (fiv s) w5 (HG.out.step B5.out).globp BO5.out.p
            have CD : Hid (∀ W, Below w5.heap.size w5 W → Calls Tryz.prog 8 #[.iface 151 (.pointer (some (s 4))), .int .i64 5] W fun r w' => r = .returned (.bool true) ∧ Below W.heap.size W w') := fun W hW => coded3_err s 4 W (HG.out.step (below_then B5.out hW)) (by omega)
            have XM5 : Hid (∀ W, Below w5.heap.size w5 W → W.cell? ⟨qb, 0, none⟩ = some (.slice ma ts.length mc)) := fun W hW => cell_step xm5 hW
            have hn2 : n < 0 ∨ (0 ≤ n ∧ (ts.length : Int) ≤ n) := by omega
            clear hn
            rcases hn2 with hn | ⟨hn, hn3⟩
            all_goals
              go_upto_region 26 with (first
                | (go_at_call 13; refine Calls.mono GT.out ?_; rintro r w6 ⟨rfl, hb6⟩; have xm6 := XM5.out w6 hb6)
                | (go_at_call 8; refine Calls.mono (CD.out _ hb6) ?_; rintro r wz ⟨rfl, hb7⟩))
              have BZ : Hid (Below w5.heap.size w5 wz) := below_then hb6 hb7
              clear hb6 hb7 xm6 CD GT XM5
              have BWZ : Hid (Below w.heap.size w wz) := below_then B5.out BZ.out
              have BOZ : Hid (Both (w1.heap.size + 2) wz (w1.heap.size + 1) w1.heap.size qb tv (.slice ma ts.length mc) ts) := BO5.out.step BZ.out
              have HPF := pfind_any (w1.heap.size + 2) (w1.heap.size + 1) w1.heap.size tv ts x wz BOZ.out.p (by omega)
              have HMF := mpfind_any (qb + 1) qb (.slice ma ts.length mc) ts x wz BOZ.out.m (by omega)
              have HPR := pread_any x (fiv s) wz (HG.out.step BWZ.out).globp (HGN.out.step BWZ.out) (by omega)
              have HMR : ∀ W, Calls Tryz.prog 17 #[.string x] W fun r w' => MReadIs W x r w' ∧ Below W.heap.size W w' := fun W => mread_any x W (by omega)
              have FX : Hid ((∃ i : Nat, (∀ (z : Unit), Calls Tryz.prog 14 #[.pointer (some ⟨w1.heap.size + 1, 0, none⟩), .string x] wz fun r w' => r = .returned (.tuple #[.int .i64 i, .bool true]) ∧ w' = wz) ∧ Calls Tryz.prog 15 #[.pointer (some ⟨qb, 0, none⟩), .string x] wz fun r w' => r = .returned (.int .i64 i) ∧ w' = wz) ∨ ((∀ (z : Unit), Calls Tryz.prog 14 #[.pointer (some ⟨w1.heap.size + 1, 0, none⟩), .string x] wz fun r w' => r = .returned (.tuple #[.int .i64 0, .bool false]) ∧ w' = wz) ∧ Calls Tryz.prog 15 #[.pointer (some ⟨qb, 0, none⟩), .string x] wz fun r w' => r = .returned (.int .i64 (-1)) ∧ w' = wz)) := by
                by_cases hx : x ∈ ts
                · obtain ⟨i, hi⟩ := List.getElem?_of_mem hx
                  refine .inl ⟨i, fun _ => Calls.mono HPF ?_, Calls.mono HMF ?_⟩
                  · rintro r w' ⟨q1, ⟨j, q2, q3⟩ | ⟨q2, _⟩⟩
                    · have := BOZ.out.p.one hi q2
                      subst this
                      exact ⟨q3, q1⟩
                    · exact absurd hx q2
                  · rintro r w' ⟨q1, ⟨j, q2, q3⟩ | ⟨q2, _⟩⟩
                    · have := BOZ.out.p.one hi q2
                      subst this
                      exact ⟨q3, q1⟩
                    · exact absurd hx q2
                · refine .inr ⟨fun _ => Calls.mono HPF ?_, Calls.mono HMF ?_⟩
                  · rintro r w' ⟨q1, ⟨j, q2, q3⟩ | ⟨q2, q3⟩⟩
                    · exact absurd (List.mem_of_getElem? q2) hx
                    · exact ⟨q3, q1⟩
                  · rintro r w' ⟨q1, ⟨j, q2, q3⟩ | ⟨q2, q3⟩⟩
                    · exact absurd (List.mem_of_getElem? q2) hx
                    · exact ⟨q3, q1⟩
              have RX : Hid ((∃ us : List ByteArray, rd [] x.data.toList = (some us, 0, 0)) ∨ ∃ k n : Nat, rd [] x.data.toList = (none, k, n)) := by
                rcases hq : rd [] x.data.toList with ⟨_ | us, k, n'⟩
                · exact .inr ⟨k, n', rfl⟩
                · exact .inl ⟨us, by rw [rd_some hq]⟩
              have HPR2 : Hid (Calls _ _ _ _ _) := HPR
              have HMR2 : Hid (∀ W, Calls Tryz.prog 17 #[.string x] W fun r w' => MReadIs W x r w' ∧ Below W.heap.size W w') := HMR
              clear HPF HMF HPR HMR
              rcases FX.out with ⟨i, hF1, hF2⟩ | ⟨hF1, hF2⟩
              all_goals
                have FD : Hid (Calls _ _ _ _ _) := hF1 ()
                have FM : Hid (Calls _ _ _ _ _) := hF2
                clear hF1 hF2 FX
                rcases RX.out with ⟨us, hr⟩ | ⟨k, n', hr⟩
                · have RD : Hid (Calls Tryz.prog 16 #[.string x] wz fun r w' => (∃ lo9 pb9 mb9 tv9, r = .returned (.tuple #[.pointer (some ⟨pb9, 0, none⟩), .nilIface]) ∧ PoolAt lo9 w' pb9 mb9 tv9 us ∧ (∀ t ∈ us, t.size ≤ 9999) ∧ us.length ≤ 1000) ∧ Below wz.heap.size wz w') := by
                    refine Calls.mono HPR2.out ?_
                    rintro r w' ⟨q, hb⟩
                    rcases q with ⟨ts2, lo, pb, mb, tv2, q1, q2, q3, q4, q5, q6⟩ | ⟨k, n, fb, q1, _⟩
                    · rw [hr] at q1
                      have e : us = ts2 := Option.some.inj (congrArg Prod.fst q1)
                      subst e
                      exact ⟨⟨lo, pb, mb, tv2, q2, q3, fun t ht => Nat.le_trans (rd_size hr t ht) (by rw [← Lib.size_eq]; omega), q6⟩, hb⟩
                    · rw [hr] at q1
                      cases congrArg Prod.fst q1
                  have RM : Hid (∀ W, Calls Tryz.prog 17 #[.string x] W fun r w' => (∃ lo8 qb8 mv8, r = .returned (.tuple #[.pointer (some ⟨qb8, 0, none⟩), .agg #[.int .i64 0, .int .i64 (-1)]]) ∧ MPl lo8 w' qb8 mv8 us) ∧ Below W.heap.size W w') := fun W => by
                    refine Calls.mono (HMR2.out W) ?_
                    rintro r w' ⟨q, hb⟩
                    rcases q with ⟨ts2, lo, qb9, mv2, q1, q2, q3, q4⟩ | ⟨k, n, q1, _⟩
                    · rw [hr] at q1
                      have e : us = ts2 := Option.some.inj (congrArg Prod.fst q1)
                      subst e
                      exact ⟨⟨lo, qb9, mv2, q2, q3⟩, hb⟩
                    · rw [hr] at q1
                      cases congrArg Prod.fst q1
                  clear RX hr HPR2 HMR2
                  go_upto_region 32 with (first
                    | (go_at_call 14; refine Calls.mono FD.out ?_; rintro r wa ⟨rfl, hq⟩; have hq := hq.symm; subst hq)
                    | (go_at_call 15; refine Calls.mono FM.out ?_; rintro r wb ⟨rfl, hq⟩; have hq := hq.symm; subst hq)
                    | (go_at_call 16; refine Calls.mono RD.out ?_; rintro r wc ⟨⟨lo9, pb9, mb9, tv9, rfl, hp9, hz9, hu9⟩, hbc⟩)
                    | (go_at_call 17; refine Calls.mono (RM.out _) ?_; rintro r wd ⟨⟨lo8, qb8, mv8, rfl, hp8⟩, hbd⟩))
                  have c9 := blk2 (block_at (W := wd) (.cells #[.int .i64 0, .int .i64 (-1)] 46) rfl)
                  obtain ⟨d0, d1, _, _⟩ := c9
                  have BD : Hid (Below w.heap.size w (wd.alloc (.cells #[.int .i64 0, .int .i64 (-1)] 46))) := below_then BWZ.out (below_then hbc (below_then hbd (below_alloc _ _)))
                  have TQ : Hid (Calls _ _ _ _ _) := ptext_any lo9 pb9 mb9 tv9 us (wd.alloc (.cells #[.int .i64 0, .int .i64 (-1)] 46)) (HGN.out.step BD.out) (hp9.step (below_then hbd (below_alloc _ _))) (fun t ht => Nat.le_trans (hz9 t ht) (by omega)) hu9
                  have TX : Hid (∀ W, Below (wd.alloc (.cells #[.int .i64 0, .int .i64 (-1)] 46)).heap.size (wd.alloc (.cells #[.int .i64 0, .int .i64 (-1)] 46)) W → Calls Tryz.prog 11 #[.pointer (some ⟨qb8, 0, none⟩)] W fun r w' => r = .returned (.string (bs (plT us))) ∧ Below W.heap.size W w') := fun W hW => mtext_pl lo8 qb8 mv8 us W (hp8.step (below_then (below_alloc _ _) hW)) hu9 hz9
                  clear hp9 hp8 hz9 hu9 hbc hbd
                  generalize bs (plT us) = tu at TQ TX
                  generalize wd.alloc (.cells #[.int .i64 0, .int .i64 (-1)] 46) = w9 at d0 d1 BD TQ TX ⊢
                  generalize wd.heap.size = f9 at d0 d1 ⊢
                  go_wp2_with (first
                    | (go_at_call 10; refine Calls.mono TQ.out ?_; rintro r wy ⟨rfl, hby⟩)
                    | (go_at_call 11; refine Calls.mono (TX.out _ hby) ?_; rintro r wx ⟨rfl, hbx⟩))
                  go_ret
                  exact ⟨rfl, below_then BD.out (below_then hby hbx)⟩
                · have RD : Hid (Calls Tryz.prog 16 #[.string x] wz fun r w' => (1 ≤ k ∧ k ≤ 4 ∧ ∃ fb, r = .returned (.tuple #[.pointer none, .iface 70 (.pointer (some ⟨fb, 0, none⟩))]) ∧ w'.heap[fb]? = some (.cells #[.int .i64 n', perr (fiv s) k] 74 (0, 0))) ∧ Below wz.heap.size wz w') := by
                    refine Calls.mono HPR2.out ?_
                    rintro r w' ⟨q, hb⟩
                    rcases q with ⟨ts2, lo, pb, mb, tv2, q1, _⟩ | ⟨k2, n2, fb, q1, q2, q3, q4, q5, q6, q7⟩
                    · rw [hr] at q1
                      cases congrArg Prod.fst q1
                    · rw [hr] at q1
                      have e1 : k = k2 := congrArg (fun z => z.2.1) q1
                      have e2 : n' = n2 := congrArg (fun z => z.2.2) q1
                      subst e1 e2
                      exact ⟨⟨q2, q3, fb, q5, q7⟩, hb⟩
                  have RM : Hid (∀ W, Calls Tryz.prog 17 #[.string x] W fun r w' => r = .returned (.tuple #[.pointer none, .agg #[.int .i64 (mcd k), .int .i64 n']]) ∧ Below W.heap.size W w') := fun W => by
                    refine Calls.mono (HMR2.out W) ?_
                    rintro r w' ⟨q, hb⟩
                    rcases q with ⟨ts2, lo, qb9, mv2, q1, _⟩ | ⟨k2, n2, q1, _, _, q2⟩
                    · rw [hr] at q1
                      cases congrArg Prod.fst q1
                    · rw [hr] at q1
                      have e1 : k = k2 := congrArg (fun z => z.2.1) q1
                      have e2 : n' = n2 := congrArg (fun z => z.2.2) q1
                      subst e1 e2
                      exact ⟨q2, hb⟩
                  have HJ : Hid (1 ≤ k → k ≤ 4 → ∃ j : Nat, j < 11 ∧ mcd k = (j : Int) + 1 ∧ perr (fiv s) k = .iface 151 (.pointer (some (s j)))) := fun h1 h4 => by
                    match k, h1, h4 with
                    | 1, _, _ => exact ⟨0, by omega, rfl, rfl⟩
                    | 2, _, _ => exact ⟨1, by omega, rfl, rfl⟩
                    | 3, _, _ => exact ⟨5, by omega, rfl, rfl⟩
                    | 4, _, _ => exact ⟨6, by omega, rfl, rfl⟩
                  clear RX hr HPR2 HMR2
                  go_upto_region 31 with (first
                    | (go_at_call 14; refine Calls.mono FD.out ?_; rintro r wa ⟨rfl, hq⟩; have hq := hq.symm; subst hq)
                    | (go_at_call 15; refine Calls.mono FM.out ?_; rintro r wb ⟨rfl, hq⟩; have hq := hq.symm; subst hq)
                    | (go_at_call 16; refine Calls.mono RD.out ?_; rintro r wc ⟨⟨k1, k4, fb, rfl, hfb⟩, hbc⟩))
                  obtain ⟨j, hj, hmj, hpj⟩ := HJ.out k1 k4
                  rw [hpj] at hfb
                  have RM2 : Hid (Calls _ _ _ _ _) := RM.out wc
                  rw [hmj] at RM2
                  have HFB : Hid (wc.heap[fb]? = some (.cells #[.int .i64 n', .iface 151 (.pointer (some (s j)))] 74 (0, 0))) := hfb
                  have BC : Hid (Below w.heap.size w wc) := below_then BWZ.out hbc
                  have hjp : (0 : Int) < (j : Int) + 1 := by omega
                  clear RM hmj hpj hfb HJ hbc RD FD FM
                  go_upto_region 32 with (go_at_call 17; refine Calls.mono RM2.out ?_; rintro r wd ⟨rfl, hbd⟩)
                  have c9 := blk2 (block_at (W := wd) (.cells #[.int .i64 ((j : Int) + 1), .int .i64 (n' : Int)] 46) rfl)
                  obtain ⟨d0, d1, _, _⟩ := c9
                  have BD : Hid (Below w.heap.size w (wd.alloc (.cells #[.int .i64 ((j : Int) + 1), .int .i64 (n' : Int)] 46))) := below_then BC.out (below_then hbd (below_alloc _ _))
                  have FA : Hid (Calls _ _ _ _ _) := faulted3_any s j fb (n' : Int) (wd.alloc (.cells #[.int .i64 ((j : Int) + 1), .int .i64 (n' : Int)] 46)) (HG.out.step BD.out) hj (block_alloc _ ((hbd.block _ (Array.getElem?_eq_some_iff.1 HFB.out).1).trans HFB.out))
                  clear hbd
                  generalize wd.alloc (.cells #[.int .i64 ((j : Int) + 1), .int .i64 (n' : Int)] 46) = w9 at d0 d1 BD FA ⊢
                  generalize wd.heap.size = f9 at d0 d1 ⊢
                  go_wp2_with (go_at_call 18; refine Calls.mono FA.out ?_; rintro r wy ⟨rfl, hby⟩)
                  go_ret
                  exact ⟨rfl, below_then BD.out hby⟩
          · obtain ⟨i9, hi9⟩ : ∃ i9 : Nat, n = i9 := ⟨n.toNat, by omega⟩
            subst hi9
            have hin : i9 < ts.length := by omega
            have GT : Hid (Calls Tryz.prog 13 #[.pointer (some ⟨w1.heap.size + 1, 0, none⟩), .int .i64 (i9 : Int)] w5 fun r w' => r = .returned (.tuple #[.string ts[i9], .nilIface]) ∧ w' = w5) := pget_ok (w1.heap.size + 2) (w1.heap.size + 1) w1.heap.size tv ts i9 hin w5 BO5.out.p
            obtain ⟨b9, hma, hm9⟩ := HMC.out i9 hin
            generalize ts[i9] = t9 at GT hm9
            have hn0 : (0 : Int) ≤ (i9 : Int) := by omega
            have hn1 : (i9 : Int) < (ts.length : Int) := by omega
            clear hn
            subst hma
            go_upto_region 26 with (go_at_call 13; refine Calls.mono GT.out ?_; rintro r w6 ⟨rfl, hq⟩; have hq := hq.symm; subst hq)
            obtain ⟨wz, hwz⟩ : ∃ wz, wz = w5 := ⟨_, rfl⟩
            have BZ : Hid (Below w5.heap.size w5 wz) := by rw [hwz]; exact Below.refl _ _
            rw [← hwz]
            clear GT hm9 HMC hwz
            have BWZ : Hid (Below w.heap.size w wz) := below_then B5.out BZ.out
            have BOZ : Hid (Both (w1.heap.size + 2) wz (w1.heap.size + 1) w1.heap.size qb tv (.slice (some ⟨b9, 0, none⟩) ts.length mc) ts) := BO5.out.step BZ.out
            have HPF := pfind_any (w1.heap.size + 2) (w1.heap.size + 1) w1.heap.size tv ts x wz BOZ.out.p (by omega)
            have HMF := mpfind_any (qb + 1) qb (.slice (some ⟨b9, 0, none⟩) ts.length mc) ts x wz BOZ.out.m (by omega)
            have HPR := pread_any x (fiv s) wz (HG.out.step BWZ.out).globp (HGN.out.step BWZ.out) (by omega)
            have HMR : ∀ W, Calls Tryz.prog 17 #[.string x] W fun r w' => MReadIs W x r w' ∧ Below W.heap.size W w' := fun W => mread_any x W (by omega)
            have FX : Hid ((∃ i : Nat, (∀ (z : Unit), Calls Tryz.prog 14 #[.pointer (some ⟨w1.heap.size + 1, 0, none⟩), .string x] wz fun r w' => r = .returned (.tuple #[.int .i64 i, .bool true]) ∧ w' = wz) ∧ Calls Tryz.prog 15 #[.pointer (some ⟨qb, 0, none⟩), .string x] wz fun r w' => r = .returned (.int .i64 i) ∧ w' = wz) ∨ ((∀ (z : Unit), Calls Tryz.prog 14 #[.pointer (some ⟨w1.heap.size + 1, 0, none⟩), .string x] wz fun r w' => r = .returned (.tuple #[.int .i64 0, .bool false]) ∧ w' = wz) ∧ Calls Tryz.prog 15 #[.pointer (some ⟨qb, 0, none⟩), .string x] wz fun r w' => r = .returned (.int .i64 (-1)) ∧ w' = wz)) := by
              by_cases hx : x ∈ ts
              · obtain ⟨i, hi⟩ := List.getElem?_of_mem hx
                refine .inl ⟨i, fun _ => Calls.mono HPF ?_, Calls.mono HMF ?_⟩
                · rintro r w' ⟨q1, ⟨j, q2, q3⟩ | ⟨q2, _⟩⟩
                  · have := BOZ.out.p.one hi q2
                    subst this
                    exact ⟨q3, q1⟩
                  · exact absurd hx q2
                · rintro r w' ⟨q1, ⟨j, q2, q3⟩ | ⟨q2, _⟩⟩
                  · have := BOZ.out.p.one hi q2
                    subst this
                    exact ⟨q3, q1⟩
                  · exact absurd hx q2
              · refine .inr ⟨fun _ => Calls.mono HPF ?_, Calls.mono HMF ?_⟩
                · rintro r w' ⟨q1, ⟨j, q2, q3⟩ | ⟨q2, q3⟩⟩
                  · exact absurd (List.mem_of_getElem? q2) hx
                  · exact ⟨q3, q1⟩
                · rintro r w' ⟨q1, ⟨j, q2, q3⟩ | ⟨q2, q3⟩⟩
                  · exact absurd (List.mem_of_getElem? q2) hx
                  · exact ⟨q3, q1⟩
            have RX : Hid ((∃ us : List ByteArray, rd [] x.data.toList = (some us, 0, 0)) ∨ ∃ k n : Nat, rd [] x.data.toList = (none, k, n)) := by
              rcases hq : rd [] x.data.toList with ⟨_ | us, k, n'⟩
              · exact .inr ⟨k, n', rfl⟩
              · exact .inl ⟨us, by rw [rd_some hq]⟩
            have HPR2 : Hid (Calls _ _ _ _ _) := HPR
            have HMR2 : Hid (∀ W, Calls Tryz.prog 17 #[.string x] W fun r w' => MReadIs W x r w' ∧ Below W.heap.size W w') := HMR
            clear HPF HMF HPR HMR
            rcases FX.out with ⟨i, hF1, hF2⟩ | ⟨hF1, hF2⟩
            all_goals
              have FD : Hid (Calls _ _ _ _ _) := hF1 ()
              have FM : Hid (Calls _ _ _ _ _) := hF2
              clear hF1 hF2 FX
              rcases RX.out with ⟨us, hr⟩ | ⟨k, n', hr⟩
              · have RD : Hid (Calls Tryz.prog 16 #[.string x] wz fun r w' => (∃ lo9 pb9 mb9 tv9, r = .returned (.tuple #[.pointer (some ⟨pb9, 0, none⟩), .nilIface]) ∧ PoolAt lo9 w' pb9 mb9 tv9 us ∧ (∀ t ∈ us, t.size ≤ 9999) ∧ us.length ≤ 1000) ∧ Below wz.heap.size wz w') := by
                  refine Calls.mono HPR2.out ?_
                  rintro r w' ⟨q, hb⟩
                  rcases q with ⟨ts2, lo, pb, mb, tv2, q1, q2, q3, q4, q5, q6⟩ | ⟨k, n, fb, q1, _⟩
                  · rw [hr] at q1
                    have e : us = ts2 := Option.some.inj (congrArg Prod.fst q1)
                    subst e
                    exact ⟨⟨lo, pb, mb, tv2, q2, q3, fun t ht => Nat.le_trans (rd_size hr t ht) (by rw [← Lib.size_eq]; omega), q6⟩, hb⟩
                  · rw [hr] at q1
                    cases congrArg Prod.fst q1
                have RM : Hid (∀ W, Calls Tryz.prog 17 #[.string x] W fun r w' => (∃ lo8 qb8 mv8, r = .returned (.tuple #[.pointer (some ⟨qb8, 0, none⟩), .agg #[.int .i64 0, .int .i64 (-1)]]) ∧ MPl lo8 w' qb8 mv8 us) ∧ Below W.heap.size W w') := fun W => by
                  refine Calls.mono (HMR2.out W) ?_
                  rintro r w' ⟨q, hb⟩
                  rcases q with ⟨ts2, lo, qb9, mv2, q1, q2, q3, q4⟩ | ⟨k, n, q1, _⟩
                  · rw [hr] at q1
                    have e : us = ts2 := Option.some.inj (congrArg Prod.fst q1)
                    subst e
                    exact ⟨⟨lo, qb9, mv2, q2, q3⟩, hb⟩
                  · rw [hr] at q1
                    cases congrArg Prod.fst q1
                clear RX hr HPR2 HMR2
                go_upto_region 32 with (first
                  | (go_at_call 14; refine Calls.mono FD.out ?_; rintro r wa ⟨rfl, hq⟩; have hq := hq.symm; subst hq)
                  | (go_at_call 15; refine Calls.mono FM.out ?_; rintro r wb ⟨rfl, hq⟩; have hq := hq.symm; subst hq)
                  | (go_at_call 16; refine Calls.mono RD.out ?_; rintro r wc ⟨⟨lo9, pb9, mb9, tv9, rfl, hp9, hz9, hu9⟩, hbc⟩)
                  | (go_at_call 17; refine Calls.mono (RM.out _) ?_; rintro r wd ⟨⟨lo8, qb8, mv8, rfl, hp8⟩, hbd⟩))
                have c9 := blk2 (block_at (W := wd) (.cells #[.int .i64 0, .int .i64 (-1)] 46) rfl)
                obtain ⟨d0, d1, _, _⟩ := c9
                have BD : Hid (Below w.heap.size w (wd.alloc (.cells #[.int .i64 0, .int .i64 (-1)] 46))) := below_then BWZ.out (below_then hbc (below_then hbd (below_alloc _ _)))
                have TQ : Hid (Calls _ _ _ _ _) := ptext_any lo9 pb9 mb9 tv9 us (wd.alloc (.cells #[.int .i64 0, .int .i64 (-1)] 46)) (HGN.out.step BD.out) (hp9.step (below_then hbd (below_alloc _ _))) (fun t ht => Nat.le_trans (hz9 t ht) (by omega)) hu9
                have TX : Hid (∀ W, Below (wd.alloc (.cells #[.int .i64 0, .int .i64 (-1)] 46)).heap.size (wd.alloc (.cells #[.int .i64 0, .int .i64 (-1)] 46)) W → Calls Tryz.prog 11 #[.pointer (some ⟨qb8, 0, none⟩)] W fun r w' => r = .returned (.string (bs (plT us))) ∧ Below W.heap.size W w') := fun W hW => mtext_pl lo8 qb8 mv8 us W (hp8.step (below_then (below_alloc _ _) hW)) hu9 hz9
                clear hp9 hp8 hz9 hu9 hbc hbd
                generalize bs (plT us) = tu at TQ TX
                generalize wd.alloc (.cells #[.int .i64 0, .int .i64 (-1)] 46) = w9 at d0 d1 BD TQ TX ⊢
                generalize wd.heap.size = f9 at d0 d1 ⊢
                go_wp2_with (first
                  | (go_at_call 10; refine Calls.mono TQ.out ?_; rintro r wy ⟨rfl, hby⟩)
                  | (go_at_call 11; refine Calls.mono (TX.out _ hby) ?_; rintro r wx ⟨rfl, hbx⟩))
                go_ret
                exact ⟨rfl, below_then BD.out (below_then hby hbx)⟩
              · have RD : Hid (Calls Tryz.prog 16 #[.string x] wz fun r w' => (1 ≤ k ∧ k ≤ 4 ∧ ∃ fb, r = .returned (.tuple #[.pointer none, .iface 70 (.pointer (some ⟨fb, 0, none⟩))]) ∧ w'.heap[fb]? = some (.cells #[.int .i64 n', perr (fiv s) k] 74 (0, 0))) ∧ Below wz.heap.size wz w') := by
                  refine Calls.mono HPR2.out ?_
                  rintro r w' ⟨q, hb⟩
                  rcases q with ⟨ts2, lo, pb, mb, tv2, q1, _⟩ | ⟨k2, n2, fb, q1, q2, q3, q4, q5, q6, q7⟩
                  · rw [hr] at q1
                    cases congrArg Prod.fst q1
                  · rw [hr] at q1
                    have e1 : k = k2 := congrArg (fun z => z.2.1) q1
                    have e2 : n' = n2 := congrArg (fun z => z.2.2) q1
                    subst e1 e2
                    exact ⟨⟨q2, q3, fb, q5, q7⟩, hb⟩
                have RM : Hid (∀ W, Calls Tryz.prog 17 #[.string x] W fun r w' => r = .returned (.tuple #[.pointer none, .agg #[.int .i64 (mcd k), .int .i64 n']]) ∧ Below W.heap.size W w') := fun W => by
                  refine Calls.mono (HMR2.out W) ?_
                  rintro r w' ⟨q, hb⟩
                  rcases q with ⟨ts2, lo, qb9, mv2, q1, _⟩ | ⟨k2, n2, q1, _, _, q2⟩
                  · rw [hr] at q1
                    cases congrArg Prod.fst q1
                  · rw [hr] at q1
                    have e1 : k = k2 := congrArg (fun z => z.2.1) q1
                    have e2 : n' = n2 := congrArg (fun z => z.2.2) q1
                    subst e1 e2
                    exact ⟨q2, hb⟩
                have HJ : Hid (1 ≤ k → k ≤ 4 → ∃ j : Nat, j < 11 ∧ mcd k = (j : Int) + 1 ∧ perr (fiv s) k = .iface 151 (.pointer (some (s j)))) := fun h1 h4 => by
                  match k, h1, h4 with
                  | 1, _, _ => exact ⟨0, by omega, rfl, rfl⟩
                  | 2, _, _ => exact ⟨1, by omega, rfl, rfl⟩
                  | 3, _, _ => exact ⟨5, by omega, rfl, rfl⟩
                  | 4, _, _ => exact ⟨6, by omega, rfl, rfl⟩
                clear RX hr HPR2 HMR2
                go_upto_region 31 with (first
                  | (go_at_call 14; refine Calls.mono FD.out ?_; rintro r wa ⟨rfl, hq⟩; have hq := hq.symm; subst hq)
                  | (go_at_call 15; refine Calls.mono FM.out ?_; rintro r wb ⟨rfl, hq⟩; have hq := hq.symm; subst hq)
                  | (go_at_call 16; refine Calls.mono RD.out ?_; rintro r wc ⟨⟨k1, k4, fb, rfl, hfb⟩, hbc⟩))
                obtain ⟨j, hj, hmj, hpj⟩ := HJ.out k1 k4
                rw [hpj] at hfb
                have RM2 : Hid (Calls _ _ _ _ _) := RM.out wc
                rw [hmj] at RM2
                have HFB : Hid (wc.heap[fb]? = some (.cells #[.int .i64 n', .iface 151 (.pointer (some (s j)))] 74 (0, 0))) := hfb
                have BC : Hid (Below w.heap.size w wc) := below_then BWZ.out hbc
                have hjp : (0 : Int) < (j : Int) + 1 := by omega
                clear RM hmj hpj hfb HJ hbc RD FD FM
                go_upto_region 32 with (go_at_call 17; refine Calls.mono RM2.out ?_; rintro r wd ⟨rfl, hbd⟩)
                have c9 := blk2 (block_at (W := wd) (.cells #[.int .i64 ((j : Int) + 1), .int .i64 (n' : Int)] 46) rfl)
                obtain ⟨d0, d1, _, _⟩ := c9
                have BD : Hid (Below w.heap.size w (wd.alloc (.cells #[.int .i64 ((j : Int) + 1), .int .i64 (n' : Int)] 46))) := below_then BC.out (below_then hbd (below_alloc _ _))
                have FA : Hid (Calls _ _ _ _ _) := faulted3_any s j fb (n' : Int) (wd.alloc (.cells #[.int .i64 ((j : Int) + 1), .int .i64 (n' : Int)] 46)) (HG.out.step BD.out) hj (block_alloc _ ((hbd.block _ (Array.getElem?_eq_some_iff.1 HFB.out).1).trans HFB.out))
                clear hbd
                generalize wd.alloc (.cells #[.int .i64 ((j : Int) + 1), .int .i64 (n' : Int)] 46) = w9 at d0 d1 BD FA ⊢
                generalize wd.heap.size = f9 at d0 d1 ⊢
                go_wp2_with (go_at_call 18; refine Calls.mono FA.out ?_; rintro r wy ⟨rfl, hby⟩)
                go_ret
                exact ⟨rfl, below_then BD.out hby⟩
end Go.Proofs.YtifbhedomcgonaaGreatDoor
