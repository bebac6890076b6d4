/- The law PackDeltas: deltas and packs by the document's answer, and how long they are. -/
import Derived.Test.YtbocknocmggcpaaGreatDoorPdLK
import Derived.Test.YtbocknocmggcpaaGreatDoorPdUK
namespace Go.Proofs.YtbocknocmggcpaaGreatDoor
open Go Go.RowKit Go.Sort Go.Maps Cal Pk
attribute [local go_sem] Oper.semAt_some

set_option maxHeartbeats 4000000 in
set_option maxRecDepth 100000 in
theorem packDeltas_all (xs : List ByteArray) (v : Value) (sn : Nat → Addr) (w : World) (g : GlobA sn w) (gn : GlobN w) (hX : TxK w v xs) :
    Calls Tryz.prog 3 #[v] w fun r w' => r = .returned (.bool true) ∧ RowKit.Below w.heap.size w w' := by
  have PK : Hid (Calls _ _ _ _ _) := packed_any sn w g
  have HX : Hid (TxK w v xs) := hX
  have HGN : Hid (GlobN w) := gn
  have LT : Hid (∀ W, RowKit.Below w.heap.size w W → Calls Tryz.prog 6 #[v] W fun r w' => ∃ b, r = .returned (.bool b) ∧ (b = false → xs.length ≤ 20 ∧ ∀ t ∈ xs, t.size ≤ 150) ∧ w' = W) := fun W hW => longTexts_any xs v W (hX.step hW)
  obtain ⟨a, cap, rfl, hcap, _⟩ := hX
  clear g gn
  go_enter Tryz.func3, Tryz.ntmps3
  go_wp2_with (first
    | (go_at_call 5; refine Calls.mono PK.out ?_; rintro r w1 ⟨rfl, hb1⟩)
    | (go_at_call 6; refine Calls.mono (LT.out _ hb1) ?_; rintro r w2 ⟨b, rfl, hlt, hq⟩; have hq := hq.symm; subst hq; have HLT : Hid (_) := hlt; clear hlt))
  · (try go_wp2)
    go_ret
    exact ⟨rfl, hb1⟩
  · have hbf : b = false := by assumption
    obtain ⟨hl, hz⟩ := HLT.out hbf
    subst hbf
    have HB1 : Hid (RowKit.Below w.heap.size w w1) := hb1
    have HZ : Hid (∀ t ∈ xs, t.size ≤ 150) := hz
    have hli : (xs.length : Int) ≤ 20 := by omega
    clear HLT hz LT PK hb1
    go_wp2
    go_loopw [4, 5, 6, 7, 8, 9, 10] (fun i _ _ _ _ _ _ wr => ∃ m : Nat, m ≤ xs.length ∧ i = .int .i64 m ∧ Hid (RowKit.Below w1.heap.size w1 wr)) (fun i _ _ _ _ _ _ _ => xs.length - (intOf i).toNat)
    case atStart => exact ⟨0, Nat.zero_le _, rfl, Below.refl _ _⟩
    case round =>
      obtain ⟨m, hm, rfl, HR⟩ := hrel
      have HW : Hid (∀ W, RowKit.Below w1.heap.size w1 W → RowKit.Below w.heap.size w W) := fun W hW => below_then HB1.out hW
      by_cases hlt : m + 1 < xs.length
      · have HC : Hid (∀ W, RowKit.Below w1.heap.size w1 W → ∃ ad : Addr, a = some ad ∧ W.cell? (ad.add m) = some (.string xs[m]) ∧ W.cell? (ad.add (m + 1)) = some (.string xs[m + 1])) := fun W hW => by
          obtain ⟨a2, c2, e, _, h3⟩ := HX.out.step (HW.out W hW)
          injection e with e1 _ _
          obtain ⟨ad, q1, _, q3⟩ := h3 m (by omega)
          obtain ⟨ad', q1', _, q3'⟩ := h3 (m + 1) hlt
          rw [q1] at q1'
          cases q1'
          exact ⟨ad, by rw [e1]; exact q1, q3, q3'⟩
        have hx : (xs[m]).size ≤ 150 := HZ.out _ (List.getElem_mem (by omega))
        have hy : (xs[m + 1]).size ≤ 150 := HZ.out _ (List.getElem_mem hlt)
        generalize xs[m] = x at HC hx
        generalize xs[m + 1] = y at HC hy
        have hxl : x.data.toList.length = x.size := (Lib.size_eq x).symm
        have hyl : y.data.toList.length = y.size := (Lib.size_eq y).symm
        have hye : bs y.data.toList = y := pl_ext (bs_data _)
        have d1 := dl_short x.data.toList y.data.toList (by omega) (by omega)
        have hap := (dl_apply x.data.toList y.data.toList (by omega) (by omega)).2
        obtain ⟨L, hL1, hL2, hL3⟩ := dl_ops x.data.toList y.data.toList (by omega) (by omega)
        have DX : Hid (∀ W, RowKit.Below w1.heap.size w1 W → Calls Tryz.prog 7 #[.string x, .string y] W fun r w' => r = .returned (.string (bs (dl x.data.toList y.data.toList))) ∧ RowKit.Below W.heap.size W w') := fun W hW => delta_any x y W (HGN.out.tab.step (HW.out W hW)) (by omega) (by omega)
        have AX : Hid (∀ W, Calls Tryz.prog 8 #[.string x, .string (bs (dl x.data.toList y.data.toList))] W fun r w' => r = .returned (.tuple #[.string y, .int .i64 0]) ∧ RowKit.Below W.heap.size W w') := fun W => by
          have q := applyOf_any x L y.data.toList hL1 hL2 (by omega) (by omega) (by rw [← hL3]; omega) W
          rw [hye, ← hL3] at q
          exact q
        have DE : Hid (∀ W, Calls Tryz.prog 9 #[.int .i64 (y.size : Int)] W fun e w' => e = .returned (.string (bs (Lib.itoa (y.size : Nat)))) ∧ RowKit.Below W.heap.size W w') := fun W => decimal_int0 y.size W (by omega)
        have hdz : (bs (dl x.data.toList y.data.toList)).size = (dl x.data.toList y.data.toList).length := by rw [Lib.size_eq, bs_data]
        have hiz : (bs (Lib.itoa (y.size : Nat))).size = (Lib.itoa (y.size : Nat)).length := by rw [Lib.size_eq, bs_data]
        have hil := itoa_len (y.size : Int) (by omega) (by omega)
        have hye0 : y.toList.isEmpty = true → (bs (dl x.data.toList y.data.toList)).size ≤ 0 := fun q => by
          rw [ByteArray.toList_eq, List.isEmpty_iff] at q
          rw [hdz]
          rw [if_pos q] at hap
          exact hap
        have hye1 : y.toList.isEmpty = false → (bs (dl x.data.toList y.data.toList)).size ≤ (bs (Lib.itoa (y.size : Nat))).size + y.size + 3 := fun q => by
          rw [ByteArray.toList_eq, List.isEmpty_eq_false_iff] at q
          rw [if_neg q, ownT_len, hyl] at hap
          rw [hdz, hiz]
          exact hap
        have hdl : ((bs (Lib.itoa (y.size : Nat))).size : Int) ≤ 10 := by omega
        clear d1 hxl hyl hye hap hL1 hL2 hL3 hdz hiz hil
        generalize bs (dl x.data.toList y.data.toList) = X1 at DX AX hye0 hye1
        generalize bs (Lib.itoa (y.size : Nat)) = X2 at DE hye1 hdl
        have g1 : (0 : Int) ≤ (m : Int) := by omega
        have g2 : (m : Int) < (xs.length : Int) := by omega
        have g3 : (m : Int) + 1 < (xs.length : Int) := by omega
        have g4 : (0 : Int) ≤ (m : Int) + 1 := by omega
        have g5 : ((m : Int) + 1).toNat = m + 1 := by omega
        obtain ⟨ad, rfl, hcell, hcell'⟩ := HC.out wr HR.out
        have hcell2 : wr.cell? ⟨ad.block, ad.off + (m + 1), none⟩ = some (.string y) := by
          have q := hcell'
          simpa [Addr.add] using q
        clear hcell'
        go_upto_region 12 with (first
          | (go_at_call 7; refine Calls.mono (DX.out wr HR.out) ?_; rintro r w3 ⟨rfl, hb3⟩; have B3 : Hid (RowKit.Below w1.heap.size w1 w3) := below_then HR.out hb3; clear hb3)
          | (go_at_call 8; refine Calls.mono (AX.out w3) ?_; rintro r w4 ⟨rfl, hb4⟩; have B4 : Hid (RowKit.Below w1.heap.size w1 w4) := below_then B3.out hb4; clear hb4))
        cases hye : y.toList.isEmpty with
        | true =>
          have hq := hye0 hye
          have hqi : (X1.size : Int) ≤ 0 := by omega
          clear hye0 hye1
          go_wp2
          refine ⟨⟨m + 1, by omega, by go_num, B4.out⟩, ?_⟩
          simp [intOf]; omega
        | false =>
          have hq := hye1 hye
          have hqi : (X1.size : Int) ≤ (X2.size : Int) + (y.size : Int) + 3 := by omega
          have hyi : (y.size : Int) ≤ 150 := by omega
          clear hye0 hye1
          go_wp2_with (go_at_call 9; refine Calls.mono (DE.out w4) ?_; rintro r w5 ⟨rfl, hb5⟩; have B5 : Hid (RowKit.Below w1.heap.size w1 w5) := below_then B4.out hb5; clear hb5)
          refine ⟨⟨m + 1, by omega, by go_num, B5.out⟩, ?_⟩
          simp [intOf]; omega
      · have g2 : (xs.length : Int) ≤ (m : Int) + 1 := by omega
        have PO : Hid (Calls _ _ _ _ _) := poolOf_tie xs (.slice a xs.length cap) wr (HX.out.step (HW.out wr HR.out)) hl HZ.out
        go_upto_region 17 with (go_at_call 10; refine Calls.mono PO.out ?_; rintro r w2 ⟨qb, ts, tv, mv, rfl, hpm, htl, htz⟩)
        have HPM : Hid (PM wr w2 qb ts ts tv mv) := hpm
        have HTZ : Hid (∀ t ∈ ts, t.size ≤ 150) := htz
        have B2 : Hid (RowKit.Below w1.heap.size w1 w2) := below_then HR.out hpm.bw
        have hpl := pkE_len (dts ts) [] 150 (by omega) (fun x hx => by
          obtain ⟨t, q1, rfl⟩ := List.mem_map.1 hx
          rw [← Lib.size_eq]; exact htz t q1)
        rw [List.length_map] at hpl
        have hpz : (pkE [] (dts ts)).length ≤ 900000 := Nat.le_trans hpl (Nat.le_trans (Nat.mul_le_mul_right _ htl) (by omega))
        have hnd := hpm.p.nodupK
        have htz2 : ∀ t ∈ ts, t.size ≤ 9999 := fun t q => by have := htz t q; omega
        have htz3 : ∀ t ∈ ts, t.size ≤ 10000 := fun t q => by have := htz t q; omega
        have PA : Hid (Calls Tryz.prog 11 #[.pointer (some ⟨wr.heap.size + 1, 0, none⟩)] w2 fun r w' => r = .returned (.string (bs (pkE [] (dts ts)))) ∧ RowKit.Below w2.heap.size w2 w') := pack_any _ _ _ tv ts w2 hpm.p (HGN.out.tab.step (HW.out _ B2.out)) (by omega) htz3
        have UN : Hid (∀ W : World, Calls Tryz.prog 12 #[.string (bs (pkE [] (dts ts)))] W fun r w' => ∃ (mv : Value), r = .returned (.tuple #[.pointer (some ⟨W.heap.size + 1, 0, none⟩), .agg #[.int .i64 0, .int .i64 (-1)]]) ∧ MPl (W.heap.size + 2) w' (W.heap.size + 1) mv ts ∧ RowKit.Below W.heap.size W w') := fun W => unpackOf_any ts hnd htz3 (by omega) hpz W
        have TX : Hid (∀ (lo qb : Nat) (mv : Value) (W : World), MPl lo W qb mv ts → Calls Tryz.prog 13 #[.pointer (some ⟨qb, 0, none⟩)] W fun r w' => r = .returned (.string (bs (plT ts))) ∧ RowKit.Below W.heap.size W w') := fun lo qb mv W h => mtext_pl lo qb mv ts W h (by omega) htz2
        have hlen : (bs (pkE [] (dts ts))).size ≤ (bs (plT ts)).size + ts.length := by
          rw [Lib.size_eq, Lib.size_eq, bs_data, bs_data]
          exact pkE_lenT ts []
        have hpt : (bs (plT ts)).size ≤ 900000 := by
          have q := plT_len (ts := ts) (B := 150) (by omega) htz
          rw [Lib.size_eq, bs_data]
          exact Nat.le_trans q (Nat.le_trans (Nat.mul_le_mul_right _ htl) (by omega))
        clear PO hpl hpz hnd htz2 htz3 htz
        generalize bs (pkE [] (dts ts)) = SP at PA UN hlen
        generalize bs (plT ts) = TP at TX hlen hpt
        go_upto_region 20 with (go_at_call 11; refine Calls.mono PA.out ?_; rintro r w3 ⟨rfl, hb3⟩; have B3 : Hid (RowKit.Below w2.heap.size w2 w3) := hb3; clear hb3)
        go_upto_region 21 with (go_at_call 12; refine Calls.mono (UN.out w3) ?_; rintro r w4 ⟨mv4, rfl, hm4, hb4⟩; have HM4 : Hid (MPl (w3.heap.size + 2) w4 (w3.heap.size + 1) mv4 ts) := hm4; have B4 : Hid (RowKit.Below w3.heap.size w3 w4) := hb4; clear hm4 hb4)
        have hA := below_alloc w4 (.cells #[.int .i64 0, .int .i64 (-1)] 35)
        have B5 : Hid (RowKit.Below w1.heap.size w1 (w4.alloc (.cells #[.int .i64 0, .int .i64 (-1)] 35))) := below_then B2.out (below_then B3.out (below_then B4.out hA))
        have M4 : Hid (MPl (w3.heap.size + 2) (w4.alloc (.cells #[.int .i64 0, .int .i64 (-1)] 35)) (w3.heap.size + 1) mv4 ts) := HM4.out.step hA
        have M2 : Hid (MPl (qb + 1) (w4.alloc (.cells #[.int .i64 0, .int .i64 (-1)] 35)) qb mv ts) := ((HPM.out.m.step B3.out).step B4.out).step hA
        have c0 : (w4.alloc (.cells #[.int .i64 0, .int .i64 (-1)] 35)).cell? ⟨w4.heap.size, 0, none⟩ = some (.int .i64 0) := by simp
        clear hA UN PA HM4 B2 B3 B4
        generalize w4.alloc (.cells #[.int .i64 0, .int .i64 (-1)] 35) = w5 at B5 M4 M2 c0 ⊢
        generalize w4.heap.size = fb at c0 ⊢
        generalize w3.heap.size = qa at M4 ⊢
        have cm := M2.out.cell
        obtain ⟨ma, mc, rfl, _⟩ := M2.out.form
        have Y0 := cell_regrown c0
        have Y1 := cell_regrown cm
        have D1 : Hid (∀ d os, Calls Tryz.prog 13 #[.pointer (some ⟨qa + 1, 0, none⟩)] (grow (redrawn w5 d) os) fun r w'' => r = .returned (.string TP) ∧ ∃ p : Regrown, w'' = grow (redrawn w5 p.d) p.os) := fun d os => Calls.regrown_of (TX.out _ _ _ _ (M4.out.step (below_regrown _ _ _)))
        have D2 : Hid (∀ d os, Calls Tryz.prog 13 #[.pointer (some ⟨qb, 0, none⟩)] (grow (redrawn w5 d) os) fun r w'' => r = .returned (.string TP) ∧ ∃ p : Regrown, w'' = grow (redrawn w5 p.d) p.os) := fun d os => Calls.regrown_of (TX.out _ _ _ _ (M2.out.step (below_regrown _ _ _)))
        have hsum : IntKind.i64.wrap ((TP.size : Int) + (ts.length : Int)) = (TP.size : Int) + (ts.length : Int) := by rw [IntKind.wrap_i64]; omega
        have hle : (SP.size : Int) ≤ (TP.size : Int) + (ts.length : Int) := by omega
        clear TX HPM c0 cm M4 M2 hlen hpt
        refine wp_region_quiet_below (by kernel_rfl) (by kernel_rfl) ?_
        repeat (quiet_step (fail))
        quiet_step ((go_at_call 13; exact D1.out _ _))
        repeat (quiet_step (fail))
        quiet_step ((go_at_call 13; exact D2.out _ _))
        repeat (quiet_step (fail))
        quiet_step ((go_at_call 13; exact D2.out _ _))
        repeat (quiet_step (fail))
        refine wpQuiet_nil ?_
        intro W6 hw'
        have hb6 : RowKit.Below w5.heap.size w5 W6 := by
          obtain ⟨⟨dq, osq⟩, hw''⟩ := hw'
          subst hw''
          exact below_regrown _ _ _
        have B6 : Hid (RowKit.Below w.heap.size w W6) := HW.out _ (below_then B5.out hb6)
        clear hw' Y0 Y1 D1 D2 hb6
        go_wp2
        go_ret
        exact ⟨rfl, B6.out⟩
end Go.Proofs.YtbocknocmggcpaaGreatDoor
