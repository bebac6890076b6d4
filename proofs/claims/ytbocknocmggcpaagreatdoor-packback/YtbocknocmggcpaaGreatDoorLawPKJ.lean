/- The law PackBack: what was packed is unpacked, and packed again is the same; what a delta makes is what it was made for. -/
import Derived.Test.YtbocknocmggcpaaGreatDoorPaLJ
namespace Go.Proofs.YtbocknocmggcpaaGreatDoor
open Go Go.RowKit Go.Sort Go.Maps Cal Pk
attribute [local go_sem] Oper.semAt_some

set_option maxHeartbeats 4000000 in
set_option maxRecDepth 100000 in
theorem packBack_all (xs : List ByteArray) (v : Value) (sn : Nat → Addr) (w : World) (g : GlobA sn w) (gp : GlobP sn w) (gn : GlobN w) (hX : TxK w v xs) :
    Calls Tryz.prog 4 #[v] w fun r w' => r = .returned (.bool true) ∧ RowKit.Below w.heap.size w w' := by
  have PK : Hid (Calls _ _ _ _ _) := packed_any sn w g
  have HX : Hid (TxK w v xs) := hX
  have HG : Hid (GlobA sn w) := g
  have HGP : Hid (GlobP sn w) := gp
  have HGN : Hid (GlobN w) := gn
  have LT : Hid (∀ W, RowKit.Below w.heap.size w W → Calls Tryz.prog 6 #[v] W fun r w' => ∃ b, r = .returned (.bool b) ∧ (b = false → xs.length ≤ 20 ∧ ∀ t ∈ xs, t.size ≤ 150) ∧ w' = W) := fun W hW => longTexts_any xs v W (hX.step hW)
  obtain ⟨a, cap, rfl, hcap, _⟩ := hX
  clear g gp gn
  go_enter Tryz.func4, Tryz.ntmps4
  go_wp2_with (first
    | (go_at_call 5; refine Calls.mono PK.out ?_; rintro r w1 ⟨rfl, hb1⟩)
    | (go_at_call 6; refine Calls.mono (LT.out _ hb1) ?_; rintro r w2 ⟨b, rfl, hlt, hq⟩; have hq := hq.symm; subst hq; have HLT : Hid (_) := hlt; clear hlt))
  · (try go_wp2)
    go_ret
    exact ⟨rfl, hb1⟩
  · have hbf : b = false := by assumption
    obtain ⟨hl, hz⟩ := HLT.out hbf
    subst hbf
    have HB1 : Hid (RowKit.Below w.heap.size w w1) := hb1
    have PO : Hid (Calls _ _ _ _ _) := poolOf_any xs (.slice a xs.length cap) w1 (HX.out.step hb1) hl hz
    have HZ : Hid (∀ t ∈ xs, t.size ≤ 150) := hz
    clear HLT hz LT PK hb1
    go_upto_region 5 with (go_at_call 10; refine Calls.mono PO.out ?_; rintro r w2 ⟨⟨qb, rfl⟩, ⟨ts, tv, hp2, htl, htz⟩, hb2⟩)
    have B2 : Hid (RowKit.Below w.heap.size w w2) := below_then HB1.out hb2
    have HTZ : Hid (∀ t ∈ ts, t.size ≤ 150) := htz
    have hpl := pkE_len (ts.map fun t => t.data.toList) [] 150 (by omega) (fun x hx => by
      obtain ⟨t, q1, rfl⟩ := List.mem_map.1 hx
      rw [← Lib.size_eq]; exact htz t q1)
    rw [List.length_map] at hpl
    have hpz : (pkE [] (ts.map fun t => t.data.toList)).length ≤ 1000000 := Nat.le_trans hpl (Nat.le_trans (Nat.mul_le_mul_right _ htl) (by omega))
    have hnd := hp2.nodupK
    have HP2 : Hid (PoolAt (w1.heap.size + 2) w2 (w1.heap.size + 1) w1.heap.size tv ts) := hp2
    have PA : Hid (∀ W, RowKit.Below w2.heap.size w2 W → Calls Tryz.prog 11 #[.pointer (some ⟨w1.heap.size + 1, 0, none⟩)] W fun r w' => r = .returned (.string (bs (pkE [] (ts.map fun t => t.data.toList)))) ∧ RowKit.Below W.heap.size W w') := fun W hW => pack_any _ _ _ tv ts W (HP2.out.step hW) (HGN.out.tab.step (below_then B2.out hW)) (by omega) (fun t q => by have := HTZ.out t q; omega)
    have UN : Hid (∀ W, RowKit.Below w2.heap.size w2 W → Calls Tryz.prog 14 #[.string (bs (pkE [] (ts.map fun t => t.data.toList)))] W fun r w' => r = .returned (.tuple #[.pointer (some ⟨W.heap.size + 1, 0, none⟩), .nilIface]) ∧ (∃ tv, PoolAt (W.heap.size + 2) w' (W.heap.size + 1) W.heap.size tv ts) ∧ RowKit.Below W.heap.size W w') := fun W hW => unpack_pk ts sn W (HG.out.step (below_then B2.out hW)) (HGP.out.step (below_then B2.out hW)) (by omega) (fun t q => by have := HTZ.out t q; omega) hnd hpz
    clear PO hpl hpz hnd hp2 htz hb2
    generalize bs (pkE [] (ts.map fun t => t.data.toList)) = SP at PA UN
    go_wp2_with (first
      | (go_at_call 11; refine Calls.mono (PA.out w2 (Below.refl _ _)) ?_; rintro r w3 ⟨rfl, hb3⟩)
      | (go_at_call 14; refine Calls.mono (UN.out w3 hb3) ?_; rintro r w4 ⟨rfl, ⟨tv4, hp4⟩, hb4⟩; have HP4 : Hid (PoolAt (w3.heap.size + 2) w4 (w3.heap.size + 1) w3.heap.size tv4 ts) := hp4; have B4 : Hid (RowKit.Below w2.heap.size w2 w4) := below_then hb3 hb4; clear hp4 hb4 hb3))
    go_loopw [8, 9, 10, 11, 12] (fun i _ _ _ _ wr => ∃ m : Nat, m ≤ xs.length ∧ i = .int .i64 m ∧ Hid (RowKit.Below w4.heap.size w4 wr)) (fun i _ _ _ _ _ => xs.length - (intOf i).toNat)
    case atStart => exact ⟨0, Nat.zero_le _, rfl, Below.refl _ _⟩
    case round =>
      obtain ⟨m, hm, rfl, HR⟩ := hrel
      have HW : Hid (∀ W, RowKit.Below w4.heap.size w4 W → RowKit.Below w.heap.size w W) := fun W hW => below_then B2.out (below_then B4.out hW)
      by_cases hlt : m < xs.length
      · have HC : Hid (∀ W, RowKit.Below w4.heap.size w4 W → ∃ ad : Addr, a = some ad ∧ W.cell? (ad.add m) = some (.string xs[m])) := fun W hW => by
          obtain ⟨a2, c2, e, _, h3⟩ := HX.out.step (HW.out W hW)
          injection e with e1 _ _
          obtain ⟨ad, q1, _, q3⟩ := h3 m hlt
          exact ⟨ad, by rw [e1]; exact q1, q3⟩
        have hx : (xs[m]).size ≤ 150 := HZ.out _ (List.getElem_mem hlt)
        generalize xs[m] = x at HC hx
        have hxl : x.data.toList.length = x.size := (Lib.size_eq x).symm
        have hxe : bs x.data.toList = x := pl_ext (bs_data _)
        have d1 := dl_short x.data.toList x.data.toList (by omega) (by omega)
        have d2 := dl_short [] x.data.toList (by simp) (by omega)
        have DX : Hid (∀ W, RowKit.Below w4.heap.size w4 W → Calls Tryz.prog 7 #[.string x, .string x] W fun r w' => r = .returned (.string (bs (dl x.data.toList x.data.toList))) ∧ RowKit.Below W.heap.size W w') := fun W hW => delta_any x x W (HGN.out.tab.step (HW.out W hW)) (by omega) (by omega)
        have DY : Hid (∀ W, RowKit.Below w4.heap.size w4 W → Calls Tryz.prog 7 #[.string ⟨#[]⟩, .string x] W fun r w' => r = .returned (.string (bs (dl [] x.data.toList))) ∧ RowKit.Below W.heap.size W w') := fun W hW => delta_any ⟨#[]⟩ x W (HGN.out.tab.step (HW.out W hW)) (by decide) (by omega)
        have AX : Hid (∀ W, RowKit.Below w4.heap.size w4 W → Calls Tryz.prog 15 #[.string x, .string (bs (dl x.data.toList x.data.toList))] W fun r w' => r = .returned (.tuple #[.string x, .nilIface]) ∧ RowKit.Below W.heap.size W w') := fun W hW => by
          have := apply_any x.data.toList (dl x.data.toList x.data.toList) sn W (HG.out.step (HW.out W hW)) (by omega) (by omega)
          rw [(dl_apply x.data.toList x.data.toList (by omega) (by omega)).1, hxe] at this
          exact this
        have AY : Hid (∀ W, RowKit.Below w4.heap.size w4 W → Calls Tryz.prog 15 #[.string ⟨#[]⟩, .string (bs (dl [] x.data.toList))] W fun r w' => r = .returned (.tuple #[.string x, .nilIface]) ∧ RowKit.Below W.heap.size W w') := fun W hW => by
          have := apply_any [] (dl [] x.data.toList) sn W (HG.out.step (HW.out W hW)) (by simp) (by omega)
          rw [(dl_apply [] x.data.toList (by simp) (by omega)).1, hxe] at this
          exact this
        clear d1 d2 hxl hxe
        generalize bs (dl x.data.toList x.data.toList) = X1 at DX AX
        generalize bs (dl [] x.data.toList) = X2 at DY AY
        have g1 : (0 : Int) ≤ (m : Int) := by omega
        have g2 : (m : Int) < (xs.length : Int) := by omega
        obtain ⟨ad, rfl, hcell⟩ := HC.out wr HR.out
        go_upto_region 13 with (fail)
        have Y0 := cell_regrown hcell
        have D1 : Hid (∀ d os, Calls Tryz.prog 7 #[.string x, .string x] (grow (redrawn wr d) os) fun r w'' => r = .returned (.string X1) ∧ ∃ p : Regrown, w'' = grow (redrawn wr p.d) p.os) := fun d os => Calls.regrown_of (DX.out _ (below_then HR.out (below_regrown _ _ _)))
        have D2 : Hid (∀ d os, Calls Tryz.prog 15 #[.string x, .string X1] (grow (redrawn wr d) os) fun r w'' => r = .returned (.tuple #[.string x, .nilIface]) ∧ ∃ p : Regrown, w'' = grow (redrawn wr p.d) p.os) := fun d os => Calls.regrown_of (AX.out _ (below_then HR.out (below_regrown _ _ _)))
        refine wp_region_quiet_below (by kernel_rfl) (by kernel_rfl) ?_
        repeat (quiet_step (first | (go_at_call 7; exact D1.out _ _) | (go_at_call 15; exact D2.out _ _)))
        refine wpQuiet_nil ?_
        intro W5 hw'
        have hb5 : RowKit.Below wr.heap.size wr W5 := by
          obtain ⟨⟨dq, osq⟩, hw''⟩ := hw'
          subst hw''
          exact below_regrown _ _ _
        have B5 : Hid (RowKit.Below w4.heap.size w4 W5) := below_then HR.out hb5
        clear hw' Y0 D1 D2 hb5 HR hcell
        obtain ⟨ad2, e2, hcell⟩ := HC.out W5 B5.out
        obtain rfl : ad = ad2 := Option.some.inj e2
        clear e2
        go_wp2_with (first
          | (go_at_call 7; refine Calls.mono (DY.out W5 B5.out) ?_; rintro r w6 ⟨rfl, hb6⟩; have B6 : Hid (RowKit.Below w4.heap.size w4 w6) := below_then B5.out hb6; clear hb6)
          | (go_at_call 15; refine Calls.mono (AY.out w6 B6.out) ?_; rintro r w7 ⟨rfl, hb7⟩; have B7 : Hid (RowKit.Below w4.heap.size w4 w7) := below_then B6.out hb7; clear hb7; have hcell7 : w7.cell? (ad.add m) = some (.string x) := (by obtain ⟨ad3, e3, q⟩ := HC.out w7 B7.out; cases e3; exact q)))
        go_roundw
        case rel => exact ⟨m + 1, by omega, by go_num, B7.out⟩
        case measure => simp [intOf]; omega
      · have g2 : (xs.length : Int) ≤ (m : Int) := by omega
        have hts : ∀ t ∈ ts, t.size ≤ 10000 := fun t q => by have := HTZ.out t q; omega
        have T1 : Hid (∀ W, RowKit.Below w4.heap.size w4 W → Calls Tryz.prog 16 #[.pointer (some ⟨w3.heap.size + 1, 0, none⟩)] W fun r w' => r = .returned (.string (bs (plT ts))) ∧ RowKit.Below W.heap.size W w') := fun W hW => ptext_any _ _ _ tv4 ts W (HGN.out.step (HW.out W hW)) (HP4.out.step hW) hts (by omega)
        have T2 : Hid (∀ W, RowKit.Below w4.heap.size w4 W → Calls Tryz.prog 16 #[.pointer (some ⟨w1.heap.size + 1, 0, none⟩)] W fun r w' => r = .returned (.string (bs (plT ts))) ∧ RowKit.Below W.heap.size W w') := fun W hW => ptext_any _ _ _ tv ts W (HGN.out.step (HW.out W hW)) (HP2.out.step (below_then B4.out hW)) hts (by omega)
        have P1 : Hid (∀ W, RowKit.Below w4.heap.size w4 W → Calls Tryz.prog 11 #[.pointer (some ⟨w3.heap.size + 1, 0, none⟩)] W fun r w' => r = .returned (.string (bs (pkE [] (ts.map fun t => t.data.toList)))) ∧ RowKit.Below W.heap.size W w') := fun W hW => pack_any _ _ _ tv4 ts W (HP4.out.step hW) (HGN.out.tab.step (HW.out W hW)) (by omega) hts
        have P2 : Hid (∀ W, RowKit.Below w4.heap.size w4 W → Calls Tryz.prog 11 #[.pointer (some ⟨w1.heap.size + 1, 0, none⟩)] W fun r w' => r = .returned (.string (bs (pkE [] (ts.map fun t => t.data.toList)))) ∧ RowKit.Below W.heap.size W w') := fun W hW => pack_any _ _ _ tv ts W (HP2.out.step (below_then B4.out hW)) (HGN.out.tab.step (HW.out W hW)) (by omega) hts
        clear hts PA UN
        generalize bs (pkE [] (ts.map fun t => t.data.toList)) = Z1 at P1 P2
        generalize bs (plT ts) = Z2 at T1 T2
        have R0 : Hid (RowKit.Below w4.heap.size w4 wr) := HR.out
        go_wp2_with fail
        refine Calls.mono (T1.out wr R0.out) ?_
        rintro r w5 ⟨rfl, hb5⟩
        have B5 : Hid (RowKit.Below w4.heap.size w4 w5) := below_then R0.out hb5
        clear hb5
        go_wp2_with fail
        refine Calls.mono (T2.out w5 B5.out) ?_
        rintro r w6 ⟨rfl, hb6⟩
        have B6 : Hid (RowKit.Below w4.heap.size w4 w6) := below_then B5.out hb6
        clear hb6
        go_wp2_with fail
        refine Calls.mono (P1.out w6 B6.out) ?_
        rintro r w7 ⟨rfl, hb7⟩
        have B7 : Hid (RowKit.Below w4.heap.size w4 w7) := below_then B6.out hb7
        clear hb7
        go_wp2_with fail
        refine Calls.mono (P2.out w7 B7.out) ?_
        rintro r w8 ⟨rfl, hb8⟩
        have B8 : Hid (RowKit.Below w4.heap.size w4 w8) := below_then B7.out hb8
        clear hb8
        go_wp2
        go_ret
        exact ⟨rfl, HW.out _ B8.out⟩
end Go.Proofs.YtbocknocmggcpaaGreatDoor
