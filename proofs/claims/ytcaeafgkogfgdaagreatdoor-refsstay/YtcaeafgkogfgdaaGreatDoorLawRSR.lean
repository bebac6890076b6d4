/- The law RefsStay, walked. -/
import Derived.Test.YtcaeafgkogfgdaaGreatDoorRsJR
import Derived.Deep.RegionHeld3
import Derived.Deep.DeepCutAuto
namespace Go.Proofs.YtcaeafgkogfgdaaGreatDoor
open Go Go.RowKit Go.Maps Go.Sort Go.Shelf Cal
attribute [local go_sem] Oper.semAt_some

set_option maxHeartbeats 8000000 in
set_option maxRecDepth 100000 in
theorem refsStay_any (Ks : List RA) (v : Value) (cut t : Int) (s : Nat → Addr) (w : World) (gf : GlobF s w) (gn : GlobN w) (h : RActs w v Ks) :
    Calls Tryz.prog 3 #[v, .int .i64 cut, .int .i64 t] w fun r w' => r = .returned (.bool true) ∧ Below w.heap.size w w' := by
  have RF : Hid (Calls _ _ _ _ _) := referred_any s w gf gn
  obtain ⟨a, c, rfl, hl, hcap, hc⟩ := h
  by_cases h60 : 60 < Ks.length
  · clear hc gf gn
    go_enter Tryz.func3, Tryz.ntmps3
    go_wp2_with (go_at_call 4; refine Calls.mono RF.out ?_; rintro r w1 ⟨rfl, hb1⟩)
    go_ret
    exact ⟨rfl, hb1⟩
  by_cases h0 : cut < 0
  · clear hc gf gn
    go_enter Tryz.func3, Tryz.ntmps3
    go_wp2_with (go_at_call 4; refine Calls.mono RF.out ?_; rintro r w1 ⟨rfl, hb1⟩)
    go_ret
    exact ⟨rfl, hb1⟩
  by_cases hcl : (Ks.length : Int) < cut
  · clear hc gf gn
    go_enter Tryz.func3, Tryz.ntmps3
    go_wp2_with (go_at_call 4; refine Calls.mono RF.out ?_; rintro r w1 ⟨rfl, hb1⟩)
    go_ret
    exact ⟨rfl, hb1⟩
  have hK60 : Ks.length ≤ 60 := by omega
  have hc0 : 0 ≤ cut := by omega
  have hcl' : cut ≤ (Ks.length : Int) := by omega
  have HC : Hid (∀ (j : Nat) (h : j < Ks.length), ∃ ad : Addr, a = some ad ∧ Ks[j].nm.size ≤ 1000000000000000 ∧ RActA w (ad.add (j * 5)) Ks[j]) := hc
  have HGF : Hid (GlobF s w) := gf
  have HGN : Hid (GlobN w) := gn
  have NW : Hid (∀ W, Below w.heap.size w W → Calls Tryz.prog 5 #[] W fun r w' => ∃ lo rb mb, r = .returned (.pointer (some ⟨rb, 0, none⟩)) ∧ RSt w w' lo rb mb 0 [] (fun _ => []) 0 ∧ Below W.heap.size W w') := fun W hW => rsnew_from w W hW
  clear hc gf gn h60 h0 hcl
  go_enter Tryz.func3, Tryz.ntmps3
  go_wp2_with (first
    | (go_at_call 4; refine Calls.mono RF.out ?_; rintro r w1 ⟨rfl, hb1⟩)
    | (go_at_call 5; refine Calls.mono (NW.out _ hb1) ?_; rintro r w2 ⟨lo, rb, mb, rfl, hst2, _⟩))
  have HS2 : Hid (RSt w w2 lo rb mb 0 [] (fun _ => []) 0) := hst2
  clear hst2 RF NW hb1
  go_loopw [9, 10, 11] (fun v9 v10 i wr => ∃ (m n : Nat) (ns : List ByteArray) (L : ByteArray → List (Int × Int)) (N : List ByteArray), i = .int .i64 m ∧ m ≤ Ks.length ∧ Hid (RSt w wr lo rb mb n ns L m) ∧ Hid (Ph w t wr L v9 v10 N) ∧ Hid ((m : Int) ≤ cut → N = [])) (fun _ _ i _ => Ks.length - (intOf i).toNat)
  case atStart => exact ⟨0, 0, [], fun _ => [], [], rfl, Nat.zero_le _, HS2.out, Ph.none _ _ _ _, fun _ => rfl⟩
  case round =>
    obtain ⟨m, n, ns, L, N, rfl, hm, HS, HP, HN⟩ := hrel
    clear HS2
    by_cases hlt : m < Ks.length
    · obtain ⟨ad, rfl, hnz, hA0⟩ := HC.out m hlt
      have hA := hA0.step HS.out.b
      have HA : Hid (∀ W, Below w.heap.size w W → RActA W (ad.add (m * 5)) Ks[m]) := fun W hW => hA0.step hW
      clear HC hA0
      generalize Ks[m] = K at hnz hA HA
      obtain ⟨kd, nm, old, to_, at_⟩ := K
      obtain ⟨x0, x1, x2, x3, x4⟩ := hA
      dsimp only at hnz x0 x1 x2 x3 x4
      by_cases h30 : (30 : Int) < (nm.size : Int)
      · have HB : Hid (Below w.heap.size w wr) := HS.out.b
        clear HS HP HN HA
        go_wp2
        go_ret
        exact ⟨rfl, HB.out⟩
      have hn30 : nm.size ≤ 30 := by omega
      have hmI : (m : Int) ≤ 60 := by omega
      go_upto_if 57 with (fail)
      go_cut [9, 10] (fun v9 v10 wx => ∃ N, Hid (RSt w wx lo rb mb n ns L m) ∧ Hid (Ph w t wx L v9 v10 N) ∧ Hid ((m : Int) < cut → N = []))
      case first =>
        by_cases hcm : (m : Int) = cut
        · have hN : N = [] := HN.out (by omega)
          have hcb : ((m : Int) == cut) = true := by rw [beq_iff_eq]; exact hcm
          have HW0 : Hid (∃ v10, wr.ownsRow w.heap.size 3 1 v10 0 [] ∧ v10 = _) := ⟨_, by have := HP.out.o; rw [hN] at this; exact this, rfl⟩
          have NS : Hid (Calls _ _ _ _ _) := names_st w wr lo rb mb n m ns L HS.out (by omega)
          have HSN : Hid (∀ z ∈ lvs ns L, z.size ≤ 12) := fun z hz => okID_size (HS.out.wl.nm z (List.mem_filter.1 hz).1)
          have HSL : Hid ((lvs ns L).length ≤ 60) := by
            have h1 : (lvs ns L).length ≤ ns.length := List.length_filter_le _ _
            have h2 := HS.out.n2
            show _ ≤ _
            omega
          have AS : Hid (∀ (W : World) (z : ByteArray), RSt w W lo rb mb n ns L m → z.size ≤ 60 → Calls Tryz.prog 7 #[.pointer (some ⟨rb, 0, none⟩), .string z, .int .i64 t] W fun r w' => r = .returned (.tuple #[.int .i64 (ofV (asOf (L z) t)), .bool (!decide (asOf (L z) t = -1))]) ∧ Below W.heap.size W w') := fun W z hW hz => as_st w W lo rb mb n m ns L hW (by omega) z t hz
          obtain ⟨i0, hi, hz0, hz1, hz2⟩ := info_parts info_int
          have HXM : Hid (cut = (m : Int)) := hcm.symm
          clear HN HP HA x0 x1 x2 x3 x4 hcm
          generalize lvs ns L = N' at NS HSN HSL
          go_upto_region 16 with (go_at_call 6; refine Calls.mono NS.out ?_; rintro r w3 ⟨vn, rfl, hrv, hb3⟩; obtain ⟨na, nc, rfl⟩ := hrv.form)
          have HRV : Hid (RowV 0 w3 (.slice na N'.length nc) N') := hrv.base (Nat.zero_le _)
          have HS3 : Hid (RSt w w3 lo rb mb n ns L m) := HS.out.step hb3
          obtain ⟨w10, ho10, rfl⟩ := HW0.out
          have HO3 : Hid (w3.ownsRow w.heap.size 3 1 w10 0 []) := own_step ho10 hb3
          go_wp2
          go_loopw [10, 12] (fun v10 i wr => ∃ k : Nat, i = .int .i64 k ∧ k ≤ N'.length ∧ Hid (RSt w wr lo rb mb n ns L m) ∧ Hid (RowV 0 wr (.slice na N'.length nc) N') ∧ Hid (wr.ownsRow w.heap.size 3 1 v10 k ((N'.take k).map fun z => Value.int .i64 (asOf (L z) t)))) (fun _ i _ => N'.length - (intOf i).toNat)
          case atStart => exact ⟨0, rfl, Nat.zero_le _, HS3.out, HRV.out, HO3.out⟩
          case round =>
            obtain ⟨k, rfl, hk, HS, HRV, HO⟩ := hrel
            clear HS3 HO3
            by_cases hkl : k < N'.length
            · obtain ⟨b, rfl, hcell⟩ := rowV_cell HRV.out hkl
              have hzz := HSN.out N'[k] (List.getElem_mem hkl)
              have AZ := AS.out wr N'[k] HS.out (by omega)
              have HTK : Hid (((N'.take (k + 1)).map fun z => Value.int .i64 (asOf (L z) t)) = ((N'.take k).map fun z => Value.int .i64 (asOf (L z) t)) ++ [.int .i64 (asOf (L N'[k]) t)]) := by
                show _ = _
                rw [List.take_succ_eq_append_getElem hkl, List.map_append]; rfl
              have hN60 := HSL.out
              generalize N'[k] = z at hcell hzz AZ HTK
              generalize ((N'.take k).map fun z => Value.int .i64 (asOf (L z) t)) = xs at HO HTK
              generalize asOf (L z) t = x at AZ HTK
              clear AS
              by_cases hx : x = -1
              · subst hx
                have AZ2 : Hid (Calls _ _ _ _ _) := AZ
                clear AZ
                go_upto_region 22 with (go_at_call 7; refine Calls.mono AZ2.out ?_; rintro r w4 ⟨rfl, hb4⟩)
                have OW4 : Hid ((w4.alloc (.cells #[.int .i64 (-1)] 3)).ownsRow w.heap.size 3 1 u10 k (xs)) := (own_step HO.out hb4).alloc _
                have NC : Hid (∀ j u, ([.int .i64 (-1)] : List Value)[j]? = some u → (w4.alloc (.cells #[.int .i64 (-1)] 3)).cell? ((⟨w4.heap.size, 0, none⟩ : Addr).add j) = some u) := cell_one_new w4 (.int .i64 (-1)) 3
                have HS5 : Hid (RSt w (w4.alloc (.cells #[.int .i64 (-1)] 3)) lo rb mb n ns L m) := (HS.out.step hb4).step (below_alloc _ _)
                have HR5 : Hid (RowV 0 (w4.alloc (.cells #[.int .i64 (-1)] 3)) (.slice (some ⟨b, 0, none⟩) N'.length nc) N') := HRV.out.keptS (KeepS.then (KeepS.below hb4) (KeepS.below (below_alloc _ _)))
                have hbase : w.heap.size ≤ (w4.alloc (.cells #[.int .i64 (-1)] 3)).heap.size := HS5.out.b.size
                clear HO HS HRV
                go_wp2_with (at_builtin; refine wpList_append_own _ rfl _ _ 27 rfl w.heap.size 3 i0 (.int .i64 0) 1 8 Tryz.underlying27 hi hz0 hz1 hz2 rfl (by decide) _ _ _ rfl OW4.out ⟨w4.heap.size, 0, none⟩ 1 1 [.int .i64 (-1)] rfl rfl NC.out (fun v hv => by rw [List.mem_singleton.1 hv]; rfl) (by unfold maxLen; omega) (by omega) hbase ?_; intro v' w6 hown' hgrow _)
                have HS6 : Hid (RSt w w6 lo rb mb n ns L m) := HS5.out.ints OW4.out hgrow
                have HR6 : Hid (RowV 0 w6 (.slice (some ⟨b, 0, none⟩) N'.length nc) N') := HR5.out.ints OW4.out hgrow
                have HO6 : Hid (w6.ownsRow w.heap.size 3 1 v' (k + 1) ((N'.take (k + 1)).map fun z => Value.int .i64 (asOf (L z) t))) := by
                  show World.ownsRow _ _ _ _ _ _ _
                  rw [HTK.out]
                  exact hown'
                clear hown' hgrow
                go_roundw
                case rel => exact ⟨k + 1, by go_num, by omega, HS6.out, HR6.out, HO6.out⟩
                case measure => simp [intOf]; omega
              · rw [ofV_as hx, decide_eq_false hx] at AZ
                have AZ2 : Hid (Calls _ _ _ _ _) := AZ
                clear AZ
                go_upto_region 22 with (go_at_call 7; refine Calls.mono AZ2.out ?_; rintro r w4 ⟨rfl, hb4⟩)
                have OW4 : Hid ((w4.alloc (.cells #[.int .i64 x] 3)).ownsRow w.heap.size 3 1 u10 k (xs)) := (own_step HO.out hb4).alloc _
                have NC : Hid (∀ j u, ([.int .i64 x] : List Value)[j]? = some u → (w4.alloc (.cells #[.int .i64 x] 3)).cell? ((⟨w4.heap.size, 0, none⟩ : Addr).add j) = some u) := cell_one_new w4 (.int .i64 x) 3
                have HS5 : Hid (RSt w (w4.alloc (.cells #[.int .i64 x] 3)) lo rb mb n ns L m) := (HS.out.step hb4).step (below_alloc _ _)
                have HR5 : Hid (RowV 0 (w4.alloc (.cells #[.int .i64 x] 3)) (.slice (some ⟨b, 0, none⟩) N'.length nc) N') := HRV.out.keptS (KeepS.then (KeepS.below hb4) (KeepS.below (below_alloc _ _)))
                have hbase : w.heap.size ≤ (w4.alloc (.cells #[.int .i64 x] 3)).heap.size := HS5.out.b.size
                clear HO HS HRV
                go_wp2_with (at_builtin; refine wpList_append_own _ rfl _ _ 27 rfl w.heap.size 3 i0 (.int .i64 0) 1 8 Tryz.underlying27 hi hz0 hz1 hz2 rfl (by decide) _ _ _ rfl OW4.out ⟨w4.heap.size, 0, none⟩ 1 1 [.int .i64 x] rfl rfl NC.out (fun v hv => by rw [List.mem_singleton.1 hv]; rfl) (by unfold maxLen; omega) (by omega) hbase ?_; intro v' w6 hown' hgrow _)
                have HS6 : Hid (RSt w w6 lo rb mb n ns L m) := HS5.out.ints OW4.out hgrow
                have HR6 : Hid (RowV 0 w6 (.slice (some ⟨b, 0, none⟩) N'.length nc) N') := HR5.out.ints OW4.out hgrow
                have HO6 : Hid (w6.ownsRow w.heap.size 3 1 v' (k + 1) ((N'.take (k + 1)).map fun z => Value.int .i64 (asOf (L z) t))) := by
                  show World.ownsRow _ _ _ _ _ _ _
                  rw [HTK.out]
                  exact hown'
                clear hown' hgrow
                go_roundw
                case rel => exact ⟨k + 1, by go_num, by omega, HS6.out, HR6.out, HO6.out⟩
                case measure => simp [intOf]; omega
            · have hkk : N'.take k = N' := List.take_of_length_le (by omega)
              have HPH : Hid (Ph w t wr L (.slice na N'.length nc) u10 N') := by
                have := HO.out
                rw [hkk, show k = N'.length by omega] at this
                exact ⟨HRV.out, this, HSN.out, HSL.out⟩
              clear HO hkk AS
              go_wp2
              go_meet
              case rel => exact ⟨N', HS.out, HPH.out, fun q => by have := HXM.out; omega⟩
        · have hcb : ((m : Int) == cut) = false := by rw [beq_eq_false_iff_ne]; exact hcm
          have HNL : Hid ((m : Int) < cut → N = []) := fun q => HN.out (by omega)
          clear HN HA
          go_wp2
          go_meet
          case rel => exact ⟨N, HS.out, HP.out, HNL.out⟩
      case rest =>
        obtain ⟨N, HS, HP, HN⟩ := hcut
        obtain ⟨y0, y1, y2, y3, y4⟩ := HA.out wc HS.out.b
        dsimp only at y0 y1 y2 y3 y4
        by_cases hct : cut ≤ (m : Int) ∧ at_ ≤ t
        · obtain ⟨hct1, hct2⟩ := hct
          have HNL : Hid (((m + 1 : Nat) : Int) ≤ cut → N = []) := fun q => by omega
          have HSM : Hid (RSt w wc lo rb mb n ns L (m + 1)) := HS.out.more
          clear HN HS HA x0 x1 x2 x3 x4
          go_wp2
          go_roundw
          case rel => exact ⟨m + 1, n, ns, L, N, by go_num, by omega, HSM.out, HP.out, HNL.out⟩
          case measure => simp [intOf]; omega
        · have HLT : Hid (∀ L' : ByteArray → List (Int × Int), (∀ x u, u < at_ → asOf (L' x) u = asOf (L x) u) → ∀ z ∈ N, asOf (L' z) t = asOf (L z) t) := fun L' hL' z hz => by
            by_cases q : (m : Int) < cut
            · rw [HN.out q] at hz; cases hz
            · exact hL' z t (by omega)
          have HNL : Hid (((m + 1 : Nat) : Int) ≤ cut → N = []) := fun q => HN.out (by omega)
          have NX : Hid (∀ (w5 : World) (n' : Nat) (ns' : List ByteArray) (L' : ByteArray → List (Int × Int)) (v9 v10 : Value), Ph w t wc L v9 v10 N → RSt w w5 lo rb mb n' ns' L' (m + 1) → (∀ x u, u < at_ → asOf (L' x) u = asOf (L x) u) → KeepS wc w5 → ∃ (m' n' : Nat) (ns' : List ByteArray) (L' : ByteArray → List (Int × Int)) (N : List ByteArray), Value.int .i64 ((m : Int) + 1) = .int .i64 m' ∧ m' ≤ Ks.length ∧ Hid (RSt w w5 lo rb mb n' ns' L' m') ∧ Hid (Ph w t w5 L' v9 v10 N) ∧ Hid ((m' : Int) ≤ cut → N = [])) := fun w5 n' ns' L' v9 v10 hp h1 h2 h3 => ⟨m + 1, n', ns', L', N, rfl, by omega, h1, hp.keep h3 (HLT.out L' h2), HNL.out⟩
          have hct' : ¬ (cut ≤ (m : Int) ∧ at_ ≤ t) := hct
          clear HN HLT HNL x0 x1 x2 x3 x4 hct
          by_cases hkd : kd = ⟨#[115, 101, 116]⟩
          · subst hkd
            have SE : Hid (∀ W, RSt w W lo rb mb n ns L m → Calls Tryz.prog 8 #[.pointer (some ⟨rb, 0, none⟩), .string nm, .int .i64 old, .int .i64 to_, .int .i64 at_] W fun r w' => ∃ v n' ns' L', r = .returned v ∧ RSt w w' lo rb mb n' ns' L' (m + 1) ∧ (∀ x u, u < at_ → asOf (L' x) u = asOf (L x) u) ∧ KeepS W w') := fun W hW => rset_st w W lo rb mb n m ns L hW s (HGF.out.step hW.b) (by omega) nm old to_ at_ (by omega)
            have hS0 : (wc.drew).cell? ⟨(ad.add (m * 5)).block, (ad.add (m * 5)).off + 1, none⟩ = some (.string nm) ∧ (wc.drew).cell? ⟨(ad.add (m * 5)).block, (ad.add (m * 5)).off + 2, none⟩ = some (.int .i64 old) ∧ (wc.drew).cell? ⟨(ad.add (m * 5)).block, (ad.add (m * 5)).off + 3, none⟩ = some (.int .i64 to_) ∧ (wc.drew).cell? ⟨(ad.add (m * 5)).block, (ad.add (m * 5)).off + 4, none⟩ = some (.int .i64 at_) := by
              obtain ⟨_, z1, z2, z3, z4⟩ := HA.out wc.drew (below_then HS.out.b (drew_below _))
              exact ⟨z1, z2, z3, z4⟩
            have SED : Hid (Calls Tryz.prog 8 #[.pointer (some ⟨rb, 0, none⟩), .string nm, .int .i64 old, .int .i64 to_, .int .i64 at_] (World.drew wc) fun r w' => ∃ v, r = .returned v ∧ (w'.cell? ⟨(ad.add (m * 5)).block, (ad.add (m * 5)).off + 1, none⟩ = some (.string nm) ∧ w'.cell? ⟨(ad.add (m * 5)).block, (ad.add (m * 5)).off + 2, none⟩ = some (.int .i64 old) ∧ w'.cell? ⟨(ad.add (m * 5)).block, (ad.add (m * 5)).off + 3, none⟩ = some (.int .i64 to_) ∧ w'.cell? ⟨(ad.add (m * 5)).block, (ad.add (m * 5)).off + 4, none⟩ = some (.int .i64 at_)) ∧ ∃ n' ns' L', RSt w w' lo rb mb n' ns' L' (m + 1) ∧ (∀ x u, u < at_ → asOf (L' x) u = asOf (L x) u) ∧ KeepS wc w') := by
              refine Calls.mono (SE.out _ (HS.out.step (drew_below _))) ?_
              rintro r w' ⟨v, n', ns', L', rfl, z1, z2, z3⟩
              obtain ⟨_, c1, c2, c3, c4⟩ := HA.out w' z1.b
              exact ⟨v, rfl, ⟨c1, c2, c3, c4⟩, n', ns', L', z1, z2, KeepS.then (KeepS.below (drew_below _)) z3⟩
            clear SE HA
            go_upto_region 25 with (fail)
            all_goals
              go_region_held3 (fun W' => W'.cell? ⟨(ad.add (m * 5)).block, (ad.add (m * 5)).off + 1, none⟩ = some (.string nm) ∧ W'.cell? ⟨(ad.add (m * 5)).block, (ad.add (m * 5)).off + 2, none⟩ = some (.int .i64 old) ∧ W'.cell? ⟨(ad.add (m * 5)).block, (ad.add (m * 5)).off + 3, none⟩ = some (.int .i64 to_) ∧ W'.cell? ⟨(ad.add (m * 5)).block, (ad.add (m * 5)).off + 4, none⟩ = some (.int .i64 at_)) (first | with_reducible assumption | with_reducible exact hS0) (first | (go_at_call 8; refine Calls.mono SED.out ?_; rintro r w5 ⟨v5, rfl, hS5, n5, ns5, L5, hR5, hL5, hK5⟩; have H5 : Hid (_) := NX.out w5 n5 ns5 L5 _ _ HP.out hR5 hL5 hK5))
              go_wp2
              go_roundw
              case rel => exact H5.out
              case measure => simp [intOf]; omega
          · have hkb : (kd.toList == [115, 101, 116]) = false := by
              rw [beq_eq_false_iff_ne]
              intro q
              exact hkd (rs_ext (by rw [← ByteArray.toList_eq, q]))
            have SE : Hid (∀ W, RSt w W lo rb mb n ns L m → Calls Tryz.prog 9 #[.pointer (some ⟨rb, 0, none⟩), .string nm, .int .i64 old, .int .i64 at_] W fun r w' => ∃ v n' ns' L', r = .returned v ∧ RSt w w' lo rb mb n' ns' L' (m + 1) ∧ (∀ x u, u < at_ → asOf (L' x) u = asOf (L x) u) ∧ KeepS W w') := fun W hW => rdrop_st w W lo rb mb n m ns L hW s (HGF.out.step hW.b) (by omega) nm old at_ (by omega)
            have hS0 : (wc.drew).cell? ⟨(ad.add (m * 5)).block, (ad.add (m * 5)).off + 1, none⟩ = some (.string nm) ∧ (wc.drew).cell? ⟨(ad.add (m * 5)).block, (ad.add (m * 5)).off + 2, none⟩ = some (.int .i64 old) ∧ (wc.drew).cell? ⟨(ad.add (m * 5)).block, (ad.add (m * 5)).off + 4, none⟩ = some (.int .i64 at_) := by
              obtain ⟨_, z1, z2, z3, z4⟩ := HA.out wc.drew (below_then HS.out.b (drew_below _))
              exact ⟨z1, z2, z4⟩
            have SED : Hid (Calls Tryz.prog 9 #[.pointer (some ⟨rb, 0, none⟩), .string nm, .int .i64 old, .int .i64 at_] (World.drew wc) fun r w' => ∃ v, r = .returned v ∧ (w'.cell? ⟨(ad.add (m * 5)).block, (ad.add (m * 5)).off + 1, none⟩ = some (.string nm) ∧ w'.cell? ⟨(ad.add (m * 5)).block, (ad.add (m * 5)).off + 2, none⟩ = some (.int .i64 old) ∧ w'.cell? ⟨(ad.add (m * 5)).block, (ad.add (m * 5)).off + 4, none⟩ = some (.int .i64 at_)) ∧ ∃ n' ns' L', RSt w w' lo rb mb n' ns' L' (m + 1) ∧ (∀ x u, u < at_ → asOf (L' x) u = asOf (L x) u) ∧ KeepS wc w') := by
              refine Calls.mono (SE.out _ (HS.out.step (drew_below _))) ?_
              rintro r w' ⟨v, n', ns', L', rfl, z1, z2, z3⟩
              obtain ⟨_, c1, c2, c3, c4⟩ := HA.out w' z1.b
              exact ⟨v, rfl, ⟨c1, c2, c4⟩, n', ns', L', z1, z2, KeepS.then (KeepS.below (drew_below _)) z3⟩
            clear SE HA hkd
            go_upto_region 26 with (fail)
            all_goals
              go_region_held3 (fun W' => W'.cell? ⟨(ad.add (m * 5)).block, (ad.add (m * 5)).off + 1, none⟩ = some (.string nm) ∧ W'.cell? ⟨(ad.add (m * 5)).block, (ad.add (m * 5)).off + 2, none⟩ = some (.int .i64 old) ∧ W'.cell? ⟨(ad.add (m * 5)).block, (ad.add (m * 5)).off + 4, none⟩ = some (.int .i64 at_)) (first | with_reducible assumption | with_reducible exact hS0) (first | (go_at_call 9; refine Calls.mono SED.out ?_; rintro r w5 ⟨v5, rfl, hS5, n5, ns5, L5, hR5, hL5, hK5⟩; have H5 : Hid (_) := NX.out w5 n5 ns5 L5 _ _ HP.out hR5 hL5 hK5))
              go_wp2
              go_roundw
              case rel => exact H5.out
              case measure => simp [intOf]; omega
    · have hK : (m : Int) ≤ 60 := by omega
      have hm60 : m ≤ 60 := by omega
      have AS : Hid (∀ (W : World) (z : ByteArray), RSt w W lo rb mb n ns L m → z.size ≤ 60 → Calls Tryz.prog 7 #[.pointer (some ⟨rb, 0, none⟩), .string z, .int .i64 t] W fun r w' => r = .returned (.tuple #[.int .i64 (ofV (asOf (L z) t)), .bool (!decide (asOf (L z) t = -1))]) ∧ Below W.heap.size W w') := fun W z hW hz => as_st w W lo rb mb n m ns L hW hm60 z t hz
      clear HN HC
      obtain ⟨na, nc, hnv⟩ := HP.out.r.form
      have HWV : ∃ wa wc', u10 = .slice wa N.length wc' ∧ ∀ (j : Nat) (hj : j < N.length), ∃ b, wa = some ⟨b, 0, none⟩ ∧ wr.cell? ⟨b, j, none⟩ = some (.int .i64 (asOf (L N[j]) t)) := by
        have ho := HP.out.o
        rcases ho.2 with ⟨e, e0⟩ | ⟨g, cap, cur, e, _, hb, hcp, hmx, hsz, htk⟩
        · exact ⟨none, 0, by rw [e, e0], fun j hj => by omega⟩
        · refine ⟨_, _, e, fun j hj => ⟨g, rfl, ?_⟩⟩
          rw [e] at ho
          rw [ho.cellAt j (by omega), List.getElem?_map, List.getElem?_eq_getElem hj]; rfl
      obtain ⟨wa, wc', rfl, hwc⟩ := HWV
      subst hnv
      have HWC : Hid (∀ (j : Nat) (hj : j < N.length), ∃ b, wa = some ⟨b, 0, none⟩ ∧ wr.cell? ⟨b, j, none⟩ = some (.int .i64 (asOf (L N[j]) t))) := hwc
      have hN60 := HP.out.l
      have HZ : Hid (∀ z ∈ N, z.size ≤ 12) := HP.out.z
      have HRV : Hid (RowV 0 wr (.slice na N.length nc) N) := HP.out.r
      have HF : Hid (∀ W, Below wr.heap.size wr W → RSt w W lo rb mb n ns L m) := fun W hW => HS.out.step hW
      have HRF : Hid (∀ W, Below wr.heap.size wr W → RowV 0 W (.slice na N.length nc) N) := fun W hW => HRV.out.keptS (KeepS.below hW)
      have HWF : Hid (∀ W, Below wr.heap.size wr W → ∀ (j : Nat) (hj : j < N.length), ∃ b, wa = some ⟨b, 0, none⟩ ∧ W.cell? ⟨b, j, none⟩ = some (.int .i64 (asOf (L N[j]) t))) := fun W hW j hj => by
        obtain ⟨b, e, hc⟩ := HWC.out j hj
        exact ⟨b, e, cell_step hc hW⟩
      clear hwc HP HWC HRV HS
      go_wp2
      go_loopw [15] (fun i W => ∃ k : Nat, i = .int .i64 k ∧ k ≤ N.length ∧ Hid (Below wr.heap.size wr W)) (fun i _ => N.length - (intOf i).toNat)
      case atStart => exact ⟨0, rfl, Nat.zero_le _, Below.refl _ _⟩
      case round =>
        obtain ⟨k, rfl, hk, HB⟩ := hrel
        have HSr : Hid (RSt w wr lo rb mb n ns L m) := HF.out wr HB.out
        by_cases hkl : k < N.length
        · obtain ⟨b, rfl, hcell⟩ := rowV_cell (HRF.out wr HB.out) hkl
          obtain ⟨b2, rfl, hwcell⟩ := HWF.out wr HB.out k hkl
          have hzz := HZ.out N[k] (List.getElem_mem hkl)
          have AZ := AS.out wr N[k] HSr.out (by omega)
          clear AS HRF HWF HF HSr
          generalize N[k] = z at hcell hzz AZ hwcell
          generalize asOf (L z) t = x at AZ hwcell
          by_cases hx : x = -1
          · subst hx
            have AZ2 : Hid (Calls _ _ _ _ _) := AZ
            clear AZ
            go_upto_region 33 with (go_at_call 7; refine Calls.mono AZ2.out ?_; rintro r w4 ⟨rfl, hb4⟩)
            have hw4 := cell_step hwcell hb4
            go_wp2
            go_roundw
            case rel => exact ⟨k + 1, by go_num, by omega, below_then HB.out hb4⟩
            case measure => simp [intOf]; omega
          · rw [ofV_as hx, decide_eq_false hx] at AZ
            have AZ2 : Hid (Calls _ _ _ _ _) := AZ
            clear AZ
            go_upto_region 33 with (go_at_call 7; refine Calls.mono AZ2.out ?_; rintro r w4 ⟨rfl, hb4⟩)
            have hw4 := cell_step hwcell hb4
            go_wp2
            go_roundw
            case rel => exact ⟨k + 1, by go_num, by omega, below_then HB.out hb4⟩
            case measure => simp [intOf]; omega
        · have TX : Hid (∀ W, Below wr.heap.size wr W → Calls Tryz.prog 11 #[.pointer (some ⟨rb, 0, none⟩)] W fun r w' => r = .returned (.string (bs (rfT ns L))) ∧ Below W.heap.size W w') := fun W hW => text_st w W lo rb mb n m ns L (HSr.out.step hW) hm60 (HGN.out.tab.step (HSr.out.step hW).b)
          have NM : Hid (∀ W, Below wr.heap.size wr W → Calls Tryz.prog 6 #[.pointer (some ⟨rb, 0, none⟩)] W fun r w' => ∃ v, r = .returned v ∧ Txs w' v (lvs ns L) ∧ Below W.heap.size W w') := fun W hW => by
            have h1 : (lvs ns L).length ≤ ns.length := List.length_filter_le _ _
            have h2 := HSr.out.n2
            refine Calls.mono (names_st w W lo rb mb n m ns L (HSr.out.step hW) hm60) ?_
            rintro r w' ⟨v, rfl, q1, q2⟩
            exact ⟨v, rfl, q1.txs (by omega), q2⟩
          have RD : Hid (∀ W, Below wr.heap.size wr W → Calls Tryz.prog 10 #[.string (bs (rfT ns L))] W fun r w' => ∃ rb', r = .returned (.tuple #[.pointer (some ⟨rb', 0, none⟩), .nilIface]) ∧ W.heap.size ≤ rb' ∧
              (∀ W2, Below w'.heap.size w' W2 → Calls Tryz.prog 11 #[.pointer (some ⟨rb', 0, none⟩)] W2 fun r w' => r = .returned (.string (bs (rfT ns L))) ∧ Below W2.heap.size W2 w') ∧
              (∀ W2, Below w'.heap.size w' W2 → Calls Tryz.prog 6 #[.pointer (some ⟨rb', 0, none⟩)] W2 fun r w' => ∃ v, r = .returned v ∧ Txs w' v (lvs ns L) ∧ Below W2.heap.size W2 w') ∧ Below W.heap.size W w') := fun W hW => by
            have hst := HSr.out.step hW
            have h2 := hst.n2
            refine Calls.mono (rread_any ns L W (HGN.out.step hst.b) hst.wl (by omega) (fun x => by have := hst.n3 x; omega)) ?_
            rintro r w' ⟨lo', rb', mb', n', rfl, q1, q2, q3, q4⟩
            refine ⟨rb', rfl, q1, fun W2 hW2 => ?_, fun W2 hW2 => ?_, q4⟩
            · exact rtext_any lo' rb' mb' n' ns L W2 (HGN.out.tab.step (below_then (below_then hst.b q4) hW2)) (q2.step hW2) hst.wl (by omega) (by omega) (fun x => by have := hst.n3 x; omega)
            · have h1 : (lvs ns L).length ≤ ns.length := List.length_filter_le _ _
              refine Calls.mono (names_any lo' rb' mb' n' ns L W2 (q2.step hW2) (by omega) (fun x hx => by have := okID_size (hst.wl.nm x hx); omega) (fun x => by have := hst.n3 x; omega) (by omega)) ?_
              rintro r w' ⟨v, rfl, z1, z2⟩
              exact ⟨v, rfl, z1.txs (by omega), z2⟩
          have HBW : Hid (Below w.heap.size w wr) := HSr.out.b
          have hrb : rb < wr.heap.size := Nat.lt_of_lt_of_le HSr.out.r.hr HSr.out.r.le
          clear AS HRF HWF HF HSr HZ
          generalize bs (rfT ns L) = tx at TX RD
          generalize lvs ns L = NL at NM RD
          go_upto_region 36 with (first
            | (go_at_call 11; refine Calls.mono (TX.out _ (Below.refl _ _)) ?_; rintro r w4 ⟨rfl, hb4⟩)
            | (go_at_call 10; refine Calls.mono (RD.out _ hb4) ?_; rintro r w5 ⟨qb, rfl, hqb, TQ, NQ, hb5⟩; have HTQ : Hid (_) := TQ; have HNQ : Hid (_) := NQ))
          have hb45 := below_then hb4 hb5
          have hz4 := hb4.size
          have hne : qb ≠ rb := by omega
          clear TQ NQ RD
          go_wp2_with (first
            | (go_at_call_of 11 (Value.pointer (some ⟨qb, 0, none⟩)); refine Calls.mono (HTQ.out _ (Below.refl _ _)) ?_; rintro r w6 ⟨rfl, hb6⟩)
            | (go_at_call_of 11 (Value.pointer (some ⟨rb, 0, none⟩)); refine Calls.mono (TX.out _ (below_then hb45 hb6)) ?_; rintro r w7 ⟨rfl, hb7⟩)
            | (go_at_call_of 6 (Value.pointer (some ⟨qb, 0, none⟩)); refine Calls.mono (HNQ.out _ (below_then hb6 hb7)) ?_; rintro r w8 ⟨v8, rfl, ht8, hb8⟩)
            | (go_at_call_of 6 (Value.pointer (some ⟨rb, 0, none⟩)); refine Calls.mono (NM.out _ (below_then hb45 (below_then hb6 (below_then hb7 hb8)))) ?_; rintro r w9 ⟨v9, rfl, ht9, hb9⟩)
            | (go_at_call 12; refine Calls.mono (sameTexts_eq (l := NL) (ht8.step hb9) ht9) ?_; rintro r w10 ⟨rfl, hb10⟩))
          go_ret
          exact ⟨rfl, below_then HBW.out (below_then hb45 (below_then hb6 (below_then hb7 (below_then hb8 (below_then hb9 hb10)))))⟩
end Go.Proofs.YtcaeafgkogfgdaaGreatDoor
