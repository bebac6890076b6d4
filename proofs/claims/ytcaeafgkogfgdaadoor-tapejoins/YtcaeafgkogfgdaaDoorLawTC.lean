/- The law TapeCuts: wherever power is cut, what is recovered is what was appended with no error, and it goes on from there. -/
import Derived.Test.YtcaeafgkogfgdaaDoorTpL
namespace Go.Proofs.YtcaeafgkogfgdaaDoor
open Go Go.RowKit Go.Maps Cal Pk
attribute [local go_sem] Oper.semAt_some

/-- a disk on which X was appended with no error: whole, or power failed in a record behind -/
structure DkX (X : List (List UInt8)) (D : DK) : Prop where
  wt : D.waits = true
  lf : 0 ≤ D.left ∧ D.left ≤ 9223372036854775807
  sz : ∀ s ∈ X, s.length ≤ 200
  st : (D.off = false ∧ D.torn = 0 ∧ D.B = tpT X) ∨ (D.off = true ∧ ∃ (s : List UInt8) (k : Nat), s.length ≤ 200 ∧ k < (rcT s).length ∧ D.B = tpT X ++ (rcT s).take k)
theorem tpT_len (X : List (List UInt8)) (h : ∀ s ∈ X, s.length ≤ 200) : (tpT X).length ≤ 209 * X.length := by
  induction X with
  | nil => simp [tpT]
  | cons s X ih =>
    rw [show tpT (s :: X) = rcT s ++ tpT X from List.flatMap_cons, List.length_append, List.length_cons]
    have h1 := ih (fun t ht => h t (List.mem_cons_of_mem _ ht))
    have h0 := h s List.mem_cons_self
    have h2 := (rcT_len s (by omega)).2
    omega
theorem DkX.ok {X : List (List UInt8)} {D : DK} (h : DkX X D) (hx : X.length ≤ 30) : DkOk D := by
  have hl := tpT_len X h.sz
  refine ⟨fun q => ?_, fun _ => h.lf, ?_⟩
  · rcases h.st with ⟨_, q2, _⟩ | ⟨q1, _⟩
    · exact q2
    · rw [q] at q1; cases q1
  · rcases h.st with ⟨_, _, q3⟩ | ⟨_, s, k, h1, h2, q3⟩
    · rw [q3]; omega
    · have := (rcT_len s (by omega)).2
      rw [q3, List.length_append, List.length_take]
      omega
/-- one more is appended -/
theorem DkX.app {X : List (List UInt8)} {D : DK} (h : DkX X D) (s : List UInt8) (hs : s.length ≤ 200) : ((D.app s).1 = false ∧ DkX X (D.app s).2) ∨ ((D.app s).1 = true ∧ DkX (X ++ [s]) (D.app s).2) := by
  unfold DK.app
  by_cases ho : D.off = true
  · rw [if_pos ho]; exact .inl ⟨rfl, h⟩
  · rw [if_neg ho]
    have hst : D.torn = 0 ∧ D.B = tpT X := by
      rcases h.st with ⟨_, q⟩ | ⟨q, _⟩
      · exact q
      · exact absurd q ho
    by_cases hc : D.waits = true ∧ D.left < (rcT s).length
    · rw [if_pos hc]
      refine .inl ⟨rfl, h.wt, h.lf, h.sz, .inr ⟨rfl, s, D.left.toNat, hs, ?_, ?_⟩⟩
      · have := h.lf; omega
      · show D.B ++ _ = _
        rw [hst.2]
    · rw [if_neg hc]
      have hle : ((rcT s).length : Int) ≤ D.left := by
        apply Classical.byContradiction
        intro z
        exact hc ⟨h.wt, by omega⟩
      refine .inr ⟨rfl, h.wt, ?_, fun t ht => ?_, .inl ⟨?_, hst.1, ?_⟩⟩
      · show 0 ≤ (if D.waits then D.left - ((rcT s).length : Int) else D.left) ∧ (if D.waits then D.left - ((rcT s).length : Int) else D.left) ≤ _
        rw [h.wt]
        simp only [if_true]
        have := h.lf
        omega
      · rcases List.mem_append.1 ht with q | q
        · exact h.sz t q
        · rw [List.mem_singleton.1 q]; exact hs
      · cases hq : D.off
        · exact hq
        · exact absurd hq ho
      · show D.B ++ rcT s = _
        rw [hst.2, tpT_snoc]
theorem DkX.rd {X : List (List UInt8)} {D : DK} (h : DkX X D) : (rdT D.B).1 = X ∧ D.back = ⟨tpT X, 0, false, false, D.left⟩ := by
  have hz : ∀ s ∈ X, s.length ≤ 10000 := fun s hs => by have := h.sz s hs; omega
  rcases h.st with ⟨_, _, q3⟩ | ⟨_, s, k, h1, h2, q3⟩
  · have := rdT_whole X hz
    unfold DK.back
    rw [q3, this]
    simp
  · have := rdT_torn X s k hz (by omega) h2
    unfold DK.back
    rw [q3, this]
    simp
/-- one more text -/
def omT : List UInt8 := [111, 110, 101, 32, 109, 111, 114, 101]
theorem DkX.more {X : List (List UInt8)} (h : ∀ s ∈ X, s.length ≤ 200) (l : Int) : (⟨tpT X, 0, false, false, l⟩ : DK).app omT = (true, ⟨tpT (X ++ [omT]), 0, false, false, l⟩) ∧ rdT (tpT (X ++ [omT])) = (X ++ [omT], []) := by
  refine ⟨?_, rdT_whole _ fun s hs => ?_⟩
  · unfold DK.app DK.more
    simp [tpT_snoc]
  · rcases List.mem_append.1 hs with q | q
    · have := h s q; omega
    · rw [List.mem_singleton.1 q]; decide

theorem tl_belowT {lo : Nat} {A B C : World} (h : Below lo A B) (k : Below lo B C) : Below lo A C := ⟨k.os.trans h.os, k.tape.trans h.tape, k.output.trans h.output, Nat.le_trans h.size k.size, fun i hi => (k.block i hi).trans (h.block i hi)⟩
theorem TxA.keep {w W : World} {v : Value} {xs : List ByteArray} (h : TxA w v xs) (hb : Below w.heap.size w W) : TxA W v xs := h.step hb

set_option maxHeartbeats 4000000 in
set_option maxRecDepth 100000 in
theorem tapeCuts_all (xs : List ByteArray) (lv : Value) (cut : Int) (w : World) (g : GlobT w) (h : TxA w lv xs) (hc1 : cut ≤ 9223372036854775807) :
    Calls Tryd.prog 3 #[lv, .int .i64 cut] w fun r w' => r = .returned (.bool true) ∧ Below w.heap.size w w' := by
  have TP : Hid (Calls Tryd.prog 5 #[] w fun r w' => r = .returned (.bool true) ∧ Below w.heap.size w w') := taped_any w g
  obtain ⟨la, lc, rfl, hlc, hcell⟩ := h
  by_cases h30 : (30 : Int) < (xs.length : Int)
  · clear g hcell
    go_enter Tryd.func3, Tryd.ntmps3
    go_wp2_with (go_at_call 5; refine Calls.mono TP.out ?_; rintro r w1 ⟨rfl, hb1⟩)
    go_ret
    exact ⟨rfl, hb1⟩
  · have h30' : (xs.length : Int) ≤ 30 := by omega
    clear h30
    by_cases hcn : cut < 0
    · clear g hcell
      go_enter Tryd.func3, Tryd.ntmps3
      go_wp2_with (go_at_call 5; refine Calls.mono TP.out ?_; rintro r w1 ⟨rfl, hb1⟩)
      go_ret
      exact ⟨rfl, hb1⟩
    · have hcn' : 0 ≤ cut := by omega
      clear hcn
      obtain ⟨i0, hi, hz0, hz1, hz2⟩ := info_parts tx_info
      have HG : Hid (GlobT w) := g
      have HC : Hid (∀ (j : Nat) (h : j < xs.length), ∃ ad : Addr, la = some ad ∧ ad.block < w.heap.size ∧ w.cell? (ad.add j) = some (.string xs[j])) := hcell
      have ND : Hid (∀ W, Below w.heap.size w W → Calls Tryd.prog 6 #[.string ⟨#[]⟩] W fun r w' => ∃ bb, r = .returned (.tuple #[.pointer (some ⟨bb, 0, none⟩), .nilIface]) ∧ DkAt w.heap.size w' bb dk0 ∧ Below W.heap.size W w') := fun W hW => newDisk_any W w.heap.size ⟨#[]⟩ hW.size (by decide)
      have CT : Hid (∀ W bb, DkAt w.heap.size W bb dk0 → Calls Tryd.prog 7 #[.pointer (some ⟨bb, 0, none⟩), .int .i64 cut] W fun r w' => r = .returned .nilIface ∧ DkAt w.heap.size w' bb { dk0 with waits := true, left := cut } ∧ TKeep w.heap.size W w') := fun W bb hd => dkCut_any w.heap.size W bb dk0 cut hd hcn' rfl
      have X0 : Hid (DkX [] { dk0 with waits := true, left := cut }) := ⟨rfl, ⟨hcn', hc1⟩, fun s hs => (by cases hs), .inl ⟨rfl, rfl, rfl⟩⟩
      clear g hcell
      go_enter Tryd.func3, Tryd.ntmps3
      go_upto_region 4 with (go_at_call 5; refine Calls.mono TP.out ?_; rintro r w1 ⟨rfl, hb1⟩)
      go_upto_region 5 with (go_at_call 6; refine Calls.mono (ND.out _ hb1) ?_; rintro r w2 ⟨bb, rfl, hd2, hb2⟩)
      go_upto_region 7 with (go_at_call 7; refine Calls.mono (CT.out _ bb hd2) ?_; rintro r w3 ⟨rfl, hd3, hk3⟩)
      have HD3 : Hid (DkAt w.heap.size w3 bb { dk0 with waits := true, left := cut } ∧ Below w.heap.size w w3) := ⟨hd3, tl_belowT (below_then hb1 hb2) hk3.1⟩
      clear hb1 hb2 hd2 hd3 hk3 TP ND CT
      go_wp2
      go_loopw [8, 9] (fun dv iv wr => ∃ (m n : Nat) (a : Option Addr) (c : Nat), m ≤ xs.length ∧ iv = .int .i64 m ∧ dv = .slice a n c ∧ n ≤ m ∧ Hid (∃ (X : List (List UInt8)) (D : DK), X.length = n ∧ TxR w.heap.size wr (.slice a n c) X ∧ DkX X D ∧ DkAt w.heap.size wr bb D ∧ Below w.heap.size w wr)) (fun _ iv _ => xs.length - (intOf iv).toNat)
      case atStart => exact ⟨0, 0, none, 0, Nat.zero_le _, rfl, rfl, Nat.le_refl _, [], _, rfl, World.ownsRow_nil _ _ _ _, X0.out, HD3.out.1, HD3.out.2⟩
      case round =>
        obtain ⟨m, n, a, c, hm, rfl, rfl, hnm, HX⟩ := hrel
        obtain ⟨X, D, hX, hrow, hdx, hdk, hb⟩ := HX.out
        clear HX HD3 X0
        subst hX
        have HROW : Hid (TxR w.heap.size wr (.slice a X.length c) X) := hrow
        have HDX : Hid (DkX X D) := hdx
        have HDK : Hid (DkAt w.heap.size wr bb D) := hdk
        have HB : Hid (Below w.heap.size w wr) := hb
        clear hrow hdx hdk hb
        have hx30 : X.length ≤ 30 := by omega
        by_cases hlt : m < xs.length
        · obtain ⟨ad, rfl, had, hcl⟩ := HC.out m hlt
          have g1 : (0 : Int) ≤ (m : Int) := by omega
          have g2 : (m : Int) < (xs.length : Int) := by omega
          have HCL : Hid (∀ W, Below w.heap.size w W → W.cell? (ad.add m) = some (.string xs[m])) := fun W hW => (hW.cell (p := ad.add m) (by rw [addrT_block]; exact had)).trans hcl
          clear hcl had
          generalize hsx : xs[m] = sx at HCL
          clear hsx
          have hcl := HCL.out wr HB.out
          by_cases h200 : (200 : Int) < (sx.size : Int)
          · go_wp2
            go_ret
            exact ⟨rfl, HB.out⟩
          · have h200' : (sx.size : Int) ≤ 200 := by omega
            clear h200
            have hsl : sx.data.toList.length = sx.size := (Lib.size_eq sx).symm
            have AP0 := append_any w.heap.size wr bb D sx (GlobL.of HG.out HB.out) HDK.out (HDX.out.ok hx30) (by omega)
            rcases HDX.out.app sx.data.toList (by omega) with ⟨e1, e2⟩ | ⟨e1, e2⟩
            · rw [e1] at AP0
              have AP : Hid (Calls Tryd.prog 8 #[.pointer (some ⟨bb, 0, none⟩), .string sx] wr fun r w' => (∃ a, r = .returned (.iface 90 (.pointer (some a)))) ∧ DkAt w.heap.size w' bb (D.app sx.data.toList).2 ∧ TKeep w.heap.size wr w') := by
                refine Calls.mono AP0 ?_
                rintro r w' ⟨v, rfl, ⟨a', rfl⟩, q⟩
                exact ⟨⟨a', rfl⟩, q⟩
              have HE : Hid (DkX X (D.app sx.data.toList).2) := e2
              clear AP0 e1 e2 hsl
              generalize (D.app sx.data.toList).2 = D' at AP HE
              go_wp2_with (go_at_call 8; refine Calls.mono AP.out ?_; rintro r w4 ⟨⟨a4, rfl⟩, hd4, hk4⟩)
              go_roundw
              case rel => exact ⟨m + 1, X.length, a, c, by omega, by go_num, rfl, by omega, X, D', rfl, TxR.keep HROW.out hk4, HE.out, hd4, tl_belowT HB.out hk4.1⟩
              case measure => simp [intOf]; omega
            · rw [e1] at AP0
              have AP : Hid (Calls Tryd.prog 8 #[.pointer (some ⟨bb, 0, none⟩), .string sx] wr fun r w' => r = .returned .nilIface ∧ DkAt w.heap.size w' bb (D.app sx.data.toList).2 ∧ TKeep w.heap.size wr w') := by
                refine Calls.mono AP0 ?_
                rintro r w' ⟨v, rfl, hv, q⟩
                have : v = .nilIface := hv
                subst this
                exact ⟨rfl, q⟩
              have HE : Hid (DkX (X ++ [sx.data.toList]) (D.app sx.data.toList).2) := e2
              clear AP0 e1 e2 hsl
              generalize (D.app sx.data.toList).2 = D' at AP HE
              go_upto_region 14 with (go_at_call 8; refine Calls.mono AP.out ?_; rintro r w4 ⟨rfl, hd4, hk4⟩)
              have HB4 : Hid (Below w.heap.size w w4) := tl_belowT HB.out hk4.1
              have HD4 : Hid (DkAt w.heap.size w4 bb D') := hd4
              have HR4 : Hid (TxR w.heap.size w4 (.slice a X.length c) X) := TxR.keep HROW.out hk4
              clear hd4 hk4 hcl
              have hcl := HCL.out w4 HB4.out
              have HR2 : Hid (World.ownsRow (w4.alloc (.cells #[.string sx] 9)) w.heap.size 9 1 (.slice a X.length c) X.length (X.map fun x => Value.string (bs x))) := TxR.step HR4.out (below_alloc w4 (.cells #[.string sx] 9))
              have NC : Hid (∀ (j : Nat) (v : Value), [Value.string sx][j]? = some v → (w4.alloc (.cells #[.string sx] 9)).cell? ((⟨w4.heap.size, 0, none⟩ : Addr).add j) = some v) := tx_news w4 sx
              have HBS : Hid (w.heap.size ≤ (w4.alloc (.cells #[.string sx] 9)).heap.size) := by
                show _ ≤ _
                have h1 := HB4.out.size
                rw [World.size_alloc]
                omega
              go_wp2_with (at_builtin; refine wpList_append_own_at _ (by rfl) _ _ 22 (by rfl) w.heap.size 9 i0 (.string ⟨#[]⟩) 1 16 Tryd.underlying22 hi hz0 hz1 hz2 rfl (by decide) (.slice a X.length c) X.length (X.map fun x => Value.string (bs x)) (by rfl) HR2.out ⟨w4.heap.size, 0, none⟩ 1 1 [.string sx] (by rfl) rfl NC.out (fun v hv => by rw [List.mem_singleton.1 hv]; rfl) (by unfold maxLen; omega) (by omega) HBS.out ?_; intro v' w7 hown' hgrow _ hat; have HOWN : Hid (World.ownsRow w7 w.heap.size 9 1 v' (X.length + 1) ((X.map fun x => Value.string (bs x)) ++ [.string sx])) := hown'; have HGR : Hid (World.grownBy (w4.alloc (.cells #[.string sx] 9)) w7 (Value.slice a X.length c).ownBlock) := hgrow; clear hown' hgrow hat)
              have HF : Hid (TxR w.heap.size w7 v' (X ++ [sx.data.toList]) ∧ Below w.heap.size w w7 ∧ DkAt w.heap.size w7 bb D') := by
                refine ⟨?_, ?_, ?_⟩
                · unfold TxR
                  rw [List.length_append, List.map_append]
                  show World.ownsRow _ _ _ _ _ (X.length + 1) (_ ++ [Value.string (bs sx.data.toList)])
                  rw [show bs sx.data.toList = sx from pl_ext (bs_data _)]
                  exact HOWN.out
                · have z := tl_belowT HB4.out (TKeep.below (below_alloc w4 (.cells #[.string sx] 9)) HB4.out.size).1
                  have zs := z.size
                  refine ⟨HGR.out.os.trans z.os, HGR.out.tape.trans z.tape, HGR.out.output.trans z.output, Nat.le_trans z.size HGR.out.size, fun i hi => (HGR.out.block i (by omega) (fun q => ?_)).trans (z.block i hi)⟩
                  have := (World.ownsRow.lt HR2.out i q.symm).1
                  omega
                · exact DkAt.far (DkAt.step HD4.out (below_alloc w4 (.cells #[.string sx] 9))) HR2.out HGR.out
              obtain ⟨a', c', hv'⟩ := TxR.form HF.out.1
              have HV : Hid (v' = .slice a' (X.length + 1) c') := by rw [List.length_append] at hv'; exact hv'
              clear hv'
              go_roundw
              case rel => exact ⟨m + 1, X.length + 1, a', c', by omega, by go_num, HV.out, by omega, X ++ [sx.data.toList], D', by simp, by rw [← HV.out]; exact HF.out.1, HE.out, HF.out.2.2, HF.out.2.1⟩
              case measure => simp [intOf]; omega
        · have g2 : (xs.length : Int) ≤ (m : Int) := by omega
          obtain ⟨r1, r2⟩ := HDX.out.rd
          have hz := HDX.out.sz
          have htl := tpT_len X hz
          obtain ⟨m1, m2⟩ := DkX.more hz D.left
          have RC : Hid (Calls Tryd.prog 9 #[.pointer (some ⟨bb, 0, none⟩)] wr fun r w' => ∃ v, r = .returned (.tuple #[v, .nilIface]) ∧ TxR w.heap.size w' v X ∧ DkAt w.heap.size w' bb ⟨tpT X, 0, false, false, D.left⟩ ∧ TKeep w.heap.size wr w') := by
            have := recover_any w.heap.size wr bb D (GlobL.of HG.out HB.out) HDK.out (by have := (HDX.out.ok hx30).len; omega)
            rw [r1, r2] at this
            exact this
          have PW : Hid (∀ W, DkAt w.heap.size W bb ⟨tpT X, 0, false, false, D.left⟩ → Calls Tryd.prog 11 #[.pointer (some ⟨bb, 0, none⟩)] W fun r w' => r = .returned (.bool true) ∧ w' = W) := fun W hd => dkPower_any w.heap.size W bb _ hd
          have AP : Hid (∀ W, Below w.heap.size w W → DkAt w.heap.size W bb ⟨tpT X, 0, false, false, D.left⟩ → Calls Tryd.prog 8 #[.pointer (some ⟨bb, 0, none⟩), .string ⟨#[111, 110, 101, 32, 109, 111, 114, 101]⟩] W fun r w' => r = .returned .nilIface ∧ DkAt w.heap.size w' bb ⟨tpT (X ++ [omT]), 0, false, false, D.left⟩ ∧ TKeep w.heap.size W w') := fun W hW hd => by
            have := append_any w.heap.size W bb ⟨tpT X, 0, false, false, D.left⟩ ⟨#[111, 110, 101, 32, 109, 111, 114, 101]⟩ (GlobL.of HG.out hW) hd ⟨fun _ => rfl, fun q => (by cases q), by dsimp only; omega⟩ (by decide)
            rw [show (⟨#[111, 110, 101, 32, 109, 111, 114, 101]⟩ : ByteArray).data.toList = omT from rfl, m1] at this
            refine Calls.mono this ?_
            rintro r w' ⟨v, rfl, hv, q⟩
            have : v = .nilIface := hv
            subst this
            exact ⟨rfl, q⟩
          have hbl : (tpT (X ++ [omT])).length ≤ 1000000 := by
            rw [tpT_snoc, List.length_append]
            have := (rcT_len omT (by decide)).2
            have : omT.length = 8 := rfl
            omega
          have BY : Hid (∀ W, DkAt w.heap.size W bb ⟨tpT (X ++ [omT]), 0, false, false, D.left⟩ → Calls Tryd.prog 13 #[.pointer (some ⟨bb, 0, none⟩)] W fun r w' => r = .returned (.string (bs (tpT (X ++ [omT])))) ∧ w' = W) := fun W hd => dkBytes_any w.heap.size W bb _ hd
          have hbs : (bs (tpT (X ++ [omT]))).size = (tpT (X ++ [omT])).length := by rw [Lib.size_eq, bs_data]
          have RD : Hid (∀ W, Below w.heap.size w W → Calls Tryd.prog 12 #[.string (bs (tpT (X ++ [omT])))] W fun r w' => ∃ a c, r = .returned (.tuple #[.slice a (X.length + 1) c, .int .i64 ((bs (tpT (X ++ [omT]))).size : Int)]) ∧ (∃ ad : Addr, a = some ad ∧ w'.cell? (ad.add X.length) = some (.string ⟨#[111, 110, 101, 32, 109, 111, 114, 101]⟩)) ∧ Below W.heap.size W w') := fun W hW => by
            have := tpRead_any (tpT (X ++ [omT])) W (GlobL.of HG.out hW).at.q (by omega)
            rw [m2] at this
            refine Calls.mono this ?_
            rintro r w' ⟨v, rfl, q1, q2⟩
            obtain ⟨a, c, e1, e2, e3⟩ := TxR.all q1
            rw [List.length_map, List.length_append] at e1
            refine ⟨a, c, by rw [e1, hbs]; simp, ?_, q2⟩
            obtain ⟨ad, z1, z2, z3⟩ := e3 X.length (by simp)
            refine ⟨ad, z1, ?_⟩
            rw [z3]
            simp
            rfl
          have HTX : Hid (TxA wr (.slice a X.length c) (X.map bs)) := TxR.all HROW.out
          have HKT : Hid (∀ W, TKeep w.heap.size wr W → TxR w.heap.size W (.slice a X.length c) X) := fun W hk => TxR.keep HROW.out hk
          have ST : Hid (∀ W v, TKeep w.heap.size wr W → TxR w.heap.size W v X → Calls Tryd.prog 10 #[v, .slice a X.length c] W fun e w' => e = .returned (.bool true) ∧ Below W.heap.size W w') := fun W v hk hv => sameTx_eq (TxR.all hv) (TxR.all (HKT.out W hk)) (by rw [List.length_map]; omega)
          clear r1 r2 hz htl m1 m2 hbl hbs HC HTX HKT
          generalize bs (tpT (X ++ [omT])) = sb at BY RD
          go_upto_region 16 with (go_at_call 9; refine Calls.mono RC.out ?_; rintro r w4 ⟨v, rfl, ht4, hd4, hk4⟩)
          obtain ⟨ta, tc, rfl⟩ := TxR.form ht4
          have HT4 : Hid (TxR w.heap.size w4 (.slice ta X.length tc) X) := ht4
          clear ht4
          have HD4 : Hid (DkAt w.heap.size w4 bb ⟨tpT X, 0, false, false, D.left⟩) := hd4
          have HB4 : Hid (Below w.heap.size w w4) := tl_belowT HB.out hk4.1
          have S4 : Hid (Calls Tryd.prog 10 #[.slice ta X.length tc, .slice a X.length c] w4 fun e w' => e = .returned (.bool true) ∧ Below w4.heap.size w4 w') := ST.out w4 _ hk4 HT4.out
          clear hd4 hk4 RC ST
          generalize tpT X = tX at *
          generalize tpT (X ++ [omT]) = tY at *
          go_upto_region 18 with (first
            | (go_at_call 10; refine Calls.mono S4.out ?_; rintro r w5 ⟨rfl, hb5⟩; have HD5 : Hid (DkAt w.heap.size w5 bb ⟨tX, 0, false, false, D.left⟩) := DkAt.step HD4.out hb5; have HB5 : Hid (Below w.heap.size w w5) := below_then HB4.out hb5; clear hb5)
            | (go_at_call 11; refine Calls.mono (PW.out _ HD5.out) ?_; rintro r w6 ⟨rfl, rfl⟩)
            | (go_at_call 8; refine Calls.mono (AP.out _ HB5.out HD5.out) ?_; rintro r w7 ⟨rfl, hd7, hk7⟩; have HD7 : Hid (DkAt w.heap.size w7 bb ⟨tY, 0, false, false, D.left⟩) := hd7; have HB7 : Hid (Below w.heap.size w w7) := tl_belowT HB5.out hk7.1; clear hd7 hk7))
          go_upto_region 19 with (first
            | (go_at_call 13; refine Calls.mono (BY.out _ HD7.out) ?_; rintro r w8 ⟨rfl, rfl⟩)
            | (go_at_call 12; refine Calls.mono (RD.out _ HB7.out) ?_; rintro r w9 ⟨ra, rc, rfl, ⟨ad, rfl, hcx⟩, hb9⟩; have HD9 : Hid (DkAt w.heap.size w9 bb ⟨tY, 0, false, false, D.left⟩) := DkAt.step HD7.out hb9; have HB9 : Hid (Below w.heap.size w w9) := below_then HB7.out hb9; clear hb9))
          have k1 : (0 : Int) ≤ (X.length : Int) := by omega
          have k2 : (X.length : Int) < ((X.length + 1 : Nat) : Int) := by omega
          go_wp2_with (go_at_call 13; refine Calls.mono (BY.out _ HD9.out) ?_; rintro r w8 ⟨rfl, rfl⟩)
          go_ret
          exact ⟨by simp, HB9.out⟩
end Go.Proofs.YtcaeafgkogfgdaaDoor
