/- Package pack's entry. -/
import Derived.Test.YtbocknocmggcpaaGreatDoorKkW
namespace Go.Proofs.YtbocknocmggcpaaGreatDoor
open Go Go.RowKit Go.Sort Go.Maps Cal Pk
attribute [local go_sem] Oper.semAt_some

/-- the entry behind some bases -/
noncomputable def enF (ts : List (List UInt8)) (s : List UInt8) (l : List Nat) : List UInt8 := l.foldl (fun x n => shr x (dlE n (dl (ts.getD n []) s))) (61 :: szX s 10)
theorem enF_snoc (ts : List (List UInt8)) (s : List UInt8) (l : List Nat) (n : Nat) : enF ts s (l ++ [n]) = shr (enF ts s l) (dlE n (dl (ts.getD n []) s)) := by
  unfold enF
  rw [List.foldl_append]
  rfl
theorem enF_len (ts : List (List UInt8)) (s : List UInt8) (l : List Nat) (hl : ∀ n ∈ l, n < ts.length) : (enF ts s l).length ≤ (szX s 10).length + 1 := (fold_form ts s l hl _ (Nat.le_refl _) (.inl rfl)).1
theorem dl_short (a b : List UInt8) (ha : a.length ≤ 10000) (hb : b.length ≤ 10000) : (dl a b).length ≤ 10020 := by
  have h := (dl_apply a b ha hb).2
  have l1 := itoa_len (b.length : Int) (by omega) (by omega)
  have : (ownT b).length ≤ 10020 := by
    unfold ownT
    simp only [List.length_append, List.length_cons, List.length_nil]
    omega
  split at h <;> omega

set_option maxHeartbeats 2000000 in
set_option maxRecDepth 100000 in
theorem entry_any (lo ab mb : Nat) (tv : Value) (ts : List ByteArray) (s : ByteArray) (w : World) (h : TA lo w ab mb tv ts) (ht : Tab w) (hs : s.size ≤ 10000) (hl : ts.length ≤ 1000) (hts : ∀ t ∈ ts, t.size ≤ 10000) :
    Calls Tryz.prog 32 #[.pointer (some ⟨ab, 0, none⟩), .string s] w fun r w' => r = .returned (.string (bs (entE (ts.map fun t => t.data.toList) s.data.toList))) ∧ RowKit.Below w.heap.size w w' := by
  have hls : s.data.toList.length = s.size := (Lib.size_eq s).symm
  have SZ : Hid (∀ (x : List UInt8) W, RowKit.Below w.heap.size w W → x.length ≤ 999999 → Calls Tryz.prog 42 #[.string (bs x), .string ⟨#[10]⟩] W fun r w' => r = .returned (.string (bs (szX x 10))) ∧ RowKit.Below W.heap.size W w') := fun x W hW hx => sizedText_any x 10 W (ht.step hW) hx
  have SZ1 : Hid (Calls Tryz.prog 42 #[.string s, .string ⟨#[10]⟩] w fun r w' => r = .returned (.string (bs (szX s.data.toList 10))) ∧ RowKit.Below w.heap.size w w') := by
    have := SZ.out s.data.toList w (Below.refl _ _) (by omega)
    rw [show bs s.data.toList = s from pl_ext (bs_data _)] at this
    exact this
  have BA : Hid (∀ W, RowKit.Below w.heap.size w W → Calls Tryz.prog 53 #[.pointer (some ⟨ab, 0, none⟩), .string s] W fun r w' => ∃ a c, r = .returned (.slice a (basF (lastF (ts.map fun t => t.data.toList)) s.data.toList).length c) ∧ (∀ (j : Nat) (hj : j < (basF (lastF (ts.map fun t => t.data.toList)) s.data.toList).length), ∃ b, a = some ⟨b, 0, none⟩ ∧ w'.cell? ⟨b, j, none⟩ = some (nI (basF (lastF (ts.map fun t => t.data.toList)) s.data.toList)[j])) ∧ RowKit.Below W.heap.size W w') := fun W hW => bases_any lo ab mb tv ts s W (h.step hW) hs hl
  have DL : Hid (∀ (t : ByteArray) W, t.size ≤ 10000 → RowKit.Below w.heap.size w W → Calls Tryz.prog 7 #[.string t, .string s] W fun r w' => r = .returned (.string (bs (dl t.data.toList s.data.toList))) ∧ RowKit.Below W.heap.size W w') := fun t W h1 hW => delta_any t s W (ht.step hW) h1 hs
  have IT : Hid (∀ (n : Nat) W, n ≤ 1000 → RowKit.Below w.heap.size w W → Calls Tryz.prog 49 #[.int .i64 (n : Int)] W fun e w' => e = .returned (.string (bs (Lib.itoa n))) ∧ RowKit.Below W.heap.size W w') := fun n W h1 hW => itoa_all (n : Int) W (by omega) (by omega) (ht.step hW)
  obtain ⟨ta, tc, rfl, hform⟩ := h.form
  obtain ⟨ca0, _⟩ := h.cells
  have HC0 : Hid (∀ W, RowKit.Below w.heap.size w W → W.cell? ⟨ab, 0, none⟩ = some (.slice ta ts.length tc)) := fun W hW => cell_step ca0 hW
  have HFM : Hid (∀ (n : Nat) (hn : n < ts.length) W, RowKit.Below w.heap.size w W → ∃ b, ta = some ⟨b, 0, none⟩ ∧ W.cell? ⟨b, n, none⟩ = some (.string ts[n])) := fun n hn W hW => by
    obtain ⟨b, q1, q2, q3⟩ := hform n hn
    exact ⟨b, q1, cell_step q3 hW⟩
  have HBL : Hid (∀ n ∈ basF (lastF (ts.map fun t => t.data.toList)) s.data.toList, n < ts.length) := fun n hn => by have := basF_lt hn; rwa [List.length_map] at this
  have HE : Hid (entE (ts.map fun t => t.data.toList) s.data.toList = enF (ts.map fun t => t.data.toList) s.data.toList (basF (lastF (ts.map fun t => t.data.toList)) s.data.toList)) := rfl
  have HB4 : Hid ((basF (lastF (ts.map fun t => t.data.toList)) s.data.toList).length ≤ 4) := by show _ ≤ _; unfold basF; rw [List.length_take]; omega
  have HGD : Hid (∀ (n : Nat) (hn : n < ts.length), (ts.map fun t => t.data.toList).getD n [] = (ts[n]).data.toList) := fun n hn => by
    rw [List.getD_eq_getElem?_getD, List.getElem?_map, List.getElem?_eq_getElem hn]; rfl
  have HSL : Hid ((szX s.data.toList 10).length ≤ 10008) := by have := szX_len s.data.toList 10 (by omega); show _ ≤ _; omega
  have HSX : Hid (∀ l : List Nat, (∀ n ∈ l, n < ts.length) → (enF (ts.map fun t => t.data.toList) s.data.toList l).length ≤ 10009) := fun l hl' => by
    have := enF_len (ts.map fun t => t.data.toList) s.data.toList l (fun n hn => by rw [List.length_map]; exact hl' n hn)
    have := HSL.out
    omega
  have HZ0 : Hid (enF (ts.map fun t => t.data.toList) s.data.toList [] = 61 :: szX s.data.toList 10) := rfl
  generalize entE (ts.map fun t => t.data.toList) s.data.toList = EN at HE ⊢
  generalize basF (lastF (ts.map fun t => t.data.toList)) s.data.toList = BF at *
  have HTS : Hid (∀ t ∈ ts, t.size ≤ 10000) := hts
  have e1 : bs (61 :: szX s.data.toList 10) = ⟨#[61]⟩ ++ bs (szX s.data.toList 10) := pl_ext (by simp [bs_data])
  have HE1 : Hid (_) := e1
  have z1 : (bs (szX s.data.toList 10)).size ≤ 10008 := by rw [Lib.size_eq, bs_data]; exact HSL.out
  generalize bs (szX s.data.toList 10) = S1 at SZ1 HE1 z1
  have k1 : ¬ 9223372036854775807 < 1 + S1.size := by omega
  have hb4 := HB4.out
  clear h ht hform ca0 e1 hts hls
  go_enter Tryz.func32, Tryz.ntmps32
  go_wp2_with (first
    | (go_at_call 42; refine Calls.mono SZ1.out ?_; rintro r w1 ⟨rfl, hb1⟩; have B1 : Hid (RowKit.Below w.heap.size w w1) := hb1; clear hb1)
    | (go_at_call 53; refine Calls.mono (BA.out w1 B1.out) ?_; rintro r w2 ⟨ba, bc, rfl, hcel, hb2⟩; have B2 : Hid (RowKit.Below w.heap.size w w2) := below_then B1.out hb2; have HCEL : Hid (∀ W, RowKit.Below w2.heap.size w2 W → ∀ (j : Nat) (hj : j < BF.length), ∃ b, ba = some ⟨b, 0, none⟩ ∧ W.cell? ⟨b, j, none⟩ = some (nI BF[j])) := (fun W hW j hj => by obtain ⟨b, q1, q2⟩ := hcel j hj; exact ⟨b, q1, cell_step q2 hW⟩); clear hcel hb2))
  go_loopw [5, 7, 8, 16] (fun x _ _ jv wr => ∃ (j : Nat) (X : ByteArray), j ≤ BF.length ∧ jv = .int .i64 j ∧ x = .string X ∧ X.size ≤ 10009 ∧ Hid (X = bs (enF (ts.map fun t => t.data.toList) s.data.toList (BF.take j))) ∧ Hid (RowKit.Below w.heap.size w wr ∧ RowKit.Below w2.heap.size w2 wr)) (fun _ _ _ jv _ => BF.length - (intOf jv).toNat)
  case atStart => exact ⟨0, _, Nat.zero_le _, rfl, rfl, by rw [ByteArray.size_append]; have : (⟨#[61]⟩ : ByteArray).size = 1 := rfl; omega, by show _ = _; rw [List.take_zero, HZ0.out, HE1.out], B2.out, Below.refl _ _⟩
  case round =>
    obtain ⟨j, X, hj, rfl, rfl, hX, HX, HB⟩ := hrel
    by_cases hlt : j < BF.length
    · obtain ⟨bb, rfl, hcl⟩ := HCEL.out wr HB.out.2 j hlt
      unfold nI at hcl
      have hn := HBL.out _ (List.getElem_mem hlt)
      have HTK : Hid (BF.take (j + 1) = BF.take j ++ [BF[j]]) := List.take_succ_eq_append_getElem hlt
      have HSN : Hid ((enF (ts.map fun t => t.data.toList) s.data.toList (BF.take (j + 1))).length ≤ 10009) := HSX.out (BF.take (j + 1)) (fun n hn => HBL.out n (List.mem_of_mem_take hn))
      generalize BF[j] = n at hcl hn HTK
      have h10 : (ts[n]).size ≤ 10000 := HTS.out _ (List.getElem_mem hn)
      have HGN : Hid ((ts.map fun t => t.data.toList).getD n [] = (ts[n]).data.toList) := HGD.out n hn
      obtain ⟨tb, rfl, htc⟩ := HFM.out n hn wr HB.out.1
      have hc0 := HC0.out wr HB.out.1
      have hj0 : (j : Int) < (BF.length : Int) := by omega
      have hj1 : (0 : Int) ≤ (j : Int) := by omega
      have n0 : (0 : Int) ≤ (n : Int) := by omega
      have n1 : (n : Int) < (ts.length : Int) := by omega
      generalize ts[n] = t at h10 HGN htc
      have hdl := dl_short t.data.toList s.data.toList (by rw [← Lib.size_eq]; omega) (by rw [← Lib.size_eq]; omega)
      have HSZ := szX_len (dl t.data.toList s.data.toList) 10 (by omega)
      have hil := itoa_len (n : Int) (by omega) (by omega)
      have D1 : Hid (∀ d os, Calls Tryz.prog 49 #[.int .i64 (n : Int)] (grow (redrawn wr d) os) fun r w'' => r = .returned (.string (bs (Lib.itoa n))) ∧ ∃ p : Regrown, w'' = grow (redrawn wr p.d) p.os) := fun d os => Calls.regrown_of (IT.out n _ (by omega) (below_then HB.out.1 (below_regrown _ _ _)))
      have D2 : Hid (∀ d os, Calls Tryz.prog 7 #[.string t, .string s] (grow (redrawn wr d) os) fun r w'' => r = .returned (.string (bs (dl t.data.toList s.data.toList))) ∧ ∃ p : Regrown, w'' = grow (redrawn wr p.d) p.os) := fun d os => Calls.regrown_of (DL.out t _ h10 (below_then HB.out.1 (below_regrown _ _ _)))
      have D3 : Hid (∀ d os, Calls Tryz.prog 42 #[.string (bs (dl t.data.toList s.data.toList)), .string ⟨#[10]⟩] (grow (redrawn wr d) os) fun r w'' => r = .returned (.string (bs (szX (dl t.data.toList s.data.toList) 10))) ∧ ∃ p : Regrown, w'' = grow (redrawn wr p.d) p.os) := fun d os => Calls.regrown_of (SZ.out _ _ (below_then HB.out.1 (below_regrown _ _ _)) (by omega))
      have HDE : Hid (bs (dlE n (dl t.data.toList s.data.toList)) = ⟨#[126]⟩ ++ bs (Lib.itoa n) ++ ⟨#[58]⟩ ++ bs (szX (dl t.data.toList s.data.toList) 10)) := pl_ext (by simp [bs_data, dlE])
      have z2 : (bs (szX (dl t.data.toList s.data.toList) 10)).size ≤ 10030 := by rw [Lib.size_eq, bs_data]; omega
      have z3 : (bs (Lib.itoa n)).size ≤ 6 := by rw [Lib.size_eq, bs_data]; exact hil
      have HNX : Hid (enF (ts.map fun t => t.data.toList) s.data.toList (BF.take (j + 1)) = shr (enF (ts.map fun t => t.data.toList) s.data.toList (BF.take j)) (dlE n (dl t.data.toList s.data.toList))) := by
        show _ = _
        rw [HTK.out, enF_snoc, HGN.out]
      have HLX : Hid (X.size = (enF (ts.map fun t => t.data.toList) s.data.toList (BF.take j)).length) := by show _ = _; rw [HX.out, Lib.size_eq, bs_data]
      have HLD : Hid ((dlE n (dl t.data.toList s.data.toList)).length = (bs (dlE n (dl t.data.toList s.data.toList))).size) := by show _ = _; rw [Lib.size_eq, bs_data]
      rw [HDE.out] at HLD
      generalize dlE n (dl t.data.toList s.data.toList) = DE at HNX HDE HLD
      generalize bs (szX (dl t.data.toList s.data.toList) 10) = S2 at D3 HDE z2 HLD
      generalize bs (dl t.data.toList s.data.toList) = S3 at D2 D3
      generalize bs (Lib.itoa n) = S4 at D1 HDE z3 HLD
      generalize enF (ts.map fun t => t.data.toList) s.data.toList (BF.take j) = F0 at HX HNX HLX
      have HSN2 : Hid ((enF (ts.map fun t => t.data.toList) s.data.toList (BF.take (j + 1))).length ≤ 10009) := HSN.out
      generalize hF1 : enF (ts.map fun t => t.data.toList) s.data.toList (BF.take (j + 1)) = F1 at HNX HSN2
      have HF1 : Hid (enF (ts.map fun t => t.data.toList) s.data.toList (BF.take (j + 1)) = F1) := hF1
      clear HSN HGN HSZ hil hdl hF1
      have q1 : ¬ 9223372036854775807 < 1 + S4.size := by omega
      have q2 : ¬ 9223372036854775807 < 1 + S4.size + 1 := by omega
      have q3 : ¬ 9223372036854775807 < 1 + S4.size + 1 + S2.size := by omega
      have Y0 := cell_regrown hc0
      have Y1 := cell_regrown htc
      go_upto_region 5 with (fail)
      refine wp_region_quiet_below (by kernel_rfl) (by kernel_rfl) ?_
      repeat (quiet_step (first | (go_at_call 49; exact D1.out _ _) | (go_at_call 7; exact D2.out _ _) | (go_at_call 42; exact D3.out _ _)))
      refine wpQuiet_nil ?_
      intro W2 hw'
      have hb2 : RowKit.Below wr.heap.size wr W2 := by
        obtain ⟨⟨dq, osq⟩, hw''⟩ := hw'
        subst hw''
        exact below_regrown _ _ _
      have HB2 : Hid (RowKit.Below w.heap.size w W2 ∧ RowKit.Below w2.heap.size w2 W2) := ⟨below_then HB.out.1 hb2, below_then HB.out.2 hb2⟩
      clear hw' Y0 Y1 D1 D2 D3 hb2 hcl hc0 htc HB
      generalize (⟨#[126]⟩ ++ S4 ++ ⟨#[58]⟩ ++ S2 : ByteArray) = EE at HDE HLD ⊢
      by_cases hlx : EE.size < X.size
      · have hlx' : (EE.size : Int) < (X.size : Int) := by omega
        have HF2 : Hid (EE = bs F1) := by
          show _ = _
          rw [HNX.out, ← HDE.out, shr, if_pos (by rw [HLD.out, ← HLX.out]; exact hlx)]
        go_wp2
        go_roundw
        case rel => exact ⟨j + 1, EE, by omega, by go_num, rfl, by omega, by show _ = _; rw [HF1.out]; exact HF2.out, HB2.out⟩
        case measure => simp [intOf]; omega
      · have hlx' : (X.size : Int) ≤ (EE.size : Int) := by omega
        have HF2 : Hid (X = bs F1) := by
          show _ = _
          rw [HNX.out, shr, if_neg (by rw [HLD.out, ← HLX.out]; exact hlx)]
          exact HX.out
        go_wp2
        go_roundw
        case rel => exact ⟨j + 1, X, by omega, by go_num, rfl, by omega, by show _ = _; rw [HF1.out]; exact HF2.out, HB2.out⟩
        case measure => simp [intOf]; omega
    · have hfin : BF.take j = BF := List.take_of_length_le (by omega)
      have hj0 : (BF.length : Int) ≤ (j : Int) := by omega
      have HR : Hid (X = bs EN) := by
        have := HX.out
        rw [hfin, ← HE.out] at this
        exact this
      clear hfin
      go_wp2
      go_ret
      exact ⟨by rw [← HR.out]; rfl, HB.out.1⟩
end Go.Proofs.YtbocknocmggcpaaGreatDoor

/- Package pack's Pack. -/
namespace Go.Proofs.YtbocknocmggcpaaGreatDoor
open Go Go.RowKit Go.Sort Go.Maps Cal Pk
attribute [local go_sem] Oper.semAt_some

theorem TA.own {lo : Nat} {W : World} {ab mb : Nat} {tv : Value} {ts : List ByteArray} (h : TA lo W ab mb tv ts) {g : Nat} (hg : tv.ownBlock = some g) : lo ≤ g ∧ ∃ c, W.heap[g]? = some (.cells c 9 (0, 0)) := by
  rcases h.row.2 with ⟨e, _⟩ | ⟨g', cap, cur, hv, hb, hh, _⟩
  · rw [e] at hg; cases hg
  · rw [hv] at hg
    have : g' = g := Option.some.inj hg
    subst this
    exact ⟨hb, cur, hh⟩
theorem TA.isMap {lo : Nat} {W : World} {ab mb : Nat} {tv : Value} {ts : List ByteArray} (h : TA lo W ab mb tv ts) : ∃ es clock, W.heap[mb]? = some (.map es clock) := by
  obtain ⟨D, n, ⟨es, clock, hb, _⟩, _⟩ := h.map
  exact ⟨es, clock, hb⟩
theorem TA.others {lo : Nat} {W W' : World} {ab mb b0 : Nat} {tv : Value} {ts : List ByteArray} (h : TA lo W ab mb tv ts) (hk : Lib.OthersKept 5 (some b0) W W') (hs : W.heap.size ≤ W'.heap.size) (h1 : b0 < ab) (h2 : b0 < mb) : TA lo W' ab mb tv ts := by
  refine h.far hs (fun k hk' hh => ?_)
  rcases hh with rfl | rfl | hh
  · rw [h.blk]
    exact hk _ _ h.blk (fun e => by have := Option.some.inj e; omega) (fun c fz e => by injection e with _ e2; exact absurd e2 (by decide))
  · obtain ⟨es, clock, hm⟩ := h.isMap
    rw [hm]
    exact hk _ _ hm (fun e => by have := Option.some.inj e; omega) (fun c fz e => by cases e)
  · obtain ⟨hlo, c, hc⟩ := h.own hh
    rw [hc]
    exact hk _ _ hc (fun e => by have := Option.some.inj e; have := h.ha; omega) (fun c fz e => by injection e with _ e2; exact absurd e2 (by decide))
theorem PB.keptP {w0 W W' : World} {acc : List UInt8} {lo ab mb : Nat} {tv : Value} {ts : List ByteArray} (h : PB w0 acc W) (hT : TA lo W ab mb tv ts) (hk : PKept W W' ab mb tv) (h1 : w0.heap.size < ab) (h2 : w0.heap.size < mb) : PB w0 acc W' := by
  have hlo := hT.ha
  have key : ∀ p, Lib.BuilderAtF 50 5 w0.heap.size w0.heap.size p (Lib.byteCells acc) W → Lib.BuilderAtF 50 5 w0.heap.size w0.heap.size p (Lib.byteCells acc) W' := fun p ⟨q1, v, q2, q3, q4⟩ => ⟨q1, v, (hk.block _ (Array.getElem?_eq_some_iff.1 q2).1 (by omega) (by omega) (fun e => by have := (hT.own e).1; omega)).trans q2, ⟨q3.1, by
    rcases q3.2 with e1 | ⟨g', cap, cur, fz, e1, e2, hh, e3⟩
    · exact .inl e1
    · refine .inr ⟨g', cap, cur, fz, e1, e2, (hk.block _ (Array.getElem?_eq_some_iff.1 hh).1 (fun e => ?_) (fun e => ?_) (fun e => ?_)).trans hh, e3⟩
      · rw [e, hT.blk] at hh
        injection hh with hh
        injection hh with _ hh
        exact absurd hh (by decide)
      · obtain ⟨es, clock, hm⟩ := hT.isMap
        rw [e, hm] at hh
        cases hh
      · obtain ⟨_, c, hc⟩ := hT.own e
        rw [hc] at hh
        injection hh with hh
        injection hh with _ hh
        exact absurd hh (by decide)⟩, q4⟩
  exact ⟨⟨hk.os.trans h.1.os, hk.tape.trans h.1.tape, hk.output.trans h.1.output, Nat.le_trans h.1.size hk.size, fun k hk' => (hk.block k (Nat.lt_of_lt_of_le hk' h.1.size) (by omega) (by omega) (fun e => by have := (hT.own e).1; omega)).trans (h.1.block k hk')⟩, Nat.lt_of_lt_of_le h.2.1 hk.size, h.2.2.imp (key _) (key _)⟩

set_option maxHeartbeats 2000000 in
set_option maxRecDepth 100000 in
theorem pack_any (lo pb mb : Nat) (tv : Value) (ts : List ByteArray) (w : World) (h : PoolAt lo w pb mb tv ts) (ht : Tab w) (hl : ts.length ≤ 1000) (hts : ∀ t ∈ ts, t.size ≤ 10000) :
    Calls Tryz.prog 11 #[.pointer (some ⟨pb, 0, none⟩)] w fun r w' => r = .returned (.string (bs (pkE [] (ts.map fun t => t.data.toList)))) ∧ RowKit.Below w.heap.size w w' := by
  have PB0 : Hid (PB w [] (w.alloc (.cells #[.pointer none, .slice none 0 0] 50))) := PB.new w
  have hz : (w.alloc (.cells #[.pointer none, .slice none 0 0] 50)).heap.size = w.heap.size + 1 := World.size_alloc _ _
  have NA : Hid (Calls Tryz.prog 29 #[] (w.alloc (.cells #[.pointer none, .slice none 0 0] 50)) fun r w' => r = .returned (.pointer (some ⟨w.heap.size + 2, 0, none⟩)) ∧ TA (w.heap.size + 3) w' (w.heap.size + 2) (w.heap.size + 1) (.slice none 0 0) [] ∧ PB w [] w') := by
    have := newAhead_any (w.alloc (.cells #[.pointer none, .slice none 0 0] 50))
    rw [hz] at this
    refine Calls.mono this ?_
    rintro r w' ⟨q1, q2, q3⟩
    exact ⟨q1, q2, PB0.out.step (by rw [hz]; exact q3)⟩
  have PL : Hid (∀ W, RowKit.Below w.heap.size w W → Calls Tryz.prog 30 #[.pointer (some ⟨pb, 0, none⟩)] W fun r w' => r = .returned (.int .i64 ts.length) ∧ w' = W) := fun W hW => plen_any lo pb mb tv ts W (h.step hW)
  have PG : Hid (∀ (i : Nat) (hi : i < ts.length) W, RowKit.Below w.heap.size w W → Calls Tryz.prog 31 #[.pointer (some ⟨pb, 0, none⟩), .int .i64 i] W fun r w' => r = .returned (.tuple #[.string ts[i], .nilIface]) ∧ w' = W) := fun i hi W hW => pget_ok lo pb mb tv ts i hi W (h.step hW)
  have HT : Hid (Tab w) := ht
  have HTS : Hid (∀ t ∈ ts, t.size ≤ 10000) := hts
  clear h ht PB0 hz hts
  have hl' : (ts.length : Int) ≤ 1000 := by omega
  go_enter Tryz.func11, Tryz.ntmps11
  go_wp2_with (first
    | (go_at_call 29; refine Calls.mono NA.out ?_; rintro r w1 ⟨rfl, hta, hpb⟩; have HA1 : Hid (TA (w.heap.size + 3) w1 (w.heap.size + 2) (w.heap.size + 1) (.slice none 0 0) []) := hta; have HP1 : Hid (PB w [] w1) := hpb; clear hta hpb)
    | (go_at_call 30; refine Calls.mono (PL.out w1 HP1.out.1) ?_; rintro r w2 ⟨rfl, hq⟩; have hq := hq.symm; subst hq))
  go_loopw [5, 6, 7, 11] (fun _ _ _ iv wr => ∃ (i : Nat) (tv1 : Value), i ≤ ts.length ∧ iv = .int .i64 i ∧ Hid (TA (w.heap.size + 3) wr (w.heap.size + 2) (w.heap.size + 1) tv1 (ts.take i)) ∧ Hid (PB w (pkE [] ((ts.take i).map fun t => t.data.toList)) wr)) (fun _ _ _ iv _ => ts.length - (intOf iv).toNat)
  case atStart => exact ⟨0, _, Nat.zero_le _, rfl, HA1.out, HP1.out⟩
  case round =>
    obtain ⟨i, tv1, hi, rfl, HA, HP⟩ := hrel
    by_cases hlt : i < ts.length
    · have hlt' : (i : Int) < (ts.length : Int) := by omega
      have G : Hid (Calls Tryz.prog 31 #[.pointer (some ⟨pb, 0, none⟩), .int .i64 i] wr fun r w' => r = .returned (.tuple #[.string ts[i], .nilIface]) ∧ w' = wr) := PG.out i hlt wr HP.out.1
      have HTK : Hid (ts.take (i + 1) = ts.take i ++ [ts[i]]) := List.take_succ_eq_append_getElem hlt
      have h10 : (ts[i]).size ≤ 10000 := HTS.out _ (List.getElem_mem hlt)
      generalize ts[i] = s at G HTK h10
      have hln : (ts.take i).length ≤ 1000 := by rw [List.length_take]; omega
      have EN : Hid (Calls Tryz.prog 32 #[.pointer (some ⟨w.heap.size + 2, 0, none⟩), .string s] wr fun r w' => r = .returned (.string (bs (entE ((ts.take i).map fun t => t.data.toList) s.data.toList))) ∧ RowKit.Below wr.heap.size wr w') := entry_any _ _ _ tv1 (ts.take i) s wr HA.out (HT.out.step HP.out.1) h10 hln (fun t q => HTS.out t (List.mem_of_mem_take q))
      have AD : Hid (∀ W, TA (w.heap.size + 3) W (w.heap.size + 2) (w.heap.size + 1) tv1 (ts.take i) → Calls Tryz.prog 33 #[.pointer (some ⟨w.heap.size + 2, 0, none⟩), .string s] W fun r w' => r = .returned (.tuple #[]) ∧ ∃ tv', TA (w.heap.size + 3) w' (w.heap.size + 2) (w.heap.size + 1) tv' (ts.take i ++ [s]) ∧ PKept W w' (w.heap.size + 2) (w.heap.size + 1) tv1 ∧ (tv'.ownBlock = tv1.ownBlock ∨ ∃ k, W.heap.size ≤ k ∧ tv'.ownBlock = some k)) := fun W hW => addA_any _ _ _ tv1 (ts.take i) s W hW h10 hln
      have hel := (entE_form ((ts.take i).map fun t => t.data.toList) s.data.toList).1
      have hsx := szX_len s.data.toList 10 (by rw [← Lib.size_eq]; omega)
      have hpl := pkE_len ((ts.take i).map fun t => t.data.toList) [] 10000 (by omega) (fun x hx => by
        obtain ⟨t, q1, rfl⟩ := List.mem_map.1 hx
        rw [← Lib.size_eq]; exact HTS.out t (List.mem_of_mem_take q1))
      rw [List.length_map] at hpl
      rw [List.length_cons] at hel
      rw [← Lib.size_eq] at hsx
      have hpl2 : (pkE [] ((ts.take i).map fun t => t.data.toList)).length ≤ 10009000 := Nat.le_trans hpl (Nat.le_trans (Nat.mul_le_mul_right _ hln) (by omega))
      have WR : Hid (∀ W, PB w (pkE [] ((ts.take i).map fun t => t.data.toList)) W → Calls Tryz.prog 19 #[.pointer (some ⟨w.heap.size, 0, none⟩), .string (bs (entE ((ts.take i).map fun t => t.data.toList) s.data.toList))] W fun r w' => (∃ v, r = .returned (.tuple #[v, .nilIface])) ∧ PB w (pkE [] ((ts.take i).map fun t => t.data.toList) ++ entE ((ts.take i).map fun t => t.data.toList) s.data.toList) w' ∧ Lib.OthersKept 5 (some w.heap.size) W w' ∧ W.heap.size ≤ w'.heap.size) := fun W hW => by
        refine (pwriteK w _ _ W hW (by rw [Lib.size_eq, bs_data]; omega)).mono ?_
        rintro r w' ⟨q1, q2, q3⟩
        exact ⟨⟨_, q1⟩, q2, q3⟩
      have HSN : Hid (pkE [] ((ts.take (i + 1)).map fun t => t.data.toList) = pkE [] ((ts.take i).map fun t => t.data.toList) ++ entE ((ts.take i).map fun t => t.data.toList) s.data.toList) := by
        show _ = _
        rw [HTK.out, List.map_append]
        exact pkE_snoc _ [] _
      clear hel hsx hpl hpl2
      generalize entE ((ts.take i).map fun t => t.data.toList) s.data.toList = en at EN WR HSN
      go_wp2_with (first
        | (go_at_call 31; refine Calls.mono G.out ?_; rintro r w2 ⟨rfl, hq⟩; have hq := hq.symm; subst hq)
        | (go_at_call 32; refine Calls.mono EN.out ?_; rintro r w3 ⟨rfl, hb3⟩; have HA3 : Hid (TA (w.heap.size + 3) w3 (w.heap.size + 2) (w.heap.size + 1) tv1 (ts.take i)) := HA.out.step hb3; have HP3 : Hid (PB w (pkE [] ((ts.take i).map fun t => t.data.toList)) w3) := HP.out.step hb3; clear hb3)
        | (go_at_call 19; refine Calls.mono (WR.out w3 HP3.out) ?_; rintro r w4 ⟨⟨v, rfl⟩, hp4, hk4, hs4⟩; have HP4 : Hid (PB w (pkE [] ((ts.take i).map fun t => t.data.toList) ++ en) w4) := hp4; have HA4 : Hid (TA (w.heap.size + 3) w4 (w.heap.size + 2) (w.heap.size + 1) tv1 (ts.take i)) := HA3.out.others hk4 hs4 (by omega) (by omega); clear hp4 hk4 hs4)
        | (go_at_call 33; refine Calls.mono (AD.out w4 HA4.out) ?_; rintro r w5 ⟨rfl, tv2, hta5, hk5, _⟩; have HA5 : Hid (TA (w.heap.size + 3) w5 (w.heap.size + 2) (w.heap.size + 1) tv2 (ts.take i ++ [s])) := hta5; have HP5 : Hid (PB w (pkE [] ((ts.take i).map fun t => t.data.toList) ++ en) w5) := PB.keptP HP4.out HA4.out hk5 (by omega) (by omega); clear hta5 hk5))
      go_roundw
      case rel => exact ⟨i + 1, tv2, by omega, by go_num, by rw [HTK.out]; exact HA5.out, by rw [HSN.out]; exact HP5.out⟩
      case measure => simp [intOf]; omega
    · have hfin : ts.take i = ts := List.take_of_length_le (by omega)
      have hlt' : (ts.length : Int) ≤ (i : Int) := by omega
      have ST : Hid (Calls Tryz.prog 23 #[.pointer (some ⟨w.heap.size, 0, none⟩)] wr fun r w' => r = .returned (.string (bs (pkE [] (ts.map fun t => t.data.toList)))) ∧ RowKit.Below w.heap.size w w') := by
        have := HP.out
        rw [hfin] at this
        exact pstring w _ wr this
      clear hfin
      go_wp2_with (go_at_call 23; refine Calls.mono ST.out ?_; rintro r w3 ⟨rfl, hb3⟩)
      go_ret
      exact ⟨rfl, hb3⟩
end Go.Proofs.YtbocknocmggcpaaGreatDoor

/- Package pack's cutDelta, cutText: what becomes of an entry. -/
namespace Go.Proofs.YtbocknocmggcpaaGreatDoor
open Go Go.RowKit Go.Sort Go.Maps Cal Pk
attribute [local go_sem] Oper.semAt_some

theorem cutSized_txt (d rest : List UInt8) (sn : Nat → Addr) (w : World) (g : GlobA sn w) (hd : d.length ≤ 100000) (hr : rest.length ≤ 1000000) :
    Calls Tryz.prog 57 #[.string (bs (szX d 10 ++ rest)), .string ⟨#[10]⟩] w fun r w' => r = .returned (.tuple #[.string (bs d), .string (bs rest), .bool true]) ∧ RowKit.Below w.heap.size w w' := by
  have hl := szX_len d 10 (by omega)
  refine Calls.mono (cutSized_any (szX d 10 ++ rest) 10 sn w g (by rw [List.length_append]; omega)) ?_
  rintro r w' ⟨h, hb⟩
  have hc : cutS 10 (szX d 10 ++ rest) = some (d, rest) := by
    have := cutS_text 10 d rest (by omega)
    rw [← this]
    unfold szX
    simp
  rcases h with ⟨q, _⟩ | ⟨x, b, q, e⟩
  · rw [hc] at q; cases q
  · rw [hc] at q
    cases q
    exact ⟨e, hb⟩

set_option maxHeartbeats 1000000 in
theorem cutDelta_txt (n : Nat) (d rest : List UInt8) (sn : Nat → Addr) (w : World) (g : GlobA sn w) (hn : n ≤ 100000) (hd : d.length ≤ 100000) (hr : rest.length ≤ 1000000) :
    Calls Tryz.prog 58 #[.string (bs (dlE n d ++ rest))] w fun r w' => r = .returned (.tuple #[.int .i64 (n : Int), .string (bs d), .string (bs rest), .bool true]) ∧ RowKit.Below w.heap.size w w' := by
  have hl := szX_len d 10 (by omega)
  have hil := itoa_len (n : Int) (by omega) (by omega)
  have CP : Hid (Calls Tryz.prog 56 #[.string (bs (dlE n d ++ rest)), .string ⟨#[126]⟩] w fun r w' => r = .returned (.tuple #[.string (bs (Lib.itoa n ++ 58 :: (szX d 10 ++ rest))), .bool true]) ∧ w' = w) := by
    have := pcp_yes (Lib.itoa n ++ 58 :: (szX d 10 ++ rest)) 126 w
    have e : dlE n d ++ rest = 126 :: (Lib.itoa n ++ 58 :: (szX d 10 ++ rest)) := by unfold dlE; simp
    rw [e]
    exact this
  have C : Hid (Calls Tryz.prog 70 #[.string (bs (Lib.itoa n ++ 58 :: (szX d 10 ++ rest))), .string ⟨#[58]⟩] w fun r w' => r = .returned (.tuple #[.string (bs (Lib.itoa n)), .string (bs (szX d 10 ++ rest)), .bool true]) ∧ RowKit.Below w.heap.size w w') := by
    refine Calls.mono (pcut_ct (Lib.itoa n ++ 58 :: (szX d 10 ++ rest)) 58 w (by rw [List.length_append, List.length_cons, List.length_append]; omega)) ?_
    rintro r w' ⟨h, hb⟩
    have hc := ct_mk 58 (Lib.itoa n) (szX d 10 ++ rest) (no_sign _ (by omega) 58 (by decide))
    rcases h with ⟨q, _⟩ | ⟨x, b, q, e⟩
    · rw [hc] at q; cases q
    · rw [hc] at q
      cases q
      exact ⟨e, hb⟩
  have RA : Hid (∀ W, RowKit.Below w.heap.size w W → Calls Tryz.prog 71 #[.string (bs (Lib.itoa n))] W fun r w' => r = .returned (.tuple #[.int .i64 (n : Int), .bool true]) ∧ RowKit.Below W.heap.size W w') := fun W hW => by
    have := readAny_l (Lib.itoa n) sn W (g.step hW) (by omega)
    rw [numA_itoa (n : Int) (by omega) (by omega)] at this
    exact this
  have CS : Hid (∀ W, RowKit.Below w.heap.size w W → Calls Tryz.prog 57 #[.string (bs (szX d 10 ++ rest)), .string ⟨#[10]⟩] W fun r w' => r = .returned (.tuple #[.string (bs d), .string (bs rest), .bool true]) ∧ RowKit.Below W.heap.size W w') := fun W hW => cutSized_txt d rest sn W (g.step hW) hd hr
  clear g hl hil
  generalize bs (szX d 10 ++ rest) = s1 at *
  generalize bs (Lib.itoa n ++ 58 :: (szX d 10 ++ rest)) = s2 at *
  generalize bs (dlE n d ++ rest) = s3 at *
  generalize bs (Lib.itoa n) = s4 at *
  generalize bs d = s5 at *
  generalize bs rest = s6 at *
  go_enter Tryz.func58, Tryz.ntmps58
  go_wp2_with (first
    | (go_at_call 56; refine Calls.mono CP.out ?_; rintro r w1 ⟨rfl, hq⟩; have hq := hq.symm; subst hq)
    | (go_at_call 70; refine Calls.mono C.out ?_; rintro r w2 ⟨rfl, hb2⟩)
    | (go_at_call 71; refine Calls.mono (RA.out _ hb2) ?_; rintro r w3 ⟨rfl, hb3⟩; have hb3 := below_then hb2 hb3)
    | (go_at_call 57; refine Calls.mono (CS.out _ hb3) ?_; rintro r w4 ⟨rfl, hb4⟩; have hb4 := below_then hb3 hb4))
  refine bodyPost_ret (v := .tuple #[.int .i64 (n : Int), .string s5, .string s6, .bool true]) (by simp [results, Tryz.f58, go_sem]) rfl ⟨rfl, hb4⟩

set_option maxHeartbeats 1000000 in
theorem pcutText_whole (pb : Nat) (d rest : List UInt8) (sn : Nat → Addr) (w : World) (g : GlobA sn w) (hd : d.length ≤ 100000) (hr : rest.length ≤ 1000000) :
    Calls Tryz.prog 39 #[.pointer (some ⟨pb, 0, none⟩), .string (bs (61 :: szX d 10 ++ rest))] w fun r w' => r = .returned (.tuple #[.string (bs d), .string (bs rest), .nilIface]) ∧ RowKit.Below w.heap.size w w' := by
  have CP : Hid (Calls Tryz.prog 56 #[.string (bs (61 :: szX d 10 ++ rest)), .string ⟨#[61]⟩] w fun r w' => r = .returned (.tuple #[.string (bs (szX d 10 ++ rest)), .bool true]) ∧ w' = w) := pcp_yes (szX d 10 ++ rest) 61 w
  have CS : Hid (Calls Tryz.prog 57 #[.string (bs (szX d 10 ++ rest)), .string ⟨#[10]⟩] w fun r w' => r = .returned (.tuple #[.string (bs d), .string (bs rest), .bool true]) ∧ RowKit.Below w.heap.size w w') := cutSized_txt d rest sn w g hd hr
  clear g
  generalize bs (61 :: szX d 10 ++ rest) = s3 at *
  generalize bs (szX d 10 ++ rest) = s1 at *
  generalize bs d = s5 at *
  generalize bs rest = s6 at *
  go_enter Tryz.func39, Tryz.ntmps39
  go_wp2_with (first
    | (go_at_call 56; refine Calls.mono CP.out ?_; rintro r w1 ⟨rfl, hq⟩; have hq := hq.symm; subst hq)
    | (go_at_call 57; refine Calls.mono CS.out ?_; rintro r w4 ⟨rfl, hb4⟩))
  refine bodyPost_ret (v := .tuple #[.string s5, .string s6, .nilIface]) (by simp [results, Tryz.f39, go_sem]) rfl ⟨rfl, hb4⟩

set_option maxHeartbeats 1000000 in
theorem pcutText_delta (lo pb mb : Nat) (tv : Value) (ts : List ByteArray) (n : Nat) (s rest : List UInt8) (sn : Nat → Addr) (w : World) (g : GlobA sn w) (h : PoolAt lo w pb mb tv ts) (hn : n < ts.length) (hl : ts.length ≤ 1000) (hts : (ts[n]).size ≤ 10000) (hs : s.length ≤ 10000) (hr : rest.length ≤ 1000000) :
    Calls Tryz.prog 39 #[.pointer (some ⟨pb, 0, none⟩), .string (bs (dlE n (dl (ts[n]).data.toList s) ++ rest))] w fun r w' => r = .returned (.tuple #[.string (bs s), .string (bs rest), .nilIface]) ∧ RowKit.Below w.heap.size w w' := by
  have hz : (ts[n]).data.toList.length = (ts[n]).size := (Lib.size_eq _).symm
  have hdl := dl_short (ts[n]).data.toList s (by omega) hs
  have CP : Hid (Calls Tryz.prog 56 #[.string (bs (dlE n (dl (ts[n]).data.toList s) ++ rest)), .string ⟨#[61]⟩] w fun r w' => ∃ x, r = .returned (.tuple #[.string x, .bool false]) ∧ w' = w) := pcp_no _ 61 w (by unfold dlE; simp)
  have CD : Hid (Calls Tryz.prog 58 #[.string (bs (dlE n (dl (ts[n]).data.toList s) ++ rest))] w fun r w' => r = .returned (.tuple #[.int .i64 (n : Int), .string (bs (dl (ts[n]).data.toList s)), .string (bs rest), .bool true]) ∧ RowKit.Below w.heap.size w w') := cutDelta_txt n _ rest sn w g (by omega) (by omega) hr
  have PG : Hid (∀ W, RowKit.Below w.heap.size w W → Calls Tryz.prog 31 #[.pointer (some ⟨pb, 0, none⟩), .int .i64 (n : Int)] W fun r w' => r = .returned (.tuple #[.string ts[n], .nilIface]) ∧ w' = W) := fun W hW => pget_ok lo pb mb tv ts n hn W (h.step hW)
  have AP : Hid (∀ W, RowKit.Below w.heap.size w W → Calls Tryz.prog 15 #[.string ts[n], .string (bs (dl (ts[n]).data.toList s))] W fun r w' => r = .returned (.tuple #[.string (bs s), .nilIface]) ∧ RowKit.Below W.heap.size W w') := fun W hW => by
    have := apply_any (ts[n]).data.toList (dl (ts[n]).data.toList s) sn W (g.step hW) (by omega) (by omega)
    rw [(dl_apply (ts[n]).data.toList s (by omega) hs).1, show bs (ts[n]).data.toList = ts[n] from pl_ext (bs_data _)] at this
    exact this
  clear g h hdl hz
  generalize bs (dlE n (dl (ts[n]).data.toList s) ++ rest) = s3 at *
  generalize bs (dl (ts[n]).data.toList s) = s1 at *
  generalize ts[n] = t at *
  generalize bs s = s5 at *
  generalize bs rest = s6 at *
  go_enter Tryz.func39, Tryz.ntmps39
  go_wp2_with (first
    | (go_at_call 56; refine Calls.mono CP.out ?_; rintro r w1 ⟨x, rfl, hq⟩; have hq := hq.symm; subst hq)
    | (go_at_call 58; refine Calls.mono CD.out ?_; rintro r w2 ⟨rfl, hb2⟩)
    | (go_at_call 31; refine Calls.mono (PG.out _ hb2) ?_; rintro r w3 ⟨rfl, hq⟩; have hq := hq.symm; subst hq)
    | (go_at_call 15; refine Calls.mono (AP.out _ hb2) ?_; rintro r w4 ⟨rfl, hb4⟩; have hb4 := below_then hb2 hb4))
  refine bodyPost_ret (v := .tuple #[.string s5, .string s6, .nilIface]) (by simp [results, Tryz.f39, go_sem]) rfl ⟨rfl, hb4⟩
end Go.Proofs.YtbocknocmggcpaaGreatDoor

/- Package pack's Unpack: a pack of texts is read as they were. -/
namespace Go.Proofs.YtbocknocmggcpaaGreatDoor
open Go Go.RowKit Go.Sort Go.Maps Cal Pk
attribute [local go_sem] Oper.semAt_some

theorem PKept.belowP {w0 w w' : World} {lo pb mb : Nat} {tv : Value} {ts : List ByteArray} (h : PKept w w' pb mb tv) (hp : PoolAt lo w pb mb tv ts) (hb : RowKit.Below w0.heap.size w0 w) (h1 : w0.heap.size ≤ pb) (h2 : w0.heap.size ≤ mb) (h3 : w0.heap.size ≤ lo) : RowKit.Below w0.heap.size w0 w' :=
  ⟨h.os.trans hb.os, h.tape.trans hb.tape, h.output.trans hb.output, Nat.le_trans hb.size h.size, fun k hk => (h.block k (Nat.lt_of_lt_of_le hk hb.size) (by omega) (by omega) (fun e => by have := (World.ownsRow.lt hp.row k e).1; omega)).trans (hb.block k hk)⟩
/-- an entry cut off a pack -/
theorem pcutText_ent (lo pb mb : Nat) (tv : Value) (ts : List ByteArray) (s : ByteArray) (rest : List UInt8) (sn : Nat → Addr) (w : World) (g : GlobA sn w) (h : PoolAt lo w pb mb tv ts) (hl : ts.length ≤ 1000) (hts : ∀ t ∈ ts, t.size ≤ 10000) (hs : s.size ≤ 10000) (hr : rest.length ≤ 1000000) :
    Calls Tryz.prog 39 #[.pointer (some ⟨pb, 0, none⟩), .string (bs (entE (ts.map fun t => t.data.toList) s.data.toList ++ rest))] w fun r w' => r = .returned (.tuple #[.string s, .string (bs rest), .nilIface]) ∧ RowKit.Below w.heap.size w w' := by
  have hz : s.data.toList.length = s.size := (Lib.size_eq s).symm
  have hse : bs s.data.toList = s := pl_ext (bs_data _)
  rcases (entE_form (ts.map fun t => t.data.toList) s.data.toList).2 with e | ⟨n, hn, e⟩
  · rw [e]
    have := pcutText_whole pb s.data.toList rest sn w g (by omega) hr
    rw [hse] at this
    exact this
  · rw [e]
    rw [List.length_map] at hn
    have hg : (ts.map fun t => t.data.toList).getD n [] = (ts[n]).data.toList := by
      rw [List.getD_eq_getElem?_getD, List.getElem?_map, List.getElem?_eq_getElem hn]; rfl
    rw [hg]
    have := pcutText_delta lo pb mb tv ts n s.data.toList rest sn w g h hn hl (hts _ (List.getElem_mem hn)) (by omega) hr
    rw [hse] at this
    exact this
theorem entE_ne (ts : List (List UInt8)) (s : List UInt8) : 0 < (entE ts s).length := by
  rcases (entE_form ts s).2 with e | ⟨n, _, e⟩
  · rw [e]; simp
  · rw [e]; unfold dlE; simp

set_option maxHeartbeats 2000000 in
set_option maxRecDepth 100000 in
theorem readBy_pk (ts : List ByteArray) (sn : Nat → Addr) (w : World) (g : GlobA sn w) (gp : GlobP sn w) (hl : ts.length ≤ 1000) (hts : ∀ t ∈ ts, t.size ≤ 10000) (hnd : ts.Nodup) (hz : (pkE [] (ts.map fun t => t.data.toList)).length ≤ 1000000) :
    Calls Tryz.prog 38 #[.string (bs (pkE [] (ts.map fun t => t.data.toList))), .func (.func 39) #[] #[]] w fun r w' => r = .returned (.tuple #[.pointer (some ⟨w.heap.size + 1, 0, none⟩), .nilIface]) ∧ (∃ tv, PoolAt (w.heap.size + 2) w' (w.heap.size + 1) w.heap.size tv ts) ∧ RowKit.Below w.heap.size w w' := by
  have NW : Hid (Calls _ _ _ _ _) := pnew_any w
  have HG : Hid (GlobA sn w) := g
  have HGP : Hid (GlobP sn w) := gp
  have HTS : Hid (∀ t ∈ ts, t.size ≤ 10000) := hts
  have HND : Hid ts.Nodup := hnd
  have HZ : Hid ((pkE [] (ts.map fun t => t.data.toList)).length ≤ 1000000) := hz
  have hsz : ((bs (pkE [] (ts.map fun t => t.data.toList))).size : Int) ≤ 1048576 := by rw [Lib.size_eq, bs_data]; omega
  have HS0 : Hid (bs (pkE [] (ts.map fun t => t.data.toList)) = bs (pkE ((ts.take 0).map fun t => t.data.toList) ((ts.drop 0).map fun t => t.data.toList)) ∧ (bs (pkE [] (ts.map fun t => t.data.toList))).size ≤ 1000000) := ⟨rfl, by rw [Lib.size_eq, bs_data]; exact hz⟩
  generalize bs (pkE [] (ts.map fun t => t.data.toList)) = S0 at hsz HS0 ⊢
  clear g gp hts hnd hz
  go_enter Tryz.func38, Tryz.ntmps38
  go_wp2_with (go_at_call 26; refine Calls.mono NW.out ?_; rintro r w1 ⟨rfl, hp1, hb1⟩)
  have HP1 : Hid (PoolAt _ _ _ _ _ _) := hp1
  have HB1 : Hid (RowKit.Below _ _ _) := hb1
  clear hp1 hb1 NW
  go_loopw [0, 7, 8, 9] (fun sv _ _ _ wr => ∃ (i : Nat) (S : ByteArray) (tv : Value), i ≤ ts.length ∧ sv = .string S ∧ Hid (S = bs (pkE ((ts.take i).map fun t => t.data.toList) ((ts.drop i).map fun t => t.data.toList)) ∧ S.size ≤ 1000000) ∧ Hid (PoolAt (w.heap.size + 2) wr (w.heap.size + 1) w.heap.size tv (ts.take i)) ∧ Hid (RowKit.Below w.heap.size w wr)) (fun sv _ _ _ _ => strLenP sv)
  case atStart => exact ⟨0, S0, _, Nat.zero_le _, rfl, HS0.out, HP1.out, HB1.out⟩
  case round =>
    obtain ⟨i, S, tv, hi, rfl, HS, HP, HB⟩ := hrel
    by_cases hlt : i < ts.length
    · have hdr : ts.drop i = ts[i] :: ts.drop (i + 1) := List.drop_eq_getElem_cons hlt
      have HTK : Hid (ts.take (i + 1) = ts.take i ++ [ts[i]]) := List.take_succ_eq_append_getElem hlt
      have h10 : (ts[i]).size ≤ 10000 := HTS.out _ (List.getElem_mem hlt)
      have hni : ts[i] ∉ ts.take i := by
        have := HND.out
        rw [← List.take_append_drop i ts, hdr, List.nodup_append] at this
        exact fun q => this.2.2 _ q _ List.mem_cons_self rfl
      have hpe : pkE ((ts.take i).map fun t => t.data.toList) ((ts.drop i).map fun t => t.data.toList) = entE ((ts.take i).map fun t => t.data.toList) (ts[i]).data.toList ++ pkE ((ts.take (i + 1)).map fun t => t.data.toList) ((ts.drop (i + 1)).map fun t => t.data.toList) := by
        rw [hdr, List.map_cons, HTK.out, List.map_append]
        rfl
      have hln : (ts.take i).length ≤ 1000 := by rw [List.length_take]; omega
      have hlt2 : (ts.take i).length < 1000 := by rw [List.length_take]; omega
      obtain ⟨hS1, hS2⟩ := HS.out
      rw [hpe] at hS1
      have hS3 : S.size = (entE ((ts.take i).map fun t => t.data.toList) (ts[i]).data.toList).length + (pkE ((ts.take (i + 1)).map fun t => t.data.toList) ((ts.drop (i + 1)).map fun t => t.data.toList)).length := by rw [hS1, Lib.size_eq, bs_data, List.length_append]
      have hen := entE_ne ((ts.take i).map fun t => t.data.toList) (ts[i]).data.toList
      have CU : Hid (Calls Tryz.prog 39 #[.pointer (some ⟨w.heap.size + 1, 0, none⟩), .string S] wr fun r w' => r = .returned (.tuple #[.string ts[i], .string (bs (pkE ((ts.take (i + 1)).map fun t => t.data.toList) ((ts.drop (i + 1)).map fun t => t.data.toList))), .nilIface]) ∧ RowKit.Below wr.heap.size wr w') := by
        show Calls _ _ _ _ _
        rw [hS1]
        exact pcutText_ent _ _ _ tv (ts.take i) ts[i] _ sn wr (HG.out.step HB.out) HP.out hln (fun t q => HTS.out t (List.mem_of_mem_take q)) h10 (by omega)
      have hse : S.toList.isEmpty = false := by
        rw [ByteArray.toList_eq, List.isEmpty_eq_false_iff]
        intro q
        have : S.data.toList.length = 0 := by rw [q]; rfl
        rw [← Lib.size_eq] at this
        omega
      have hse2 : (S.toList == (⟨#[]⟩ : ByteArray).toList) = false := pl_ne (fun q => by rw [q] at hS3; have : (⟨#[]⟩ : ByteArray).size = 0 := rfl; omega)
      have HX1 : Hid ((bs (pkE ((ts.take (i + 1)).map fun t => t.data.toList) ((ts.drop (i + 1)).map fun t => t.data.toList))).size < S.size) := by show _ < _; rw [Lib.size_eq, bs_data]; omega
      have HX2 : Hid (S.size ≤ 1000000) := hS2
      have HX3 : Hid (bs (pkE ((ts.take (i + 1)).map fun t => t.data.toList) ((ts.drop (i + 1)).map fun t => t.data.toList)) = bs (pkE ((ts.take (i + 1)).map fun t => t.data.toList) ((ts.drop (i + 1)).map fun t => t.data.toList))) := rfl
      generalize h1 : bs (pkE ((ts.take (i + 1)).map fun t => t.data.toList) ((ts.drop (i + 1)).map fun t => t.data.toList)) = S' at CU HX1
      have HS' : Hid (S' = bs (pkE ((ts.take (i + 1)).map fun t => t.data.toList) ((ts.drop (i + 1)).map fun t => t.data.toList))) := h1.symm
      have PN : Hid (∀ W, RowKit.Below wr.heap.size wr W → Calls Tryz.prog 55 #[.pointer (some ⟨w.heap.size + 1, 0, none⟩), .string ts[i]] W fun r w' => r = .returned .nilIface ∧ ∃ tv', PoolAt (w.heap.size + 2) w' (w.heap.size + 1) w.heap.size tv' (ts.take i ++ [ts[i]]) ∧ RowKit.Below w.heap.size w w') := fun W hW => by
        have hp2 := HP.out.step hW
        refine Calls.mono (pputNew_any (w.heap.size + 2) (w.heap.size + 1) w.heap.size tv (ts.take i) ts[i] sn W (HGP.out.step (below_then HB.out hW)) hp2 h10) ?_
        rintro r w' (⟨q, _⟩ | ⟨_, q, _⟩ | ⟨_, _, q1, tv', q2, q3, _⟩)
        · exact absurd q hni
        · omega
        · exact ⟨q1, tv', q2, q3.belowP hp2 (below_then HB.out hW) (by omega) (by omega) (by omega)⟩
      generalize ts[i] = x at CU PN HTK
      clear h1 HX3 hS1 hS2 hS3 hen hpe hdr hni h10 HS
      go_wp2_with (first
        | (go_at_call 39; refine Calls.mono CU.out ?_; rintro r w2 ⟨rfl, hb2⟩)
        | (go_at_call 55; refine Calls.mono (PN.out _ hb2) ?_; rintro r w3 ⟨rfl, tv3, hp3, hb3⟩; have HP3 : Hid (PoolAt (w.heap.size + 2) w3 (w.heap.size + 1) w.heap.size tv3 (ts.take i ++ [x])) := hp3; have HB3 : Hid (RowKit.Below w.heap.size w w3) := hb3; clear hp3 hb3))
      go_roundw
      case rel => exact ⟨i + 1, S', tv3, by omega, rfl, ⟨HS'.out, Nat.le_of_lt (Nat.lt_of_lt_of_le HX1.out HX2.out)⟩, by rw [HTK.out]; exact HP3.out, HB3.out⟩
      case measure => simp [strLenP]; exact HX1.out
    · have hie : i = ts.length := by omega
      have hS : S = ⟨#[]⟩ := by
        have := HS.out.1
        rw [hie, List.drop_length] at this
        exact this
      have HP2 : Hid (∃ tv, PoolAt (w.heap.size + 2) wr (w.heap.size + 1) w.heap.size tv ts) := ⟨tv, by have := HP.out; rw [hie, List.take_length] at this; exact this⟩
      subst hS
      clear hie HP HS
      go_wp2
      go_ret2
      exact ⟨rfl, HP2.out, HB.out⟩

theorem unpack_pk (ts : List ByteArray) (sn : Nat → Addr) (w : World) (g : GlobA sn w) (gp : GlobP sn w) (hl : ts.length ≤ 1000) (hts : ∀ t ∈ ts, t.size ≤ 10000) (hnd : ts.Nodup) (hz : (pkE [] (ts.map fun t => t.data.toList)).length ≤ 1000000) :
    Calls Tryz.prog 14 #[.string (bs (pkE [] (ts.map fun t => t.data.toList)))] w fun r w' => r = .returned (.tuple #[.pointer (some ⟨w.heap.size + 1, 0, none⟩), .nilIface]) ∧ (∃ tv, PoolAt (w.heap.size + 2) w' (w.heap.size + 1) w.heap.size tv ts) ∧ RowKit.Below w.heap.size w w' := by
  have R : Hid (Calls _ _ _ _ _) := readBy_pk ts sn w g gp hl hts hnd hz
  clear g gp hts hnd hz
  generalize bs (pkE [] (ts.map fun t => t.data.toList)) = S at R ⊢
  go_enter Tryz.func14, Tryz.ntmps14
  go_wp2_with (go_at_call 38; refine Calls.mono R.out ?_; rintro r w1 ⟨rfl, hp1, hb1⟩)
  go_ret2
  exact ⟨rfl, hp1, hb1⟩
end Go.Proofs.YtbocknocmggcpaaGreatDoor
