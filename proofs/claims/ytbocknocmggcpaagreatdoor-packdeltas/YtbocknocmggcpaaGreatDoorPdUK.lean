/- The document's UnpackOf on a pack that Pack wrote. -/
import Derived.Test.YtbocknocmggcpaaGreatDoorKkV
namespace Go.Proofs.YtbocknocmggcpaaGreatDoor
open Go Go.RowKit Go.Sort Go.Maps Cal Pk
attribute [local go_sem] Oper.semAt_some

theorem blkD {W : World} {n : Nat} {v0 v1 : Value} {t : TypeId} (h : W.heap[n]? = some (.cells #[v0, v1] t (0, 0))) : W.cell? ⟨n, 0, none⟩ = some v0 ∧ W.cell? ⟨n, 1, none⟩ = some v1 ∧ W.frozen? ⟨n, 0, none⟩ = false ∧ W.frozen? ⟨n, 1, none⟩ = false := by
  refine ⟨?_, ?_, ?_, ?_⟩ <;> simp [World.cell?, World.frozen?, h]
/-- two cells written -/
def putD (W : World) (B : Nat) (v0 v1 : Value) : World := (W.setCell ⟨B, 0, none⟩ v0).setCell ⟨B, 1, none⟩ v1
theorem putD_blk {W : World} {B : Nat} {u0 u1 : Value} {t : TypeId} (v0 v1 : Value) (h : W.heap[B]? = some (.cells #[u0, u1] t (0, 0))) : (putD W B v0 v1).heap[B]? = some (.cells #[v0, v1] t (0, 0)) := set_block (i := 1) v1 (set_block (i := 0) v0 h)
theorem putD_grown (W : World) (B : Nat) (v0 v1 : Value) : W.grownBy (putD W B v0 v1) (some B) := grown_then (grown_set W ⟨B, 0, none⟩ v0) (grown_set _ ⟨B, 1, none⟩ v1)
theorem putD_fold (W : World) (B : Nat) (v0 v1 : Value) : ((W.setCell ⟨B, 0, none⟩ v0).setCell ⟨B, 1, none⟩ v1) = putD W B v0 v1 := rfl
set_option maxRecDepth 100000 in
theorem fineD_any (w : World) : Calls Tryz.prog 37 #[] w fun r w' => r = .returned (.agg #[.int .i64 0, .int .i64 (-1)]) ∧ Below w.heap.size w w' := by
  go_enter Tryz.func37, Tryz.ntmps37
  go_wp2
  obtain ⟨c0, c1, _, _⟩ := blkD (block_at (W := w) (.cells #[.int .i64 0, .int .i64 (-1)] 35) rfl)
  refine bodyPost_ret (v := .agg #[.int .i64 0, .int .i64 (-1)]) (by simp [results, Tryz.f37, go_sem, c0, c1]) rfl ⟨rfl, below_alloc _ _⟩

/-- the texts as lists -/
abbrev dts (ts : List ByteArray) : List (List UInt8) := ts.map fun t => t.data.toList
/-- what UnpackOf has in memory behind j texts -/
structure UPk (w W : World) (mv : Value) (us : List ByteArray) : Prop where
  m : MPl (w.heap.size + 2) W (w.heap.size + 1) mv us
  b : RowKit.Below w.heap.size w W
  k : W.heap[w.heap.size]? = some (.cells #[.int .i64 0, .int .i64 0] 35 (0, 0))
theorem UPk.step {w W W' : World} {mv : Value} {us : List ByteArray} (h : UPk w W mv us) (hb : RowKit.Below W.heap.size W W') : UPk w W' mv us :=
  ⟨h.m.step hb, below_then h.b hb, (hb.block _ (Array.getElem?_eq_some_iff.1 h.k).1).trans h.k⟩
theorem UPk.fresh {w W : World} {mv : Value} {us : List ByteArray} (h : UPk w W mv us) (x : ByteArray) (hx : x.size ≤ 10000) (hn : x ∉ us) (hl : us.length < 1000) :
    Calls Tryz.prog 36 #[.pointer (some ⟨w.heap.size + 1, 0, none⟩), .string x] W fun r w' => r = .returned (.int .i64 0) ∧ ∃ mv', UPk w w' mv' (us ++ [x]) := by
  refine Calls.mono (mfresh_pl _ _ _ us x W h.m (by omega) hx) ?_
  rintro r w' (⟨q, _⟩ | ⟨_, q, _⟩ | ⟨_, _, rfl, mv', k2, k4, _⟩)
  · exact absurd q hn
  · omega
  · refine ⟨rfl, mv', k2, ⟨k4.os.trans h.b.os, k4.tape.trans h.b.tape, k4.output.trans h.b.output, Nat.le_trans h.b.size k4.size, fun k hk => (k4.block k (Nat.lt_of_lt_of_le hk h.b.size) (by omega) (by omega) (fun q => by have := (World.ownsRow.lt h.m.row k q).1; omega)).trans (h.b.block k hk)⟩, ?_⟩
    exact (k4.block _ (Array.getElem?_eq_some_iff.1 h.k).1 (by omega) (by omega) (fun q => by have := (World.ownsRow.lt h.m.row _ q).1; omega)).trans h.k
theorem extD_mid {S : ByteArray} {A X R : List UInt8} {k m : Nat} (hS : S = bs (A ++ (X ++ R))) (hk : k = A.length) (hm : m = A.length + X.length) : S.extract k m = bs X := by
  subst hS hk hm
  exact pl_ext (by rw [bs_data, ByteArray.data_extract, Array.toList_extract, List.extract_eq_take_drop, bs_data, List.drop_left, Nat.add_sub_cancel_left, List.take_left])

theorem pkE_append (l r : List (List UInt8)) : ∀ pre, pkE pre (l ++ r) = pkE pre l ++ pkE (pre ++ l) r := by
  induction l with
  | nil => intro pre; simp [pkE]
  | cons x l ih =>
    intro pre
    show entE pre x ++ pkE (pre ++ [x]) (l ++ r) = entE pre x ++ pkE (pre ++ [x]) l ++ _
    rw [ih, List.append_assoc, List.append_assoc]
    rfl
theorem pkE_part (ts : List ByteArray) (j : Nat) : (pkE (dts (ts.take j)) (dts (ts.drop j))).length ≤ (pkE [] (dts ts)).length := by
  have h : dts ts = dts (ts.take j) ++ dts (ts.drop j) := by
    unfold dts
    rw [← List.map_append, List.take_append_drop]
  rw [h, pkE_append, List.length_append, List.nil_append]
  omega

set_option maxHeartbeats 4000000 in
set_option maxRecDepth 100000 in
theorem unpackOf_any (ts : List ByteArray) (hd : ts.Nodup) (hz : ∀ t ∈ ts, t.size ≤ 10000) (hl : ts.length ≤ 900) (hp : (pkE [] (dts ts)).length ≤ 900000) (w : World) :
    Calls Tryz.prog 12 #[.string (bs (pkE [] (dts ts)))] w fun r w' => ∃ (mv : Value), r = .returned (.tuple #[.pointer (some ⟨w.heap.size + 1, 0, none⟩), .agg #[.int .i64 0, .int .i64 (-1)]]) ∧ MPl (w.heap.size + 2) w' (w.heap.size + 1) mv ts ∧ RowKit.Below w.heap.size w w' := by
  have HD : Hid (ts.Nodup) := hd
  have HZ : Hid (∀ t ∈ ts, t.size ≤ 10000) := hz
  have HPL : Hid (∀ j, (pkE (dts (ts.take j)) (dts (ts.drop j))).length ≤ 900000) := fun j => Nat.le_trans (pkE_part ts j) hp
  have HS : Hid (bs (pkE [] (dts ts)) = bs (pkE (dts (ts.take 0)) (dts (ts.drop 0)))) := rfl
  have hsi : ((bs (pkE [] (dts ts))).size : Int) ≤ 1048576 := by rw [Lib.size_eq, bs_data]; omega
  generalize bs (pkE [] (dts ts)) = S at HS hsi
  clear hd hz hp
  go_enter Tryz.func12, Tryz.ntmps12
  go_upto_region 4 with (fail)
  have K0 : Hid (UPk w ((w.alloc (.cells #[.int .i64 0, .int .i64 0] 35)).alloc (.cells #[.slice none 0 0] 40)) (.slice none 0 0) []) := ⟨⟨by omega, by simp [World.size_alloc], block_at _ (World.size_alloc _ _), World.ownsRow_nil _ _ _ _⟩, below_then (below_alloc _ _) (below_alloc _ _), block_alloc _ (block_at _ rfl)⟩
  generalize (w.alloc (.cells #[.int .i64 0, .int .i64 0] 35)).alloc (.cells #[.slice none 0 0] 40) = w0 at K0 ⊢
  go_loopw [0, 5, 6, 7, 8, 9, 10, 11, 12] (fun sv _ _ _ _ _ _ _ _ wr => ∃ (s' : ByteArray), sv = .string s' ∧ Hid (∃ j mv, j ≤ ts.length ∧ s' = bs (pkE (dts (ts.take j)) (dts (ts.drop j))) ∧ UPk w wr mv (ts.take j))) (fun sv _ _ _ _ _ _ _ _ _ => strLen sv)
  case atStart => exact ⟨S, rfl, 0, _, Nat.zero_le _, HS.out, K0.out⟩
  case round =>
    obtain ⟨s', rfl, HR⟩ := hrel
    obtain ⟨j, mv, hj, hs, hu⟩ := HR.out
    clear HR
    by_cases hlt : j < ts.length
    · obtain ⟨t, hod, hom, hot⟩ : ∃ t : ByteArray, ts.drop j = t :: ts.drop (j + 1) ∧ t ∈ ts ∧ ts.take (j + 1) = ts.take j ++ [t] := ⟨ts[j], List.drop_eq_getElem_cons hlt, List.getElem_mem hlt, List.take_succ_eq_append_getElem hlt⟩
      have hfr : t ∉ ts.take j := fun q => by
        have h1 := HD.out
        rw [← List.take_append_drop j ts, hod] at h1
        exact (List.nodup_append.1 h1).2.2 t q t List.mem_cons_self rfl
      have htz := HZ.out t hom
      have hsl := HPL.out j
      rw [hod] at hs hsl
      have hent := entE_form (dts (ts.take j)) t.data.toList
      have HR' : Hid (pkE (dts (ts.take (j + 1))) (dts (ts.drop (j + 1))) = pkE (dts (ts.take j) ++ [t.data.toList]) (dts (ts.drop (j + 1)))) := by
        show _ = _
        rw [hot]
        unfold dts
        rw [List.map_append]
        rfl
      have hcons : pkE (dts (ts.take j)) (dts (t :: ts.drop (j + 1))) = entE (dts (ts.take j)) t.data.toList ++ pkE (dts (ts.take j) ++ [t.data.toList]) (dts (ts.drop (j + 1))) := rfl
      rw [hcons] at hs hsl
      generalize pkE (dts (ts.take j) ++ [t.data.toList]) (dts (ts.drop (j + 1))) = R at hs hsl HR'
      have hss : (s'.size : Int) ≤ 900000 := by rw [hs, Lib.size_eq, bs_data]; omega
      have htl : (ts.take j).length = j := by rw [List.length_take]; omega
      have FR : Hid (∀ W, RowKit.Below wr.heap.size wr W → ∀ y, y = t → Calls Tryz.prog 36 #[.pointer (some ⟨w.heap.size + 1, 0, none⟩), .string y] W fun r w' => r = .returned (.int .i64 0) ∧ ∃ mv', UPk w w' mv' (ts.take (j + 1))) := fun W hW y e => by
        rw [e, hot]
        exact (hu.step hW).fresh t htz hfr (by omega)
      have HJ : Hid (j < ts.length) := hlt
      rcases hent.2 with he | ⟨n, hn, he⟩
      · rw [he] at hs
        unfold szX at hs
        have hxl : t.data.toList.length = t.size := (Lib.size_eq t).symm
        have hbt : bs t.data.toList = t := pl_ext (bs_data _)
        generalize t.data.toList = x at hs hxl hbt
        have hs1 : s' = bs ([61] ++ (Lib.itoa (x.length : Nat) ++ 58 :: (x ++ 10 :: R))) := by rw [hs]; simp
        have hs2 : s' = bs ((61 :: (Lib.itoa (x.length : Nat) ++ [58])) ++ (x ++ 10 :: R)) := by rw [hs]; simp
        have hs3 : s' = bs ((61 :: (Lib.itoa (x.length : Nat) ++ 58 :: x)) ++ 10 :: R) := by rw [hs]; simp
        have hs4 : s' = bs ((61 :: (Lib.itoa (x.length : Nat) ++ 58 :: (x ++ [10]))) ++ R) := hs
        have hxN : (x.length : Int) ≤ 10000 := by omega
        have hiA := itoa_len (x.length : Int) (by omega) (by omega)
        have hsz : s'.size = 1 + ((Lib.itoa (x.length : Nat)).length + 1) + x.length + 1 + R.length := by
          rw [hs1, Lib.size_eq, bs_data]
          simp only [List.length_append, List.length_cons, List.length_nil]
          omega
        have h0 : 0 < s'.size := by omega
        have h61 : s'[0] = 61 := at_bs (A := []) hs1 rfl h0
        have h61i : ((s'[0]).toNat : Int) = 61 := by rw [h61]; rfl
        have hk : 1 + ((Lib.itoa (x.length : Nat)).length + 1) + x.length < s'.size := by omega
        have h10 : s'[1 + ((Lib.itoa (x.length : Nat)).length + 1) + x.length] = 10 := at_bs hs3 (by simp; omega) hk
        have h10i : ((s'[1 + ((Lib.itoa (x.length : Nat)).length + 1) + x.length]).toNat : Int) = 10 := by rw [h10]; rfl
        have HD1 : Hid (∀ t, t = bs (Lib.itoa (x.length : Nat) ++ 58 :: (x ++ 10 :: R)) → Calls Tryz.prog 35 #[.string t, .int .u8 58] wr fun r w' => r = .returned (.tuple #[.int .i64 ((x.length : Nat) : Int), .int .i64 (((Lib.itoa (x.length : Nat)).length : Int) + 1)]) ∧ w' = wr) := fun t e => by
          subst e
          refine head_itoa x.length (by omega) 58 (by decide) _ wr ?_
          simp only [List.length_append, List.length_cons]
          omega
        have HE1 : Hid (∀ k m : Nat, k = 1 → m = s'.size → s'.extract k m = bs (Lib.itoa (x.length : Nat) ++ 58 :: (x ++ 10 :: R))) := fun k m e1 e2 => extD_to hs1 e1 e2
        have HE2 : Hid (∀ k m : Nat, k = 1 + ((Lib.itoa (x.length : Nat)).length + 1) → m = 1 + ((Lib.itoa (x.length : Nat)).length + 1) + x.length → s'.extract k m = t) := fun k m e1 e2 => (extD_mid hs2 (by rw [e1]; simp; omega) (by rw [e2]; simp; omega)).trans hbt
        have HE3 : Hid (∀ k m : Nat, k = 1 + ((Lib.itoa (x.length : Nat)).length + 1) + x.length + 1 → m = s'.size → s'.extract k m = bs R) := fun k m e1 e2 => extD_to hs4 (by rw [e1]; simp; omega) e2
        clear hs hs1 hs2 hs3 hs4 h10 h61 he hent hsl hcons hu hbt hod hom hot hfr hxl htl
        generalize (Lib.itoa (x.length : Nat)).length = ln at *
        generalize x.length = N at *
        have h0i : (0 : Int) < (s'.size : Int) := by omega
        have b0 : (1 : Int) ≤ (s'.size : Int) := by omega
        have b1 : (1 : Int) + ((ln : Int) + 1) ≤ (s'.size : Int) := by omega
        have b2 : (1 : Int) + ((ln : Int) + 1) + (N : Int) < (s'.size : Int) := by omega
        have b3 : (0 : Int) ≤ (1 : Int) + ((ln : Int) + 1) := by omega
        have b4 : (0 : Int) ≤ (1 : Int) + ((ln : Int) + 1) + (N : Int) := by omega
        have b5 : (1 : Int) + ((ln : Int) + 1) + (N : Int) + 1 ≤ (s'.size : Int) := by omega
        have b6 : ¬ ((s'.size : Int) - (1 + ((ln : Int) + 1)) ≤ (N : Int)) := by omega
        have b7 : (1 : Int) + ((ln : Int) + 1) ≤ (1 : Int) + ((ln : Int) + 1) + (N : Int) := by omega
        have HSZ : Hid (s'.size = 1 + (ln + 1) + N + 1 + R.length) := hsz
        clear hsz
        go_upto_region 19 with (go_at_call 35; refine Calls.mono (HD1.out _ (HE1.out _ _ (by omega) (by omega))) ?_; rintro r w' ⟨rfl, hq⟩; have hq := hq.symm; subst hq)
        go_upto_region 32 with (go_at_call 36; refine Calls.mono (FR.out _ (Below.refl _ _) _ (HE2.out _ _ (by omega) (by omega))) ?_; rintro r w5 ⟨rfl, mv', hu5⟩; have HU5 : Hid (_) := hu5; clear hu5)
        clear FR HD1 HE1 HE2
        go_wp2
        refine ⟨⟨_, rfl, j + 1, mv', HJ.out, (HE3.out _ _ rfl rfl).trans (by rw [HR'.out]), HU5.out⟩, ?_⟩
        rw [HE3.out _ _ rfl rfl]
        show (bs R).size < s'.size
        rw [HSZ.out, Lib.size_eq, bs_data]
        omega
      · rw [he] at hs
        unfold dlE szX at hs
        rw [List.length_map] at hn
        have hxl : t.data.toList.length = t.size := (Lib.size_eq t).symm
        have hbt : bs t.data.toList = t := pl_ext (bs_data _)
        obtain ⟨ma, mc, rfl, hmc⟩ := hu.m.form
        obtain ⟨mb, rfl, _, hcell⟩ := hmc n hn
        have hgd : (dts (ts.take j)).getD n [] = ((ts.take j)[n]).data.toList := by
          rw [List.getD_eq_getElem?_getD, List.getElem?_map, List.getElem?_eq_getElem hn]
          rfl
        have hym : (ts.take j)[n].size ≤ 10000 := HZ.out _ (List.mem_of_mem_take (List.getElem_mem hn))
        rw [hgd] at hs
        have hmcell := hu.m.cell
        rw [htl] at hmcell
        generalize (ts.take j)[n] = y at hs hcell hym
        obtain ⟨L, hL1, hL2, hL3⟩ := dl_ops y.data.toList t.data.toList (by rw [← Lib.size_eq]; exact hym) (by omega)
        have hdz : (dl y.data.toList t.data.toList).length ≤ 900000 := by
          have q := hss
          rw [hs, Lib.size_eq, bs_data] at q
          simp only [List.length_append, List.length_cons, List.length_nil] at q
          omega
        have AP : Hid (∀ z, z = bs (dl y.data.toList t.data.toList) → Calls Tryz.prog 8 #[.string y, .string z] wr fun r w' => r = .returned (.tuple #[.string t, .int .i64 0]) ∧ RowKit.Below wr.heap.size wr w') := fun z e => by
          rw [e, hL3]
          rw [hL3] at hdz
          have q := applyOf_any y L t.data.toList hL1 hL2 hym (by omega) hdz wr
          rw [hbt] at q
          exact q
        generalize dl y.data.toList t.data.toList = d at hs hL3 hdz AP
        have hs1 : s' = bs ([126] ++ (Lib.itoa n ++ 58 :: (Lib.itoa (d.length : Nat) ++ 58 :: (d ++ 10 :: R)))) := by rw [hs]; simp
        have hs2 : s' = bs ((126 :: (Lib.itoa n ++ [58])) ++ (Lib.itoa (d.length : Nat) ++ 58 :: (d ++ 10 :: R))) := by rw [hs]; simp
        have hs3 : s' = bs ((126 :: (Lib.itoa n ++ 58 :: (Lib.itoa (d.length : Nat) ++ [58]))) ++ (d ++ 10 :: R)) := by rw [hs]; simp
        have hs4 : s' = bs ((126 :: (Lib.itoa n ++ 58 :: (Lib.itoa (d.length : Nat) ++ 58 :: d))) ++ 10 :: R) := by rw [hs]; simp
        have hs5 : s' = bs ((126 :: (Lib.itoa n ++ 58 :: (Lib.itoa (d.length : Nat) ++ 58 :: (d ++ [10])))) ++ R) := hs
        have hn9 : n ≤ 999999 := by omega
        have hni : (n : Int) < (j : Int) := by omega
        have hiA := itoa_len (n : Int) (by omega) (by omega)
        have hiD := itoa_len (d.length : Int) (by omega) (by omega)
        have hsz : s'.size = 1 + ((Lib.itoa n).length + 1) + ((Lib.itoa (d.length : Nat)).length + 1) + d.length + 1 + R.length := by
          rw [hs1, Lib.size_eq, bs_data]
          simp only [List.length_append, List.length_cons, List.length_nil]
          omega
        have h0 : 0 < s'.size := by omega
        have h126 : s'[0] = 126 := at_bs (A := []) hs1 rfl h0
        have h126i : ((s'[0]).toNat : Int) = 126 := by rw [h126]; rfl
        have hk : 1 + ((Lib.itoa n).length + 1) + ((Lib.itoa (d.length : Nat)).length + 1) + d.length < s'.size := by omega
        have h10 : s'[1 + ((Lib.itoa n).length + 1) + ((Lib.itoa (d.length : Nat)).length + 1) + d.length] = 10 := at_bs hs4 (by simp; omega) hk
        have h10i : ((s'[1 + ((Lib.itoa n).length + 1) + ((Lib.itoa (d.length : Nat)).length + 1) + d.length]).toNat : Int) = 10 := by rw [h10]; rfl
        have HD1 : Hid (∀ t, t = bs (Lib.itoa n ++ 58 :: (Lib.itoa (d.length : Nat) ++ 58 :: (d ++ 10 :: R))) → Calls Tryz.prog 35 #[.string t, .int .u8 58] wr fun r w' => r = .returned (.tuple #[.int .i64 (n : Int), .int .i64 (((Lib.itoa n).length : Int) + 1)]) ∧ w' = wr) := fun t e => by
          subst e
          refine head_itoa n hn9 58 (by decide) _ wr ?_
          simp only [List.length_append, List.length_cons]
          omega
        have HD2 : Hid (∀ t, t = bs (Lib.itoa (d.length : Nat) ++ 58 :: (d ++ 10 :: R)) → Calls Tryz.prog 35 #[.string t, .int .u8 58] wr fun r w' => r = .returned (.tuple #[.int .i64 ((d.length : Nat) : Int), .int .i64 (((Lib.itoa (d.length : Nat)).length : Int) + 1)]) ∧ w' = wr) := fun t e => by
          subst e
          refine head_itoa d.length (by omega) 58 (by decide) _ wr ?_
          simp only [List.length_append, List.length_cons]
          omega
        have HE1 : Hid (∀ k m : Nat, k = 1 → m = s'.size → s'.extract k m = bs (Lib.itoa n ++ 58 :: (Lib.itoa (d.length : Nat) ++ 58 :: (d ++ 10 :: R)))) := fun k m e1 e2 => extD_to hs1 e1 e2
        have HE4 : Hid (∀ k m : Nat, k = 1 + ((Lib.itoa n).length + 1) → m = s'.size → s'.extract k m = bs (Lib.itoa (d.length : Nat) ++ 58 :: (d ++ 10 :: R))) := fun k m e1 e2 => extD_to hs2 (by rw [e1]; simp; omega) e2
        have HE2 : Hid (∀ k m : Nat, k = 1 + ((Lib.itoa n).length + 1) + ((Lib.itoa (d.length : Nat)).length + 1) → m = 1 + ((Lib.itoa n).length + 1) + ((Lib.itoa (d.length : Nat)).length + 1) + d.length → s'.extract k m = bs d) := fun k m e1 e2 => extD_mid hs3 (by rw [e1]; simp; omega) (by rw [e2]; simp; omega)
        have HE3 : Hid (∀ k m : Nat, k = 1 + ((Lib.itoa n).length + 1) + ((Lib.itoa (d.length : Nat)).length + 1) + d.length + 1 → m = s'.size → s'.extract k m = bs R) := fun k m e1 e2 => extD_to hs5 (by rw [e1]; simp; omega) e2
        have hDN : (d.length : Int) ≤ 900000 := by omega
        clear hs hs1 hs2 hs3 hs4 hs5 h10 h126 he hent hsl hcons hu hbt hod hom hot hfr hxl hmc hgd hL1 hL2 hL3 hdz
        clear htl
        generalize (Lib.itoa n).length = ln at *
        generalize (Lib.itoa (d.length : Nat)).length = ld at *
        generalize hDd : d.length = N at *
        clear hDd
        have h0i : (0 : Int) < (s'.size : Int) := by omega
        have b0 : (1 : Int) ≤ (s'.size : Int) := by omega
        have b1 : (1 : Int) + ((ln : Int) + 1) ≤ (s'.size : Int) := by omega
        have b1' : (1 : Int) + ((ln : Int) + 1) + ((ld : Int) + 1) ≤ (s'.size : Int) := by omega
        have b2 : (1 : Int) + ((ln : Int) + 1) + ((ld : Int) + 1) + (N : Int) < (s'.size : Int) := by omega
        have b3 : (0 : Int) ≤ (1 : Int) + ((ln : Int) + 1) := by omega
        have b3' : (0 : Int) ≤ (1 : Int) + ((ln : Int) + 1) + ((ld : Int) + 1) := by omega
        have b4 : (0 : Int) ≤ (1 : Int) + ((ln : Int) + 1) + ((ld : Int) + 1) + (N : Int) := by omega
        have b5 : (1 : Int) + ((ln : Int) + 1) + ((ld : Int) + 1) + (N : Int) + 1 ≤ (s'.size : Int) := by omega
        have b6 : ¬ ((s'.size : Int) - (1 + ((ln : Int) + 1) + ((ld : Int) + 1)) ≤ (N : Int)) := by omega
        have b7 : (1 : Int) + ((ln : Int) + 1) + ((ld : Int) + 1) ≤ (1 : Int) + ((ln : Int) + 1) + ((ld : Int) + 1) + (N : Int) := by omega
        have HSZ : Hid (s'.size = 1 + (ln + 1) + (ld + 1) + N + 1 + R.length) := hsz
        clear hsz
        go_upto_region 11 with (go_at_call 35; refine Calls.mono (HD1.out _ (HE1.out _ _ (by omega) (by omega))) ?_; rintro r w' ⟨rfl, hq⟩; have hq := hq.symm; subst hq)
        go_upto_region 19 with (go_at_call 35; refine Calls.mono (HD2.out _ (HE4.out _ _ (by omega) (by omega))) ?_; rintro r w' ⟨rfl, hq⟩; have hq := hq.symm; subst hq)
        go_upto_region 30 with (go_at_call 8; refine Calls.mono (AP.out _ (HE2.out _ _ (by omega) (by omega))) ?_; rintro r w4 ⟨rfl, hb4⟩; have HB4 : Hid (RowKit.Below wr.heap.size wr w4) := hb4; clear hb4)
        go_upto_region 32 with (go_at_call 36; refine Calls.mono (FR.out _ HB4.out _ rfl) ?_; rintro r w5 ⟨rfl, mv', hu5⟩; have HU5 : Hid (_) := hu5; clear hu5)
        clear HD2 HE4 AP HB4
        clear FR HD1 HE1 HE2
        go_wp2
        refine ⟨⟨_, rfl, j + 1, mv', HJ.out, (HE3.out _ _ rfl rfl).trans (by rw [HR'.out]), HU5.out⟩, ?_⟩
        rw [HE3.out _ _ rfl rfl]
        show (bs R).size < s'.size
        rw [HSZ.out, Lib.size_eq, bs_data]
        omega
    · have hjl : j = ts.length := by omega
      rw [hjl, List.drop_length] at hs
      rw [hjl, List.take_length] at hu
      have hs0 : (s'.size : Int) ≤ 0 := by rw [hs, Lib.size_eq, bs_data]; exact Int.le_refl _
      have HU : Hid (UPk w wr mv ts) := hu
      have hbw : w.heap.size < wr.heap.size := (Array.getElem?_eq_some_iff.1 hu.k).1
      have HF : Hid (Calls _ _ _ _ _) := fineD_any wr
      clear hs hu
      go_wp2_with (go_at_call 37; refine Calls.mono HF.out ?_; rintro r w5 ⟨rfl, hb5⟩; have hk5 : w5.heap[w.heap.size]? = some (.cells #[.int .i64 0, .int .i64 0] 35 (0, 0)) := (hb5.block _ hbw).trans HU.out.k; obtain ⟨z0, z1, z2, z3⟩ := blkD hk5)
      rw [putD_fold]
      have c9 := putD_blk (.int .i64 0) (.int .i64 (-1)) hk5
      have g9 := putD_grown w5 w.heap.size (.int .i64 0) (.int .i64 (-1))
      clear z0 z1 z2 z3
      generalize putD w5 w.heap.size (.int .i64 0) (.int .i64 (-1)) = w9 at c9 g9 ⊢
      obtain ⟨d0, d1, _, _⟩ := blkD c9
      have BB := below_then HU.out.b hb5
      refine bodyPost_ret (v := .tuple #[.pointer (some ⟨w.heap.size + 1, 0, none⟩), .agg #[.int .i64 0, .int .i64 (-1)]]) (by simp [results, Tryz.f12, go_sem, d0, d1]) rfl ⟨mv, rfl, MPl.far (HU.out.m.step hb5) g9.size (fun k hk hh => g9.block k hk (fun q => ?_)), BB.grown g9 BB.size (fun k q => by cases q; exact Nat.le_refl _)⟩
      have q' : k = w.heap.size := Option.some.inj q
      rcases hh with e | e
      · omega
      · have := (World.ownsRow.lt HU.out.m.row k e).1
        omega
end Go.Proofs.YtbocknocmggcpaaGreatDoor
