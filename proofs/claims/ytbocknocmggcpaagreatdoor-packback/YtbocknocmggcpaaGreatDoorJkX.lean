/- Package pack's cutDelta, cutText: what becomes of an entry. -/
import Derived.Test.YtbocknocmggcpaaGreatDoorJkY
namespace Go.Proofs.YtbocknocmggcpaaGreatDoor
open Go Go.RowKit Go.Sort Go.Maps Cal Pk
attribute [local go_sem] Oper.semAt_some

theorem cutSized_txt (d rest : List UInt8) (sn : Nat → Addr) (w : World) (g : GlobA sn w) (hd : d.length ≤ 100000) (hr : rest.length ≤ 1000000) :
    Calls Tryz.prog 57 #[.string (bs (szX d 10 ++ rest)), .string ⟨#[10]⟩] w fun r w' => r = .returned (.tuple #[.string (bs d), .string (bs rest), .bool true]) ∧ RowKit.Below w.heap.size w w' := by
  have hl := szX_len d 10 (by omega)
  refine Calls.mono (cutSized_any (szX d 10 ++ rest) 10 sn w g (by rw [List.length_append]; omega)) ?_
  rintro r w' ⟨h, hb⟩
  have hc : cutS 10 (szX d 10 ++ rest) = some (d, rest) := by
    have := cutS_text 10 d rest (by omega)
    rw [← this]
    unfold szX
    simp
  rcases h with ⟨q, _⟩ | ⟨x, b, q, e⟩
  · rw [hc] at q; cases q
  · rw [hc] at q
    cases q
    exact ⟨e, hb⟩

set_option maxHeartbeats 1000000 in
theorem cutDelta_txt (n : Nat) (d rest : List UInt8) (sn : Nat → Addr) (w : World) (g : GlobA sn w) (hn : n ≤ 100000) (hd : d.length ≤ 100000) (hr : rest.length ≤ 1000000) :
    Calls Tryz.prog 58 #[.string (bs (dlE n d ++ rest))] w fun r w' => r = .returned (.tuple #[.int .i64 (n : Int), .string (bs d), .string (bs rest), .bool true]) ∧ RowKit.Below w.heap.size w w' := by
  have hl := szX_len d 10 (by omega)
  have hil := itoa_len (n : Int) (by omega) (by omega)
  have CP : Hid (Calls Tryz.prog 56 #[.string (bs (dlE n d ++ rest)), .string ⟨#[126]⟩] w fun r w' => r = .returned (.tuple #[.string (bs (Lib.itoa n ++ 58 :: (szX d 10 ++ rest))), .bool true]) ∧ w' = w) := by
    have := pcp_yes (Lib.itoa n ++ 58 :: (szX d 10 ++ rest)) 126 w
    have e : dlE n d ++ rest = 126 :: (Lib.itoa n ++ 58 :: (szX d 10 ++ rest)) := by unfold dlE; simp
    rw [e]
    exact this
  have C : Hid (Calls Tryz.prog 70 #[.string (bs (Lib.itoa n ++ 58 :: (szX d 10 ++ rest))), .string ⟨#[58]⟩] w fun r w' => r = .returned (.tuple #[.string (bs (Lib.itoa n)), .string (bs (szX d 10 ++ rest)), .bool true]) ∧ RowKit.Below w.heap.size w w') := by
    refine Calls.mono (pcut_ct (Lib.itoa n ++ 58 :: (szX d 10 ++ rest)) 58 w (by rw [List.length_append, List.length_cons, List.length_append]; omega)) ?_
    rintro r w' ⟨h, hb⟩
    have hc := ct_mk 58 (Lib.itoa n) (szX d 10 ++ rest) (no_sign _ (by omega) 58 (by decide))
    rcases h with ⟨q, _⟩ | ⟨x, b, q, e⟩
    · rw [hc] at q; cases q
    · rw [hc] at q
      cases q
      exact ⟨e, hb⟩
  have RA : Hid (∀ W, RowKit.Below w.heap.size w W → Calls Tryz.prog 71 #[.string (bs (Lib.itoa n))] W fun r w' => r = .returned (.tuple #[.int .i64 (n : Int), .bool true]) ∧ RowKit.Below W.heap.size W w') := fun W hW => by
    have := readAny_l (Lib.itoa n) sn W (g.step hW) (by omega)
    rw [numA_itoa (n : Int) (by omega) (by omega)] at this
    exact this
  have CS : Hid (∀ W, RowKit.Below w.heap.size w W → Calls Tryz.prog 57 #[.string (bs (szX d 10 ++ rest)), .string ⟨#[10]⟩] W fun r w' => r = .returned (.tuple #[.string (bs d), .string (bs rest), .bool true]) ∧ RowKit.Below W.heap.size W w') := fun W hW => cutSized_txt d rest sn W (g.step hW) hd hr
  clear g hl hil
  generalize bs (szX d 10 ++ rest) = s1 at *
  generalize bs (Lib.itoa n ++ 58 :: (szX d 10 ++ rest)) = s2 at *
  generalize bs (dlE n d ++ rest) = s3 at *
  generalize bs (Lib.itoa n) = s4 at *
  generalize bs d = s5 at *
  generalize bs rest = s6 at *
  go_enter Tryz.func58, Tryz.ntmps58
  go_wp2_with (first
    | (go_at_call 56; refine Calls.mono CP.out ?_; rintro r w1 ⟨rfl, hq⟩; have hq := hq.symm; subst hq)
    | (go_at_call 70; refine Calls.mono C.out ?_; rintro r w2 ⟨rfl, hb2⟩)
    | (go_at_call 71; refine Calls.mono (RA.out _ hb2) ?_; rintro r w3 ⟨rfl, hb3⟩; have hb3 := below_then hb2 hb3)
    | (go_at_call 57; refine Calls.mono (CS.out _ hb3) ?_; rintro r w4 ⟨rfl, hb4⟩; have hb4 := below_then hb3 hb4))
  refine bodyPost_ret (v := .tuple #[.int .i64 (n : Int), .string s5, .string s6, .bool true]) (by simp [results, Tryz.f58, go_sem]) rfl ⟨rfl, hb4⟩

set_option maxHeartbeats 1000000 in
theorem pcutText_whole (pb : Nat) (d rest : List UInt8) (sn : Nat → Addr) (w : World) (g : GlobA sn w) (hd : d.length ≤ 100000) (hr : rest.length ≤ 1000000) :
    Calls Tryz.prog 39 #[.pointer (some ⟨pb, 0, none⟩), .string (bs (61 :: szX d 10 ++ rest))] w fun r w' => r = .returned (.tuple #[.string (bs d), .string (bs rest), .nilIface]) ∧ RowKit.Below w.heap.size w w' := by
  have CP : Hid (Calls Tryz.prog 56 #[.string (bs (61 :: szX d 10 ++ rest)), .string ⟨#[61]⟩] w fun r w' => r = .returned (.tuple #[.string (bs (szX d 10 ++ rest)), .bool true]) ∧ w' = w) := pcp_yes (szX d 10 ++ rest) 61 w
  have CS : Hid (Calls Tryz.prog 57 #[.string (bs (szX d 10 ++ rest)), .string ⟨#[10]⟩] w fun r w' => r = .returned (.tuple #[.string (bs d), .string (bs rest), .bool true]) ∧ RowKit.Below w.heap.size w w') := cutSized_txt d rest sn w g hd hr
  clear g
  generalize bs (61 :: szX d 10 ++ rest) = s3 at *
  generalize bs (szX d 10 ++ rest) = s1 at *
  generalize bs d = s5 at *
  generalize bs rest = s6 at *
  go_enter Tryz.func39, Tryz.ntmps39
  go_wp2_with (first
    | (go_at_call 56; refine Calls.mono CP.out ?_; rintro r w1 ⟨rfl, hq⟩; have hq := hq.symm; subst hq)
    | (go_at_call 57; refine Calls.mono CS.out ?_; rintro r w4 ⟨rfl, hb4⟩))
  refine bodyPost_ret (v := .tuple #[.string s5, .string s6, .nilIface]) (by simp [results, Tryz.f39, go_sem]) rfl ⟨rfl, hb4⟩

set_option maxHeartbeats 1000000 in
theorem pcutText_delta (lo pb mb : Nat) (tv : Value) (ts : List ByteArray) (n : Nat) (s rest : List UInt8) (sn : Nat → Addr) (w : World) (g : GlobA sn w) (h : PoolAt lo w pb mb tv ts) (hn : n < ts.length) (hl : ts.length ≤ 1000) (hts : (ts[n]).size ≤ 10000) (hs : s.length ≤ 10000) (hr : rest.length ≤ 1000000) :
    Calls Tryz.prog 39 #[.pointer (some ⟨pb, 0, none⟩), .string (bs (dlE n (dl (ts[n]).data.toList s) ++ rest))] w fun r w' => r = .returned (.tuple #[.string (bs s), .string (bs rest), .nilIface]) ∧ RowKit.Below w.heap.size w w' := by
  have hz : (ts[n]).data.toList.length = (ts[n]).size := (Lib.size_eq _).symm
  have hdl := dl_short (ts[n]).data.toList s (by omega) hs
  have CP : Hid (Calls Tryz.prog 56 #[.string (bs (dlE n (dl (ts[n]).data.toList s) ++ rest)), .string ⟨#[61]⟩] w fun r w' => ∃ x, r = .returned (.tuple #[.string x, .bool false]) ∧ w' = w) := pcp_no _ 61 w (by unfold dlE; simp)
  have CD : Hid (Calls Tryz.prog 58 #[.string (bs (dlE n (dl (ts[n]).data.toList s) ++ rest))] w fun r w' => r = .returned (.tuple #[.int .i64 (n : Int), .string (bs (dl (ts[n]).data.toList s)), .string (bs rest), .bool true]) ∧ RowKit.Below w.heap.size w w') := cutDelta_txt n _ rest sn w g (by omega) (by omega) hr
  have PG : Hid (∀ W, RowKit.Below w.heap.size w W → Calls Tryz.prog 31 #[.pointer (some ⟨pb, 0, none⟩), .int .i64 (n : Int)] W fun r w' => r = .returned (.tuple #[.string ts[n], .nilIface]) ∧ w' = W) := fun W hW => pget_ok lo pb mb tv ts n hn W (h.step hW)
  have AP : Hid (∀ W, RowKit.Below w.heap.size w W → Calls Tryz.prog 15 #[.string ts[n], .string (bs (dl (ts[n]).data.toList s))] W fun r w' => r = .returned (.tuple #[.string (bs s), .nilIface]) ∧ RowKit.Below W.heap.size W w') := fun W hW => by
    have := apply_any (ts[n]).data.toList (dl (ts[n]).data.toList s) sn W (g.step hW) (by omega) (by omega)
    rw [(dl_apply (ts[n]).data.toList s (by omega) hs).1, show bs (ts[n]).data.toList = ts[n] from pl_ext (bs_data _)] at this
    exact this
  clear g h hdl hz
  generalize bs (dlE n (dl (ts[n]).data.toList s) ++ rest) = s3 at *
  generalize bs (dl (ts[n]).data.toList s) = s1 at *
  generalize ts[n] = t at *
  generalize bs s = s5 at *
  generalize bs rest = s6 at *
  go_enter Tryz.func39, Tryz.ntmps39
  go_wp2_with (first
    | (go_at_call 56; refine Calls.mono CP.out ?_; rintro r w1 ⟨x, rfl, hq⟩; have hq := hq.symm; subst hq)
    | (go_at_call 58; refine Calls.mono CD.out ?_; rintro r w2 ⟨rfl, hb2⟩)
    | (go_at_call 31; refine Calls.mono (PG.out _ hb2) ?_; rintro r w3 ⟨rfl, hq⟩; have hq := hq.symm; subst hq)
    | (go_at_call 15; refine Calls.mono (AP.out _ hb2) ?_; rintro r w4 ⟨rfl, hb4⟩; have hb4 := below_then hb2 hb4))
  refine bodyPost_ret (v := .tuple #[.string s5, .string s6, .nilIface]) (by simp [results, Tryz.f39, go_sem]) rfl ⟨rfl, hb4⟩
end Go.Proofs.YtbocknocmggcpaaGreatDoor

/- Package pack's Unpack: a pack of texts is read as they were. -/
namespace Go.Proofs.YtbocknocmggcpaaGreatDoor
open Go Go.RowKit Go.Sort Go.Maps Cal Pk
attribute [local go_sem] Oper.semAt_some

theorem PKept.belowP {w0 w w' : World} {lo pb mb : Nat} {tv : Value} {ts : List ByteArray} (h : PKept w w' pb mb tv) (hp : PoolAt lo w pb mb tv ts) (hb : RowKit.Below w0.heap.size w0 w) (h1 : w0.heap.size ≤ pb) (h2 : w0.heap.size ≤ mb) (h3 : w0.heap.size ≤ lo) : RowKit.Below w0.heap.size w0 w' :=
  ⟨h.os.trans hb.os, h.tape.trans hb.tape, h.output.trans hb.output, Nat.le_trans hb.size h.size, fun k hk => (h.block k (Nat.lt_of_lt_of_le hk hb.size) (by omega) (by omega) (fun e => by have := (World.ownsRow.lt hp.row k e).1; omega)).trans (hb.block k hk)⟩
/-- an entry cut off a pack -/
theorem pcutText_ent (lo pb mb : Nat) (tv : Value) (ts : List ByteArray) (s : ByteArray) (rest : List UInt8) (sn : Nat → Addr) (w : World) (g : GlobA sn w) (h : PoolAt lo w pb mb tv ts) (hl : ts.length ≤ 1000) (hts : ∀ t ∈ ts, t.size ≤ 10000) (hs : s.size ≤ 10000) (hr : rest.length ≤ 1000000) :
    Calls Tryz.prog 39 #[.pointer (some ⟨pb, 0, none⟩), .string (bs (entE (ts.map fun t => t.data.toList) s.data.toList ++ rest))] w fun r w' => r = .returned (.tuple #[.string s, .string (bs rest), .nilIface]) ∧ RowKit.Below w.heap.size w w' := by
  have hz : s.data.toList.length = s.size := (Lib.size_eq s).symm
  have hse : bs s.data.toList = s := pl_ext (bs_data _)
  rcases (entE_form (ts.map fun t => t.data.toList) s.data.toList).2 with e | ⟨n, hn, e⟩
  · rw [e]
    have := pcutText_whole pb s.data.toList rest sn w g (by omega) hr
    rw [hse] at this
    exact this
  · rw [e]
    rw [List.length_map] at hn
    have hg : (ts.map fun t => t.data.toList).getD n [] = (ts[n]).data.toList := by
      rw [List.getD_eq_getElem?_getD, List.getElem?_map, List.getElem?_eq_getElem hn]; rfl
    rw [hg]
    have := pcutText_delta lo pb mb tv ts n s.data.toList rest sn w g h hn hl (hts _ (List.getElem_mem hn)) (by omega) hr
    rw [hse] at this
    exact this
theorem entE_ne (ts : List (List UInt8)) (s : List UInt8) : 0 < (entE ts s).length := by
  rcases (entE_form ts s).2 with e | ⟨n, _, e⟩
  · rw [e]; simp
  · rw [e]; unfold dlE; simp

set_option maxHeartbeats 2000000 in
set_option maxRecDepth 100000 in
theorem readBy_pk (ts : List ByteArray) (sn : Nat → Addr) (w : World) (g : GlobA sn w) (gp : GlobP sn w) (hl : ts.length ≤ 1000) (hts : ∀ t ∈ ts, t.size ≤ 10000) (hnd : ts.Nodup) (hz : (pkE [] (ts.map fun t => t.data.toList)).length ≤ 1000000) :
    Calls Tryz.prog 38 #[.string (bs (pkE [] (ts.map fun t => t.data.toList))), .func (.func 39) #[] #[]] w fun r w' => r = .returned (.tuple #[.pointer (some ⟨w.heap.size + 1, 0, none⟩), .nilIface]) ∧ (∃ tv, PoolAt (w.heap.size + 2) w' (w.heap.size + 1) w.heap.size tv ts) ∧ RowKit.Below w.heap.size w w' := by
  have NW : Hid (Calls _ _ _ _ _) := pnew_any w
  have HG : Hid (GlobA sn w) := g
  have HGP : Hid (GlobP sn w) := gp
  have HTS : Hid (∀ t ∈ ts, t.size ≤ 10000) := hts
  have HND : Hid ts.Nodup := hnd
  have HZ : Hid ((pkE [] (ts.map fun t => t.data.toList)).length ≤ 1000000) := hz
  have hsz : ((bs (pkE [] (ts.map fun t => t.data.toList))).size : Int) ≤ 1048576 := by rw [Lib.size_eq, bs_data]; omega
  have HS0 : Hid (bs (pkE [] (ts.map fun t => t.data.toList)) = bs (pkE ((ts.take 0).map fun t => t.data.toList) ((ts.drop 0).map fun t => t.data.toList)) ∧ (bs (pkE [] (ts.map fun t => t.data.toList))).size ≤ 1000000) := ⟨rfl, by rw [Lib.size_eq, bs_data]; exact hz⟩
  generalize bs (pkE [] (ts.map fun t => t.data.toList)) = S0 at hsz HS0 ⊢
  clear g gp hts hnd hz
  go_enter Tryz.func38, Tryz.ntmps38
  go_wp2_with (go_at_call 26; refine Calls.mono NW.out ?_; rintro r w1 ⟨rfl, hp1, hb1⟩)
  have HP1 : Hid (PoolAt _ _ _ _ _ _) := hp1
  have HB1 : Hid (RowKit.Below _ _ _) := hb1
  clear hp1 hb1 NW
  go_loopw [0, 7, 8, 9] (fun sv _ _ _ wr => ∃ (i : Nat) (S : ByteArray) (tv : Value), i ≤ ts.length ∧ sv = .string S ∧ Hid (S = bs (pkE ((ts.take i).map fun t => t.data.toList) ((ts.drop i).map fun t => t.data.toList)) ∧ S.size ≤ 1000000) ∧ Hid (PoolAt (w.heap.size + 2) wr (w.heap.size + 1) w.heap.size tv (ts.take i)) ∧ Hid (RowKit.Below w.heap.size w wr)) (fun sv _ _ _ _ => strLenP sv)
  case atStart => exact ⟨0, S0, _, Nat.zero_le _, rfl, HS0.out, HP1.out, HB1.out⟩
  case round =>
    obtain ⟨i, S, tv, hi, rfl, HS, HP, HB⟩ := hrel
    by_cases hlt : i < ts.length
    · have hdr : ts.drop i = ts[i] :: ts.drop (i + 1) := List.drop_eq_getElem_cons hlt
      have HTK : Hid (ts.take (i + 1) = ts.take i ++ [ts[i]]) := List.take_succ_eq_append_getElem hlt
      have h10 : (ts[i]).size ≤ 10000 := HTS.out _ (List.getElem_mem hlt)
      have hni : ts[i] ∉ ts.take i := by
        have := HND.out
        rw [← List.take_append_drop i ts, hdr, List.nodup_append] at this
        exact fun q => this.2.2 _ q _ List.mem_cons_self rfl
      have hpe : pkE ((ts.take i).map fun t => t.data.toList) ((ts.drop i).map fun t => t.data.toList) = entE ((ts.take i).map fun t => t.data.toList) (ts[i]).data.toList ++ pkE ((ts.take (i + 1)).map fun t => t.data.toList) ((ts.drop (i + 1)).map fun t => t.data.toList) := by
        rw [hdr, List.map_cons, HTK.out, List.map_append]
        rfl
      have hln : (ts.take i).length ≤ 1000 := by rw [List.length_take]; omega
      have hlt2 : (ts.take i).length < 1000 := by rw [List.length_take]; omega
      obtain ⟨hS1, hS2⟩ := HS.out
      rw [hpe] at hS1
      have hS3 : S.size = (entE ((ts.take i).map fun t => t.data.toList) (ts[i]).data.toList).length + (pkE ((ts.take (i + 1)).map fun t => t.data.toList) ((ts.drop (i + 1)).map fun t => t.data.toList)).length := by rw [hS1, Lib.size_eq, bs_data, List.length_append]
      have hen := entE_ne ((ts.take i).map fun t => t.data.toList) (ts[i]).data.toList
      have CU : Hid (Calls Tryz.prog 39 #[.pointer (some ⟨w.heap.size + 1, 0, none⟩), .string S] wr fun r w' => r = .returned (.tuple #[.string ts[i], .string (bs (pkE ((ts.take (i + 1)).map fun t => t.data.toList) ((ts.drop (i + 1)).map fun t => t.data.toList))), .nilIface]) ∧ RowKit.Below wr.heap.size wr w') := by
        show Calls _ _ _ _ _
        rw [hS1]
        exact pcutText_ent _ _ _ tv (ts.take i) ts[i] _ sn wr (HG.out.step HB.out) HP.out hln (fun t q => HTS.out t (List.mem_of_mem_take q)) h10 (by omega)
      have hse : S.toList.isEmpty = false := by
        rw [ByteArray.toList_eq, List.isEmpty_eq_false_iff]
        intro q
        have : S.data.toList.length = 0 := by rw [q]; rfl
        rw [← Lib.size_eq] at this
        omega
      have hse2 : (S.toList == (⟨#[]⟩ : ByteArray).toList) = false := pl_ne (fun q => by rw [q] at hS3; have : (⟨#[]⟩ : ByteArray).size = 0 := rfl; omega)
      have HX1 : Hid ((bs (pkE ((ts.take (i + 1)).map fun t => t.data.toList) ((ts.drop (i + 1)).map fun t => t.data.toList))).size < S.size) := by show _ < _; rw [Lib.size_eq, bs_data]; omega
      have HX2 : Hid (S.size ≤ 1000000) := hS2
      have HX3 : Hid (bs (pkE ((ts.take (i + 1)).map fun t => t.data.toList) ((ts.drop (i + 1)).map fun t => t.data.toList)) = bs (pkE ((ts.take (i + 1)).map fun t => t.data.toList) ((ts.drop (i + 1)).map fun t => t.data.toList))) := rfl
      generalize h1 : bs (pkE ((ts.take (i + 1)).map fun t => t.data.toList) ((ts.drop (i + 1)).map fun t => t.data.toList)) = S' at CU HX1
      have HS' : Hid (S' = bs (pkE ((ts.take (i + 1)).map fun t => t.data.toList) ((ts.drop (i + 1)).map fun t => t.data.toList))) := h1.symm
      have PN : Hid (∀ W, RowKit.Below wr.heap.size wr W → Calls Tryz.prog 55 #[.pointer (some ⟨w.heap.size + 1, 0, none⟩), .string ts[i]] W fun r w' => r = .returned .nilIface ∧ ∃ tv', PoolAt (w.heap.size + 2) w' (w.heap.size + 1) w.heap.size tv' (ts.take i ++ [ts[i]]) ∧ RowKit.Below w.heap.size w w') := fun W hW => by
        have hp2 := HP.out.step hW
        refine Calls.mono (pputNew_any (w.heap.size + 2) (w.heap.size + 1) w.heap.size tv (ts.take i) ts[i] sn W (HGP.out.step (below_then HB.out hW)) hp2 h10) ?_
        rintro r w' (⟨q, _⟩ | ⟨_, q, _⟩ | ⟨_, _, q1, tv', q2, q3, _⟩)
        · exact absurd q hni
        · omega
        · exact ⟨q1, tv', q2, q3.belowP hp2 (below_then HB.out hW) (by omega) (by omega) (by omega)⟩
      generalize ts[i] = x at CU PN HTK
      clear h1 HX3 hS1 hS2 hS3 hen hpe hdr hni h10 HS
      go_wp2_with (first
        | (go_at_call 39; refine Calls.mono CU.out ?_; rintro r w2 ⟨rfl, hb2⟩)
        | (go_at_call 55; refine Calls.mono (PN.out _ hb2) ?_; rintro r w3 ⟨rfl, tv3, hp3, hb3⟩; have HP3 : Hid (PoolAt (w.heap.size + 2) w3 (w.heap.size + 1) w.heap.size tv3 (ts.take i ++ [x])) := hp3; have HB3 : Hid (RowKit.Below w.heap.size w w3) := hb3; clear hp3 hb3))
      go_roundw
      case rel => exact ⟨i + 1, S', tv3, by omega, rfl, ⟨HS'.out, Nat.le_of_lt (Nat.lt_of_lt_of_le HX1.out HX2.out)⟩, by rw [HTK.out]; exact HP3.out, HB3.out⟩
      case measure => simp [strLenP]; exact HX1.out
    · have hie : i = ts.length := by omega
      have hS : S = ⟨#[]⟩ := by
        have := HS.out.1
        rw [hie, List.drop_length] at this
        exact this
      have HP2 : Hid (∃ tv, PoolAt (w.heap.size + 2) wr (w.heap.size + 1) w.heap.size tv ts) := ⟨tv, by have := HP.out; rw [hie, List.take_length] at this; exact this⟩
      subst hS
      clear hie HP HS
      go_wp2
      go_ret2
      exact ⟨rfl, HP2.out, HB.out⟩

theorem unpack_pk (ts : List ByteArray) (sn : Nat → Addr) (w : World) (g : GlobA sn w) (gp : GlobP sn w) (hl : ts.length ≤ 1000) (hts : ∀ t ∈ ts, t.size ≤ 10000) (hnd : ts.Nodup) (hz : (pkE [] (ts.map fun t => t.data.toList)).length ≤ 1000000) :
    Calls Tryz.prog 14 #[.string (bs (pkE [] (ts.map fun t => t.data.toList)))] w fun r w' => r = .returned (.tuple #[.pointer (some ⟨w.heap.size + 1, 0, none⟩), .nilIface]) ∧ (∃ tv, PoolAt (w.heap.size + 2) w' (w.heap.size + 1) w.heap.size tv ts) ∧ RowKit.Below w.heap.size w w' := by
  have R : Hid (Calls _ _ _ _ _) := readBy_pk ts sn w g gp hl hts hnd hz
  clear g gp hts hnd hz
  generalize bs (pkE [] (ts.map fun t => t.data.toList)) = S at R ⊢
  go_enter Tryz.func14, Tryz.ntmps14
  go_wp2_with (go_at_call 38; refine Calls.mono R.out ?_; rintro r w1 ⟨rfl, hp1, hb1⟩)
  go_ret2
  exact ⟨rfl, hp1, hb1⟩
end Go.Proofs.YtbocknocmggcpaaGreatDoor
