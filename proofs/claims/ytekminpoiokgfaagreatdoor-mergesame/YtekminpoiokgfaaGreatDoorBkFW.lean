/- Package event's readers of a field's text: readNumber, areMoves, isShaped, readList, readMove. -/
import Derived.Test.YtekminpoiokgfaaGreatDoorYaP
import Derived.Test.YtekminpoiokgfaaGreatDoorRuleWW
import Derived.Test.YtekminpoiokgfaaGreatDoorEvL2W
namespace Go.Proofs.YtekminpoiokgfaaGreatDoor
open Go Go.RowKit Cal
attribute [local go_sem] Oper.semAt_some

theorem ereadNumber_any (m : Int) (w : World) (h0 : 0 ≤ m) (h1 : m ≤ 100000) (ht : Tab w) :
    Calls Tryz.prog 108 #[.string (bs (Lib.itoa m))] w fun r w' => r = .returned (.tuple #[.int .i64 m, .bool true]) ∧ Below w.heap.size w w' := by
  have hl := itoa_len m h0 (by omega)
  have hsz : (bs (Lib.itoa m)).size ≤ 6 := by rw [Lib.size_eq, bs_data]; exact hl
  have ha := Tryz.strconv_Atoi (bs (Lib.itoa m)) m (by omega) (by rw [bs_data]; exact itoa_atoi m h0) w
  have A : Hid (Calls Tryz.prog 140 #[.string (bs (Lib.itoa m))] w fun e w' => e = .returned (.tuple #[.int .i64 m, .nilIface]) ∧ Below w.heap.size w w') := by
    refine ha.mono ?_
    rintro e w' ⟨rfl, t, rfl⟩
    exact ⟨rfl, bytes_below _ _ _⟩
  have I : Hid (∀ w, Tab w → Calls Tryz.prog 99 #[.int .i64 m] w fun e w' => e = .returned (.string (bs (Lib.itoa m))) ∧ Below w.heap.size w w') := fun w t => itoa_any m w h0 h1 t
  generalize bs (Lib.itoa m) = sb at hsz A I
  have T : Hid (Tab w) := ht
  have hsz' : (sb.size : Int) ≤ 6 := by omega
  clear ha ht hl
  go_enter Tryz.func108, Tryz.ntmps108
  go_wp2_with (first
    | (go_at_call 140; refine Calls.mono A.out ?_; rintro r w1 ⟨rfl, hb1⟩)
    | (go_at_call 99; refine (I.out _ (T.out.step hb1)).mono ?_; rintro r w2 ⟨rfl, hb2⟩))
  go_ret2
  exact ⟨rfl, below_then hb1 hb2⟩

theorem readDay_any (n : Int) (w : World) (h0 : 0 ≤ n) (h1 : n ≤ 73048) :
    Calls Tryz.prog 110 #[.string (bs (dtx n))] w fun r w' => r = .returned (.tuple #[.int .i64 n, .nilIface]) ∧ Below w.heap.size w w' := by
  obtain ⟨y, m, d, hv, hn, e⟩ := dtx_ok h0 h1
  rw [e]
  have hv' := hv
  obtain ⟨h1, h2, h3, h4, h5, h6⟩ := hv
  have h7 := (dim_bd y m).2
  have hD := txt_isDT y m d (by omega) (by omega) (by omega) (by omega) (by omega) (by omega)
  have hN := txt_nums y m d (by omega) (by omega) (by omega) (by omega) (by omega) (by omega)
  have C := read_ok (bs (txt y m d)) w hD (by unfold bs; rw [hN.1, hN.2.1, hN.2.2]; exact hv')
  unfold bs at C
  rw [hN.1, hN.2.1, hN.2.2, hn] at C
  exact C

set_option maxHeartbeats 1000000 in
theorem readMove_any (a b : Int) (w : World) (ha0 : 0 ≤ a) (ha1 : a ≤ 73048) (hb0 : 0 ≤ b) (hb1 : b ≤ 73048) :
    Calls Tryz.prog 114 #[.string (bs (mtx (a, b)))] w fun r w' => r = .returned (.tuple #[.agg #[.int .i64 a, .int .i64 b], .nilIface]) ∧ Below w.heap.size w w' := by
  have CU : Hid (∀ W, _) := fun W => cut_any (a, b) W
  have RA : Hid (∀ W, _) := fun W => readDay_any a W ha0 ha1
  have RB' : Hid (∀ W, _) := fun W => readDay_any b W hb0 hb1
  dsimp only at CU
  generalize bs (mtx (a, b)) = sm at CU ⊢
  generalize bs (dtx a) = sa at CU RA
  generalize bs (dtx b) = sb at CU RB'
  clear ha0 ha1 hb0 hb1
  have hA := below_alloc w (.cells #[.int .i64 0, .int .i64 0] 72)
  have k0 : (w.alloc (.cells #[.int .i64 0, .int .i64 0] 72)).heap[w.heap.size]? = some (.cells #[.int .i64 0, .int .i64 0] 72 (0, 0)) := block_at _ rfl
  have HA : Hid (_) := hA
  have K0 : Hid (_) := k0
  clear hA k0
  have FX : Hid (∀ W, Below (w.alloc (.cells #[.int .i64 0, .int .i64 0] 72)).heap.size (w.alloc (.cells #[.int .i64 0, .int .i64 0] 72)) W → W.heap[w.heap.size]? = some (.cells #[.int .i64 0, .int .i64 0] 72 (0, 0))) := fun W h => (h.block _ (by simp)).trans K0.out
  go_enter Tryz.func114, Tryz.ntmps114
  go_upto_region 8 with (first
    | (go_at_call 148; refine Calls.mono (CU.out _) ?_; rintro r w1 ⟨rfl, hb1⟩)
    | (go_at_call_of 110 (Value.string sa); refine Calls.mono (RA.out _) ?_; rintro r w2 ⟨rfl, hb2⟩)
    | (go_at_call_of 110 (Value.string sb); refine Calls.mono (RB'.out _) ?_; rintro r w3 ⟨rfl, hb3⟩))
  have hB3 := below_then hb1 (below_then hb2 hb3)
  have kk := FX.out _ hB3
  have c0 : w3.cell? ⟨w.heap.size, 0, none⟩ = some (.int .i64 0) := by simp [World.cell?, kk]
  have c1 : w3.cell? ⟨w.heap.size, 1, none⟩ = some (.int .i64 0) := by simp [World.cell?, kk]
  have f0 := blk11_frozen kk 0
  have f1 := blk11_frozen kk 1
  have KK : Hid (_) := kk
  have HB3 : Hid (_) := hB3
  clear kk hB3 hb1 hb2 hb3
  have g0 : (w3.setCell ⟨w.heap.size, 0, none⟩ (.int .i64 a)).heap[w.heap.size]? = some (.cells #[.int .i64 a, .int .i64 0] 72 (0, 0)) := set_block (i := 0) _ KK.out
  have g1 : ((w3.setCell ⟨w.heap.size, 0, none⟩ (.int .i64 a)).setCell ⟨w.heap.size, 1, none⟩ (.int .i64 b)).heap[w.heap.size]? = some (.cells #[.int .i64 a, .int .i64 b] 72 (0, 0)) := set_block (i := 1) _ g0
  have d0 : ((w3.setCell ⟨w.heap.size, 0, none⟩ (.int .i64 a)).setCell ⟨w.heap.size, 1, none⟩ (.int .i64 b)).cell? ⟨w.heap.size, 0, none⟩ = some (.int .i64 a) := by simp [World.cell?, g1]
  have d1 : ((w3.setCell ⟨w.heap.size, 0, none⟩ (.int .i64 a)).setCell ⟨w.heap.size, 1, none⟩ (.int .i64 b)).cell? ⟨w.heap.size, 1, none⟩ = some (.int .i64 b) := by simp [World.cell?, g1]
  have f2 := blk11_frozen g0 1
  clear g0 g1
  go_wp2
  refine bodyPost_ret (v := .tuple #[.agg #[.int .i64 a, .int .i64 b], .nilIface]) (by simp [results, Tryz.f114, go_sem, d0, d1]) rfl ⟨rfl, ?_⟩
  · exact ((below_then HA.out HB3.out).setCell (p := ⟨w.heap.size, 0, none⟩) (Nat.le_refl _) _).setCell (p := ⟨w.heap.size, 1, none⟩) (Nat.le_refl _) _

theorem dtx_ne {n : Int} (h0 : 0 ≤ n) (h1 : n ≤ 73048) : dtx n ≠ [] := by
  obtain ⟨y, m, d, _, _, e⟩ := dtx_ok h0 h1
  rw [e]
  intro h
  have := congrArg List.length h
  rw [txt_length] at this
  simp at this
theorem mtx_ne (m : Int × Int) : mtx m ≠ [] := by unfold mtx; simp
theorem items_sk (xs : List Int) (w : World) (h30 : xs.length ≤ 60) (hv : ∀ x ∈ xs, 0 ≤ x ∧ x ≤ 73048) :
    Calls Tryz.prog 141 #[.string (bs (Lib.join (xs.map dtx) [44]))] w fun r w' => ∃ v, r = .returned v ∧ Wds w' v (xs.map dtx) ∧ Below w.heap.size w w' := by
  refine itemsOf_any (xs.map dtx) w (fun y hy => ?_) (fun y hy => ?_) ?_
  · obtain ⟨x, _, rfl⟩ := List.mem_map.1 hy; exact dtx_no _ _ (by decide)
  · obtain ⟨x, hx, rfl⟩ := List.mem_map.1 hy; exact dtx_ne (hv x hx).1 (hv x hx).2
  · have := joinLen (xs.map dtx) [44] 10 (fun y hy => by obtain ⟨x, _, rfl⟩ := List.mem_map.1 hy; exact dtx_len x)
    rw [List.length_map] at this
    have h31 : xs.length * (10 + [(44 : UInt8)].length) ≤ 60 * 11 := Nat.mul_le_mul h30 (by simp)
    omega
theorem items_mv (xs : List (Int × Int)) (w : World) (h30 : xs.length ≤ 60) :
    Calls Tryz.prog 141 #[.string (bs (Lib.join (xs.map mtx) [44]))] w fun r w' => ∃ v, r = .returned v ∧ Wds w' v (xs.map mtx) ∧ Below w.heap.size w w' := by
  refine itemsOf_any (xs.map mtx) w (fun y hy => ?_) (fun y hy => ?_) ?_
  · obtain ⟨x, _, rfl⟩ := List.mem_map.1 hy; exact mtx_no _ _ (by decide)
  · obtain ⟨x, hx, rfl⟩ := List.mem_map.1 hy; exact mtx_ne x
  · have := joinLen (xs.map mtx) [44] 21 (fun y hy => by obtain ⟨x, _, rfl⟩ := List.mem_map.1 hy; exact mtx_len x)
    rw [List.length_map] at this
    have h31 : xs.length * (21 + [(44 : UInt8)].length) ≤ 60 * 22 := Nat.mul_le_mul h30 (by simp)
    omega

set_option maxHeartbeats 1600000 in
theorem areMoves_any (xs : List (Int × Int)) (w : World) (h30 : xs.length ≤ 60) :
    Calls Tryz.prog 109 #[.string (bs (Lib.join (xs.map mtx) [44]))] w fun r w' => r = .returned (.bool true) ∧ Below w.heap.size w w' := by
  have IT : Hid (Calls _ _ _ _ _) := items_mv xs w h30
  generalize bs (Lib.join (xs.map mtx) [44]) = sb at IT ⊢
  have CN : Hid (∀ (m : Int × Int) (W : World), Calls Tryz.prog 138 #[.string (bs (mtx m)), .string ⟨#[62]⟩] W fun r w' => r = .returned (.int .i64 1) ∧ w' = W) := fun m W => by
    have := Tryz.strings_Count_one (bs (mtx m)) 62 W
    unfold Lib.countByte at this
    rw [bs_data, mtx_count] at this
    exact this
  go_enter Tryz.func109, Tryz.ntmps109
  go_wp2_with (go_at_call 141; refine Calls.mono IT.out ?_; rintro r w1 ⟨v, rfl, hwd, hb1⟩; obtain ⟨wa, wc, rfl, hwl, hwcell⟩ := hwd)
  rw [List.length_map] at hwl
  have HC : Hid (_) := hwcell
  have HB1 : Hid (_) := hb1
  clear hwcell hb1 IT
  go_loopw [4, 8] (fun _ i wr => ∃ m : Nat, m ≤ xs.length ∧ i = .int .i64 m ∧ wr = w1) (fun _ i _ => xs.length - (intOf i).toNat)
  case atStart => exact ⟨0, Nat.zero_le _, rfl, rfl⟩
  case round =>
    obtain ⟨m, hm, rfl, rfl⟩ := hrel
    by_cases hlt : m < xs.length
    · obtain ⟨blk, rfl, hblk, hcl⟩ := HC.out m (by rw [List.length_map]; exact hlt)
      rw [List.getElem_map] at hcl
      unfold sv at hcl
      have C1 : Hid (_) := CN.out xs[m]
      generalize bs (mtx xs[m]) = bt at hcl C1
      clear HC CN
      go_wp2_with (go_at_call 138; refine Calls.mono (C1.out _) ?_; rintro r w' ⟨rfl, rfl⟩)
      go_roundw
      case rel => exact ⟨m + 1, by omega, by go_num, trivial⟩
      case measure => simp [intOf]; omega
    · clear HC
      go_wp2
      go_ret
      exact ⟨rfl, HB1.out⟩

set_option maxHeartbeats 1600000 in
set_option maxRecDepth 100000 in
theorem readListI_any (xs : List Int) (w : World) (h30 : xs.length ≤ 60) (hv : ∀ x ∈ xs, 0 ≤ x ∧ x ≤ 73048) :
    Calls Tryz.prog 112 #[.string (bs (Lib.join (xs.map dtx) [44])), .func (.func 110) #[] #[]] w fun r w' => ∃ v, r = .returned (.tuple #[v, .nilIface]) ∧ Ow w.heap.size w' v xs ∧ Below w.heap.size w w' := by
  obtain ⟨i0, hi, hz0, hz1, hz2⟩ := info_parts info_int
  have IT : Hid (Calls _ _ _ _ _) := items_sk xs w h30 hv
  generalize bs (Lib.join (xs.map dtx) [44]) = sb at IT ⊢
  have HV : Hid (_) := hv
  clear hv
  go_enter Tryz.func112, Tryz.ntmps112
  go_wp2_with (go_at_call 141; refine Calls.mono IT.out ?_; rintro r w1 ⟨v, rfl, hwd, hb1⟩; obtain ⟨wa, wc, rfl, hwl, hwcell⟩ := hwd)
  rw [List.length_map] at hwl
  have HC : Hid (_) := hwcell
  have HB1 : Hid (_) := hb1
  clear hwcell hb1 IT
  go_loopw [6, 8, 9, 10, 14] (fun ov _ _ _ i wr => ∃ m : Nat, m ≤ xs.length ∧ i = .int .i64 m ∧ Hid (Below w1.heap.size w1 wr) ∧ Hid (Ow w1.heap.size wr ov (xs.take m))) (fun _ _ _ _ i _ => xs.length - (intOf i).toNat)
  case atStart => exact ⟨0, Nat.zero_le _, rfl, Below.refl _ _, Ow.nil _ _⟩
  case round =>
    obtain ⟨m, hm, rfl, HB, HO⟩ := hrel
    by_cases hlt : m < xs.length
    · obtain ⟨blk, rfl, hblk, hcl⟩ := HC.out m (by rw [List.length_map]; exact hlt)
      rw [List.getElem_map] at hcl
      unfold sv at hcl
      have hc1 := cell_step hcl HB.out
      have HN : Hid (xs.take (m + 1) = xs.take m ++ [xs[m]]) := List.take_succ_eq_append_getElem hlt
      have hob : (xs.take m).length ≤ 60 := by simp; omega
      obtain ⟨v1, v2⟩ := HV.out xs[m] (List.getElem_mem hlt)
      have C1 : Hid (Calls _ _ _ _ _) := readDay_any xs[m] wr v1 v2
      generalize bs (dtx xs[m]) = bt at hc1 C1
      clear HC hcl HV v1 v2
      generalize xs[m] = x at HN C1
      generalize xs.take m = o at HO HN hob
      obtain ⟨oa, oc, rfl⟩ := ow_form HO.out
      have hzr : w1.heap.size ≤ wr.heap.size := HB.out.size
      go_upto_region 9 with (first
        | (go_at_call 110; refine Calls.mono C1.out ?_; rintro r w2 ⟨rfl, hb2⟩; have OW1 : Hid (Ow w1.heap.size (w2.alloc (.cells #[.int .i64 x] 3)) (.slice oa o.length oc) o) := Ow.step HO.out (below_then hb2 (below_alloc _ _)); have NC : Hid (_) := one_cell w2 x; have hzq : w1.heap.size ≤ w2.heap.size := Nat.le_trans hzr hb2.size; have HB2 : Hid (_) := hb2; clear hb2)
        | (at_builtin; refine wpList_append_own _ rfl _ _ 39 rfl w1.heap.size 3 i0 (.int .i64 0) 1 8 Tryz.underlying39 hi hz0 hz1 hz2 rfl (by decide) _ _ _ rfl OW1.out ⟨w2.heap.size, 0, none⟩ 1 1 [.int .i64 x] rfl rfl NC.out (fun v hv => by rw [List.mem_singleton.1 hv]; rfl) (by unfold maxLen; omega) (by omega) (by simp; omega) ?_; intro v' w3 hown' hgrow _; obtain ⟨g', cap', rfl⟩ := ownsRow_succ hown')
        | go_in)
      have OW2 : Hid (Ow w1.heap.size w3 (.slice (some ⟨g', 0, none⟩) (o.length + 1) cap') (o ++ [x])) := by
        show World.ownsRow _ _ _ _ _ _ _
        rw [List.length_append, List.map_append]
        exact hown'
      have HB3 : Hid (Below w1.heap.size w1 w3) := (below_then HB.out (below_then HB2.out (below_alloc w2 (.cells #[.int .i64 x] 3)))).grown (show (w2.alloc (.cells #[.int .i64 x] 3)).grownBy w3 (Value.slice oa o.length oc).ownBlock from hgrow) (by rw [World.size_alloc]; omega) (fun k q => (World.ownsRow.lt OW1.out k q).1)
      clear hown' hgrow OW1 NC HO HB HB2
      go_wp2
      go_roundw
      case rel => exact ⟨m + 1, by omega, by go_num, HB3.out, by rw [HN.out]; exact OW2.out⟩
      case measure => simp [intOf]; omega
    · have HE : Hid (xs.take m = xs) := List.take_of_length_le (by omega)
      rw [HE.out] at HO
      obtain ⟨oa, oc, rfl⟩ := ow_form HO.out
      clear HC
      go_wp2
      go_ret2
      exact ⟨_, rfl, own_base HO.out HB1.out.size, HB1.out.trans (HB.out.mono HB1.out.size)⟩

theorem two_cell (w : World) (a b : Int) : ∀ (j : Nat) (v : Value), (mcells [(a, b)])[j]? = some v → (w.alloc (.cells #[.int .i64 a, .int .i64 b] 72)).cell? ((⟨w.heap.size, 0, none⟩ : Addr).add j) = some v := fun j v hv => by
  rw [Addr.add_lit, Nat.zero_add, World.cell?_alloc_new]
  have : mcells [(a, b)] = [.int .i64 a, .int .i64 b] := rfl
  rw [this] at hv
  simpa using hv
theorem mcells_app (xs ys : List (Int × Int)) : mcells (xs ++ ys) = mcells xs ++ mcells ys := by
  induction xs with
  | nil => rfl
  | cons x r ih => show _ :: _ :: mcells (r ++ ys) = _; rw [ih]; rfl

set_option maxHeartbeats 1600000 in
set_option maxRecDepth 100000 in
theorem readListM_any (xs : List (Int × Int)) (w : World) (h30 : xs.length ≤ 60) (hv : ∀ m ∈ xs, (0 ≤ m.1 ∧ m.1 ≤ 73048) ∧ 0 ≤ m.2 ∧ m.2 ≤ 73048) :
    Calls Tryz.prog 113 #[.string (bs (Lib.join (xs.map mtx) [44])), .func (.func 114) #[] #[]] w fun r w' => ∃ v, r = .returned (.tuple #[v, .nilIface]) ∧ OwM w.heap.size w' v xs ∧ Below w.heap.size w w' := by
  obtain ⟨i1, hi1, hy0, hy1, hy2⟩ := info_parts info_move
  have IT : Hid (Calls _ _ _ _ _) := items_mv xs w h30
  generalize bs (Lib.join (xs.map mtx) [44]) = sb at IT ⊢
  have HV : Hid (_) := hv
  clear hv
  go_enter Tryz.func113, Tryz.ntmps113
  go_wp2_with (go_at_call 141; refine Calls.mono IT.out ?_; rintro r w1 ⟨v, rfl, hwd, hb1⟩; obtain ⟨wa, wc, rfl, hwl, hwcell⟩ := hwd)
  rw [List.length_map] at hwl
  have HC : Hid (_) := hwcell
  have HB1 : Hid (_) := hb1
  clear hwcell hb1 IT
  go_loopw [6, 8, 9, 10, 14] (fun ov _ _ _ i wr => ∃ m : Nat, m ≤ xs.length ∧ i = .int .i64 m ∧ Hid (Below w1.heap.size w1 wr) ∧ Hid (OwM w1.heap.size wr ov (xs.take m))) (fun _ _ _ _ i _ => xs.length - (intOf i).toNat)
  case atStart => exact ⟨0, Nat.zero_le _, rfl, Below.refl _ _, World.ownsRow_nil _ _ _ _⟩
  case round =>
    obtain ⟨m, hm, rfl, HB, HO⟩ := hrel
    by_cases hlt : m < xs.length
    · obtain ⟨blk, rfl, hblk, hcl⟩ := HC.out m (by rw [List.length_map]; exact hlt)
      rw [List.getElem_map] at hcl
      unfold sv at hcl
      have hc1 := cell_step hcl HB.out
      have HN : Hid (xs.take (m + 1) = xs.take m ++ [xs[m]]) := List.take_succ_eq_append_getElem hlt
      have hob : (xs.take m).length ≤ 60 := by simp; omega
      obtain ⟨⟨v1, v2⟩, v3, v4⟩ := HV.out xs[m] (List.getElem_mem hlt)
      clear HC hcl HV
      generalize xs[m] = x at HN hc1 v1 v2 v3 v4
      obtain ⟨xa, xb⟩ := x
      have C1 : Hid (Calls _ _ _ _ _) := readMove_any xa xb wr v1 v2 v3 v4
      generalize bs (mtx (xa, xb)) = bt at hc1 C1
      clear v1 v2 v3 v4
      generalize xs.take m = o at HO HN hob
      obtain ⟨oa, oc, rfl⟩ := gotM_form (owm_movs HO.out (by omega)).2
      have hzr : w1.heap.size ≤ wr.heap.size := HB.out.size
      go_upto_region 6 with (go_at_call 114; refine Calls.mono C1.out ?_; rintro r w2 ⟨rfl, hb2⟩)
      have hn0 : (w2.alloc (.cells #[.int .i64 xa, .int .i64 xb] 72)).cell? ⟨w2.heap.size, 0, none⟩ = some (.int .i64 xa) := by rw [World.cell?_alloc_new]; rfl
      have hn1 : (w2.alloc (.cells #[.int .i64 xa, .int .i64 xb] 72)).cell? ⟨w2.heap.size, 1, none⟩ = some (.int .i64 xb) := by rw [World.cell?_alloc_new]; rfl
      have HB2 : Hid (Below wr.heap.size wr (w2.alloc (.cells #[.int .i64 xa, .int .i64 xb] 72))) := below_then hb2 (below_alloc _ _)
      clear hb2 C1 hc1
      generalize w2.alloc (.cells #[.int .i64 xa, .int .i64 xb] 72) = wq at hn0 hn1 HB2
      have OW1 : Hid (OwM w1.heap.size (wq.alloc (.cells #[.int .i64 xa, .int .i64 xb] 72)) (.slice oa o.length oc) o) := own_step HO.out (below_then HB2.out (below_alloc _ _))
      have NC : Hid (_) := two_cell wq xa xb
      have hzq : w1.heap.size ≤ wq.heap.size := Nat.le_trans hzr HB2.out.size
      go_upto_region 9 with (first
        | (at_builtin; refine wpList_append_own _ rfl _ _ 42 rfl w1.heap.size 72 i1 (.agg #[.int .i64 0, .int .i64 0]) 2 16 Tryz.underlying42 hi1 hy0 hy1 hy2 rfl (by decide) _ _ _ rfl OW1.out ⟨wq.heap.size, 0, none⟩ 1 1 (mcells [(xa, xb)]) rfl rfl NC.out (mcells_one _) (by unfold maxLen; omega) (by omega) (by simp; omega) ?_; intro v' w3 hown' hgrow _; obtain ⟨g', cap', rfl⟩ := ownsRow_succ hown')
        | go_in)
      have OW2 : Hid (OwM w1.heap.size w3 (.slice (some ⟨g', 0, none⟩) (o.length + 1) cap') (o ++ [(xa, xb)])) := by
        show World.ownsRow _ _ _ _ _ _ _
        rw [List.length_append, mcells_app]
        exact hown'
      have HB3 : Hid (Below w1.heap.size w1 w3) := (below_then HB.out (below_then HB2.out (below_alloc wq (.cells #[.int .i64 xa, .int .i64 xb] 72)))).grown (show (wq.alloc (.cells #[.int .i64 xa, .int .i64 xb] 72)).grownBy w3 (Value.slice oa o.length oc).ownBlock from hgrow) (by rw [World.size_alloc]; omega) (fun k q => (World.ownsRow.lt OW1.out k q).1)
      clear hown' hgrow OW1 NC HO HB HB2
      go_wp2
      go_roundw
      case rel => exact ⟨m + 1, by omega, by go_num, HB3.out, by rw [HN.out]; exact OW2.out⟩
      case measure => simp [intOf]; omega
    · have HE : Hid (xs.take m = xs) := List.take_of_length_le (by omega)
      rw [HE.out] at HO
      obtain ⟨oa, oc, rfl⟩ := gotM_form (owm_movs HO.out (by omega)).2
      clear HC
      go_wp2
      go_ret2
      exact ⟨_, rfl, own_base HO.out HB1.out.size, HB1.out.trans (HB.out.mono HB1.out.size)⟩
end Go.Proofs.YtekminpoiokgfaaGreatDoor
